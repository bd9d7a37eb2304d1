/-
  Texts in one: LookWith, NamePlain, NamePut, AstArrAt, Words.
-/
import Derived.Test.YtfoghiminlbdaaaGreatP02ofRun
import Derived.RangeFuncNested
import Derived.RangeFuncBound
import Derived.RangeFuncCalls
import Derived.RangeFuncLeaves
import Derived.Shelf.Abstract
import Derived.Shelf.RegionOpen
import Derived.OwnWalkIn
import Derived.TacticsInMore
import Derived.LoopNIn
import Derived.LoopIn
import Derived.RangeFuncBox
import Derived.Test.YtfoghiminlbdaaaGreatP00ofRun
import Derived.Sort.Walk0
import Derived.Sort.KeysCollected
import Derived.Test.YtfoghiminlbdaaaGreatP03ofRun
import Derived.Test.YtfoghiminlbdaaaGreatRows
import Derived.WalkKit
import Derived.WalkLawsBesides
import Derived.Laws.BitsLemmas
namespace Go.Proofs.YtfoghiminlbdaaaGreat
open Go.RowKit Go.Lib Go.Shelf
set_option linter.unusedSimpArgs false
set_option linter.unusedVariables false
attribute [local go_sem] Oper.semAt_some
def bindOf : List AR → ByteArray → Option Int
  | [], _ => none
  | b :: bs, s => if b.s = s then some b.n else bindOf bs s
def withN (bs : List AR) (nm : ByteArray → Int) (s : ByteArray) : Int := (bindOf bs.reverse s).getD (nm s)
structure Lk (fv : Value) (J : World → Prop) (nm : ByteArray → Int) : Prop where
  is : ∃ (kf : Nat) (caps : Array Value), fv = .func (.func kf) #[] caps ∧ (∀ (args : Array Value) (w : World), (callFunc kf args).run Tryz.prog w = .ok (.enter kf args) w) ∧
    ∀ w, J w → ∀ s, Calls Tryz.prog kf (#[.string s] ++ caps) w fun e w' => e = .returned (.int .i64 (nm s)) ∧ Below w.heap.size w w'
  on : ∀ w w', J w → Below w.heap.size w w' → J w'
def bw (bs : List AR) (k : Nat) : List (Nat × AR) := (List.range k).map fun j => (bs.length - 1 - j, bs[bs.length - 1 - j]?.getD ⟨⟨#[]⟩, 0⟩)
theorem bw_succ (bs : List AR) (k : Nat) : bw bs (k + 1) = bw bs k ++ [(bs.length - 1 - k, bs[bs.length - 1 - k]?.getD ⟨⟨#[]⟩, 0⟩)] := by simp [bw, List.range_succ]
theorem bw_len (bs : List AR) (k : Nat) : (bw bs k).length = k := by simp [bw]
abbrev bencs (x : Nat × AR) : Array Value := #[.int .i64 (x.1 : Int), .agg #[.string x.2.s, .int .i64 x.2.n]]
set_option maxRecDepth 100000 in
set_option maxHeartbeats 2000000 in
theorem bw1_in (l Bs n₀ : Nat) (bs : List AR) (hlen : bs.length ≤ 100000000) (sv : Value) (J Jx : List (Nat × AR) → World → Prop)
    (hY : ∀ pre (x : Nat × AR) W, J pre W → pre.length < bs.length → YieldAt Fence.wide 1 Tryz.prog l #[.int .i64 (x.1 : Int), .agg #[.string x.2.s, .int .i64 x.2.n]] W fun e W' =>
      (e = .returned (.bool true) ∧ J (pre ++ [x]) W' ∧ Below n₀ W W') ∨ (e = .returned (.bool false) ∧ Jx (pre ++ [x]) W'))
    (W : World) (hBs : W.cell? ⟨Bs, 0, Option.none⟩ = some sv) (hBn : Bs < n₀) (hAV : AV W 0 sv bs) (hAn : ∀ k, sv.ownBlock = some k → bs ≠ [] → k < n₀) (h0 : J [] W) :
    CallsIn Fence.wide 2 Tryz.prog 157 #[.func (.yield l) #[] #[], .pointer (some ⟨Bs, 0, Option.none⟩)] W fun e W' => (∃ v, e = .returned v) ∧
      ((∃ ys, ys = bw bs bs.length ∧ J ys W') ∨ (∃ pre, (∃ k, k ≤ bs.length ∧ pre = bw bs k) ∧ Jx pre W')) := by
  obtain ⟨ao, cap, rfl, hr⟩ := hAV
  refine callsIn_of_wp Tryz.func157 rfl trivial ?_ rfl
  simp only [Tryz.ntmps157, List.size_toArray, List.length_cons, List.length_nil, Nat.reduceAdd, Nat.reduceSub, Array.replicate_succ, Array.replicate_zero, List.push_toArray, List.append_toArray, List.nil_append, List.cons_append]
  gi_wp2
  gi_loopw [3] (fun i wr => ∃ k : Nat, k ≤ bs.length ∧ i = .int .i64 ((bs.length : Int) - 1 - (k : Int)) ∧ J (bw bs k) wr ∧ Below n₀ W wr)
    (fun i _ => (RowKit.intOf i + 1).toNat)
  case atStart => exact ⟨0, Nat.zero_le _, by simp, h0, Below.refl _ _⟩
  case round =>
    obtain ⟨k, hk, rfl, hJs, hnx⟩ := hrel
    have hBs' := (hnx.cell (p := ⟨Bs, 0, Option.none⟩) hBn).trans hBs
    by_cases hlt : k < bs.length
    · obtain ⟨b, hb⟩ : ∃ b, bs[bs.length - 1 - k]? = some b := ⟨bs[bs.length - 1 - k], List.getElem?_eq_getElem (by omega)⟩
      rcases hr with hr | ⟨g, off, rfl, _, gl, hc⟩
      · subst hr; simp at hlt
      obtain ⟨m, hm⟩ : ∃ m : Nat, m = bs.length - 1 - k := ⟨_, rfl⟩
      have hmI : (bs.length : Int) - 1 - (k : Int) = (m : Int) := by omega
      have hmlt : (m : Int) < (bs.length : Int) := by omega
      have hm0 : ¬ ((m : Int) < 0) := by omega
      have hgn : g < n₀ := hAn g rfl (fun e => by subst e; simp at hlt)
      have hc0 : wr.cell? ⟨g, off + m * 2, Option.none⟩ = some (.string b.s) := by rw [hm]; exact (hnx.cell (p := ⟨g, off + (bs.length - 1 - k) * 2, Option.none⟩) hgn).trans (hc _ b hb).1
      have hc1 : wr.cell? ⟨g, off + m * 2 + 1, Option.none⟩ = some (.int .i64 b.n) := by rw [hm]; exact (hnx.cell (p := ⟨g, off + (bs.length - 1 - k) * 2 + 1, Option.none⟩) hgn).trans (hc _ b hb).2
      have HS : Hid (bw bs (k + 1) = bw bs k ++ [(m, b)]) := show bw bs (k + 1) = bw bs k ++ [(m, b)] by rw [bw_succ, hb, hm]; rfl
      obtain ⟨fn, tmps, assign, body, hy, hR⟩ := hY _ (m, b) wr hJs (by rw [bw_len]; exact hlt)
      dsimp only at hy
      rw [hmI]
      have HM := hid (And.intro hm hmI)
      clear hm hmI hc hb hJs
      gi_wp2
      refine hR.mono ?_
      rintro e W3 (⟨rfl, hJ3, hk3⟩ | ⟨rfl, hJx3⟩)
      · rw [← HS.out] at hJ3
        have HJ3 := hid hJ3
        clear hJ3
        gi_wp2
        go_roundw
        case rel => exact ⟨k + 1, by omega, val_intA (by have := HM.out.2; omega), HJ3.out, hnx.trans hk3⟩
        case measure => simp [RowKit.intOf]; try omega
      · rw [← HS.out] at hJx3
        have HJx3 := hid hJx3
        clear hJx3
        gi_wp2
        refine bodyPost_ret (results_none rfl _ _ _) rfl ?_
        exact ⟨⟨_, rfl⟩, .inr ⟨_, ⟨k + 1, by omega, rfl⟩, HJx3.out⟩⟩
    · obtain rfl : k = bs.length := by omega
      have h1 : (bs.length : Int) - 1 - (bs.length : Int) = -1 := by omega
      rw [h1]
      gi_wp2
      go_end0
      exact ⟨⟨_, rfl⟩, .inl ⟨_, rfl, hJs⟩⟩
set_option maxHeartbeats 1000000 in
theorem bw_in (n : Nat) (sv : Value) (hs : ∃ a len cap, sv = .slice a len cap) (w : World) :
    CallsIn Fence.wide n Tryz.prog 106 #[sv] w fun e w' => e = .returned (.func (.func 157) #[] #[.pointer (some ⟨w.heap.size, 0, Option.none⟩)]) ∧ w' = w.alloc (.cells #[sv] 40) := by
  obtain ⟨a, len, cap, rfl⟩ := hs
  refine callsIn_of_wp Tryz.func106 rfl trivial ?_ rfl
  simp only [Tryz.ntmps106, List.size_toArray, List.length_cons, List.length_nil, Nat.reduceAdd, Nat.reduceSub, Array.replicate_succ, Array.replicate_zero, List.push_toArray, List.append_toArray, List.nil_append, List.cons_append]
  gi_wp2
  go_ret
  exact ⟨rfl, rfl⟩
theorem bw_stops (Bs n₀ : Nat) (bs : List AR) (hlen : bs.length ≤ 100000000) (sv : Value) (w : World) (hn₀ : n₀ ≤ w.heap.size) (hBn : Bs < n₀) (hc : w.cell? ⟨Bs, 0, Option.none⟩ = some sv) (hAV : AV w 0 sv bs) (hAn : ∀ k, sv.ownBlock = some k → bs ≠ [] → k < n₀) :
    SeqStopsK Fence.wide 2 Tryz.prog 157 #[.pointer (some ⟨Bs, 0, Option.none⟩)] bencs (Below n₀) (fun ys => ys = bw bs bs.length) (fun pre => ∃ k, k ≤ bs.length ∧ pre = bw bs k) bs.length w := fun l J Jx W hW _ _ hY h0 =>
  bw1_in l Bs n₀ bs hlen sv J Jx hY W ((hW.cell (p := ⟨Bs, 0, Option.none⟩) (Nat.lt_of_lt_of_le hBn hn₀)).trans hc) hBn (hAV.later hW) hAn h0
def noneOf (s : ByteArray) (pre : List (Nat × AR)) : Prop := ∀ x ∈ pre, ¬ x.2.s = s
theorem bind_none (bs : List AR) (s : ByteArray) : ∀ k, k ≤ bs.length → noneOf s (bw bs k) → bindOf bs.reverse s = bindOf (bs.reverse.drop k) s
  | 0, _, _ => by simp
  | k + 1, hk, h => by
    rw [bw_succ] at h
    have ih := bind_none bs s k (by omega) (fun x hx => h x (List.mem_append_left _ hx))
    rw [ih]
    have hkr : k < bs.reverse.length := by simp; omega
    rw [List.drop_eq_getElem_cons hkr, bindOf]
    have h1 := h (bs.length - 1 - k, bs[bs.length - 1 - k]?.getD ⟨⟨#[]⟩, 0⟩) (List.mem_append_right _ (by simp))
    rw [List.getElem?_eq_getElem (l := bs) (i := bs.length - 1 - k) (by omega)] at h1
    have e : bs.reverse[k] = bs[bs.length - 1 - k] := by simp [List.getElem_reverse]
    rw [e]
    exact if_neg h1
theorem bind_all {bs : List AR} {s : ByteArray} (h : noneOf s (bw bs bs.length)) : bindOf bs.reverse s = none := by
  rw [bind_none bs s _ (Nat.le_refl _) h, List.drop_of_length_le (by simp)]; rfl
theorem bind_hit {bs : List AR} {s : ByteArray} {pre : List (Nat × AR)} {x : Nat × AR} {k : Nat} (hk : k ≤ bs.length) (e : pre ++ [x] = bw bs k) (h : noneOf s pre) (hx : x.2.s = s) : bindOf bs.reverse s = some x.2.n := by
  cases k with
  | zero => simp [bw] at e
  | succ k =>
    rw [bw_succ] at e
    obtain ⟨e1, e2⟩ := List.append_inj' e rfl
    subst e1
    rw [bind_none bs s k (by omega) h]
    have hkr : k < bs.reverse.length := by simp; omega
    rw [List.drop_eq_getElem_cons hkr, bindOf]
    have e3 : bs.reverse[k] = bs[bs.length - 1 - k] := by simp [List.getElem_reverse]
    simp only [List.cons.injEq, and_true] at e2
    rw [List.getElem?_eq_getElem (l := bs) (i := bs.length - 1 - k) (by omega)] at e2
    rw [e3, if_pos (by rw [e2] at hx; exact hx), e2]; rfl
theorem ownC {β : Type} {B N : Nat} {ar : Array Value} {t : TypeId} : OwnFrom B (fun (_ : β) W => W.heap[N]? = some (.cells ar t (0, 0))) := fun s W W' row hs hg hr =>
  (hg.block N (Array.getElem?_eq_some_iff.1 hs).1 (fun e => by obtain ⟨_, o, ho, hc⟩ := hr N e.symm; rw [hs] at ho; cases ho; simp [Obj.isCells] at hc)).trans hs
theorem blkAlloc {W : World} {N : Nat} {o o' : Obj} (h : W.heap[N]? = some o) : (W.alloc o').heap[N]? = some o := (Below.heap_alloc W o' N (Array.getElem?_eq_some_iff.1 h).1).trans h
set_option maxRecDepth 100000 in
set_option maxHeartbeats 4000000 in
theorem with1_is (bs : List AR) (hlen : bs.length ≤ 100000000) (sv fv : Value) (J : World → Prop) (nm : ByteArray → Int) (hL : Lk fv J nm) (s : ByteArray) (pb po : Nat) (w : World) (hJ : J w) (hb : w.cell? ⟨pb, 0, Option.none⟩ = some sv) (ho : w.cell? ⟨po, 0, Option.none⟩ = some fv) (hAV : AV w 0 sv bs) :
    Calls Tryz.prog 105 #[.string s, .pointer (some ⟨pb, 0, Option.none⟩), .pointer (some ⟨po, 0, Option.none⟩)] w fun e w' => e = .returned (.int .i64 (withN bs nm s)) ∧ Below w.heap.size w w' := by
  obtain ⟨kf, caps, rfl, hent, hcall⟩ := hL.is
  have HC := hid hcall
  have HON := hid hL.on
  have HJ := hid hJ
  obtain ⟨ao, cap, hsv⟩ := hAV.shape
  refine (callsIn_wide (n := 3)).1 ?_
  refine callsIn_of_wp_marks Tryz.func105 rfl trivial ?_ rfl
  simp only [Tryz.ntmps105, List.size_toArray, List.length_cons, List.length_nil, Nat.reduceAdd, Nat.reduceSub, Array.replicate_succ, Array.replicate_zero, List.push_toArray, List.append_toArray, List.nil_append, List.cons_append]
  have HAV := hid hAV
  have HB := hid hb
  have HO := hid ho
  rw [hsv] at hb HAV HB
  have hb2 : ((w.alloc (.cells #[.string s] 9)).alloc (.cells #[.int .i64 0] 3)).cell? ⟨pb, 0, Option.none⟩ = some (.slice ao bs.length cap) := keeps ((alloc_below w _).alloc (by simp) _) hb
  have hsvn : ∀ k, (Value.slice ao bs.length cap).ownBlock = some k → bs ≠ [] → k < w.heap.size := fun k hk hne => by
    obtain ⟨ao', cap', e, h⟩ := HAV.out
    injection e with e
    subst e
    rcases h with h | ⟨g, off, e1, _, e3, _⟩
    · exact absurd h hne
    · rw [e1] at hk; injection hk with hk; rw [← hk]; exact e3
  clear hcall hL hJ hAV ho hsv hb
  gi_wp2_with (refine ⟨trivial, ?_⟩; gi_at_call 106; refine (bw_in _ _ ⟨_, _, _, rfl⟩ _).mono ?_; rintro e w' ⟨rfl, rfl⟩)
  have hB0 : Below w.heap.size w (((w.alloc (.cells #[.string s] 9)).alloc (.cells #[.int .i64 0] 3)).alloc (.cells #[.slice ao bs.length cap] 40)) := ((alloc_below w _).alloc (by simp) _).alloc (by simp; omega) _
  obtain ⟨d0, d1, d2⟩ := heap3 w (.cells #[.string s] 9) (.cells #[.int .i64 0] 3) (.cells #[.slice ao bs.length cap] 40)
  have hsz : (((w.alloc (.cells #[.string s] 9)).alloc (.cells #[.int .i64 0] 3)).alloc (.cells #[.slice ao bs.length cap] 40)).heap.size = w.heap.size + 3 := by simp
  obtain ⟨W0, hW0⟩ : ∃ W0, ((w.alloc (.cells #[.string s] 9)).alloc (.cells #[.int .i64 0] 3)).alloc (.cells #[.slice ao bs.length cap] 40) = W0 := ⟨_, rfl⟩
  rw [hW0] at hB0 d0 d1 d2 hsz ⊢
  clear hW0 hb2
  have hc2 : W0.cell? ⟨w.heap.size + 2, 0, Option.none⟩ = some (.slice ao bs.length cap) := by simp [World.cell?, d2]
  refine wpIn_rangeFunc_ownH rfl (by omega) (gf := 157) (lb := #[.pointer (some ⟨w.heap.size + 1 + 1, 0, Option.none⟩)]) rfl trivial (enters_of Tryz.func157 (by kernel_rfl) rfl)
    (bw_stops (w.heap.size + 1 + 1) (w.heap.size + 3) bs hlen (.slice ao bs.length cap) W0 (by omega) (by omega) hc2 (HAV.out.later hB0) (fun k hk hne => by have := hsvn k hk hne; omega)) belowK_t (belowK_b (by omega)) (Below.refl _ _) (fun _ => rfl)
    (fun pre W => noneOf s pre ∧ ((W.heap[w.heap.size]? = some (.cells #[.string s] 9 (0, 0)) ∧ (W.heap[w.heap.size + 1]? = some (.cells #[.int .i64 0] 3 (0, 0)) ∧ W.heap[w.heap.size + 2]? = some (.cells #[.slice ao bs.length cap] 40 (0, 0)))) ∧ Below w.heap.size w W))
    (fun c pre W => (c = .ret ∧ ∃ pre' x, pre = pre' ++ [x] ∧ noneOf s pre' ∧ x.2.s = s ∧ W.heap[w.heap.size + 1]? = some (.cells #[.int .i64 x.2.n] 3 (0, 0))) ∧ Below w.heap.size w W)
    (OwnFrom.and (ownFrom_pure _ _) (OwnFrom.and (OwnFrom.and ownC (OwnFrom.and ownC ownC)) (ownFrom_below (Nat.le_refl _) (by omega))))
    (fun c => OwnFrom.and (fun s' W W' row hs hg hr => by obtain ⟨e1, pre', x, e2, e3, e4, e5⟩ := hs; exact ⟨e1, pre', x, e2, e3, e4, ownC (β := Unit) () W W' row e5 hg hr⟩) (ownFrom_below (Nat.le_refl _) (by omega)))
    ⟨fun x hx => by simp at hx, ⟨d0, d1, d2⟩, hB0⟩
    (fun x a' W => ∃ Bx, w.heap.size + 2 < Bx ∧ W.heap[Bx]? = some (.cells #[.string x.2.s, .int .i64 x.2.n] 85 (0, 0)) ∧ a' = { tmps := #[.string s, .pointer (some ⟨pb, 0, Option.none⟩), .pointer (some ⟨po, 0, Option.none⟩), .pointer (some ⟨w.heap.size, 0, Option.none⟩), .pointer (some ⟨w.heap.size + 1, 0, Option.none⟩), undef, .pointer (some ⟨Bx, 0, Option.none⟩), .slice ao bs.length cap, .func (.func 157) #[] #[.pointer (some ⟨w.heap.size + 1 + 1, 0, Option.none⟩)], .int .i64 (x.1 : Int), .agg #[.string x.2.s, .int .i64 x.2.n], undef, undef, undef, undef, undef, undef, undef, undef, undef], defers := [] })
    (fun x a' _ X Y row hs hg hr => by obtain ⟨Bx, h1, h2, h3⟩ := hs; exact ⟨Bx, h1, ownC (β := Unit) () X Y row h2 hg hr, h3⟩)
    ?assign ?body ?done ?stop
  case assign =>
    rintro l pre x W K ⟨hn, ⟨e0, e1, e2⟩, hB1⟩ hK
    have hl2 := (Array.getElem?_eq_some_iff.1 e2).1
    gi_wp2
    exact hK _ _ ((KeepsOthers.alloc _ _).from _) ((Below.refl _ W).alloc (by omega) _) ⟨hn, ⟨blkAlloc e0, blkAlloc e1, blkAlloc e2⟩, hB1.alloc hB1.size _⟩ ⟨W.heap.size, hl2, (by show (W.heap.push _)[W.heap.size]? = _; simp), rfl⟩
  case body =>
    rintro l pre x a' W hl _ ⟨hn, ⟨e0, e1, e2⟩, hB1⟩ ⟨Bx, hBx, bX, rfl⟩ hlt
    obtain ⟨⟨q0, q1⟩, _⟩ := blk2 bX
    have c0 : W.cell? ⟨w.heap.size, 0, Option.none⟩ = some (.string s) := by simp [World.cell?, e0]
    have c1 : W.cell? ⟨w.heap.size + 1, 0, Option.none⟩ = some (.int .i64 0) := by simp [World.cell?, e1]
    have f1 : W.frozen? ⟨w.heap.size + 1, 0, Option.none⟩ = false := by simp [World.frozen?, e1]
    by_cases hx : x.2.s = s
    · have hN := hid (And.intro hn hx)
      have E1 := hid e1
      have HB1 := hid hB1
      rw [hx] at q0
      clear hn hx e0 e1 e2 hB1 bX
      gi_wp2
      refine ⟨(KeepsOthers.setCell _ _ _).from _, ⟨rfl, pre, x, rfl, hN.out.1, hN.out.2, ?_⟩, HB1.out.setCell (p := ⟨w.heap.size + 1, 0, Option.none⟩) (by simp) _⟩
      have := Go.heap_setCell_same W (w.heap.size + 1) 0 _ _ (.int .i64 x.2.n) E1.out
      rw [this]; rfl
    · have hN := hid (And.intro hn hx)
      have hxs := str_ne hx
      have E1 := hid (And.intro e0 (And.intro e1 e2))
      have HB1 := hid hB1
      clear hn hx e0 e1 e2 hB1 bX
      gi_wp2
      exact ⟨(KeepsOthers.refl _).from _, Below.refl _ _, ⟨(fun y hy => by
        rcases List.mem_append.1 hy with hy | hy
        · exact hN.out.1 y hy
        · simp at hy; subst hy; exact hN.out.2), E1.out, HB1.out⟩⟩
  case done =>
    rintro D zs W hD rfl ⟨hn, ⟨e0, e1, e2⟩, hB1⟩ hK
    have hval : Hid (withN bs nm s = nm s) := show withN bs nm s = nm s by rw [withN, bind_all hn]; rfl
    have c0 : W.cell? ⟨w.heap.size, 0, Option.none⟩ = some (.string s) := by simp [World.cell?, e0]
    have cO := keeps hB1 HO.out
    have JW := hid (HON.out _ _ HJ.out hB1)
    have E1 := hid e1
    have HB1 := hid hB1
    have HK := hid hK
    clear hn e0 e1 e2 hB1 hK
    gi_wp2_with fail
    refine ⟨trivial, (callsIn_wide.2 (HC.out W JW.out s)).mono ?_⟩
    rintro e w5 ⟨rfl, hb5⟩
    have E5 := (hb5.block _ (Array.getElem?_eq_some_iff.1 E1.out).1).trans E1.out
    have K5 := (hb5.block _ (Array.getElem?_eq_some_iff.1 HK.out).1).trans HK.out
    have B5 := hid (HB1.out.trans (hb5.mono HB1.out.size))
    have c1 : w5.cell? ⟨w.heap.size + 1, 0, Option.none⟩ = some (.int .i64 0) := by simp [World.cell?, E5]
    have f1 : w5.frozen? ⟨w.heap.size + 1, 0, Option.none⟩ = false := by simp [World.frozen?, E5]
    have HK5 := hid K5
    clear E5 K5 hb5 E1 HK HB1 c0 cO
    gi_wp2
    have hK' := (KeepsOthers.setCell w5 ⟨w.heap.size + 1, 0, Option.none⟩ (.int .i64 (nm s))).same D _ HK5.out rfl
    refine ⟨by simp, .inl ⟨_, _, rfl, run_takeDeferred hK', ?_⟩⟩
    have hc5 := cell_kept (World.cell?_setCell_same' w5 ⟨w.heap.size + 1, 0, Option.none⟩ (.int .i64 (nm s)) (by rw [c1]; rfl)) (grownBy_putObj' _ D (.deferred none)) (fun r e => by cases e; exact ⟨_, hK', rfl⟩)
    refine ⟨.int .i64 (nm s), ?_, ⟨by rw [hval.out], (B5.out.setCell (p := ⟨w.heap.size + 1, 0, Option.none⟩) (by simp) _).trans (belowK_b (w := w) (Nat.le_refl _) _ D _ _ (by omega) hK' rfl rfl)⟩⟩
    simp [results, Tryz.f105, go_sem, hc5]
  case stop =>
    rintro D c pre W hD hSp ⟨⟨rfl, pre', x, e2, e3, e4, e5⟩, hB1⟩ hK
    obtain ⟨k, hk, hpk⟩ := hSp
    have hval : withN bs nm s = x.2.n := by rw [withN, bind_hit hk (e2.symm.trans hpk) e3 e4]; rfl
    have c1 : W.cell? ⟨w.heap.size + 1, 0, Option.none⟩ = some (.int .i64 x.2.n) := by simp [World.cell?, e5]
    gi_wp2
    refine ⟨by simp, .inl ⟨_, _, rfl, run_takeDeferred hK, ?_⟩⟩
    have hc5 := cell_kept c1 (grownBy_putObj' _ D (.deferred none)) (fun r e => by cases e; exact ⟨_, hK, rfl⟩)
    refine ⟨.int .i64 x.2.n, ?_, ⟨by rw [hval], hB1.trans (belowK_b (w := w) (Nat.le_refl _) W D _ _ (by omega) hK rfl rfl)⟩⟩
    simp [results, Tryz.f105, go_sem, hc5]
theorem cell1 {W : World} {N : Nat} {v : Value} {t : TypeId} (h : W.heap[N]? = some (.cells #[v] t (0, 0))) : W.cell? ⟨N, 0, Option.none⟩ = some v := by simp [World.cell?, h]
theorem enters_with (args : Array Value) (w : World) : (callFunc 105 args).run Tryz.prog w = .ok (.enter 105 args) w := enters_of Tryz.func105 (by kernel_rfl) rfl args w
end Go.Proofs.YtfoghiminlbdaaaGreat
namespace Go.Proofs.YtfoghiminlbdaaaGreat
open Go.RowKit Go.Lib Go.Maps
set_option linter.unusedSimpArgs false
set_option linter.unusedVariables false
def blt (a b : ByteArray) : Bool := Op.bytesLess a.toList b.toList
theorem blt_iff (a b : ByteArray) : blt a b = true ↔ a.data.toList < b.data.toList := by
  unfold blt; rw [bytesLess_eq, ByteArray.toList_eq, ByteArray.toList_eq]; simp
theorem blt_irrefl (a : ByteArray) : blt a a = false := by
  cases h : blt a a with
  | false => rfl
  | true => exact absurd ((blt_iff a a).1 h) (List.lt_irrefl _)
theorem blt_trans {a b c : ByteArray} (h : blt a b = true) (g : blt b c = true) : blt a c = true := (blt_iff a c).2 (List.lt_trans ((blt_iff a b).1 h) ((blt_iff b c).1 g))
theorem ba_ext {a b : ByteArray} (h : a.data.toList = b.data.toList) : a = b := ByteArray.ext (Array.toList_inj.1 h)
theorem blt_total {a b : ByteArray} (h : blt a b = false) (hne : a ≠ b) : blt b a = true := by
  rw [blt_iff]
  have h1 : ¬ a.data.toList < b.data.toList := fun hh => by rw [(blt_iff a b).2 hh] at h; cases h
  have h2 : b.data.toList ≤ a.data.toList := List.not_lt.1 h1
  rcases List.le_iff_lt_or_eq.1 h2 with h3 | h3
  · exact h3
  · exact absurd (ba_ext h3).symm hne
def Asc (l : List ByteArray) : Prop := l.Pairwise (fun a b => blt a b = true)
theorem Asc.nodup {l : List ByteArray} (h : Asc l) : l.Nodup := List.Pairwise.imp (fun {a b} hab e => by subst e; rw [blt_irrefl] at hab; cases hab) h
theorem asc_ext {l m : List ByteArray} (hl : Asc l) (hm : Asc m) (h : ∀ b, b ∈ l ↔ b ∈ m) : l = m :=
  List.Perm.eq_of_pairwise (le := fun a b => blt a b = true) (fun a b _ _ h1 h2 => by have := blt_trans h1 h2; rw [blt_irrefl] at this; cases this) hl hm ((List.perm_ext_iff_of_nodup hl.nodup hm.nodup).2 h)
def putR (s : ByteArray) : Bool → List ByteArray → List ByteArray
  | d, [] => if d = true then [] else [s]
  | true, x :: r => if x = s then putR s true r else x :: putR s true r
  | false, x :: r => if blt x s = true then (if x = s then putR s false r else x :: putR s false r) else s :: (if x = s then putR s true r else x :: putR s true r)
theorem putR_true (s : ByteArray) : ∀ (l : List ByteArray) (b : ByteArray), b ∈ putR s true l ↔ b ∈ l ∧ b ≠ s
  | [], b => by simp [putR]
  | x :: r, b => by
    have ih := putR_true s r b
    rw [putR]
    by_cases hx : x = s
    · rw [if_pos hx, ih]
      constructor
      · rintro ⟨h1, h2⟩; exact ⟨List.mem_cons_of_mem _ h1, h2⟩
      · rintro ⟨h1, h2⟩
        rcases List.mem_cons.1 h1 with h1 | h1
        · exact absurd (h1.trans hx) h2
        · exact ⟨h1, h2⟩
    · rw [if_neg hx, List.mem_cons, ih, List.mem_cons]
      constructor
      · rintro (h | ⟨h1, h2⟩)
        · exact ⟨.inl h, by rw [h]; exact hx⟩
        · exact ⟨.inr h1, h2⟩
      · rintro ⟨h1 | h1, h2⟩
        · exact .inl h1
        · exact .inr ⟨h1, h2⟩
theorem asc_true (s : ByteArray) : ∀ (l : List ByteArray), Asc l → Asc (putR s true l)
  | [], _ => by simp [putR, Asc]
  | x :: r, h => by
    obtain ⟨h1, h2⟩ := List.pairwise_cons.1 h
    have ih := asc_true s r h2
    rw [putR]
    by_cases hx : x = s
    · rw [if_pos hx]; exact ih
    · rw [if_neg hx]; exact List.pairwise_cons.2 ⟨fun b hb => h1 b ((putR_true s r b).1 hb).1, ih⟩
theorem asc_put (s : ByteArray) : ∀ (l : List ByteArray), Asc l → Asc (putR s false l) ∧ ∀ b, b ∈ putR s false l ↔ (b = s ∨ b ∈ l)
  | [], _ => by simp [putR, Asc]
  | x :: r, h => by
    obtain ⟨h1, h2⟩ := List.pairwise_cons.1 h
    obtain ⟨i1, i2⟩ := asc_put s r h2
    rw [putR]
    cases hb : blt x s with
    | true =>
      have hx : ¬ x = s := fun e => by subst e; rw [blt_irrefl] at hb; cases hb
      rw [if_pos rfl, if_neg hx]
      refine ⟨List.pairwise_cons.2 ⟨fun b hbm => ?_, i1⟩, fun b => ?_⟩
      · rcases (i2 b).1 hbm with e | e
        · subst e; exact hb
        · exact h1 b e
      · rw [List.mem_cons, i2 b, List.mem_cons]
        constructor
        · rintro (e | e | e) <;> simp [e]
        · rintro (e | e | e) <;> simp [e]
    | false =>
      rw [if_neg (by simp)]
      by_cases hx : x = s
      · subst hx
        rw [if_pos rfl]
        refine ⟨List.pairwise_cons.2 ⟨fun b hbm => h1 b ((putR_true x r b).1 hbm).1, asc_true x r h2⟩, fun b => ?_⟩
        rw [List.mem_cons, putR_true, List.mem_cons]
        constructor
        · rintro (e | ⟨e, _⟩)
          · exact .inl e
          · exact .inr (.inr e)
        · rintro (e | e | e)
          · exact .inl e
          · exact .inl e
          · by_cases hbx : b = x
            · exact .inl hbx
            · exact .inr ⟨e, hbx⟩
      · have hsx := blt_total hb hx
        rw [if_neg hx]
        refine ⟨List.pairwise_cons.2 ⟨fun b hbm => ?_, List.pairwise_cons.2 ⟨fun b hbm => h1 b ((putR_true s r b).1 hbm).1, asc_true s r h2⟩⟩, fun b => ?_⟩
        · rcases List.mem_cons.1 hbm with e | e
          · rw [e]; exact hsx
          · exact blt_trans hsx (h1 b ((putR_true s r b).1 e).1)
        · rw [List.mem_cons, List.mem_cons, putR_true, List.mem_cons]
          constructor
          · rintro (e | e | ⟨e, _⟩)
            · exact .inl e
            · exact .inr (.inl e)
            · exact .inr (.inr e)
          · rintro (e | e | e)
            · exact .inl e
            · exact .inr (.inl e)
            · by_cases hbs : b = s
              · exact .inl hbs
              · exact .inr (.inr ⟨e, hbs⟩)
theorem putR_len (s : ByteArray) : ∀ (d : Bool) (l : List ByteArray), (putR s d l).length ≤ l.length + 1
  | true, [] => by simp [putR]
  | false, [] => by simp [putR]
  | true, x :: r => by
    have := putR_len s true r
    rw [putR]; split <;> simp only [List.length_cons] <;> omega
  | false, x :: r => by
    have h1 := putR_len s false r
    have h2 : (putR s true r).length ≤ r.length := by
      clear h1
      induction r with
      | nil => simp [putR]
      | cons y r ih => rw [putR]; split <;> simp only [List.length_cons] <;> omega
    rw [putR]; split <;> split <;> simp only [List.length_cons] <;> omega
def nmS (k : Int) : SF → List ByteArray → List ByteArray
  | .nil, out => out
  | .node _ _ h l r, out => nmS k r (nmS k l (if h.k = k then putR h.s false out else out))
def nmE (k : Int) : EF → List ByteArray → List ByteArray
  | .nil, out => out
  | .node _ _ h l r, out => nmE k r (nmE k l (if h.k = k then putR h.s false out else out))
def nmX (k : Int) (x : X) (out : List ByteArray) : List ByteArray := nmE k x.l (if x.h.k = k then putR x.h.s false out else out)
def nmA (k : Int) : SF → List ByteArray → List ByteArray
  | .nil, out => out
  | .node _ _ h l r, out => nmA k r (nmA k l (nmX k h.x4 (nmX k h.x3 (nmX k h.x2 (nmX k h.x1 out)))))
end Go.Proofs.YtfoghiminlbdaaaGreat
namespace Go.Proofs.YtfoghiminlbdaaaGreat
open Go.RowKit Go.Lib
set_option linter.unusedSimpArgs false
set_option linter.unusedVariables false
def TV (w : World) (lo : Nat) (v : Value) (ns : List ByteArray) : Prop :=
  ∃ ao cap, v = .slice ao ns.length cap ∧ (ns = [] ∨ ∃ g off, ao = some ⟨g, off, Option.none⟩ ∧ lo ≤ g ∧ g < w.heap.size ∧ ∀ i t, ns[i]? = some t → w.cell? ⟨g, off + i, Option.none⟩ = some (.string t))
theorem TV.same {w w' : World} {lo lo' : Nat} {v : Value} {ns : List ByteArray} (hlo : lo' ≤ lo) (h : TV w lo v ns) (hk : Keeps lo w w') (hz : w.heap.size ≤ w'.heap.size) : TV w' lo' v ns := by
  obtain ⟨ao, cap, hv, h⟩ := h
  refine ⟨ao, cap, hv, ?_⟩
  rcases h with h | ⟨g, off, h1, h0, h2, h3⟩
  · exact .inl h
  · exact .inr ⟨g, off, h1, Nat.le_trans hlo h0, Nat.lt_of_lt_of_le h2 hz, fun i t hi => hk _ _ h0 (h3 i t hi)⟩
theorem TV.later {w w' : World} {lo : Nat} {v : Value} {ns : List ByteArray} (h : TV w lo v ns) (hb : Below w.heap.size w w') : TV w' lo v ns := h.same (Nat.le_refl _) (Keeps.later hb) hb.size
theorem TV.low {w : World} {lo : Nat} {v : Value} {ns : List ByteArray} (h : TV w lo v ns) : TV w 0 v ns := h.same (Nat.zero_le _) (Keeps.refl _ _) (Nat.le_refl _)
theorem TV.shape {w : World} {lo : Nat} {v : Value} {ns : List ByteArray} (h : TV w lo v ns) : ∃ a c, v = .slice a ns.length c := by obtain ⟨a, c, h1, _⟩ := h; exact ⟨a, c, h1⟩
theorem TV.of {w : World} {B : Nat} {v : Value} {ns : List ByteArray} (h : w.ownsRow B 9 1 v ns.length (ns.map Value.string)) : TV w B v ns := by
  rcases h.2 with ⟨h0, h1⟩ | ⟨g, cap, cur, h1, h2, h3, h4⟩
  · exact ⟨Option.none, 0, by rw [h1]; exact h0, .inl (List.length_eq_zero_iff.1 h1)⟩
  · refine ⟨_, cap, h1, .inr ⟨g, 0, rfl, h2, lt_heap h3, fun i t hi => ?_⟩⟩
    have hc := h.cells (g := g) (by rw [h1]; rfl) i (.string t) (by rw [List.getElem?_map, hi]; rfl)
    have e : (⟨g, 0, Option.none⟩ : Addr).add i = ⟨g, i, Option.none⟩ := by simp [Addr.add]; omega
    rw [e] at hc
    rw [Nat.zero_add]; exact hc
theorem infoStr : (Tryz.prog.info? 9).map (fun i => (i.zero, i.size, i.bytes)) = some (some (.string ⟨#[]⟩), 1, 16) := by kernel_rfl
theorem newT (w : World) (u : Value) (t : TypeId) : ∀ j x, [u][j]? = some x → (w.alloc (.cells #[u] t)).cell? ((⟨w.heap.size, 0, Option.none⟩ : Addr).add j) = some x := new1 w u t
theorem snocT {w w5 w6 : World} {os : List ByteArray} {t v' : Value} {x : ByteArray} {o : Obj} (hown : w5.ownsRow w.heap.size 9 1 t os.length (os.map Value.string)) (hb : Below w.heap.size w w5) (hg : (w5.alloc o).grownBy w6 t.ownBlock)
    (h : w6.ownsRow w.heap.size 9 1 v' (os.length + 1) (os.map Value.string ++ [.string x])) : w6.ownsRow w.heap.size 9 1 v' (os ++ [x]).length ((os ++ [x]).map Value.string) ∧ Below w.heap.size w w6 :=
  ⟨by rw [List.length_append, List.map_append]; exact h, (hb.alloc hb.size o).grown hg (by have := hb.size; simp; omega) (fun k hk => (hown.lt k hk).1)⟩
theorem ownShape {w : World} {B sz n : Nat} {e : TypeId} {v : Value} {xs : List Value} (h : w.ownsRow B e sz v n xs) : ∃ a c, v = .slice a n c := by
  rcases h.2 with ⟨h1, h0⟩ | ⟨g, cap, cur, h1, _⟩
  · exact ⟨_, _, by rw [h0]; exact h1⟩
  · exact ⟨_, _, h1⟩
theorem putR_x {s x : ByteArray} {r : List ByteArray} (d : Bool) (hd : d = true ∨ blt x s = true) (hx : ¬ x = s) : putR s d (x :: r) = x :: putR s d r := by
  cases d with
  | true => rw [putR, if_neg hx]
  | false => rcases hd with h | h
             · cases h
             · rw [putR, if_pos h, if_neg hx]
theorem putR_same {s : ByteArray} {r : List ByteArray} : putR s true (s :: r) = putR s true r := by rw [putR, if_pos rfl]
theorem putR_s {s x : ByteArray} {r : List ByteArray} (h : blt x s = false) : putR s false (x :: r) = s :: putR s true (x :: r) := by
  simp only [putR, h]; simp
set_option maxHeartbeats 2000000 in
set_option maxRecDepth 100000 in
theorem l4Put_is (ns : List ByteArray) (hn : ns.length ≤ 10000000) (s : ByteArray) (v : Value) (w : World) (hv : TV w 0 v ns) :
    Calls Tryz.prog 146 #[v, .string s] w fun e w' => ∃ v', e = .returned v' ∧ TV w' w.heap.size v' (putR s false ns) ∧ Below w.heap.size w w' := by
  obtain ⟨i0, hi0, hz0, hz1, hz2⟩ := info_parts infoStr
  obtain ⟨ao, cap, rfl, hr⟩ := hv
  have Hr := hid hr
  clear hr
  have hnI : (ns.length : Int) ≤ 10000000 := by omega
  go_enter Tryz.func146, Tryz.ntmps146
  go_wp2
  go_loopw [5, 6, 7] (fun out d i wr => ∃ (k : Nat) (dn : Bool) (os : List ByteArray), k ≤ ns.length ∧ i = .int .i64 k ∧ d = .bool dn ∧ Hid (os ++ putR s dn (ns.drop k) = putR s false ns ∧ os.length ≤ k + 1 ∧ (dn = false → os.length ≤ k)) ∧ wr.ownsRow w.heap.size 9 1 out os.length (os.map Value.string) ∧ Below w.heap.size w wr) (fun _ _ i _ => ns.length - (RowKit.intOf i).toNat)
  case atStart =>
    exact ⟨0, false, [], by omega, rfl, rfl, ⟨by simp, by simp, fun _ => by simp⟩, ⟨rfl, .inr ⟨w.heap.size, 0, #[], rfl, Nat.le_refl _, (by show (w.heap.push _)[w.heap.size]? = _; simp), Nat.le_refl _, (by unfold maxLen; omega), rfl, rfl⟩⟩, alloc_below _ _⟩
  case round =>
    obtain ⟨k, dn, os, hk, rfl, rfl, hg, hown, hbr⟩ := hrel
    obtain ⟨g1, g2, g3⟩ := hg.out
    obtain ⟨oa, oc, rfl⟩ := ownShape hown
    have hol : (os.length : Int) ≤ 10000001 := by omega
    by_cases hlt : k < ns.length
    · have hltI : (k : Int) < (ns.length : Int) := by omega
      obtain ⟨x, hx⟩ : ∃ x, ns[k]? = some x := ⟨ns[k], List.getElem?_eq_getElem hlt⟩
      rcases Hr.out with hr | ⟨g, off, rfl, _, gl, hc⟩
      · subst hr; simp at hlt
      have hsz := hbr.size
      have AW := hid (hc k x hx)
      have A0 := (hbr.cell (p := ⟨g, off + k, Option.none⟩) gl).trans AW.out
      have hd : ns.drop k = x :: ns.drop (k + 1) := by rw [List.drop_eq_getElem_cons hlt]; congr 1; rw [List.getElem?_eq_getElem hlt] at hx; injection hx
      rw [hd] at g1
      clear hc hx Hr hd hg
      by_cases hdb : dn = true ∨ blt x s = true
      · have G3 : Hid (dn = false → os.length ≤ k) := g3
        by_cases he : x = s
        · have hdn : dn = true := hdb.resolve_right (fun h => by rw [he, blt_irrefl] at h; cases h)
          subst hdn
          subst he
          rw [putR_same] at g1
          have G := hid (And.intro g1 g2)
          clear g1 g2 g3 hdb
          go_wp2
          go_roundw
          case rel => exact ⟨k + 1, true, os, by omega, by go_num, rfl, ⟨G.out.1, by have := G.out.2; omega, fun h => by cases h⟩, hown, hbr⟩
          case measure => simp [RowKit.intOf]; omega
        · rw [putR_x dn hdb he] at g1
          have G := hid (And.intro g1 g2)
          have hne := str_ne he
          have hcs : dn = true ∨ (dn = false ∧ Op.bytesLess x.toList s.toList = true) := by
            cases dn with
            | true => exact .inl rfl
            | false => exact .inr ⟨rfl, hdb.resolve_left (by simp)⟩
          clear g1 g2 g3 hdb he
          rcases hcs with rfl | ⟨rfl, hls⟩
          · go_wp2_with (at_builtin; refine wpList_append_own _ rfl _ _ 67 rfl w.heap.size 9 i0 _ 1 16 Tryz.underlying67 hi0 hz0 hz1 hz2 rfl (by decide) _ _ _ rfl (hown.alloc _) ⟨wr.heap.size, 0, Option.none⟩ 1 1 [.string x] rfl rfl (newT _ _ _) ?cb2 ?cb3 ?cb4 ?cb5 ?_)
            case cb2 => first | rfl | (intro x hx; simp only [List.mem_cons, List.not_mem_nil, or_false] at hx; subst hx; rfl)
            case cb3 => unfold maxLen; omega
            case cb4 => omega
            case cb5 => first | omega | (simp; omega)
            intro v' w6 hown' hgrow _
            obtain ⟨n1, n2⟩ := snocT hown hbr hgrow hown'
            clear hown' hgrow hown hbr A0
            go_wp2
            go_roundw
            case rel => exact ⟨k + 1, true, os ++ [x], by omega, by go_num, rfl, ⟨by rw [List.append_assoc]; exact G.out.1, by have := G.out.2; simp; omega, fun h => by cases h⟩, n1, n2⟩
            case measure => simp [RowKit.intOf]; omega
          · go_wp2_with (at_builtin; refine wpList_append_own _ rfl _ _ 67 rfl w.heap.size 9 i0 _ 1 16 Tryz.underlying67 hi0 hz0 hz1 hz2 rfl (by decide) _ _ _ rfl (hown.alloc _) ⟨wr.heap.size, 0, Option.none⟩ 1 1 [.string x] rfl rfl (newT _ _ _) ?cc2 ?cc3 ?cc4 ?cc5 ?_)
            case cc2 => first | rfl | (intro x hx; simp only [List.mem_cons, List.not_mem_nil, or_false] at hx; subst hx; rfl)
            case cc3 => unfold maxLen; omega
            case cc4 => omega
            case cc5 => first | omega | (simp; omega)
            intro v' w6 hown' hgrow _
            obtain ⟨n1, n2⟩ := snocT hown hbr hgrow hown'
            clear hown' hgrow hown hbr A0
            go_wp2
            go_roundw
            case rel => exact ⟨k + 1, false, os ++ [x], by omega, by go_num, rfl, ⟨by rw [List.append_assoc]; exact G.out.1, by have := G.out.2; simp; omega, fun _ => by have := G3.out (by simp); simp; omega⟩, n1, n2⟩
            case measure => simp [RowKit.intOf]; omega
      · have hdn : dn = false := by cases dn with | false => rfl | true => exact absurd (.inl rfl) hdb
        subst hdn
        have hbl : blt x s = false := by cases h : blt x s with | false => rfl | true => exact absurd (.inr h) hdb
        have hls : Op.bytesLess x.toList s.toList = false := hbl
        rw [putR_s hbl] at g1
        have g4 := g3 rfl
        clear hdb hbl g3
        by_cases he : x = s
        · subst he
          rw [putR_same] at g1
          have G := hid (And.intro g1 g4)
          clear g1 g2 g4
          go_wp2_with (at_builtin; refine wpList_append_own _ rfl _ _ 67 rfl w.heap.size 9 i0 _ 1 16 Tryz.underlying67 hi0 hz0 hz1 hz2 rfl (by decide) _ _ _ rfl (hown.alloc _) ⟨wr.heap.size, 0, Option.none⟩ 1 1 [.string x] rfl rfl (newT _ _ _) ?ce2 ?ce3 ?ce4 ?ce5 ?_)
          case ce2 => first | rfl | (intro x hx; simp only [List.mem_cons, List.not_mem_nil, or_false] at hx; subst hx; rfl)
          case ce3 => unfold maxLen; omega
          case ce4 => omega
          case ce5 => first | omega | (simp; omega)
          intro v' w6 hown' hgrow _
          obtain ⟨n1, n2⟩ := snocT hown hbr hgrow hown'
          have A6 := (n2.cell (p := ⟨g, off + k, Option.none⟩) gl).trans AW.out
          clear hown' hgrow hown hbr A0
          go_wp2
          go_roundw
          case rel => exact ⟨k + 1, true, os ++ [x], by omega, by go_num, rfl, ⟨by rw [List.append_assoc]; exact G.out.1, by have := G.out.2; simp; omega, fun h => by cases h⟩, n1, n2⟩
          case measure => simp [RowKit.intOf]; omega
        · have hne := str_ne he
          rw [putR_x true (.inl rfl) he] at g1
          have G := hid (And.intro g1 g4)
          clear g1 g2 he g4
          go_wp2_with (at_builtin; refine wpList_append_own _ rfl _ _ 67 rfl w.heap.size 9 i0 _ 1 16 Tryz.underlying67 hi0 hz0 hz1 hz2 rfl (by decide) _ _ _ rfl (hown.alloc _) ⟨wr.heap.size, 0, Option.none⟩ 1 1 [.string s] rfl rfl (newT _ _ _) ?cg2 ?cg3 ?cg4 ?cg5 ?_)
          case cg2 => first | rfl | (intro x hx; simp only [List.mem_cons, List.not_mem_nil, or_false] at hx; subst hx; rfl)
          case cg3 => unfold maxLen; omega
          case cg4 => omega
          case cg5 => first | omega | (simp; omega)
          intro v' w6 hown' hgrow _
          obtain ⟨n1, n2⟩ := snocT hown hbr hgrow hown'
          have A6 := (n2.cell (p := ⟨g, off + k, Option.none⟩) gl).trans AW.out
          have hs6 := n2.size
          obtain ⟨va, vc, rfl⟩ := ownShape n1
          have hol6 : ((os ++ [s]).length : Int) ≤ 10000002 := by simp; omega
          clear hown' hgrow hown hbr A0
          go_wp2_with (at_builtin; refine wpList_append_own _ rfl _ _ 67 rfl w.heap.size 9 i0 _ 1 16 Tryz.underlying67 hi0 hz0 hz1 hz2 rfl (by decide) _ _ _ rfl (n1.alloc _) ⟨w6.heap.size, 0, Option.none⟩ 1 1 [.string x] rfl rfl (newT _ _ _) ?cd2 ?cd3 ?cd4 ?cd5 ?_)
          case cd2 => first | rfl | (intro x hx; simp only [List.mem_cons, List.not_mem_nil, or_false] at hx; subst hx; rfl)
          case cd3 => unfold maxLen; omega
          case cd4 => omega
          case cd5 => first | omega | (simp; omega)
          intro v'' w7 hown'' hgrow2 _
          obtain ⟨m1, m2⟩ := snocT n1 n2 (o := .cells #[.string x] 9) (by simpa using hgrow2) (show w7.ownsRow w.heap.size 9 1 v'' ((os ++ [s]).length + 1) ((os ++ [s]).map Value.string ++ [.string x]) by simpa using hown'')
          clear hown'' hgrow2 n1 n2 A6
          go_wp2
          go_roundw
          case rel => exact ⟨k + 1, true, os ++ [s] ++ [x], by omega, by go_num, rfl, ⟨by rw [List.append_assoc, List.append_assoc]; exact G.out.1, by have := G.out.2; simp; omega, fun h => by cases h⟩, m1, m2⟩
          case measure => simp [RowKit.intOf]; omega
    · have hkk : ns.drop k = [] := List.drop_of_length_le (by omega)
      rw [hkk] at g1
      cases dn with
      | true =>
        have G := hid (show os = putR s false ns by simpa [putR] using g1)
        clear g1 hg
        go_wp2
        go_ret
        exact ⟨_, rfl, by rw [← G.out]; exact TV.of hown, hbr⟩
      | false =>
        have G := hid (show os ++ [s] = putR s false ns by simpa [putR] using g1)
        have hsz := hbr.size
        clear g1 hg
        go_wp2_with (at_builtin; refine wpList_append_own _ rfl _ _ 67 rfl w.heap.size 9 i0 _ 1 16 Tryz.underlying67 hi0 hz0 hz1 hz2 rfl (by decide) _ _ _ rfl (hown.alloc _) ⟨wr.heap.size, 0, Option.none⟩ 1 1 [.string s] rfl rfl (newT _ _ _) ?cf2 ?cf3 ?cf4 ?cf5 ?_)
        case cf2 => first | rfl | (intro x hx; simp only [List.mem_cons, List.not_mem_nil, or_false] at hx; subst hx; rfl)
        case cf3 => unfold maxLen; omega
        case cf4 => omega
        case cf5 => first | omega | (simp; omega)
        intro v' w6 hown' hgrow _
        obtain ⟨n1, n2⟩ := snocT hown hbr hgrow hown'
        clear hown' hgrow hown hbr
        go_wp2
        go_ret
        exact ⟨_, rfl, by rw [← G.out]; exact TV.of n1, n2⟩
set_option maxHeartbeats 1000000 in
theorem impl_ArrAt (ts : List AR) (hn : ts.length ≤ 1048576) (s : ByteArray) (va vb : Value) (hvb : vb.oneCell' = true) (w : World) (ha : AV w 0 va ts) :
    Calls Tryz.prog 184 #[.agg #[va, vb], .string s] w fun e w' => e = .returned (.int .i64 (arrGo ts 0 s)) ∧ Below w.heap.size w w' := by
  obtain ⟨ao, cap, rfl, hr⟩ := ha
  have Hr := hid hr
  clear hr
  have hc0 : (w.alloc (.cells #[.slice ao ts.length cap, vb] 27)).cell? ⟨w.heap.size, 0, Option.none⟩ = some (.slice ao ts.length cap) := box_cell (Below.refl _ _) rfl
  have B := hid (alloc_below w (.cells #[.slice ao ts.length cap, vb] 27))
  go_enter Tryz.func184, Tryz.ntmps184
  go_wp2
  go_loopw [10] (fun i wr => ∃ k : Nat, k ≤ ts.length ∧ i = .int .i64 k ∧ Hid (arrGo ts 0 s = arrGo (ts.drop k) k s) ∧ Below w.heap.size w wr) (fun i _ => ts.length - (RowKit.intOf i).toNat)
  case atStart => exact ⟨0, by omega, rfl, (by show arrGo ts 0 s = arrGo (ts.drop 0) 0 s; rw [List.drop_zero]), B.out⟩
  case round =>
    obtain ⟨k, hk, rfl, hg, hbr⟩ := hrel
    by_cases hlt : k < ts.length
    · have hltI : (k : Int) < (ts.length : Int) := by omega
      obtain ⟨t, ht⟩ : ∃ t, ts[k]? = some t := ⟨ts[k], List.getElem?_eq_getElem hlt⟩
      rcases Hr.out with hr | ⟨g, off, rfl, _, gl, hc⟩
      · subst hr; simp at hlt
      have A0 := (hbr.cell (p := ⟨g, off + k * 2, Option.none⟩) gl).trans (hc k t ht).1
      have A1 := (hbr.cell (p := ⟨g, off + k * 2 + 1, Option.none⟩) gl).trans (hc k t ht).2
      have hd : Hid (ts.drop k = t :: ts.drop (k + 1)) := by
        show ts.drop k = t :: ts.drop (k + 1)
        rw [List.drop_eq_getElem_cons hlt]; congr 1; rw [List.getElem?_eq_getElem hlt] at ht; injection ht
      clear hc ht Hr hc0
      have HB := hid (fun o : Obj => hbr.alloc hbr.size o)
      clear hbr
      by_cases he : t.s = s
      · have he2 : Hid (arrGo ts 0 s = (k : Int)) := by show arrGo ts 0 s = (k : Int); rw [hg.out, hd.out, arrGo, if_pos he]
        subst he
        go_wp2
        go_ret
        exact retI he2.out.symm (HB.out _)
      · have he2 : Hid (arrGo ts 0 s = arrGo (ts.drop (k + 1)) (k + 1) s) := by show arrGo ts 0 s = _; rw [hg.out, hd.out, arrGo, if_neg he]
        have hne := str_ne he
        go_wp2
        go_roundw
        case rel => exact ⟨k + 1, by omega, by go_num, he2.out, HB.out _⟩
        case measure => simp [RowKit.intOf]; omega
    · have he2 : Hid (arrGo ts 0 s = -1) := by show arrGo ts 0 s = -1; rw [hg.out, List.drop_of_length_le (by omega)]; rfl
      go_wp2
      go_ret
      exact retI he2.out.symm hbr
end Go.Proofs.YtfoghiminlbdaaaGreat
namespace Go.Proofs.YtfoghiminlbdaaaGreat
open Go.RowKit
set_option linter.unusedSimpArgs false
set_option linter.unusedVariables false
theorem i64_and32 (n : Int) : bits .and .i64 n 4294967295 = n % 4294967296 := by
  have h32 : (BitVec.ofInt 64 4294967295).toNat = 2 ^ 32 - 1 := by decide
  have key : (BitVec.ofInt 64 n &&& BitVec.ofInt 64 4294967295).toNat = (n % ((2 ^ 64 : Nat) : Int)).toNat % 2 ^ 32 := by
    rw [BitVec.toNat_and, BitVec.toNat_ofInt, h32, Nat.and_two_pow_sub_one_eq_mod]
  show IntKind.i64.wrap ((BitVec.ofInt 64 n &&& BitVec.ofInt 64 4294967295).toNat : Nat) = n % 4294967296
  rw [key, IntKind.wrap_i64]
  omega
theorem wrap32_bdW (n : Int) : -2147483648 ≤ wrap32 n ∧ wrap32 n ≤ 2147483647 := by unfold wrap32; omega
theorem mul_bdW (a b : Int) (ha0 : -2147483648 ≤ a) (ha : a ≤ 2147483647) (hb0 : -2147483648 ≤ b) (hb : b ≤ 2147483647) : -9223372036854775808 ≤ a * b ∧ a * b ≤ 9223372036854775807 := by
  have h1 : a.natAbs ≤ 2147483648 := by omega
  have h2 : b.natAbs ≤ 2147483648 := by omega
  have h3 : (a * b).natAbs ≤ 2147483648 * 2147483648 := by rw [Int.natAbs_mul]; exact Nat.mul_le_mul h1 h2
  omega
theorem ret_int {k : IntKind} {a b : Int} (h : a = b) : Ending.returned (.int k a) = .returned (.int k b) := by rw [h]
theorem spec_Wrap (n : Int) (w : World) : Calls Tryz.prog 187 #[.int .i64 n] w fun e w' => e = .returned (.int .i64 (wrap32 n)) ∧ w = w' := by
  have ha := i64_and32 n
  go_enter Tryz.func187, Tryz.ntmps187
  go_wp2
  all_goals
    go_ret
    exact ⟨ret_int (by unfold wrap32; omega), rfl⟩
theorem impl_Wrap (n : Int) (w : World) : Calls Tryz.prog 185 #[.int .i64 n] w fun e w' => e = .returned (.int .i64 (wrap32 n)) ∧ w = w' := by
  go_enter Tryz.func185, Tryz.ntmps185
  go_wp2
  go_ret
  exact ⟨ret_int (by unfold wrap64 wrap32; omega), rfl⟩
theorem spec_AddW (a b : Int) (w : World) : Calls Tryz.prog 159 #[.int .i64 a, .int .i64 b] w fun e w' => e = .returned (.int .i64 (wrap32 (wrap32 a + wrap32 b))) ∧ w = w' := by
  have ha := wrap32_bdW a
  have hb := wrap32_bdW b
  go_enter Tryz.func159, Tryz.ntmps159
  go_wp2_with (go_at_call 187; refine (spec_Wrap _ _).mono ?_; rintro e w' ⟨rfl, rfl⟩)
  go_ret
  exact ⟨rfl, rfl⟩
theorem impl_AddW (a b : Int) (w : World) : Calls Tryz.prog 154 #[.int .i64 a, .int .i64 b] w fun e w' => e = .returned (.int .i64 (wrap32 (wrap32 a + wrap32 b))) ∧ w = w' := by
  have ha := wrap32_bdW a
  have hb := wrap32_bdW b
  go_enter Tryz.func154, Tryz.ntmps154
  go_wp2_with (go_at_call 185; refine (impl_Wrap _ _).mono ?_; rintro e w' ⟨rfl, rfl⟩)
  go_ret
  exact ⟨rfl, rfl⟩
theorem spec_SubW (a b : Int) (w : World) : Calls Tryz.prog 160 #[.int .i64 a, .int .i64 b] w fun e w' => e = .returned (.int .i64 (wrap32 (wrap32 a - wrap32 b))) ∧ w = w' := by
  have ha := wrap32_bdW a
  have hb := wrap32_bdW b
  go_enter Tryz.func160, Tryz.ntmps160
  go_wp2_with (go_at_call 187; refine (spec_Wrap _ _).mono ?_; rintro e w' ⟨rfl, rfl⟩)
  go_ret
  exact ⟨rfl, rfl⟩
theorem impl_SubW (a b : Int) (w : World) : Calls Tryz.prog 155 #[.int .i64 a, .int .i64 b] w fun e w' => e = .returned (.int .i64 (wrap32 (wrap32 a - wrap32 b))) ∧ w = w' := by
  have ha := wrap32_bdW a
  have hb := wrap32_bdW b
  go_enter Tryz.func155, Tryz.ntmps155
  go_wp2_with (go_at_call 185; refine (impl_Wrap _ _).mono ?_; rintro e w' ⟨rfl, rfl⟩)
  go_ret
  exact ⟨rfl, rfl⟩
theorem wrap_mul (a b : Int) : wrap64 (wrap32 a * wrap32 b) = wrap32 a * wrap32 b := by
  have ha := wrap32_bdW a
  have hb := wrap32_bdW b
  have := mul_bdW _ _ ha.1 ha.2 hb.1 hb.2
  unfold wrap64
  omega
theorem spec_MulW (a b : Int) (w : World) : Calls Tryz.prog 161 #[.int .i64 a, .int .i64 b] w fun e w' => e = .returned (.int .i64 (wrap32 (wrap32 a * wrap32 b))) ∧ w = w' := by
  go_enter Tryz.func161, Tryz.ntmps161
  go_wp2_with (go_at_call 187; refine (spec_Wrap _ _).mono ?_; rintro e w' ⟨rfl, rfl⟩)
  go_ret
  exact ⟨ret_int (by rw [wrap_mul]), rfl⟩
theorem impl_MulW (a b : Int) (w : World) : Calls Tryz.prog 156 #[.int .i64 a, .int .i64 b] w fun e w' => e = .returned (.int .i64 (wrap32 (wrap32 a * wrap32 b))) ∧ w = w' := by
  go_enter Tryz.func156, Tryz.ntmps156
  go_wp2_with (go_at_call 185; refine (impl_Wrap _ _).mono ?_; rintro e w' ⟨rfl, rfl⟩)
  go_ret
  exact ⟨ret_int (by rw [wrap_mul]), rfl⟩
end Go.Proofs.YtfoghiminlbdaaaGreat
