import Derived.Test.YtpinockfakndlaaGreatP06ofFnEvals
import Derived.RangeFuncNested
import Derived.RangeFuncBound
import Derived.RangeFuncCalls
import Derived.RangeFuncLeaves
import Derived.Shelf.Abstract
import Derived.Shelf.RegionOpen
import Derived.OwnWalkIn
import Derived.TacticsInMore
import Derived.LoopNIn
import Derived.LoopIn
import Derived.RangeFuncBox
import Derived.Test.YtpinockfakndlaaGreatRows
import Derived.WalkKit
import Derived.WalkLawsBesides
import Derived.Laws.BitsLemmas
import Derived.Test.YtpinockfakndlaaGreatP22ofFnEvals
import Derived.Test.YtpinockfakndlaaGreatP31ofFnEvals
set_option maxHeartbeats 4000000
set_option maxRecDepth 100000
namespace Go.Proofs.YtpinockfakndlaaGreat
open Go.RowKit Go.Lib Go.Shelf
set_option linter.unusedSimpArgs false
set_option linter.unusedVariables false
attribute [local go_sem] Oper.semAt_some
def bindOf : List AR → ByteArray → Option Int
  | [], _ => none
  | b :: bs, s => if b.s = s then some b.n else bindOf bs s
def withN (bs : List AR) (nm : ByteArray → Int) (s : ByteArray) : Int := (bindOf bs.reverse s).getD (nm s)
structure Lk (fv : Value) (J : World → Prop) (nm : ByteArray → Int) : Prop where
  is : ∃ (kf : Nat) (caps : Array Value), fv = .func (.func kf) #[] caps ∧ (∀ (args : Array Value) (w : World), (callFunc kf args).run Tryz.prog w = .ok (.enter kf args) w) ∧
    ∀ w, J w → ∀ s, Calls Tryz.prog kf (#[.string s] ++ caps) w fun e w' => e = .returned (.int .i64 (nm s)) ∧ Below w.heap.size w w'
  on : ∀ w w', J w → Below w.heap.size w w' → J w'
def bw (bs : List AR) (k : Nat) : List (Nat × AR) := (List.range k).map fun j => (bs.length - 1 - j, bs[bs.length - 1 - j]?.getD ⟨⟨#[]⟩, 0⟩)
theorem bw_succ (bs : List AR) (k : Nat) : bw bs (k + 1) = bw bs k ++ [(bs.length - 1 - k, bs[bs.length - 1 - k]?.getD ⟨⟨#[]⟩, 0⟩)] := by simp [bw, List.range_succ]
theorem bw_len (bs : List AR) (k : Nat) : (bw bs k).length = k := by simp [bw]
abbrev bencs (x : Nat × AR) : Array Value := #[.int .i64 (x.1 : Int), .agg #[.string x.2.s, .int .i64 x.2.n]]
theorem bw1_in (l Bs n₀ : Nat) (bs : List AR) (hlen : bs.length ≤ 100000000) (sv : Value) (J Jx : List (Nat × AR) → World → Prop)
    (hY : ∀ pre (x : Nat × AR) W, J pre W → pre.length < bs.length → YieldAt Fence.wide 1 Tryz.prog l #[.int .i64 (x.1 : Int), .agg #[.string x.2.s, .int .i64 x.2.n]] W fun e W' =>
      (e = .returned (.bool true) ∧ J (pre ++ [x]) W' ∧ Below n₀ W W') ∨ (e = .returned (.bool false) ∧ Jx (pre ++ [x]) W'))
    (W : World) (hBs : W.cell? ⟨Bs, 0, Option.none⟩ = some sv) (hBn : Bs < n₀) (hAV : AV W 0 sv bs) (hAn : ∀ k, sv.ownBlock = some k → bs ≠ [] → k < n₀) (h0 : J [] W) :
    CallsIn Fence.wide 2 Tryz.prog 127 #[.func (.yield l) #[] #[], .pointer (some ⟨Bs, 0, Option.none⟩)] W fun e W' => (∃ v, e = .returned v) ∧
      ((∃ ys, ys = bw bs bs.length ∧ J ys W') ∨ (∃ pre, (∃ k, k ≤ bs.length ∧ pre = bw bs k) ∧ Jx pre W')) := by
  obtain ⟨ao, cap, rfl, hr⟩ := hAV
  refine callsIn_of_wp Tryz.func127 rfl trivial ?_ rfl
  simp only [Tryz.ntmps127, List.size_toArray, List.length_cons, List.length_nil, Nat.reduceAdd, Nat.reduceSub, Array.replicate_succ, Array.replicate_zero, List.push_toArray, List.append_toArray, List.nil_append, List.cons_append]
  gi_wp2
  gi_loopw [3] (fun i wr => ∃ k : Nat, k ≤ bs.length ∧ i = .int .i64 ((bs.length : Int) - 1 - (k : Int)) ∧ J (bw bs k) wr ∧ Below n₀ W wr)
    (fun i _ => (RowKit.intOf i + 1).toNat)
  case atStart => exact ⟨0, Nat.zero_le _, by simp, h0, Below.refl _ _⟩
  case round =>
    obtain ⟨k, hk, rfl, hJs, hnx⟩ := hrel
    have hBs' := (hnx.cell (p := ⟨Bs, 0, Option.none⟩) hBn).trans hBs
    by_cases hlt : k < bs.length
    · obtain ⟨b, hb⟩ : ∃ b, bs[bs.length - 1 - k]? = some b := ⟨bs[bs.length - 1 - k], List.getElem?_eq_getElem (by omega)⟩
      rcases hr with hr | ⟨g, off, rfl, _, gl, hc⟩
      · subst hr; simp at hlt
      obtain ⟨m, hm⟩ : ∃ m : Nat, m = bs.length - 1 - k := ⟨_, rfl⟩
      have hmI : (bs.length : Int) - 1 - (k : Int) = (m : Int) := by omega
      have hmlt : (m : Int) < (bs.length : Int) := by omega
      have hm0 : ¬ ((m : Int) < 0) := by omega
      have hgn : g < n₀ := hAn g rfl (fun e => by subst e; simp at hlt)
      have hc0 : wr.cell? ⟨g, off + m * 2, Option.none⟩ = some (.string b.s) := by rw [hm]; exact (hnx.cell (p := ⟨g, off + (bs.length - 1 - k) * 2, Option.none⟩) hgn).trans (hc _ b hb).1
      have hc1 : wr.cell? ⟨g, off + m * 2 + 1, Option.none⟩ = some (.int .i64 b.n) := by rw [hm]; exact (hnx.cell (p := ⟨g, off + (bs.length - 1 - k) * 2 + 1, Option.none⟩) hgn).trans (hc _ b hb).2
      have HS : Hid (bw bs (k + 1) = bw bs k ++ [(m, b)]) := show bw bs (k + 1) = bw bs k ++ [(m, b)] by rw [bw_succ, hb, hm]; rfl
      obtain ⟨fn, tmps, assign, body, hy, hR⟩ := hY _ (m, b) wr hJs (by rw [bw_len]; exact hlt)
      dsimp only at hy
      rw [hmI]
      have HM := hid (And.intro hm hmI)
      clear hm hmI hc hb hJs
      gi_wp2
      refine hR.mono ?_
      rintro e W3 (⟨rfl, hJ3, hk3⟩ | ⟨rfl, hJx3⟩)
      · rw [← HS.out] at hJ3
        have HJ3 := hid hJ3
        clear hJ3
        gi_wp2
        go_roundw
        case rel => exact ⟨k + 1, by omega, val_intA (by have := HM.out.2; omega), HJ3.out, hnx.trans hk3⟩
        case measure => simp [RowKit.intOf]; try omega
      · rw [← HS.out] at hJx3
        have HJx3 := hid hJx3
        clear hJx3
        gi_wp2
        refine bodyPost_ret (results_none rfl _ _ _) rfl ?_
        exact ⟨⟨_, rfl⟩, .inr ⟨_, ⟨k + 1, by omega, rfl⟩, HJx3.out⟩⟩
    · obtain rfl : k = bs.length := by omega
      have h1 : (bs.length : Int) - 1 - (bs.length : Int) = -1 := by omega
      rw [h1]
      gi_wp2
      go_end0
      exact ⟨⟨_, rfl⟩, .inl ⟨_, rfl, hJs⟩⟩
theorem bw_in (n : Nat) (sv : Value) (hs : ∃ a len cap, sv = .slice a len cap) (w : World) :
    CallsIn Fence.wide n Tryz.prog 84 #[sv] w fun e w' => e = .returned (.func (.func 127) #[] #[.pointer (some ⟨w.heap.size, 0, Option.none⟩)]) ∧ w' = w.alloc (.cells #[sv] 40) := by
  obtain ⟨a, len, cap, rfl⟩ := hs
  refine callsIn_of_wp Tryz.func84 rfl trivial ?_ rfl
  simp only [Tryz.ntmps84, List.size_toArray, List.length_cons, List.length_nil, Nat.reduceAdd, Nat.reduceSub, Array.replicate_succ, Array.replicate_zero, List.push_toArray, List.append_toArray, List.nil_append, List.cons_append]
  gi_wp2
  go_ret
  exact ⟨rfl, rfl⟩
theorem bw_stops (Bs n₀ : Nat) (bs : List AR) (hlen : bs.length ≤ 100000000) (sv : Value) (w : World) (hn₀ : n₀ ≤ w.heap.size) (hBn : Bs < n₀) (hc : w.cell? ⟨Bs, 0, Option.none⟩ = some sv) (hAV : AV w 0 sv bs) (hAn : ∀ k, sv.ownBlock = some k → bs ≠ [] → k < n₀) :
    SeqStopsK Fence.wide 2 Tryz.prog 127 #[.pointer (some ⟨Bs, 0, Option.none⟩)] bencs (Below n₀) (fun ys => ys = bw bs bs.length) (fun pre => ∃ k, k ≤ bs.length ∧ pre = bw bs k) bs.length w := fun l J Jx W hW _ _ hY h0 =>
  bw1_in l Bs n₀ bs hlen sv J Jx hY W ((hW.cell (p := ⟨Bs, 0, Option.none⟩) (Nat.lt_of_lt_of_le hBn hn₀)).trans hc) hBn (hAV.later hW) hAn h0
def noneOf (s : ByteArray) (pre : List (Nat × AR)) : Prop := ∀ x ∈ pre, ¬ x.2.s = s
theorem bind_none (bs : List AR) (s : ByteArray) : ∀ k, k ≤ bs.length → noneOf s (bw bs k) → bindOf bs.reverse s = bindOf (bs.reverse.drop k) s
  | 0, _, _ => by simp
  | k + 1, hk, h => by
    rw [bw_succ] at h
    have ih := bind_none bs s k (by omega) (fun x hx => h x (List.mem_append_left _ hx))
    rw [ih]
    have hkr : k < bs.reverse.length := by simp; omega
    rw [List.drop_eq_getElem_cons hkr, bindOf]
    have h1 := h (bs.length - 1 - k, bs[bs.length - 1 - k]?.getD ⟨⟨#[]⟩, 0⟩) (List.mem_append_right _ (by simp))
    rw [List.getElem?_eq_getElem (l := bs) (i := bs.length - 1 - k) (by omega)] at h1
    have e : bs.reverse[k] = bs[bs.length - 1 - k] := by simp [List.getElem_reverse]
    rw [e]
    exact if_neg h1
theorem bind_all {bs : List AR} {s : ByteArray} (h : noneOf s (bw bs bs.length)) : bindOf bs.reverse s = none := by
  rw [bind_none bs s _ (Nat.le_refl _) h, List.drop_of_length_le (by simp)]; rfl
theorem bind_hit {bs : List AR} {s : ByteArray} {pre : List (Nat × AR)} {x : Nat × AR} {k : Nat} (hk : k ≤ bs.length) (e : pre ++ [x] = bw bs k) (h : noneOf s pre) (hx : x.2.s = s) : bindOf bs.reverse s = some x.2.n := by
  cases k with
  | zero => simp [bw] at e
  | succ k =>
    rw [bw_succ] at e
    obtain ⟨e1, e2⟩ := List.append_inj' e rfl
    subst e1
    rw [bind_none bs s k (by omega) h]
    have hkr : k < bs.reverse.length := by simp; omega
    rw [List.drop_eq_getElem_cons hkr, bindOf]
    have e3 : bs.reverse[k] = bs[bs.length - 1 - k] := by simp [List.getElem_reverse]
    simp only [List.cons.injEq, and_true] at e2
    rw [List.getElem?_eq_getElem (l := bs) (i := bs.length - 1 - k) (by omega)] at e2
    rw [e3, if_pos (by rw [e2] at hx; exact hx), e2]; rfl
theorem ownC {β : Type} {B N : Nat} {ar : Array Value} {t : TypeId} : OwnFrom B (fun (_ : β) W => W.heap[N]? = some (.cells ar t (0, 0))) := fun s W W' row hs hg hr =>
  (hg.block N (Array.getElem?_eq_some_iff.1 hs).1 (fun e => by obtain ⟨_, o, ho, hc⟩ := hr N e.symm; rw [hs] at ho; cases ho; simp [Obj.isCells] at hc)).trans hs
theorem blkAlloc {W : World} {N : Nat} {o o' : Obj} (h : W.heap[N]? = some o) : (W.alloc o').heap[N]? = some o := (Below.heap_alloc W o' N (Array.getElem?_eq_some_iff.1 h).1).trans h
theorem with1_is (bs : List AR) (hlen : bs.length ≤ 100000000) (sv fv : Value) (J : World → Prop) (nm : ByteArray → Int) (hL : Lk fv J nm) (s : ByteArray) (pb po : Nat) (w : World) (hJ : J w) (hb : w.cell? ⟨pb, 0, Option.none⟩ = some sv) (ho : w.cell? ⟨po, 0, Option.none⟩ = some fv) (hAV : AV w 0 sv bs) :
    Calls Tryz.prog 83 #[.string s, .pointer (some ⟨pb, 0, Option.none⟩), .pointer (some ⟨po, 0, Option.none⟩)] w fun e w' => e = .returned (.int .i64 (withN bs nm s)) ∧ Below w.heap.size w w' := by
  obtain ⟨kf, caps, rfl, hent, hcall⟩ := hL.is
  have HC := hid hcall
  have HON := hid hL.on
  have HJ := hid hJ
  obtain ⟨ao, cap, hsv⟩ := hAV.shape
  refine (callsIn_wide (n := 3)).1 ?_
  refine callsIn_of_wp_marks Tryz.func83 rfl trivial ?_ rfl
  simp only [Tryz.ntmps83, List.size_toArray, List.length_cons, List.length_nil, Nat.reduceAdd, Nat.reduceSub, Array.replicate_succ, Array.replicate_zero, List.push_toArray, List.append_toArray, List.nil_append, List.cons_append]
  have HAV := hid hAV
  have HB := hid hb
  have HO := hid ho
  rw [hsv] at hb HAV HB
  have hb2 : ((w.alloc (.cells #[.string s] 9)).alloc (.cells #[.int .i64 0] 3)).cell? ⟨pb, 0, Option.none⟩ = some (.slice ao bs.length cap) := keeps ((aB w _).alloc (by simp) _) hb
  have hsvn : ∀ k, (Value.slice ao bs.length cap).ownBlock = some k → bs ≠ [] → k < w.heap.size := fun k hk hne => by
    obtain ⟨ao', cap', e, h⟩ := HAV.out
    injection e with e
    subst e
    rcases h with h | ⟨g, off, e1, _, e3, _⟩
    · exact absurd h hne
    · rw [e1] at hk; injection hk with hk; rw [← hk]; exact e3
  clear hcall hL hJ hAV ho hsv hb
  gi_wp2_with (refine ⟨trivial, ?_⟩; gi_at_call 84; refine (bw_in _ _ ⟨_, _, _, rfl⟩ _).mono ?_; rintro e w' ⟨rfl, rfl⟩)
  have hB0 : Below w.heap.size w (((w.alloc (.cells #[.string s] 9)).alloc (.cells #[.int .i64 0] 3)).alloc (.cells #[.slice ao bs.length cap] 40)) := ((aB w _).alloc (by simp) _).alloc (by simp; omega) _
  obtain ⟨d0, d1, d2⟩ := heap3 w (.cells #[.string s] 9) (.cells #[.int .i64 0] 3) (.cells #[.slice ao bs.length cap] 40)
  have hsz : (((w.alloc (.cells #[.string s] 9)).alloc (.cells #[.int .i64 0] 3)).alloc (.cells #[.slice ao bs.length cap] 40)).heap.size = w.heap.size + 3 := by simp
  obtain ⟨W0, hW0⟩ : ∃ W0, ((w.alloc (.cells #[.string s] 9)).alloc (.cells #[.int .i64 0] 3)).alloc (.cells #[.slice ao bs.length cap] 40) = W0 := ⟨_, rfl⟩
  rw [hW0] at hB0 d0 d1 d2 hsz ⊢
  clear hW0 hb2
  have hc2 : W0.cell? ⟨w.heap.size + 2, 0, Option.none⟩ = some (.slice ao bs.length cap) := by simp [World.cell?, d2]
  refine wpIn_rangeFunc_ownH rfl (by omega) (gf := 127) (lb := #[.pointer (some ⟨w.heap.size + 1 + 1, 0, Option.none⟩)]) rfl trivial (enters_of Tryz.func127 (by kernel_rfl) rfl)
    (bw_stops (w.heap.size + 1 + 1) (w.heap.size + 3) bs hlen (.slice ao bs.length cap) W0 (by omega) (by omega) hc2 (HAV.out.later hB0) (fun k hk hne => by have := hsvn k hk hne; omega)) belowK_t (belowK_b (by omega)) (Below.refl _ _) (fun _ => rfl)
    (fun pre W => noneOf s pre ∧ ((W.heap[w.heap.size]? = some (.cells #[.string s] 9 (0, 0)) ∧ (W.heap[w.heap.size + 1]? = some (.cells #[.int .i64 0] 3 (0, 0)) ∧ W.heap[w.heap.size + 2]? = some (.cells #[.slice ao bs.length cap] 40 (0, 0)))) ∧ Below w.heap.size w W))
    (fun c pre W => (c = .ret ∧ ∃ pre' x, pre = pre' ++ [x] ∧ noneOf s pre' ∧ x.2.s = s ∧ W.heap[w.heap.size + 1]? = some (.cells #[.int .i64 x.2.n] 3 (0, 0))) ∧ Below w.heap.size w W)
    (OwnFrom.and (ownFrom_pure _ _) (OwnFrom.and (OwnFrom.and ownC (OwnFrom.and ownC ownC)) (ownFrom_below (Nat.le_refl _) (by omega))))
    (fun c => OwnFrom.and (fun s' W W' row hs hg hr => by obtain ⟨e1, pre', x, e2, e3, e4, e5⟩ := hs; exact ⟨e1, pre', x, e2, e3, e4, ownC (β := Unit) () W W' row e5 hg hr⟩) (ownFrom_below (Nat.le_refl _) (by omega)))
    ⟨fun x hx => by simp at hx, ⟨d0, d1, d2⟩, hB0⟩
    (fun x a' W => ∃ Bx, w.heap.size + 2 < Bx ∧ W.heap[Bx]? = some (.cells #[.string x.2.s, .int .i64 x.2.n] 75 (0, 0)) ∧ a' = { tmps := #[.string s, .pointer (some ⟨pb, 0, Option.none⟩), .pointer (some ⟨po, 0, Option.none⟩), .pointer (some ⟨w.heap.size, 0, Option.none⟩), .pointer (some ⟨w.heap.size + 1, 0, Option.none⟩), undef, .pointer (some ⟨Bx, 0, Option.none⟩), .slice ao bs.length cap, .func (.func 127) #[] #[.pointer (some ⟨w.heap.size + 1 + 1, 0, Option.none⟩)], .int .i64 (x.1 : Int), .agg #[.string x.2.s, .int .i64 x.2.n], undef, undef, undef, undef, undef, undef, undef, undef, undef], defers := [] })
    (fun x a' _ X Y row hs hg hr => by obtain ⟨Bx, h1, h2, h3⟩ := hs; exact ⟨Bx, h1, ownC (β := Unit) () X Y row h2 hg hr, h3⟩)
    ?assign ?body ?done ?stop
  case assign =>
    rintro l pre x W K ⟨hn, ⟨e0, e1, e2⟩, hB1⟩ hK
    have hl2 := (Array.getElem?_eq_some_iff.1 e2).1
    gi_wp2
    exact hK _ _ ((KeepsOthers.alloc _ _).from _) ((Below.refl _ W).alloc (by omega) _) ⟨hn, ⟨blkAlloc e0, blkAlloc e1, blkAlloc e2⟩, hB1.alloc hB1.size _⟩ ⟨W.heap.size, hl2, (by show (W.heap.push _)[W.heap.size]? = _; simp), rfl⟩
  case body =>
    rintro l pre x a' W hl _ ⟨hn, ⟨e0, e1, e2⟩, hB1⟩ ⟨Bx, hBx, bX, rfl⟩ hlt
    obtain ⟨⟨q0, q1⟩, _⟩ := blk2 bX
    have c0 : W.cell? ⟨w.heap.size, 0, Option.none⟩ = some (.string s) := by simp [World.cell?, e0]
    have c1 : W.cell? ⟨w.heap.size + 1, 0, Option.none⟩ = some (.int .i64 0) := by simp [World.cell?, e1]
    have f1 : W.frozen? ⟨w.heap.size + 1, 0, Option.none⟩ = false := by simp [World.frozen?, e1]
    by_cases hx : x.2.s = s
    · have hN := hid (And.intro hn hx)
      have E1 := hid e1
      have HB1 := hid hB1
      rw [hx] at q0
      clear hn hx e0 e1 e2 hB1 bX
      gi_wp2
      refine ⟨(KeepsOthers.setCell _ _ _).from _, ⟨rfl, pre, x, rfl, hN.out.1, hN.out.2, ?_⟩, HB1.out.setCell (p := ⟨w.heap.size + 1, 0, Option.none⟩) (by simp) _⟩
      have := Go.heap_setCell_same W (w.heap.size + 1) 0 _ _ (.int .i64 x.2.n) E1.out
      rw [this]; rfl
    · have hN := hid (And.intro hn hx)
      have hxs := str_ne hx
      have E1 := hid (And.intro e0 (And.intro e1 e2))
      have HB1 := hid hB1
      clear hn hx e0 e1 e2 hB1 bX
      gi_wp2
      exact ⟨(KeepsOthers.refl _).from _, Below.refl _ _, ⟨(fun y hy => by
        rcases List.mem_append.1 hy with hy | hy
        · exact hN.out.1 y hy
        · simp at hy; subst hy; exact hN.out.2), E1.out, HB1.out⟩⟩
  case done =>
    rintro D zs W hD rfl ⟨hn, ⟨e0, e1, e2⟩, hB1⟩ hK
    have hval : Hid (withN bs nm s = nm s) := show withN bs nm s = nm s by rw [withN, bind_all hn]; rfl
    have c0 : W.cell? ⟨w.heap.size, 0, Option.none⟩ = some (.string s) := by simp [World.cell?, e0]
    have cO := keeps hB1 HO.out
    have JW := hid (HON.out _ _ HJ.out hB1)
    have E1 := hid e1
    have HB1 := hid hB1
    have HK := hid hK
    clear hn e0 e1 e2 hB1 hK
    gi_wp2_with fail
    refine ⟨trivial, (callsIn_wide.2 (HC.out W JW.out s)).mono ?_⟩
    rintro e w5 ⟨rfl, hb5⟩
    have E5 := (hb5.block _ (Array.getElem?_eq_some_iff.1 E1.out).1).trans E1.out
    have K5 := (hb5.block _ (Array.getElem?_eq_some_iff.1 HK.out).1).trans HK.out
    have B5 := hid (HB1.out.trans (hb5.mono HB1.out.size))
    have c1 : w5.cell? ⟨w.heap.size + 1, 0, Option.none⟩ = some (.int .i64 0) := by simp [World.cell?, E5]
    have f1 : w5.frozen? ⟨w.heap.size + 1, 0, Option.none⟩ = false := by simp [World.frozen?, E5]
    have HK5 := hid K5
    clear E5 K5 hb5 E1 HK HB1 c0 cO
    gi_wp2
    have hK' := (KeepsOthers.setCell w5 ⟨w.heap.size + 1, 0, Option.none⟩ (.int .i64 (nm s))).same D _ HK5.out rfl
    refine ⟨by simp, .inl ⟨_, _, rfl, run_takeDeferred hK', ?_⟩⟩
    have hc5 := cell_kept (World.cell?_setCell_same' w5 ⟨w.heap.size + 1, 0, Option.none⟩ (.int .i64 (nm s)) (by rw [c1]; rfl)) (grownBy_putObj' _ D (.deferred none)) (fun r e => by cases e; exact ⟨_, hK', rfl⟩)
    refine ⟨.int .i64 (nm s), ?_, ⟨by rw [hval.out], (B5.out.setCell (p := ⟨w.heap.size + 1, 0, Option.none⟩) (by simp) _).trans (belowK_b (w := w) (Nat.le_refl _) _ D _ _ (by omega) hK' rfl rfl)⟩⟩
    simp [results, Tryz.f83, go_sem, hc5]
  case stop =>
    rintro D c pre W hD hSp ⟨⟨rfl, pre', x, e2, e3, e4, e5⟩, hB1⟩ hK
    obtain ⟨k, hk, hpk⟩ := hSp
    have hval : withN bs nm s = x.2.n := by rw [withN, bind_hit hk (e2.symm.trans hpk) e3 e4]; rfl
    have c1 : W.cell? ⟨w.heap.size + 1, 0, Option.none⟩ = some (.int .i64 x.2.n) := by simp [World.cell?, e5]
    gi_wp2
    refine ⟨by simp, .inl ⟨_, _, rfl, run_takeDeferred hK, ?_⟩⟩
    have hc5 := cell_kept c1 (grownBy_putObj' _ D (.deferred none)) (fun r e => by cases e; exact ⟨_, hK, rfl⟩)
    refine ⟨.int .i64 x.2.n, ?_, ⟨by rw [hval], hB1.trans (belowK_b (w := w) (Nat.le_refl _) W D _ _ (by omega) hK rfl rfl)⟩⟩
    simp [results, Tryz.f83, go_sem, hc5]
theorem cell1 {W : World} {N : Nat} {v : Value} {t : TypeId} (h : W.heap[N]? = some (.cells #[v] t (0, 0))) : W.cell? ⟨N, 0, Option.none⟩ = some v := by simp [World.cell?, h]
theorem enters_with (args : Array Value) (w : World) : (callFunc 83 args).run Tryz.prog w = .ok (.enter 83 args) w := enters_of Tryz.func83 (by kernel_rfl) rfl args w
theorem with_is (bs : List AR) (hlen : bs.length ≤ 100000000) (sv fv : Value) (J : World → Prop) (nm : ByteArray → Int) (hL : Lk fv J nm) (w : World) (hJ : J w) (hAV : AV w 0 sv bs) :
    Calls Tryz.prog 43 #[fv, sv] w fun e w' => ∃ gv, e = .returned gv ∧ Below w.heap.size w w' ∧ ∃ pb po, Lk gv (fun W => J W ∧ AV W 0 sv bs ∧ W.cell? ⟨pb, 0, Option.none⟩ = some sv ∧ W.cell? ⟨po, 0, Option.none⟩ = some fv) (withN bs nm) ∧ w'.cell? ⟨pb, 0, Option.none⟩ = some sv ∧ w'.cell? ⟨po, 0, Option.none⟩ = some fv := by
  obtain ⟨kf, caps, rfl, hent, hcall⟩ := hL.is
  obtain ⟨ao, cap, rfl⟩ := hAV.shape
  have HL := hid hL
  have hB : Hid (Below w.heap.size w ((w.alloc (.cells #[.func (.func kf) #[] caps] 63)).alloc (.cells #[.slice ao bs.length cap] 40))) := (aB w _).alloc (by simp) _
  have q0 : Hid (((w.alloc (.cells #[.func (.func kf) #[] caps] 63)).alloc (.cells #[.slice ao bs.length cap] 40)).cell? ⟨w.heap.size, 0, Option.none⟩ = some (.func (.func kf) #[] caps)) := by
    exact cell1 (t := 63) (by rw [Below.heap_alloc _ _ _ (by simp)]; exact heap_last _ _)
  have q1 : Hid (((w.alloc (.cells #[.func (.func kf) #[] caps] 63)).alloc (.cells #[.slice ao bs.length cap] 40)).cell? ⟨w.heap.size + 1, 0, Option.none⟩ = some (.slice ao bs.length cap)) := by
    have h := heap_last (w.alloc (.cells #[.func (.func kf) #[] caps] 63)) (.cells #[.slice ao bs.length cap] 40)
    rw [World.size_alloc] at h
    exact cell1 h
  clear hcall hent hAV hL
  go_enter Tryz.func43, Tryz.ntmps43
  go_wp2
  go_ret
  refine ⟨_, rfl, hB.out, w.heap.size + 1, w.heap.size, ⟨⟨83, #[.pointer (some ⟨w.heap.size + 1, 0, Option.none⟩), .pointer (some ⟨w.heap.size, 0, Option.none⟩)], rfl, enters_with, fun W ⟨h1, h2, h3, h4⟩ s => ?_⟩, fun W W' ⟨h1, h2, h3, h4⟩ hb => ⟨HL.out.on W W' h1 hb, h2.later hb, keeps hb h3, keeps hb h4⟩⟩, q1.out, q0.out⟩
  exact with1_is bs hlen _ _ J nm HL.out s (w.heap.size + 1) w.heap.size W h1 h3 h4 h2
end Go.Proofs.YtpinockfakndlaaGreat
namespace Go.Proofs.YtpinockfakndlaaGreat
open Go.RowKit Go.Lib
set_option linter.unusedSimpArgs false
set_option linter.unusedVariables false
theorem impl_ArrAt (ts : List AR) (hn : ts.length ≤ 1048576) (s : ByteArray) (va vb : Value) (hvb : vb.oneCell' = true) (w : World) (ha : AV w 0 va ts) :
    Calls Tryz.prog 151 #[.agg #[va, vb], .string s] w fun e w' => e = .returned (.int .i64 (arrGo ts 0 s)) ∧ Below w.heap.size w w' := by
  obtain ⟨ao, cap, rfl, hr⟩ := ha
  have Hr := hid hr
  clear hr
  have hc0 : (w.alloc (.cells #[.slice ao ts.length cap, vb] 27)).cell? ⟨w.heap.size, 0, Option.none⟩ = some (.slice ao ts.length cap) := box_cell (Below.refl _ _) rfl
  have B := hid (aB w (.cells #[.slice ao ts.length cap, vb] 27))
  go_enter Tryz.func151, Tryz.ntmps151
  go_wp2
  go_loopw [10] (fun i wr => ∃ k : Nat, k ≤ ts.length ∧ i = .int .i64 k ∧ Hid (arrGo ts 0 s = arrGo (ts.drop k) k s) ∧ Below w.heap.size w wr) (fun i _ => ts.length - (RowKit.intOf i).toNat)
  case atStart => exact ⟨0, by omega, rfl, (by show arrGo ts 0 s = arrGo (ts.drop 0) 0 s; rw [List.drop_zero]), B.out⟩
  case round =>
    obtain ⟨k, hk, rfl, hg, hbr⟩ := hrel
    by_cases hlt : k < ts.length
    · have hltI : (k : Int) < (ts.length : Int) := by omega
      obtain ⟨t, ht⟩ : ∃ t, ts[k]? = some t := ⟨ts[k], List.getElem?_eq_getElem hlt⟩
      rcases Hr.out with hr | ⟨g, off, rfl, _, gl, hc⟩
      · subst hr; simp at hlt
      have A0 := (hbr.cell (p := ⟨g, off + k * 2, Option.none⟩) gl).trans (hc k t ht).1
      have A1 := (hbr.cell (p := ⟨g, off + k * 2 + 1, Option.none⟩) gl).trans (hc k t ht).2
      have hd : Hid (ts.drop k = t :: ts.drop (k + 1)) := by
        show ts.drop k = t :: ts.drop (k + 1)
        rw [List.drop_eq_getElem_cons hlt]; congr 1; rw [List.getElem?_eq_getElem hlt] at ht; injection ht
      clear hc ht Hr hc0
      have HB := hid (fun o : Obj => hbr.alloc hbr.size o)
      clear hbr
      by_cases he : t.s = s
      · have he2 : Hid (arrGo ts 0 s = (k : Int)) := by show arrGo ts 0 s = (k : Int); rw [hg.out, hd.out, arrGo, if_pos he]
        subst he
        go_wp2
        go_ret
        exact retI he2.out.symm (HB.out _)
      · have he2 : Hid (arrGo ts 0 s = arrGo (ts.drop (k + 1)) (k + 1) s) := by show arrGo ts 0 s = _; rw [hg.out, hd.out, arrGo, if_neg he]
        have hne := str_ne he
        go_wp2
        go_roundw
        case rel => exact ⟨k + 1, by omega, by go_num, he2.out, HB.out _⟩
        case measure => simp [RowKit.intOf]; omega
    · have he2 : Hid (arrGo ts 0 s = -1) := by show arrGo ts 0 s = -1; rw [hg.out, List.drop_of_length_le (by omega)]; rfl
      go_wp2
      go_ret
      exact retI he2.out.symm hbr
end Go.Proofs.YtpinockfakndlaaGreat
namespace Go.Proofs.YtpinockfakndlaaGreat
open Go.RowKit
set_option linter.unusedSimpArgs false
set_option linter.unusedVariables false
theorem i64_and32 (n : Int) : bits .and .i64 n 4294967295 = n % 4294967296 := by
  have h32 : (BitVec.ofInt 64 4294967295).toNat = 2 ^ 32 - 1 := by decide
  have key : (BitVec.ofInt 64 n &&& BitVec.ofInt 64 4294967295).toNat = (n % ((2 ^ 64 : Nat) : Int)).toNat % 2 ^ 32 := by
    rw [BitVec.toNat_and, BitVec.toNat_ofInt, h32, Nat.and_two_pow_sub_one_eq_mod]
  show IntKind.i64.wrap ((BitVec.ofInt 64 n &&& BitVec.ofInt 64 4294967295).toNat : Nat) = n % 4294967296
  rw [key, IntKind.wrap_i64]
  omega
theorem wrap32_bdW (n : Int) : -2147483648 ≤ wrap32 n ∧ wrap32 n ≤ 2147483647 := by unfold wrap32; omega
theorem mul_bdW (a b : Int) (ha0 : -2147483648 ≤ a) (ha : a ≤ 2147483647) (hb0 : -2147483648 ≤ b) (hb : b ≤ 2147483647) : -9223372036854775808 ≤ a * b ∧ a * b ≤ 9223372036854775807 := by
  have h1 : a.natAbs ≤ 2147483648 := by omega
  have h2 : b.natAbs ≤ 2147483648 := by omega
  have h3 : (a * b).natAbs ≤ 2147483648 * 2147483648 := by rw [Int.natAbs_mul]; exact Nat.mul_le_mul h1 h2
  omega
theorem ret_intV {k : IntKind} {a b : Int} (h : a = b) : Ending.returned (.int k a) = .returned (.int k b) := by rw [h]
theorem spec_Wrap (n : Int) (w : World) : Calls Tryz.prog 154 #[.int .i64 n] w fun e w' => e = .returned (.int .i64 (wrap32 n)) ∧ w = w' := by
  have ha := i64_and32 n
  go_enter Tryz.func154, Tryz.ntmps154
  go_wp2
  all_goals
    go_ret
    exact ⟨ret_intV (by unfold wrap32; omega), rfl⟩
theorem impl_WrapV (n : Int) (w : World) : Calls Tryz.prog 152 #[.int .i64 n] w fun e w' => e = .returned (.int .i64 (wrap32 n)) ∧ w = w' := by
  go_enter Tryz.func152, Tryz.ntmps152
  go_wp2
  go_ret
  exact ⟨ret_intV (by unfold wrap64 wrap32; omega), rfl⟩
theorem spec_AddW (a b : Int) (w : World) : Calls Tryz.prog 129 #[.int .i64 a, .int .i64 b] w fun e w' => e = .returned (.int .i64 (wrap32 (wrap32 a + wrap32 b))) ∧ w = w' := by
  have ha := wrap32_bdW a
  have hb := wrap32_bdW b
  go_enter Tryz.func129, Tryz.ntmps129
  go_wp2_with (go_at_call 154; refine (spec_Wrap _ _).mono ?_; rintro e w' ⟨rfl, rfl⟩)
  go_ret
  exact ⟨rfl, rfl⟩
theorem impl_AddW (a b : Int) (w : World) : Calls Tryz.prog 124 #[.int .i64 a, .int .i64 b] w fun e w' => e = .returned (.int .i64 (wrap32 (wrap32 a + wrap32 b))) ∧ w = w' := by
  have ha := wrap32_bdW a
  have hb := wrap32_bdW b
  go_enter Tryz.func124, Tryz.ntmps124
  go_wp2_with (go_at_call 152; refine (impl_WrapV _ _).mono ?_; rintro e w' ⟨rfl, rfl⟩)
  go_ret
  exact ⟨rfl, rfl⟩
theorem spec_SubW (a b : Int) (w : World) : Calls Tryz.prog 130 #[.int .i64 a, .int .i64 b] w fun e w' => e = .returned (.int .i64 (wrap32 (wrap32 a - wrap32 b))) ∧ w = w' := by
  have ha := wrap32_bdW a
  have hb := wrap32_bdW b
  go_enter Tryz.func130, Tryz.ntmps130
  go_wp2_with (go_at_call 154; refine (spec_Wrap _ _).mono ?_; rintro e w' ⟨rfl, rfl⟩)
  go_ret
  exact ⟨rfl, rfl⟩
theorem impl_SubW (a b : Int) (w : World) : Calls Tryz.prog 125 #[.int .i64 a, .int .i64 b] w fun e w' => e = .returned (.int .i64 (wrap32 (wrap32 a - wrap32 b))) ∧ w = w' := by
  have ha := wrap32_bdW a
  have hb := wrap32_bdW b
  go_enter Tryz.func125, Tryz.ntmps125
  go_wp2_with (go_at_call 152; refine (impl_WrapV _ _).mono ?_; rintro e w' ⟨rfl, rfl⟩)
  go_ret
  exact ⟨rfl, rfl⟩
theorem wrap_mul (a b : Int) : wrap64 (wrap32 a * wrap32 b) = wrap32 a * wrap32 b := by
  have ha := wrap32_bdW a
  have hb := wrap32_bdW b
  have := mul_bdW _ _ ha.1 ha.2 hb.1 hb.2
  unfold wrap64
  omega
theorem spec_MulW (a b : Int) (w : World) : Calls Tryz.prog 131 #[.int .i64 a, .int .i64 b] w fun e w' => e = .returned (.int .i64 (wrap32 (wrap32 a * wrap32 b))) ∧ w = w' := by
  go_enter Tryz.func131, Tryz.ntmps131
  go_wp2_with (go_at_call 154; refine (spec_Wrap _ _).mono ?_; rintro e w' ⟨rfl, rfl⟩)
  go_ret
  exact ⟨ret_intV (by rw [wrap_mul]), rfl⟩
theorem impl_MulW (a b : Int) (w : World) : Calls Tryz.prog 126 #[.int .i64 a, .int .i64 b] w fun e w' => e = .returned (.int .i64 (wrap32 (wrap32 a * wrap32 b))) ∧ w = w' := by
  go_enter Tryz.func126, Tryz.ntmps126
  go_wp2_with (go_at_call 152; refine (impl_WrapV _ _).mono ?_; rintro e w' ⟨rfl, rfl⟩)
  go_ret
  exact ⟨ret_intV (by rw [wrap_mul]), rfl⟩
end Go.Proofs.YtpinockfakndlaaGreat
namespace Go.Proofs.YtpinockfakndlaaGreat
open Go.RowKit Go.Lib
set_option linter.unusedSimpArgs false
set_option linter.unusedVariables false
def idxGo : List ByteArray → Nat → ByteArray → Int
  | [], _, _ => -1
  | t :: ts, k, s => if t = s then k else idxGo ts (k + 1) s
theorem idxGo_bd (s : ByteArray) : ∀ (ns : List ByteArray) (k : Nat), idxGo ns k s = -1 ∨ ((k : Int) ≤ idxGo ns k s ∧ idxGo ns k s < (k : Int) + ns.length)
  | [], _ => .inl rfl
  | t :: ts, k => by
    rw [idxGo]
    split
    · exact .inr ⟨by omega, by simp; omega⟩
    · rcases idxGo_bd s ts (k + 1) with h | ⟨h1, h2⟩
      · exact .inl h
      · exact .inr ⟨by omega, by simp only [List.length_cons]; omega⟩
theorem slicesIndex_is (ns : List ByteArray) (hn : ns.length ≤ 100000000) (s : ByteArray) (v : Value) (w : World) (hv : TV w 0 v ns) :
    Calls Tryz.prog 57 #[v, .string s] w fun e w' => e = .returned (.int .i64 (idxGo ns 0 s)) ∧ w' = w := by
  obtain ⟨ao, cap, rfl, hr⟩ := hv
  have Hr := hid hr
  clear hr
  go_enter Tryz.func57, Tryz.ntmps57
  go_wp2
  go_loopw [8] (fun i wr => ∃ k : Nat, k ≤ ns.length ∧ i = .int .i64 k ∧ Hid (idxGo ns 0 s = idxGo (ns.drop k) k s) ∧ wr = w) (fun i _ => ns.length - (RowKit.intOf i).toNat)
  case atStart => exact ⟨0, by omega, rfl, (by show idxGo ns 0 s = idxGo (ns.drop 0) 0 s; rw [List.drop_zero]), rfl⟩
  case round =>
    obtain ⟨k, hk, rfl, hg, rfl⟩ := hrel
    by_cases hlt : k < ns.length
    · have hltI : (k : Int) < (ns.length : Int) := by omega
      obtain ⟨t, ht⟩ : ∃ t, ns[k]? = some t := ⟨ns[k], List.getElem?_eq_getElem hlt⟩
      rcases Hr.out with hr | ⟨g, off, rfl, _, gl, hc⟩
      · subst hr; simp at hlt
      have A0 := hc k t ht
      have hd : Hid (ns.drop k = t :: ns.drop (k + 1)) := by
        show ns.drop k = t :: ns.drop (k + 1)
        rw [List.drop_eq_getElem_cons hlt]; congr 1; rw [List.getElem?_eq_getElem hlt] at ht; injection ht
      clear hc ht Hr
      by_cases he : t = s
      · have he2 : Hid (idxGo ns 0 s = (k : Int)) := by show idxGo ns 0 s = (k : Int); rw [hg.out, hd.out, idxGo, if_pos he]
        subst he
        go_wp2
        go_ret
        exact ⟨(by rw [he2.out]; try rfl), rfl⟩
      · have he2 : Hid (idxGo ns 0 s = idxGo (ns.drop (k + 1)) (k + 1) s) := by show idxGo ns 0 s = _; rw [hg.out, hd.out, idxGo, if_neg he]
        have hne := str_ne (fun e => he e.symm)
        go_wp2
        go_roundw
        case rel => exact ⟨k + 1, by omega, by go_num, he2.out, trivial⟩
        case measure => simp [RowKit.intOf]; omega
    · have he2 : Hid (idxGo ns 0 s = -1) := by show idxGo ns 0 s = -1; rw [hg.out, List.drop_of_length_le (by omega)]; rfl
      go_wp2
      go_ret
      exact ⟨(by rw [he2.out]; try rfl), rfl⟩
def varN (ns : List ByteArray) (V : List Int) (s : ByteArray) : Int := if idxGo ns 0 s < 0 then 0 else V[(idxGo ns 0 s).toNat]?.getD 0
theorem varWords1_is (ns : List ByteArray) (hn : ns.length ≤ 100000000) (V : List Int) (hV : V.length ≤ 100000000) (s : ByteArray) (nv vv : Value) (p q : Nat) (w : World) (h1 : TV w 0 nv ns) (h2 : IV w 0 vv V) (c1 : w.cell? ⟨p, 0, Option.none⟩ = some nv) (c2 : w.cell? ⟨q, 0, Option.none⟩ = some vv) :
    Calls Tryz.prog 56 #[.string s, .pointer (some ⟨p, 0, Option.none⟩), .pointer (some ⟨q, 0, Option.none⟩)] w fun e w' => e = .returned (.int .i64 (varN ns V s)) ∧ Below w.heap.size w w' := by
  have H1 := hid h1
  have H2 := hid h2
  obtain ⟨a1, b1, rfl⟩ := h1.shape
  obtain ⟨a2, b2, rfl⟩ := h2.shape
  obtain ⟨i, hi⟩ : ∃ i, idxGo ns 0 s = i := ⟨_, rfl⟩
  have HI := hid hi
  have hbd := idxGo_bd s ns 0
  rw [hi] at hbd
  clear h1 h2 hi
  by_cases hi0 : i < 0
  · have hv : Hid (varN ns V s = 0) := show varN ns V s = 0 by rw [varN, HI.out, if_pos hi0]
    go_enter Tryz.func56, Tryz.ntmps56
    go_wp2_with fail
    refine (slicesIndex_is ns hn s _ _ H1.out).mono ?_
    rintro e w1 ⟨rfl, rfl⟩
    rw [HI.out]
    go_wp2
    go_ret
    exact ⟨(by rw [hv.out]; try rfl), Below.refl _ _⟩
  by_cases hi1 : i ≥ (V.length : Int)
  · have hv : Hid (varN ns V s = 0) := show varN ns V s = 0 by rw [varN, HI.out, if_neg hi0, List.getElem?_eq_none (by omega)]; rfl
    go_enter Tryz.func56, Tryz.ntmps56
    go_wp2_with fail
    refine (slicesIndex_is ns hn s _ _ H1.out).mono ?_
    rintro e w1 ⟨rfl, rfl⟩
    rw [HI.out]
    go_wp2
    go_ret
    exact ⟨(by rw [hv.out]; try rfl), Below.refl _ _⟩
  obtain ⟨k, rfl⟩ : ∃ k : Nat, i = (k : Int) := ⟨i.toNat, by omega⟩
  have hkl : k < V.length := by omega
  obtain ⟨x, hx⟩ : ∃ x, V[k]? = some x := ⟨V[k], List.getElem?_eq_getElem hkl⟩
  obtain ⟨g, off, rfl, A0⟩ := H2.out.at hx
  have hv : Hid (varN ns V s = x) := show varN ns V s = x by rw [varN, HI.out, if_neg hi0, Int.toNat_natCast, hx]; rfl
  clear hx
  go_enter Tryz.func56, Tryz.ntmps56
  go_wp2_with fail
  refine (slicesIndex_is ns hn s _ _ H1.out).mono ?_
  rintro e w1 ⟨rfl, rfl⟩
  rw [HI.out]
  go_wp2
  go_ret
  exact ⟨(by rw [hv.out]; try rfl), Below.refl _ _⟩
theorem enters_varWords (args : Array Value) (w : World) : (callFunc 56 args).run Tryz.prog w = .ok (.enter 56 args) w := enters_of Tryz.func56 (by kernel_rfl) rfl args w
def JV (ns : List ByteArray) (V : List Int) (nv vv : Value) (p q : Nat) (w : World) : Prop := TV w 0 nv ns ∧ IV w 0 vv V ∧ w.cell? ⟨p, 0, Option.none⟩ = some nv ∧ w.cell? ⟨q, 0, Option.none⟩ = some vv
theorem varWords_is (ns : List ByteArray) (V : List Int) (nv vv : Value) (hnv : ∃ a n c, nv = .slice a n c) (hvv : ∃ a n c, vv = .slice a n c) (w : World) :
    Calls Tryz.prog 28 #[nv, vv] w fun e w' => e = .returned (.func (.func 56) #[] #[.pointer (some ⟨w.heap.size, 0, Option.none⟩), .pointer (some ⟨w.heap.size + 1, 0, Option.none⟩)]) ∧ Below w.heap.size w w' ∧ w'.cell? ⟨w.heap.size, 0, Option.none⟩ = some nv ∧ w'.cell? ⟨w.heap.size + 1, 0, Option.none⟩ = some vv := by
  obtain ⟨a1, n1, b1, rfl⟩ := hnv
  obtain ⟨a2, n2, b2, rfl⟩ := hvv
  have hB : Hid (Below w.heap.size w ((w.alloc (.cells #[.slice a1 n1 b1] 57)).alloc (.cells #[.slice a2 n2 b2] 31))) := (aB w _).alloc (by simp) _
  have q0 : Hid (((w.alloc (.cells #[.slice a1 n1 b1] 57)).alloc (.cells #[.slice a2 n2 b2] 31)).cell? ⟨w.heap.size, 0, Option.none⟩ = some (.slice a1 n1 b1)) := cell1 (t := 57) (by rw [Below.heap_alloc _ _ _ (by simp)]; exact heap_last _ _)
  have q1 : Hid (((w.alloc (.cells #[.slice a1 n1 b1] 57)).alloc (.cells #[.slice a2 n2 b2] 31)).cell? ⟨w.heap.size + 1, 0, Option.none⟩ = some (.slice a2 n2 b2)) := by
    have h := heap_last (w.alloc (.cells #[.slice a1 n1 b1] 57)) (.cells #[.slice a2 n2 b2] 31)
    rw [World.size_alloc] at h
    exact cell1 h
  go_enter Tryz.func28, Tryz.ntmps28
  go_wp2
  go_ret
  exact ⟨rfl, hB.out, q0.out, q1.out⟩
theorem lkVars (ns : List ByteArray) (hn : ns.length ≤ 100000000) (V : List Int) (hV : V.length ≤ 100000000) (nv vv : Value) (p q : Nat) : Lk (.func (.func 56) #[] #[.pointer (some ⟨p, 0, Option.none⟩), .pointer (some ⟨q, 0, Option.none⟩)]) (JV ns V nv vv p q) (varN ns V) :=
  ⟨⟨_, _, rfl, enters_varWords, fun w ⟨h1, h2, h3, h4⟩ s => varWords1_is ns hn V hV s nv vv p q w h1 h2 h3 h4⟩, fun w w' ⟨h1, h2, h3, h4⟩ hb => ⟨h1.later hb, h2.later hb, keeps hb h3, keeps hb h4⟩⟩
def opV (k a b : Int) : Int := if k = 4 then wrap32 (wrap32 a + wrap32 b) else if k = 5 then wrap32 (wrap32 a - wrap32 b) else if k = 6 then wrap32 (wrap32 a * wrap32 b) else if k = 7 then (if a < b then a else b) else if a > b then a else b
theorem pairValue_is (k a b : Int) (hk : 4 ≤ k ∧ k ≤ 8) (w : World) :
    Calls Tryz.prog 82 #[.int .i64 k, .int .i64 a, .int .i64 b] w fun e w' => e = .returned (.int .i64 (opV k a b)) ∧ w' = w := by
  have hk' : k = 4 ∨ k = 5 ∨ k = 6 ∨ k = 7 ∨ k = 8 := by omega
  clear hk
  rcases hk' with rfl | rfl | rfl | rfl | rfl
  · go_enter Tryz.func82, Tryz.ntmps82
    go_wp2_with fail
    refine (impl_AddW a b w).mono ?_
    rintro e w1 ⟨rfl, rfl⟩
    go_wp2
    go_ret
    exact ⟨rfl, rfl⟩
  · go_enter Tryz.func82, Tryz.ntmps82
    go_wp2_with fail
    refine (impl_SubW a b w).mono ?_
    rintro e w1 ⟨rfl, rfl⟩
    go_wp2
    go_ret
    exact ⟨rfl, rfl⟩
  · go_enter Tryz.func82, Tryz.ntmps82
    go_wp2_with fail
    refine (impl_MulW a b w).mono ?_
    rintro e w1 ⟨rfl, rfl⟩
    go_wp2
    go_ret
    exact ⟨rfl, rfl⟩
  · have hv : Hid (opV 7 a b = min a b) := show opV 7 a b = min a b by
      by_cases h : a < b
      · simp [opV, h]; omega
      · simp [opV, h]; omega
    go_enter Tryz.func82, Tryz.ntmps82
    go_wp2
    go_ret
    exact ⟨(by rw [hv.out]; try rfl), rfl⟩
  · have hv : Hid (opV 8 a b = max a b) := show opV 8 a b = max a b by
      by_cases h : a > b
      · simp [opV, h]; omega
      · simp [opV, h]; omega
    go_enter Tryz.func82, Tryz.ntmps82
    go_wp2
    go_ret
    exact ⟨(by rw [hv.out]; try rfl), rfl⟩
theorem arrGo_bd (s : ByteArray) : ∀ (ts : List AR) (k : Nat), arrGo ts k s = -1 ∨ ((k : Int) ≤ arrGo ts k s ∧ arrGo ts k s < (k : Int) + ts.length)
  | [], _ => .inl rfl
  | t :: ts, k => by
    rw [arrGo]
    split
    · exact .inr ⟨by omega, by simp; omega⟩
    · rcases arrGo_bd s ts (k + 1) with h | ⟨h1, h2⟩
      · exact .inl h
      · exact .inr ⟨by omega, by simp only [List.length_cons]; omega⟩
def inA (ts : List AR) (A : List (List Int)) (s : ByteArray) (p : Int) : Option Int :=
  if arrGo ts 0 s < 0 then none else if p < 0 then none else (A[(arrGo ts 0 s).toNat]?).bind fun xs => xs[p.toNat]?
def SpotAt (w : World) (sa : Value) (ts : List AR) (s : ByteArray) (p x : Int) (ad : Addr) : Prop :=
  ∃ (k m go oo sl sc g off len c : Nat), arrGo ts 0 s = (k : Int) ∧ p = (m : Int) ∧ sa = .slice (some ⟨go, oo, Option.none⟩) sl sc ∧ w.cell? ⟨go, oo + k, Option.none⟩ = some (.slice (some ⟨g, off, Option.none⟩) len c) ∧ ad = ⟨g, off + m, Option.none⟩ ∧ w.cell? ad = some (.int .i64 x)
def SpotR (w : World) (sa : Value) (ts : List AR) (A : List (List Int)) (s : ByteArray) (p : Int) (e : Ending) : Prop :=
  (inA ts A s p = none ∧ e = .returned (.pointer Option.none)) ∨ ∃ x ad, inA ts A s p = some x ∧ e = .returned (.pointer (some ad)) ∧ SpotAt w sa ts s p x ad
structure PS (w w' : World) (N : Nat) (va vb sa sv so : Value) (en : Int) : Prop where
  p : w'.heap[N]? = some (.cells #[va, vb] 27 (0, 0))
  q : w'.heap[N + 1]? = some (.cells #[sa, sv, so, .int .i64 en] 33 (0, 0))
  b : Below w.heap.size w w'
theorem PS.start (w : World) (va vb sa sv so : Value) (en : Int) : PS w ((w.alloc (.cells #[va, vb] 27)).alloc (.cells #[sa, sv, so, .int .i64 en] 33)) w.heap.size va vb sa sv so en :=
  ⟨by rw [Below.heap_alloc _ _ _ (by simp)]; exact blkLast _ _,
   (congrArg (fun n => ((w.alloc (.cells #[va, vb] 27)).alloc (.cells #[sa, sv, so, .int .i64 en] 33)).heap[n]?) (show w.heap.size + 1 = (w.alloc (.cells #[va, vb] 27)).heap.size by simp)).trans (blkLast _ _),
   (aB w _).alloc (by simp) _⟩
theorem PS.later {w w1 w2 : World} {N : Nat} {va vb sa sv so : Value} {en : Int} (h : PS w w1 N va vb sa sv so en) (hb : Below w1.heap.size w1 w2) : PS w w2 N va vb sa sv so en :=
  ⟨(hb.block _ (lt_heap h.p)).trans h.p, (hb.block _ (lt_heap h.q)).trans h.q, h.b.trans (hb.mono h.b.size)⟩
theorem sizeProg2 : (Tryz.prog.info? 27).map (·.size) = some 2 := by kernel_rfl
theorem sizeSto2 : (Tryz.prog.info? 33).map (·.size) = some 4 := by kernel_rfl
theorem spotOf_is (ts : List AR) (hn : ts.length ≤ 1048576) (A : List (List Int)) (hA : A.length ≤ 100000000) (hAi : ∀ xs ∈ A, xs.length ≤ 100000000) (s : ByteArray) (p : Int) (va vb sa sv so : Value) (en : Int) (hvb : vb.oneCell' = true) (hsv : sv.oneCell' = true) (hso : so.oneCell' = true) (w : World) (ha : AV w 0 va ts) (hi : IIV w 0 sa A) :
    Calls Tryz.prog 123 #[.agg #[va, vb], .agg #[sa, sv, so, .int .i64 en], .string s, .int .i64 p] w fun e w' => SpotR w sa ts A s p e ∧ Below w.heap.size w w' := by
  have HA := hid ha
  have HI := hid hi
  obtain ⟨a1, b1, rfl⟩ := ha.shape
  obtain ⟨a2, b2, rfl⟩ := hi.shape
  have P0 := hid (PS.start w (.slice a1 ts.length b1) vb (.slice a2 A.length b2) sv so en)
  have RP : Hid (((w.alloc (.cells #[.slice a1 ts.length b1, vb] 27)).alloc (.cells #[.slice a2 A.length b2, sv, so, .int .i64 en] 33)).rangeAt w.heap.size 0 [.slice a1 ts.length b1, vb]) := blk_range P0.out.p
  obtain ⟨i, hiv⟩ : ∃ i, arrGo ts 0 s = i := ⟨_, rfl⟩
  have HV := hid hiv
  have hbd := arrGo_bd s ts 0
  rw [hiv] at hbd
  clear ha hi hiv
  go_enter Tryz.func123, Tryz.ntmps123
  go_wp2_with (refine wpList_load_mid rfl 27 _ rfl w.heap.size 0 rfl _ _ RP.out Tryz.underlying27 rfl sizeProg2 ?_)
  refine (impl_ArrAt ts hn s _ _ hvb _ (HA.out.later P0.out.b)).mono ?_
  rintro e w1 ⟨rfl, hb1⟩
  rw [HV.out]
  have P1 := hid (P0.out.later hb1)
  have I1 := hid (HI.out.later P1.out.b)
  obtain ⟨⟨q0, _, _, _⟩, _⟩ := blk4 P1.out.q
  clear hb1 P0 RP
  by_cases h0 : i < 0
  · have hr : Hid (inA ts A s p = none) := show inA ts A s p = none by rw [inA, HV.out, if_pos h0]
    go_wp2
    go_ret
    exact ⟨.inl ⟨hr.out, rfl⟩, P1.out.b⟩
  by_cases h1 : i ≥ (A.length : Int)
  · have hr : Hid (inA ts A s p = none) := show inA ts A s p = none by
      rw [inA, HV.out, if_neg h0]
      split
      · rfl
      · rw [List.getElem?_eq_none (by omega)]; rfl
    go_wp2
    go_ret
    exact ⟨.inl ⟨hr.out, rfl⟩, P1.out.b⟩
  by_cases h2 : p < 0
  · have hr : Hid (inA ts A s p = none) := show inA ts A s p = none by rw [inA, HV.out, if_neg h0, if_pos h2]
    go_wp2
    go_ret
    exact ⟨.inl ⟨hr.out, rfl⟩, P1.out.b⟩
  obtain ⟨k, rfl⟩ : ∃ k : Nat, i = (k : Int) := ⟨i.toNat, by omega⟩
  obtain ⟨m, rfl⟩ : ∃ m : Nat, p = (m : Int) := ⟨p.toNat, by omega⟩
  obtain ⟨xs, hxs⟩ : ∃ xs, A[k]? = some xs := ⟨A[k]'(by omega), List.getElem?_eq_getElem _⟩
  have hkl : (k : Int) < (A.length : Int) := by omega
  obtain ⟨g, off, u, rfl, A0, hu⟩ := I1.out.at hxs
  have A0w : Hid (w.cell? ⟨g, off + k, Option.none⟩ = some u) := by
    obtain ⟨g', off', u', e, c, _⟩ := HI.out.at hxs
    injection e with e
    injection e with e1 e2
    subst e1; subst e2
    have := keeps P1.out.b c
    rw [A0] at this
    show w.cell? ⟨g, off + k, Option.none⟩ = some u
    rw [c, this]
  have hxl := hAi xs (List.mem_of_getElem? hxs)
  have Hu := hid hu
  obtain ⟨pa, qa, rfl⟩ := hu.shape
  by_cases h3 : (m : Int) ≥ (xs.length : Int)
  · have hr : Hid (inA ts A s (m : Int) = none) := show inA ts A s (m : Int) = none by
      rw [inA, HV.out, if_neg h0, if_neg h2, Int.toNat_natCast, Int.toNat_natCast, hxs]
      exact List.getElem?_eq_none (by omega)
    clear hxs hu
    go_wp2
    go_ret
    exact ⟨.inl ⟨hr.out, rfl⟩, P1.out.b⟩
  obtain ⟨x, hx⟩ : ∃ x, xs[m]? = some x := ⟨xs[m]'(by omega), List.getElem?_eq_getElem _⟩
  have hml : (m : Int) < (xs.length : Int) := by omega
  obtain ⟨g2, off2, rfl, B0⟩ := Hu.out.at hx
  have hr : Hid (inA ts A s (m : Int) = some x) := show inA ts A s (m : Int) = some x by
    rw [inA, HV.out, if_neg h0, if_neg h2, Int.toNat_natCast, Int.toNat_natCast, hxs]
    exact hx
  have B0w : Hid (w.cell? ⟨g2, off2 + m, Option.none⟩ = some (.int .i64 x)) := by
    obtain ⟨g', off', u', e, c, hu'⟩ := HI.out.at hxs
    injection e with e
    injection e with e1 e2
    subst e1; subst e2
    have e3 : some u' = some _ := c.symm.trans A0w.out
    injection e3 with e3
    subst e3
    obtain ⟨g3, off3, e4, c4⟩ := hu'.at hx
    injection e4 with e4
    injection e4 with e5 e6
    subst e5; subst e6
    exact c4
  clear hxs hx hu
  go_wp2
  go_ret
  exact ⟨.inr ⟨x, _, hr.out, rfl, ⟨k, m, g, off, _, _, g2, off2, _, _, HV.out, rfl, rfl, A0w.out, rfl, B0w.out⟩⟩, P1.out.b⟩
end Go.Proofs.YtpinockfakndlaaGreat
