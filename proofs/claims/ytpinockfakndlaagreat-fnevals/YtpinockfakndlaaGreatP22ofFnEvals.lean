import Derived.Test.YtpinockfakndlaaGreatZp
import Derived.Test.YtpinockfakndlaaGreatP06ofFnEvals
import Derived.Test.YtpinockfakndlaaGreatP21ofFnEvals
import Derived.Test.YtpinockfakndlaaGreatP14ofFnEvals
import Derived.Laws.OwnMore
import Derived.Deep.AppendLies
import Derived.Deep.RegionHeld
import Derived.Deep.Cut
import Derived.Deep.QuietTactic
import Derived.BigQuiet
import Derived.Test.YtpinockfakndlaaGreatP02ofFnEvals
import Derived.Test.YtpinockfakndlaaGreatP01ofFnEvals
import Derived.Test.YtpinockfakndlaaGreatP03ofFnEvals
import Derived.Test.YtpinockfakndlaaGreatP00ofFnEvals
import Derived.ProofKit
import Derived.OpenShut
import Derived.ShutString
import Derived.ChangeOld
import Derived.Deep.Slices
set_option maxHeartbeats 4000000
set_option maxRecDepth 100000
namespace Go.Proofs.YtpinockfakndlaaGreat
open Go.RowKit Go.Lib
set_option linter.unusedSimpArgs false
set_option linter.unusedVariables false
theorem blkLast5 (v : World) (o : Obj) : (v.alloc o).heap[v.heap.size]? = some o := by show (v.heap.push o)[v.heap.size]? = _; simp
theorem ownShape5 {w : World} {B sz n : Nat} {e : TypeId} {v : Value} {xs : List Value} (h : w.ownsRow B e sz v n xs) : ∃ a c, v = .slice a n c := by
  rcases h.2 with ⟨h1, h0⟩ | ⟨g, cap, cur, h1, _⟩
  · exact ⟨_, _, by rw [h0]; exact h1⟩
  · exact ⟨_, _, h1⟩
theorem acells_one : ∀ (bs : List AR), ∀ u ∈ acells bs, u.oneCell' = true
  | [], u, h => by simp [acells] at h
  | b :: bs, u, h => by
    rw [acells] at h
    rcases List.mem_cons.1 h with rfl | h
    · rfl
    · rcases List.mem_cons.1 h with rfl | h
      · rfl
      · exact acells_one bs u h
def SrcR (w : World) (ao : Option Addr) (bs : List AR) : Prop := (ao = Option.none ∧ bs = []) ∨ ∃ g, ao = some ⟨g, 0, Option.none⟩ ∧ ∀ (j : Nat) (u : Value), (acells bs)[j]? = some u → w.cell? ⟨g, j, Option.none⟩ = some u
theorem SrcR.later {w w' : World} {ao : Option Addr} {bs : List AR} (h : SrcR w ao bs) (hb : Below w.heap.size w w') : SrcR w' ao bs := by
  rcases h with h | ⟨g, h1, h2⟩
  · exact .inl h
  · exact .inr ⟨g, h1, fun j u hj => keeps hb (h2 j u hj)⟩
theorem infoAr : (Tryz.prog.info? 82).map (fun i => (i.zero, i.size, i.bytes)) = some (some (.agg #[.string ⟨#[]⟩, .int .i64 0]), 2, 24) := by kernel_rfl
theorem appR {w : World} {B : Nat} {v : Value} {n : Nat} {xs : List Value} {ao : Option Addr} {bs : List AR} {cap : Nat} (hown : w.ownsRow B 82 2 v n xs) (hB : B ≤ w.heap.size) (hs : SrcR w ao bs) (hc : ao = Option.none → cap = 0) (hn : n + bs.length ≤ 1000000) (ty : TypeId) :
    ∃ v' w', (Builtin.append_ #[24, 24] ty #[v, .slice ao bs.length cap]).run Tryz.prog w = .ok v' w' ∧ w'.ownsRow B 82 2 v' (n + bs.length) (xs ++ acells bs) ∧ w.grownBy w' v.ownBlock ∧ ∀ g, v'.ownBlock = some g → v.ownBlock = some g ∨ g = w.heap.size := by
  obtain ⟨i0, hi, hz0, hz1, hz2⟩ := info_parts infoAr
  rcases hs with ⟨rfl, rfl⟩ | ⟨g, rfl, hg⟩
  · obtain rfl := hc rfl
    refine ⟨v, w, run_append_owned_none (P := Tryz.prog) (w := w) B 24 ty 82 i0 2 Tryz.underlying24 hi v n xs hown, by simpa [acells] using hown, World.grownBy.refl _ _, fun g h => .inl h⟩
  · obtain ⟨v', w', h1, h2, h3, _, h5⟩ := run_append_own_at (P := Tryz.prog) w B 24 ty 82 i0 _ 2 24 Tryz.underlying24 hi hz0 hz1 hz2 rfl (by decide) v n xs hown ⟨g, 0, Option.none⟩ bs.length cap (acells bs) (acells_len bs) (fun j u hj => by
        have e : (⟨g, 0, Option.none⟩ : Addr).add j = ⟨g, j, Option.none⟩ := by simp [Addr.add]; omega
        rw [e]; exact hg j u hj) (acells_one bs) (by unfold maxLen; omega) (by omega) hB
    refine ⟨v', w', h1, h2, h3, fun g' hg' => ?_⟩
    rcases h5 with h5 | h5
    · exact .inl (by rw [← h5]; exact hg')
    · rw [hg'] at h5; injection h5 with h5; exact .inr h5
section
variable {P : Program} {w w' : World}
theorem wp_appR {o : Oper} {a : Act} {K : Act → World → Prop} {Q : Exit → Act → World → Prop} (s x : Operand) (t : TypeId) (v sx v' : Value) (ho : o.op = .call { callee := .builtin .append, args := #[s, x], argTypes := #[t, t] })
    (hs : a.eval s = v) (hx : a.eval x = sx) (hrun : (Builtin.append_ #[t, t] o.type #[v, sx]).run P w = .ok v' w') (h : K (a.put o.dst v') w') : o.wp P a w K Q := by
  unfold Oper.wp execOp
  simp only [ho, resolve, invoke, builtin, Sem.run_bind, Sem.run_pure, Result.andThen_ok, List.map_toArray, List.map_cons, List.map_nil, hs, hx, hrun]
  exact h
end
theorem own_newR (w : World) {B : Nat} (hB : B ≤ w.heap.size) (t : TypeId) (sz : Nat) : (w.alloc (.cells #[] t)).ownsRow B t sz (.slice (some ⟨w.heap.size, 0, Option.none⟩) 0 0) 0 [] :=
  ⟨by simp, .inr ⟨w.heap.size, 0, #[], rfl, hB, blkLast5 w _, by omega, by simp [maxLen], by simp, by simp⟩⟩
def posA (l : List AR) (a : AR) : Nat → Nat
  | 0 => 0
  | k + 1 => if blt a.s (l[k]?.getD ⟨⟨#[]⟩, 0⟩).s = true then posA l a k else k + 1
def insA (l : List AR) (a : AR) : List AR := l.take (posA l a l.length) ++ a :: l.drop (posA l a l.length)
theorem posA_le (l : List AR) (a : AR) : ∀ k, posA l a k ≤ k
  | 0 => Nat.le_refl _
  | k + 1 => by
    rw [posA]
    split
    · exact Nat.le_succ_of_le (posA_le l a k)
    · exact Nat.le_refl _
theorem insA_len (l : List AR) (a : AR) : (insA l a).length = l.length + 1 := by
  have := posA_le l a l.length
  simp only [insA, List.length_append, List.length_take, List.length_cons, List.length_drop]; omega
def ArrO (w : World) (B : Nat) (v : Value) (l : List AR) : Prop := ∃ xs, w.ownsRow B 82 2 v l.length xs ∧ xs = acells l
theorem ArrO.src {w : World} {B : Nat} {v : Value} {l : List AR} (h : ArrO w B v l) : ∃ ao cap, v = .slice ao l.length cap ∧ SrcR w ao l ∧ (ao = Option.none → cap = 0) := by
  obtain ⟨xs, h, rfl⟩ := h
  rcases h.2 with ⟨e1, e0⟩ | ⟨g, cap, cur, e1, e2, e3, e4, _⟩
  · exact ⟨Option.none, 0, by rw [e0]; exact e1, .inl ⟨rfl, List.length_eq_zero_iff.1 e0⟩, fun _ => rfl⟩
  · subst e1
    exact ⟨_, cap, rfl, .inr ⟨g, rfl, fun j u hu => own_cell h hu⟩, fun e => by cases e⟩
theorem ArrO.av {w : World} {B : Nat} {v : Value} {l : List AR} (h : ArrO w B v l) : AV w B v l := by
  obtain ⟨xs, h, rfl⟩ := h
  rcases h.2 with ⟨e1, e0⟩ | ⟨g, cap, cur, e1, e2, e3, e4, _⟩
  · exact ⟨Option.none, 0, by rw [e0]; exact e1, .inl (List.length_eq_zero_iff.1 e0)⟩
  · subst e1
    refine ⟨_, cap, rfl, .inr ⟨g, 0, rfl, e2, lt_heap e3, fun i t hi => ?_⟩⟩
    obtain ⟨h1, h2⟩ := acells_get l i t hi
    rw [Nat.zero_add]
    exact ⟨own_cell h h1, own_cell h h2⟩
theorem ArrO.later {w w' : World} {B : Nat} {v : Value} {l : List AR} (h : ArrO w B v l) (hb : Below w.heap.size w w') : ArrO w' B v l := by
  obtain ⟨xs, h, e⟩ := h; exact ⟨xs, ownB h hb, e⟩
theorem ArrO.wr {w w' : World} {b B : Nat} {v : Value} {l : List AR} (h : ArrO w B v l) (hw : Wr b w w') (hb : b < B) : ArrO w' B v l := by
  obtain ⟨xs, h, e⟩ := h
  refine ⟨xs, ⟨h.1, ?_⟩, e⟩
  rcases h.2 with h0 | ⟨g, cap, cur, h1, h2, h3, h4⟩
  · exact .inl h0
  · exact .inr ⟨g, cap, cur, h1, h2, (hw.block g (lt_heap h3) (by omega)).trans h3, h4⟩
theorem own_put2 {w : World} {B g n c k : Nat} {e : TypeId} {xs : List Value} (h : w.ownsRow B e 2 (.slice (some ⟨g, 0, Option.none⟩) n c) n xs) (hk : k < n) (y z : Value) :
    ((w.setCell ⟨g, k * 2, Option.none⟩ y).setCell ⟨g, k * 2 + 1, Option.none⟩ z).ownsRow B e 2 (.slice (some ⟨g, 0, Option.none⟩) n c) n ((xs.set (k * 2) y).set (k * 2 + 1) z) := by
  rcases h.2 with ⟨h1, h0⟩ | ⟨g', cap, cur, h1, h2, h3, h4, h5, h6, h7⟩
  · cases h1
  · injection h1 with e1 e2 e3
    injection e1 with e1
    injection e1 with e1 _
    subst e1; subst e3
    have b1 := Go.heap_setCell_same w g (k * 2) _ _ y h3
    have b2 := Go.heap_setCell_same _ g (k * 2 + 1) _ _ z b1
    refine ⟨by simp [h.1], .inr ⟨g, c, _, rfl, h2, b2, h4, h5, by simp [h6], ?_⟩⟩
    rw [← h7]
    simp only [Array.toList_setIfInBounds, List.take_set]
theorem acells_set : ∀ (l : List AR) (k : Nat) (y : AR), ((acells l).set (k * 2) (.string y.s)).set (k * 2 + 1) (.int .i64 y.n) = acells (l.set k y)
  | [], _, _ => rfl
  | x :: l, 0, y => rfl
  | x :: l, k + 1, y => by
    have h := acells_set l k y
    rw [show (k + 1) * 2 = k * 2 + 1 + 1 by omega]
    simp only [acells, List.set_cons_succ, h]
theorem shift_set (l : List AR) (k : Nat) (y z : AR) (hk : k < l.length) (hz : l[k]? = some z) : (l.take (k + 1) ++ y :: l.drop (k + 1)).set (k + 1) z = l.take k ++ z :: l.drop k := by
  have h1 : l.take (k + 1) = l.take k ++ [z] := by rw [List.take_add_one, hz]; rfl
  have h2 : l.drop k = z :: l.drop (k + 1) := by rw [List.drop_eq_getElem_cons hk]; congr 1; rw [List.getElem?_eq_getElem hk] at hz; injection hz
  have h3 : (l.take (k + 1)).length = k + 1 := by rw [List.length_take]; omega
  rw [List.set_append_right _ _ (by omega), h3, Nat.sub_self, List.set_cons_zero, h1, h2, List.append_assoc]; rfl
theorem last_set (l : List AR) (k : Nat) (y a : AR) (hk : k ≤ l.length) : (l.take k ++ y :: l.drop k).set k a = l.take k ++ a :: l.drop k := by
  have h3 : (l.take k).length = k := by rw [List.length_take]; omega
  rw [List.set_append_right _ _ (by omega), h3, Nat.sub_self, List.set_cons_zero]
theorem mid_len (l : List AR) (k : Nat) (y : AR) (hk : k ≤ l.length) : (l.take k ++ y :: l.drop k).length = l.length + 1 := by
  simp only [List.length_append, List.length_take, List.length_cons, List.length_drop]; omega
theorem mid_get (l : List AR) (k j : Nat) (y z : AR) (hj : j < k) (hz : l[j]? = some z) : (l.take k ++ y :: l.drop k)[j]? = some z := by
  have hl := (List.getElem?_eq_some_iff.1 hz).1
  rw [List.getElem?_append_left (by rw [List.length_take]; omega), List.getElem?_take_of_lt hj]; exact hz
theorem drewN_below5 (w : World) (n : Nat) : Below w.heap.size w (w.drewN n) := ⟨rfl, rfl, rfl, Nat.le_refl _, fun _ _ => rfl⟩
theorem ArrO.lower {w : World} {B C : Nat} {v : Value} {l : List AR} (h : ArrO w B v l) (hc : C ≤ B) : ArrO w C v l := by
  obtain ⟨xs, h, e⟩ := h
  refine ⟨xs, ⟨h.1, ?_⟩, e⟩
  rcases h.2 with h0 | ⟨g, cap, cur, h1, h2, h3⟩
  · exact .inl h0
  · exact .inr ⟨g, cap, cur, h1, Nat.le_trans hc h2, h3⟩
theorem ArrO.there {w : World} {B g n c k : Nat} {l : List AR} (h : ArrO w B (.slice (some ⟨g, 0, Option.none⟩) n c) l) (hk : k < l.length) : w.there g (k * 2) 2 := by
  obtain ⟨xs, h, rfl⟩ := h
  rcases h.2 with ⟨h1, h0⟩ | ⟨g', cap, cur, h1, h2, h3, h4, h5, h6, h7⟩
  · cases h1
  · injection h1 with e1 e2 e3
    injection e1 with e1
    injection e1 with e1 _
    subst e1
    intro j hj
    have hlt : k * 2 + j < cur.size := by rw [h6]; omega
    refine ⟨?_, by simp [World.frozen?, h3]⟩
    simp [World.cell?, h3, Array.getElem?_eq_getElem hlt]
theorem ArrO.at {w : World} {B g n c k : Nat} {l : List AR} {x : AR} (h : ArrO w B (.slice (some ⟨g, 0, Option.none⟩) n c) l) (hx : l[k]? = some x) : w.rangeAt g (k * 2) [.string x.s, .int .i64 x.n] := by
  obtain ⟨xs, h, rfl⟩ := h
  have hn : n = l.length := by
    rcases h.2 with ⟨h1, h0⟩ | ⟨g', cap, cur, h1, _⟩
    · cases h1
    · injection h1
  subst hn
  obtain ⟨h1, h2⟩ := acells_get l k x hx
  intro j z hj
  match j, hj with
  | 0, hj => simp at hj; subst hj; exact own_cell h h1
  | 1, hj => simp at hj; subst hj; exact own_cell h h2
  | j + 2, hj => simp at hj
theorem blt_cases (a x : ByteArray) (h : blt a x = true) : Op.bytesLess x.toList a.toList = false ∧ (x.toList == a.toList) = false := by
  have h1 := (blt_iff a x).1 h
  constructor
  · cases h2 : Op.bytesLess x.toList a.toList with
    | false => rfl
    | true => exact absurd (List.lt_trans h1 ((blt_iff x a).1 h2)) (List.lt_irrefl _)
  · cases h2 : x.toList == a.toList with
    | false => rfl
    | true =>
      have h3 : x.toList = a.toList := by simpa using h2
      rw [ByteArray.toList_eq, ByteArray.toList_eq] at h3
      rw [h3] at h1
      exact absurd h1 (List.lt_irrefl _)
theorem blt_not (a x : ByteArray) (h : blt a x = false) : Op.bytesLess x.toList a.toList = true ∨ (Op.bytesLess x.toList a.toList = false ∧ (x.toList == a.toList) = true) := by
  cases h2 : Op.bytesLess x.toList a.toList with
  | true => exact .inl rfl
  | false =>
    right
    refine ⟨rfl, ?_⟩
    have h1 : ¬ a.data.toList < x.data.toList := fun e => by rw [(blt_iff a x).2 e] at h; cases h
    have h3 : ¬ x.data.toList < a.data.toList := fun e => by have := (blt_iff x a).2 e; unfold blt at this; rw [this] at h2; cases h2
    have h4 : x.data.toList = a.data.toList := List.le_antisymm (List.not_lt.1 h1) (List.not_lt.1 h3)
    rw [ByteArray.toList_eq, ByteArray.toList_eq, h4]
    simp
theorem all2a (x y : Value) (h1 : x.oneCell' = true) (h2 : y.oneCell' = true) : (#[x, y] : Array Value).all (·.oneCell') = true := by simp [h1, h2]
theorem l5Arr_is (l : List AR) (hl : l.length ≤ 1000) (a : AR) (B : Nat) (v : Value) (w : World) (hB : B ≤ w.heap.size) (hv : ArrO w B v l) :
    Calls Tryz.prog 93 #[v, .agg #[.string a.s, .int .i64 a.n]] w fun e w' => ∃ v', e = .returned v' ∧ ArrO w' w.heap.size v' (insA l a) ∧ Below w.heap.size w w' := by
  obtain ⟨ao, cap, rfl, hsrc, hcap⟩ := hv.src
  have HSRC := hid hsrc
  have HCAP := hid hcap
  have hbA := aB w (.cells #[.string a.s, .int .i64 a.n] 82)
  have BA := hid hbA
  have RA : Hid ((w.alloc (.cells #[.string a.s, .int .i64 a.n] 82)).rangeAt w.heap.size 0 [.string a.s, .int .i64 a.n]) := blk_range (arr := #[.string a.s, .int .i64 a.n]) (blkLast5 _ _)
  clear hsrc hcap hbA hv
  go_enter Tryz.func93, Tryz.ntmps93
  go_wp2_with fail
  go_cut [5] from 7 to 12 (fun v5 wx => ∃ g c, v5 = .slice (some ⟨g, 0, Option.none⟩) (l.length + 1) c ∧ wx.ownsRow (w.heap.size + 1) 82 2 (.slice (some ⟨g, 0, Option.none⟩) (l.length + 1) c) (l.length + 1) (acells l ++ [.string a.s, .int .i64 a.n]) ∧ wx.rangeAt w.heap.size 0 [.string a.s, .int .i64 a.n] ∧ Below w.heap.size w wx)
  case first =>
    have bd : Below (w.alloc (.cells #[.string a.s, .int .i64 a.n] 82)).heap.size (w.alloc (.cells #[.string a.s, .int .i64 a.n] 82)) (w.alloc (.cells #[.string a.s, .int .i64 a.n] 82)).drew := (Below.refl _ _).drew
    have HLW := hid (BA.out.trans (bd.mono BA.out.size))
    have hH0 := rangeAt_later RA.out bd
    have hBW : w.heap.size < (w.alloc (.cells #[.string a.s, .int .i64 a.n] 82)).drew.heap.size := by have := bd.size; rw [World.size_alloc] at this; omega
    obtain ⟨W, hW⟩ : ∃ W, (w.alloc (.cells #[.string a.s, .int .i64 a.n] 82)).drew = W := ⟨_, rfl⟩
    refine wp_region_held_drew (S := fun w' => w'.rangeAt w.heap.size 0 [.string a.s, .int .i64 a.n]) (by kernel_rfl) hH0 (fun hHeld => ?_)
    rw [hW] at hHeld HLW hBW ⊢
    have hge : w.heap.size + 1 ≤ W.heap.size := by omega
    have LB := hid (Below.refl W.heap.size W)
    obtain ⟨i0, hi, hz0, hz1, hz2⟩ := info_parts infoAr
    have HI0 := hid (And.intro hi (And.intro hz0 (And.intro hz1 hz2)))
    clear hW bd hH0 BA RA hi hz0 hz1 hz2
    refine wpAnyH_take (i := 1) (v := .slice ao l.length cap) rfl (by kernel_rfl) (by kernel_rfl) (by kernel_rfl) (fun _ _ _ => id) (Or.inl ⟨by rfl, ?ra1⟩) hHeld ?_
    case ra1 => intro w hSw; go_simp
    simp only [Act.put, zp]
    refine wpAnyH_take (i := 3) (v := .agg ([.string a.s, .int .i64 a.n] : List Value).toArray) rfl (by kernel_rfl) (by kernel_rfl) (by kernel_rfl) (fun _ _ _ => id) (yieldsIf_load_mid (by rfl) 82 _ rfl (w.heap.size) (0) rfl [.string a.s, .int .i64 a.n] _ (fun w h => h) Tryz.underlying82 rfl sizeIA) hHeld ?_
    simp only [Act.put, zp]
    refine wpAnyH_ready (rs := [0, 4]) (by kernel_rfl) (by simp) ?_
    refine AllReadyH.cons rfl (fun K hK => ?_) (AllReadyH.cons rfl (fun K hK => ?_) AllReadyH.nil)
    · rw [if_pos (by rfl)]
      simp only [zq]
      go_wp2_with fail
      have hb := aB W (.cells #[] 82)
      refine hK.out _ _ (rangeAt_later hHeld hb) (fun hHeld => ?_)
      have O := hid (own_newR W hge 82 2)
      have LB2 := hid (LB.out.trans (hb.mono LB.out.size))
      have hz2 : Hid ((W.alloc (.cells #[] 82)).heap.size = W.heap.size + 1) := World.size_alloc _ _
      obtain ⟨W1, hY⟩ : ∃ W1, W.alloc (.cells #[] 82) = W1 := ⟨_, rfl⟩
      rw [hY] at hHeld O LB2 hz2 ⊢
      obtain ⟨go, hgo⟩ : ∃ go, W.heap.size = go := ⟨_, rfl⟩
      have HGO := hid hgo
      rw [hgo] at O hz2 ⊢
      clear hgo
      have hge1 : w.heap.size + 1 ≤ W1.heap.size := by have := hz2.out; have := HGO.out; omega
      have hgo2 : W.heap.size ≤ go := by have := LB.out.size; have := HGO.out; omega
      clear hK hY hb LB
      have LB := LB2
      clear LB2
      refine wpAnyH_ready (rs := [2, 4]) (by kernel_rfl) (by simp) ?_
      refine AllReadyH.cons rfl (fun K hK => ?_) (AllReadyH.cons rfl (fun K hK => ?_) AllReadyH.nil)
      · rw [if_pos (by rfl)]
        simp only [zq]
        obtain ⟨v1, W2, hrun, hown, hgr, hblk⟩ := appR (cap := cap) O.out hge1 (HSRC.out.later (HLW.out.trans (LB.out.mono HLW.out.size))) HCAP.out (by omega) 24
        rw [Nat.zero_add, List.nil_append] at hown
        obtain ⟨a1, k1, rfl⟩ := ownShape5 hown
        have hb : Below W.heap.size W1 W2 := (Below.refl _ _).grown hgr LB.out.size (fun k hk => by have h9 : go = k := (by simpa [Value.ownBlock] using hk); omega)
        refine wp_appR _ _ 24 _ _ _ (by rfl) (by rfl) (by rfl) hrun ?_
        have hH2 : W2.rangeAt w.heap.size 0 [.string a.s, .int .i64 a.n] := fun j z hj => (hb.cell (p := ⟨w.heap.size, 0 + j, Option.none⟩) hBW).trans (hHeld j z hj)
        refine hK.out _ _ hH2 (fun hHeld => ?_)
        have LB2 := hid (LB.out.trans hb)
        have O2 := hid hown
        have HBK : Hid (∀ g, (Value.slice a1 l.length k1).ownBlock = some g → W.heap.size ≤ g) := fun g hg => by
          rcases hblk g hg with e | e
          · have h9 : go = g := (by simpa [Value.ownBlock] using e)
            omega
          · have := LB.out.size; omega
        have hge2 : w.heap.size + 1 ≤ W2.heap.size := by have := hgr.size; omega
        clear hK LB hrun hown hgr hblk hb O hge1 hH2
        have LB := LB2
        have O := O2
        have hge1 := hge2
        clear LB2 O2 hge2
        refine wpAnyH_ready (rs := [4]) (by kernel_rfl) (by simp) ?_
        refine AllReadyH.cons rfl (fun K hK => ?_) AllReadyH.nil
        rw [if_pos (by rfl)]
        simp only [zq]
        go_wp2_with fail
        have hb := aB W2 (.cells #[.string a.s, .int .i64 a.n] 82)
        refine hK.out _ _ (rangeAt_later hHeld hb) (fun hHeld => ?_)
        have EL : Hid (∀ (j : Nat) (u : Value), [.string a.s, .int .i64 a.n][j]? = some u → (W2.alloc (.cells #[.string a.s, .int .i64 a.n] 82)).cell? ((⟨W2.heap.size, 0, Option.none⟩ : Addr).add j) = some u) := World.news_of_block (cs := #[.string a.s, .int .i64 a.n]) (blkLast5 _ _)
        have LB2 := hid (LB.out.trans (hb.mono LB.out.size))
        have hz3 : Hid ((W2.alloc (.cells #[.string a.s, .int .i64 a.n] 82)).heap.size = W2.heap.size + 1) := World.size_alloc _ _
        have O2 := hid (ownB O.out hb)
        obtain ⟨W3, hY⟩ : ∃ W3, W2.alloc (.cells #[.string a.s, .int .i64 a.n] 82) = W3 := ⟨_, rfl⟩
        rw [hY] at hHeld EL LB2 hz3 O2 ⊢
        obtain ⟨ge, hgee⟩ : ∃ ge, W2.heap.size = ge := ⟨_, rfl⟩
        have HGE := hid hgee
        rw [hgee] at EL hz3 ⊢
        clear hgee
        have hge2 : w.heap.size + 1 ≤ W3.heap.size := by have := hz3.out; have := HGE.out; omega
        clear hK hY hb LB hge1 O
        have hge1 := hge2
        have LB := LB2
        clear LB2 hge2
        have O := O2
        clear O2
        refine wpAnyH_ready (rs := [5]) (by kernel_rfl) (by simp) ?_
        refine AllReadyH.cons rfl (fun K hK => ?_) AllReadyH.nil
        rw [if_pos (by rfl)]
        simp only [zq]
        refine wp_append_lies _ _ _ 24 (by rfl) (w.heap.size + 1) 82 i0 _ 2 24 Tryz.underlying24 HI0.out.1 HI0.out.2.1 HI0.out.2.2.1 HI0.out.2.2.2 rfl (by decide) _ l.length (acells l) (by rfl) O.out ⟨ge, 0, Option.none⟩ 1 1 [.string a.s, .int .i64 a.n] (by rfl) (by rfl) EL.out (by intro u hu; simp at hu; rcases hu with rfl | rfl <;> rfl) (by decide) (by unfold maxLen; omega) (by omega) hge1 W3.heap.size rfl ?_
        intro g c4 W4 hown hgr hat hlt
        have hb : Below W.heap.size W3 W4 := (Below.refl _ _).grown hgr LB.out.size (fun k hk => HBK.out k hk)
        have hH2 : W4.rangeAt w.heap.size 0 [.string a.s, .int .i64 a.n] := fun j z hj => (hb.cell (p := ⟨w.heap.size, 0 + j, Option.none⟩) hBW).trans (hHeld j z hj)
        refine hK.out _ _ hH2 (fun hHeld => ?_)
        have LB4 := hid (LB.out.trans hb)
        have OW := hid hown
        clear hK hown hgr hat hlt hb LB O EL HBK hH2
        refine wpAnyH_take (i := 6) (v := .slice (some ⟨g, 0, Option.none⟩) (l.length + 1) c4) rfl (by kernel_rfl) (by kernel_rfl) (by kernel_rfl) (fun _ _ _ => id) (Or.inl ⟨by rfl, ?qa6⟩) hHeld ?_
        case qa6 => intro w hSw; go_simp
        simp only [Act.put, zp]
        refine wpAnyH_done (by kernel_rfl) ?_ _
        go_wp2_with fail
        go_meet
        exact ⟨g, c4, rfl, OW.out, hHeld, HLW.out.trans (LB4.out.mono HLW.out.size)⟩
      · rw [if_pos (by rfl)]
        simp only [zq]
        go_wp2_with fail
        have hb := aB W1 (.cells #[.string a.s, .int .i64 a.n] 82)
        refine hK.out _ _ (rangeAt_later hHeld hb) (fun hHeld => ?_)
        have EL : Hid (∀ (j : Nat) (u : Value), [.string a.s, .int .i64 a.n][j]? = some u → (W1.alloc (.cells #[.string a.s, .int .i64 a.n] 82)).cell? ((⟨W1.heap.size, 0, Option.none⟩ : Addr).add j) = some u) := World.news_of_block (cs := #[.string a.s, .int .i64 a.n]) (blkLast5 _ _)
        have LB2 := hid (LB.out.trans (hb.mono LB.out.size))
        have hz3 : Hid ((W1.alloc (.cells #[.string a.s, .int .i64 a.n] 82)).heap.size = W1.heap.size + 1) := World.size_alloc _ _
        have O2 := hid (ownB O.out hb)
        obtain ⟨W2, hY⟩ : ∃ W2, W1.alloc (.cells #[.string a.s, .int .i64 a.n] 82) = W2 := ⟨_, rfl⟩
        rw [hY] at hHeld EL LB2 hz3 O2 ⊢
        obtain ⟨ge, hgee⟩ : ∃ ge, W1.heap.size = ge := ⟨_, rfl⟩
        have HGE := hid hgee
        rw [hgee] at EL hz3 ⊢
        clear hgee
        have hge2 : w.heap.size + 1 ≤ W2.heap.size := by have := hz3.out; have := HGE.out; omega
        clear hK hY hb LB hge1 O
        have hge1 := hge2
        have LB := LB2
        clear LB2 hge2
        have O := O2
        clear O2
        refine wpAnyH_ready (rs := [2]) (by kernel_rfl) (by simp) ?_
        refine AllReadyH.cons rfl (fun K hK => ?_) AllReadyH.nil
        rw [if_pos (by rfl)]
        simp only [zq]
        obtain ⟨v1, W3, hrun, hown, hgr, hblk⟩ := appR (cap := cap) O.out hge1 (HSRC.out.later (HLW.out.trans (LB.out.mono HLW.out.size))) HCAP.out (by omega) 24
        rw [Nat.zero_add, List.nil_append] at hown
        obtain ⟨a1, k1, rfl⟩ := ownShape5 hown
        have hb : Below W.heap.size W2 W3 := (Below.refl _ _).grown hgr LB.out.size (fun k hk => by have h9 : go = k := (by simpa [Value.ownBlock] using hk); omega)
        refine wp_appR _ _ 24 _ _ _ (by rfl) (by rfl) (by rfl) hrun ?_
        have hH2 : W3.rangeAt w.heap.size 0 [.string a.s, .int .i64 a.n] := fun j z hj => (hb.cell (p := ⟨w.heap.size, 0 + j, Option.none⟩) hBW).trans (hHeld j z hj)
        refine hK.out _ _ hH2 (fun hHeld => ?_)
        have LB2 := hid (LB.out.trans hb)
        have O2 := hid hown
        have HBK : Hid (∀ g, (Value.slice a1 l.length k1).ownBlock = some g → W.heap.size ≤ g) := fun g hg => by
          rcases hblk g hg with e | e
          · have h9 : go = g := (by simpa [Value.ownBlock] using e)
            omega
          · have := LB.out.size; omega
        have hge2 : w.heap.size + 1 ≤ W3.heap.size := by have := hgr.size; omega
        have E9 : Hid (∀ (j : Nat) (u : Value), [.string a.s, .int .i64 a.n][j]? = some u → W3.cell? ((⟨ge, 0, Option.none⟩ : Addr).add j) = some u) := fun j u hu => by
          have h1 := EL.out j u hu
          have ej : ((⟨ge, 0, Option.none⟩ : Addr).add j) = ⟨ge, j, Option.none⟩ := by simp [Addr.add]; omega
          rw [ej] at h1 ⊢
          exact (World.grownBy.cell_far hgr _ (lt_of_cellA h1) (by intro e; have h9 : ge = go := (by simpa [Value.ownBlock] using e); have := HGO.out; have := HGE.out; have := hz2.out; have := hz3.out; omega)).trans h1
        clear EL
        have EL := E9
        clear E9
        clear hK LB hrun hown hgr hblk hb O hge1 hH2
        have LB := LB2
        have O := O2
        have hge1 := hge2
        clear LB2 O2 hge2
        refine wpAnyH_ready (rs := [5]) (by kernel_rfl) (by simp) ?_
        refine AllReadyH.cons rfl (fun K hK => ?_) AllReadyH.nil
        rw [if_pos (by rfl)]
        simp only [zq]
        refine wp_append_lies _ _ _ 24 (by rfl) (w.heap.size + 1) 82 i0 _ 2 24 Tryz.underlying24 HI0.out.1 HI0.out.2.1 HI0.out.2.2.1 HI0.out.2.2.2 rfl (by decide) _ l.length (acells l) (by rfl) O.out ⟨ge, 0, Option.none⟩ 1 1 [.string a.s, .int .i64 a.n] (by rfl) (by rfl) EL.out (by intro u hu; simp at hu; rcases hu with rfl | rfl <;> rfl) (by decide) (by unfold maxLen; omega) (by omega) hge1 W3.heap.size rfl ?_
        intro g c4 W4 hown hgr hat hlt
        have hb : Below W.heap.size W3 W4 := (Below.refl _ _).grown hgr LB.out.size (fun k hk => HBK.out k hk)
        have hH2 : W4.rangeAt w.heap.size 0 [.string a.s, .int .i64 a.n] := fun j z hj => (hb.cell (p := ⟨w.heap.size, 0 + j, Option.none⟩) hBW).trans (hHeld j z hj)
        refine hK.out _ _ hH2 (fun hHeld => ?_)
        have LB4 := hid (LB.out.trans hb)
        have OW := hid hown
        clear hK hown hgr hat hlt hb LB O EL HBK hH2
        refine wpAnyH_take (i := 6) (v := .slice (some ⟨g, 0, Option.none⟩) (l.length + 1) c4) rfl (by kernel_rfl) (by kernel_rfl) (by kernel_rfl) (fun _ _ _ => id) (Or.inl ⟨by rfl, ?qb6⟩) hHeld ?_
        case qb6 => intro w hSw; go_simp
        simp only [Act.put, zp]
        refine wpAnyH_done (by kernel_rfl) ?_ _
        go_wp2_with fail
        go_meet
        exact ⟨g, c4, rfl, OW.out, hHeld, HLW.out.trans (LB4.out.mono HLW.out.size)⟩
    · rw [if_pos (by rfl)]
      simp only [zq]
      go_wp2_with fail
      have hb := aB W (.cells #[.string a.s, .int .i64 a.n] 82)
      refine hK.out _ _ (rangeAt_later hHeld hb) (fun hHeld => ?_)
      have EL : Hid (∀ (j : Nat) (u : Value), [.string a.s, .int .i64 a.n][j]? = some u → (W.alloc (.cells #[.string a.s, .int .i64 a.n] 82)).cell? ((⟨W.heap.size, 0, Option.none⟩ : Addr).add j) = some u) := World.news_of_block (cs := #[.string a.s, .int .i64 a.n]) (blkLast5 _ _)
      have LB2 := hid (LB.out.trans (hb.mono LB.out.size))
      have hz3 : Hid ((W.alloc (.cells #[.string a.s, .int .i64 a.n] 82)).heap.size = W.heap.size + 1) := World.size_alloc _ _
      obtain ⟨W1, hY⟩ : ∃ W1, W.alloc (.cells #[.string a.s, .int .i64 a.n] 82) = W1 := ⟨_, rfl⟩
      rw [hY] at hHeld EL LB2 hz3 ⊢
      obtain ⟨ge, hgee⟩ : ∃ ge, W.heap.size = ge := ⟨_, rfl⟩
      have HGE := hid hgee
      rw [hgee] at EL hz3 ⊢
      clear hgee
      have hge2 : w.heap.size + 1 ≤ W1.heap.size := by have := hz3.out; have := HGE.out; omega
      clear hK hY hb LB hge
      have hge := hge2
      have LB := LB2
      clear LB2 hge2
      refine wpAnyH_ready (rs := [0]) (by kernel_rfl) (by simp) ?_
      refine AllReadyH.cons rfl (fun K hK => ?_) AllReadyH.nil
      rw [if_pos (by rfl)]
      simp only [zq]
      go_wp2_with fail
      have hb := aB W1 (.cells #[] 82)
      refine hK.out _ _ (rangeAt_later hHeld hb) (fun hHeld => ?_)
      have O := hid (own_newR W1 hge 82 2)
      have LB2 := hid (LB.out.trans (hb.mono LB.out.size))
      have hz2 : Hid ((W1.alloc (.cells #[] 82)).heap.size = W1.heap.size + 1) := World.size_alloc _ _
      have E9 : Hid (∀ (j : Nat) (u : Value), [.string a.s, .int .i64 a.n][j]? = some u → (W1.alloc (.cells #[] 82)).cell? ((⟨ge, 0, Option.none⟩ : Addr).add j) = some u) := fun j u hu => keeps hb (EL.out j u hu)
      obtain ⟨W2, hY⟩ : ∃ W2, W1.alloc (.cells #[] 82) = W2 := ⟨_, rfl⟩
      rw [hY] at hHeld O LB2 hz2 E9 ⊢
      obtain ⟨go, hgo⟩ : ∃ go, W1.heap.size = go := ⟨_, rfl⟩
      have HGO := hid hgo
      rw [hgo] at O hz2 ⊢
      clear hgo
      have hge1 : w.heap.size + 1 ≤ W2.heap.size := by have := hz2.out; have := HGO.out; omega
      have hgo2 : W.heap.size ≤ go := by have := LB.out.size; have := HGO.out; omega
      clear hK hY hb LB EL
      have LB := LB2
      clear LB2
      have EL := E9
      clear E9
      refine wpAnyH_ready (rs := [2]) (by kernel_rfl) (by simp) ?_
      refine AllReadyH.cons rfl (fun K hK => ?_) AllReadyH.nil
      rw [if_pos (by rfl)]
      simp only [zq]
      obtain ⟨v1, W3, hrun, hown, hgr, hblk⟩ := appR (cap := cap) O.out hge1 (HSRC.out.later (HLW.out.trans (LB.out.mono HLW.out.size))) HCAP.out (by omega) 24
      rw [Nat.zero_add, List.nil_append] at hown
      obtain ⟨a1, k1, rfl⟩ := ownShape5 hown
      have hb : Below W.heap.size W2 W3 := (Below.refl _ _).grown hgr LB.out.size (fun k hk => by have h9 : go = k := (by simpa [Value.ownBlock] using hk); omega)
      refine wp_appR _ _ 24 _ _ _ (by rfl) (by rfl) (by rfl) hrun ?_
      have hH2 : W3.rangeAt w.heap.size 0 [.string a.s, .int .i64 a.n] := fun j z hj => (hb.cell (p := ⟨w.heap.size, 0 + j, Option.none⟩) hBW).trans (hHeld j z hj)
      refine hK.out _ _ hH2 (fun hHeld => ?_)
      have LB2 := hid (LB.out.trans hb)
      have O2 := hid hown
      have HBK : Hid (∀ g, (Value.slice a1 l.length k1).ownBlock = some g → W.heap.size ≤ g) := fun g hg => by
        rcases hblk g hg with e | e
        · have h9 : go = g := (by simpa [Value.ownBlock] using e)
          omega
        · have := LB.out.size; omega
      have hge2 : w.heap.size + 1 ≤ W3.heap.size := by have := hgr.size; omega
      have E9 : Hid (∀ (j : Nat) (u : Value), [.string a.s, .int .i64 a.n][j]? = some u → W3.cell? ((⟨ge, 0, Option.none⟩ : Addr).add j) = some u) := fun j u hu => by
        have h1 := EL.out j u hu
        have ej : ((⟨ge, 0, Option.none⟩ : Addr).add j) = ⟨ge, j, Option.none⟩ := by simp [Addr.add]; omega
        rw [ej] at h1 ⊢
        exact (World.grownBy.cell_far hgr _ (lt_of_cellA h1) (by intro e; have h9 : ge = go := (by simpa [Value.ownBlock] using e); have := HGO.out; have := HGE.out; have := hz2.out; have := hz3.out; omega)).trans h1
      clear EL
      have EL := E9
      clear E9
      clear hK LB hrun hown hgr hblk hb O hge1 hH2
      have LB := LB2
      have O := O2
      have hge1 := hge2
      clear LB2 O2 hge2
      refine wpAnyH_ready (rs := [5]) (by kernel_rfl) (by simp) ?_
      refine AllReadyH.cons rfl (fun K hK => ?_) AllReadyH.nil
      rw [if_pos (by rfl)]
      simp only [zq]
      refine wp_append_lies _ _ _ 24 (by rfl) (w.heap.size + 1) 82 i0 _ 2 24 Tryz.underlying24 HI0.out.1 HI0.out.2.1 HI0.out.2.2.1 HI0.out.2.2.2 rfl (by decide) _ l.length (acells l) (by rfl) O.out ⟨ge, 0, Option.none⟩ 1 1 [.string a.s, .int .i64 a.n] (by rfl) (by rfl) EL.out (by intro u hu; simp at hu; rcases hu with rfl | rfl <;> rfl) (by decide) (by unfold maxLen; omega) (by omega) hge1 W3.heap.size rfl ?_
      intro g c4 W4 hown hgr hat hlt
      have hb : Below W.heap.size W3 W4 := (Below.refl _ _).grown hgr LB.out.size (fun k hk => HBK.out k hk)
      have hH2 : W4.rangeAt w.heap.size 0 [.string a.s, .int .i64 a.n] := fun j z hj => (hb.cell (p := ⟨w.heap.size, 0 + j, Option.none⟩) hBW).trans (hHeld j z hj)
      refine hK.out _ _ hH2 (fun hHeld => ?_)
      have LB4 := hid (LB.out.trans hb)
      have OW := hid hown
      clear hK hown hgr hat hlt hb LB O EL HBK hH2
      refine wpAnyH_take (i := 6) (v := .slice (some ⟨g, 0, Option.none⟩) (l.length + 1) c4) rfl (by kernel_rfl) (by kernel_rfl) (by kernel_rfl) (fun _ _ _ => id) (Or.inl ⟨by rfl, ?qc6⟩) hHeld ?_
      case qc6 => intro w hSw; go_simp
      simp only [Act.put, zp]
      refine wpAnyH_done (by kernel_rfl) ?_ _
      go_wp2_with fail
      go_meet
      exact ⟨g, c4, rfl, OW.out, hHeld, HLW.out.trans (LB4.out.mono HLW.out.size)⟩
  case rest =>
    obtain ⟨g, c, rfl, hown, hrg, hbw⟩ := hcut
    have O0 : Hid (ArrO wc (w.heap.size + 1) (.slice (some ⟨g, 0, Option.none⟩) (l.length + 1) c) (l.take l.length ++ a :: l.drop l.length)) := ⟨_, by rw [mid_len _ _ _ (Nat.le_refl _)]; exact hown, by rw [List.take_length, List.drop_length, acells_snoc]⟩
    have HC := hid (And.intro hrg hbw)
    clear hown hrg hbw BA RA
    go_wp2
    go_loopw [6] (fun i wr => ∃ (k : Nat) (y : AR), k ≤ l.length ∧ i = .int .i64 (k : Int) ∧ Hid (posA l a l.length = posA l a k) ∧ Hid (ArrO wr (w.heap.size + 1) (.slice (some ⟨g, 0, Option.none⟩) (l.length + 1) c) (l.take k ++ y :: l.drop k)) ∧ Hid (wr.rangeAt w.heap.size 0 [.string a.s, .int .i64 a.n] ∧ Below w.heap.size w wr)) (fun i _ => (RowKit.intOf i).toNat)
    case atStart => exact ⟨l.length, a, Nat.le_refl _, by first | rfl | go_num, rfl, O0, HC⟩
    case round =>
      obtain ⟨k, y, hk, rfl, hP, hO, hC⟩ := hrel
      clear O0 HC
      have hgn : w.heap.size + 1 ≤ g := by obtain ⟨xs, hx, _⟩ := hO.out; exact (hx.lt g rfl).1
      have RB : ∀ n, (wr.drewN n).rangeAt w.heap.size 0 [.string a.s, .int .i64 a.n] := fun n => hC.out.1
      have TH : ∀ n, (wr.drewN n).there g (k * 2) 2 := fun n => (hO.out.later (drewN_below5 wr n)).there (by rw [mid_len _ _ _ hk]; omega)
      have a0 := hC.out.1 0 _ rfl
      rw [Nat.zero_add] at a0
      have hlI : (l.length : Int) ≤ 1000 := by omega
      have Hout : Hid (posA l a k = k → ∀ wr', Below wr.heap.size wr wr' → ((wr'.setCell ⟨g, k * 2, Option.none⟩ (.string a.s)).setCell ⟨g, k * 2 + 1, Option.none⟩ (.int .i64 a.n)).ownsRow (w.heap.size + 1) 82 2 (.slice (some ⟨g, 0, Option.none⟩) (l.length + 1) c) (l.length + 1) (acells (insA l a))) := fun e wr' hb => by
        obtain ⟨xs, hx, rfl⟩ := hO.out.later hb
        rw [mid_len _ _ _ hk] at hx
        have h1 := own_put2 hx (k := k) (by omega) (.string a.s) (.int .i64 a.n)
        rw [acells_set, last_set _ _ _ _ hk] at h1
        rw [insA, hP.out, e]
        exact h1
      cases k with
      | zero =>
        have hPP0 := Hout.out rfl
        simp only [Nat.zero_mul] at hPP0
        have hPP := hid hPP0
        clear hPP0
        clear Hout
        have Hout := hid (fun (_ : True) => hPP.out)
        clear hPP hP hO
        go_wp2_with fail
        go_quiet (fail)
        go_wp2_with (first | (refine wpList_load_mid rfl 82 _ rfl w.heap.size 0 rfl _ _ (RB _) Tryz.underlying82 rfl sizeIA ?_) | (refine sA rfl 82 _ _ rfl g (0) #[.string a.s, .int .i64 a.n] rfl rfl ?hte0 sizeIA ?hoe0 ?_; exact (TH _); exact (all2a _ _ rfl rfl); intro W hW))
        go_ret
        exact ⟨_, rfl, ArrO.lower ⟨_, by rw [← hW, insA_len]; exact Hout.out trivial _ (drewN_below5 wr _), rfl⟩ (Nat.le_succ _), by rw [← hW]; exact ((hC.out.2.trans ((drewN_below5 wr _).mono hC.out.2.size)).setCell (p := ⟨g, 0, Option.none⟩) (show w.heap.size ≤ g by omega) _).setCell (p := ⟨g, 0 + 1, Option.none⟩) (show w.heap.size ≤ g by omega) _⟩
      | succ j =>
        obtain ⟨x, hx⟩ : ∃ x, l[j]? = some x := ⟨l[j]'(by omega), List.getElem?_eq_getElem _⟩
        have hjl : j < l.length := by omega
        have RX0 := hO.out.at (mid_get l (j + 1) j y x (by omega) hx)
        have RX : ∀ n, (wr.drewN n).rangeAt g (j * 2) [.string x.s, .int .i64 x.n] := fun n => RX0
        have x0 := RX0 0 _ rfl
        rw [Nat.add_zero] at x0
        have hjI : (j : Int) < (l.length : Int) + 1 := by omega
        have hjI2 : (j : Int) + 1 < (l.length : Int) + 1 := by omega
        by_cases hb : blt a.s x.s = true
        · have hls : Op.bytesLess x.s.toList a.s.toList = false := (blt_cases a.s x.s hb).1
          have hle : (x.s.toList == a.s.toList) = false := (blt_cases a.s x.s hb).2
          have hP2 : Hid (posA l a l.length = posA l a j) := show _ = _ by rw [hP.out, posA, hx]; simp [hb]
          have HO2 : Hid (∀ n, ArrO (((wr.drewN n).setCell ⟨g, (j + 1) * 2, Option.none⟩ (.string x.s)).setCell ⟨g, (j + 1) * 2 + 1, Option.none⟩ (.int .i64 x.n)) (w.heap.size + 1) (.slice (some ⟨g, 0, Option.none⟩) (l.length + 1) c) (l.take j ++ x :: l.drop j)) := fun n => by
            obtain ⟨xs, h, rfl⟩ := hO.out.later (drewN_below5 wr n)
            rw [mid_len _ _ _ hk] at h
            have h1 := own_put2 h (k := j + 1) (by omega) (.string x.s) (.int .i64 x.n)
            rw [acells_set, shift_set l j y x hjl hx] at h1
            exact ⟨_, by rw [mid_len _ _ _ (by omega)]; exact h1, rfl⟩
          have HC2 : Hid (∀ n, (((wr.drewN n).setCell ⟨g, (j + 1) * 2, Option.none⟩ (.string x.s)).setCell ⟨g, (j + 1) * 2 + 1, Option.none⟩ (.int .i64 x.n)).rangeAt w.heap.size 0 [.string a.s, .int .i64 a.n] ∧ Below w.heap.size w (((wr.drewN n).setCell ⟨g, (j + 1) * 2, Option.none⟩ (.string x.s)).setCell ⟨g, (j + 1) * 2 + 1, Option.none⟩ (.int .i64 x.n))) := fun n => by
            refine ⟨fun i z hi => ?_, ((hC.out.2.trans ((drewN_below5 wr n).mono hC.out.2.size)).setCell (p := ⟨g, (j + 1) * 2, Option.none⟩) (show w.heap.size ≤ g by omega) _).setCell (p := ⟨g, (j + 1) * 2 + 1, Option.none⟩) (show w.heap.size ≤ g by omega) _⟩
            rw [World.cell?_setCell_other _ _ _ _ (by intro e; injection e with e; omega), World.cell?_setCell_other _ _ _ _ (by intro e; injection e with e; omega)]
            exact hC.out.1 i z hi
          clear hb hP hO hC Hout RB hx RX0
          go_wp2_with fail
          go_quiet (fail)
          go_wp2_with (first | (refine wpList_load_mid rfl 82 _ rfl g (j * 2) rfl _ _ (RX _) Tryz.underlying82 rfl sizeIA ?_) | (refine sA rfl 82 _ _ rfl g ((j + 1) * 2) #[.string x.s, .int .i64 x.n] rfl rfl ?ht9 sizeIA ?ho9 ?_; exact (TH _); exact (all2a _ _ rfl rfl); intro W hW))
          have HO3 := HO2.out
          have HC3 := HC2.out
          go_roundw
          case rel => exact ⟨j, x, by omega, by go_num, hP2, (by rw [← hW]; exact HO3 _), (by rw [← hW]; exact HC3 _)⟩
          case measure => simp [RowKit.intOf]; try omega
        · have hcc := blt_not a.s x.s (by cases h : blt a.s x.s with | false => rfl | true => exact absurd h hb)
          have hPP := hid (Hout.out (by rw [posA, hx]; simp [hb]))
          clear Hout
          have Hout := hid (fun (_ : True) => hPP.out)
          clear hPP hP hO hb hx RX0
          rcases hcc with hls | ⟨hls, hle⟩
          · go_wp2_with fail
            go_quiet (fail)
            go_wp2_with (first | (refine wpList_load_mid rfl 82 _ rfl w.heap.size 0 rfl _ _ (RB _) Tryz.underlying82 rfl sizeIA ?_) | (refine sA rfl 82 _ _ rfl g ((j + 1) * 2) #[.string a.s, .int .i64 a.n] rfl rfl ?hte1 sizeIA ?hoe1 ?_; exact (TH _); exact (all2a _ _ rfl rfl); intro W hW))
            go_ret
            exact ⟨_, rfl, ArrO.lower ⟨_, by rw [← hW, insA_len]; exact Hout.out trivial _ (drewN_below5 wr _), rfl⟩ (Nat.le_succ _), by rw [← hW]; exact ((hC.out.2.trans ((drewN_below5 wr _).mono hC.out.2.size)).setCell (p := ⟨g, (j + 1) * 2, Option.none⟩) (show w.heap.size ≤ g by omega) _).setCell (p := ⟨g, (j + 1) * 2 + 1, Option.none⟩) (show w.heap.size ≤ g by omega) _⟩
          · go_wp2_with fail
            go_quiet (fail)
            go_wp2_with (first | (refine wpList_load_mid rfl 82 _ rfl w.heap.size 0 rfl _ _ (RB _) Tryz.underlying82 rfl sizeIA ?_) | (refine sA rfl 82 _ _ rfl g ((j + 1) * 2) #[.string a.s, .int .i64 a.n] rfl rfl ?hte2 sizeIA ?hoe2 ?_; exact (TH _); exact (all2a _ _ rfl rfl); intro W hW))
            go_ret
            exact ⟨_, rfl, ArrO.lower ⟨_, by rw [← hW, insA_len]; exact Hout.out trivial _ (drewN_below5 wr _), rfl⟩ (Nat.le_succ _), by rw [← hW]; exact ((hC.out.2.trans ((drewN_below5 wr _).mono hC.out.2.size)).setCell (p := ⟨g, (j + 1) * 2, Option.none⟩) (show w.heap.size ≤ g by omega) _).setCell (p := ⟨g, (j + 1) * 2 + 1, Option.none⟩) (show w.heap.size ≤ g by omega) _⟩
def TV (w : World) (lo : Nat) (v : Value) (ns : List ByteArray) : Prop :=
  ∃ ao cap, v = .slice ao ns.length cap ∧ (ns = [] ∨ ∃ g off, ao = some ⟨g, off, Option.none⟩ ∧ lo ≤ g ∧ g < w.heap.size ∧ ∀ i t, ns[i]? = some t → w.cell? ⟨g, off + i, Option.none⟩ = some (.string t))
theorem TV.same {w w' : World} {lo lo' : Nat} {v : Value} {ns : List ByteArray} (hlo : lo' ≤ lo) (h : TV w lo v ns) (hk : Keeps lo w w') (hz : w.heap.size ≤ w'.heap.size) : TV w' lo' v ns := by
  obtain ⟨ao, cap, hv, h⟩ := h
  refine ⟨ao, cap, hv, ?_⟩
  rcases h with h | ⟨g, off, h1, h0, h2, h3⟩
  · exact .inl h
  · exact .inr ⟨g, off, h1, Nat.le_trans hlo h0, Nat.lt_of_lt_of_le h2 hz, fun i t hi => hk _ _ h0 (h3 i t hi)⟩
theorem TV.later {w w' : World} {lo : Nat} {v : Value} {ns : List ByteArray} (h : TV w lo v ns) (hb : Below w.heap.size w w') : TV w' lo v ns := h.same (Nat.le_refl _) (Keeps.later hb) hb.size
theorem TV.low {w : World} {lo : Nat} {v : Value} {ns : List ByteArray} (h : TV w lo v ns) : TV w 0 v ns := h.same (Nat.zero_le _) (Keeps.refl _ _) (Nat.le_refl _)
theorem TV.shape {w : World} {lo : Nat} {v : Value} {ns : List ByteArray} (h : TV w lo v ns) : ∃ a c, v = .slice a ns.length c := by obtain ⟨a, c, h1, _⟩ := h; exact ⟨a, c, h1⟩
theorem TV.of {w : World} {B : Nat} {v : Value} {ns : List ByteArray} (h : w.ownsRow B 9 1 v ns.length (ns.map Value.string)) : TV w B v ns := by
  rcases h.2 with ⟨h0, h1⟩ | ⟨g, cap, cur, h1, h2, h3, h4⟩
  · exact ⟨Option.none, 0, by rw [h1]; exact h0, .inl (List.length_eq_zero_iff.1 h1)⟩
  · refine ⟨_, cap, h1, .inr ⟨g, 0, rfl, h2, lt_heap h3, fun i t hi => ?_⟩⟩
    have hc := h.cells (g := g) (by rw [h1]; rfl) i (.string t) (by rw [List.getElem?_map, hi]; rfl)
    have e : (⟨g, 0, Option.none⟩ : Addr).add i = ⟨g, i, Option.none⟩ := by simp [Addr.add]; omega
    rw [e] at hc
    rw [Nat.zero_add]; exact hc
theorem infoStr : (Tryz.prog.info? 9).map (fun i => (i.zero, i.size, i.bytes)) = some (some (.string ⟨#[]⟩), 1, 16) := by kernel_rfl
theorem newT (w : World) (u : Value) (t : TypeId) : ∀ j x, [u][j]? = some x → (w.alloc (.cells #[u] t)).cell? ((⟨w.heap.size, 0, Option.none⟩ : Addr).add j) = some x := new1 w u t
theorem snocT {w w5 w6 : World} {os : List ByteArray} {t v' : Value} {x : ByteArray} {o : Obj} (hown : w5.ownsRow w.heap.size 9 1 t os.length (os.map Value.string)) (hb : Below w.heap.size w w5) (hg : (w5.alloc o).grownBy w6 t.ownBlock)
    (h : w6.ownsRow w.heap.size 9 1 v' (os.length + 1) (os.map Value.string ++ [.string x])) : w6.ownsRow w.heap.size 9 1 v' (os ++ [x]).length ((os ++ [x]).map Value.string) ∧ Below w.heap.size w w6 :=
  ⟨by rw [List.length_append, List.map_append]; exact h, (hb.alloc hb.size o).grown hg (by have := hb.size; simp; omega) (fun k hk => (hown.lt k hk).1)⟩
theorem ownShape {w : World} {B sz n : Nat} {e : TypeId} {v : Value} {xs : List Value} (h : w.ownsRow B e sz v n xs) : ∃ a c, v = .slice a n c := by
  rcases h.2 with ⟨h1, h0⟩ | ⟨g, cap, cur, h1, _⟩
  · exact ⟨_, _, by rw [h0]; exact h1⟩
  · exact ⟨_, _, h1⟩
theorem putR_x {s x : ByteArray} {r : List ByteArray} (d : Bool) (hd : d = true ∨ blt x s = true) (hx : ¬ x = s) : putR s d (x :: r) = x :: putR s d r := by
  cases d with
  | true => rw [putR, if_neg hx]
  | false => rcases hd with h | h
             · cases h
             · rw [putR, if_pos h, if_neg hx]
theorem putR_same {s : ByteArray} {r : List ByteArray} : putR s true (s :: r) = putR s true r := by rw [putR, if_pos rfl]
theorem putR_s {s x : ByteArray} {r : List ByteArray} (h : blt x s = false) : putR s false (x :: r) = s :: putR s true (x :: r) := by
  simp only [putR, h]; simp
theorem l4Put_is (ns : List ByteArray) (hn : ns.length ≤ 10000000) (s : ByteArray) (v : Value) (w : World) (hv : TV w 0 v ns) :
    Calls Tryz.prog 116 #[v, .string s] w fun e w' => ∃ v', e = .returned v' ∧ TV w' w.heap.size v' (putR s false ns) ∧ Below w.heap.size w w' := by
  obtain ⟨i0, hi0, hz0, hz1, hz2⟩ := info_parts infoStr
  obtain ⟨ao, cap, rfl, hr⟩ := hv
  have Hr := hid hr
  clear hr
  have hnI : (ns.length : Int) ≤ 10000000 := by omega
  go_enter Tryz.func116, Tryz.ntmps116
  go_wp2
  go_loopw [5, 6, 7] (fun out d i wr => ∃ (k : Nat) (dn : Bool) (os : List ByteArray), k ≤ ns.length ∧ i = .int .i64 k ∧ d = .bool dn ∧ Hid (os ++ putR s dn (ns.drop k) = putR s false ns ∧ os.length ≤ k + 1 ∧ (dn = false → os.length ≤ k)) ∧ wr.ownsRow w.heap.size 9 1 out os.length (os.map Value.string) ∧ Below w.heap.size w wr) (fun _ _ i _ => ns.length - (RowKit.intOf i).toNat)
  case atStart =>
    exact ⟨0, false, [], by omega, rfl, rfl, ⟨by simp, by simp, fun _ => by simp⟩, ⟨rfl, .inr ⟨w.heap.size, 0, #[], rfl, Nat.le_refl _, (by show (w.heap.push _)[w.heap.size]? = _; simp), Nat.le_refl _, (by unfold maxLen; omega), rfl, rfl⟩⟩, aB _ _⟩
  case round =>
    obtain ⟨k, dn, os, hk, rfl, rfl, hg, hown, hbr⟩ := hrel
    obtain ⟨g1, g2, g3⟩ := hg.out
    obtain ⟨oa, oc, rfl⟩ := ownShape hown
    have hol : (os.length : Int) ≤ 10000001 := by omega
    by_cases hlt : k < ns.length
    · have hltI : (k : Int) < (ns.length : Int) := by omega
      obtain ⟨x, hx⟩ : ∃ x, ns[k]? = some x := ⟨ns[k], List.getElem?_eq_getElem hlt⟩
      rcases Hr.out with hr | ⟨g, off, rfl, _, gl, hc⟩
      · subst hr; simp at hlt
      have hsz := hbr.size
      have AW := hid (hc k x hx)
      have A0 := (hbr.cell (p := ⟨g, off + k, Option.none⟩) gl).trans AW.out
      have hd : ns.drop k = x :: ns.drop (k + 1) := by rw [List.drop_eq_getElem_cons hlt]; congr 1; rw [List.getElem?_eq_getElem hlt] at hx; injection hx
      rw [hd] at g1
      clear hc hx Hr hd hg
      by_cases hdb : dn = true ∨ blt x s = true
      · have G3 : Hid (dn = false → os.length ≤ k) := g3
        by_cases he : x = s
        · have hdn : dn = true := hdb.resolve_right (fun h => by rw [he, blt_irrefl] at h; cases h)
          subst hdn
          subst he
          rw [putR_same] at g1
          have G := hid (And.intro g1 g2)
          clear g1 g2 g3 hdb
          go_wp2
          go_roundw
          case rel => exact ⟨k + 1, true, os, by omega, by go_num, rfl, ⟨G.out.1, by have := G.out.2; omega, fun h => by cases h⟩, hown, hbr⟩
          case measure => simp [RowKit.intOf]; omega
        · rw [putR_x dn hdb he] at g1
          have G := hid (And.intro g1 g2)
          have hne := str_ne he
          have hcs : dn = true ∨ (dn = false ∧ Op.bytesLess x.toList s.toList = true) := by
            cases dn with
            | true => exact .inl rfl
            | false => exact .inr ⟨rfl, hdb.resolve_left (by simp)⟩
          clear g1 g2 g3 hdb he
          rcases hcs with rfl | ⟨rfl, hls⟩
          · go_wp2_with (at_builtin; refine wpList_append_own _ rfl _ _ 57 rfl w.heap.size 9 i0 _ 1 16 Tryz.underlying57 hi0 hz0 hz1 hz2 rfl (by decide) _ _ _ rfl (hown.alloc _) ⟨wr.heap.size, 0, Option.none⟩ 1 1 [.string x] rfl rfl (newT _ _ _) ?cb2 ?cb3 ?cb4 ?cb5 ?_)
            case cb2 => first | rfl | (intro x hx; simp only [List.mem_cons, List.not_mem_nil, or_false] at hx; subst hx; rfl)
            case cb3 => unfold maxLen; omega
            case cb4 => omega
            case cb5 => first | omega | (simp; omega)
            intro v' w6 hown' hgrow _
            obtain ⟨n1, n2⟩ := snocT hown hbr hgrow hown'
            clear hown' hgrow hown hbr A0
            go_wp2
            go_roundw
            case rel => exact ⟨k + 1, true, os ++ [x], by omega, by go_num, rfl, ⟨by rw [List.append_assoc]; exact G.out.1, by have := G.out.2; simp; omega, fun h => by cases h⟩, n1, n2⟩
            case measure => simp [RowKit.intOf]; omega
          · go_wp2_with (at_builtin; refine wpList_append_own _ rfl _ _ 57 rfl w.heap.size 9 i0 _ 1 16 Tryz.underlying57 hi0 hz0 hz1 hz2 rfl (by decide) _ _ _ rfl (hown.alloc _) ⟨wr.heap.size, 0, Option.none⟩ 1 1 [.string x] rfl rfl (newT _ _ _) ?cc2 ?cc3 ?cc4 ?cc5 ?_)
            case cc2 => first | rfl | (intro x hx; simp only [List.mem_cons, List.not_mem_nil, or_false] at hx; subst hx; rfl)
            case cc3 => unfold maxLen; omega
            case cc4 => omega
            case cc5 => first | omega | (simp; omega)
            intro v' w6 hown' hgrow _
            obtain ⟨n1, n2⟩ := snocT hown hbr hgrow hown'
            clear hown' hgrow hown hbr A0
            go_wp2
            go_roundw
            case rel => exact ⟨k + 1, false, os ++ [x], by omega, by go_num, rfl, ⟨by rw [List.append_assoc]; exact G.out.1, by have := G.out.2; simp; omega, fun _ => by have := G3.out (by simp); simp; omega⟩, n1, n2⟩
            case measure => simp [RowKit.intOf]; omega
      · have hdn : dn = false := by cases dn with | false => rfl | true => exact absurd (.inl rfl) hdb
        subst hdn
        have hbl : blt x s = false := by cases h : blt x s with | false => rfl | true => exact absurd (.inr h) hdb
        have hls : Op.bytesLess x.toList s.toList = false := hbl
        rw [putR_s hbl] at g1
        have g4 := g3 rfl
        clear hdb hbl g3
        by_cases he : x = s
        · subst he
          rw [putR_same] at g1
          have G := hid (And.intro g1 g4)
          clear g1 g2 g4
          go_wp2_with (at_builtin; refine wpList_append_own _ rfl _ _ 57 rfl w.heap.size 9 i0 _ 1 16 Tryz.underlying57 hi0 hz0 hz1 hz2 rfl (by decide) _ _ _ rfl (hown.alloc _) ⟨wr.heap.size, 0, Option.none⟩ 1 1 [.string x] rfl rfl (newT _ _ _) ?ce2 ?ce3 ?ce4 ?ce5 ?_)
          case ce2 => first | rfl | (intro x hx; simp only [List.mem_cons, List.not_mem_nil, or_false] at hx; subst hx; rfl)
          case ce3 => unfold maxLen; omega
          case ce4 => omega
          case ce5 => first | omega | (simp; omega)
          intro v' w6 hown' hgrow _
          obtain ⟨n1, n2⟩ := snocT hown hbr hgrow hown'
          have A6 := (n2.cell (p := ⟨g, off + k, Option.none⟩) gl).trans AW.out
          clear hown' hgrow hown hbr A0
          go_wp2
          go_roundw
          case rel => exact ⟨k + 1, true, os ++ [x], by omega, by go_num, rfl, ⟨by rw [List.append_assoc]; exact G.out.1, by have := G.out.2; simp; omega, fun h => by cases h⟩, n1, n2⟩
          case measure => simp [RowKit.intOf]; omega
        · have hne := str_ne he
          rw [putR_x true (.inl rfl) he] at g1
          have G := hid (And.intro g1 g4)
          clear g1 g2 he g4
          go_wp2_with (at_builtin; refine wpList_append_own _ rfl _ _ 57 rfl w.heap.size 9 i0 _ 1 16 Tryz.underlying57 hi0 hz0 hz1 hz2 rfl (by decide) _ _ _ rfl (hown.alloc _) ⟨wr.heap.size, 0, Option.none⟩ 1 1 [.string s] rfl rfl (newT _ _ _) ?cg2 ?cg3 ?cg4 ?cg5 ?_)
          case cg2 => first | rfl | (intro x hx; simp only [List.mem_cons, List.not_mem_nil, or_false] at hx; subst hx; rfl)
          case cg3 => unfold maxLen; omega
          case cg4 => omega
          case cg5 => first | omega | (simp; omega)
          intro v' w6 hown' hgrow _
          obtain ⟨n1, n2⟩ := snocT hown hbr hgrow hown'
          have A6 := (n2.cell (p := ⟨g, off + k, Option.none⟩) gl).trans AW.out
          have hs6 := n2.size
          obtain ⟨va, vc, rfl⟩ := ownShape n1
          have hol6 : ((os ++ [s]).length : Int) ≤ 10000002 := by simp; omega
          clear hown' hgrow hown hbr A0
          go_wp2_with (at_builtin; refine wpList_append_own _ rfl _ _ 57 rfl w.heap.size 9 i0 _ 1 16 Tryz.underlying57 hi0 hz0 hz1 hz2 rfl (by decide) _ _ _ rfl (n1.alloc _) ⟨w6.heap.size, 0, Option.none⟩ 1 1 [.string x] rfl rfl (newT _ _ _) ?cd2 ?cd3 ?cd4 ?cd5 ?_)
          case cd2 => first | rfl | (intro x hx; simp only [List.mem_cons, List.not_mem_nil, or_false] at hx; subst hx; rfl)
          case cd3 => unfold maxLen; omega
          case cd4 => omega
          case cd5 => first | omega | (simp; omega)
          intro v'' w7 hown'' hgrow2 _
          obtain ⟨m1, m2⟩ := snocT n1 n2 (o := .cells #[.string x] 9) (by simpa using hgrow2) (show w7.ownsRow w.heap.size 9 1 v'' ((os ++ [s]).length + 1) ((os ++ [s]).map Value.string ++ [.string x]) by simpa using hown'')
          clear hown'' hgrow2 n1 n2 A6
          go_wp2
          go_roundw
          case rel => exact ⟨k + 1, true, os ++ [s] ++ [x], by omega, by go_num, rfl, ⟨by rw [List.append_assoc, List.append_assoc]; exact G.out.1, by have := G.out.2; simp; omega, fun h => by cases h⟩, m1, m2⟩
          case measure => simp [RowKit.intOf]; omega
    · have hkk : ns.drop k = [] := List.drop_of_length_le (by omega)
      rw [hkk] at g1
      cases dn with
      | true =>
        have G := hid (show os = putR s false ns by simpa [putR] using g1)
        clear g1 hg
        go_wp2
        go_ret
        exact ⟨_, rfl, by rw [← G.out]; exact TV.of hown, hbr⟩
      | false =>
        have G := hid (show os ++ [s] = putR s false ns by simpa [putR] using g1)
        have hsz := hbr.size
        clear g1 hg
        go_wp2_with (at_builtin; refine wpList_append_own _ rfl _ _ 57 rfl w.heap.size 9 i0 _ 1 16 Tryz.underlying57 hi0 hz0 hz1 hz2 rfl (by decide) _ _ _ rfl (hown.alloc _) ⟨wr.heap.size, 0, Option.none⟩ 1 1 [.string s] rfl rfl (newT _ _ _) ?cf2 ?cf3 ?cf4 ?cf5 ?_)
        case cf2 => first | rfl | (intro x hx; simp only [List.mem_cons, List.not_mem_nil, or_false] at hx; subst hx; rfl)
        case cf3 => unfold maxLen; omega
        case cf4 => omega
        case cf5 => first | omega | (simp; omega)
        intro v' w6 hown' hgrow _
        obtain ⟨n1, n2⟩ := snocT hown hbr hgrow hown'
        clear hown' hgrow hown hbr
        go_wp2
        go_ret
        exact ⟨_, rfl, by rw [← G.out]; exact TV.of n1, n2⟩
end Go.Proofs.YtpinockfakndlaaGreat
namespace Go.Proofs.YtpinockfakndlaaGreat
open Go.ChangeShapes Go.WideShapes Go.ChangeAt Go.RowKit
set_option linter.unusedSimpArgs false
set_option linter.unusedVariables false
section
variable {H : Type} {enc : TypeId × Value → H} {W : World} {sp : Nat → Bool} {held : Bool}
end
section
variable {H : Type} {enc : TypeId × Value → H} {W : World} {sp : Nat → Bool} {held : Bool}
end
theorem sizeIP : (Tryz.prog.info? 27).map (·.size) = some 2 := by kernel_rfl
end Go.Proofs.YtpinockfakndlaaGreat
