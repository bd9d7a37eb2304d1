/-
  All other names at every place of theirs: how many ways that are; a bind put ahead of the others.
-/
import Derived.Test.YtjdpddcnogdekabP34ofMa
import Derived.Test.YtjdpddcnogdekabP35ofMa
import Derived.Test.YtjdpddcnogdekabBoxOkS
import Derived.Test.YtjdpddcnogdekabP21ofMa
namespace Go.Proofs.Ytjdpddcnogdekab
open Go.RowKit Go.Lib
set_option linter.unusedSimpArgs false
set_option linter.unusedVariables false

theorem prodS_no {s : ByteArray} : ∀ {rs : List RG}, (∀ r ∈ rs, ¬ r.s = s) → prodS11 s rs = prodR11 rs
  | [], _ => rfl
  | r :: rs, h => by rw [prodS11, prodR11, if_neg (h r (by simp)), prodS_no (fun t ht => h t (by simp [ht]))]
theorem prodS_yes {s : ByteArray} : ∀ {rs : List RG} {j : Nat} {r : RG}, Dist9 rs → rs[j]? = some r → r.s = s → prodR11 rs = cnt11 r * prodS11 s rs
  | [], j, r, _, h, _ => by simp at h
  | r0 :: rs, 0, r, hd, h, e => by
    obtain rfl : r0 = r := by simpa using h
    obtain ⟨hd1, hd2⟩ := List.pairwise_cons.1 hd
    rw [prodR11, prodS11, if_pos e, prodS_no (fun t ht e2 => hd1 t ht (by rw [e, e2]))]
  | r0 :: rs, j + 1, r, hd, h, e => by
    obtain ⟨hd1, hd2⟩ := List.pairwise_cons.1 hd
    have h2 : rs[j]? = some r := by simpa using h
    have hn : ¬ r0.s = s := fun e2 => hd1 r (List.mem_of_getElem? h2) (by rw [e, e2])
    rw [prodR11, prodS11, if_neg hn, prodS_yes hd2 h2 e, Nat.mul_left_comm]
theorem hasR_no {s : ByteArray} {rs : List RG} (h : hasR9 rs s = false) : ∀ r ∈ rs, ¬ r.s = s := by
  intro r hr e
  have : hasR9 rs s = true := by rw [hasR9, List.any_eq_true]; exact ⟨r, hr, by simp [e]⟩
  rw [h] at this; cases this
theorem rg9_name {s : ByteArray} {rs : List RG} (h : hasR9 rs s = true) : (rg9 rs s).s = s := by
  rw [hasR9, List.any_eq_true] at h
  obtain ⟨r, hr, he⟩ := h
  rw [rg9]
  cases hh : rs.find? fun r => decide (r.s = s) with
  | none => have := List.find?_eq_none.1 hh r hr; simp at he; simp [he] at this
  | some x => have := List.find?_some hh; simpa using this
theorem rounds_told {rs : List RG} (h : told11 rs = true) : rounds9 rs = (prodR11 rs : Int) := by
  obtain ⟨hw, _⟩ := told_prod h
  simp only [told11, Bool.and_eq_true, decide_eq_true_eq] at h
  rw [rounds9, if_pos hw] at h ⊢
  have := ways_prod rs 1 (fit_of hw) (by omega) (by omega) h.2
  omega
theorem split_has {rs : List RG} {s : ByteArray} (h : told11 rs = true) (hs : hasR9 rs s = true) : ∃ (j : Nat) (r : RG), rs[j]? = some r ∧ r.s = s ∧ at9 rs 0 s = (j : Int) ∧ rounds9 rs = (r.hi - r.lo + 1) * (prodS11 s rs : Int) ∧ 1 ≤ r.hi - r.lo + 1 ∧ r.hi - r.lo + 1 ≤ 20001 ∧ (prodS11 s rs : Int) ≤ 600 := by
  obtain ⟨j, h1, h2⟩ := at9_find s rs 0 hs
  have hw := (told_prod h).1
  have hp := prodS_yes (dist_of hw) h1 (rg9_name hs)
  obtain ⟨f1, f2, _⟩ := fit_of hw _ (List.mem_of_getElem? h1)
  have hc : ((cnt11 (rg9 rs s) : Nat) : Int) = (rg9 rs s).hi - (rg9 rs s).lo + 1 := by unfold cnt11; omega
  have hc1 : 1 ≤ cnt11 (rg9 rs s) := by omega
  have hle : prodS11 s rs ≤ prodR11 rs := by rw [hp]; exact Nat.le_mul_of_pos_left _ hc1
  have h6 := (told_prod h).2
  refine ⟨j, _, h1, rg9_name hs, by rw [h2]; simp, ?_, f1, f2, by omega⟩
  rw [rounds_told h, hp, Int.natCast_mul, hc]
theorem split_no {rs : List RG} {s : ByteArray} (h : told11 rs = true) (hs : hasR9 rs s = false) : at9 rs 0 s = -1 ∧ rounds9 rs = (prodS11 s rs : Int) ∧ (prodS11 s rs : Int) ≤ 600 := by
  have h6 := (told_prod h).2
  rw [rounds_told h, prodS_no (hasR_no hs)]
  exact ⟨at9_no s rs 0 hs, rfl, by omega⟩
theorem at9_iff {rs : List RG} {s : ByteArray} (h : told11 rs = true) {j : Nat} {r : RG} (hj : rs[j]? = some r) : (j : Int) = at9 rs 0 s ↔ r.s = s := by
  cases hs : hasR9 rs s with
  | false =>
    rw [(split_no h hs).1]
    exact ⟨fun e => by omega, fun e => absurd e (hasR_no hs r (List.mem_of_getElem? hj))⟩
  | true =>
    obtain ⟨j0, r0, h0, h1, h2, _⟩ := split_has h hs
    rw [h2]
    constructor
    · intro e
      obtain rfl : j = j0 := by omega
      rw [hj] at h0; injection h0 with h0; rw [h0]; exact h1
    · intro e
      have hd := List.pairwise_iff_getElem.1 (dist_of (told_prod h).1)
      obtain ⟨l1, e1⟩ := List.getElem?_eq_some_iff.1 hj
      obtain ⟨l2, e2⟩ := List.getElem?_eq_some_iff.1 h0
      rcases Nat.lt_trichotomy j j0 with hl | hl | hl
      · exact absurd (by rw [e1, e2, e, h1]) (hd j j0 l1 l2 hl)
      · omega
      · exact absurd (by rw [e1, e2, e, h1]) (hd j0 j l2 l1 hl)
theorem drop_one11 {rs : List RG} {j : Nat} {r : RG} (h : rs[j]? = some r) : rs.drop j = r :: rs.drop (j + 1) := by
  obtain ⟨l, e⟩ := List.getElem?_eq_some_iff.1 h
  rw [List.drop_eq_getElem_cons l, e]
theorem binds_hit {s : ByteArray} {rs : List RG} {j y : Nat} {bs : List AR} {r : RG} (h : rs[j]? = some r) (e : r.s = s) : bindsGo11 s (rs.drop j) y bs = bindsGo11 s (rs.drop (j + 1)) y bs := by
  rw [drop_one11 h, bindsGo11, if_pos e]
theorem binds_go {s : ByteArray} {rs : List RG} {j y : Nat} {bs : List AR} {r : RG} (h : rs[j]? = some r) (e : ¬ r.s = s) : bindsGo11 s (rs.drop j) y bs = bindsGo11 s (rs.drop (j + 1)) (y / cnt11 r) (⟨r.s, r.lo + ((y % cnt11 r : Nat) : Int)⟩ :: bs) := by
  rw [drop_one11 h, bindsGo11, if_neg e]
theorem binds_end {s : ByteArray} {rs : List RG} {y : Nat} {bs : List AR} : bindsGo11 s (rs.drop rs.length) y bs = bs := by
  rw [List.drop_length]; rfl
theorem AV.ofOwnB11 {w : World} {B n c : Nat} {a : Option Addr} {ts : List AR} (h : w.ownsRow B 70 2 (.slice a n c) ts.length (acells ts)) : AV w 0 (.slice a n c) ts := by
  rcases h.2 with ⟨h0, h1⟩ | ⟨g, cap, cur, h1, h2, h3, h4⟩
  · have : ts = [] := List.length_eq_zero_iff.1 h1
    subst this
    exact ⟨_, _, h0, .inl rfl⟩
  · have hc := h.cells (g := g) (by rw [h1]; rfl)
    refine ⟨_, cap, h1, .inr ⟨g, 0, rfl, Nat.zero_le _, (Array.getElem?_eq_some_iff.1 h3).1, fun i t hi => ?_⟩⟩
    have hg := acells_get ts i t hi
    have e : ∀ j, (⟨g, 0, Option.none⟩ : Addr).add j = ⟨g, j, Option.none⟩ := fun j => by simp [Addr.add]; omega
    have a := hc _ _ hg.1; have b := hc _ _ hg.2
    rw [e] at a b
    exact ⟨by rw [Nat.zero_add]; exact a, by rw [Nat.zero_add]; exact b⟩
/-- The others put behind one bind that was just made. -/
theorem appB11 {w : World} (t : AR) {ao : Option Addr} {bs : List AR} {cap : Nat} (hs : AV w 0 (.slice ao bs.length cap) bs) (hn : bs.length ≤ 100000000) (ty : TypeId) :
    ∃ v' w', (Builtin.append_ #[71, 71] ty #[.slice (some ⟨w.heap.size, 0, Option.none⟩) 1 1, .slice ao bs.length cap]).run Try.prog (w.alloc (.cells #[.string t.s, .int .i64 t.n] 70)) = .ok v' w' ∧ AV w' 0 v' (t :: bs) ∧ Below w.heap.size w w' := by
  obtain ⟨i0, hi, hz0, hz1, hz2⟩ := info_parts infoIB
  have hown : (w.alloc (.cells #[.string t.s, .int .i64 t.n] 70)).ownsRow w.heap.size 70 2 (.slice (some ⟨w.heap.size, 0, Option.none⟩) 1 1) 1 [.string t.s, .int .i64 t.n] := World.ownsRow_lit w #[.string t.s, .int .i64 t.n] 1 (Nat.le_refl _) (by simp [maxLen]) rfl
  have hbw := alloc_below w (.cells #[.string t.s, .int .i64 t.n] 70)
  have hs2 := hs.later hbw
  generalize hW : w.alloc (.cells #[.string t.s, .int .i64 t.n] 70) = W at hown hbw hs2 ⊢
  obtain ⟨ao', cap', e, hr⟩ := hs2
  injection e with e1 e2 e3
  subst e1; subst e3
  cases ao with
  | none =>
    obtain rfl : bs = [] := by
      rcases hr with h | ⟨g, off, h, _⟩
      · exact h
      · cases h
    refine ⟨_, W, ?_, AV.ofOwnB11 (ts := [t]) hown, hbw⟩
    simp [Builtin.append_, run_underlying Try.underlying71, sizeOf, typeInfo, hi, Builtin.lenOf, Builtin.firstCells, storeCells, loadCells, loadCellsFrom]
  | some a =>
    have hc : ∀ j u, (acells bs)[j]? = some u → W.cell? (a.add j) = some u := by
      rcases hr with h | ⟨g, off, h, _, _, hc⟩
      · subst h; intro j u hu; simp [acells] at hu
      · injection h with h
        subst h
        intro j u hu
        have e : (⟨g, off, Option.none⟩ : Addr).add j = ⟨g, off + j, Option.none⟩ := by simp [Addr.add]
        rw [e]
        have hj : j < (acells bs).length := (List.getElem?_eq_some_iff.1 hu).1
        rw [acells_len] at hj
        obtain ⟨t, ht⟩ : ∃ t, bs[j / 2]? = some t := ⟨bs[j / 2]'(by omega), List.getElem?_eq_getElem _⟩
        have hg := acells_get bs (j / 2) t ht
        rcases Nat.mod_two_eq_zero_or_one j with hm | hm
        · have hj2 : j / 2 * 2 = j := by omega
          rw [hj2] at hg
          rw [← Option.some.inj (hg.1.symm.trans hu)]
          have := (hc _ _ ht).1; rwa [hj2] at this
        · have hj2 : j / 2 * 2 + 1 = j := by omega
          rw [hj2] at hg
          rw [← Option.some.inj (hg.2.symm.trans hu)]
          have := (hc _ _ ht).2; rwa [Nat.add_assoc, hj2] at this
    obtain ⟨v', w', h1, h2, h3, _⟩ := run_append_own (P := Try.prog) W w.heap.size 71 ty 70 i0 _ 2 24 Try.underlying71 hi hz0 hz1 hz2 rfl (by decide) _ 1 _ hown a bs.length cap (acells bs) (acells_len bs) hc (acells_one11 bs) (by unfold maxLen; omega) (by omega) hbw.size
    obtain ⟨va, vc, rfl⟩ := ownShape11 h2
    refine ⟨_, w', h1, AV.ofOwnB11 (B := w.heap.size) ?_, hbw.grown h3 hbw.size (fun k hk => (hown.lt k hk).1)⟩
    rw [List.length_cons, Nat.add_comm bs.length 1]
    exact h2
theorem valsL11_len (c : Int) (ts : List AR) (s : ByteArray) (i : Int) (rs : List RG) : (valsL11 c ts s i rs).length = prodS11 s rs := by simp [valsL11]
theorem valsL11_take (c : Int) (ts : List AR) (s : ByteArray) (i : Int) (rs : List RG) {x : Nat} (h : x < prodS11 s rs) : (valsL11 c ts s i rs).take (x + 1) = (valsL11 c ts s i rs).take x ++ [affAt8 c ts (bindsGo11 s rs x [⟨s, i⟩])] := by
  rw [List.take_add_one, valsL11, List.getElem?_map, List.getElem?_range h]; rfl
end Go.Proofs.Ytjdpddcnogdekab
