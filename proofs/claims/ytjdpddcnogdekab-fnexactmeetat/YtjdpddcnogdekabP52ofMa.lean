/-
  Texts in one: MtAtV, MtAtS.
-/
import Derived.Test.YtjdpddcnogdekabP50ofMa
import Derived.Test.YtjdpddcnogdekabP51ofMa
import Derived.Test.YtjdpddcnogdekabBoxOkS
import Derived.Test.YtjdpddcnogdekabEndS
import Derived.BigQuiet
/-
  All other names at every place of theirs: how many ways that are; a bind put ahead of the others.
-/
namespace Go.Proofs.Ytjdpddcnogdekab
open Go.RowKit Go.Lib
set_option linter.unusedSimpArgs false
set_option linter.unusedVariables false

theorem prodS_no {s : ByteArray} : ∀ {rs : List RG}, (∀ r ∈ rs, ¬ r.s = s) → prodS11 s rs = prodR11 rs
  | [], _ => rfl
  | r :: rs, h => by rw [prodS11, prodR11, if_neg (h r (by simp)), prodS_no (fun t ht => h t (by simp [ht]))]
theorem prodS_yes {s : ByteArray} : ∀ {rs : List RG} {j : Nat} {r : RG}, Dist9 rs → rs[j]? = some r → r.s = s → prodR11 rs = cnt11 r * prodS11 s rs
  | [], j, r, _, h, _ => by simp at h
  | r0 :: rs, 0, r, hd, h, e => by
    obtain rfl : r0 = r := by simpa using h
    obtain ⟨hd1, hd2⟩ := List.pairwise_cons.1 hd
    rw [prodR11, prodS11, if_pos e, prodS_no (fun t ht e2 => hd1 t ht (by rw [e, e2]))]
  | r0 :: rs, j + 1, r, hd, h, e => by
    obtain ⟨hd1, hd2⟩ := List.pairwise_cons.1 hd
    have h2 : rs[j]? = some r := by simpa using h
    have hn : ¬ r0.s = s := fun e2 => hd1 r (List.mem_of_getElem? h2) (by rw [e, e2])
    rw [prodR11, prodS11, if_neg hn, prodS_yes hd2 h2 e, Nat.mul_left_comm]
theorem hasR_no {s : ByteArray} {rs : List RG} (h : hasR9 rs s = false) : ∀ r ∈ rs, ¬ r.s = s := by
  intro r hr e
  have : hasR9 rs s = true := by rw [hasR9, List.any_eq_true]; exact ⟨r, hr, by simp [e]⟩
  rw [h] at this; cases this
theorem rg9_name {s : ByteArray} {rs : List RG} (h : hasR9 rs s = true) : (rg9 rs s).s = s := by
  rw [hasR9, List.any_eq_true] at h
  obtain ⟨r, hr, he⟩ := h
  rw [rg9]
  cases hh : rs.find? fun r => decide (r.s = s) with
  | none => have := List.find?_eq_none.1 hh r hr; simp at he; simp [he] at this
  | some x => have := List.find?_some hh; simpa using this
theorem rounds_told {rs : List RG} (h : told11 rs = true) : rounds9 rs = (prodR11 rs : Int) := by
  obtain ⟨hw, _⟩ := told_prod h
  simp only [told11, Bool.and_eq_true, decide_eq_true_eq] at h
  rw [rounds9, if_pos hw] at h ⊢
  have := ways_prod rs 1 (fit_of hw) (by omega) (by omega) h.2
  omega
theorem split_has {rs : List RG} {s : ByteArray} (h : told11 rs = true) (hs : hasR9 rs s = true) : ∃ (j : Nat) (r : RG), rs[j]? = some r ∧ r.s = s ∧ at9 rs 0 s = (j : Int) ∧ rounds9 rs = (r.hi - r.lo + 1) * (prodS11 s rs : Int) ∧ 1 ≤ r.hi - r.lo + 1 ∧ r.hi - r.lo + 1 ≤ 20001 ∧ (prodS11 s rs : Int) ≤ 600 := by
  obtain ⟨j, h1, h2⟩ := at9_find s rs 0 hs
  have hw := (told_prod h).1
  have hp := prodS_yes (dist_of hw) h1 (rg9_name hs)
  obtain ⟨f1, f2, _⟩ := fit_of hw _ (List.mem_of_getElem? h1)
  have hc : ((cnt11 (rg9 rs s) : Nat) : Int) = (rg9 rs s).hi - (rg9 rs s).lo + 1 := by unfold cnt11; omega
  have hc1 : 1 ≤ cnt11 (rg9 rs s) := by omega
  have hle : prodS11 s rs ≤ prodR11 rs := by rw [hp]; exact Nat.le_mul_of_pos_left _ hc1
  have h6 := (told_prod h).2
  refine ⟨j, _, h1, rg9_name hs, by rw [h2]; simp, ?_, f1, f2, by omega⟩
  rw [rounds_told h, hp, Int.natCast_mul, hc]
theorem split_no {rs : List RG} {s : ByteArray} (h : told11 rs = true) (hs : hasR9 rs s = false) : at9 rs 0 s = -1 ∧ rounds9 rs = (prodS11 s rs : Int) ∧ (prodS11 s rs : Int) ≤ 600 := by
  have h6 := (told_prod h).2
  rw [rounds_told h, prodS_no (hasR_no hs)]
  exact ⟨at9_no s rs 0 hs, rfl, by omega⟩
theorem at9_iff {rs : List RG} {s : ByteArray} (h : told11 rs = true) {j : Nat} {r : RG} (hj : rs[j]? = some r) : (j : Int) = at9 rs 0 s ↔ r.s = s := by
  cases hs : hasR9 rs s with
  | false =>
    rw [(split_no h hs).1]
    exact ⟨fun e => by omega, fun e => absurd e (hasR_no hs r (List.mem_of_getElem? hj))⟩
  | true =>
    obtain ⟨j0, r0, h0, h1, h2, _⟩ := split_has h hs
    rw [h2]
    constructor
    · intro e
      obtain rfl : j = j0 := by omega
      rw [hj] at h0; injection h0 with h0; rw [h0]; exact h1
    · intro e
      have hd := List.pairwise_iff_getElem.1 (dist_of (told_prod h).1)
      obtain ⟨l1, e1⟩ := List.getElem?_eq_some_iff.1 hj
      obtain ⟨l2, e2⟩ := List.getElem?_eq_some_iff.1 h0
      rcases Nat.lt_trichotomy j j0 with hl | hl | hl
      · exact absurd (by rw [e1, e2, e, h1]) (hd j j0 l1 l2 hl)
      · omega
      · exact absurd (by rw [e1, e2, e, h1]) (hd j0 j l2 l1 hl)
theorem drop_one11 {rs : List RG} {j : Nat} {r : RG} (h : rs[j]? = some r) : rs.drop j = r :: rs.drop (j + 1) := by
  obtain ⟨l, e⟩ := List.getElem?_eq_some_iff.1 h
  rw [List.drop_eq_getElem_cons l, e]
theorem binds_hit {s : ByteArray} {rs : List RG} {j y : Nat} {bs : List AR} {r : RG} (h : rs[j]? = some r) (e : r.s = s) : bindsGo11 s (rs.drop j) y bs = bindsGo11 s (rs.drop (j + 1)) y bs := by
  rw [drop_one11 h, bindsGo11, if_pos e]
theorem binds_go {s : ByteArray} {rs : List RG} {j y : Nat} {bs : List AR} {r : RG} (h : rs[j]? = some r) (e : ¬ r.s = s) : bindsGo11 s (rs.drop j) y bs = bindsGo11 s (rs.drop (j + 1)) (y / cnt11 r) (⟨r.s, r.lo + ((y % cnt11 r : Nat) : Int)⟩ :: bs) := by
  rw [drop_one11 h, bindsGo11, if_neg e]
theorem binds_end {s : ByteArray} {rs : List RG} {y : Nat} {bs : List AR} : bindsGo11 s (rs.drop rs.length) y bs = bs := by
  rw [List.drop_length]; rfl
theorem AV.ofOwnB11 {w : World} {B n c : Nat} {a : Option Addr} {ts : List AR} (h : w.ownsRow B 70 2 (.slice a n c) ts.length (acells ts)) : AV w 0 (.slice a n c) ts := by
  rcases h.2 with ⟨h0, h1⟩ | ⟨g, cap, cur, h1, h2, h3, h4⟩
  · have : ts = [] := List.length_eq_zero_iff.1 h1
    subst this
    exact ⟨_, _, h0, .inl rfl⟩
  · have hc := h.cells (g := g) (by rw [h1]; rfl)
    refine ⟨_, cap, h1, .inr ⟨g, 0, rfl, Nat.zero_le _, (Array.getElem?_eq_some_iff.1 h3).1, fun i t hi => ?_⟩⟩
    have hg := acells_get ts i t hi
    have e : ∀ j, (⟨g, 0, Option.none⟩ : Addr).add j = ⟨g, j, Option.none⟩ := fun j => by simp [Addr.add]; omega
    have a := hc _ _ hg.1; have b := hc _ _ hg.2
    rw [e] at a b
    exact ⟨by rw [Nat.zero_add]; exact a, by rw [Nat.zero_add]; exact b⟩
/-- The others put behind one bind that was just made. -/
theorem appB11 {w : World} (t : AR) {ao : Option Addr} {bs : List AR} {cap : Nat} (hs : AV w 0 (.slice ao bs.length cap) bs) (hn : bs.length ≤ 100000000) (ty : TypeId) :
    ∃ v' w', (Builtin.append_ #[71, 71] ty #[.slice (some ⟨w.heap.size, 0, Option.none⟩) 1 1, .slice ao bs.length cap]).run Try.prog (w.alloc (.cells #[.string t.s, .int .i64 t.n] 70)) = .ok v' w' ∧ AV w' 0 v' (t :: bs) ∧ Below w.heap.size w w' := by
  obtain ⟨i0, hi, hz0, hz1, hz2⟩ := info_parts infoIB
  have hown : (w.alloc (.cells #[.string t.s, .int .i64 t.n] 70)).ownsRow w.heap.size 70 2 (.slice (some ⟨w.heap.size, 0, Option.none⟩) 1 1) 1 [.string t.s, .int .i64 t.n] := World.ownsRow_lit w #[.string t.s, .int .i64 t.n] 1 (Nat.le_refl _) (by simp [maxLen]) rfl
  have hbw := alloc_below w (.cells #[.string t.s, .int .i64 t.n] 70)
  have hs2 := hs.later hbw
  generalize hW : w.alloc (.cells #[.string t.s, .int .i64 t.n] 70) = W at hown hbw hs2 ⊢
  obtain ⟨ao', cap', e, hr⟩ := hs2
  injection e with e1 e2 e3
  subst e1; subst e3
  cases ao with
  | none =>
    obtain rfl : bs = [] := by
      rcases hr with h | ⟨g, off, h, _⟩
      · exact h
      · cases h
    refine ⟨_, W, ?_, AV.ofOwnB11 (ts := [t]) hown, hbw⟩
    simp [Builtin.append_, run_underlying Try.underlying71, sizeOf, typeInfo, hi, Builtin.lenOf, Builtin.firstCells, storeCells, loadCells, loadCellsFrom]
  | some a =>
    have hc : ∀ j u, (acells bs)[j]? = some u → W.cell? (a.add j) = some u := by
      rcases hr with h | ⟨g, off, h, _, _, hc⟩
      · subst h; intro j u hu; simp [acells] at hu
      · injection h with h
        subst h
        intro j u hu
        have e : (⟨g, off, Option.none⟩ : Addr).add j = ⟨g, off + j, Option.none⟩ := by simp [Addr.add]
        rw [e]
        have hj : j < (acells bs).length := (List.getElem?_eq_some_iff.1 hu).1
        rw [acells_len] at hj
        obtain ⟨t, ht⟩ : ∃ t, bs[j / 2]? = some t := ⟨bs[j / 2]'(by omega), List.getElem?_eq_getElem _⟩
        have hg := acells_get bs (j / 2) t ht
        rcases Nat.mod_two_eq_zero_or_one j with hm | hm
        · have hj2 : j / 2 * 2 = j := by omega
          rw [hj2] at hg
          rw [← Option.some.inj (hg.1.symm.trans hu)]
          have := (hc _ _ ht).1; rwa [hj2] at this
        · have hj2 : j / 2 * 2 + 1 = j := by omega
          rw [hj2] at hg
          rw [← Option.some.inj (hg.2.symm.trans hu)]
          have := (hc _ _ ht).2; rwa [Nat.add_assoc, hj2] at this
    obtain ⟨v', w', h1, h2, h3, _⟩ := run_append_own (P := Try.prog) W w.heap.size 71 ty 70 i0 _ 2 24 Try.underlying71 hi hz0 hz1 hz2 rfl (by decide) _ 1 _ hown a bs.length cap (acells bs) (acells_len bs) hc (acells_one11 bs) (by unfold maxLen; omega) (by omega) hbw.size
    obtain ⟨va, vc, rfl⟩ := ownShape11 h2
    refine ⟨_, w', h1, AV.ofOwnB11 (B := w.heap.size) ?_, hbw.grown h3 hbw.size (fun k hk => (hown.lt k hk).1)⟩
    rw [List.length_cons, Nat.add_comm bs.length 1]
    exact h2
theorem valsL11_len (c : Int) (ts : List AR) (s : ByteArray) (i : Int) (rs : List RG) : (valsL11 c ts s i rs).length = prodS11 s rs := by simp [valsL11]
theorem valsL11_take (c : Int) (ts : List AR) (s : ByteArray) (i : Int) (rs : List RG) {x : Nat} (h : x < prodS11 s rs) : (valsL11 c ts s i rs).take (x + 1) = (valsL11 c ts s i rs).take x ++ [affAt8 c ts (bindsGo11 s rs x [⟨s, i⟩])] := by
  rw [List.take_add_one, valsL11, List.getElem?_map, List.getElem?_range h]; rfl
end Go.Proofs.Ytjdpddcnogdekab
/-
  The values of a sum at a round, whatever all other names are; MeetAt of the specification.
-/
namespace Go.Proofs.Ytjdpddcnogdekab
open Go.RowKit Go.Lib
set_option linter.unusedSimpArgs false
set_option linter.unusedVariables false

theorem rem11 (y m : Nat) : ((y : Int).tmod (m : Int)) = ((y % m : Nat) : Int) := by rw [Int.tmod_eq_emod_of_nonneg (by omega)]; rfl
theorem quo11 (y m : Nat) : ((y : Int).tdiv (m : Int)) = ((y / m : Nat) : Int) := by rw [Int.tdiv_eq_ediv_of_nonneg (by omega)]; rfl
set_option maxHeartbeats 8000000 in
set_option maxRecDepth 100000 in
theorem vals_is (c : Int) (ts : List AR) (hn : ts.length ≤ 1000000000) (hc : -9223372036854775808 ≤ c ∧ c ≤ 9223372036854775807) (s : ByteArray) (i : Int) (rs : List RG) (hm : rs.length ≤ 10000000) (hrs : ∀ t ∈ rs, t.s.size ≤ 281474976710656) (ht : told11 rs = true) (va vr : Value) (w : World) (ha : AV w 0 va ts) (hr : RV w 0 vr rs) :
    Calls Try.prog 26 #[.agg #[.int .i64 c, va], .string s, .int .i64 i, vr] w fun e w' => ∃ v, e = .returned v ∧ IV w' 0 v (valsL11 c ts s i rs) ∧ Below w.heap.size w w' := by
  have HM := Lib.hid (And.intro hn (And.intro hc (And.intro hm hrs)))
  have hmI : (rs.length : Int) ≤ 10000000 := by omega
  have HT := Lib.hid ht
  have hb0 : Below w.heap.size w ((w.alloc (.cells #[.int .i64 c, va] 30)).alloc (.cells #[] 3)) := (alloc_below w _).alloc (by simp) _
  obtain ⟨q0, q1⟩ := heap2q w (.cells #[.int .i64 c, va] 30) (.cells #[] 3)
  have hown0 : ((w.alloc (.cells #[.int .i64 c, va] 30)).alloc (.cells #[] 3)).ownsRow (w.heap.size + 1) 3 1 (.slice (some ⟨w.heap.size + 1, 0, Option.none⟩) 0 0) 0 (ints []) :=
    ⟨by simp [ints], .inr ⟨w.heap.size + 1, 0, #[], rfl, Nat.le_refl _, q1, Nat.le_refl _, by simp [maxLen], by simp, by simp [ints]⟩⟩
  obtain ⟨a1, c1, rfl⟩ := ha.shape
  obtain ⟨a2, c2, rfl⟩ := hr.shape
  obtain ⟨wB, hwB⟩ : ∃ wB, wB = (w.alloc (.cells #[.int .i64 c, .slice a1 ts.length c1] 30)).alloc (.cells #[] 3) := ⟨_, rfl⟩
  rw [← hwB] at hb0 q0 hown0
  have hszB : wB.heap.size = w.heap.size + 1 + 1 := by rw [hwB]; simp
  have BX := Lib.hid (fun (wr : World) (hb : Below (w.heap.size + 1) wB wr) => (hb.block w.heap.size (Nat.lt_succ_self _)).trans q0)
  have LOW := Lib.hid (fun (wr : World) (hb : Below (w.heap.size + 1) wB wr) => hb0.trans (hb.mono (Nat.le_succ _)))
  have HA := Lib.hid (fun (wr : World) (hb : Below (w.heap.size + 1) wB wr) => ha.later (hb0.trans (hb.mono (Nat.le_succ _))))
  have HR := Lib.hid (fun (wr : World) (hb : Below (w.heap.size + 1) wB wr) => hr.later (hb0.trans (hb.mono (Nat.le_succ _))))
  have O0 := Lib.hid hown0
  have B0 := Lib.hid (Below.refl (w.heap.size + 1) wB)
  clear ha hr hb0 q0 q1 hown0 hn hc hm hrs ht
  go_enter Try.func26, Try.ntmps26
  go_wp2_with fail
  rw [← hwB]
  refine (spec_Rounds rs (by have := HM.out; omega) HM.out.2.2.2 _ _ (HR.out _ B0.out)).mono ?_
  rintro e w1 ⟨rfl, hb1⟩
  have B1 := Lib.hid (hb1.mono (show w.heap.size + 1 ≤ wB.heap.size by omega))
  have O1 := Lib.hid (own_later11 O0.out (fun g _ _ hg => hb1.block g (lt_heap11 hg)))
  clear hb1 O0 B0
  clear hwB
  obtain ⟨N, hN⟩ : ∃ N : Nat, Hid (prodS11 s rs = N) := ⟨_, rfl⟩
  cases hs : hasR9 rs s with
  | false =>
    obtain ⟨e1, e2, e3⟩ := split_no HT.out hs
    obtain ⟨K, hK⟩ : ∃ K, Hid (at9 rs 0 s = K) := ⟨_, rfl⟩
    obtain ⟨R, hR⟩ : ∃ R, Hid (rounds9 rs = R) := ⟨_, rfl⟩
    rw [hN.out] at e2 e3
    rw [hK.out] at e1
    rw [hR.out] at e2
    rw [hR.out]
    subst e1
    subst e2
    clear hs
    go_wp2_with fail
    refine (l9At_is rs (by have := HM.out; omega) s _ _ (HR.out _ B1.out)).mono ?_
    rintro e w2 ⟨rfl, rfl⟩
    rw [hK.out]
    go_wp2
    have KI := Lib.hid (fun (j : Nat) (r : RG) (hj : rs[j]? = some r) => (show (j : Int) = (-1) ↔ r.s = s by rw [← hK.out]; exact at9_iff HT.out hj))
    go_loopw [9, 12] (fun u x wr => ∃ x0 : Nat, x0 ≤ N ∧ x = .int .i64 (x0 : Int) ∧ Hid (wr.ownsRow (w.heap.size + 1) 3 1 u x0 (ints ((valsL11 c ts s i rs).take x0))) ∧ Hid (Below (w.heap.size + 1) wB wr)) (fun _ x _ => N - (RowKit.intOf x).toNat)
    case atStart => exact ⟨0, Nat.zero_le _, rfl, O1.out, B1.out⟩
    case round =>
      obtain ⟨x0, hx0, rfl, HO, HB⟩ := hrel
      obtain ⟨ua, uc, rfl⟩ := ownShape11 HO.out
      by_cases hlt : x0 < N
      · have hltI : (x0 : Int) < (N : Int) := by omega
        obtain ⟨wP, hwP⟩ : ∃ wP, wP = wr.alloc (.cells #[.string s, .int .i64 i] 70) := ⟨_, rfl⟩
        have bP : Hid (Below wr.heap.size wr wP) := show Below _ _ _ from hwP ▸ alloc_below wr _
        have V0 : Hid (AV wP 0 (.slice (some ⟨wr.heap.size, 0, Option.none⟩) 1 1) [⟨s, i⟩]) := show AV _ _ _ _ by rw [hwP]; exact one11 (t := ⟨s, i⟩) (heap_last _ _)
        have hs9 : w.heap.size + 1 ≤ wr.heap.size := by have := HB.out.size; omega
        obtain ⟨BB, hBB⟩ : ∃ BB, Hid (bindsGo11 s rs x0 [⟨s, i⟩] = BB) := ⟨_, rfl⟩
        go_wp2
        rw [← hwP]
        clear hwP
        go_loopw [13, 14, 15] (fun b y j wq => ∃ (j0 y0 : Nat) (bs : List AR), j0 ≤ rs.length ∧ j = .int .i64 (j0 : Int) ∧ y = .int .i64 (y0 : Int) ∧ y0 ≤ 600 ∧ bs.length ≤ j0 + 1 ∧ Hid (AV wq 0 b bs) ∧ Hid (bindsGo11 s (rs.drop j0) y0 bs = BB) ∧ Hid (Below wr.heap.size wr wq)) (fun _ _ j _ => rs.length - (RowKit.intOf j).toNat)
        case atStart => exact ⟨0, x0, [⟨s, i⟩], Nat.zero_le _, rfl, rfl, by omega, by simp, V0.out, hBB.out, bP.out⟩
        case round =>
          obtain ⟨j0, y0, bs, hj0, rfl, rfl, hy0, hbl, HV, HG, HQ⟩ := hrel
          obtain ⟨va1, vc1, rfl⟩ := HV.out.shape
          have HB2 := Lib.hid (HB.out.trans (HQ.out.mono hs9))
          by_cases hlj : j0 < rs.length
          · have hljI : (j0 : Int) < (rs.length : Int) := by omega
            obtain ⟨r, hr⟩ : ∃ r, rs[j0]? = some r := ⟨rs[j0], List.getElem?_eq_getElem hlj⟩
            have HRj := Lib.hid hr
            by_cases he : r.s = s
            · have hk : (j0 : Int) = (-1) := (KI.out j0 r hr).2 he
              have HG2 : Hid (bindsGo11 s (rs.drop (j0 + 1)) y0 bs = BB) := show _ = _ by rw [← binds_hit hr he]; exact HG.out
              clear hr
              omega
            · have hk : ¬ (j0 : Int) = (-1) := fun e => he ((KI.out j0 r hr).1 e)
              obtain ⟨ao2, cap2, heq, _, hrc⟩ := HR.out _ HB2.out
              injection heq with heq1 heq2 heq3
              subst heq1; subst heq3
              rcases hrc with hrn | ⟨g, off, rfl, _, gl, hcc⟩
              · rw [hrn] at hlj; simp at hlj
              obtain ⟨A0, A1, A2⟩ := hcc j0 r hr
              have hne := he
              obtain ⟨F1, F2, F3, F4, F5, F6⟩ := fit_of (told_prod HT.out).1 r (List.mem_of_getElem? hr)
              clear hcc hr he
              go_wp2_with fail
              go_quiet (fail)
              go_wp2_with fail
              generalize hwq : wr.drewN _ = wq
              have bq : Below wr.heap.size wr wq := hwq ▸ belowD8 (Below.refl _ _) _
              clear hwq
              have hM : ((cnt11 r : Nat) : Int) = r.hi - r.lo + 1 := by unfold cnt11; omega
              have HG2 := Lib.hid (HG.out.symm.trans (binds_go HRj.out hne)).symm
              rw [← hM]
              have hMb : 1 ≤ cnt11 r ∧ cnt11 r ≤ 20001 := by omega
              generalize cnt11 r = M at hMb hM HG2 ⊢
              clear hM
              have hV := HV.out.later bq
              have hQ := HQ.out.trans (bq.mono HQ.out.size)
              have hM0 : ¬ (M : Int) = 0 := by omega
              have hr0 : y0 % M < M := Nat.mod_lt _ (by omega)
              have hd0 : y0 / M ≤ 600 := Nat.le_trans (Nat.div_le_self _ _) hy0
              have hr1 : (y0 : Int).tmod (M : Int) = ((y0 % M : Nat) : Int) := rem11 y0 M
              have hd1 : (y0 : Int).tdiv (M : Int) = ((y0 / M : Nat) : Int) := quo11 y0 M
              generalize y0 % M = ym at hr0 hr1 HG2 ⊢
              generalize y0 / M = yd at hd0 hd1 HG2 ⊢
              obtain ⟨mI, hmI2⟩ : ∃ m : Int, (M : Int) = m := ⟨_, rfl⟩
              obtain ⟨yI, hyI2⟩ : ∃ y : Int, (y0 : Int) = y := ⟨_, rfl⟩
              rw [hmI2] at hM0 hr1 hd1
              rw [hyI2] at hr1 hd1
              rw [hmI2, hyI2]
              have hd2 : wrap64 (yI.tdiv mI) = (yd : Int) := by rw [hd1]; unfold wrap64; omega
              have HD2 := Lib.hid hd2
              have hymB : (ym : Int) ≤ 20001 := by omega
              clear hmI2 hyI2 hd1 hd2 hMb hr0
              have CL := Lib.hid (fun (wz : World) (hz : Below wq.heap.size wq wz) => And.intro ((hz.cell (p := ⟨g, off + j0 * 3, Option.none⟩) (Nat.lt_of_lt_of_le gl bq.size)).trans ((bq.cell (p := ⟨g, off + j0 * 3, Option.none⟩) gl).trans A0)) (And.intro ((hz.cell (p := ⟨g, off + j0 * 3 + 1, Option.none⟩) (Nat.lt_of_lt_of_le gl bq.size)).trans ((bq.cell (p := ⟨g, off + j0 * 3 + 1, Option.none⟩) gl).trans A1)) True.intro))
              clear A0 A1 A2
              have bd : Below wq.heap.size wq wq.drew := (Below.refl _ wq).drew
              refine wp_region_held_drew (S := Below wq.heap.size wq) (by kernel_rfl) bd (fun hHeld => ?_)
              clear bd
              obtain ⟨wD, hwD⟩ : ∃ wD, wD = wq.drew := ⟨_, rfl⟩
              rw [← hwD] at hHeld ⊢
              clear hwD
              refine wpAnyH_take (i := 0) (v := .slice (some ⟨g, off, Option.none⟩) rs.length c2) rfl (by kernel_rfl) (by kernel_rfl) (by kernel_rfl) (fun _ _ _ h => h) (Or.inl ⟨by rfl, ?yv0⟩) hHeld ?_
              case yv0 => intro w hSw; go_simp
              simp only [Act.put, List.getElem_toArray, List.getElem_cons_succ, List.getElem_cons_zero, List.setIfInBounds_toArray, List.set_cons_zero, List.set_cons_succ]
              refine wpAnyH_take (i := 1) (v := .int .i64 (j0 : Int)) rfl (by kernel_rfl) (by kernel_rfl) (by kernel_rfl) (fun _ _ _ h => h) (Or.inl ⟨by rfl, ?yv1⟩) hHeld ?_
              case yv1 => intro w hSw; go_simp
              simp only [Act.put, List.getElem_toArray, List.getElem_cons_succ, List.getElem_cons_zero, List.setIfInBounds_toArray, List.set_cons_zero, List.set_cons_succ]
              refine wpAnyH_take (i := 2) (v := .pointer (some ⟨g, off + j0 * 3, Option.none⟩)) rfl (by kernel_rfl) (by kernel_rfl) (by kernel_rfl) (fun _ _ _ h => h) (Or.inl ⟨by rfl, ?yv2⟩) hHeld ?_
              case yv2 => intro w hSw; go_simp
              simp only [Act.put, List.getElem_toArray, List.getElem_cons_succ, List.getElem_cons_zero, List.setIfInBounds_toArray, List.set_cons_zero, List.set_cons_succ]
              refine wpAnyH_take (i := 3) (v := .pointer (some ⟨g, off + j0 * 3, Option.none⟩)) rfl (by kernel_rfl) (by kernel_rfl) (by kernel_rfl) (fun _ _ _ h => h) (Or.inl ⟨by rfl, ?yv3⟩) hHeld ?_
              case yv3 => intro w hSw; go_simp
              simp only [Act.put, List.getElem_toArray, List.getElem_cons_succ, List.getElem_cons_zero, List.setIfInBounds_toArray, List.set_cons_zero, List.set_cons_succ]
              refine wpAnyH_take (i := 4) (v := .string r.s) rfl (by kernel_rfl) (by kernel_rfl) (by kernel_rfl) (fun _ _ _ h => h) (Or.inl ⟨by rfl, ?yv4⟩) hHeld ?_
              case yv4 => intro w hSw; obtain ⟨j0, j1, j2⟩ := CL.out w hSw; go_simp
              simp only [Act.put, List.getElem_toArray, List.getElem_cons_succ, List.getElem_cons_zero, List.setIfInBounds_toArray, List.set_cons_zero, List.set_cons_succ]
              refine wpAnyH_take (i := 5) (v := .slice (some ⟨g, off, Option.none⟩) rs.length c2) rfl (by kernel_rfl) (by kernel_rfl) (by kernel_rfl) (fun _ _ _ h => h) (Or.inl ⟨by rfl, ?yv5⟩) hHeld ?_
              case yv5 => intro w hSw; go_simp
              simp only [Act.put, List.getElem_toArray, List.getElem_cons_succ, List.getElem_cons_zero, List.setIfInBounds_toArray, List.set_cons_zero, List.set_cons_succ]
              refine wpAnyH_take (i := 6) (v := .int .i64 (j0 : Int)) rfl (by kernel_rfl) (by kernel_rfl) (by kernel_rfl) (fun _ _ _ h => h) (Or.inl ⟨by rfl, ?yv6⟩) hHeld ?_
              case yv6 => intro w hSw; go_simp
              simp only [Act.put, List.getElem_toArray, List.getElem_cons_succ, List.getElem_cons_zero, List.setIfInBounds_toArray, List.set_cons_zero, List.set_cons_succ]
              refine wpAnyH_take (i := 7) (v := .pointer (some ⟨g, off + j0 * 3, Option.none⟩)) rfl (by kernel_rfl) (by kernel_rfl) (by kernel_rfl) (fun _ _ _ h => h) (Or.inl ⟨by rfl, ?yv7⟩) hHeld ?_
              case yv7 => intro w hSw; go_simp
              simp only [Act.put, List.getElem_toArray, List.getElem_cons_succ, List.getElem_cons_zero, List.setIfInBounds_toArray, List.set_cons_zero, List.set_cons_succ]
              refine wpAnyH_take (i := 8) (v := .pointer (some ⟨g, off + j0 * 3 + 1, Option.none⟩)) rfl (by kernel_rfl) (by kernel_rfl) (by kernel_rfl) (fun _ _ _ h => h) (Or.inl ⟨by rfl, ?yv8⟩) hHeld ?_
              case yv8 => intro w hSw; go_simp
              simp only [Act.put, List.getElem_toArray, List.getElem_cons_succ, List.getElem_cons_zero, List.setIfInBounds_toArray, List.set_cons_zero, List.set_cons_succ]
              refine wpAnyH_take (i := 9) (v := .int .i64 r.lo) rfl (by kernel_rfl) (by kernel_rfl) (by kernel_rfl) (fun _ _ _ h => h) (Or.inl ⟨by rfl, ?yv9⟩) hHeld ?_
              case yv9 => intro w hSw; obtain ⟨j0, j1, j2⟩ := CL.out w hSw; go_simp
              simp only [Act.put, List.getElem_toArray, List.getElem_cons_succ, List.getElem_cons_zero, List.setIfInBounds_toArray, List.set_cons_zero, List.set_cons_succ]
              refine wpAnyH_take (i := 10) (v := .int .i64 yI) rfl (by kernel_rfl) (by kernel_rfl) (by kernel_rfl) (fun _ _ _ h => h) (Or.inl ⟨by rfl, ?yv10⟩) hHeld ?_
              case yv10 => intro w hSw; go_simp
              simp only [Act.put, List.getElem_toArray, List.getElem_cons_succ, List.getElem_cons_zero, List.setIfInBounds_toArray, List.set_cons_zero, List.set_cons_succ]
              refine wpAnyH_take (i := 11) (v := .int .i64 mI) rfl (by kernel_rfl) (by kernel_rfl) (by kernel_rfl) (fun _ _ _ h => h) (Or.inl ⟨by rfl, ?yv11⟩) hHeld ?_
              case yv11 => intro w hSw; go_simp
              simp only [Act.put, List.getElem_toArray, List.getElem_cons_succ, List.getElem_cons_zero, List.setIfInBounds_toArray, List.set_cons_zero, List.set_cons_succ]
              refine wpAnyH_take (i := 12) (v := .int .i64 (ym : Int)) rfl (by kernel_rfl) (by kernel_rfl) (by kernel_rfl) (fun _ _ _ h => h) (Or.inl ⟨by rfl, ?yv12⟩) hHeld ?_
              case yv12 => intro w hSw; go_simp
              simp only [Act.put, List.getElem_toArray, List.getElem_cons_succ, List.getElem_cons_zero, List.setIfInBounds_toArray, List.set_cons_zero, List.set_cons_succ]
              refine wpAnyH_take (i := 13) (v := .int .i64 (r.lo + (ym : Int))) rfl (by kernel_rfl) (by kernel_rfl) (by kernel_rfl) (fun _ _ _ h => h) (Or.inl ⟨by rfl, ?yv13⟩) hHeld ?_
              case yv13 => intro w hSw; go_simp; rw [IntKind.wrap_i64]; omega
              simp only [Act.put, List.getElem_toArray, List.getElem_cons_succ, List.getElem_cons_zero, List.setIfInBounds_toArray, List.set_cons_zero, List.set_cons_succ]
              refine wpAnyH_take (i := 14) (v := .agg #[.string r.s, .int .i64 (r.lo + (ym : Int))]) rfl (by kernel_rfl) (by kernel_rfl) (by kernel_rfl) (fun _ _ _ h => h) (Or.inl ⟨by rfl, ?yv14⟩) hHeld ?_
              case yv14 => intro w hSw; go_simp
              simp only [Act.put, List.getElem_toArray, List.getElem_cons_succ, List.getElem_cons_zero, List.setIfInBounds_toArray, List.set_cons_zero, List.set_cons_succ]
              refine wpAnyH_take (i := 16) (v := .slice va1 bs.length vc1) rfl (by kernel_rfl) (by kernel_rfl) (by kernel_rfl) (fun _ _ _ h => h) (Or.inl ⟨by rfl, ?yv16⟩) hHeld ?_
              case yv16 => intro w hSw; go_simp
              simp only [Act.put, List.getElem_toArray, List.getElem_cons_succ, List.getElem_cons_zero, List.setIfInBounds_toArray, List.set_cons_zero, List.set_cons_succ]
              refine wpAnyH_ready (rs := [15]) (by kernel_rfl) (by simp) ?_
              refine AllReadyH.cons rfl (fun K hK => ?_) AllReadyH.nil
              rw [if_pos (by rfl)]
              simp only [List.getElem_toArray, List.getElem_cons_succ, List.getElem_cons_zero]
              go_wp2_with fail
              have bb := alloc_below wD (.cells #[.string r.s, .int .i64 (r.lo + (ym : Int))] 70)
              obtain ⟨v', w8, hrun, hav, hb8⟩ := appB11 (w := wD) ⟨r.s, r.lo + (ym : Int)⟩ (hV.later hHeld) (by have := HM.out; omega) 71
              have hh8 := hHeld.trans (hb8.mono hHeld.size)
              refine hK.out _ _ (hHeld.trans (bb.mono hHeld.size)) (fun hHeld => ?_)
              clear hK bb
              obtain ⟨va8, vc8, rfl⟩ := hav.shape
              refine wpAnyH_ready (rs := [17]) (by kernel_rfl) (by simp) ?_
              refine AllReadyH.cons rfl (fun K hK => ?_) AllReadyH.nil
              rw [if_pos (by rfl)]
              simp only [List.getElem_toArray, List.getElem_cons_succ, List.getElem_cons_zero]
              refine wp_app11 _ _ 71 _ _ _ rfl (by rfl) (by rfl) hrun ?_
              refine hK.out _ _ hh8 (fun hHeld => ?_)
              clear hK hrun
              simp only [Act.put, List.getElem_toArray, List.getElem_cons_succ, List.getElem_cons_zero, List.setIfInBounds_toArray, List.set_cons_zero, List.set_cons_succ]
              refine wpAnyH_take (i := 18) (v := .slice va8 (bs.length + 1) vc8) rfl (by kernel_rfl) (by kernel_rfl) (by kernel_rfl) (fun _ _ _ h => h) (Or.inl ⟨by rfl, ?yv18⟩) hHeld ?_
              case yv18 => intro w hSw; go_simp
              simp only [Act.put, List.getElem_toArray, List.getElem_cons_succ, List.getElem_cons_zero, List.setIfInBounds_toArray, List.set_cons_zero, List.set_cons_succ]
              refine wpAnyH_done (by kernel_rfl) ?_ _
              clear CL
              have hd2 := HD2.out
              go_wp2
              go_roundw
              case rel => exact ⟨j0 + 1, yd, ⟨r.s, r.lo + (ym : Int)⟩ :: bs, by omega, by go_num, by rw [HD2.out], hd0, by simp; omega, hav, HG2.out, hQ.trans (hh8.mono hQ.size)⟩
              case measure => simp [RowKit.intOf]; omega
          · have hbs : Hid (bs = BB) := show _ = _ by
              have hj : j0 = rs.length := by omega
              rw [← HG.out, hj, binds_end]
            obtain ⟨⟨z0, z1⟩, _⟩ := blk2 (BX.out _ HB2.out)
            have hbl2 : bs.length ≤ 10000001 := by omega
            clear hbl
            go_wp2_with fail
            refine (spec_AffAt c ts HM.out.1 HM.out.2.1 bs (by omega) _ _ _ (HA.out _ HB2.out) HV.out).mono ?_
            rintro e w3 ⟨rfl, hb3⟩
            have HQ3 := Lib.hid (HQ.out.trans (hb3.mono HQ.out.size))
            have hs3 : w.heap.size + 1 ≤ w3.heap.size := Nat.le_trans hs9 HQ3.out.size
            clear hb3
            have VT : Hid ((valsL11 c ts s i rs).take (x0 + 1) = (valsL11 c ts s i rs).take x0 ++ [affAt8 c ts bs]) := show _ = _ by rw [valsL11_take c ts s i rs (by rw [hN.out]; exact hlt), hBB.out, hbs.out]
            obtain ⟨zz, hzz⟩ : ∃ z, affAt8 c ts bs = z := ⟨_, rfl⟩
            rw [hzz] at VT ⊢
            obtain ⟨v', w8, hrun, hown, hbb⟩ := appI11 (own_later11 HO.out (fun g _ _ hg => HQ3.out.block g (lt_heap11 hg))) hs3 zz (by omega) 53
            rw [← VT.out] at hown
            have HO8 := Lib.hid hown
            have HB8 := Lib.hid ((HB.out.trans (HQ3.out.mono hs9)).trans hbb)
            obtain ⟨a8, c8, rfl⟩ := ownShape11 hown
            clear hown hbb z0 z1 hzz VT
            go_wp2_with (at_builtin; refine wpList_app11 rfl _ _ 53 _ _ _ rfl rfl rfl hrun ?_)
            go_roundw
            case rel => exact ⟨x0 + 1, by omega, by go_num, HO8.out, HB8.out⟩
            case measure => simp [RowKit.intOf]; omega
      · have HE : Hid ((valsL11 c ts s i rs).take x0 = valsL11 c ts s i rs) := show _ = _ by
          rw [List.take_of_length_le]; rw [valsL11_len, hN.out]; omega
        have HV := Lib.hid (IV.of (by rw [valsL11_len, hN.out]; omega) (HE.out ▸ HO.out)).low
        have HL := Lib.hid (LOW.out _ HB.out)
        go_wp2
        go_ret
        exact ⟨_, rfl, HV.out, HL.out⟩
  | true =>
    obtain ⟨k0, r0, f1, f2, f3, f4, f5, f6, f7⟩ := split_has HT.out hs
    rw [hN.out] at f4 f7
    have hRp : 0 < rounds9 rs := by have := HT.out; simp only [told11, Bool.and_eq_true, decide_eq_true_eq] at this; exact this.1
    obtain ⟨R, hR⟩ : ∃ R, Hid (rounds9 rs = R) := ⟨_, rfl⟩
    rw [hR.out] at f4 hRp
    rw [hR.out]
    have hK : Hid (at9 rs 0 s = (k0 : Int)) := f3
    have hklt : k0 < rs.length := (List.getElem?_eq_some_iff.1 f1).1
    have hkltI : (k0 : Int) < (rs.length : Int) := by omega
    have e3 : (N : Int) ≤ 600 := f7
    have hq : wrap64 (R.tdiv (r0.hi - r0.lo + 1)) = (N : Int) := by
      rw [f4, Int.mul_tdiv_cancel_left _ (by omega)]; unfold wrap64; omega
    have hq0 : ¬ r0.hi - r0.lo + 1 = 0 := by omega
    obtain ⟨G1, G2, G3, G4, G5, G6⟩ := fit_of (told_prod HT.out).1 r0 (List.mem_of_getElem? f1)
    have HQ := Lib.hid hq
    obtain ⟨ao2, cap2, heq, _, hrc⟩ := HR.out _ B1.out
    injection heq with heq1 heq2 heq3
    subst heq1; subst heq3
    rcases hrc with hrn | ⟨g, off, rfl, _, gl, hcc⟩
    · rw [hrn] at hklt; simp at hklt
    obtain ⟨A0, A1, A2⟩ := hcc k0 r0 f1
    clear hcc hs f1 f2 f3 f4 f7 hq
    go_wp2_with fail
    refine (l9At_is rs (by have := HM.out; omega) s _ _ (HR.out _ B1.out)).mono ?_
    rintro e w2 ⟨rfl, rfl⟩
    rw [hK.out]
    go_wp2_with fail
    go_quiet (fail)
    generalize hwq : w1.drewN _ = w5
    have b5 : Below w1.heap.size w1 w5 := hwq ▸ belowD8 (Below.refl _ _) _
    have B5 := Lib.hid (B1.out.trans (b5.mono (by have := B1.out.size; omega)))
    have O5 := Lib.hid (own_later11 O1.out (fun g _ _ hg => b5.block g (lt_heap11 hg)))
    clear b5 hwq A0 A1 A2 O1 B1 gl
    rw [HQ.out]
    have B1 := B5
    have O1 := O5
    clear B5 O5 HQ hq0 f5 f6 G1 G2 G3 G4 G5 G6 hRp
    go_wp2
    have KI := Lib.hid (fun (j : Nat) (r : RG) (hj : rs[j]? = some r) => (show (j : Int) = (k0 : Int) ↔ r.s = s by rw [← hK.out]; exact at9_iff HT.out hj))
    go_loopw [9, 12] (fun u x wr => ∃ x0 : Nat, x0 ≤ N ∧ x = .int .i64 (x0 : Int) ∧ Hid (wr.ownsRow (w.heap.size + 1) 3 1 u x0 (ints ((valsL11 c ts s i rs).take x0))) ∧ Hid (Below (w.heap.size + 1) wB wr)) (fun _ x _ => N - (RowKit.intOf x).toNat)
    case atStart => exact ⟨0, Nat.zero_le _, rfl, O1.out, B1.out⟩
    case round =>
      obtain ⟨x0, hx0, rfl, HO, HB⟩ := hrel
      obtain ⟨ua, uc, rfl⟩ := ownShape11 HO.out
      by_cases hlt : x0 < N
      · have hltI : (x0 : Int) < (N : Int) := by omega
        obtain ⟨wP, hwP⟩ : ∃ wP, wP = wr.alloc (.cells #[.string s, .int .i64 i] 70) := ⟨_, rfl⟩
        have bP : Hid (Below wr.heap.size wr wP) := show Below _ _ _ from hwP ▸ alloc_below wr _
        have V0 : Hid (AV wP 0 (.slice (some ⟨wr.heap.size, 0, Option.none⟩) 1 1) [⟨s, i⟩]) := show AV _ _ _ _ by rw [hwP]; exact one11 (t := ⟨s, i⟩) (heap_last _ _)
        have hs9 : w.heap.size + 1 ≤ wr.heap.size := by have := HB.out.size; omega
        obtain ⟨BB, hBB⟩ : ∃ BB, Hid (bindsGo11 s rs x0 [⟨s, i⟩] = BB) := ⟨_, rfl⟩
        go_wp2
        rw [← hwP]
        clear hwP
        go_loopw [13, 14, 15] (fun b y j wq => ∃ (j0 y0 : Nat) (bs : List AR), j0 ≤ rs.length ∧ j = .int .i64 (j0 : Int) ∧ y = .int .i64 (y0 : Int) ∧ y0 ≤ 600 ∧ bs.length ≤ j0 + 1 ∧ Hid (AV wq 0 b bs) ∧ Hid (bindsGo11 s (rs.drop j0) y0 bs = BB) ∧ Hid (Below wr.heap.size wr wq)) (fun _ _ j _ => rs.length - (RowKit.intOf j).toNat)
        case atStart => exact ⟨0, x0, [⟨s, i⟩], Nat.zero_le _, rfl, rfl, by omega, by simp, V0.out, hBB.out, bP.out⟩
        case round =>
          obtain ⟨j0, y0, bs, hj0, rfl, rfl, hy0, hbl, HV, HG, HQ⟩ := hrel
          obtain ⟨va1, vc1, rfl⟩ := HV.out.shape
          have HB2 := Lib.hid (HB.out.trans (HQ.out.mono hs9))
          by_cases hlj : j0 < rs.length
          · have hljI : (j0 : Int) < (rs.length : Int) := by omega
            obtain ⟨r, hr⟩ : ∃ r, rs[j0]? = some r := ⟨rs[j0], List.getElem?_eq_getElem hlj⟩
            have HRj := Lib.hid hr
            by_cases he : r.s = s
            · have hk : (j0 : Int) = (k0 : Int) := (KI.out j0 r hr).2 he
              have HG2 : Hid (bindsGo11 s (rs.drop (j0 + 1)) y0 bs = BB) := show _ = _ by rw [← binds_hit hr he]; exact HG.out
              clear hr
              obtain rfl : j0 = k0 := by omega
              go_wp2
              go_roundw
              case rel => exact ⟨j0 + 1, y0, bs, by omega, by go_num, rfl, hy0, by omega, HV.out, HG2.out, HQ.out⟩
              case measure => simp [RowKit.intOf]; omega
            · have hk : ¬ (j0 : Int) = (k0 : Int) := fun e => he ((KI.out j0 r hr).1 e)
              obtain ⟨ao2, cap2, heq, _, hrc⟩ := HR.out _ HB2.out
              injection heq with heq1 heq2 heq3
              subst heq1; subst heq3
              rcases hrc with hrn | ⟨g1, off1, hge, _, gl, hcc⟩
              · rw [hrn] at hlj; simp at hlj
              injection hge with hge
              injection hge with hg1 hg2
              subst hg1; subst hg2
              obtain ⟨A0, A1, A2⟩ := hcc j0 r hr
              have hne := he
              obtain ⟨F1, F2, F3, F4, F5, F6⟩ := fit_of (told_prod HT.out).1 r (List.mem_of_getElem? hr)
              clear hcc hr he
              go_wp2_with fail
              go_quiet (fail)
              go_wp2_with fail
              generalize hwq : wr.drewN _ = wq
              have bq : Below wr.heap.size wr wq := hwq ▸ belowD8 (Below.refl _ _) _
              clear hwq
              have hM : ((cnt11 r : Nat) : Int) = r.hi - r.lo + 1 := by unfold cnt11; omega
              have HG2 := Lib.hid (HG.out.symm.trans (binds_go HRj.out hne)).symm
              rw [← hM]
              have hMb : 1 ≤ cnt11 r ∧ cnt11 r ≤ 20001 := by omega
              generalize cnt11 r = M at hMb hM HG2 ⊢
              clear hM
              have hV := HV.out.later bq
              have hQ := HQ.out.trans (bq.mono HQ.out.size)
              have hM0 : ¬ (M : Int) = 0 := by omega
              have hr0 : y0 % M < M := Nat.mod_lt _ (by omega)
              have hd0 : y0 / M ≤ 600 := Nat.le_trans (Nat.div_le_self _ _) hy0
              have hr1 : (y0 : Int).tmod (M : Int) = ((y0 % M : Nat) : Int) := rem11 y0 M
              have hd1 : (y0 : Int).tdiv (M : Int) = ((y0 / M : Nat) : Int) := quo11 y0 M
              generalize y0 % M = ym at hr0 hr1 HG2 ⊢
              generalize y0 / M = yd at hd0 hd1 HG2 ⊢
              obtain ⟨mI, hmI2⟩ : ∃ m : Int, (M : Int) = m := ⟨_, rfl⟩
              obtain ⟨yI, hyI2⟩ : ∃ y : Int, (y0 : Int) = y := ⟨_, rfl⟩
              rw [hmI2] at hM0 hr1 hd1
              rw [hyI2] at hr1 hd1
              rw [hmI2, hyI2]
              have hd2 : wrap64 (yI.tdiv mI) = (yd : Int) := by rw [hd1]; unfold wrap64; omega
              have HD2 := Lib.hid hd2
              have hymB : (ym : Int) ≤ 20001 := by omega
              clear hmI2 hyI2 hd1 hd2 hMb hr0
              have CL := Lib.hid (fun (wz : World) (hz : Below wq.heap.size wq wz) => And.intro ((hz.cell (p := ⟨g, off + j0 * 3, Option.none⟩) (Nat.lt_of_lt_of_le gl bq.size)).trans ((bq.cell (p := ⟨g, off + j0 * 3, Option.none⟩) gl).trans A0)) (And.intro ((hz.cell (p := ⟨g, off + j0 * 3 + 1, Option.none⟩) (Nat.lt_of_lt_of_le gl bq.size)).trans ((bq.cell (p := ⟨g, off + j0 * 3 + 1, Option.none⟩) gl).trans A1)) True.intro))
              clear A0 A1 A2
              have bd : Below wq.heap.size wq wq.drew := (Below.refl _ wq).drew
              refine wp_region_held_drew (S := Below wq.heap.size wq) (by kernel_rfl) bd (fun hHeld => ?_)
              clear bd
              obtain ⟨wD, hwD⟩ : ∃ wD, wD = wq.drew := ⟨_, rfl⟩
              rw [← hwD] at hHeld ⊢
              clear hwD
              refine wpAnyH_take (i := 0) (v := .slice (some ⟨g, off, Option.none⟩) rs.length c2) rfl (by kernel_rfl) (by kernel_rfl) (by kernel_rfl) (fun _ _ _ h => h) (Or.inl ⟨by rfl, ?yv0⟩) hHeld ?_
              case yv0 => intro w hSw; go_simp
              simp only [Act.put, List.getElem_toArray, List.getElem_cons_succ, List.getElem_cons_zero, List.setIfInBounds_toArray, List.set_cons_zero, List.set_cons_succ]
              refine wpAnyH_take (i := 1) (v := .int .i64 (j0 : Int)) rfl (by kernel_rfl) (by kernel_rfl) (by kernel_rfl) (fun _ _ _ h => h) (Or.inl ⟨by rfl, ?yv1⟩) hHeld ?_
              case yv1 => intro w hSw; go_simp
              simp only [Act.put, List.getElem_toArray, List.getElem_cons_succ, List.getElem_cons_zero, List.setIfInBounds_toArray, List.set_cons_zero, List.set_cons_succ]
              refine wpAnyH_take (i := 2) (v := .pointer (some ⟨g, off + j0 * 3, Option.none⟩)) rfl (by kernel_rfl) (by kernel_rfl) (by kernel_rfl) (fun _ _ _ h => h) (Or.inl ⟨by rfl, ?yv2⟩) hHeld ?_
              case yv2 => intro w hSw; go_simp
              simp only [Act.put, List.getElem_toArray, List.getElem_cons_succ, List.getElem_cons_zero, List.setIfInBounds_toArray, List.set_cons_zero, List.set_cons_succ]
              refine wpAnyH_take (i := 3) (v := .pointer (some ⟨g, off + j0 * 3, Option.none⟩)) rfl (by kernel_rfl) (by kernel_rfl) (by kernel_rfl) (fun _ _ _ h => h) (Or.inl ⟨by rfl, ?yv3⟩) hHeld ?_
              case yv3 => intro w hSw; go_simp
              simp only [Act.put, List.getElem_toArray, List.getElem_cons_succ, List.getElem_cons_zero, List.setIfInBounds_toArray, List.set_cons_zero, List.set_cons_succ]
              refine wpAnyH_take (i := 4) (v := .string r.s) rfl (by kernel_rfl) (by kernel_rfl) (by kernel_rfl) (fun _ _ _ h => h) (Or.inl ⟨by rfl, ?yv4⟩) hHeld ?_
              case yv4 => intro w hSw; obtain ⟨j0, j1, j2⟩ := CL.out w hSw; go_simp
              simp only [Act.put, List.getElem_toArray, List.getElem_cons_succ, List.getElem_cons_zero, List.setIfInBounds_toArray, List.set_cons_zero, List.set_cons_succ]
              refine wpAnyH_take (i := 5) (v := .slice (some ⟨g, off, Option.none⟩) rs.length c2) rfl (by kernel_rfl) (by kernel_rfl) (by kernel_rfl) (fun _ _ _ h => h) (Or.inl ⟨by rfl, ?yv5⟩) hHeld ?_
              case yv5 => intro w hSw; go_simp
              simp only [Act.put, List.getElem_toArray, List.getElem_cons_succ, List.getElem_cons_zero, List.setIfInBounds_toArray, List.set_cons_zero, List.set_cons_succ]
              refine wpAnyH_take (i := 6) (v := .int .i64 (j0 : Int)) rfl (by kernel_rfl) (by kernel_rfl) (by kernel_rfl) (fun _ _ _ h => h) (Or.inl ⟨by rfl, ?yv6⟩) hHeld ?_
              case yv6 => intro w hSw; go_simp
              simp only [Act.put, List.getElem_toArray, List.getElem_cons_succ, List.getElem_cons_zero, List.setIfInBounds_toArray, List.set_cons_zero, List.set_cons_succ]
              refine wpAnyH_take (i := 7) (v := .pointer (some ⟨g, off + j0 * 3, Option.none⟩)) rfl (by kernel_rfl) (by kernel_rfl) (by kernel_rfl) (fun _ _ _ h => h) (Or.inl ⟨by rfl, ?yv7⟩) hHeld ?_
              case yv7 => intro w hSw; go_simp
              simp only [Act.put, List.getElem_toArray, List.getElem_cons_succ, List.getElem_cons_zero, List.setIfInBounds_toArray, List.set_cons_zero, List.set_cons_succ]
              refine wpAnyH_take (i := 8) (v := .pointer (some ⟨g, off + j0 * 3 + 1, Option.none⟩)) rfl (by kernel_rfl) (by kernel_rfl) (by kernel_rfl) (fun _ _ _ h => h) (Or.inl ⟨by rfl, ?yv8⟩) hHeld ?_
              case yv8 => intro w hSw; go_simp
              simp only [Act.put, List.getElem_toArray, List.getElem_cons_succ, List.getElem_cons_zero, List.setIfInBounds_toArray, List.set_cons_zero, List.set_cons_succ]
              refine wpAnyH_take (i := 9) (v := .int .i64 r.lo) rfl (by kernel_rfl) (by kernel_rfl) (by kernel_rfl) (fun _ _ _ h => h) (Or.inl ⟨by rfl, ?yv9⟩) hHeld ?_
              case yv9 => intro w hSw; obtain ⟨j0, j1, j2⟩ := CL.out w hSw; go_simp
              simp only [Act.put, List.getElem_toArray, List.getElem_cons_succ, List.getElem_cons_zero, List.setIfInBounds_toArray, List.set_cons_zero, List.set_cons_succ]
              refine wpAnyH_take (i := 10) (v := .int .i64 yI) rfl (by kernel_rfl) (by kernel_rfl) (by kernel_rfl) (fun _ _ _ h => h) (Or.inl ⟨by rfl, ?yv10⟩) hHeld ?_
              case yv10 => intro w hSw; go_simp
              simp only [Act.put, List.getElem_toArray, List.getElem_cons_succ, List.getElem_cons_zero, List.setIfInBounds_toArray, List.set_cons_zero, List.set_cons_succ]
              refine wpAnyH_take (i := 11) (v := .int .i64 mI) rfl (by kernel_rfl) (by kernel_rfl) (by kernel_rfl) (fun _ _ _ h => h) (Or.inl ⟨by rfl, ?yv11⟩) hHeld ?_
              case yv11 => intro w hSw; go_simp
              simp only [Act.put, List.getElem_toArray, List.getElem_cons_succ, List.getElem_cons_zero, List.setIfInBounds_toArray, List.set_cons_zero, List.set_cons_succ]
              refine wpAnyH_take (i := 12) (v := .int .i64 (ym : Int)) rfl (by kernel_rfl) (by kernel_rfl) (by kernel_rfl) (fun _ _ _ h => h) (Or.inl ⟨by rfl, ?yv12⟩) hHeld ?_
              case yv12 => intro w hSw; go_simp
              simp only [Act.put, List.getElem_toArray, List.getElem_cons_succ, List.getElem_cons_zero, List.setIfInBounds_toArray, List.set_cons_zero, List.set_cons_succ]
              refine wpAnyH_take (i := 13) (v := .int .i64 (r.lo + (ym : Int))) rfl (by kernel_rfl) (by kernel_rfl) (by kernel_rfl) (fun _ _ _ h => h) (Or.inl ⟨by rfl, ?yv13⟩) hHeld ?_
              case yv13 => intro w hSw; go_simp; rw [IntKind.wrap_i64]; omega
              simp only [Act.put, List.getElem_toArray, List.getElem_cons_succ, List.getElem_cons_zero, List.setIfInBounds_toArray, List.set_cons_zero, List.set_cons_succ]
              refine wpAnyH_take (i := 14) (v := .agg #[.string r.s, .int .i64 (r.lo + (ym : Int))]) rfl (by kernel_rfl) (by kernel_rfl) (by kernel_rfl) (fun _ _ _ h => h) (Or.inl ⟨by rfl, ?yv14⟩) hHeld ?_
              case yv14 => intro w hSw; go_simp
              simp only [Act.put, List.getElem_toArray, List.getElem_cons_succ, List.getElem_cons_zero, List.setIfInBounds_toArray, List.set_cons_zero, List.set_cons_succ]
              refine wpAnyH_take (i := 16) (v := .slice va1 bs.length vc1) rfl (by kernel_rfl) (by kernel_rfl) (by kernel_rfl) (fun _ _ _ h => h) (Or.inl ⟨by rfl, ?yv16⟩) hHeld ?_
              case yv16 => intro w hSw; go_simp
              simp only [Act.put, List.getElem_toArray, List.getElem_cons_succ, List.getElem_cons_zero, List.setIfInBounds_toArray, List.set_cons_zero, List.set_cons_succ]
              refine wpAnyH_ready (rs := [15]) (by kernel_rfl) (by simp) ?_
              refine AllReadyH.cons rfl (fun K hK => ?_) AllReadyH.nil
              rw [if_pos (by rfl)]
              simp only [List.getElem_toArray, List.getElem_cons_succ, List.getElem_cons_zero]
              go_wp2_with fail
              have bb := alloc_below wD (.cells #[.string r.s, .int .i64 (r.lo + (ym : Int))] 70)
              obtain ⟨v', w8, hrun, hav, hb8⟩ := appB11 (w := wD) ⟨r.s, r.lo + (ym : Int)⟩ (hV.later hHeld) (by have := HM.out; omega) 71
              have hh8 := hHeld.trans (hb8.mono hHeld.size)
              refine hK.out _ _ (hHeld.trans (bb.mono hHeld.size)) (fun hHeld => ?_)
              clear hK bb
              obtain ⟨va8, vc8, rfl⟩ := hav.shape
              refine wpAnyH_ready (rs := [17]) (by kernel_rfl) (by simp) ?_
              refine AllReadyH.cons rfl (fun K hK => ?_) AllReadyH.nil
              rw [if_pos (by rfl)]
              simp only [List.getElem_toArray, List.getElem_cons_succ, List.getElem_cons_zero]
              refine wp_app11 _ _ 71 _ _ _ rfl (by rfl) (by rfl) hrun ?_
              refine hK.out _ _ hh8 (fun hHeld => ?_)
              clear hK hrun
              simp only [Act.put, List.getElem_toArray, List.getElem_cons_succ, List.getElem_cons_zero, List.setIfInBounds_toArray, List.set_cons_zero, List.set_cons_succ]
              refine wpAnyH_take (i := 18) (v := .slice va8 (bs.length + 1) vc8) rfl (by kernel_rfl) (by kernel_rfl) (by kernel_rfl) (fun _ _ _ h => h) (Or.inl ⟨by rfl, ?yv18⟩) hHeld ?_
              case yv18 => intro w hSw; go_simp
              simp only [Act.put, List.getElem_toArray, List.getElem_cons_succ, List.getElem_cons_zero, List.setIfInBounds_toArray, List.set_cons_zero, List.set_cons_succ]
              refine wpAnyH_done (by kernel_rfl) ?_ _
              clear CL
              have hd2 := HD2.out
              go_wp2
              go_roundw
              case rel => exact ⟨j0 + 1, yd, ⟨r.s, r.lo + (ym : Int)⟩ :: bs, by omega, by go_num, by rw [HD2.out], hd0, by simp; omega, hav, HG2.out, hQ.trans (hh8.mono hQ.size)⟩
              case measure => simp [RowKit.intOf]; omega
          · have hbs : Hid (bs = BB) := show _ = _ by
              have hj : j0 = rs.length := by omega
              rw [← HG.out, hj, binds_end]
            obtain ⟨⟨z0, z1⟩, _⟩ := blk2 (BX.out _ HB2.out)
            have hbl2 : bs.length ≤ 10000001 := by omega
            clear hbl
            go_wp2_with fail
            refine (spec_AffAt c ts HM.out.1 HM.out.2.1 bs (by omega) _ _ _ (HA.out _ HB2.out) HV.out).mono ?_
            rintro e w3 ⟨rfl, hb3⟩
            have HQ3 := Lib.hid (HQ.out.trans (hb3.mono HQ.out.size))
            have hs3 : w.heap.size + 1 ≤ w3.heap.size := Nat.le_trans hs9 HQ3.out.size
            clear hb3
            have VT : Hid ((valsL11 c ts s i rs).take (x0 + 1) = (valsL11 c ts s i rs).take x0 ++ [affAt8 c ts bs]) := show _ = _ by rw [valsL11_take c ts s i rs (by rw [hN.out]; exact hlt), hBB.out, hbs.out]
            obtain ⟨zz, hzz⟩ : ∃ z, affAt8 c ts bs = z := ⟨_, rfl⟩
            rw [hzz] at VT ⊢
            obtain ⟨v', w8, hrun, hown, hbb⟩ := appI11 (own_later11 HO.out (fun g _ _ hg => HQ3.out.block g (lt_heap11 hg))) hs3 zz (by omega) 53
            rw [← VT.out] at hown
            have HO8 := Lib.hid hown
            have HB8 := Lib.hid ((HB.out.trans (HQ3.out.mono hs9)).trans hbb)
            obtain ⟨a8, c8, rfl⟩ := ownShape11 hown
            clear hown hbb z0 z1 hzz VT
            go_wp2_with (at_builtin; refine wpList_app11 rfl _ _ 53 _ _ _ rfl rfl rfl hrun ?_)
            go_roundw
            case rel => exact ⟨x0 + 1, by omega, by go_num, HO8.out, HB8.out⟩
            case measure => simp [RowKit.intOf]; omega
      · have HE : Hid ((valsL11 c ts s i rs).take x0 = valsL11 c ts s i rs) := show _ = _ by
          rw [List.take_of_length_le]; rw [valsL11_len, hN.out]; omega
        have HV := Lib.hid (IV.of (by rw [valsL11_len, hN.out]; omega) (HE.out ▸ HO.out)).low
        have HL := Lib.hid (LOW.out _ HB.out)
        go_wp2
        go_ret
        exact ⟨_, rfl, HV.out, HL.out⟩
end Go.Proofs.Ytjdpddcnogdekab
