/-
  Texts in one: ChkProg, ChkDraw, NamePlain.
-/
import Derived.Test.YtkhccpjkajhnpaaGreatP05ofFnChecks
import Derived.Test.YtkhccpjkajhnpaaGreatP06ofFnChecks
import Derived.Test.YtkhccpjkajhnpaaGreatAstAnyS
import Derived.Test.YtkhccpjkajhnpaaGreatP00ofFnChecks
import Derived.Sort.Walk0
import Derived.Sort.KeysCollected
/-
  The contract of l4Prog: a program that is right mostly.
-/
namespace Go.Proofs.YtkhccpjkajhnpaaGreat
open Go.RowKit Go.Lib
set_option linter.unusedSimpArgs false
set_option linter.unusedVariables false

def limP : Nat := 4 * (limS 2 + 1) + limT + 1
theorem okStrA : ∀ z ∈ ([⟨#[99]⟩, ⟨#[97]⟩, ⟨#[120]⟩, ⟨#[102, 111, 114]⟩] : List ByteArray), z.size ≤ 3 := by decide
theorem okIntA : ∀ z ∈ ([0, 1, 16, 17] : List Int), 0 ≤ z ∧ z ≤ 17 := by decide
theorem oneP2 (x y : Option Addr) (i j k l : Nat) : (#[.slice x i j, .slice y k l] : Array Value).all (·.oneCell') = true := by simp [Value.oneCell']
theorem ns_slice (a : Option Addr) (n c : Nat) : ¬ NS (.slice a n c) := fun h => h
theorem AV.two {w : World} {N : Nat} (hr : w.rangeAt (N + 1) 0 (acells [⟨⟨#[97]⟩, 8⟩, ⟨⟨#[98]⟩, 6⟩])) : AV w (N + 1) (.slice (some ⟨N + 1, 0, Option.none⟩) 2 2) [⟨⟨#[97]⟩, 8⟩, ⟨⟨#[98]⟩, 6⟩] :=
  AV.laid (lt_of_cellA (hr 0 _ rfl)) hr
theorem AV.one {w : World} {N : Nat} (hr : w.rangeAt (N + 1) 0 (acells [⟨⟨#[97]⟩, 8⟩, ⟨⟨#[98]⟩, 6⟩])) : AV w (N + 1) (.slice (some ⟨N + 1, 0, Option.none⟩) 1 2) [⟨⟨#[97]⟩, 8⟩] :=
  AV.laid (ts := [⟨⟨#[97]⟩, 8⟩]) (lt_of_cellA (hr 0 _ rfl)) (fun j v hj => hr j v (by
    match j, hj with
    | 0, hj => exact hj
    | 1, hj => exact hj
    | j + 2, hj => simp [acells] at hj))
set_option maxHeartbeats 4000000 in
set_option maxRecDepth 100000 in
theorem l4Prog_is (B : Nat) (a : Option Addr) (len cap b : Nat) (w : World) (hdw : Dw B a len cap b w) : Calls Tryz.prog 21 #[.pointer (some ⟨b, 0, none⟩)] w (DrawnP B a len cap b limP w) := by
  have HD := Lib.hid hdw
  have hbN := hdw.cur.lt
  clear hdw
  go_enter Tryz.func21, Tryz.ntmps21
  go_wp2_with fail
  have b0 := (alloc_below w (.cells #[nilS, nilS] 27)).alloc (by simp) (.cells #[.string ⟨#[97]⟩, .int .i64 8, .string ⟨#[98]⟩, .int .i64 6] 63)
  have hs : ((w.alloc (.cells #[nilS, nilS] 27)).alloc (.cells #[.string ⟨#[97]⟩, .int .i64 8, .string ⟨#[98]⟩, .int .i64 6] 63)).heap.size = w.heap.size + 2 := by simp
  have t0 := there_later (newthere2 w nilS nilS 27) (alloc_below _ (.cells #[.string ⟨#[97]⟩, .int .i64 8, .string ⟨#[98]⟩, .int .i64 6] 63))
  have r0 : ((w.alloc (.cells #[nilS, nilS] 27)).alloc (.cells #[.string ⟨#[97]⟩, .int .i64 8, .string ⟨#[98]⟩, .int .i64 6] 63)).rangeAt (w.heap.size + 1) 0 (acells [⟨⟨#[97]⟩, 8⟩, ⟨⟨#[98]⟩, 6⟩]) := by
    have h := new_rangeS (w.alloc (.cells #[nilS, nilS] 27)) #[.string ⟨#[97]⟩, .int .i64 8, .string ⟨#[98]⟩, .int .i64 6] 63
    rw [World.size_alloc] at h
    exact h
  have K0 : Hid (((w.alloc (.cells #[nilS, nilS] 27)).alloc (.cells #[.string ⟨#[97]⟩, .int .i64 8, .string ⟨#[98]⟩, .int .i64 6] 63)).ownsRow (w.heap.size + 1) 63 2 (.slice (some ⟨w.heap.size + 1, 0, Option.none⟩) 2 2) 2 (acells [⟨⟨#[97]⟩, 8⟩, ⟨⟨#[98]⟩, 6⟩])) := Lib.hid ⟨rfl, .inr ⟨w.heap.size + 1, 2, #[.string ⟨#[97]⟩, .int .i64 8, .string ⟨#[98]⟩, .int .i64 6], rfl, Nat.le_refl _, (by have h := heap_last (w.alloc (.cells #[nilS, nilS] 27)) (.cells #[.string ⟨#[97]⟩, .int .i64 8, .string ⟨#[98]⟩, .int .i64 6] 63); rw [World.size_alloc] at h; exact h), Nat.le_refl _, (by unfold maxLen; omega), rfl, rfl⟩⟩
  refine (l3Stmts_is 2 4 (by omega) (by omega) (by omega) B a len cap b _ (HD.out.later b0)).mono ?_
  rintro e w1 ⟨F, vf, rfl, g1, s1, d1, wr1, so1⟩
  rw [hs] at g1 so1
  obtain ⟨fa, fc, rfl⟩ := g1.shape
  have hw1 := wr1.size
  rw [hs] at hw1
  have KW := Lib.hid wr1
  have K1 := Lib.hid (And.intro (And.intro d1 so1) (And.intro ((Wr.of_below b0).trans wr1) (And.intro (there_wr t0 wr1 (by omega)) (range_wr r0 wr1 (by omega)))))
  clear g1 so1 d1 wr1 t0 r0 b0 hs HD
  go_wp2_with fail
  have b1 := alloc_below w1 (.cells #[.slice (some ⟨w.heap.size + 1, 0, Option.none⟩) 2 2, .slice fa (slen F) fc] 27)
  refine (l1Below_is B a len cap b 10 _ (K1.out.1.1.later b1) (by omega)).mono ?_
  rintro e w2 ⟨x, rfl, ⟨x0, x1⟩, d2, wr2⟩
  obtain ⟨n, hn⟩ : ∃ n, w1.heap.size = n := ⟨_, rfl⟩
  have P2 : Hid (PvS B a len cap b w w.heap.size n (.slice (some ⟨w.heap.size + 1, 0, Option.none⟩) 2 2) (.slice fa (slen F) fc) w2) := Lib.hid (by
    rw [← hn]
    exact ⟨range_wr (new_rangeS w1 #[.slice (some ⟨w.heap.size + 1, 0, Option.none⟩) 2 2, .slice fa (slen F) fc] 27) wr2 (by omega), there_wr (newthere2 w1 _ _ _) wr2 (by omega), there_wr (there_later K1.out.2.2.1 b1) wr2 (show w.heap.size ≠ b by omega), d2, (K1.out.2.1.trans (.of_below b1)).trans wr2, rfl, hbN, hw1⟩)
  have RA : Hid (w2.rangeAt (w.heap.size + 1) 0 (acells [⟨⟨#[97]⟩, 8⟩, ⟨⟨#[98]⟩, 6⟩])) := Lib.hid (range_wr (rangeAt_later K1.out.2.2.2 b1) wr2 (by omega))
  have SO2 : Hid (SO w2 (w.heap.size + 2) F (.slice fa (slen F) fc)) := Lib.hid ((K1.out.1.2.wr (b := b) (.of_below b1) (by omega)).wr wr2 (by omega))
  have WA2 : Hid (Wr b ((w.alloc (.cells #[nilS, nilS] 27)).alloc (.cells #[.string ⟨#[97]⟩, .int .i64 8, .string ⟨#[98]⟩, .int .i64 6] 63)) w2) := Lib.hid ((KW.out.trans (.of_below b1)).trans wr2)
  have OA : Hid (w2.ownsRow (w.heap.size + 1) 63 2 (.slice (some ⟨w.heap.size + 1, 0, Option.none⟩) 2 2) 2 (acells [⟨⟨#[97]⟩, 8⟩, ⟨⟨#[98]⟩, 6⟩])) := Lib.hid (own_wr (own_wr (own_wr K0.out KW.out (by omega)) (b := b) (.of_below b1) (by omega)) wr2 (by omega))
  have GN : Hid (gOf (.slice fa (slen F) fc) < n) := Lib.hid (by
    rw [← hn]
    obtain ⟨xs, hown, _⟩ := K1.out.1.2
    unfold gOf
    cases h : (Value.slice fa (slen F) fc).ownBlock with
    | none => have := hw1; simp only [Option.getD_none]; omega
    | some g => exact (hown.lt g h).2)
  rw [hn] at hw1 ⊢
  have HS1 := Lib.hid s1
  have hw2 := wr2.size
  have hb2n : n < w2.heap.size := lt_of_cellA P2.out.c0.1
  clear d2 wr2 b1 K1 hn s1 KW K0
  by_cases h0 : x = 0
  · subst h0
    have ob : (Value.slice (some ⟨w.heap.size + 1, 0, Option.none⟩) 2 2).ownBlock = some (w.heap.size + 1) := rfl
    obtain ⟨i0, hi, hz0, hz1, hz2⟩ := info_parts infoIA
    have HI := Lib.hid (And.intro hi (And.intro hz0 (And.intro hz1 hz2)))
    clear hi hz0 hz1 hz2
    go_wp2_with fail
    refine region_drew (by kernel_rfl) (fun wd hwd => ?_)
    have bd : Below w2.heap.size w2 wd := by rw [hwd]; exact (Below.refl _ w2).drew
    clear hwd
    have C2 : Hid (C0 B a len cap b w w.heap.size n F (.slice (some ⟨w.heap.size + 1, 0, Option.none⟩) 2 2) (.slice fa (slen F) fc) w2) := Lib.hid ⟨P2.out, OA.out, SO2.out.sv⟩
    have Cd := Lib.hid (C2.out.later bd)
    clear bd C2
    refine wpAny_take (i := 0) (v := .pointer (some ⟨n, 0, Option.none⟩)) rfl (by kernel_rfl) (by kernel_rfl) (by kernel_rfl) (fun _ _ _ h => h) (Or.inl ⟨by rfl, ?a0⟩) ?_
    case a0 => intro w; go_simp
    simp only [Act.put, List.getElem_toArray, List.getElem_cons_succ, List.getElem_cons_zero, List.setIfInBounds_toArray, List.set_cons_zero, List.set_cons_succ]
    refine wpAny_take (i := 2) (v := .pointer (some ⟨b, 0, Option.none⟩)) rfl (by kernel_rfl) (by kernel_rfl) (by kernel_rfl) (fun _ _ _ h => h) (Or.inl ⟨by rfl, ?a2⟩) ?_
    case a2 => intro w; go_simp
    simp only [Act.put, List.getElem_toArray, List.getElem_cons_succ, List.getElem_cons_zero, List.setIfInBounds_toArray, List.set_cons_zero, List.set_cons_succ]
    refine wpAny_take (i := 5) (v := .pointer (some ⟨b, 0, Option.none⟩)) rfl (by kernel_rfl) (by kernel_rfl) (by kernel_rfl) (fun _ _ _ h => h) (Or.inl ⟨by rfl, ?a5⟩) ?_
    case a5 => intro w; go_simp
    simp only [Act.put, List.getElem_toArray, List.getElem_cons_succ, List.getElem_cons_zero, List.setIfInBounds_toArray, List.set_cons_zero, List.set_cons_succ]
    refine wpAny_till (i := 1) (v := .slice (some ⟨w.heap.size + 1, 0, Option.none⟩) 2 2) (fun w' => w'.cell? ⟨n, 0, Option.none⟩ = some (.slice (some ⟨w.heap.size + 1, 0, Option.none⟩) 2 2)) rfl (by kernel_rfl) (by kernel_rfl) (by kernel_rfl) (fun _ _ _ h => h) (Or.inl ⟨by rfl, ?a1⟩) Cd.out.pv.c0.1 (fun hHeld => ?_)
    case a1 => intro w hSw; go_simp
    simp only [Act.put, List.getElem_toArray, List.getElem_cons_succ, List.getElem_cons_zero, List.setIfInBounds_toArray, List.set_cons_zero, List.set_cons_succ]
    refine wpAnyD_ready (rs := [3, 6]) (by kernel_rfl) (by simp) ?_
    refine AllReadyD.cons rfl (fun K hK => ?_) (AllReadyD.cons rfl (fun K hK => ?_) AllReadyD.nil)
    ·
      rw [if_pos (by rfl)]
      simp only [List.getElem_toArray, List.getElem_cons_succ, List.getElem_cons_zero]
      go_wp2_with fail
      obtain ⟨w31, hW31⟩ : ∃ W, wd.alloc (.cells #[.string ⟨#[99]⟩, .string ⟨#[97]⟩, .string ⟨#[120]⟩, .string ⟨#[102, 111, 114]⟩] 9) = W := ⟨_, rfl⟩
      have hb31 : Below wd.heap.size wd w31 := by rw [← hW31]; exact alloc_below _ _
      have C31 := Lib.hid (Cd.out.later hb31)
      have F31 : Hid (StrL b wd.heap.size w31) := Lib.hid (by rw [← hW31]; exact ⟨by have := Cd.out.pv.dw.cur.lt; omega, fun j hj => strs_cell _ _ _ okStrA _ rfl j hj⟩)
      refine hK.out _ _ (fun _ => keeps (alloc_below _ _) Cd.out.pv.c0.1) ?_
      try simp only [Act.put, List.getElem_toArray, List.getElem_cons_succ, List.getElem_cons_zero, List.setIfInBounds_toArray, List.set_cons_zero, List.set_cons_succ]
      rw [hW31]
      clear hb31 hW31
      refine wpAnyD_ready (rs := [4, 6]) (by kernel_rfl) (by simp) ?_
      refine AllReadyD.cons rfl (fun K hK => ?_) (AllReadyD.cons rfl (fun K hK => ?_) AllReadyD.nil)
      ·
        rw [if_pos (by rfl)]
        simp only [List.getElem_toArray, List.getElem_cons_succ, List.getElem_cons_zero]
        go_wp2_with fail
        refine (l1Str_is B a len cap b _ 4 4 (fun z => z.size ≤ 3) _ C31.out.pv.dw (by omega) (by omega) (by have := F31.out.1; omega) F31.out.2).mono ?_
        rintro e w32 ⟨s, rfl, hs3, d32, wr32⟩
        have C32 := Lib.hid (C31.out.step wr32 d32)
        clear d32 wr32
        go_wp2_with fail
        refine hK.out _ _ (fun _ => C32.out.pv.c0.1) ?_
        try simp only [Act.put, List.getElem_toArray, List.getElem_cons_succ, List.getElem_cons_zero, List.setIfInBounds_toArray, List.set_cons_zero, List.set_cons_succ]
        refine wpAnyD_ready (rs := [6]) (by kernel_rfl) (by simp) ?_
        refine AllReadyD.cons rfl (fun K hK => ?_) AllReadyD.nil
        rw [if_pos (by rfl)]
        simp only [List.getElem_toArray, List.getElem_cons_succ, List.getElem_cons_zero]
        go_wp2_with fail
        obtain ⟨w33, hW33⟩ : ∃ W, w32.alloc (.cells #[.int .i64 0, .int .i64 1, .int .i64 16, .int .i64 17] 3) = W := ⟨_, rfl⟩
        have hb33 : Below w32.heap.size w32 w33 := by rw [← hW33]; exact alloc_below _ _
        have C33 := Lib.hid (C32.out.later hb33)
        have F33 : Hid (IntL b w32.heap.size w33) := Lib.hid (by rw [← hW33]; exact ⟨by have := C32.out.pv.dw.cur.lt; omega, fun j hj => ints_cell _ _ _ okIntA _ rfl j hj⟩)
        refine hK.out _ _ (fun _ => keeps (alloc_below _ _) C32.out.pv.c0.1) ?_
        try simp only [Act.put, List.getElem_toArray, List.getElem_cons_succ, List.getElem_cons_zero, List.setIfInBounds_toArray, List.set_cons_zero, List.set_cons_succ]
        rw [hW33]
        clear hb33 hW33
        refine wpAnyD_ready (rs := [7]) (by kernel_rfl) (by simp) ?_
        refine AllReadyD.cons rfl (fun K hK => ?_) AllReadyD.nil
        rw [if_pos (by rfl)]
        simp only [List.getElem_toArray, List.getElem_cons_succ, List.getElem_cons_zero]
        go_wp2_with fail
        refine (l1Int_is B a len cap b _ 4 4 (fun z => 0 ≤ z ∧ z ≤ 17) _ C33.out.pv.dw (by omega) (by omega) (by have := F33.out.1; omega) F33.out.2).mono ?_
        rintro e w34 ⟨z, rfl, hz17, d34, wr34⟩
        have C34 := Lib.hid (C33.out.step wr34 d34)
        clear d34 wr34
        go_wp2_with fail
        refine hK.out _ _ (fun _ => C34.out.pv.c0.1) ?_
        try simp only [Act.put, List.getElem_toArray, List.getElem_cons_succ, List.getElem_cons_zero, List.setIfInBounds_toArray, List.set_cons_zero, List.set_cons_succ]
        refine wpAnyD_ready (rs := [8]) (by kernel_rfl) (by simp) ?_
        refine AllReadyD.cons rfl (fun K hK => ?_) AllReadyD.nil
        rw [if_pos (by rfl)]
        simp only [List.getElem_toArray, List.getElem_cons_succ, List.getElem_cons_zero]
        go_wp2_with fail
        refine hK.out _ _ (fun _ => C34.out.pv.c0.1) ?_
        try simp only [Act.put, List.getElem_toArray, List.getElem_cons_succ, List.getElem_cons_zero, List.setIfInBounds_toArray, List.set_cons_zero, List.set_cons_succ]
        refine wpAnyD_ready (rs := [9]) (by kernel_rfl) (by simp) ?_
        refine AllReadyD.cons rfl (fun K hK => ?_) AllReadyD.nil
        rw [if_pos (by rfl)]
        simp only [List.getElem_toArray, List.getElem_cons_succ, List.getElem_cons_zero]
        go_wp2_with fail
        refine hK.out _ _ (fun _ => keeps (alloc_below _ _) C34.out.pv.c0.1) ?_
        try simp only [Act.put, List.getElem_toArray, List.getElem_cons_succ, List.getElem_cons_zero, List.setIfInBounds_toArray, List.set_cons_zero, List.set_cons_succ]
        refine wpAnyD_ready (rs := [10]) (by kernel_rfl) (by simp) ?_
        refine AllReadyD.cons rfl (fun K hK => ?_) AllReadyD.nil
        rw [if_pos (by rfl)]
        simp only [List.getElem_toArray, List.getElem_cons_succ, List.getElem_cons_zero]
        refine wp_append_lies _ _ _ 24 (by rfl) (w.heap.size + 1) 63 i0 _ 2 24 Tryz.underlying24 HI.out.1 HI.out.2.1 HI.out.2.2.1 HI.out.2.2.2 rfl (by decide) _ _ _ (by rfl) (C34.out.own.alloc _) ⟨w34.heap.size, 0, Option.none⟩ 1 1 [.string s, .int .i64 z] (by rfl) (by rfl) ?k1 ?k2 (by decide) ?k3 ?k4 ?k5 (w34.heap.size + 1) (by simp) ?_
        case k1 => exact newsN _ _ _
        case k2 => intro u hu; simp only [List.mem_cons, List.not_mem_nil, or_false] at hu; rcases hu with rfl | rfl <;> rfl
        case k3 => unfold maxLen; omega
        case k4 => omega
        case k5 => have := C34.out.pv.wr.size; simp; omega
        intro g c6 w6 hown6 hgrow6 hat6 hlt6
        have P6 := Lib.hid (C34.out.pv.grow _ hgrow6 (fun e => by rw [ob] at e; injection e with e; omega) (fun k hk => by rw [ob] at hk; injection hk with hk; omega))
        have A6 : Hid (AV w6 (w.heap.size + 1) (.slice (some ⟨g, 0, Option.none⟩) 3 c6) [⟨⟨#[97]⟩, 8⟩, ⟨⟨#[98]⟩, 6⟩, ⟨s, z⟩]) := Lib.hid (AV.own (ts := [⟨⟨#[97]⟩, 8⟩, ⟨⟨#[98]⟩, 6⟩, ⟨s, z⟩]) hown6)
        have S6 := Lib.hid ((C34.out.sv.later (alloc_below w34 _)).same (lo' := w.heap.size + 1) (by omega) (keeps_grown hgrow6 (fun k hk => by rw [ob] at hk; injection hk with hk; omega)))
        clear hown6 hgrow6 hat6 hlt6
        refine hK.out _ _ (fun e => absurd e (waitsN (by kernel_rfl))) ?_
        try simp only [Act.put, List.getElem_toArray, List.getElem_cons_succ, List.getElem_cons_zero, List.setIfInBounds_toArray, List.set_cons_zero, List.set_cons_succ]
        refine wpAnyD_ready (rs := [11]) (by kernel_rfl) (by simp) ?_
        refine AllReadyD.cons rfl (fun K hK => ?_) AllReadyD.nil
        rw [if_pos (by rfl)]
        simp only [List.getElem_toArray, List.getElem_cons_succ, List.getElem_cons_zero]
        go_wp2_with fail
        refine hK.out _ _ (fun e => absurd e (waitsN (by kernel_rfl))) ?_
        try simp only [Act.put, List.getElem_toArray, List.getElem_cons_succ, List.getElem_cons_zero, List.setIfInBounds_toArray, List.set_cons_zero, List.set_cons_succ]
        refine wpAnyD_ready (rs := [12]) (by kernel_rfl) (by simp) ?_
        refine AllReadyD.cons rfl (fun K hK => ?_) AllReadyD.nil
        rw [if_pos (by rfl)]
        simp only [List.getElem_toArray, List.getElem_cons_succ, List.getElem_cons_zero]
        have q1 := P6.out.c0
        have q1a := q1.1
        have q1f := q1.2
        go_wp2_with fail
        refine hK.out _ _ (fun e => absurd e (waitsN (by kernel_rfl))) ?_
        try simp only [Act.put, List.getElem_toArray, List.getElem_cons_succ, List.getElem_cons_zero, List.setIfInBounds_toArray, List.set_cons_zero, List.set_cons_succ]
        refine wpAnyD_done (by kernel_rfl) ?_ _
        have P7 : Hid (PvS B a len cap b w w.heap.size n (.slice (some ⟨g, 0, Option.none⟩) 3 c6) (.slice fa (slen F) fc) (w6.setCell ⟨n, 0, Option.none⟩ (.slice (some ⟨g, 0, Option.none⟩) 3 c6))) := Lib.hid (P6.out.setA _)
        have KK : Hid (Kp (w.heap.size + 1) w6 (w6.setCell ⟨n, 0, Option.none⟩ (.slice (some ⟨g, 0, Option.none⟩) 3 c6))) := Lib.hid (kp_set _ (by omega) q1a (ns_slice _ _ _))
        have hz7 : w6.heap.size ≤ (w6.setCell ⟨n, 0, Option.none⟩ (.slice (some ⟨g, 0, Option.none⟩) 3 c6)).heap.size := by rw [show w6.setCell ⟨n, 0, Option.none⟩ (.slice (some ⟨g, 0, Option.none⟩) 3 c6) = w6.setCells n 0 [.slice (some ⟨g, 0, Option.none⟩) 3 c6] from rfl, size_sets]; exact Nat.le_refl _
        have A7 := Lib.hid (A6.out.spare (Nat.le_refl _) KK.out hz7)
        have S7 := Lib.hid (S6.out.spare (Nat.le_refl _) KK.out)
        have M7 : Hid (∀ t ∈ [(⟨⟨#[97]⟩, 8⟩ : AR), ⟨⟨#[98]⟩, 6⟩, ⟨s, z⟩], t.s.size ≤ 3) := Lib.hid (by intro t ht; simp only [List.mem_cons, List.not_mem_nil, or_false] at ht; rcases ht with rfl | rfl | rfl; decide; decide; exact hs3)
        clear q1 q1a q1f hz7
        go_wp2_with (first | (refine wpList_load_mid rfl 27 _ rfl n 0 rfl _ _ P7.out.rg Tryz.underlying27 rfl sizePg ?_) | (refine store_abs rfl 27 _ _ rfl w.heap.size 0 #[.slice (some ⟨g, 0, Option.none⟩) 3 c6, .slice fa (slen F) fc] rfl rfl P7.out.tN sizePg (oneP2 _ _ _ _ _ _) ?_; intro W hW))
        have HW := P7.out.close (ts := [⟨⟨#[97]⟩, 8⟩, ⟨⟨#[98]⟩, 6⟩, ⟨s, z⟩]) (lim := limP) hW A7.out S7.out (by simp) M7.out (by have := HS1.out; unfold limP; omega)
        have hlv := run_loadVar_mid W w.heap.size 0 _ _ _ HW.2 Tryz.underlying27 rfl sizePg
        refine bodyPost_ret (v := .agg #[.slice (some ⟨g, 0, Option.none⟩) 3 c6, .slice fa (slen F) fc]) ?_ rfl HW.1
        simp [results, Tryz.results21, asAddr, hlv, Act.put]
        try rfl
      ·
        rw [if_pos (by rfl)]
        simp only [List.getElem_toArray, List.getElem_cons_succ, List.getElem_cons_zero]
        go_wp2_with fail
        obtain ⟨w35, hW35⟩ : ∃ W, w31.alloc (.cells #[.int .i64 0, .int .i64 1, .int .i64 16, .int .i64 17] 3) = W := ⟨_, rfl⟩
        have hb35 : Below w31.heap.size w31 w35 := by rw [← hW35]; exact alloc_below _ _
        have C35 := Lib.hid (C31.out.later hb35)
        have F35 : Hid (IntL b w31.heap.size w35) := Lib.hid (by rw [← hW35]; exact ⟨by have := C31.out.pv.dw.cur.lt; omega, fun j hj => ints_cell _ _ _ okIntA _ rfl j hj⟩)
        have G35 := Lib.hid (F31.out.later hb35)
        refine hK.out _ _ (fun _ => keeps (alloc_below _ _) C31.out.pv.c0.1) ?_
        try simp only [Act.put, List.getElem_toArray, List.getElem_cons_succ, List.getElem_cons_zero, List.setIfInBounds_toArray, List.set_cons_zero, List.set_cons_succ]
        rw [hW35]
        clear hb35 hW35
        refine wpAnyD_ready (rs := [4]) (by kernel_rfl) (by simp) ?_
        refine AllReadyD.cons rfl (fun K hK => ?_) AllReadyD.nil
        rw [if_pos (by rfl)]
        simp only [List.getElem_toArray, List.getElem_cons_succ, List.getElem_cons_zero]
        go_wp2_with fail
        refine (l1Str_is B a len cap b _ 4 4 (fun z => z.size ≤ 3) _ C35.out.pv.dw (by omega) (by omega) (by have := G35.out.1; omega) G35.out.2).mono ?_
        rintro e w36 ⟨s, rfl, hs3, d36, wr36⟩
        have C36 := Lib.hid (C35.out.step wr36 d36)
        have G36 := Lib.hid (F35.out.wr wr36)
        clear d36 wr36
        go_wp2_with fail
        refine hK.out _ _ (fun _ => C36.out.pv.c0.1) ?_
        try simp only [Act.put, List.getElem_toArray, List.getElem_cons_succ, List.getElem_cons_zero, List.setIfInBounds_toArray, List.set_cons_zero, List.set_cons_succ]
        refine wpAnyD_ready (rs := [7]) (by kernel_rfl) (by simp) ?_
        refine AllReadyD.cons rfl (fun K hK => ?_) AllReadyD.nil
        rw [if_pos (by rfl)]
        simp only [List.getElem_toArray, List.getElem_cons_succ, List.getElem_cons_zero]
        go_wp2_with fail
        refine (l1Int_is B a len cap b _ 4 4 (fun z => 0 ≤ z ∧ z ≤ 17) _ C36.out.pv.dw (by omega) (by omega) (by have := G36.out.1; omega) G36.out.2).mono ?_
        rintro e w37 ⟨z, rfl, hz17, d37, wr37⟩
        have C37 := Lib.hid (C36.out.step wr37 d37)
        clear d37 wr37
        go_wp2_with fail
        refine hK.out _ _ (fun _ => C37.out.pv.c0.1) ?_
        try simp only [Act.put, List.getElem_toArray, List.getElem_cons_succ, List.getElem_cons_zero, List.setIfInBounds_toArray, List.set_cons_zero, List.set_cons_succ]
        refine wpAnyD_ready (rs := [8]) (by kernel_rfl) (by simp) ?_
        refine AllReadyD.cons rfl (fun K hK => ?_) AllReadyD.nil
        rw [if_pos (by rfl)]
        simp only [List.getElem_toArray, List.getElem_cons_succ, List.getElem_cons_zero]
        go_wp2_with fail
        refine hK.out _ _ (fun _ => C37.out.pv.c0.1) ?_
        try simp only [Act.put, List.getElem_toArray, List.getElem_cons_succ, List.getElem_cons_zero, List.setIfInBounds_toArray, List.set_cons_zero, List.set_cons_succ]
        refine wpAnyD_ready (rs := [9]) (by kernel_rfl) (by simp) ?_
        refine AllReadyD.cons rfl (fun K hK => ?_) AllReadyD.nil
        rw [if_pos (by rfl)]
        simp only [List.getElem_toArray, List.getElem_cons_succ, List.getElem_cons_zero]
        go_wp2_with fail
        refine hK.out _ _ (fun _ => keeps (alloc_below _ _) C37.out.pv.c0.1) ?_
        try simp only [Act.put, List.getElem_toArray, List.getElem_cons_succ, List.getElem_cons_zero, List.setIfInBounds_toArray, List.set_cons_zero, List.set_cons_succ]
        refine wpAnyD_ready (rs := [10]) (by kernel_rfl) (by simp) ?_
        refine AllReadyD.cons rfl (fun K hK => ?_) AllReadyD.nil
        rw [if_pos (by rfl)]
        simp only [List.getElem_toArray, List.getElem_cons_succ, List.getElem_cons_zero]
        refine wp_append_lies _ _ _ 24 (by rfl) (w.heap.size + 1) 63 i0 _ 2 24 Tryz.underlying24 HI.out.1 HI.out.2.1 HI.out.2.2.1 HI.out.2.2.2 rfl (by decide) _ _ _ (by rfl) (C37.out.own.alloc _) ⟨w37.heap.size, 0, Option.none⟩ 1 1 [.string s, .int .i64 z] (by rfl) (by rfl) ?k1 ?k2 (by decide) ?k3 ?k4 ?k5 (w37.heap.size + 1) (by simp) ?_
        case k1 => exact newsN _ _ _
        case k2 => intro u hu; simp only [List.mem_cons, List.not_mem_nil, or_false] at hu; rcases hu with rfl | rfl <;> rfl
        case k3 => unfold maxLen; omega
        case k4 => omega
        case k5 => have := C37.out.pv.wr.size; simp; omega
        intro g c6 w6 hown6 hgrow6 hat6 hlt6
        have P6 := Lib.hid (C37.out.pv.grow _ hgrow6 (fun e => by rw [ob] at e; injection e with e; omega) (fun k hk => by rw [ob] at hk; injection hk with hk; omega))
        have A6 : Hid (AV w6 (w.heap.size + 1) (.slice (some ⟨g, 0, Option.none⟩) 3 c6) [⟨⟨#[97]⟩, 8⟩, ⟨⟨#[98]⟩, 6⟩, ⟨s, z⟩]) := Lib.hid (AV.own (ts := [⟨⟨#[97]⟩, 8⟩, ⟨⟨#[98]⟩, 6⟩, ⟨s, z⟩]) hown6)
        have S6 := Lib.hid ((C37.out.sv.later (alloc_below w37 _)).same (lo' := w.heap.size + 1) (by omega) (keeps_grown hgrow6 (fun k hk => by rw [ob] at hk; injection hk with hk; omega)))
        clear hown6 hgrow6 hat6 hlt6
        refine hK.out _ _ (fun e => absurd e (waitsN (by kernel_rfl))) ?_
        try simp only [Act.put, List.getElem_toArray, List.getElem_cons_succ, List.getElem_cons_zero, List.setIfInBounds_toArray, List.set_cons_zero, List.set_cons_succ]
        refine wpAnyD_ready (rs := [11]) (by kernel_rfl) (by simp) ?_
        refine AllReadyD.cons rfl (fun K hK => ?_) AllReadyD.nil
        rw [if_pos (by rfl)]
        simp only [List.getElem_toArray, List.getElem_cons_succ, List.getElem_cons_zero]
        go_wp2_with fail
        refine hK.out _ _ (fun e => absurd e (waitsN (by kernel_rfl))) ?_
        try simp only [Act.put, List.getElem_toArray, List.getElem_cons_succ, List.getElem_cons_zero, List.setIfInBounds_toArray, List.set_cons_zero, List.set_cons_succ]
        refine wpAnyD_ready (rs := [12]) (by kernel_rfl) (by simp) ?_
        refine AllReadyD.cons rfl (fun K hK => ?_) AllReadyD.nil
        rw [if_pos (by rfl)]
        simp only [List.getElem_toArray, List.getElem_cons_succ, List.getElem_cons_zero]
        have q1 := P6.out.c0
        have q1a := q1.1
        have q1f := q1.2
        go_wp2_with fail
        refine hK.out _ _ (fun e => absurd e (waitsN (by kernel_rfl))) ?_
        try simp only [Act.put, List.getElem_toArray, List.getElem_cons_succ, List.getElem_cons_zero, List.setIfInBounds_toArray, List.set_cons_zero, List.set_cons_succ]
        refine wpAnyD_done (by kernel_rfl) ?_ _
        have P7 : Hid (PvS B a len cap b w w.heap.size n (.slice (some ⟨g, 0, Option.none⟩) 3 c6) (.slice fa (slen F) fc) (w6.setCell ⟨n, 0, Option.none⟩ (.slice (some ⟨g, 0, Option.none⟩) 3 c6))) := Lib.hid (P6.out.setA _)
        have KK : Hid (Kp (w.heap.size + 1) w6 (w6.setCell ⟨n, 0, Option.none⟩ (.slice (some ⟨g, 0, Option.none⟩) 3 c6))) := Lib.hid (kp_set _ (by omega) q1a (ns_slice _ _ _))
        have hz7 : w6.heap.size ≤ (w6.setCell ⟨n, 0, Option.none⟩ (.slice (some ⟨g, 0, Option.none⟩) 3 c6)).heap.size := by rw [show w6.setCell ⟨n, 0, Option.none⟩ (.slice (some ⟨g, 0, Option.none⟩) 3 c6) = w6.setCells n 0 [.slice (some ⟨g, 0, Option.none⟩) 3 c6] from rfl, size_sets]; exact Nat.le_refl _
        have A7 := Lib.hid (A6.out.spare (Nat.le_refl _) KK.out hz7)
        have S7 := Lib.hid (S6.out.spare (Nat.le_refl _) KK.out)
        have M7 : Hid (∀ t ∈ [(⟨⟨#[97]⟩, 8⟩ : AR), ⟨⟨#[98]⟩, 6⟩, ⟨s, z⟩], t.s.size ≤ 3) := Lib.hid (by intro t ht; simp only [List.mem_cons, List.not_mem_nil, or_false] at ht; rcases ht with rfl | rfl | rfl; decide; decide; exact hs3)
        clear q1 q1a q1f hz7
        go_wp2_with (first | (refine wpList_load_mid rfl 27 _ rfl n 0 rfl _ _ P7.out.rg Tryz.underlying27 rfl sizePg ?_) | (refine store_abs rfl 27 _ _ rfl w.heap.size 0 #[.slice (some ⟨g, 0, Option.none⟩) 3 c6, .slice fa (slen F) fc] rfl rfl P7.out.tN sizePg (oneP2 _ _ _ _ _ _) ?_; intro W hW))
        have HW := P7.out.close (ts := [⟨⟨#[97]⟩, 8⟩, ⟨⟨#[98]⟩, 6⟩, ⟨s, z⟩]) (lim := limP) hW A7.out S7.out (by simp) M7.out (by have := HS1.out; unfold limP; omega)
        have hlv := run_loadVar_mid W w.heap.size 0 _ _ _ HW.2 Tryz.underlying27 rfl sizePg
        refine bodyPost_ret (v := .agg #[.slice (some ⟨g, 0, Option.none⟩) 3 c6, .slice fa (slen F) fc]) ?_ rfl HW.1
        simp [results, Tryz.results21, asAddr, hlv, Act.put]
        try rfl
    ·
      rw [if_pos (by rfl)]
      simp only [List.getElem_toArray, List.getElem_cons_succ, List.getElem_cons_zero]
      go_wp2_with fail
      obtain ⟨w38, hW38⟩ : ∃ W, wd.alloc (.cells #[.int .i64 0, .int .i64 1, .int .i64 16, .int .i64 17] 3) = W := ⟨_, rfl⟩
      have hb38 : Below wd.heap.size wd w38 := by rw [← hW38]; exact alloc_below _ _
      have C38 := Lib.hid (Cd.out.later hb38)
      have F38 : Hid (IntL b wd.heap.size w38) := Lib.hid (by rw [← hW38]; exact ⟨by have := Cd.out.pv.dw.cur.lt; omega, fun j hj => ints_cell _ _ _ okIntA _ rfl j hj⟩)
      refine hK.out _ _ (fun _ => keeps (alloc_below _ _) Cd.out.pv.c0.1) ?_
      try simp only [Act.put, List.getElem_toArray, List.getElem_cons_succ, List.getElem_cons_zero, List.setIfInBounds_toArray, List.set_cons_zero, List.set_cons_succ]
      rw [hW38]
      clear hb38 hW38
      refine wpAnyD_ready (rs := [3]) (by kernel_rfl) (by simp) ?_
      refine AllReadyD.cons rfl (fun K hK => ?_) AllReadyD.nil
      rw [if_pos (by rfl)]
      simp only [List.getElem_toArray, List.getElem_cons_succ, List.getElem_cons_zero]
      go_wp2_with fail
      obtain ⟨w39, hW39⟩ : ∃ W, w38.alloc (.cells #[.string ⟨#[99]⟩, .string ⟨#[97]⟩, .string ⟨#[120]⟩, .string ⟨#[102, 111, 114]⟩] 9) = W := ⟨_, rfl⟩
      have hb39 : Below w38.heap.size w38 w39 := by rw [← hW39]; exact alloc_below _ _
      have C39 := Lib.hid (C38.out.later hb39)
      have F39 : Hid (StrL b w38.heap.size w39) := Lib.hid (by rw [← hW39]; exact ⟨by have := C38.out.pv.dw.cur.lt; omega, fun j hj => strs_cell _ _ _ okStrA _ rfl j hj⟩)
      have G39 := Lib.hid (F38.out.later hb39)
      refine hK.out _ _ (fun _ => keeps (alloc_below _ _) C38.out.pv.c0.1) ?_
      try simp only [Act.put, List.getElem_toArray, List.getElem_cons_succ, List.getElem_cons_zero, List.setIfInBounds_toArray, List.set_cons_zero, List.set_cons_succ]
      rw [hW39]
      clear hb39 hW39
      refine wpAnyD_ready (rs := [4]) (by kernel_rfl) (by simp) ?_
      refine AllReadyD.cons rfl (fun K hK => ?_) AllReadyD.nil
      rw [if_pos (by rfl)]
      simp only [List.getElem_toArray, List.getElem_cons_succ, List.getElem_cons_zero]
      go_wp2_with fail
      refine (l1Str_is B a len cap b _ 4 4 (fun z => z.size ≤ 3) _ C39.out.pv.dw (by omega) (by omega) (by have := F39.out.1; omega) F39.out.2).mono ?_
      rintro e w40 ⟨s, rfl, hs3, d40, wr40⟩
      have C40 := Lib.hid (C39.out.step wr40 d40)
      have G40 := Lib.hid (G39.out.wr wr40)
      clear d40 wr40
      go_wp2_with fail
      refine hK.out _ _ (fun _ => C40.out.pv.c0.1) ?_
      try simp only [Act.put, List.getElem_toArray, List.getElem_cons_succ, List.getElem_cons_zero, List.setIfInBounds_toArray, List.set_cons_zero, List.set_cons_succ]
      refine wpAnyD_ready (rs := [7]) (by kernel_rfl) (by simp) ?_
      refine AllReadyD.cons rfl (fun K hK => ?_) AllReadyD.nil
      rw [if_pos (by rfl)]
      simp only [List.getElem_toArray, List.getElem_cons_succ, List.getElem_cons_zero]
      go_wp2_with fail
      refine (l1Int_is B a len cap b _ 4 4 (fun z => 0 ≤ z ∧ z ≤ 17) _ C40.out.pv.dw (by omega) (by omega) (by have := G40.out.1; omega) G40.out.2).mono ?_
      rintro e w41 ⟨z, rfl, hz17, d41, wr41⟩
      have C41 := Lib.hid (C40.out.step wr41 d41)
      clear d41 wr41
      go_wp2_with fail
      refine hK.out _ _ (fun _ => C41.out.pv.c0.1) ?_
      try simp only [Act.put, List.getElem_toArray, List.getElem_cons_succ, List.getElem_cons_zero, List.setIfInBounds_toArray, List.set_cons_zero, List.set_cons_succ]
      refine wpAnyD_ready (rs := [8]) (by kernel_rfl) (by simp) ?_
      refine AllReadyD.cons rfl (fun K hK => ?_) AllReadyD.nil
      rw [if_pos (by rfl)]
      simp only [List.getElem_toArray, List.getElem_cons_succ, List.getElem_cons_zero]
      go_wp2_with fail
      refine hK.out _ _ (fun _ => C41.out.pv.c0.1) ?_
      try simp only [Act.put, List.getElem_toArray, List.getElem_cons_succ, List.getElem_cons_zero, List.setIfInBounds_toArray, List.set_cons_zero, List.set_cons_succ]
      refine wpAnyD_ready (rs := [9]) (by kernel_rfl) (by simp) ?_
      refine AllReadyD.cons rfl (fun K hK => ?_) AllReadyD.nil
      rw [if_pos (by rfl)]
      simp only [List.getElem_toArray, List.getElem_cons_succ, List.getElem_cons_zero]
      go_wp2_with fail
      refine hK.out _ _ (fun _ => keeps (alloc_below _ _) C41.out.pv.c0.1) ?_
      try simp only [Act.put, List.getElem_toArray, List.getElem_cons_succ, List.getElem_cons_zero, List.setIfInBounds_toArray, List.set_cons_zero, List.set_cons_succ]
      refine wpAnyD_ready (rs := [10]) (by kernel_rfl) (by simp) ?_
      refine AllReadyD.cons rfl (fun K hK => ?_) AllReadyD.nil
      rw [if_pos (by rfl)]
      simp only [List.getElem_toArray, List.getElem_cons_succ, List.getElem_cons_zero]
      refine wp_append_lies _ _ _ 24 (by rfl) (w.heap.size + 1) 63 i0 _ 2 24 Tryz.underlying24 HI.out.1 HI.out.2.1 HI.out.2.2.1 HI.out.2.2.2 rfl (by decide) _ _ _ (by rfl) (C41.out.own.alloc _) ⟨w41.heap.size, 0, Option.none⟩ 1 1 [.string s, .int .i64 z] (by rfl) (by rfl) ?k1 ?k2 (by decide) ?k3 ?k4 ?k5 (w41.heap.size + 1) (by simp) ?_
      case k1 => exact newsN _ _ _
      case k2 => intro u hu; simp only [List.mem_cons, List.not_mem_nil, or_false] at hu; rcases hu with rfl | rfl <;> rfl
      case k3 => unfold maxLen; omega
      case k4 => omega
      case k5 => have := C41.out.pv.wr.size; simp; omega
      intro g c6 w6 hown6 hgrow6 hat6 hlt6
      have P6 := Lib.hid (C41.out.pv.grow _ hgrow6 (fun e => by rw [ob] at e; injection e with e; omega) (fun k hk => by rw [ob] at hk; injection hk with hk; omega))
      have A6 : Hid (AV w6 (w.heap.size + 1) (.slice (some ⟨g, 0, Option.none⟩) 3 c6) [⟨⟨#[97]⟩, 8⟩, ⟨⟨#[98]⟩, 6⟩, ⟨s, z⟩]) := Lib.hid (AV.own (ts := [⟨⟨#[97]⟩, 8⟩, ⟨⟨#[98]⟩, 6⟩, ⟨s, z⟩]) hown6)
      have S6 := Lib.hid ((C41.out.sv.later (alloc_below w41 _)).same (lo' := w.heap.size + 1) (by omega) (keeps_grown hgrow6 (fun k hk => by rw [ob] at hk; injection hk with hk; omega)))
      clear hown6 hgrow6 hat6 hlt6
      refine hK.out _ _ (fun e => absurd e (waitsN (by kernel_rfl))) ?_
      try simp only [Act.put, List.getElem_toArray, List.getElem_cons_succ, List.getElem_cons_zero, List.setIfInBounds_toArray, List.set_cons_zero, List.set_cons_succ]
      refine wpAnyD_ready (rs := [11]) (by kernel_rfl) (by simp) ?_
      refine AllReadyD.cons rfl (fun K hK => ?_) AllReadyD.nil
      rw [if_pos (by rfl)]
      simp only [List.getElem_toArray, List.getElem_cons_succ, List.getElem_cons_zero]
      go_wp2_with fail
      refine hK.out _ _ (fun e => absurd e (waitsN (by kernel_rfl))) ?_
      try simp only [Act.put, List.getElem_toArray, List.getElem_cons_succ, List.getElem_cons_zero, List.setIfInBounds_toArray, List.set_cons_zero, List.set_cons_succ]
      refine wpAnyD_ready (rs := [12]) (by kernel_rfl) (by simp) ?_
      refine AllReadyD.cons rfl (fun K hK => ?_) AllReadyD.nil
      rw [if_pos (by rfl)]
      simp only [List.getElem_toArray, List.getElem_cons_succ, List.getElem_cons_zero]
      have q1 := P6.out.c0
      have q1a := q1.1
      have q1f := q1.2
      go_wp2_with fail
      refine hK.out _ _ (fun e => absurd e (waitsN (by kernel_rfl))) ?_
      try simp only [Act.put, List.getElem_toArray, List.getElem_cons_succ, List.getElem_cons_zero, List.setIfInBounds_toArray, List.set_cons_zero, List.set_cons_succ]
      refine wpAnyD_done (by kernel_rfl) ?_ _
      have P7 : Hid (PvS B a len cap b w w.heap.size n (.slice (some ⟨g, 0, Option.none⟩) 3 c6) (.slice fa (slen F) fc) (w6.setCell ⟨n, 0, Option.none⟩ (.slice (some ⟨g, 0, Option.none⟩) 3 c6))) := Lib.hid (P6.out.setA _)
      have KK : Hid (Kp (w.heap.size + 1) w6 (w6.setCell ⟨n, 0, Option.none⟩ (.slice (some ⟨g, 0, Option.none⟩) 3 c6))) := Lib.hid (kp_set _ (by omega) q1a (ns_slice _ _ _))
      have hz7 : w6.heap.size ≤ (w6.setCell ⟨n, 0, Option.none⟩ (.slice (some ⟨g, 0, Option.none⟩) 3 c6)).heap.size := by rw [show w6.setCell ⟨n, 0, Option.none⟩ (.slice (some ⟨g, 0, Option.none⟩) 3 c6) = w6.setCells n 0 [.slice (some ⟨g, 0, Option.none⟩) 3 c6] from rfl, size_sets]; exact Nat.le_refl _
      have A7 := Lib.hid (A6.out.spare (Nat.le_refl _) KK.out hz7)
      have S7 := Lib.hid (S6.out.spare (Nat.le_refl _) KK.out)
      have M7 : Hid (∀ t ∈ [(⟨⟨#[97]⟩, 8⟩ : AR), ⟨⟨#[98]⟩, 6⟩, ⟨s, z⟩], t.s.size ≤ 3) := Lib.hid (by intro t ht; simp only [List.mem_cons, List.not_mem_nil, or_false] at ht; rcases ht with rfl | rfl | rfl; decide; decide; exact hs3)
      clear q1 q1a q1f hz7
      go_wp2_with (first | (refine wpList_load_mid rfl 27 _ rfl n 0 rfl _ _ P7.out.rg Tryz.underlying27 rfl sizePg ?_) | (refine store_abs rfl 27 _ _ rfl w.heap.size 0 #[.slice (some ⟨g, 0, Option.none⟩) 3 c6, .slice fa (slen F) fc] rfl rfl P7.out.tN sizePg (oneP2 _ _ _ _ _ _) ?_; intro W hW))
      have HW := P7.out.close (ts := [⟨⟨#[97]⟩, 8⟩, ⟨⟨#[98]⟩, 6⟩, ⟨s, z⟩]) (lim := limP) hW A7.out S7.out (by simp) M7.out (by have := HS1.out; unfold limP; omega)
      have hlv := run_loadVar_mid W w.heap.size 0 _ _ _ HW.2 Tryz.underlying27 rfl sizePg
      refine bodyPost_ret (v := .agg #[.slice (some ⟨g, 0, Option.none⟩) 3 c6, .slice fa (slen F) fc]) ?_ rfl HW.1
      simp [results, Tryz.results21, asAddr, hlv, Act.put]
      try rfl
  by_cases h1 : x = 1
  · subst h1
    have q0 := P2.out.c0
    have q0' := q0.1
    have q0f := q0.2
    have P3 : Hid (PvS B a len cap b w w.heap.size n (.slice (some ⟨w.heap.size + 1, 0, Option.none⟩) 1 2) (.slice fa (slen F) fc) (w2.setCell ⟨n, 0, Option.none⟩ (.slice (some ⟨w.heap.size + 1, 0, Option.none⟩) 1 2))) := Lib.hid (P2.out.setA _)
    have KK : Hid (Kp (w.heap.size + 1) w2 (w2.setCell ⟨n, 0, Option.none⟩ (.slice (some ⟨w.heap.size + 1, 0, Option.none⟩) 1 2))) := Lib.hid (kp_set _ (by omega) q0' (ns_slice _ _ _))
    have hz3 : w2.heap.size ≤ (w2.setCell ⟨n, 0, Option.none⟩ (.slice (some ⟨w.heap.size + 1, 0, Option.none⟩) 1 2)).heap.size := by rw [show (w2.setCell ⟨n, 0, Option.none⟩ (.slice (some ⟨w.heap.size + 1, 0, Option.none⟩) 1 2)) = w2.setCells n 0 [.slice (some ⟨w.heap.size + 1, 0, Option.none⟩) 1 2] from rfl, size_sets]; exact Nat.le_refl _
    have A3 := Lib.hid ((AV.one RA.out).spare (Nat.le_refl _) KK.out hz3)
    have S3 := Lib.hid ((SO2.out.sv.lower (Nat.le_succ _)).spare (Nat.le_refl _) KK.out)
    clear q0 hz3
    go_wp2_with (first | (refine wpList_load_mid rfl 27 _ rfl n 0 rfl _ _ P3.out.rg Tryz.underlying27 rfl sizePg ?_) | (refine store_abs rfl 27 _ _ rfl w.heap.size 0 #[.slice (some ⟨w.heap.size + 1, 0, Option.none⟩) 1 2, .slice fa (slen F) fc] rfl rfl P3.out.tN sizePg (oneP2 _ _ _ _ _ _) ?_; intro W hW))
    have HW := P3.out.close (ts := [⟨⟨#[97]⟩, 8⟩]) (lim := limP) hW A3.out S3.out (by simp) (by intro t ht; simp only [List.mem_cons, List.not_mem_nil, or_false] at ht; subst ht; decide) (by have := HS1.out; unfold limP; omega)
    have hlv := run_loadVar_mid W w.heap.size 0 _ _ _ HW.2 Tryz.underlying27 rfl sizePg
    refine bodyPost_ret (v := .agg #[.slice (some ⟨w.heap.size + 1, 0, Option.none⟩) 1 2, .slice fa (slen F) fc]) ?_ rfl HW.1
    simp [results, Tryz.results21, asAddr, hlv, Act.put]
    try rfl
  by_cases h2 : x = 2
  · subst h2
    obtain ⟨i0, hi, hz0, hz1, hz2⟩ := info_parts infoIS2
    have HI := Lib.hid (And.intro hi (And.intro hz0 (And.intro hz1 hz2)))
    clear hi hz0 hz1 hz2
    go_wp2_with fail
    refine region_drew (by kernel_rfl) (fun wd hwd => ?_)
    have bd : Below w2.heap.size w2 wd := by rw [hwd]; exact (Below.refl _ w2).drew
    clear hwd
    have Pd := Lib.hid (P2.out.later bd)
    have hwd2 := bd.size
    have STd : Hid (∃ xs, Sts B a len cap b ((w.alloc (.cells #[nilS, nilS] 27)).alloc (.cells #[.string ⟨#[97]⟩, .int .i64 8, .string ⟨#[98]⟩, .int .i64 6] 63)) (w.heap.size + 2) F xs (.slice fa (slen F) fc) wd) := Lib.hid (by
      obtain ⟨xs, h1, h2⟩ := SO2.out.wr (b := b) (.of_below bd) (by omega)
      exact ⟨xs, h1, h2, Pd.out.dw, WA2.out.trans (.of_below bd), by simp, by omega⟩)
    have RAd := Lib.hid (rangeAt_later RA.out bd)
    clear bd
    refine wpAny_take (i := 0) (v := .pointer (some ⟨n, 1, Option.none⟩)) rfl (by kernel_rfl) (by kernel_rfl) (by kernel_rfl) (fun _ _ _ h => h) (Or.inl ⟨by rfl, ?b0⟩) ?_
    case b0 => intro w; go_simp
    simp only [Act.put, List.getElem_toArray, List.getElem_cons_succ, List.getElem_cons_zero, List.setIfInBounds_toArray, List.set_cons_zero, List.set_cons_succ]
    refine wpAny_take (i := 2) (v := .pointer (some ⟨b, 0, Option.none⟩)) rfl (by kernel_rfl) (by kernel_rfl) (by kernel_rfl) (fun _ _ _ h => h) (Or.inl ⟨by rfl, ?b2⟩) ?_
    case b2 => intro w; go_simp
    simp only [Act.put, List.getElem_toArray, List.getElem_cons_succ, List.getElem_cons_zero, List.setIfInBounds_toArray, List.set_cons_zero, List.set_cons_succ]
    refine wpAny_till (i := 1) (v := .slice fa (slen F) fc) (fun w' => w'.cell? ⟨n, 1, Option.none⟩ = some (.slice fa (slen F) fc)) rfl (by kernel_rfl) (by kernel_rfl) (by kernel_rfl) (fun _ _ _ h => h) (Or.inl ⟨by rfl, ?b1⟩) Pd.out.c1.1 (fun hHeld => ?_)
    case b1 => intro w hSw; go_simp
    simp only [Act.put, List.getElem_toArray, List.getElem_cons_succ, List.getElem_cons_zero, List.setIfInBounds_toArray, List.set_cons_zero, List.set_cons_succ]
    refine wpAnyD_ready (rs := [3]) (by kernel_rfl) (by simp) ?_
    refine AllReadyD.cons rfl (fun K hK => ?_) AllReadyD.nil
    rw [if_pos (by rfl)]
    simp only [List.getElem_toArray, List.getElem_cons_succ, List.getElem_cons_zero]
    go_wp2_with fail
    refine (l3AnyStmt_is B a len cap b _ Pd.out.dw).mono ?_
    rintro e w3 ⟨h, l, v1, v2, v3, v4, v, hret, g3, g3', s3, d3, wr3⟩
    obtain ⟨va, vc, rfl⟩ := g3'.shape
    obtain ⟨a1, e1, rfl⟩ := g3.e1.shape
    obtain ⟨a2, e2, rfl⟩ := g3.e2.shape
    obtain ⟨a3, e3, rfl⟩ := g3.e3.shape
    obtain ⟨a4, e4, rfl⟩ := g3.e4.shape
    obtain rfl : e = .returned (sagg h (.slice a1 (elen h.x1.l) e1) (.slice a2 (elen h.x2.l) e2) (.slice a3 (elen h.x3.l) e3) (.slice a4 (elen h.x4.l) e4) (.slice va (slen l) vc)) := hret
    have P3 := Lib.hid (Pd.out.step wr3 d3)
    have HE := Lib.hid (And.intro g3 g3')
    obtain ⟨xs, hst⟩ := STd.out
    have ST3 := Lib.hid (hst.step wr3 d3)
    have R3 := Lib.hid (range_wr RAd.out wr3 (by omega))
    have hgl := hst.glt
    have hw3 := wr3.size
    have hsl : slen F ≤ 3000 := by have h1 := ssize_bulk F; have h2 := HS1.out; have h3 : 4 * (limS 2 + 1) ≤ 3000 := (by decide); omega
    clear g3 g3' hst d3 wr3 STd
    go_wp2_with fail
    refine hK.out _ _ (fun _ => P3.out.c1.1) ?_
    try simp only [Act.put, List.getElem_toArray, List.getElem_cons_succ, List.getElem_cons_zero, List.setIfInBounds_toArray, List.set_cons_zero, List.set_cons_succ]
    refine wpAnyD_ready (rs := [4]) (by kernel_rfl) (by simp) ?_
    refine AllReadyD.cons rfl (fun K hK => ?_) AllReadyD.nil
    rw [if_pos (by rfl)]
    simp only [List.getElem_toArray, List.getElem_cons_succ, List.getElem_cons_zero]
    go_wp2_with fail
    refine hK.out _ _ (fun _ => keeps (alloc_below _ _) P3.out.c1.1) ?_
    try simp only [Act.put, List.getElem_toArray, List.getElem_cons_succ, List.getElem_cons_zero, List.setIfInBounds_toArray, List.set_cons_zero, List.set_cons_succ]
    refine wpAnyD_ready (rs := [5]) (by kernel_rfl) (by simp) ?_
    refine AllReadyD.cons rfl (fun K hK => ?_) AllReadyD.nil
    rw [if_pos (by rfl)]
    simp only [List.getElem_toArray, List.getElem_cons_succ, List.getElem_cons_zero]
    refine wp_append_lies _ _ _ 25 (by rfl) (w.heap.size + 2) 49 i0 _ 19 272 Tryz.underlying25 HI.out.1 HI.out.2.1 HI.out.2.2.1 HI.out.2.2.2 rfl (by decide) _ _ _ (by rfl) (ST3.out.own.alloc _) ⟨w3.heap.size, 0, Option.none⟩ 1 1 [.int .i64 h.k, .string h.s, .int .i64 h.x1.h.k, .int .i64 h.x1.h.n, .string h.x1.h.s, (.slice a1 (elen h.x1.l) e1), .int .i64 h.x2.h.k, .int .i64 h.x2.h.n, .string h.x2.h.s, (.slice a2 (elen h.x2.l) e2), .int .i64 h.x3.h.k, .int .i64 h.x3.h.n, .string h.x3.h.s, (.slice a3 (elen h.x3.l) e3), .int .i64 h.x4.h.k, .int .i64 h.x4.h.n, .string h.x4.h.s, (.slice a4 (elen h.x4.l) e4), (.slice va (slen l) vc)] (by rfl) (by rfl) ?k1 ?k2 (by decide) ?k3 ?k4 ?k5 (w3.heap.size + 1) (by simp) ?_
    case k1 => exact newsN _ _ _
    case k2 => exact ones19 HE.out.1 HE.out.2
    case k3 => unfold maxLen; omega
    case k4 => omega
    case k5 => simp; omega
    intro g c6 w6 hown6 hgrow6 hat6 hlt6
    have hownB : ∀ k, (Value.slice fa (slen F) fc).ownBlock = some k → w.heap.size + 2 ≤ k ∧ k < n := fun k hk => ⟨(ST3.out.own.lt k hk).1, by have := GN.out; simp only [gOf, hk, Option.getD_some] at this; exact this⟩
    have ST6 := Lib.hid (ST3.out.next (p := 0) (q := 0) (wr := wd) hgl (by omega) HE.out.1 HE.out.2 hown6 hgrow6 (by rcases hat6 with e | e; exact .inl e; exact .inr (by omega)))
    have P6 := Lib.hid (P3.out.grow _ hgrow6 (fun e => by have := (hownB _ e).2; omega) (fun k hk => by have := (hownB k hk).1; omega))
    have R6 := Lib.hid (range_grown (rangeAt_later R3.out (alloc_below w3 _)) hgrow6 (fun e => by have := (hownB _ e).1; omega))
    clear hown6 hgrow6 hat6 hlt6 hownB
    refine hK.out _ _ (fun e => absurd e (waitsN (by kernel_rfl))) ?_
    try simp only [Act.put, List.getElem_toArray, List.getElem_cons_succ, List.getElem_cons_zero, List.setIfInBounds_toArray, List.set_cons_zero, List.set_cons_succ]
    refine wpAnyD_ready (rs := [6]) (by kernel_rfl) (by simp) ?_
    refine AllReadyD.cons rfl (fun K hK => ?_) AllReadyD.nil
    rw [if_pos (by rfl)]
    simp only [List.getElem_toArray, List.getElem_cons_succ, List.getElem_cons_zero]
    go_wp2_with fail
    refine hK.out _ _ (fun e => absurd e (waitsN (by kernel_rfl))) ?_
    try simp only [Act.put, List.getElem_toArray, List.getElem_cons_succ, List.getElem_cons_zero, List.setIfInBounds_toArray, List.set_cons_zero, List.set_cons_succ]
    refine wpAnyD_ready (rs := [7]) (by kernel_rfl) (by simp) ?_
    refine AllReadyD.cons rfl (fun K hK => ?_) AllReadyD.nil
    rw [if_pos (by rfl)]
    simp only [List.getElem_toArray, List.getElem_cons_succ, List.getElem_cons_zero]
    have q1 := P6.out.c1
    have q1a := q1.1
    have q1f := q1.2
    go_wp2_with fail
    refine hK.out _ _ (fun e => absurd e (waitsN (by kernel_rfl))) ?_
    try simp only [Act.put, List.getElem_toArray, List.getElem_cons_succ, List.getElem_cons_zero, List.setIfInBounds_toArray, List.set_cons_zero, List.set_cons_succ]
    refine wpAnyD_done (by kernel_rfl) ?_ _
    have P7 : Hid (PvS B a len cap b w w.heap.size n (.slice (some ⟨w.heap.size + 1, 0, Option.none⟩) 2 2) (.slice (some ⟨g, 0, Option.none⟩) (slen F + 1) c6) (w6.setCell ⟨n, 1, Option.none⟩ (.slice (some ⟨g, 0, Option.none⟩) (slen F + 1) c6))) := Lib.hid (P6.out.setB _)
    have KK : Hid (Kp (w.heap.size + 1) w6 (w6.setCell ⟨n, 1, Option.none⟩ (.slice (some ⟨g, 0, Option.none⟩) (slen F + 1) c6))) := Lib.hid (kp_set _ (by omega) q1a (ns_slice _ _ _))
    have hz7 : w6.heap.size ≤ (w6.setCell ⟨n, 1, Option.none⟩ (.slice (some ⟨g, 0, Option.none⟩) (slen F + 1) c6)).heap.size := by rw [show w6.setCell ⟨n, 1, Option.none⟩ (.slice (some ⟨g, 0, Option.none⟩) (slen F + 1) c6) = w6.setCells n 1 [.slice (some ⟨g, 0, Option.none⟩) (slen F + 1) c6] from rfl, size_sets]; exact Nat.le_refl _
    have A7 := Lib.hid ((AV.two R6.out).spare (Nat.le_refl _) KK.out hz7)
    have S7 := Lib.hid ((ST6.out.so.sv.lower (Nat.le_succ _)).spare (Nat.le_refl _) KK.out)
    have L7 : Hid (ssize (sapp F (.node 0 0 h l .nil)) ≤ limP) := Lib.hid (by rw [ssize_app]; simp only [ssize]; have := HS1.out; unfold limP; omega)
    clear q1 q1a q1f hz7
    go_wp2_with (first | (refine wpList_load_mid rfl 27 _ rfl n 0 rfl _ _ P7.out.rg Tryz.underlying27 rfl sizePg ?_) | (refine store_abs rfl 27 _ _ rfl w.heap.size 0 #[.slice (some ⟨w.heap.size + 1, 0, Option.none⟩) 2 2, .slice (some ⟨g, 0, Option.none⟩) (slen F + 1) c6] rfl rfl P7.out.tN sizePg (oneP2 _ _ _ _ _ _) ?_; intro W hW))
    have HW := P7.out.close (ts := [⟨⟨#[97]⟩, 8⟩, ⟨⟨#[98]⟩, 6⟩]) (lim := limP) hW A7.out S7.out (by simp) (by intro t ht; simp only [List.mem_cons, List.not_mem_nil, or_false] at ht; rcases ht with rfl | rfl <;> decide) L7.out
    have hlv := run_loadVar_mid W w.heap.size 0 _ _ _ HW.2 Tryz.underlying27 rfl sizePg
    refine bodyPost_ret (v := .agg #[.slice (some ⟨w.heap.size + 1, 0, Option.none⟩) 2 2, .slice (some ⟨g, 0, Option.none⟩) (slen F + 1) c6]) ?_ rfl HW.1
    simp [results, Tryz.results21, asAddr, hlv, Act.put]
    try rfl
  have e0 := int_ne h0
  have e1 := int_ne h1
  have e2 := int_ne h2
  go_wp2_with (first | (refine wpList_load_mid rfl 27 _ rfl n 0 rfl _ _ P2.out.rg Tryz.underlying27 rfl sizePg ?_) | (refine store_abs rfl 27 _ _ rfl w.heap.size 0 #[.slice (some ⟨w.heap.size + 1, 0, Option.none⟩) 2 2, .slice fa (slen F) fc] rfl rfl P2.out.tN sizePg (oneP2 _ _ _ _ _ _) ?_; intro W hW))
  have HW := P2.out.close (ts := [⟨⟨#[97]⟩, 8⟩, ⟨⟨#[98]⟩, 6⟩]) (lim := limP) hW (AV.two RA.out) (SO2.out.sv.lower (Nat.le_succ _)) (by simp) (by intro t ht; simp only [List.mem_cons, List.not_mem_nil, or_false] at ht; rcases ht with rfl | rfl <;> decide) (by have := HS1.out; unfold limP; omega)
  have hlv := run_loadVar_mid W w.heap.size 0 _ _ _ HW.2 Tryz.underlying27 rfl sizePg
  refine bodyPost_ret (v := .agg #[.slice (some ⟨w.heap.size + 1, 0, Option.none⟩) 2 2, .slice fa (slen F) fc]) ?_ rfl HW.1
  simp [results, Tryz.results21, asAddr, hlv, Act.put]
  try rfl
end Go.Proofs.YtkhccpjkajhnpaaGreat
/-
  The contracts of DrawProgOk and DrawArrAt.
-/
namespace Go.Proofs.YtkhccpjkajhnpaaGreat
open Go.RowKit Go.Lib
set_option linter.unusedSimpArgs false
set_option linter.unusedVariables false

theorem Wr.belowLo {b B : Nat} {w w' : World} (h : Wr b w w') (hB : B ≤ b) (hs : B ≤ w.heap.size) : Below B w w' := ⟨h.os, h.tape, h.output, h.size, fun k hk => h.block k (by omega) (by omega)⟩
/-- A program lies there that was drawn. -/
structure ProgAt (w : World) (lo : Nat) (ts : List AR) (F : SF) (va vb : Value) : Prop where
  av : AV w lo va ts
  sv : SV w lo F vb
  l3 : ts.length ≤ 3
  s3 : ∀ t ∈ ts, t.s.size ≤ 3
  lim : ssize F ≤ limP
theorem ProgAt.later {w w' : World} {lo : Nat} {ts : List AR} {F : SF} {va vb : Value} (h : ProgAt w lo ts F va vb) (hb : Below w.heap.size w w') : ProgAt w' lo ts F va vb := ⟨h.av.later hb, h.sv.later hb, h.l3, h.s3, h.lim⟩
theorem ProgAt.low {w : World} {lo : Nat} {ts : List AR} {F : SF} {va vb : Value} (h : ProgAt w lo ts F va vb) : ProgAt w 0 ts F va vb := ⟨h.av.low, h.sv.low, h.l3, h.s3, h.lim⟩
def DrawnPg (w : World) (e : Ending) (w' : World) : Prop := ∃ (ts : List AR) (F : SF) (va vb : Value), e = .returned (.agg #[va, vb]) ∧ ProgAt w' w.heap.size ts F va vb ∧ Below w.heap.size w w'
def DrawnPS (w : World) (e : Ending) (w' : World) : Prop := ∃ (ts : List AR) (F : SF) (va vb : Value) (s : ByteArray), e = .returned (.tuple #[.agg #[va, vb], .string s]) ∧ ProgAt w' w.heap.size ts F va vb ∧ s.size ≤ 3 ∧ Below w.heap.size w w'
theorem okStrN : ∀ z ∈ ([⟨#[97]⟩, ⟨#[98]⟩, ⟨#[99]⟩, ⟨#[120]⟩] : List ByteArray), z.size ≤ 3 := by decide
set_option maxHeartbeats 1000000 in
set_option maxRecDepth 100000 in
theorem DrawProgOk_is (a : Option Addr) (len cap : Nat) (w : World) (hlen : len ≤ 281474976710656) (hC : CodeIs w.heap.size w a len) : Calls Tryz.prog 5 #[.slice a len cap] w (DrawnPg w) := by
  have HC := Lib.hid hC
  clear hC
  go_enter Tryz.func5, Tryz.ntmps5
  go_wp2_with fail
  have b0 := alloc_below w (.cells #[nilS, nilS] 27)
  have C1 : CodeIs (w.heap.size + 1) (w.alloc (.cells #[nilS, nilS] 27)) a len := (HC.out.later b0).mono (by omega)
  refine (l1New (w.heap.size + 1) a len cap _ hlen C1).mono ?_
  rintro e w1 ⟨rfl, hcur, hb1⟩
  have hs1 : (w.alloc (.cells #[nilS, nilS] 27)).heap.size = w.heap.size + 1 := by simp
  rw [hs1] at hcur hb1 ⊢
  have D1 : Hid (Dw (w.heap.size + 1) a len cap (w.heap.size + 1) w1) := ⟨hlen, Nat.le_refl _, C1.later hb1, hcur⟩
  have th1 : w1.there w.heap.size 0 2 := there_later (newthere2 w nilS nilS 27) (by rw [hs1]; exact hb1)
  have B1 : Below w.heap.size w w1 := b0.trans (hb1.mono (by omega))
  have H1 := Lib.hid (And.intro th1 B1)
  clear C1 hcur hb1 th1 B1 b0 hs1
  go_wp2_with fail
  refine (l4Prog_is (w.heap.size + 1) a len cap (w.heap.size + 1) _ D1.out).mono ?_
  rintro e w2 ⟨ts, F, va, vb, rfl, g1, g2, s1, s2, s3, d2, wr2⟩
  have th2 := there_wr H1.out.1 wr2 (by omega)
  have hl : w.heap.size + 1 ≤ w1.heap.size := Nat.le_of_lt D1.out.cur.lt
  have B2 : Below w.heap.size w w2 := H1.out.2.trans (wr2.belowLo (by omega) (by omega))
  obtain ⟨aa, ac, rfl⟩ := g1.shape
  obtain ⟨ba, bc, rfl⟩ := g2.shape
  have H2 := Lib.hid (And.intro (g1.same hl (Keeps.refl _ _) (Nat.le_refl _)) (And.intro (g2.lower hl) (And.intro (And.intro s1 (And.intro s2 s3)) B2)))
  clear g1 g2 s1 s2 s3 d2 wr2 B2 H1 D1
  go_wp2_with (refine store_abs rfl 27 _ _ rfl w.heap.size 0 #[.slice aa ts.length ac, .slice ba (slen F) bc] rfl rfl th2 sizePg (oneP2 _ _ _ _ _ _) ?_; intro W hW; have HW := Lib.hid hW; clear hW)
  have hW := HW.out
  have rg : W.rangeAt w.heap.size 0 [.slice aa ts.length ac, .slice ba (slen F) bc] := by rw [← hW]; exact World.rangeAt_setCells_same _ _ _ _ th2
  have hlv := run_loadVar_mid W w.heap.size 0 _ _ _ rg Tryz.underlying27 rfl sizePg
  have hk : Keeps (w.heap.size + 1) w2 W := by rw [← hW]; exact Keeps.sets _ (by omega) _ _
  have hB : Below w.heap.size w W := by rw [← hW]; exact below_sets _ _ H2.out.2.2.2 (Nat.le_refl _)
  have hz : w2.heap.size ≤ W.heap.size := by rw [← hW, size_sets]; exact Nat.le_refl _
  refine bodyPost_ret (v := .agg #[.slice aa ts.length ac, .slice ba (slen F) bc]) ?_ rfl ⟨ts, F, _, _, rfl, ⟨H2.out.1.same (Nat.le_succ _) hk hz, H2.out.2.1.same (Nat.le_succ _) hk, H2.out.2.2.1.1, H2.out.2.2.1.2.1, H2.out.2.2.1.2.2⟩, hB⟩
  simp [results, Tryz.results5, asAddr, hlv, Act.put]
  try rfl
set_option maxHeartbeats 1000000 in
set_option maxRecDepth 100000 in
theorem DrawArrAt_is (a : Option Addr) (len cap : Nat) (w : World) (hlen : len ≤ 281474976710656) (hC : CodeIs w.heap.size w a len) : Calls Tryz.prog 6 #[.slice a len cap] w (DrawnPS w) := by
  have HC := Lib.hid hC
  clear hC
  go_enter Tryz.func6, Tryz.ntmps6
  go_wp2_with fail
  have b0 := alloc_below w (.cells #[nilS, nilS] 27)
  have C1 : CodeIs (w.heap.size + 1) (w.alloc (.cells #[nilS, nilS] 27)) a len := (HC.out.later b0).mono (by omega)
  refine (l1New (w.heap.size + 1) a len cap _ hlen C1).mono ?_
  rintro e w1 ⟨rfl, hcur, hb1⟩
  have hs1 : (w.alloc (.cells #[nilS, nilS] 27)).heap.size = w.heap.size + 1 := by simp
  rw [hs1] at hcur hb1 ⊢
  have D1 : Hid (Dw (w.heap.size + 1) a len cap (w.heap.size + 1) w1) := ⟨hlen, Nat.le_refl _, C1.later hb1, hcur⟩
  have th1 : w1.there w.heap.size 0 2 := there_later (newthere2 w nilS nilS 27) (by rw [hs1]; exact hb1)
  have B1 : Below w.heap.size w w1 := b0.trans (hb1.mono (by omega))
  have H1 := Lib.hid (And.intro th1 B1)
  clear C1 hcur hb1 th1 B1 b0 hs1
  go_wp2_with fail
  refine (l4Prog_is (w.heap.size + 1) a len cap (w.heap.size + 1) _ D1.out).mono ?_
  rintro e w2 ⟨ts, F, va, vb, rfl, g1, g2, s1, s2, s3, d2, wr2⟩
  have th2 := there_wr H1.out.1 wr2 (by omega)
  have hl : w.heap.size + 2 ≤ w1.heap.size := D1.out.cur.lt
  have hw2 := wr2.size
  have B2 : Below w.heap.size w w2 := H1.out.2.trans (wr2.belowLo (by omega) (by omega))
  obtain ⟨aa, ac, rfl⟩ := g1.shape
  obtain ⟨ba, bc, rfl⟩ := g2.shape
  have H2 := Lib.hid (And.intro (g1.same hl (Keeps.refl _ _) (Nat.le_refl _)) (And.intro (g2.lower hl) (And.intro (And.intro s1 (And.intro s2 s3)) B2)))
  have D2 := Lib.hid (And.intro d2 th2)
  clear g1 g2 s1 s2 s3 d2 wr2 B2 H1 D1 th2
  go_wp2_with fail
  have bs := alloc_below w2 (.cells #[.string ⟨#[97]⟩, .string ⟨#[98]⟩, .string ⟨#[99]⟩, .string ⟨#[120]⟩] 9)
  refine (l1Str_is (w.heap.size + 1) a len cap (w.heap.size + 1) w2.heap.size 4 4 (fun z => z.size ≤ 3) _ (D2.out.1.later bs) (by omega) (by omega) (by omega) (fun j hj => strs_cell _ _ _ okStrN _ rfl j hj)).mono ?_
  rintro e w3 ⟨s, rfl, hs3, d3, wr3⟩
  have th3 := there_wr (there_later D2.out.2 bs) wr3 (by omega)
  have B3 : Below w.heap.size w w3 := (H2.out.2.2.2.trans (bs.mono (by omega))).trans (wr3.belowLo (by omega) (by have := bs.size; omega))
  have A3 := (H2.out.1.later bs).wr wr3 (by omega)
  have S3 := (H2.out.2.1.later bs).wrA wr3 (by omega)
  have H3 := Lib.hid (And.intro A3 (And.intro S3 (And.intro H2.out.2.2.1 B3)))
  have HS3 := Lib.hid hs3
  clear A3 S3 B3 d3 wr3 bs H2 D2 hs3
  go_wp2_with (refine store_abs rfl 27 _ _ rfl w.heap.size 0 #[.slice aa ts.length ac, .slice ba (slen F) bc] rfl rfl th3 sizePg (oneP2 _ _ _ _ _ _) ?_; intro W hW; have HW := Lib.hid hW; clear hW)
  have hW := HW.out
  have rg : W.rangeAt w.heap.size 0 [.slice aa ts.length ac, .slice ba (slen F) bc] := by rw [← hW]; exact World.rangeAt_setCells_same _ _ _ _ th3
  have hlv := run_loadVar_mid W w.heap.size 0 _ _ _ rg Tryz.underlying27 rfl sizePg
  have hk : Keeps (w.heap.size + 1) w3 W := by rw [← hW]; exact Keeps.sets _ (by omega) _ _
  have hB : Below w.heap.size w W := by rw [← hW]; exact below_sets _ _ H3.out.2.2.2 (Nat.le_refl _)
  have hz : w3.heap.size ≤ W.heap.size := by rw [← hW, size_sets]; exact Nat.le_refl _
  refine bodyPost_ret (v := .tuple #[.agg #[.slice aa ts.length ac, .slice ba (slen F) bc], .string s]) ?_ rfl ⟨ts, F, _, _, s, rfl, ⟨(H3.out.1.same (lo' := w.heap.size + 1) (by omega) (Keeps.refl _ _) (Nat.le_refl _)).same (Nat.le_succ _) hk hz, (H3.out.2.1.lower (by omega)).same (Nat.le_succ _) hk, H3.out.2.2.1.1, H3.out.2.2.1.2.1, H3.out.2.2.1.2.2⟩, HS3.out, hB⟩
  simp [results, Tryz.results6, asAddr, hlv, Act.put]
  try rfl
end Go.Proofs.YtkhccpjkajhnpaaGreat
/-
  Names in order (no Go): what l4Put makes of a row of names, and that rows in order with the same names are the same.
-/
namespace Go.Proofs.YtkhccpjkajhnpaaGreat
open Go.RowKit Go.Lib Go.Maps
set_option linter.unusedSimpArgs false
set_option linter.unusedVariables false

/-- One name ahead of another, byte by byte. -/
def blt (a b : ByteArray) : Bool := Op.bytesLess a.toList b.toList
theorem blt_iff (a b : ByteArray) : blt a b = true ↔ a.data.toList < b.data.toList := by
  unfold blt; rw [bytesLess_eq, ByteArray.toList_eq, ByteArray.toList_eq]; simp
theorem blt_irrefl (a : ByteArray) : blt a a = false := by
  cases h : blt a a with
  | false => rfl
  | true => exact absurd ((blt_iff a a).1 h) (List.lt_irrefl _)
theorem blt_trans {a b c : ByteArray} (h : blt a b = true) (g : blt b c = true) : blt a c = true := (blt_iff a c).2 (List.lt_trans ((blt_iff a b).1 h) ((blt_iff b c).1 g))
theorem ba_ext {a b : ByteArray} (h : a.data.toList = b.data.toList) : a = b := ByteArray.ext (Array.toList_inj.1 h)
theorem blt_total {a b : ByteArray} (h : blt a b = false) (hne : a ≠ b) : blt b a = true := by
  rw [blt_iff]
  have h1 : ¬ a.data.toList < b.data.toList := fun hh => by rw [(blt_iff a b).2 hh] at h; cases h
  have h2 : b.data.toList ≤ a.data.toList := List.not_lt.1 h1
  rcases List.le_iff_lt_or_eq.1 h2 with h3 | h3
  · exact h3
  · exact absurd (ba_ext h3).symm hne
/-- In order, no two alike. -/
def Asc (l : List ByteArray) : Prop := l.Pairwise (fun a b => blt a b = true)
theorem Asc.nodup {l : List ByteArray} (h : Asc l) : l.Nodup := List.Pairwise.imp (fun {a b} hab e => by subst e; rw [blt_irrefl] at hab; cases hab) h
theorem asc_ext {l m : List ByteArray} (hl : Asc l) (hm : Asc m) (h : ∀ b, b ∈ l ↔ b ∈ m) : l = m :=
  List.Perm.eq_of_pairwise (le := fun a b => blt a b = true) (fun a b _ _ h1 h2 => by have := blt_trans h1 h2; rw [blt_irrefl] at this; cases this) hl hm ((List.perm_ext_iff_of_nodup hl.nodup hm.nodup).2 h)
/-- What l4Put makes of what is left of a row. -/
def putR (s : ByteArray) : Bool → List ByteArray → List ByteArray
  | d, [] => if d = true then [] else [s]
  | true, x :: r => if x = s then putR s true r else x :: putR s true r
  | false, x :: r => if blt x s = true then (if x = s then putR s false r else x :: putR s false r) else s :: (if x = s then putR s true r else x :: putR s true r)
theorem putR_true (s : ByteArray) : ∀ (l : List ByteArray) (b : ByteArray), b ∈ putR s true l ↔ b ∈ l ∧ b ≠ s
  | [], b => by simp [putR]
  | x :: r, b => by
    have ih := putR_true s r b
    rw [putR]
    by_cases hx : x = s
    · rw [if_pos hx, ih]
      constructor
      · rintro ⟨h1, h2⟩; exact ⟨List.mem_cons_of_mem _ h1, h2⟩
      · rintro ⟨h1, h2⟩
        rcases List.mem_cons.1 h1 with h1 | h1
        · exact absurd (h1.trans hx) h2
        · exact ⟨h1, h2⟩
    · rw [if_neg hx, List.mem_cons, ih, List.mem_cons]
      constructor
      · rintro (h | ⟨h1, h2⟩)
        · exact ⟨.inl h, by rw [h]; exact hx⟩
        · exact ⟨.inr h1, h2⟩
      · rintro ⟨h1 | h1, h2⟩
        · exact .inl h1
        · exact .inr ⟨h1, h2⟩
theorem asc_true (s : ByteArray) : ∀ (l : List ByteArray), Asc l → Asc (putR s true l)
  | [], _ => by simp [putR, Asc]
  | x :: r, h => by
    obtain ⟨h1, h2⟩ := List.pairwise_cons.1 h
    have ih := asc_true s r h2
    rw [putR]
    by_cases hx : x = s
    · rw [if_pos hx]; exact ih
    · rw [if_neg hx]; exact List.pairwise_cons.2 ⟨fun b hb => h1 b ((putR_true s r b).1 hb).1, ih⟩
theorem asc_put (s : ByteArray) : ∀ (l : List ByteArray), Asc l → Asc (putR s false l) ∧ ∀ b, b ∈ putR s false l ↔ (b = s ∨ b ∈ l)
  | [], _ => by simp [putR, Asc]
  | x :: r, h => by
    obtain ⟨h1, h2⟩ := List.pairwise_cons.1 h
    obtain ⟨i1, i2⟩ := asc_put s r h2
    rw [putR]
    cases hb : blt x s with
    | true =>
      have hx : ¬ x = s := fun e => by subst e; rw [blt_irrefl] at hb; cases hb
      rw [if_pos rfl, if_neg hx]
      refine ⟨List.pairwise_cons.2 ⟨fun b hbm => ?_, i1⟩, fun b => ?_⟩
      · rcases (i2 b).1 hbm with e | e
        · subst e; exact hb
        · exact h1 b e
      · rw [List.mem_cons, i2 b, List.mem_cons]
        constructor
        · rintro (e | e | e) <;> simp [e]
        · rintro (e | e | e) <;> simp [e]
    | false =>
      rw [if_neg (by simp)]
      by_cases hx : x = s
      · subst hx
        rw [if_pos rfl]
        refine ⟨List.pairwise_cons.2 ⟨fun b hbm => h1 b ((putR_true x r b).1 hbm).1, asc_true x r h2⟩, fun b => ?_⟩
        rw [List.mem_cons, putR_true, List.mem_cons]
        constructor
        · rintro (e | ⟨e, _⟩)
          · exact .inl e
          · exact .inr (.inr e)
        · rintro (e | e | e)
          · exact .inl e
          · exact .inl e
          · by_cases hbx : b = x
            · exact .inl hbx
            · exact .inr ⟨e, hbx⟩
      · have hsx := blt_total hb hx
        rw [if_neg hx]
        refine ⟨List.pairwise_cons.2 ⟨fun b hbm => ?_, List.pairwise_cons.2 ⟨fun b hbm => h1 b ((putR_true s r b).1 hbm).1, asc_true s r h2⟩⟩, fun b => ?_⟩
        · rcases List.mem_cons.1 hbm with e | e
          · rw [e]; exact hsx
          · exact blt_trans hsx (h1 b ((putR_true s r b).1 e).1)
        · rw [List.mem_cons, List.mem_cons, putR_true, List.mem_cons]
          constructor
          · rintro (e | e | ⟨e, _⟩)
            · exact .inl e
            · exact .inr (.inl e)
            · exact .inr (.inr e)
          · rintro (e | e | e)
            · exact .inl e
            · exact .inr (.inl e)
            · by_cases hbs : b = s
              · exact .inl hbs
              · exact .inr (.inr ⟨e, hbs⟩)
/-- How long a row gets. -/
theorem putR_len (s : ByteArray) : ∀ (d : Bool) (l : List ByteArray), (putR s d l).length ≤ l.length + 1
  | true, [] => by simp [putR]
  | false, [] => by simp [putR]
  | true, x :: r => by
    have := putR_len s true r
    rw [putR]; split <;> simp only [List.length_cons] <;> omega
  | false, x :: r => by
    have h1 := putR_len s false r
    have h2 : (putR s true r).length ≤ r.length := by
      clear h1
      induction r with
      | nil => simp [putR]
      | cons y r ih => rw [putR]; split <;> simp only [List.length_cons] <;> omega
    rw [putR]; split <;> split <;> simp only [List.length_cons] <;> omega
/-- The names of statements of a kind, behind those that came. -/
def nmS (k : Int) : SF → List ByteArray → List ByteArray
  | .nil, out => out
  | .node _ _ h l r, out => nmS k r (nmS k l (if h.k = k then putR h.s false out else out))
/-- The names of expressions of a kind. -/
def nmE (k : Int) : EF → List ByteArray → List ByteArray
  | .nil, out => out
  | .node _ _ h l r, out => nmE k r (nmE k l (if h.k = k then putR h.s false out else out))
def nmX (k : Int) (x : X) (out : List ByteArray) : List ByteArray := nmE k x.l (if x.h.k = k then putR x.h.s false out else out)
def nmA (k : Int) : SF → List ByteArray → List ByteArray
  | .nil, out => out
  | .node _ _ h l r, out => nmA k r (nmA k l (nmX k h.x4 (nmX k h.x3 (nmX k h.x2 (nmX k h.x1 out)))))
end Go.Proofs.YtkhccpjkajhnpaaGreat
