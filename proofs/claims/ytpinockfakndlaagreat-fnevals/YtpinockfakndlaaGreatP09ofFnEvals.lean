import Derived.Test.YtpinockfakndlaaGreatZp
import Derived.Test.YtpinockfakndlaaGreatP07ofFnEvals
import Derived.Test.YtpinockfakndlaaGreatAstAnyS
import Derived.RowKit
import Derived.Lib.Atoi
import Derived.Lib.AtoiAll
import Derived.Lib.AtoiAllCases
import Derived.Lib.AtoiTie
import Derived.Lib.ItoaNum
import Derived.Lib.ItoaMem
namespace Go.Proofs.YtpinockfakndlaaGreat
open Go.RowKit Go.Lib
set_option linter.unusedSimpArgs false
set_option linter.unusedVariables false
def limP : Nat := 4 * (limS 2 + 1) + limT + 1
theorem okStrA : ∀ z ∈ ([⟨#[99]⟩, ⟨#[97]⟩, ⟨#[120]⟩, ⟨#[102, 111, 114]⟩] : List ByteArray), z.size ≤ 3 := by decide
theorem okIntA : ∀ z ∈ ([0, 1, 16, 17] : List Int), 0 ≤ z ∧ z ≤ 17 := by decide
theorem oneP2 (x y : Option Addr) (i j k l : Nat) : (#[.slice x i j, .slice y k l] : Array Value).all (·.oneCell') = true := by simp [Value.oneCell']
theorem ns_slice (a : Option Addr) (n c : Nat) : ¬ NS (.slice a n c) := fun h => h
theorem AV.two {w : World} {N : Nat} (hr : w.rangeAt (N + 1) 0 (acells [⟨⟨#[97]⟩, 8⟩, ⟨⟨#[98]⟩, 6⟩])) : AV w (N + 1) (.slice (some ⟨N + 1, 0, Option.none⟩) 2 2) [⟨⟨#[97]⟩, 8⟩, ⟨⟨#[98]⟩, 6⟩] :=
  AV.laid (lt_of_cellA (hr 0 _ rfl)) hr
theorem AV.one {w : World} {N : Nat} (hr : w.rangeAt (N + 1) 0 (acells [⟨⟨#[97]⟩, 8⟩, ⟨⟨#[98]⟩, 6⟩])) : AV w (N + 1) (.slice (some ⟨N + 1, 0, Option.none⟩) 1 2) [⟨⟨#[97]⟩, 8⟩] :=
  AV.laid (ts := [⟨⟨#[97]⟩, 8⟩]) (lt_of_cellA (hr 0 _ rfl)) (fun j v hj => hr j v (by
    match j, hj with
    | 0, hj => exact hj
    | 1, hj => exact hj
    | j + 2, hj => simp [acells] at hj))
set_option maxHeartbeats 4000000 in
set_option maxRecDepth 100000 in
theorem l4Prog_is (B : Nat) (a : Option Addr) (len cap b : Nat) (w : World) (hdw : Dw B a len cap b w) : Calls Tryz.prog 29 #[.pointer (some ⟨b, 0, none⟩)] w (DrawnP B a len cap b limP w) := by
  have HD := hid hdw
  have hbN := hdw.cur.lt
  clear hdw
  go_enter Tryz.func29, Tryz.ntmps29
  go_wp2_with fail
  have b0 := (aB w (.cells #[nilS, nilS] 27)).alloc (by simp) (.cells #[.string ⟨#[97]⟩, .int .i64 8, .string ⟨#[98]⟩, .int .i64 6] 82)
  have hs : ((w.alloc (.cells #[nilS, nilS] 27)).alloc (.cells #[.string ⟨#[97]⟩, .int .i64 8, .string ⟨#[98]⟩, .int .i64 6] 82)).heap.size = w.heap.size + 2 := by simp
  have t0 := there_later (newthere2 w nilS nilS 27) (aB _ (.cells #[.string ⟨#[97]⟩, .int .i64 8, .string ⟨#[98]⟩, .int .i64 6] 82))
  have r0 : ((w.alloc (.cells #[nilS, nilS] 27)).alloc (.cells #[.string ⟨#[97]⟩, .int .i64 8, .string ⟨#[98]⟩, .int .i64 6] 82)).rangeAt (w.heap.size + 1) 0 (acells [⟨⟨#[97]⟩, 8⟩, ⟨⟨#[98]⟩, 6⟩]) := by
    have h := new_rangeS (w.alloc (.cells #[nilS, nilS] 27)) #[.string ⟨#[97]⟩, .int .i64 8, .string ⟨#[98]⟩, .int .i64 6] 82
    rw [World.size_alloc] at h
    exact h
  have K0 : Hid (((w.alloc (.cells #[nilS, nilS] 27)).alloc (.cells #[.string ⟨#[97]⟩, .int .i64 8, .string ⟨#[98]⟩, .int .i64 6] 82)).ownsRow (w.heap.size + 1) 82 2 (.slice (some ⟨w.heap.size + 1, 0, Option.none⟩) 2 2) 2 (acells [⟨⟨#[97]⟩, 8⟩, ⟨⟨#[98]⟩, 6⟩])) := hid ⟨rfl, .inr ⟨w.heap.size + 1, 2, #[.string ⟨#[97]⟩, .int .i64 8, .string ⟨#[98]⟩, .int .i64 6], rfl, Nat.le_refl _, (by have h := heap_last (w.alloc (.cells #[nilS, nilS] 27)) (.cells #[.string ⟨#[97]⟩, .int .i64 8, .string ⟨#[98]⟩, .int .i64 6] 82); rw [World.size_alloc] at h; exact h), Nat.le_refl _, (by unfold maxLen; omega), rfl, rfl⟩⟩
  refine (l3Stmts_is 2 4 (by omega) (by omega) (by omega) B a len cap b _ (HD.out.later b0)).mono ?_
  rintro e w1 ⟨F, vf, rfl, g1, s1, d1, wr1, so1⟩
  rw [hs] at g1 so1
  obtain ⟨fa, fc, rfl⟩ := g1.shape
  have hw1 := wr1.size
  rw [hs] at hw1
  have KW := hid wr1
  have K1 := hid (And.intro (And.intro d1 so1) (And.intro ((Wr.of_below b0).trans wr1) (And.intro (there_wr t0 wr1 (by omega)) (range_wr r0 wr1 (by omega)))))
  clear g1 so1 d1 wr1 t0 r0 b0 hs HD
  go_wp2_with fail
  have b1 := aB w1 (.cells #[.slice (some ⟨w.heap.size + 1, 0, Option.none⟩) 2 2, .slice fa (slen F) fc] 27)
  refine (l1Below_is B a len cap b 10 _ (K1.out.1.1.later b1) (by omega)).mono ?_
  rintro e w2 ⟨x, rfl, ⟨x0, x1⟩, d2, wr2⟩
  obtain ⟨n, hn⟩ : ∃ n, w1.heap.size = n := ⟨_, rfl⟩
  have P2 : Hid (PvS B a len cap b w w.heap.size n (.slice (some ⟨w.heap.size + 1, 0, Option.none⟩) 2 2) (.slice fa (slen F) fc) w2) := hid (by
    rw [← hn]
    exact ⟨range_wr (new_rangeS w1 #[.slice (some ⟨w.heap.size + 1, 0, Option.none⟩) 2 2, .slice fa (slen F) fc] 27) wr2 (by omega), there_wr (newthere2 w1 _ _ _) wr2 (by omega), there_wr (there_later K1.out.2.2.1 b1) wr2 (show w.heap.size ≠ b by omega), d2, (K1.out.2.1.trans (.of_below b1)).trans wr2, rfl, hbN, hw1⟩)
  have RA : Hid (w2.rangeAt (w.heap.size + 1) 0 (acells [⟨⟨#[97]⟩, 8⟩, ⟨⟨#[98]⟩, 6⟩])) := hid (range_wr (rangeAt_later K1.out.2.2.2 b1) wr2 (by omega))
  have SO2 : Hid (SO w2 (w.heap.size + 2) F (.slice fa (slen F) fc)) := hid ((K1.out.1.2.wr (b := b) (.of_below b1) (by omega)).wr wr2 (by omega))
  have WA2 : Hid (Wr b ((w.alloc (.cells #[nilS, nilS] 27)).alloc (.cells #[.string ⟨#[97]⟩, .int .i64 8, .string ⟨#[98]⟩, .int .i64 6] 82)) w2) := hid ((KW.out.trans (.of_below b1)).trans wr2)
  have OA : Hid (w2.ownsRow (w.heap.size + 1) 82 2 (.slice (some ⟨w.heap.size + 1, 0, Option.none⟩) 2 2) 2 (acells [⟨⟨#[97]⟩, 8⟩, ⟨⟨#[98]⟩, 6⟩])) := hid (own_wr (own_wr (own_wr K0.out KW.out (by omega)) (b := b) (.of_below b1) (by omega)) wr2 (by omega))
  have GN : Hid (gOf (.slice fa (slen F) fc) < n) := hid (by
    rw [← hn]
    obtain ⟨xs, hown, _⟩ := K1.out.1.2
    unfold gOf
    cases h : (Value.slice fa (slen F) fc).ownBlock with
    | none => have := hw1; simp only [Option.getD_none]; omega
    | some g => exact (hown.lt g h).2)
  rw [hn] at hw1 ⊢
  have HS1 := hid s1
  have hw2 := wr2.size
  have hb2n : n < w2.heap.size := lt_of_cellA P2.out.c0.1
  clear d2 wr2 b1 K1 hn s1 KW K0
  by_cases h0 : x = 0
  · subst h0
    have ob : (Value.slice (some ⟨w.heap.size + 1, 0, Option.none⟩) 2 2).ownBlock = some (w.heap.size + 1) := rfl
    obtain ⟨i0, hi, hz0, hz1, hz2⟩ := info_parts infoIA
    have HI := hid (And.intro hi (And.intro hz0 (And.intro hz1 hz2)))
    clear hi hz0 hz1 hz2
    go_wp2_with fail
    refine region_drew (by kernel_rfl) (fun wd hwd => ?_)
    have bd : Below w2.heap.size w2 wd := by rw [hwd]; exact (Below.refl _ w2).drew
    clear hwd
    have C2 : Hid (C0 B a len cap b w w.heap.size n F (.slice (some ⟨w.heap.size + 1, 0, Option.none⟩) 2 2) (.slice fa (slen F) fc) w2) := hid ⟨P2.out, OA.out, SO2.out.sv⟩
    have Cd := hid (C2.out.later bd)
    clear bd C2
    refine wpAny_take (i := 0) (v := .pointer (some ⟨n, 0, Option.none⟩)) rfl (by kernel_rfl) (by kernel_rfl) (by kernel_rfl) (fun _ _ _ => id) (Or.inl ⟨by rfl, ?a0⟩) ?_
    case a0 => intro w; go_simp
    simp only [Act.put, zp]
    refine wpAny_take (i := 2) (v := .pointer (some ⟨b, 0, Option.none⟩)) rfl (by kernel_rfl) (by kernel_rfl) (by kernel_rfl) (fun _ _ _ => id) (Or.inl ⟨by rfl, ?a2⟩) ?_
    case a2 => intro w; go_simp
    simp only [Act.put, zp]
    refine wpAny_take (i := 5) (v := .pointer (some ⟨b, 0, Option.none⟩)) rfl (by kernel_rfl) (by kernel_rfl) (by kernel_rfl) (fun _ _ _ => id) (Or.inl ⟨by rfl, ?a5⟩) ?_
    case a5 => intro w; go_simp
    simp only [Act.put, zp]
    refine wpAny_till (i := 1) (v := .slice (some ⟨w.heap.size + 1, 0, Option.none⟩) 2 2) (fun w' => w'.cell? ⟨n, 0, Option.none⟩ = some (.slice (some ⟨w.heap.size + 1, 0, Option.none⟩) 2 2)) rfl (by kernel_rfl) (by kernel_rfl) (by kernel_rfl) (fun _ _ _ => id) (Or.inl ⟨by rfl, ?a1⟩) Cd.out.pv.c0.1 (fun hHeld => ?_)
    case a1 => intro w hSw; go_simp
    simp only [Act.put, zp]
    refine wpAnyD_ready (rs := [3, 6]) (by kernel_rfl) (by simp) ?_
    refine AllReadyD.cons rfl (fun K hK => ?_) (AllReadyD.cons rfl (fun K hK => ?_) AllReadyD.nil)
    ·
      rw [if_pos (by rfl)]
      simp only [zq]
      go_wp2_with fail
      obtain ⟨w31, hW31⟩ : ∃ W, wd.alloc (.cells #[.string ⟨#[99]⟩, .string ⟨#[97]⟩, .string ⟨#[120]⟩, .string ⟨#[102, 111, 114]⟩] 9) = W := ⟨_, rfl⟩
      have hb31 : Below wd.heap.size wd w31 := by rw [← hW31]; exact aB _ _
      have C31 := hid (Cd.out.later hb31)
      have F31 : Hid (StrL b wd.heap.size w31) := hid (by rw [← hW31]; exact ⟨by have := Cd.out.pv.dw.cur.lt; omega, fun j hj => strs_cell _ _ _ okStrA _ rfl j hj⟩)
      refine hK.out _ _ (fun _ => keeps (aB _ _) Cd.out.pv.c0.1) ?_
      try simp only [Act.put, zp]
      rw [hW31]
      clear hb31 hW31
      refine wpAnyD_ready (rs := [4, 6]) (by kernel_rfl) (by simp) ?_
      refine AllReadyD.cons rfl (fun K hK => ?_) (AllReadyD.cons rfl (fun K hK => ?_) AllReadyD.nil)
      ·
        rw [if_pos (by rfl)]
        simp only [zq]
        go_wp2_with fail
        refine (l1Str_is B a len cap b _ 4 4 (fun z => z.size ≤ 3) _ C31.out.pv.dw (by omega) (by omega) (by have := F31.out.1; omega) F31.out.2).mono ?_
        rintro e w32 ⟨s, rfl, hs3, d32, wr32⟩
        have C32 := hid (C31.out.step wr32 d32)
        clear d32 wr32
        go_wp2_with fail
        refine hK.out _ _ (fun _ => C32.out.pv.c0.1) ?_
        try simp only [Act.put, zp]
        refine wpAnyD_ready (rs := [6]) (by kernel_rfl) (by simp) ?_
        refine AllReadyD.cons rfl (fun K hK => ?_) AllReadyD.nil
        rw [if_pos (by rfl)]
        simp only [zq]
        go_wp2_with fail
        obtain ⟨w33, hW33⟩ : ∃ W, w32.alloc (.cells #[.int .i64 0, .int .i64 1, .int .i64 16, .int .i64 17] 3) = W := ⟨_, rfl⟩
        have hb33 : Below w32.heap.size w32 w33 := by rw [← hW33]; exact aB _ _
        have C33 := hid (C32.out.later hb33)
        have F33 : Hid (IntL b w32.heap.size w33) := hid (by rw [← hW33]; exact ⟨by have := C32.out.pv.dw.cur.lt; omega, fun j hj => ints_cell _ _ _ okIntA _ rfl j hj⟩)
        refine hK.out _ _ (fun _ => keeps (aB _ _) C32.out.pv.c0.1) ?_
        try simp only [Act.put, zp]
        rw [hW33]
        clear hb33 hW33
        refine wpAnyD_ready (rs := [7]) (by kernel_rfl) (by simp) ?_
        refine AllReadyD.cons rfl (fun K hK => ?_) AllReadyD.nil
        rw [if_pos (by rfl)]
        simp only [zq]
        go_wp2_with fail
        refine (l1Int_is B a len cap b _ 4 4 (fun z => 0 ≤ z ∧ z ≤ 17) _ C33.out.pv.dw (by omega) (by omega) (by have := F33.out.1; omega) F33.out.2).mono ?_
        rintro e w34 ⟨z, rfl, hz17, d34, wr34⟩
        have C34 := hid (C33.out.step wr34 d34)
        clear d34 wr34
        go_wp2_with fail
        refine hK.out _ _ (fun _ => C34.out.pv.c0.1) ?_
        try simp only [Act.put, zp]
        refine wpAnyD_ready (rs := [8]) (by kernel_rfl) (by simp) ?_
        refine AllReadyD.cons rfl (fun K hK => ?_) AllReadyD.nil
        rw [if_pos (by rfl)]
        simp only [zq]
        go_wp2_with fail
        refine hK.out _ _ (fun _ => C34.out.pv.c0.1) ?_
        try simp only [Act.put, zp]
        refine wpAnyD_ready (rs := [9]) (by kernel_rfl) (by simp) ?_
        refine AllReadyD.cons rfl (fun K hK => ?_) AllReadyD.nil
        rw [if_pos (by rfl)]
        simp only [zq]
        go_wp2_with fail
        refine hK.out _ _ (fun _ => keeps (aB _ _) C34.out.pv.c0.1) ?_
        try simp only [Act.put, zp]
        refine wpAnyD_ready (rs := [10]) (by kernel_rfl) (by simp) ?_
        refine AllReadyD.cons rfl (fun K hK => ?_) AllReadyD.nil
        rw [if_pos (by rfl)]
        simp only [zq]
        refine wp_append_lies _ _ _ 24 (by rfl) (w.heap.size + 1) 82 i0 _ 2 24 Tryz.underlying24 HI.out.1 HI.out.2.1 HI.out.2.2.1 HI.out.2.2.2 rfl (by decide) _ _ _ (by rfl) (C34.out.own.alloc _) ⟨w34.heap.size, 0, Option.none⟩ 1 1 [.string s, .int .i64 z] (by rfl) (by rfl) ?k1 ?k2 (by decide) ?k3 ?k4 ?k5 (w34.heap.size + 1) (by simp) ?_
        case k1 => exact newsN _ _ _
        case k2 => intro u hu; simp only [List.mem_cons, List.not_mem_nil, or_false] at hu; rcases hu with rfl | rfl <;> rfl
        case k3 => unfold maxLen; omega
        case k4 => omega
        case k5 => have := C34.out.pv.wr.size; simp; omega
        intro g c6 w6 hown6 hgrow6 hat6 hlt6
        have P6 := hid (C34.out.pv.grow _ hgrow6 (fun e => by rw [ob] at e; injection e with e; omega) (fun k hk => by rw [ob] at hk; injection hk with hk; omega))
        have A6 : Hid (AV w6 (w.heap.size + 1) (.slice (some ⟨g, 0, Option.none⟩) 3 c6) [⟨⟨#[97]⟩, 8⟩, ⟨⟨#[98]⟩, 6⟩, ⟨s, z⟩]) := hid (AV.own (ts := [⟨⟨#[97]⟩, 8⟩, ⟨⟨#[98]⟩, 6⟩, ⟨s, z⟩]) hown6)
        have S6 := hid ((C34.out.sv.later (aB w34 _)).same (lo' := w.heap.size + 1) (by omega) (keeps_grown hgrow6 (fun k hk => by rw [ob] at hk; injection hk with hk; omega)))
        clear hown6 hgrow6 hat6 hlt6
        refine hK.out _ _ (fun e => absurd e (waitsN (by kernel_rfl))) ?_
        try simp only [Act.put, zp]
        refine wpAnyD_ready (rs := [11]) (by kernel_rfl) (by simp) ?_
        refine AllReadyD.cons rfl (fun K hK => ?_) AllReadyD.nil
        rw [if_pos (by rfl)]
        simp only [zq]
        go_wp2_with fail
        refine hK.out _ _ (fun e => absurd e (waitsN (by kernel_rfl))) ?_
        try simp only [Act.put, zp]
        refine wpAnyD_ready (rs := [12]) (by kernel_rfl) (by simp) ?_
        refine AllReadyD.cons rfl (fun K hK => ?_) AllReadyD.nil
        rw [if_pos (by rfl)]
        simp only [zq]
        have q1 := P6.out.c0
        have q1a := q1.1
        have q1f := q1.2
        go_wp2_with fail
        refine hK.out _ _ (fun e => absurd e (waitsN (by kernel_rfl))) ?_
        try simp only [Act.put, zp]
        refine wpAnyD_done (by kernel_rfl) ?_ _
        have P7 : Hid (PvS B a len cap b w w.heap.size n (.slice (some ⟨g, 0, Option.none⟩) 3 c6) (.slice fa (slen F) fc) (w6.setCell ⟨n, 0, Option.none⟩ (.slice (some ⟨g, 0, Option.none⟩) 3 c6))) := hid (P6.out.setA _)
        have KK : Hid (Kp (w.heap.size + 1) w6 (w6.setCell ⟨n, 0, Option.none⟩ (.slice (some ⟨g, 0, Option.none⟩) 3 c6))) := hid (kp_set _ (by omega) q1a (ns_slice _ _ _))
        have hz7 : w6.heap.size ≤ (w6.setCell ⟨n, 0, Option.none⟩ (.slice (some ⟨g, 0, Option.none⟩) 3 c6)).heap.size := by rw [show w6.setCell ⟨n, 0, Option.none⟩ (.slice (some ⟨g, 0, Option.none⟩) 3 c6) = w6.setCells n 0 [.slice (some ⟨g, 0, Option.none⟩) 3 c6] from rfl, size_sets]; exact Nat.le_refl _
        have A7 := hid (A6.out.spare (Nat.le_refl _) KK.out hz7)
        have S7 := hid (S6.out.spare (Nat.le_refl _) KK.out)
        have M7 : Hid (∀ t ∈ [(⟨⟨#[97]⟩, 8⟩ : AR), ⟨⟨#[98]⟩, 6⟩, ⟨s, z⟩], t.s.size ≤ 3) := hid (by intro t ht; simp only [List.mem_cons, List.not_mem_nil, or_false] at ht; rcases ht with rfl | rfl | rfl; decide; decide; exact hs3)
        clear q1 q1a q1f hz7
        go_wp2_with (first | (refine wpList_load_mid rfl 27 _ rfl n 0 rfl _ _ P7.out.rg Tryz.underlying27 rfl sizePg ?_) | (refine sA rfl 27 _ _ rfl w.heap.size 0 #[.slice (some ⟨g, 0, Option.none⟩) 3 c6, .slice fa (slen F) fc] rfl rfl P7.out.tN sizePg (oneP2 _ _ _ _ _ _) ?_; intro W hW))
        have HW := P7.out.close (ts := [⟨⟨#[97]⟩, 8⟩, ⟨⟨#[98]⟩, 6⟩, ⟨s, z⟩]) (lim := limP) hW A7.out S7.out (by simp) M7.out (by have := HS1.out; unfold limP; omega)
        have hlv := run_loadVar_mid W w.heap.size 0 _ _ _ HW.2 Tryz.underlying27 rfl sizePg
        refine bodyPost_ret (v := .agg #[.slice (some ⟨g, 0, Option.none⟩) 3 c6, .slice fa (slen F) fc]) ?_ rfl HW.1
        simp [results, Tryz.results29, asAddr, hlv, Act.put]
        try rfl
      ·
        rw [if_pos (by rfl)]
        simp only [zq]
        go_wp2_with fail
        obtain ⟨w35, hW35⟩ : ∃ W, w31.alloc (.cells #[.int .i64 0, .int .i64 1, .int .i64 16, .int .i64 17] 3) = W := ⟨_, rfl⟩
        have hb35 : Below w31.heap.size w31 w35 := by rw [← hW35]; exact aB _ _
        have C35 := hid (C31.out.later hb35)
        have F35 : Hid (IntL b w31.heap.size w35) := hid (by rw [← hW35]; exact ⟨by have := C31.out.pv.dw.cur.lt; omega, fun j hj => ints_cell _ _ _ okIntA _ rfl j hj⟩)
        have G35 := hid (F31.out.later hb35)
        refine hK.out _ _ (fun _ => keeps (aB _ _) C31.out.pv.c0.1) ?_
        try simp only [Act.put, zp]
        rw [hW35]
        clear hb35 hW35
        refine wpAnyD_ready (rs := [4]) (by kernel_rfl) (by simp) ?_
        refine AllReadyD.cons rfl (fun K hK => ?_) AllReadyD.nil
        rw [if_pos (by rfl)]
        simp only [zq]
        go_wp2_with fail
        refine (l1Str_is B a len cap b _ 4 4 (fun z => z.size ≤ 3) _ C35.out.pv.dw (by omega) (by omega) (by have := G35.out.1; omega) G35.out.2).mono ?_
        rintro e w36 ⟨s, rfl, hs3, d36, wr36⟩
        have C36 := hid (C35.out.step wr36 d36)
        have G36 := hid (F35.out.wr wr36)
        clear d36 wr36
        go_wp2_with fail
        refine hK.out _ _ (fun _ => C36.out.pv.c0.1) ?_
        try simp only [Act.put, zp]
        refine wpAnyD_ready (rs := [7]) (by kernel_rfl) (by simp) ?_
        refine AllReadyD.cons rfl (fun K hK => ?_) AllReadyD.nil
        rw [if_pos (by rfl)]
        simp only [zq]
        go_wp2_with fail
        refine (l1Int_is B a len cap b _ 4 4 (fun z => 0 ≤ z ∧ z ≤ 17) _ C36.out.pv.dw (by omega) (by omega) (by have := G36.out.1; omega) G36.out.2).mono ?_
        rintro e w37 ⟨z, rfl, hz17, d37, wr37⟩
        have C37 := hid (C36.out.step wr37 d37)
        clear d37 wr37
        go_wp2_with fail
        refine hK.out _ _ (fun _ => C37.out.pv.c0.1) ?_
        try simp only [Act.put, zp]
        refine wpAnyD_ready (rs := [8]) (by kernel_rfl) (by simp) ?_
        refine AllReadyD.cons rfl (fun K hK => ?_) AllReadyD.nil
        rw [if_pos (by rfl)]
        simp only [zq]
        go_wp2_with fail
        refine hK.out _ _ (fun _ => C37.out.pv.c0.1) ?_
        try simp only [Act.put, zp]
        refine wpAnyD_ready (rs := [9]) (by kernel_rfl) (by simp) ?_
        refine AllReadyD.cons rfl (fun K hK => ?_) AllReadyD.nil
        rw [if_pos (by rfl)]
        simp only [zq]
        go_wp2_with fail
        refine hK.out _ _ (fun _ => keeps (aB _ _) C37.out.pv.c0.1) ?_
        try simp only [Act.put, zp]
        refine wpAnyD_ready (rs := [10]) (by kernel_rfl) (by simp) ?_
        refine AllReadyD.cons rfl (fun K hK => ?_) AllReadyD.nil
        rw [if_pos (by rfl)]
        simp only [zq]
        refine wp_append_lies _ _ _ 24 (by rfl) (w.heap.size + 1) 82 i0 _ 2 24 Tryz.underlying24 HI.out.1 HI.out.2.1 HI.out.2.2.1 HI.out.2.2.2 rfl (by decide) _ _ _ (by rfl) (C37.out.own.alloc _) ⟨w37.heap.size, 0, Option.none⟩ 1 1 [.string s, .int .i64 z] (by rfl) (by rfl) ?k1 ?k2 (by decide) ?k3 ?k4 ?k5 (w37.heap.size + 1) (by simp) ?_
        case k1 => exact newsN _ _ _
        case k2 => intro u hu; simp only [List.mem_cons, List.not_mem_nil, or_false] at hu; rcases hu with rfl | rfl <;> rfl
        case k3 => unfold maxLen; omega
        case k4 => omega
        case k5 => have := C37.out.pv.wr.size; simp; omega
        intro g c6 w6 hown6 hgrow6 hat6 hlt6
        have P6 := hid (C37.out.pv.grow _ hgrow6 (fun e => by rw [ob] at e; injection e with e; omega) (fun k hk => by rw [ob] at hk; injection hk with hk; omega))
        have A6 : Hid (AV w6 (w.heap.size + 1) (.slice (some ⟨g, 0, Option.none⟩) 3 c6) [⟨⟨#[97]⟩, 8⟩, ⟨⟨#[98]⟩, 6⟩, ⟨s, z⟩]) := hid (AV.own (ts := [⟨⟨#[97]⟩, 8⟩, ⟨⟨#[98]⟩, 6⟩, ⟨s, z⟩]) hown6)
        have S6 := hid ((C37.out.sv.later (aB w37 _)).same (lo' := w.heap.size + 1) (by omega) (keeps_grown hgrow6 (fun k hk => by rw [ob] at hk; injection hk with hk; omega)))
        clear hown6 hgrow6 hat6 hlt6
        refine hK.out _ _ (fun e => absurd e (waitsN (by kernel_rfl))) ?_
        try simp only [Act.put, zp]
        refine wpAnyD_ready (rs := [11]) (by kernel_rfl) (by simp) ?_
        refine AllReadyD.cons rfl (fun K hK => ?_) AllReadyD.nil
        rw [if_pos (by rfl)]
        simp only [zq]
        go_wp2_with fail
        refine hK.out _ _ (fun e => absurd e (waitsN (by kernel_rfl))) ?_
        try simp only [Act.put, zp]
        refine wpAnyD_ready (rs := [12]) (by kernel_rfl) (by simp) ?_
        refine AllReadyD.cons rfl (fun K hK => ?_) AllReadyD.nil
        rw [if_pos (by rfl)]
        simp only [zq]
        have q1 := P6.out.c0
        have q1a := q1.1
        have q1f := q1.2
        go_wp2_with fail
        refine hK.out _ _ (fun e => absurd e (waitsN (by kernel_rfl))) ?_
        try simp only [Act.put, zp]
        refine wpAnyD_done (by kernel_rfl) ?_ _
        have P7 : Hid (PvS B a len cap b w w.heap.size n (.slice (some ⟨g, 0, Option.none⟩) 3 c6) (.slice fa (slen F) fc) (w6.setCell ⟨n, 0, Option.none⟩ (.slice (some ⟨g, 0, Option.none⟩) 3 c6))) := hid (P6.out.setA _)
        have KK : Hid (Kp (w.heap.size + 1) w6 (w6.setCell ⟨n, 0, Option.none⟩ (.slice (some ⟨g, 0, Option.none⟩) 3 c6))) := hid (kp_set _ (by omega) q1a (ns_slice _ _ _))
        have hz7 : w6.heap.size ≤ (w6.setCell ⟨n, 0, Option.none⟩ (.slice (some ⟨g, 0, Option.none⟩) 3 c6)).heap.size := by rw [show w6.setCell ⟨n, 0, Option.none⟩ (.slice (some ⟨g, 0, Option.none⟩) 3 c6) = w6.setCells n 0 [.slice (some ⟨g, 0, Option.none⟩) 3 c6] from rfl, size_sets]; exact Nat.le_refl _
        have A7 := hid (A6.out.spare (Nat.le_refl _) KK.out hz7)
        have S7 := hid (S6.out.spare (Nat.le_refl _) KK.out)
        have M7 : Hid (∀ t ∈ [(⟨⟨#[97]⟩, 8⟩ : AR), ⟨⟨#[98]⟩, 6⟩, ⟨s, z⟩], t.s.size ≤ 3) := hid (by intro t ht; simp only [List.mem_cons, List.not_mem_nil, or_false] at ht; rcases ht with rfl | rfl | rfl; decide; decide; exact hs3)
        clear q1 q1a q1f hz7
        go_wp2_with (first | (refine wpList_load_mid rfl 27 _ rfl n 0 rfl _ _ P7.out.rg Tryz.underlying27 rfl sizePg ?_) | (refine sA rfl 27 _ _ rfl w.heap.size 0 #[.slice (some ⟨g, 0, Option.none⟩) 3 c6, .slice fa (slen F) fc] rfl rfl P7.out.tN sizePg (oneP2 _ _ _ _ _ _) ?_; intro W hW))
        have HW := P7.out.close (ts := [⟨⟨#[97]⟩, 8⟩, ⟨⟨#[98]⟩, 6⟩, ⟨s, z⟩]) (lim := limP) hW A7.out S7.out (by simp) M7.out (by have := HS1.out; unfold limP; omega)
        have hlv := run_loadVar_mid W w.heap.size 0 _ _ _ HW.2 Tryz.underlying27 rfl sizePg
        refine bodyPost_ret (v := .agg #[.slice (some ⟨g, 0, Option.none⟩) 3 c6, .slice fa (slen F) fc]) ?_ rfl HW.1
        simp [results, Tryz.results29, asAddr, hlv, Act.put]
        try rfl
    ·
      rw [if_pos (by rfl)]
      simp only [zq]
      go_wp2_with fail
      obtain ⟨w38, hW38⟩ : ∃ W, wd.alloc (.cells #[.int .i64 0, .int .i64 1, .int .i64 16, .int .i64 17] 3) = W := ⟨_, rfl⟩
      have hb38 : Below wd.heap.size wd w38 := by rw [← hW38]; exact aB _ _
      have C38 := hid (Cd.out.later hb38)
      have F38 : Hid (IntL b wd.heap.size w38) := hid (by rw [← hW38]; exact ⟨by have := Cd.out.pv.dw.cur.lt; omega, fun j hj => ints_cell _ _ _ okIntA _ rfl j hj⟩)
      refine hK.out _ _ (fun _ => keeps (aB _ _) Cd.out.pv.c0.1) ?_
      try simp only [Act.put, zp]
      rw [hW38]
      clear hb38 hW38
      refine wpAnyD_ready (rs := [3]) (by kernel_rfl) (by simp) ?_
      refine AllReadyD.cons rfl (fun K hK => ?_) AllReadyD.nil
      rw [if_pos (by rfl)]
      simp only [zq]
      go_wp2_with fail
      obtain ⟨w39, hW39⟩ : ∃ W, w38.alloc (.cells #[.string ⟨#[99]⟩, .string ⟨#[97]⟩, .string ⟨#[120]⟩, .string ⟨#[102, 111, 114]⟩] 9) = W := ⟨_, rfl⟩
      have hb39 : Below w38.heap.size w38 w39 := by rw [← hW39]; exact aB _ _
      have C39 := hid (C38.out.later hb39)
      have F39 : Hid (StrL b w38.heap.size w39) := hid (by rw [← hW39]; exact ⟨by have := C38.out.pv.dw.cur.lt; omega, fun j hj => strs_cell _ _ _ okStrA _ rfl j hj⟩)
      have G39 := hid (F38.out.later hb39)
      refine hK.out _ _ (fun _ => keeps (aB _ _) C38.out.pv.c0.1) ?_
      try simp only [Act.put, zp]
      rw [hW39]
      clear hb39 hW39
      refine wpAnyD_ready (rs := [4]) (by kernel_rfl) (by simp) ?_
      refine AllReadyD.cons rfl (fun K hK => ?_) AllReadyD.nil
      rw [if_pos (by rfl)]
      simp only [zq]
      go_wp2_with fail
      refine (l1Str_is B a len cap b _ 4 4 (fun z => z.size ≤ 3) _ C39.out.pv.dw (by omega) (by omega) (by have := F39.out.1; omega) F39.out.2).mono ?_
      rintro e w40 ⟨s, rfl, hs3, d40, wr40⟩
      have C40 := hid (C39.out.step wr40 d40)
      have G40 := hid (G39.out.wr wr40)
      clear d40 wr40
      go_wp2_with fail
      refine hK.out _ _ (fun _ => C40.out.pv.c0.1) ?_
      try simp only [Act.put, zp]
      refine wpAnyD_ready (rs := [7]) (by kernel_rfl) (by simp) ?_
      refine AllReadyD.cons rfl (fun K hK => ?_) AllReadyD.nil
      rw [if_pos (by rfl)]
      simp only [zq]
      go_wp2_with fail
      refine (l1Int_is B a len cap b _ 4 4 (fun z => 0 ≤ z ∧ z ≤ 17) _ C40.out.pv.dw (by omega) (by omega) (by have := G40.out.1; omega) G40.out.2).mono ?_
      rintro e w41 ⟨z, rfl, hz17, d41, wr41⟩
      have C41 := hid (C40.out.step wr41 d41)
      clear d41 wr41
      go_wp2_with fail
      refine hK.out _ _ (fun _ => C41.out.pv.c0.1) ?_
      try simp only [Act.put, zp]
      refine wpAnyD_ready (rs := [8]) (by kernel_rfl) (by simp) ?_
      refine AllReadyD.cons rfl (fun K hK => ?_) AllReadyD.nil
      rw [if_pos (by rfl)]
      simp only [zq]
      go_wp2_with fail
      refine hK.out _ _ (fun _ => C41.out.pv.c0.1) ?_
      try simp only [Act.put, zp]
      refine wpAnyD_ready (rs := [9]) (by kernel_rfl) (by simp) ?_
      refine AllReadyD.cons rfl (fun K hK => ?_) AllReadyD.nil
      rw [if_pos (by rfl)]
      simp only [zq]
      go_wp2_with fail
      refine hK.out _ _ (fun _ => keeps (aB _ _) C41.out.pv.c0.1) ?_
      try simp only [Act.put, zp]
      refine wpAnyD_ready (rs := [10]) (by kernel_rfl) (by simp) ?_
      refine AllReadyD.cons rfl (fun K hK => ?_) AllReadyD.nil
      rw [if_pos (by rfl)]
      simp only [zq]
      refine wp_append_lies _ _ _ 24 (by rfl) (w.heap.size + 1) 82 i0 _ 2 24 Tryz.underlying24 HI.out.1 HI.out.2.1 HI.out.2.2.1 HI.out.2.2.2 rfl (by decide) _ _ _ (by rfl) (C41.out.own.alloc _) ⟨w41.heap.size, 0, Option.none⟩ 1 1 [.string s, .int .i64 z] (by rfl) (by rfl) ?k1 ?k2 (by decide) ?k3 ?k4 ?k5 (w41.heap.size + 1) (by simp) ?_
      case k1 => exact newsN _ _ _
      case k2 => intro u hu; simp only [List.mem_cons, List.not_mem_nil, or_false] at hu; rcases hu with rfl | rfl <;> rfl
      case k3 => unfold maxLen; omega
      case k4 => omega
      case k5 => have := C41.out.pv.wr.size; simp; omega
      intro g c6 w6 hown6 hgrow6 hat6 hlt6
      have P6 := hid (C41.out.pv.grow _ hgrow6 (fun e => by rw [ob] at e; injection e with e; omega) (fun k hk => by rw [ob] at hk; injection hk with hk; omega))
      have A6 : Hid (AV w6 (w.heap.size + 1) (.slice (some ⟨g, 0, Option.none⟩) 3 c6) [⟨⟨#[97]⟩, 8⟩, ⟨⟨#[98]⟩, 6⟩, ⟨s, z⟩]) := hid (AV.own (ts := [⟨⟨#[97]⟩, 8⟩, ⟨⟨#[98]⟩, 6⟩, ⟨s, z⟩]) hown6)
      have S6 := hid ((C41.out.sv.later (aB w41 _)).same (lo' := w.heap.size + 1) (by omega) (keeps_grown hgrow6 (fun k hk => by rw [ob] at hk; injection hk with hk; omega)))
      clear hown6 hgrow6 hat6 hlt6
      refine hK.out _ _ (fun e => absurd e (waitsN (by kernel_rfl))) ?_
      try simp only [Act.put, zp]
      refine wpAnyD_ready (rs := [11]) (by kernel_rfl) (by simp) ?_
      refine AllReadyD.cons rfl (fun K hK => ?_) AllReadyD.nil
      rw [if_pos (by rfl)]
      simp only [zq]
      go_wp2_with fail
      refine hK.out _ _ (fun e => absurd e (waitsN (by kernel_rfl))) ?_
      try simp only [Act.put, zp]
      refine wpAnyD_ready (rs := [12]) (by kernel_rfl) (by simp) ?_
      refine AllReadyD.cons rfl (fun K hK => ?_) AllReadyD.nil
      rw [if_pos (by rfl)]
      simp only [zq]
      have q1 := P6.out.c0
      have q1a := q1.1
      have q1f := q1.2
      go_wp2_with fail
      refine hK.out _ _ (fun e => absurd e (waitsN (by kernel_rfl))) ?_
      try simp only [Act.put, zp]
      refine wpAnyD_done (by kernel_rfl) ?_ _
      have P7 : Hid (PvS B a len cap b w w.heap.size n (.slice (some ⟨g, 0, Option.none⟩) 3 c6) (.slice fa (slen F) fc) (w6.setCell ⟨n, 0, Option.none⟩ (.slice (some ⟨g, 0, Option.none⟩) 3 c6))) := hid (P6.out.setA _)
      have KK : Hid (Kp (w.heap.size + 1) w6 (w6.setCell ⟨n, 0, Option.none⟩ (.slice (some ⟨g, 0, Option.none⟩) 3 c6))) := hid (kp_set _ (by omega) q1a (ns_slice _ _ _))
      have hz7 : w6.heap.size ≤ (w6.setCell ⟨n, 0, Option.none⟩ (.slice (some ⟨g, 0, Option.none⟩) 3 c6)).heap.size := by rw [show w6.setCell ⟨n, 0, Option.none⟩ (.slice (some ⟨g, 0, Option.none⟩) 3 c6) = w6.setCells n 0 [.slice (some ⟨g, 0, Option.none⟩) 3 c6] from rfl, size_sets]; exact Nat.le_refl _
      have A7 := hid (A6.out.spare (Nat.le_refl _) KK.out hz7)
      have S7 := hid (S6.out.spare (Nat.le_refl _) KK.out)
      have M7 : Hid (∀ t ∈ [(⟨⟨#[97]⟩, 8⟩ : AR), ⟨⟨#[98]⟩, 6⟩, ⟨s, z⟩], t.s.size ≤ 3) := hid (by intro t ht; simp only [List.mem_cons, List.not_mem_nil, or_false] at ht; rcases ht with rfl | rfl | rfl; decide; decide; exact hs3)
      clear q1 q1a q1f hz7
      go_wp2_with (first | (refine wpList_load_mid rfl 27 _ rfl n 0 rfl _ _ P7.out.rg Tryz.underlying27 rfl sizePg ?_) | (refine sA rfl 27 _ _ rfl w.heap.size 0 #[.slice (some ⟨g, 0, Option.none⟩) 3 c6, .slice fa (slen F) fc] rfl rfl P7.out.tN sizePg (oneP2 _ _ _ _ _ _) ?_; intro W hW))
      have HW := P7.out.close (ts := [⟨⟨#[97]⟩, 8⟩, ⟨⟨#[98]⟩, 6⟩, ⟨s, z⟩]) (lim := limP) hW A7.out S7.out (by simp) M7.out (by have := HS1.out; unfold limP; omega)
      have hlv := run_loadVar_mid W w.heap.size 0 _ _ _ HW.2 Tryz.underlying27 rfl sizePg
      refine bodyPost_ret (v := .agg #[.slice (some ⟨g, 0, Option.none⟩) 3 c6, .slice fa (slen F) fc]) ?_ rfl HW.1
      simp [results, Tryz.results29, asAddr, hlv, Act.put]
      try rfl
  by_cases h1 : x = 1
  · subst h1
    have q0 := P2.out.c0
    have q0' := q0.1
    have q0f := q0.2
    have P3 : Hid (PvS B a len cap b w w.heap.size n (.slice (some ⟨w.heap.size + 1, 0, Option.none⟩) 1 2) (.slice fa (slen F) fc) (w2.setCell ⟨n, 0, Option.none⟩ (.slice (some ⟨w.heap.size + 1, 0, Option.none⟩) 1 2))) := hid (P2.out.setA _)
    have KK : Hid (Kp (w.heap.size + 1) w2 (w2.setCell ⟨n, 0, Option.none⟩ (.slice (some ⟨w.heap.size + 1, 0, Option.none⟩) 1 2))) := hid (kp_set _ (by omega) q0' (ns_slice _ _ _))
    have hz3 : w2.heap.size ≤ (w2.setCell ⟨n, 0, Option.none⟩ (.slice (some ⟨w.heap.size + 1, 0, Option.none⟩) 1 2)).heap.size := by rw [show (w2.setCell ⟨n, 0, Option.none⟩ (.slice (some ⟨w.heap.size + 1, 0, Option.none⟩) 1 2)) = w2.setCells n 0 [.slice (some ⟨w.heap.size + 1, 0, Option.none⟩) 1 2] from rfl, size_sets]; exact Nat.le_refl _
    have A3 := hid ((AV.one RA.out).spare (Nat.le_refl _) KK.out hz3)
    have S3 := hid ((SO2.out.sv.lower (Nat.le_succ _)).spare (Nat.le_refl _) KK.out)
    clear q0 hz3
    go_wp2_with (first | (refine wpList_load_mid rfl 27 _ rfl n 0 rfl _ _ P3.out.rg Tryz.underlying27 rfl sizePg ?_) | (refine sA rfl 27 _ _ rfl w.heap.size 0 #[.slice (some ⟨w.heap.size + 1, 0, Option.none⟩) 1 2, .slice fa (slen F) fc] rfl rfl P3.out.tN sizePg (oneP2 _ _ _ _ _ _) ?_; intro W hW))
    have HW := P3.out.close (ts := [⟨⟨#[97]⟩, 8⟩]) (lim := limP) hW A3.out S3.out (by simp) (by intro t ht; simp only [List.mem_cons, List.not_mem_nil, or_false] at ht; subst ht; decide) (by have := HS1.out; unfold limP; omega)
    have hlv := run_loadVar_mid W w.heap.size 0 _ _ _ HW.2 Tryz.underlying27 rfl sizePg
    refine bodyPost_ret (v := .agg #[.slice (some ⟨w.heap.size + 1, 0, Option.none⟩) 1 2, .slice fa (slen F) fc]) ?_ rfl HW.1
    simp [results, Tryz.results29, asAddr, hlv, Act.put]
    try rfl
  by_cases h2 : x = 2
  · subst h2
    obtain ⟨i0, hi, hz0, hz1, hz2⟩ := info_parts infoIS2
    have HI := hid (And.intro hi (And.intro hz0 (And.intro hz1 hz2)))
    clear hi hz0 hz1 hz2
    go_wp2_with fail
    refine region_drew (by kernel_rfl) (fun wd hwd => ?_)
    have bd : Below w2.heap.size w2 wd := by rw [hwd]; exact (Below.refl _ w2).drew
    clear hwd
    have Pd := hid (P2.out.later bd)
    have hwd2 := bd.size
    have STd : Hid (∃ xs, Sts B a len cap b ((w.alloc (.cells #[nilS, nilS] 27)).alloc (.cells #[.string ⟨#[97]⟩, .int .i64 8, .string ⟨#[98]⟩, .int .i64 6] 82)) (w.heap.size + 2) F xs (.slice fa (slen F) fc) wd) := hid (by
      obtain ⟨xs, h1, h2⟩ := SO2.out.wr (b := b) (.of_below bd) (by omega)
      exact ⟨xs, h1, h2, Pd.out.dw, WA2.out.trans (.of_below bd), by simp, by omega⟩)
    have RAd := hid (rangeAt_later RA.out bd)
    clear bd
    refine wpAny_take (i := 0) (v := .pointer (some ⟨n, 1, Option.none⟩)) rfl (by kernel_rfl) (by kernel_rfl) (by kernel_rfl) (fun _ _ _ => id) (Or.inl ⟨by rfl, ?b0⟩) ?_
    case b0 => intro w; go_simp
    simp only [Act.put, zp]
    refine wpAny_take (i := 2) (v := .pointer (some ⟨b, 0, Option.none⟩)) rfl (by kernel_rfl) (by kernel_rfl) (by kernel_rfl) (fun _ _ _ => id) (Or.inl ⟨by rfl, ?b2⟩) ?_
    case b2 => intro w; go_simp
    simp only [Act.put, zp]
    refine wpAny_till (i := 1) (v := .slice fa (slen F) fc) (fun w' => w'.cell? ⟨n, 1, Option.none⟩ = some (.slice fa (slen F) fc)) rfl (by kernel_rfl) (by kernel_rfl) (by kernel_rfl) (fun _ _ _ => id) (Or.inl ⟨by rfl, ?b1⟩) Pd.out.c1.1 (fun hHeld => ?_)
    case b1 => intro w hSw; go_simp
    simp only [Act.put, zp]
    refine wpAnyD_ready (rs := [3]) (by kernel_rfl) (by simp) ?_
    refine AllReadyD.cons rfl (fun K hK => ?_) AllReadyD.nil
    rw [if_pos (by rfl)]
    simp only [zq]
    go_wp2_with fail
    refine (l3AnyStmt_is B a len cap b _ Pd.out.dw).mono ?_
    rintro e w3 ⟨h, l, v1, v2, v3, v4, v, hret, g3, g3', s3, d3, wr3⟩
    obtain ⟨va, vc, rfl⟩ := g3'.shape
    obtain ⟨a1, e1, rfl⟩ := g3.e1.shape
    obtain ⟨a2, e2, rfl⟩ := g3.e2.shape
    obtain ⟨a3, e3, rfl⟩ := g3.e3.shape
    obtain ⟨a4, e4, rfl⟩ := g3.e4.shape
    obtain rfl : e = .returned (sagg h (.slice a1 (elen h.x1.l) e1) (.slice a2 (elen h.x2.l) e2) (.slice a3 (elen h.x3.l) e3) (.slice a4 (elen h.x4.l) e4) (.slice va (slen l) vc)) := hret
    have P3 := hid (Pd.out.step wr3 d3)
    have HE := hid (And.intro g3 g3')
    obtain ⟨xs, hst⟩ := STd.out
    have ST3 := hid (hst.step wr3 d3)
    have R3 := hid (range_wr RAd.out wr3 (by omega))
    have hgl := hst.glt
    have hw3 := wr3.size
    have hsl : slen F ≤ 3000 := by have h1 := ssize_bulk F; have h2 := HS1.out; have h3 : 4 * (limS 2 + 1) ≤ 3000 := (by decide); omega
    clear g3 g3' hst d3 wr3 STd
    go_wp2_with fail
    refine hK.out _ _ (fun _ => P3.out.c1.1) ?_
    try simp only [Act.put, zp]
    refine wpAnyD_ready (rs := [4]) (by kernel_rfl) (by simp) ?_
    refine AllReadyD.cons rfl (fun K hK => ?_) AllReadyD.nil
    rw [if_pos (by rfl)]
    simp only [zq]
    go_wp2_with fail
    refine hK.out _ _ (fun _ => keeps (aB _ _) P3.out.c1.1) ?_
    try simp only [Act.put, zp]
    refine wpAnyD_ready (rs := [5]) (by kernel_rfl) (by simp) ?_
    refine AllReadyD.cons rfl (fun K hK => ?_) AllReadyD.nil
    rw [if_pos (by rfl)]
    simp only [zq]
    refine wp_append_lies _ _ _ 25 (by rfl) (w.heap.size + 2) 98 i0 _ 19 272 Tryz.underlying25 HI.out.1 HI.out.2.1 HI.out.2.2.1 HI.out.2.2.2 rfl (by decide) _ _ _ (by rfl) (ST3.out.own.alloc _) ⟨w3.heap.size, 0, Option.none⟩ 1 1 [.int .i64 h.k, .string h.s, .int .i64 h.x1.h.k, .int .i64 h.x1.h.n, .string h.x1.h.s, (.slice a1 (elen h.x1.l) e1), .int .i64 h.x2.h.k, .int .i64 h.x2.h.n, .string h.x2.h.s, (.slice a2 (elen h.x2.l) e2), .int .i64 h.x3.h.k, .int .i64 h.x3.h.n, .string h.x3.h.s, (.slice a3 (elen h.x3.l) e3), .int .i64 h.x4.h.k, .int .i64 h.x4.h.n, .string h.x4.h.s, (.slice a4 (elen h.x4.l) e4), (.slice va (slen l) vc)] (by rfl) (by rfl) ?k1 ?k2 (by decide) ?k3 ?k4 ?k5 (w3.heap.size + 1) (by simp) ?_
    case k1 => exact newsN _ _ _
    case k2 => exact ones19 HE.out.1 HE.out.2
    case k3 => unfold maxLen; omega
    case k4 => omega
    case k5 => simp; omega
    intro g c6 w6 hown6 hgrow6 hat6 hlt6
    have hownB : ∀ k, (Value.slice fa (slen F) fc).ownBlock = some k → w.heap.size + 2 ≤ k ∧ k < n := fun k hk => ⟨(ST3.out.own.lt k hk).1, by have := GN.out; simp only [gOf, hk, Option.getD_some] at this; exact this⟩
    have ST6 := hid (ST3.out.next (p := 0) (q := 0) (wr := wd) hgl (by omega) HE.out.1 HE.out.2 hown6 hgrow6 (by rcases hat6 with e | e; exact .inl e; exact .inr (by omega)))
    have P6 := hid (P3.out.grow _ hgrow6 (fun e => by have := (hownB _ e).2; omega) (fun k hk => by have := (hownB k hk).1; omega))
    have R6 := hid (range_grown (rangeAt_later R3.out (aB w3 _)) hgrow6 (fun e => by have := (hownB _ e).1; omega))
    clear hown6 hgrow6 hat6 hlt6 hownB
    refine hK.out _ _ (fun e => absurd e (waitsN (by kernel_rfl))) ?_
    try simp only [Act.put, zp]
    refine wpAnyD_ready (rs := [6]) (by kernel_rfl) (by simp) ?_
    refine AllReadyD.cons rfl (fun K hK => ?_) AllReadyD.nil
    rw [if_pos (by rfl)]
    simp only [zq]
    go_wp2_with fail
    refine hK.out _ _ (fun e => absurd e (waitsN (by kernel_rfl))) ?_
    try simp only [Act.put, zp]
    refine wpAnyD_ready (rs := [7]) (by kernel_rfl) (by simp) ?_
    refine AllReadyD.cons rfl (fun K hK => ?_) AllReadyD.nil
    rw [if_pos (by rfl)]
    simp only [zq]
    have q1 := P6.out.c1
    have q1a := q1.1
    have q1f := q1.2
    go_wp2_with fail
    refine hK.out _ _ (fun e => absurd e (waitsN (by kernel_rfl))) ?_
    try simp only [Act.put, zp]
    refine wpAnyD_done (by kernel_rfl) ?_ _
    have P7 : Hid (PvS B a len cap b w w.heap.size n (.slice (some ⟨w.heap.size + 1, 0, Option.none⟩) 2 2) (.slice (some ⟨g, 0, Option.none⟩) (slen F + 1) c6) (w6.setCell ⟨n, 1, Option.none⟩ (.slice (some ⟨g, 0, Option.none⟩) (slen F + 1) c6))) := hid (P6.out.setB _)
    have KK : Hid (Kp (w.heap.size + 1) w6 (w6.setCell ⟨n, 1, Option.none⟩ (.slice (some ⟨g, 0, Option.none⟩) (slen F + 1) c6))) := hid (kp_set _ (by omega) q1a (ns_slice _ _ _))
    have hz7 : w6.heap.size ≤ (w6.setCell ⟨n, 1, Option.none⟩ (.slice (some ⟨g, 0, Option.none⟩) (slen F + 1) c6)).heap.size := by rw [show w6.setCell ⟨n, 1, Option.none⟩ (.slice (some ⟨g, 0, Option.none⟩) (slen F + 1) c6) = w6.setCells n 1 [.slice (some ⟨g, 0, Option.none⟩) (slen F + 1) c6] from rfl, size_sets]; exact Nat.le_refl _
    have A7 := hid ((AV.two R6.out).spare (Nat.le_refl _) KK.out hz7)
    have S7 := hid ((ST6.out.so.sv.lower (Nat.le_succ _)).spare (Nat.le_refl _) KK.out)
    have L7 : Hid (ssize (sapp F (.node 0 0 h l .nil)) ≤ limP) := hid (by rw [ssize_app]; simp only [ssize]; have := HS1.out; unfold limP; omega)
    clear q1 q1a q1f hz7
    go_wp2_with (first | (refine wpList_load_mid rfl 27 _ rfl n 0 rfl _ _ P7.out.rg Tryz.underlying27 rfl sizePg ?_) | (refine sA rfl 27 _ _ rfl w.heap.size 0 #[.slice (some ⟨w.heap.size + 1, 0, Option.none⟩) 2 2, .slice (some ⟨g, 0, Option.none⟩) (slen F + 1) c6] rfl rfl P7.out.tN sizePg (oneP2 _ _ _ _ _ _) ?_; intro W hW))
    have HW := P7.out.close (ts := [⟨⟨#[97]⟩, 8⟩, ⟨⟨#[98]⟩, 6⟩]) (lim := limP) hW A7.out S7.out (by simp) (by intro t ht; simp only [List.mem_cons, List.not_mem_nil, or_false] at ht; rcases ht with rfl | rfl <;> decide) L7.out
    have hlv := run_loadVar_mid W w.heap.size 0 _ _ _ HW.2 Tryz.underlying27 rfl sizePg
    refine bodyPost_ret (v := .agg #[.slice (some ⟨w.heap.size + 1, 0, Option.none⟩) 2 2, .slice (some ⟨g, 0, Option.none⟩) (slen F + 1) c6]) ?_ rfl HW.1
    simp [results, Tryz.results29, asAddr, hlv, Act.put]
    try rfl
  have e0 := int_ne h0
  have e1 := int_ne h1
  have e2 := int_ne h2
  go_wp2_with (first | (refine wpList_load_mid rfl 27 _ rfl n 0 rfl _ _ P2.out.rg Tryz.underlying27 rfl sizePg ?_) | (refine sA rfl 27 _ _ rfl w.heap.size 0 #[.slice (some ⟨w.heap.size + 1, 0, Option.none⟩) 2 2, .slice fa (slen F) fc] rfl rfl P2.out.tN sizePg (oneP2 _ _ _ _ _ _) ?_; intro W hW))
  have HW := P2.out.close (ts := [⟨⟨#[97]⟩, 8⟩, ⟨⟨#[98]⟩, 6⟩]) (lim := limP) hW (AV.two RA.out) (SO2.out.sv.lower (Nat.le_succ _)) (by simp) (by intro t ht; simp only [List.mem_cons, List.not_mem_nil, or_false] at ht; rcases ht with rfl | rfl <;> decide) (by have := HS1.out; unfold limP; omega)
  have hlv := run_loadVar_mid W w.heap.size 0 _ _ _ HW.2 Tryz.underlying27 rfl sizePg
  refine bodyPost_ret (v := .agg #[.slice (some ⟨w.heap.size + 1, 0, Option.none⟩) 2 2, .slice fa (slen F) fc]) ?_ rfl HW.1
  simp [results, Tryz.results29, asAddr, hlv, Act.put]
  try rfl
theorem Wr.belowLo {b B : Nat} {w w' : World} (h : Wr b w w') (hB : B ≤ b) (hs : B ≤ w.heap.size) : Below B w w' := ⟨h.os, h.tape, h.output, h.size, fun k hk => h.block k (by omega) (by omega)⟩
end Go.Proofs.YtpinockfakndlaaGreat
namespace Go.Proofs.YtpinockfakndlaaGreat
open Go.Lib Go.RowKit
set_option linter.unusedSimpArgs false
set_option linter.unusedVariables false
theorem head_append {a : List UInt8} (b : List UInt8) (h : a ≠ []) : (a ++ b).head? = a.head? := by
  cases a with
  | nil => exact absurd rfl h
  | cons _ _ => rfl
theorem decFrom_append : ∀ (a b : List UInt8) (acc : Nat), decFrom acc (a ++ b) = (decFrom acc a).bind fun n => decFrom n b
  | [], b, acc => by simp [decFrom]
  | c :: r, b, acc => by
    simp only [List.cons_append, decFrom]
    cases digitVal c with
    | none => simp
    | some d => simpa using decFrom_append r b _
theorem digitVal_of (d : Nat) (h : d < 10) : digitVal (UInt8.ofNat (48 + d)) = some d := by
  have : (UInt8.ofNat (48 + d)).toNat = 48 + d := by simp; omega
  unfold digitVal
  rw [if_pos (by omega), this]
  simp
theorem byte_of_digit {b : UInt8} {d : Nat} (h : digitVal b = some d) : b = UInt8.ofNat (48 + d) ∧ d < 10 := by
  obtain ⟨h1, h2, h3⟩ := digitVal_eq h
  refine ⟨?_, by omega⟩
  apply UInt8.toNat_inj.1
  simp
  omega
theorem decFrom_decDigits (u : Nat) : decFrom 0 (decDigits u) = some u := by
  induction u using Nat.strongRecOn with
  | _ u ih =>
    by_cases h : u < 10
    · rw [decDigits, dif_pos h]
      simp only [decFrom, digitVal_of u h]
      simp
    · rw [decDigits, dif_neg h, decFrom_append, ih (u / 10) (by omega)]
      simp only [Option.bind_some, decFrom, digitVal_of (u % 10) (by omega)]
      simp
      omega
theorem decDigits_ne (u : Nat) : decDigits u ≠ [] := by
  rw [decDigits]
  split <;> simp
theorem decDigits_head (u : Nat) (h : 1 ≤ u) : (decDigits u).head? ≠ some 48 := by
  induction u using Nat.strongRecOn with
  | _ u ih =>
    by_cases h10 : u < 10
    · rw [decDigits, dif_pos h10]
      simp only [List.head?_cons]
      intro he
      have he := Option.some.inj he
      have : (UInt8.ofNat (48 + u)).toNat = 48 := by rw [he]; rfl
      simp at this
      omega
    · rw [decDigits, dif_neg h10, head_append _ (decDigits_ne _)]
      exact ih _ (by omega) (by omega)
theorem nDigits_le10 (u : Nat) (h : u < 10000000000) : nDigits u ≤ 10 := by
  have step : ∀ k v, v < 10 ^ k → 1 ≤ k → nDigits v ≤ k := by
    intro k
    induction k with
    | zero => intro v _ h; omega
    | succ k ih =>
      intro v hv _
      rw [nDigits]
      split
      · omega
      · rename_i h10
        have : v / 10 < 10 ^ k := by rw [Nat.pow_succ] at hv; omega
        have hk : 1 ≤ k := by
          rcases k with _ | k
          · simp at this; omega
          · omega
        have := ih _ this hk
        omega
  exact step 10 u (by simpa using h) (by omega)
theorem decDigits_of (l : List UInt8) : ∀ u, decFrom 0 l = some u → l ≠ [] → (l.length > 1 → l.head? ≠ some 48) → l = decDigits u := by
  induction hn : l.length generalizing l with
  | zero => intro u _ h; exact absurd (List.length_eq_zero_iff.1 hn) h
  | succ n ih =>
    intro u hu hne hh
    obtain ⟨r, b, rfl⟩ : ∃ r b, l = r ++ [b] := ⟨l.dropLast, l.getLast hne, (List.dropLast_concat_getLast hne).symm⟩
    rw [decFrom_append] at hu
    cases hr : decFrom 0 r with
    | none => simp [hr] at hu
    | some v =>
      simp only [hr, Option.bind_some, decFrom] at hu
      cases hb : digitVal b with
      | none => simp [hb] at hu
      | some d =>
        simp only [hb, Option.some.injEq] at hu
        obtain ⟨rfl, hd⟩ := byte_of_digit hb
        by_cases hre : r = []
        · subst hre
          simp [decFrom] at hr
          subst hr
          rw [decDigits, dif_pos (by omega)]
          simp at hu ⊢
          rw [hu]
        · have hlen : r.length = n := by simpa using hn
          have hr1 : 1 ≤ r.length := by cases r with | nil => exact absurd rfl hre | cons _ _ => simp
          have hhd : (r ++ [UInt8.ofNat (48 + d)]).head? = r.head? := head_append _ hre
          have h48 : r.head? ≠ some 48 := by rw [← hhd]; exact hh (by simp; omega)
          have er := ih r hlen v hr hre (fun _ => h48)
          have hv : 1 ≤ v := by
            rcases Nat.eq_zero_or_pos v with h0 | h0
            · subst h0
              rw [decDigits, dif_pos (by omega)] at er
              rw [er] at h48
              exact absurd rfl h48
            · exact h0
          rw [decDigits, dif_neg (by omega), er]
          congr 1
          · congr 1; omega
          · congr 2; omega
def parseNum (l : List UInt8) : Option Nat :=
  match decFrom 0 l with
  | some u => if u ≤ 2147483647 ∧ l = decDigits u then some u else none
  | none => none
theorem parseNum_some {l : List UInt8} {u : Nat} : parseNum l = some u ↔ u ≤ 2147483647 ∧ l = decDigits u := by
  unfold parseNum
  constructor
  · intro h
    split at h
    · split at h
      · rename_i hx; injection h with h; subst h; exact hx
      · cases h
    · cases h
  · rintro ⟨h, rfl⟩
    simp [decFrom_decDigits, h]
theorem spec_some {l : List UInt8} {u : Nat} (h : decFrom 0 l = some u) (h1 : 1 ≤ l.length) (h3 : ¬ (1 < l.length ∧ l.head? = some 48)) (h4 : u ≤ 2147483647) : parseNum l = some u :=
  parseNum_some.2 ⟨h4, decDigits_of l u h (by intro e; simp [e] at h1) (fun hl hh => h3 ⟨hl, hh⟩)⟩
theorem spec_none_byte {l : List UInt8} (h : decFrom 0 l = none) : parseNum l = none := by simp [parseNum, h]
theorem spec_none_long {l : List UInt8} (h : 10 < l.length) : parseNum l = none := by
  cases hp : parseNum l with
  | none => rfl
  | some u =>
    obtain ⟨h1, rfl⟩ := parseNum_some.1 hp
    rw [decDigits_length] at h
    have := nDigits_le10 u (by omega)
    omega
theorem spec_none_nil : parseNum [] = none := by
  cases hp : parseNum [] with
  | none => rfl
  | some u => exact absurd (parseNum_some.1 hp).2.symm (decDigits_ne u)
theorem spec_none_nought {l : List UInt8} (h : 1 < l.length) (hh : l.head? = some 48) : parseNum l = none := by
  cases hp : parseNum l with
  | none => rfl
  | some u =>
    obtain ⟨h1, rfl⟩ := parseNum_some.1 hp
    rcases Nat.eq_zero_or_pos u with h0 | h0
    · subst h0
      rw [decDigits, dif_pos (by omega)] at h
      simp at h
    · exact absurd hh (decDigits_head u h0)
theorem spec_none_great {l : List UInt8} {u : Nat} (h : decFrom 0 l = some u) (h4 : 2147483647 < u) : parseNum l = none := by
  unfold parseNum
  rw [h]
  simp only
  rw [if_neg (by omega)]
end Go.Proofs.YtpinockfakndlaaGreat
