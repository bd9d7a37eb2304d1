/-
  The walk of laws.FnDigits.
-/
import Derived.Test.YtmbilbflbnnpeaaDoorNumEnv
import Derived.Test.YtmbilbflbnnpeaaDoorCurStr
namespace Go.Proofs.YtmbilbflbnnpeaaDoor
open Go.RowKit Go.Joins Go.Lib

def texts : List (List UInt8) := [[], [48, 48], [48, 49], [120], [45, 49], [50, 49, 52, 55, 52, 56, 51, 54, 52, 55], [50, 49, 52, 55, 52, 56, 51, 54, 52, 56], [57, 57, 57, 57, 57, 57, 57, 57, 57, 57, 57], [49, 32]]
def Small (s : ByteArray) : Prop := s.size ≤ 281474976710656
theorem texts_in (j : Nat) (h : j < 9) : ∃ z, texts[j]? = some z ∧ z.length ≤ 11 := by
  have key : ∀ j : Fin 9, (match texts[j.val]? with | some z => decide (z.length ≤ 11) | none => false) = true := by decide +kernel
  have hk := key ⟨j, h⟩
  cases hz : texts[j]? with
  | none => simp [hz] at hk
  | some z => simp [hz] at hk; exact ⟨z, rfl, hk⟩
theorem texts_cell (w : World) (j : Nat) (h : j < 9) : ∃ z : ByteArray, (w.alloc (.cells (texts.map fun t => Value.string ⟨t.toArray⟩).toArray 9)).cell? ⟨w.heap.size, j, none⟩ = some (.string z) ∧ Small z := by
  obtain ⟨z, hz, hq⟩ := texts_in j h
  refine ⟨⟨z.toArray⟩, ?_, ?_⟩
  · rw [World.cell?_alloc_new]
    simp [hz]
  · show z.toArray.size ≤ _
    simp
    omega

theorem DrawNumText (a : Option Addr) (len cap : Nat) (w : World) (hlen : len ≤ 281474976710656) (hC : CodeIs w.heap.size w a len) :
    Calls Tryd.prog 10 #[.slice a len cap] w fun e w' => ∃ x : Int, e = .returned (.int .i64 x) ∧ In64 x ∧ Below w.heap.size w w' := by
  go_enter Tryd.func10, Tryd.ntmps10
  go_wp2_with fail
  refine (l1New w.heap.size a len cap _ hlen hC).mono ?_
  rintro e w1 ⟨rfl, hc1, hb1⟩
  go_wp2_with fail
  refine (l1Word w.heap.size a len cap w.heap.size _ hlen (Nat.le_refl _) (hC.later hb1) hc1).mono ?_
  rintro e w2 ⟨x, rfl, hx, hc2, hb2⟩
  go_wp2
  go_ret
  exact ⟨x, rfl, hx, hb1.trans hb2⟩
theorem DrawParseNum (a : Option Addr) (len cap : Nat) (w : World) (hlen : len ≤ 281474976710656) (hC : CodeIs w.heap.size w a len) :
    Calls Tryd.prog 8 #[.slice a len cap] w fun e w' => ∃ x : ByteArray, e = .returned (.string x) ∧ Small x ∧ Below w.heap.size w w' := by
  go_enter Tryd.func8, Tryd.ntmps8
  go_wp2_with fail
  refine (l1New w.heap.size a len cap _ hlen hC).mono ?_
  rintro e w1 ⟨rfl, hc1, hb1⟩
  go_wp2_with fail
  refine (l1Once w.heap.size a len cap w.heap.size _ _ hlen (Nat.le_refl _) (hC.later hb1) hc1 (by omega)).mono ?_
  rintro e w2 ⟨x, rfl, hc2, ht2⟩
  have hb2 := hb1.trans (ht2.below (Nat.le_refl _))
  cases x
  · go_wp2_with fail
    refine (l1Below w.heap.size a len cap w.heap.size _ _ hlen (Nat.le_refl _) (hC.later hb2) hc2 (by omega)).mono ?_
    rintro e w3 ⟨x, rfl, x0, x1, hc3, ht3⟩
    have hb3 := hb2.trans (ht3.below (Nat.le_refl _))
    go_wp2_with fail
    refine (spec_NumText x (by omega) (by omega) _).mono ?_
    rintro e w4 ⟨rfl, hb4⟩
    go_wp2
    go_ret
    refine ⟨_, rfl, ?_, hb3.trans (hb4.mono hb3.size)⟩
    show (itoa x).toArray.size ≤ _
    have := itoa_length_le x (by omega) (by omega)
    simp
    omega
  · have hlt := hc2.lt
    go_wp2_with fail
    refine (l1Str w.heap.size a len cap w.heap.size w2.heap.size 9 9 Small _ hlen (Nat.le_refl _) ((hC.later hb2).later ((Below.refl _ _).alloc (by omega) _)) (hc2.later (Below.heap_alloc _ _ _ hlt)) (by omega) (by omega) (by omega) (fun j hj => texts_cell w2 j hj)).mono ?_
    rintro e w3 ⟨x, rfl, hx, hc3, ht3⟩
    go_wp2
    go_ret
    exact ⟨x, rfl, hx, (hb2.trans ((Below.refl _ _).alloc (by omega) _)).trans (ht3.below (Nat.le_refl _))⟩

theorem parse_itoa (n : Nat) (h : n ≤ 2147483647) : parseNum (itoa (n : Int)) = some n := parseNum_some.2 ⟨h, itoa_nonneg n⟩
theorem itoa_back {s : ByteArray} {u : Nat} (h : parseNum s.data.toList = some u) : (itoa (u : Int) == s.toList) = true := by
  rw [ByteArray.toList_eq, (parseNum_some.1 h).2, itoa_nonneg]; simp

set_option maxRecDepth 100000 in
set_option maxHeartbeats 1000000 in
theorem digits_walk (a : Option Addr) (len cap : Nat) (w : World) (hC : CodeIs w.heap.size w a len) (hE : Env w) :
    Calls Tryd.prog 3 #[.slice a len cap] w fun e w' => e = .returned (.bool true) ∧ Below w.heap.size w w' := by
  by_cases hbig : (1048576 : Int) < (len : Int)
  · go_enter Tryd.func3, Tryd.ntmps3
    go_wp2_with (go_at_call 4; refine (big_is a len cap _).mono ?_; rw [decide_eq_true hbig]; rintro e w' ⟨rfl, rfl⟩)
    go_ret
    exact ⟨rfl, Below.refl _ _⟩
  have hlen1 : len ≤ 1048576 := by omega
  have hlen : len ≤ 281474976710656 := by omega
  clear hbig
  go_enter Tryd.func3, Tryd.ntmps3
  go_wp2_with (go_at_call 4; refine (big_is a len cap _).mono ?_; rw [decide_eq_false (by omega)]; rintro e w' ⟨rfl, rfl⟩)
  refine (at_is w.heap.size a len cap 2 _ hlen1 (by omega) hC).mono ?_
  rintro e w' ⟨x, rfl, x0, x1, rfl⟩
  go_wp2_with fail
  refine (at_is w.heap.size a len cap 3 _ hlen1 (by omega) hC).mono ?_
  rintro e w' ⟨y, rfl, y0, y1, rfl⟩
  go_wp2_with fail
  refine (at_is w.heap.size a len cap 4 _ hlen1 (by omega) hC).mono ?_
  rintro e w' ⟨z, rfl, z0, z1, rfl⟩
  go_wp2_with fail
  obtain ⟨n, hn, hn1⟩ : ∃ n : Nat, (x * 256 + y) * 256 + z = (n : Int) ∧ n ≤ 16777215 := ⟨((x * 256 + y) * 256 + z).toNat, by omega, by omega⟩
  rw [hn]
  clear hn x0 x1 y0 y1 z0 z1
  refine (NumText_is (n : Int) (by omega) (by omega) _ hE).mono ?_
  rintro e w1 ⟨rfl, hb1, hE1⟩
  go_wp2_with fail
  have hp : Hid (parseNum (itoa (n : Int)) = some n) := parse_itoa n (by omega)
  refine (ParseNum_is _ (by show (itoa (n : Int)).toArray.size ≤ _; have := itoa_length_le (n : Int) (by omega) (by omega); simp; omega) (n : Int) true (by rw [hp.out]; rfl) (by rw [hp.out]; rfl) _ hE1).mono ?_
  rintro e w2 ⟨rfl, hb2, hE2⟩
  have hB2 := hb1.trans (hb2.mono hb1.size)
  clear hb1 hb2 hE1 hp
  go_wp2_with fail
  refine (DrawParseNum a len cap _ hlen ((hC.later hB2).mono hB2.size)).mono ?_
  rintro e w3 ⟨s, rfl, hs, hb3⟩
  have hE3 := hE2.later hb3 (Nat.le_refl _)
  have hB3 := hB2.trans (hb3.mono hB2.size)
  clear hb3 hB2 hE2
  obtain ⟨u, b, hu, hbb, hut⟩ : ∃ (u : Int) (b : Bool), Hid ((((parseNum s.data.toList).getD 0 : Nat) : Int) = u) ∧ Hid ((parseNum s.data.toList).isSome = b) ∧ Hid (b = true → (itoa u == s.toList) = true ∧ 0 ≤ u ∧ u ≤ 2147483647) :=
    ⟨_, _, rfl, rfl, fun h => by
      obtain ⟨m, hm⟩ := Option.isSome_iff_exists.1 h
      have := (parseNum_some.1 hm).1
      rw [hm]
      exact ⟨itoa_back hm, by simp, by simp; omega⟩⟩
  go_wp2_with fail
  refine (ParseNum_is s hs u b hu.out hbb.out _ hE3).mono ?_
  rintro e w4 ⟨rfl, hb4, hE4⟩
  have hB4 := hB3.trans (hb4.mono hB3.size)
  clear hb4 hB3 hE3
  go_wp2_with fail
  refine (spec_ParseNum_is s hs u b hu.out hbb.out _).mono ?_
  rintro e w' ⟨rfl, rfl⟩
  go_wp2_with fail
  refine (DrawNumText a len cap _ hlen ((hC.later hB4).mono hB4.size)).mono ?_
  rintro e w5 ⟨k, rfl, hk, hb5⟩
  have hE5 := hE4.later hb5 (Nat.le_refl _)
  have hB5 := hB4.trans (hb5.mono hB4.size)
  have hk0 := hk.1
  have hk1 := hk.2
  clear hb5 hB4 hE4 hC hu hbb hk
  cases b
  · go_wp2_with fail
    refine (NumText_is k hk0 hk1 _ hE5).mono ?_
    rintro e w6 ⟨rfl, hb6, hE6⟩
    go_wp2_with fail
    refine (spec_NumText k hk0 hk1 _).mono ?_
    rintro e w7 ⟨rfl, hb7⟩
    go_wp2
    go_ret
    exact ⟨rfl, (hB5.trans (hb6.mono hB5.size)).trans (hb7.mono (hB5.trans (hb6.mono hB5.size)).size)⟩
  · obtain ⟨ht, u0, u1⟩ := hut.out rfl
    clear hut
    go_wp2_with fail
    refine (NumText_is u (by omega) (by omega) _ hE5).mono ?_
    rintro e w6 ⟨rfl, hb6, hE6⟩
    have hB6 := hB5.trans (hb6.mono hB5.size)
    clear hb6 hB5 hE5
    go_wp2_with fail
    refine (NumText_is k hk0 hk1 _ hE6).mono ?_
    rintro e w7 ⟨rfl, hb7, hE7⟩
    have hB7 := hB6.trans (hb7.mono hB6.size)
    clear hb7 hB6 hE6
    go_wp2_with fail
    refine (spec_NumText k hk0 hk1 _).mono ?_
    rintro e w8 ⟨rfl, hb8⟩
    go_wp2
    go_ret
    exact ⟨rfl, hB7.trans (hb8.mono hB7.size)⟩
end Go.Proofs.YtmbilbflbnnpeaaDoor
