import Derived.Test.YtpinockfakndlaaGreatP12ofFnEvals
import Derived.Test.YtpinockfakndlaaGreatP16ofFnEvals
namespace Go.Proofs.YtpinockfakndlaaGreat
open Go.RowKit Go.Lib
set_option maxRecDepth 100000
set_option maxHeartbeats 4000000
set_option linter.unusedSimpArgs false
set_option linter.unusedVariables false
theorem l2Digit_is (b : UInt8) (v : Bool) (hv : decide (kind b = 2) = v) (w : World) : Calls Tryz.prog 155 #[.int .u8 (b.toNat : Int)] w fun e w' => e = .returned (.bool v) ∧ w = w' := by
  have Hv : Hid ((decide ((48 : Int) ≤ (b.toNat : Int)) && decide ((b.toNat : Int) ≤ 57)) = v) := show (decide ((48 : Int) ≤ (b.toNat : Int)) && decide ((b.toNat : Int) ≤ 57)) = v by
    subst hv
    by_cases h : kind b = 2
    · have := (kind2_iff b).1 h
      rw [decide_eq_true h, decide_eq_true (by omega), decide_eq_true (by omega)]; rfl
    · have : ¬ (48 ≤ b.toNat ∧ b.toNat ≤ 57) := fun x => h ((kind2_iff b).2 x)
      rw [decide_eq_false h]
      rcases Nat.lt_or_ge b.toNat 48 with h1 | h1
      · rw [decide_eq_false (by omega : ¬ (48 : Int) ≤ (b.toNat : Int))]; rfl
      · rw [decide_eq_false (by omega : ¬ (b.toNat : Int) ≤ 57), Bool.and_false]
  have hc2 : (b.toNat : Int) ≤ 255 := by have := b.toNat_lt; omega
  clear hv
  go_enter Tryz.func155, Tryz.ntmps155
  go_wp2_with fail
  refine (In_is (b.toNat : Int) 48 57 v Hv.out _).mono ?_
  rintro e w' ⟨rfl, rfl⟩
  go_wp2
  go_ret
  exact ⟨rfl, rfl⟩
def NextOut (l : List UInt8) (p k : Nat) (e : Ending) : Prop :=
  ∃ (a : Int) (s : ByteArray) (n : Int) (nx : Nat) (b : Bool), e = .returned (.tuple #[.agg #[.int .i64 a, .string s, .int .i64 n], .int .i64 (nx : Int)]) ∧ Nx l p nx k ∧ Res (tok k (piece l p nx)) a s n b
theorem idx_list (s : ByteArray) (j : Nat) (h : j < s.size) (hl : j < s.data.toList.length) : s.data.toList[j]'hl = s[j]'h := by rw [Array.getElem_toList]; rfl
def Run (s : ByteArray) (p k c : Nat) : Prop := p ≤ k ∧ k ≤ s.size ∧ ∀ j (h : j < s.size), p ≤ j → j < k → kind (s[j]'h) = c
theorem Run.next {s : ByteArray} {p k c : Nat} (h : Run s p k c) (hk : k < s.size) (hc : kind (s[k]'hk) = c) : Run s p (k + 1) c :=
  ⟨by have := h.1; omega, hk, fun j hj h1 h2 => by
    rcases Nat.lt_or_ge j k with h3 | h3
    · exact h.2.2 j hj h1 h3
    · have : j = k := by omega
      subst this; exact hc⟩
theorem Run.nx {s : ByteArray} {p k c : Nat} (h : Run s p k c) (hp : p < s.size) (hc : kind (s[p]'hp) = c) (hg : goes c = true) (hl : ∀ hk : k < s.size, kind (s[k]'hk) ≠ c) : Nx s.data.toList p k c := by
  have hlt : p < k := by
    rcases Nat.lt_or_ge p k with h1 | h1
    · exact h1
    · have : k = p := by have := h.1; omega
      subst this; exact absurd hc (hl hp)
  have hlen : s.data.toList.length = s.size := by simp
  refine ⟨hlt, by rw [hlen]; exact h.2.1, fun j hj h1 h2 => ?_, fun _ hk => ?_, fun h0 => by rw [hg] at h0; cases h0⟩
  · rw [idx_list s j (by omega) hj]; exact h.2.2 j _ h1 h2
  · rw [idx_list s k (by omega) hk]; exact hl _
theorem one_nx {s : ByteArray} {p : Nat} (hp : p < s.size) (hg : goes (kind (s[p]'hp)) = false) : Nx s.data.toList p (p + 1) (kind (s[p]'hp)) := by
  have hlen : s.data.toList.length = s.size := by simp
  refine ⟨by omega, by omega, fun j hj h1 h2 => ?_, (fun h => by rw [hg] at h; cases h), fun _ => rfl⟩
  have : j = p := by omega
  subst this; rw [idx_list s j hp hj]
theorem l2Next_letters (s : ByteArray) (p : Nat) (hp : p < s.size) (hlim : s.size ≤ 281474976710656) (hk : kind (s[p]'hp) = 1) (w : World) :
    Calls Tryz.prog 132 #[.string s, .int .i64 (p : Int)] w fun e w' => NextOut s.data.toList p 1 e ∧ Below w.heap.size w w' := by
  have Hk : Hid (kind (s[p]'hp) = 1) := hk
  have Hd : Hid (decide (kind (s[p]'hp) = 1) = true) := decide_eq_true hk
  have hpI : (p : Int) < (s.size : Int) := by omega
  clear hk
  go_enter Tryz.func132, Tryz.ntmps132
  go_wp2_with (go_at_call 148; refine (l2Small_is (s[p]'hp) true Hd.out _).mono ?_; rintro e w' ⟨rfl, rfl⟩)
  go_loop [6] (fun i => ∃ k : Nat, i = .int .i64 k ∧ Hid (Run s p k 1)) (fun i => s.size - (RowKit.intOf i).toNat)
  case atStart => exact ⟨p, rfl, Nat.le_refl _, by omega, fun j _ h1 h2 => absurd h1 (by omega)⟩
  case round =>
    obtain ⟨k, rfl, hr⟩ := hrel
    have hk1 := hr.out.1
    have hk2 := hr.out.2.1
    by_cases hmore : ∃ hks : k < s.size, kind (s[k]'hks) = 1
    · obtain ⟨hks, hkk⟩ := hmore
      have hn := hid (hr.out.next hks hkk)
      have Hkk : Hid (decide (kind (s[k]'hks) = 1) = true) := decide_eq_true hkk
      have hksI : (k : Int) < (s.size : Int) := by omega
      clear hkk
      go_wp2_with (go_at_call 148; refine (l2Small_is (s[k]'hks) true Hkk.out _).mono ?_; rintro e w' ⟨rfl, rfl⟩)
      go_round
      case rel => exact ⟨k + 1, by go_num, hn⟩
      case measure => simp [RowKit.intOf]; omega
    · have hX : Nx s.data.toList p k 1 := hr.out.nx hp Hk.out rfl (fun h e => hmore ⟨h, e⟩)
      have HX := hid hX
      have hlt := hX.lt
      have Hpc : Hid ((s.extract p k).data.toList = piece s.data.toList p k) := extract_piece s p k
      have hfI : (p : Int) ≤ (k : Int) := by omega
      have hkI : (k : Int) ≤ (s.size : Int) := by omega
      have hxs : (s.extract p k).size = k - p := by simp [ByteArray.size_extract]; omega
      have Hxs := hid hxs
      have Hall : Hid ((s.extract p k).data.toList.all (fun b => kind b == 1) = true) := show (s.extract p k).data.toList.all (fun b => kind b == 1) = true by
        rw [Hpc.out, List.all_eq_true]
        intro b hb
        obtain ⟨j, hj, h1, h2, e⟩ := piece_mem hb
        rw [← e, beq_iff_eq]; exact hX.all j hj h1 h2
      clear hX hxs
      by_cases hks : k < s.size
      · have Hkk : Hid (decide (kind (s[k]'hks) = 1) = false) := decide_eq_false (fun e => hmore ⟨hks, e⟩)
        have hksI : (k : Int) < (s.size : Int) := by omega
        clear hmore
        go_wp2_with (first | (go_at_call 148; refine (l2Small_is (s[k]'hks) false Hkk.out _).mono ?_; rintro e w' ⟨rfl, rfl⟩) | fail)
        cases hkp : keptL.contains (s.extract p k).data.toList with
        | true =>
          have Hkp := hid hkp
          have Ht : Hid (tok 1 (piece s.data.toList p k) = some ⟨3, (s.extract p k).data.toList, 0⟩) := show tok 1 (piece s.data.toList p k) = _ by
            rw [List.contains_iff_mem, Hpc.out] at hkp
            simp only [tok, if_true, if_pos hkp, Hpc.out]
          clear hkp
          refine (l2Kept_is _ true Hkp.out _).mono ?_
          rintro e w1 ⟨rfl, hb⟩
          obtain ⟨⟨c0, c1, c2⟩, f0, f1, f2⟩ := cell3 (zero3 hb)
          have hw := below3 hb
          clear hb
          go_wp2
          refine bodyPost_ret (v := .tuple #[.agg #[.int .i64 3, .string (s.extract p k), .int .i64 0], .int .i64 (k : Int)]) (by simp [results, Tryz.results132, go_sem, c0, c1, c2]) rfl ⟨⟨_, _, _, k, true, rfl, HX.out, ?_⟩, set3T hw _ _ _⟩
          rw [Ht.out]; exact ⟨rfl, (arr_eq _).symm, rfl, rfl⟩
        | false =>
          have Hkp := hid hkp
          have hm : ¬ piece s.data.toList p k ∈ keptL := by rw [← Hpc.out, ← List.contains_iff_mem, hkp]; simp
          by_cases h6 : k - p ≤ 6
          · have Ht : Hid (tok 1 (piece s.data.toList p k) = some ⟨1, (s.extract p k).data.toList, 0⟩) := show tok 1 (piece s.data.toList p k) = _ by
              have h6' : (piece s.data.toList p k).length ≤ 6 := by rw [← Hpc.out, Array.length_toList]; exact (show (s.extract p k).size ≤ 6 by rw [Hxs.out]; exact h6)
              simp only [tok, if_true, if_neg hm, if_pos h6', Hpc.out]
            have Hn : Hid (nameOk (s.extract p k).data.toList = true) := show nameOk (s.extract p k).data.toList = true by
              have e : (s.extract p k).data.toList.length = k - p := by rw [Array.length_toList]; exact Hxs.out
              rw [nameOk_eq, hkp, Hall.out, e, decide_eq_true (by omega), decide_eq_true h6]; rfl
            clear hkp hm h6
            refine (l2Kept_is _ false Hkp.out _).mono ?_
            rintro e w1 ⟨rfl, hb⟩
            have hz := zero3 hb
            have hw := below3 hb
            clear hb
            go_wp2_with fail
            refine (spec_NameOk _ true Hn.out (by rw [Hxs.out]; omega) _).mono ?_
            rintro e w2 ⟨rfl, hb2⟩
            obtain ⟨⟨c0, c1, c2⟩, f0, f1, f2⟩ := cell3 (below_keeps hb2 hz)
            have hw2 := hw.trans (hb2.mono hw.size)
            clear hb2 hw hz
            go_wp2
            refine bodyPost_ret (v := .tuple #[.agg #[.int .i64 1, .string (s.extract p k), .int .i64 0], .int .i64 (k : Int)]) (by simp [results, Tryz.results132, go_sem, c0, c1, c2]) rfl ⟨⟨_, _, _, k, true, rfl, HX.out, ?_⟩, set3T hw2 _ _ _⟩
            rw [Ht.out]; exact ⟨rfl, (arr_eq _).symm, rfl, rfl⟩
          · have Ht : Hid (tok 1 (piece s.data.toList p k) = Option.none) := show tok 1 (piece s.data.toList p k) = _ by
              have h6' : ¬ (piece s.data.toList p k).length ≤ 6 := by rw [← Hpc.out, Array.length_toList]; exact (show ¬ (s.extract p k).size ≤ 6 by rw [Hxs.out]; exact h6)
              simp only [tok, if_true, if_neg hm, if_neg h6']
            have Hn : Hid (nameOk (s.extract p k).data.toList = false) := show nameOk (s.extract p k).data.toList = false by
              have e : (s.extract p k).data.toList.length = k - p := by rw [Array.length_toList]; exact Hxs.out
              rw [nameOk_eq, e, decide_eq_false h6]; simp
            clear hkp hm h6
            refine (l2Kept_is _ false Hkp.out _).mono ?_
            rintro e w1 ⟨rfl, hb⟩
            have hz := zero3 hb
            have hw := below3 hb
            clear hb
            go_wp2_with fail
            refine (spec_NameOk _ false Hn.out (by rw [Hxs.out]; omega) _).mono ?_
            rintro e w2 ⟨rfl, hb2⟩
            obtain ⟨⟨c0, c1, c2⟩, f0, f1, f2⟩ := cell3 (below_keeps hb2 hz)
            have hw2 := hw.trans (hb2.mono hw.size)
            clear hb2 hw hz
            go_wp2
            refine bodyPost_ret (v := .tuple #[.agg #[.int .i64 0, .string ⟨#[]⟩, .int .i64 0], .int .i64 (k : Int)]) (by simp [results, Tryz.results132, go_sem, c0, c1, c2]) rfl ⟨⟨_, _, _, k, false, rfl, HX.out, ?_⟩, set3T hw2 _ _ _⟩
            rw [Ht.out]; exact ⟨rfl, rfl, rfl, rfl⟩
      · clear hmore
        go_wp2_with fail
        cases hkp : keptL.contains (s.extract p k).data.toList with
        | true =>
          have Hkp := hid hkp
          have Ht : Hid (tok 1 (piece s.data.toList p k) = some ⟨3, (s.extract p k).data.toList, 0⟩) := show tok 1 (piece s.data.toList p k) = _ by
            rw [List.contains_iff_mem, Hpc.out] at hkp
            simp only [tok, if_true, if_pos hkp, Hpc.out]
          clear hkp
          refine (l2Kept_is _ true Hkp.out _).mono ?_
          rintro e w1 ⟨rfl, hb⟩
          obtain ⟨⟨c0, c1, c2⟩, f0, f1, f2⟩ := cell3 (zero3 hb)
          have hw := below3 hb
          clear hb
          go_wp2
          refine bodyPost_ret (v := .tuple #[.agg #[.int .i64 3, .string (s.extract p k), .int .i64 0], .int .i64 (k : Int)]) (by simp [results, Tryz.results132, go_sem, c0, c1, c2]) rfl ⟨⟨_, _, _, k, true, rfl, HX.out, ?_⟩, set3T hw _ _ _⟩
          rw [Ht.out]; exact ⟨rfl, (arr_eq _).symm, rfl, rfl⟩
        | false =>
          have Hkp := hid hkp
          have hm : ¬ piece s.data.toList p k ∈ keptL := by rw [← Hpc.out, ← List.contains_iff_mem, hkp]; simp
          by_cases h6 : k - p ≤ 6
          · have Ht : Hid (tok 1 (piece s.data.toList p k) = some ⟨1, (s.extract p k).data.toList, 0⟩) := show tok 1 (piece s.data.toList p k) = _ by
              have h6' : (piece s.data.toList p k).length ≤ 6 := by rw [← Hpc.out, Array.length_toList]; exact (show (s.extract p k).size ≤ 6 by rw [Hxs.out]; exact h6)
              simp only [tok, if_true, if_neg hm, if_pos h6', Hpc.out]
            have Hn : Hid (nameOk (s.extract p k).data.toList = true) := show nameOk (s.extract p k).data.toList = true by
              have e : (s.extract p k).data.toList.length = k - p := by rw [Array.length_toList]; exact Hxs.out
              rw [nameOk_eq, hkp, Hall.out, e, decide_eq_true (by omega), decide_eq_true h6]; rfl
            clear hkp hm h6
            refine (l2Kept_is _ false Hkp.out _).mono ?_
            rintro e w1 ⟨rfl, hb⟩
            have hz := zero3 hb
            have hw := below3 hb
            clear hb
            go_wp2_with fail
            refine (spec_NameOk _ true Hn.out (by rw [Hxs.out]; omega) _).mono ?_
            rintro e w2 ⟨rfl, hb2⟩
            obtain ⟨⟨c0, c1, c2⟩, f0, f1, f2⟩ := cell3 (below_keeps hb2 hz)
            have hw2 := hw.trans (hb2.mono hw.size)
            clear hb2 hw hz
            go_wp2
            refine bodyPost_ret (v := .tuple #[.agg #[.int .i64 1, .string (s.extract p k), .int .i64 0], .int .i64 (k : Int)]) (by simp [results, Tryz.results132, go_sem, c0, c1, c2]) rfl ⟨⟨_, _, _, k, true, rfl, HX.out, ?_⟩, set3T hw2 _ _ _⟩
            rw [Ht.out]; exact ⟨rfl, (arr_eq _).symm, rfl, rfl⟩
          · have Ht : Hid (tok 1 (piece s.data.toList p k) = Option.none) := show tok 1 (piece s.data.toList p k) = _ by
              have h6' : ¬ (piece s.data.toList p k).length ≤ 6 := by rw [← Hpc.out, Array.length_toList]; exact (show ¬ (s.extract p k).size ≤ 6 by rw [Hxs.out]; exact h6)
              simp only [tok, if_true, if_neg hm, if_neg h6']
            have Hn : Hid (nameOk (s.extract p k).data.toList = false) := show nameOk (s.extract p k).data.toList = false by
              have e : (s.extract p k).data.toList.length = k - p := by rw [Array.length_toList]; exact Hxs.out
              rw [nameOk_eq, e, decide_eq_false h6]; simp
            clear hkp hm h6
            refine (l2Kept_is _ false Hkp.out _).mono ?_
            rintro e w1 ⟨rfl, hb⟩
            have hz := zero3 hb
            have hw := below3 hb
            clear hb
            go_wp2_with fail
            refine (spec_NameOk _ false Hn.out (by rw [Hxs.out]; omega) _).mono ?_
            rintro e w2 ⟨rfl, hb2⟩
            obtain ⟨⟨c0, c1, c2⟩, f0, f1, f2⟩ := cell3 (below_keeps hb2 hz)
            have hw2 := hw.trans (hb2.mono hw.size)
            clear hb2 hw hz
            go_wp2
            refine bodyPost_ret (v := .tuple #[.agg #[.int .i64 0, .string ⟨#[]⟩, .int .i64 0], .int .i64 (k : Int)]) (by simp [results, Tryz.results132, go_sem, c0, c1, c2]) rfl ⟨⟨_, _, _, k, false, rfl, HX.out, ?_⟩, set3T hw2 _ _ _⟩
            rw [Ht.out]; exact ⟨rfl, rfl, rfl, rfl⟩
theorem l2Next_digits (s : ByteArray) (p : Nat) (hp : p < s.size) (hlim : s.size ≤ 281474976710656) (hk : kind (s[p]'hp) = 2) (w : World) :
    Calls Tryz.prog 132 #[.string s, .int .i64 (p : Int)] w fun e w' => NextOut s.data.toList p 2 e ∧ Below w.heap.size w w' := by
  have Hk : Hid (kind (s[p]'hp) = 2) := hk
  have Hd1 : Hid (decide (kind (s[p]'hp) = 1) = false) := decide_eq_false (by omega)
  have Hd : Hid (decide (kind (s[p]'hp) = 2) = true) := decide_eq_true hk
  have hpI : (p : Int) < (s.size : Int) := by omega
  clear hk
  go_enter Tryz.func132, Tryz.ntmps132
  go_wp2_with (first | (go_at_call 148; refine (l2Small_is (s[p]'hp) false Hd1.out _).mono ?_; rintro e w' ⟨rfl, rfl⟩) | (go_at_call 155; refine (l2Digit_is (s[p]'hp) true Hd.out _).mono ?_; rintro e w' ⟨rfl, rfl⟩))
  go_loop [6] (fun i => ∃ k : Nat, i = .int .i64 k ∧ Hid (Run s p k 2)) (fun i => s.size - (RowKit.intOf i).toNat)
  case atStart => exact ⟨p, rfl, Nat.le_refl _, by omega, fun j _ h1 h2 => absurd h1 (by omega)⟩
  case round =>
    obtain ⟨k, rfl, hr⟩ := hrel
    have hk1 := hr.out.1
    have hk2 := hr.out.2.1
    by_cases hmore : ∃ hks : k < s.size, kind (s[k]'hks) = 2
    · obtain ⟨hks, hkk⟩ := hmore
      have hn := hid (hr.out.next hks hkk)
      have Hkk : Hid (decide (kind (s[k]'hks) = 2) = true) := decide_eq_true hkk
      have hksI : (k : Int) < (s.size : Int) := by omega
      clear hkk
      go_wp2_with (go_at_call 155; refine (l2Digit_is (s[k]'hks) true Hkk.out _).mono ?_; rintro e w' ⟨rfl, rfl⟩)
      go_round
      case rel => exact ⟨k + 1, by go_num, hn⟩
      case measure => simp [RowKit.intOf]; omega
    · have hX : Nx s.data.toList p k 2 := hr.out.nx hp Hk.out rfl (fun h e => hmore ⟨h, e⟩)
      have HX := hid hX
      have hlt := hX.lt
      have Hpc : Hid ((s.extract p k).data.toList = piece s.data.toList p k) := extract_piece s p k
      have hfI : (p : Int) ≤ (k : Int) := by omega
      have hkI : (k : Int) ≤ (s.size : Int) := by omega
      have hxs : (s.extract p k).size = k - p := by simp [ByteArray.size_extract]; omega
      have Hxs := hid hxs
      clear hX hxs
      by_cases hks : k < s.size
      · have Hkk : Hid (decide (kind (s[k]'hks) = 2) = false) := decide_eq_false (fun e => hmore ⟨hks, e⟩)
        have hksI : (k : Int) < (s.size : Int) := by omega
        clear hmore
        go_wp2_with (first | (go_at_call 155; refine (l2Digit_is (s[k]'hks) false Hkk.out _).mono ?_; rintro e w' ⟨rfl, rfl⟩) | fail)
        cases hpn : parseNum (s.extract p k).data.toList with
        | none =>
          have Ht : Hid (tok 2 (piece s.data.toList p k) = Option.none) := show tok 2 (piece s.data.toList p k) = _ by rw [← Hpc.out]; unfold tok; rw [if_neg (by omega), if_pos rfl, hpn]
          have Hu : Hid ((((parseNum (s.extract p k).data.toList).getD 0 : Nat) : Int) = 0) := show (((parseNum (s.extract p k).data.toList).getD 0 : Nat) : Int) = 0 by rw [hpn]; rfl
          have Hb : Hid ((parseNum (s.extract p k).data.toList).isSome = false) := show (parseNum (s.extract p k).data.toList).isSome = false by rw [hpn]; rfl
          clear hpn
          refine (spec_ParseNum_is _ (by rw [Hxs.out]; omega) 0 false Hu.out Hb.out _).mono ?_
          rintro e w1 ⟨rfl, rfl⟩
          go_wp2
          refine bodyPost_ret (v := .tuple #[.agg #[.int .i64 0, .string ⟨#[]⟩, .int .i64 0], .int .i64 (k : Int)]) (by simp [results, Tryz.results132, go_sem]) rfl ⟨⟨_, _, _, k, false, rfl, HX.out, ?_⟩, (Below.refl _ w).alloc (Nat.le_refl _) _⟩
          rw [Ht.out]; exact ⟨rfl, rfl, rfl, rfl⟩
        | some n =>
          have Hu : Hid ((((parseNum (s.extract p k).data.toList).getD 0 : Nat) : Int) = (n : Int)) := show (((parseNum (s.extract p k).data.toList).getD 0 : Nat) : Int) = (n : Int) by rw [hpn]; rfl
          have Hb : Hid ((parseNum (s.extract p k).data.toList).isSome = true) := show (parseNum (s.extract p k).data.toList).isSome = true by rw [hpn]; rfl
          by_cases h9 : n ≤ 999999
          · have Ht : Hid (tok 2 (piece s.data.toList p k) = some ⟨2, [], n⟩) := show tok 2 (piece s.data.toList p k) = _ by rw [← Hpc.out]; unfold tok; rw [if_neg (by omega), if_pos rfl, hpn]; exact if_pos h9
            clear hpn
            refine (spec_ParseNum_is _ (by rw [Hxs.out]; omega) (n : Int) true Hu.out Hb.out _).mono ?_
            rintro e w1 ⟨rfl, rfl⟩
            go_wp2
            refine bodyPost_ret (v := .tuple #[.agg #[.int .i64 2, .string ⟨#[]⟩, .int .i64 (n : Int)], .int .i64 (k : Int)]) (by simp [results, Tryz.results132, go_sem]) rfl ⟨⟨_, _, _, k, true, rfl, HX.out, ?_⟩, (Below.refl _ w).alloc (Nat.le_refl _) _⟩
            rw [Ht.out]; exact ⟨rfl, rfl, rfl, rfl⟩
          · have Ht : Hid (tok 2 (piece s.data.toList p k) = Option.none) := show tok 2 (piece s.data.toList p k) = _ by rw [← Hpc.out]; unfold tok; rw [if_neg (by omega), if_pos rfl, hpn]; exact if_neg h9
            have h9' : (999999 : Int) < (n : Int) := by omega
            clear hpn h9
            refine (spec_ParseNum_is _ (by rw [Hxs.out]; omega) (n : Int) true Hu.out Hb.out _).mono ?_
            rintro e w1 ⟨rfl, rfl⟩
            go_wp2
            refine bodyPost_ret (v := .tuple #[.agg #[.int .i64 0, .string ⟨#[]⟩, .int .i64 0], .int .i64 (k : Int)]) (by simp [results, Tryz.results132, go_sem]) rfl ⟨⟨_, _, _, k, false, rfl, HX.out, ?_⟩, (Below.refl _ w).alloc (Nat.le_refl _) _⟩
            rw [Ht.out]; exact ⟨rfl, rfl, rfl, rfl⟩
      · clear hmore
        go_wp2_with fail
        cases hpn : parseNum (s.extract p k).data.toList with
        | none =>
          have Ht : Hid (tok 2 (piece s.data.toList p k) = Option.none) := show tok 2 (piece s.data.toList p k) = _ by rw [← Hpc.out]; unfold tok; rw [if_neg (by omega), if_pos rfl, hpn]
          have Hu : Hid ((((parseNum (s.extract p k).data.toList).getD 0 : Nat) : Int) = 0) := show (((parseNum (s.extract p k).data.toList).getD 0 : Nat) : Int) = 0 by rw [hpn]; rfl
          have Hb : Hid ((parseNum (s.extract p k).data.toList).isSome = false) := show (parseNum (s.extract p k).data.toList).isSome = false by rw [hpn]; rfl
          clear hpn
          refine (spec_ParseNum_is _ (by rw [Hxs.out]; omega) 0 false Hu.out Hb.out _).mono ?_
          rintro e w1 ⟨rfl, rfl⟩
          go_wp2
          refine bodyPost_ret (v := .tuple #[.agg #[.int .i64 0, .string ⟨#[]⟩, .int .i64 0], .int .i64 (k : Int)]) (by simp [results, Tryz.results132, go_sem]) rfl ⟨⟨_, _, _, k, false, rfl, HX.out, ?_⟩, (Below.refl _ w).alloc (Nat.le_refl _) _⟩
          rw [Ht.out]; exact ⟨rfl, rfl, rfl, rfl⟩
        | some n =>
          have Hu : Hid ((((parseNum (s.extract p k).data.toList).getD 0 : Nat) : Int) = (n : Int)) := show (((parseNum (s.extract p k).data.toList).getD 0 : Nat) : Int) = (n : Int) by rw [hpn]; rfl
          have Hb : Hid ((parseNum (s.extract p k).data.toList).isSome = true) := show (parseNum (s.extract p k).data.toList).isSome = true by rw [hpn]; rfl
          by_cases h9 : n ≤ 999999
          · have Ht : Hid (tok 2 (piece s.data.toList p k) = some ⟨2, [], n⟩) := show tok 2 (piece s.data.toList p k) = _ by rw [← Hpc.out]; unfold tok; rw [if_neg (by omega), if_pos rfl, hpn]; exact if_pos h9
            clear hpn
            refine (spec_ParseNum_is _ (by rw [Hxs.out]; omega) (n : Int) true Hu.out Hb.out _).mono ?_
            rintro e w1 ⟨rfl, rfl⟩
            go_wp2
            refine bodyPost_ret (v := .tuple #[.agg #[.int .i64 2, .string ⟨#[]⟩, .int .i64 (n : Int)], .int .i64 (k : Int)]) (by simp [results, Tryz.results132, go_sem]) rfl ⟨⟨_, _, _, k, true, rfl, HX.out, ?_⟩, (Below.refl _ w).alloc (Nat.le_refl _) _⟩
            rw [Ht.out]; exact ⟨rfl, rfl, rfl, rfl⟩
          · have Ht : Hid (tok 2 (piece s.data.toList p k) = Option.none) := show tok 2 (piece s.data.toList p k) = _ by rw [← Hpc.out]; unfold tok; rw [if_neg (by omega), if_pos rfl, hpn]; exact if_neg h9
            have h9' : (999999 : Int) < (n : Int) := by omega
            clear hpn h9
            refine (spec_ParseNum_is _ (by rw [Hxs.out]; omega) (n : Int) true Hu.out Hb.out _).mono ?_
            rintro e w1 ⟨rfl, rfl⟩
            go_wp2
            refine bodyPost_ret (v := .tuple #[.agg #[.int .i64 0, .string ⟨#[]⟩, .int .i64 0], .int .i64 (k : Int)]) (by simp [results, Tryz.results132, go_sem]) rfl ⟨⟨_, _, _, k, false, rfl, HX.out, ?_⟩, (Below.refl _ w).alloc (Nat.le_refl _) _⟩
            rw [Ht.out]; exact ⟨rfl, rfl, rfl, rfl⟩
theorem strs_at (w : World) (ss : List (List UInt8)) (t : TypeId) (N : Nat) (hN : w.heap.size = N) : ∀ j l, ss[j]? = some l → (w.alloc (.cells (strs ss).toArray t)).cell? ⟨N, j, Option.none⟩ = some (.string ⟨l.toArray⟩) := by
  subst hN; exact strs_cells w ss t
def marks1 : List (List UInt8) := [[59], [61], [91], [93], [40], [41], [123], [125], [43], [45], [42], [44]]
theorem marks1_is (b : UInt8) : marks1.contains [b] = decide (b ∈ marksL) := by
  have e : marks1 = marksL.map (fun b => [b]) := rfl
  by_cases h : b ∈ marksL
  · rw [decide_eq_true h, List.contains_iff_mem, e]; exact List.mem_map.2 ⟨b, h, rfl⟩
  · rw [decide_eq_false h, ← Bool.not_eq_true, List.contains_iff_mem, e]
    intro hm
    obtain ⟨c, hc, hcb⟩ := List.mem_map.1 hm
    injection hcb with hcb
    subst hcb
    exact h hc
theorem kind34 {b : UInt8} (h0 : kind b ≠ 0) (h1 : kind b ≠ 1) (h2 : kind b ≠ 2) : kind b = if b ∈ marksL then 3 else 4 := by
  unfold kind at h0 h1 h2 ⊢
  by_cases g : b.toNat = 32 ∨ b.toNat = 10
  · rw [if_pos g] at h0; exact absurd rfl h0
  · rw [if_neg g] at h1 h2 ⊢
    by_cases l : 97 ≤ b.toNat ∧ b.toNat ≤ 122
    · rw [if_pos l] at h1; exact absurd rfl h1
    · rw [if_neg l] at h2 ⊢
      by_cases d : 48 ≤ b.toNat ∧ b.toNat ≤ 57
      · rw [if_pos d] at h2; exact absurd rfl h2
      · rw [if_neg d]
theorem l2Next_mark (s : ByteArray) (p : Nat) (hp : p < s.size) (hlim : s.size ≤ 281474976710656) (hk0 : kind (s[p]'hp) ≠ 0) (hk1 : kind (s[p]'hp) ≠ 1) (hk2 : kind (s[p]'hp) ≠ 2) (w : World) :
    Calls Tryz.prog 132 #[.string s, .int .i64 (p : Int)] w fun e w' => NextOut s.data.toList p (kind (s[p]'hp)) e ∧ Below w.heap.size w w' := by
  have hk := kind34 hk0 hk1 hk2
  have Hd1 : Hid (decide (kind (s[p]'hp) = 1) = false) := decide_eq_false hk1
  have Hd : Hid (decide (kind (s[p]'hp) = 2) = false) := decide_eq_false hk2
  have HX : Hid (Nx s.data.toList p (p + 1) (kind (s[p]'hp))) := one_nx hp (by rw [hk]; split <;> rfl)
  have hpI : (p : Int) < (s.size : Int) := by omega
  have hqI : (p : Int) + 1 ≤ (s.size : Int) := by omega
  have hlt : p < s.data.toList.length := by simpa using hp
  have hx : (s.extract p (p + 1)).data.toList = [s[p]'hp] := by rw [extract_piece, piece_one hlt, idx_list s p hp hlt]
  have Hpc : Hid (piece s.data.toList p (p + 1) = [s[p]'hp]) := show piece s.data.toList p (p + 1) = [s[p]'hp] by rw [← extract_piece, hx]
  have Hx := hid hx
  have hpp : (p : Int) ≤ (p : Int) + 1 := by omega
  by_cases hm : s[p]'hp ∈ marksL
  · rw [if_pos hm] at hk
    have Hm : Hid (marks1.contains (s.extract p (p + 1)).data.toList = true) := show marks1.contains (s.extract p (p + 1)).data.toList = true by rw [hx, marks1_is, decide_eq_true hm]
    have Hk := hid hk
    clear hk hk0 hk1 hk2 hx hm hlt
    go_enter Tryz.func132, Tryz.ntmps132
    go_wp2_with (first | (go_at_call 148; refine (l2Small_is (s[p]'hp) false Hd1.out _).mono ?_; rintro e w' ⟨rfl, rfl⟩) | (go_at_call 155; refine (l2Digit_is (s[p]'hp) false Hd.out _).mono ?_; rintro e w' ⟨rfl, rfl⟩) | fail)
    refine (l2Has_is _ 12 _ marks1 rfl (by decide) (s.extract p (p + 1)) true Hm.out _ (strs_at _ marks1 _ _ (by simp))).mono ?_
    rintro e w1 ⟨rfl, hw1⟩
    have hb : Below (w.alloc (.cells #[.int .i64 0, .string ⟨#[]⟩, .int .i64 0] 172)).heap.size (w.alloc (.cells #[.int .i64 0, .string ⟨#[]⟩, .int .i64 0] 172)) w1 := by
      rw [← hw1]; exact (Below.refl _ _).alloc (Nat.le_refl _) _
    obtain ⟨⟨c0, c1, c2⟩, f0, f1, f2⟩ := cell3 (zero3 hb)
    have hw := below3 hb
    clear hb hw1
    go_wp2
    refine bodyPost_ret (v := .tuple #[.agg #[.int .i64 4, .string (s.extract p (p + 1)), .int .i64 0], .int .i64 ((p + 1 : Nat) : Int)]) (by simp [results, Tryz.results132, go_sem, c0, c1, c2]) rfl ⟨⟨_, _, _, p + 1, true, rfl, HX.out, ?_⟩, set3T hw _ _ _⟩
    rw [Hk.out, Hpc.out, ← Hx.out]; exact ⟨rfl, (arr_eq _).symm, rfl, rfl⟩
  · rw [if_neg hm] at hk
    have Hm : Hid (marks1.contains (s.extract p (p + 1)).data.toList = false) := show marks1.contains (s.extract p (p + 1)).data.toList = false by rw [hx, marks1_is, decide_eq_false hm]
    have Hk := hid hk
    clear hk hk0 hk1 hk2 hx hm hlt
    go_enter Tryz.func132, Tryz.ntmps132
    go_wp2_with (first | (go_at_call 148; refine (l2Small_is (s[p]'hp) false Hd1.out _).mono ?_; rintro e w' ⟨rfl, rfl⟩) | (go_at_call 155; refine (l2Digit_is (s[p]'hp) false Hd.out _).mono ?_; rintro e w' ⟨rfl, rfl⟩) | fail)
    refine (l2Has_is _ 12 _ marks1 rfl (by decide) (s.extract p (p + 1)) false Hm.out _ (strs_at _ marks1 _ _ (by simp))).mono ?_
    rintro e w1 ⟨rfl, hw1⟩
    have hb : Below (w.alloc (.cells #[.int .i64 0, .string ⟨#[]⟩, .int .i64 0] 172)).heap.size (w.alloc (.cells #[.int .i64 0, .string ⟨#[]⟩, .int .i64 0] 172)) w1 := by
      rw [← hw1]; exact (Below.refl _ _).alloc (Nat.le_refl _) _
    obtain ⟨⟨c0, c1, c2⟩, f0, f1, f2⟩ := cell3 (zero3 hb)
    have hw := below3 hb
    clear hb hw1
    go_wp2
    refine bodyPost_ret (v := .tuple #[.agg #[.int .i64 0, .string ⟨#[]⟩, .int .i64 0], .int .i64 ((p + 1 : Nat) : Int)]) (by simp [results, Tryz.results132, go_sem, c0, c1, c2]) rfl ⟨⟨_, _, _, p + 1, false, rfl, HX.out, ?_⟩, set3T hw _ _ _⟩
    rw [Hk.out]; exact ⟨rfl, rfl, rfl, rfl⟩
theorem l2Next_is (s : ByteArray) (p : Nat) (hp : p < s.size) (hlim : s.size ≤ 281474976710656) (hk0 : kind (s[p]'hp) ≠ 0) (w : World) :
    Calls Tryz.prog 132 #[.string s, .int .i64 (p : Int)] w fun e w' => NextOut s.data.toList p (kind (s[p]'hp)) e ∧ Below w.heap.size w w' := by
  by_cases h1 : kind (s[p]'hp) = 1
  · rw [h1]; exact l2Next_letters s p hp hlim h1 w
  · by_cases h2 : kind (s[p]'hp) = 2
    · rw [h2]; exact l2Next_digits s p hp hlim h2 w
    · exact l2Next_mark s p hp hlim hk0 h1 h2 w
theorem kind0_of {b : UInt8} (h : (b.toNat : Int) = 32 ∨ (b.toNat : Int) = 10) : kind b = 0 := by
  unfold kind; rw [if_pos (by omega)]
theorem kind0_not {b : UInt8} (h1 : ¬ (b.toNat : Int) = 32) (h2 : ¬ (b.toNat : Int) = 10) : kind b ≠ 0 := by
  unfold kind; rw [if_neg (by omega)]
  split
  · omega
  · split
    · omega
    · split <;> omega
theorem own_empty {w : World} {B : Nat} (hB : B ≤ w.heap.size) (N : Nat) (hN : w.heap.size = N) : (w.alloc (Obj.cells #[] 172)).ownsRow B 172 3 (.slice (some ⟨N, 0, Option.none⟩) 0 0) 0 [] := by
  subst hN
  refine ⟨rfl, .inr ⟨w.heap.size, 0, #[], rfl, hB, ?_, Nat.le_refl _, by unfold maxLen; omega, rfl, rfl⟩⟩
  show (w.heap.push (Obj.cells #[] 172 (0, 0)))[w.heap.size]? = _
  simp
theorem spec_Lex_text (s : ByteArray) (R : Option (List T)) (hR : cut [] (pend 0 [] (s.data.toList ++ [32])) = R) (w : World) (hlim : s.size ≤ 3000) :
    Calls Tryz.prog 89 #[.string s] w fun e w' => LexOut w.heap.size w' R e ∧ Below w.heap.size w w' := by
  have hl : ¬ (3000 : Int) < (s.size : Int) := by omega
  have hlen : s.data.toList.length = s.size := by simp
  have HR := hid hR
  have Hlim := hid hlim
  obtain ⟨i0, hi, hz0, hz1, hz2⟩ := info_parts infoTok
  clear hR
  go_enter Tryz.func89, Tryz.ntmps89
  go_wp2
  go_loopw [4, 5] (fun v i wr => ∃ (out : List T) (p : Nat), i = .int .i64 p ∧ wr.ownsRow w.heap.size 172 3 v out.length (cellsOf out) ∧ Below w.heap.size w wr ∧ Hid (Sp s.data.toList R out p)) (fun _ i _ => s.size - (RowKit.intOf i).toNat)
  case atStart =>
    refine ⟨[], 0, rfl, own_empty (Nat.le_refl _) _ rfl, (Below.refl _ w).alloc (Nat.le_refl _) _, ?_⟩
    show Sp s.data.toList R [] 0
    rw [← HR.out]; exact Sp.start _
  case round =>
    obtain ⟨out, p, rfl, hown, hbw, hst⟩ := hrel
    obtain ⟨ao, cap, rfl⟩ := own_shape hown
    have hple : p ≤ s.size := by have := hst.out.1; omega
    by_cases hp : p < s.size
    · have hpl : p < s.data.toList.length := by simpa using hp
      have hbk : kind (s.data.toList[p]'hpl) = kind (s[p]'hp) := by rw [idx_list s p hp hpl]
      have hpI : (p : Int) < (s.size : Int) := by omega
      by_cases g1 : ((s[p]'hp).toNat : Int) = 32
      · have hS := hid (hst.out.gap hpl (by rw [hbk]; exact kind0_of (.inl g1)))
        clear hbk hpl
        go_wp2
        go_roundw
        case rel => exact ⟨out, p + 1, by go_num, hown, hbw, hS⟩
        case measure => simp [RowKit.intOf]; omega
      · by_cases g2 : ((s[p]'hp).toNat : Int) = 10
        · have hS := hid (hst.out.gap hpl (by rw [hbk]; exact kind0_of (.inr g2)))
          have g1' : (((s[p]'hp).toNat : Int) == 32) = false := by rw [beq_eq_false_iff_ne]; exact g1
          clear hbk hpl g1
          go_wp2
          go_roundw
          case rel => exact ⟨out, p + 1, by go_num, hown, hbw, hS⟩
          case measure => simp [RowKit.intOf]; omega
        · have hk0 := kind0_not g1 g2
          have g1' : (((s[p]'hp).toNat : Int) == 32) = false := by rw [beq_eq_false_iff_ne]; exact g1
          have g2' : (((s[p]'hp).toNat : Int) == 10) = false := by rw [beq_eq_false_iff_ne]; exact g2
          have Hk0 := hid hk0
          clear hbk hpl g1 g2 hk0
          go_wp2_with fail
          refine (l2Next_is s p hp (by have := Hlim.out; omega) Hk0.out _).mono ?_
          rintro e w1 ⟨⟨a, x, n, nx, b, rfl, hX, hres⟩, hb1⟩
          have hown1 := own_below hown hb1
          have hbw1 := hbw.trans (hb1.mono hbw.size)
          have HX := hid hX
          have hnx1 := hX.lt
          have hnx2 : nx ≤ s.size := by have := hX.le; omega
          clear hX hown hbw hb1
          cases htk : tok (kind (s[p]'hp)) (piece s.data.toList p nx) with
          | none =>
            rw [htk] at hres
            obtain ⟨rfl, rfl, rfl, rfl⟩ := hres
            have HR2 := hid (hst.out.bad Hk0.out HX.out htk)
            clear htk
            go_wp2
            go_ret2
            exact ⟨⟨_, by rw [HR2.out]; rfl, by rw [HR2.out]; exact own_empty (by have := hbw1.size; simp; omega) _ (by simp)⟩, (hbw1.alloc hbw1.size _).alloc (by have := hbw1.size; simp; omega) _⟩
          | some t =>
            rw [htk] at hres
            obtain ⟨rfl, rfl, rfl, rfl⟩ := hres
            have hkt : (t.k == 0) = false := by rw [beq_eq_false_iff_ne]; have := tok_kind htk; omega
            by_cases h6 : out.length < 600
            · have hS := hid (hst.out.tok Hk0.out HX.out htk h6)
              have h6' : ¬ (600 : Int) ≤ (out.length : Int) := by omega
              clear htk
              go_wp2_with (at_builtin; refine wpList_append_own _ rfl _ _ 136 rfl w.heap.size 172 i0 _ 3 32 Tryz.underlying136 hi hz0 hz1 hz2 rfl (by decide) _ _ _ rfl ((hown1.alloc _).alloc _) ⟨w1.heap.size + 1, 0, Option.none⟩ 1 1 (cells3 t) rfl rfl ?c1 ?c2 ?c3 ?c4 ?c5 ?_)
              case c1 => exact laid3L _ t _ (by simp)
              case c2 => exact one3 t
              case c3 => unfold maxLen; omega
              case c4 => omega
              case c5 => have := hbw1.size; simp; omega
              intro v' w3 hown' hgrow _
              have hbw4 := snoc_below hown1 hbw1 hgrow
              have hown4 := snoc_own hown'
              clear hown' hgrow hown1 hbw1
              go_wp2
              go_roundw
              case rel => exact ⟨out ++ [t], nx, rfl, hown4, hbw4, hS⟩
              case measure => simp [RowKit.intOf]; omega
            · have HR2 := hid (hst.out.full Hk0.out HX.out htk h6)
              have h6' : (600 : Int) ≤ (out.length : Int) := by omega
              clear htk h6
              go_wp2
              go_ret2
              exact ⟨⟨_, by rw [HR2.out]; rfl, by rw [HR2.out]; exact own_empty (by have := hbw1.size; simp; omega) _ (by simp)⟩, (hbw1.alloc hbw1.size _).alloc (by have := hbw1.size; simp; omega) _⟩
    · have hR := hst.out.done (by rw [hlen]; exact hp)
      go_wp2
      go_ret2
      exact ⟨⟨_, by rw [hR]; rfl, by rw [hR]; exact hown⟩, hbw⟩
theorem spec_Lex (s : ByteArray) (o : Option (List T)) (ho : lex s.data.toList = o) (w : World) :
    Calls Tryz.prog 89 #[.string s] w fun e w' => LexOut w.heap.size w' o e ∧ Below w.heap.size w w' := by
  have hlen : s.data.toList.length = s.size := by simp
  by_cases hg : 3000 < s.size
  · have hO : Hid (o = Option.none) := show o = Option.none by rw [← ho, lex, if_pos (by omega)]
    have hg' : (3000 : Int) < (s.size : Int) := by omega
    clear hg ho hlen
    go_enter Tryz.func89, Tryz.ntmps89
    go_wp2
    go_ret2
    exact ⟨⟨_, by rw [hO.out]; rfl, by rw [hO.out]; exact own_empty (Nat.le_refl _) _ rfl⟩, (Below.refl _ w).alloc (Nat.le_refl _) _⟩
  · refine spec_Lex_text s o ?_ w (by omega)
    rw [← ho, lex, if_neg (by omega)]
end Go.Proofs.YtpinockfakndlaaGreat
