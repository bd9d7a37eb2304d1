/-
  The contracts of the landed code's Lex and of what it calls.
-/
import Derived.Test.YtoogikibmdjpiaaDoorTokName
import Derived.Test.YtoogikibmdjpiaaDoorNumEnv
namespace Go.Proofs.YtoogikibmdjpiaaDoor
open Go.RowKit Go.Lib
set_option linter.unusedSimpArgs false

/-- What a sign and its flag are, field by field. -/
def Res : Option T → Int → ByteArray → Int → Bool → Prop
  | some t, k, s, n, b => k = t.k ∧ s = ⟨t.s.toArray⟩ ∧ n = t.n ∧ b = true
  | Option.none, k, s, n, b => k = 0 ∧ s = ⟨#[]⟩ ∧ n = 0 ∧ b = false
theorem arr_eq (s : ByteArray) : (⟨s.data.toList.toArray⟩ : ByteArray) = s := by cases s; simp
/-- A struct in its cell and a flag in its slot, as results. -/
theorem ret_tok {a b : Value} {R : Prop} (h : a = b) (r : R) : Ending.returned a = .returned b ∧ R := by subst h; exact ⟨rfl, r⟩
def TokOf (o : Option T) (e : Ending) : Prop := ∃ k s n b, e = .returned (.tuple #[.agg #[.int .i64 k, .string s, .int .i64 n], .bool b]) ∧ Res o k s n b
/-- Three cells of a block. -/
theorem cell3 {w : World} {b : Nat} {x y z : Value} {t : TypeId} (h : w.heap[b]? = some (.cells #[x, y, z] t (0, 0))) :
    (w.cell? ⟨b, 0, Option.none⟩ = some x ∧ w.cell? ⟨b, 1, Option.none⟩ = some y ∧ w.cell? ⟨b, 2, Option.none⟩ = some z) ∧ w.frozen? ⟨b, 0, Option.none⟩ = false ∧ w.frozen? ⟨b, 1, Option.none⟩ = false ∧ w.frozen? ⟨b, 2, Option.none⟩ = false := by
  simp [World.cell?, World.frozen?, h]
/-- A struct of three zero cells that was just laid, behind a call that turned nothing of it. -/
theorem zero3 {w w1 : World} (hb : Below (w.alloc (.cells #[.int .i64 0, .string ⟨#[]⟩, .int .i64 0] 47)).heap.size (w.alloc (.cells #[.int .i64 0, .string ⟨#[]⟩, .int .i64 0] 47)) w1) :
    w1.heap[w.heap.size]? = some (.cells #[.int .i64 0, .string ⟨#[]⟩, .int .i64 0] 47 (0, 0)) := by
  have e : (w.alloc (.cells #[.int .i64 0, .string ⟨#[]⟩, .int .i64 0] 47)).heap = w.heap.push (.cells #[.int .i64 0, .string ⟨#[]⟩, .int .i64 0] 47 (0, 0)) := rfl
  rw [hb.block w.heap.size (by rw [e]; simp), e]; simp
theorem below3 {w w1 : World} {o : Obj} (hb : Below (w.alloc o).heap.size (w.alloc o) w1) : Below w.heap.size w w1 :=
  ((Below.refl _ w).alloc (Nat.le_refl _) o).trans (hb.mono (by simp))
theorem set3 {w w1 : World} (hb : Below w.heap.size w w1) (x y z : Value) : Below w.heap.size w (((w1.setCell ⟨w.heap.size, 0, Option.none⟩ x).setCell ⟨w.heap.size, 1, Option.none⟩ y).setCell ⟨w.heap.size, 2, Option.none⟩ z) :=
  ((hb.setCell (p := ⟨w.heap.size, 0, Option.none⟩) (Nat.le_refl _) _).setCell (p := ⟨w.heap.size, 1, Option.none⟩) (Nat.le_refl _) _).setCell (p := ⟨w.heap.size, 2, Option.none⟩) (Nat.le_refl _) _
set_option maxHeartbeats 1000000 in
theorem wordTok_is (s : ByteArray) (w : World) (hne : 1 ≤ s.size) (hall : s.data.toList.all (fun b => kind b == 1) = true) :
    Calls Tryd.prog 48 #[.string s] w fun e w' => TokOf (tok 1 s.data.toList) e ∧ Below w.heap.size w w' := by
  have hlen : s.data.toList.length = s.size := by simp
  cases hk : keptL.contains s.data.toList with
  | true =>
    have Ht : Hid (tok 1 s.data.toList = some ⟨3, s.data.toList, 0⟩) := show tok 1 s.data.toList = _ by
      rw [List.contains_iff_mem] at hk
      simp [tok, hk]
    have Hk := Lib.hid hk
    clear hk hall hlen
    go_enter Tryd.func48, Tryd.ntmps48
    go_wp2_with (go_at_call 33; refine (isKept_is s true Hk.out _).mono ?_; rintro e w' ⟨rfl, rfl⟩)
    refine bodyPost_ret (v := .tuple #[.agg #[.int .i64 3, .string s, .int .i64 0], .bool true]) (by simp [results, Tryd.results48, go_sem]) rfl ⟨⟨_, _, _, _, rfl, ?_⟩, (Below.refl _ w).alloc (Nat.le_refl _) _⟩
    rw [Ht.out]; exact ⟨rfl, (arr_eq s).symm, rfl, rfl⟩
  | false =>
    have hm : ¬ s.data.toList ∈ keptL := by rw [← List.contains_iff_mem, hk]; simp
    by_cases h6 : s.size ≤ 6
    · have Ht : Hid (tok 1 s.data.toList = some ⟨1, s.data.toList, 0⟩) := show tok 1 s.data.toList = _ by simp [tok, hm, h6]
      have Hn : Hid (nameOk s.data.toList = true) := show nameOk s.data.toList = true by rw [nameOk_eq, hk, hall, hlen, decide_eq_true hne, decide_eq_true h6]; rfl
      have Hk := Lib.hid hk
      clear hk hall hlen hm h6
      go_enter Tryd.func48, Tryd.ntmps48
      go_wp2_with (first | (go_at_call 33; refine (isKept_is s false Hk.out _).mono ?_; rintro e w' ⟨rfl, rfl⟩) | fail)
      refine (impl_NameOk s true Hn.out _).mono ?_
      rintro e w1 ⟨rfl, hb⟩
      obtain ⟨⟨c0, c1, c2⟩, f0, f1, f2⟩ := cell3 (zero3 hb)
      have hw := below3 hb
      clear hb
      go_wp2
      refine bodyPost_ret (v := .tuple #[.agg #[.int .i64 1, .string s, .int .i64 0], .bool true]) (by simp [results, Tryd.results48, go_sem, c0, c1, c2]) rfl ⟨⟨_, _, _, _, rfl, ?_⟩, set3 hw _ _ _⟩
      rw [Ht.out]; exact ⟨rfl, (arr_eq s).symm, rfl, rfl⟩
    · have Ht : Hid (tok 1 s.data.toList = Option.none) := show tok 1 s.data.toList = _ by simp [tok, hm]; omega
      have Hn : Hid (nameOk s.data.toList = false) := show nameOk s.data.toList = false by rw [nameOk_eq, hlen, decide_eq_false h6]; simp
      have Hk := Lib.hid hk
      clear hk hall hlen hm h6
      go_enter Tryd.func48, Tryd.ntmps48
      go_wp2_with (first | (go_at_call 33; refine (isKept_is s false Hk.out _).mono ?_; rintro e w' ⟨rfl, rfl⟩) | fail)
      refine (impl_NameOk s false Hn.out _).mono ?_
      rintro e w1 ⟨rfl, hb⟩
      obtain ⟨⟨c0, c1, c2⟩, f0, f1, f2⟩ := cell3 (zero3 hb)
      have hw := below3 hb
      clear hb
      go_wp2
      refine bodyPost_ret (v := .tuple #[.agg #[.int .i64 0, .string ⟨#[]⟩, .int .i64 0], .bool false]) (by simp [results, Tryd.results48, go_sem, c0, c1, c2]) rfl ⟨⟨_, _, _, _, rfl, ?_⟩, set3 hw _ _ _⟩
      rw [Ht.out]; exact ⟨rfl, rfl, rfl, rfl⟩
set_option maxHeartbeats 1000000 in
theorem numTok_is (s : ByteArray) (w : World) (hlim : s.size ≤ 281474976710656) (hE : Env w) :
    Calls Tryd.prog 49 #[.string s] w fun e w' => TokOf (tok 2 s.data.toList) e ∧ Below w.heap.size w w' := by
  have hE1 : Env (w.alloc (.cells #[.int .i64 0, .string ⟨#[]⟩, .int .i64 0] 47)) := hE.later ((Below.refl _ w).alloc (Nat.le_refl _) _) (Nat.le_refl _)
  cases hp : parseNum s.data.toList with
  | none =>
    have Ht : Hid (tok 2 s.data.toList = Option.none) := show tok 2 s.data.toList = _ by simp [tok, hp]
    have Hu : Hid ((((parseNum s.data.toList).getD 0 : Nat) : Int) = 0) := show (((parseNum s.data.toList).getD 0 : Nat) : Int) = 0 by rw [hp]; rfl
    have Hb : Hid ((parseNum s.data.toList).isSome = false) := show (parseNum s.data.toList).isSome = false by rw [hp]; rfl
    clear hp hE
    go_enter Tryd.func49, Tryd.ntmps49
    go_wp2_with fail
    refine (ParseNum_is s hlim 0 false Hu.out Hb.out _ hE1).mono ?_
    rintro e w1 ⟨rfl, hb, _⟩
    obtain ⟨⟨c0, c1, c2⟩, f0, f1, f2⟩ := cell3 (zero3 hb)
    have hw := below3 hb
    clear hb
    go_wp2
    refine bodyPost_ret (v := .tuple #[.agg #[.int .i64 0, .string ⟨#[]⟩, .int .i64 0], .bool false]) (by simp [results, Tryd.results49, go_sem, c0, c1, c2]) rfl ⟨⟨_, _, _, _, rfl, ?_⟩, set3 hw _ _ _⟩
    rw [Ht.out]; exact ⟨rfl, rfl, rfl, rfl⟩
  | some n =>
    have Hu : Hid ((((parseNum s.data.toList).getD 0 : Nat) : Int) = (n : Int)) := show (((parseNum s.data.toList).getD 0 : Nat) : Int) = (n : Int) by rw [hp]; rfl
    have Hb : Hid ((parseNum s.data.toList).isSome = true) := show (parseNum s.data.toList).isSome = true by rw [hp]; rfl
    by_cases h9 : n ≤ 999999
    · have Ht : Hid (tok 2 s.data.toList = some ⟨2, [], n⟩) := show tok 2 s.data.toList = _ by simp [tok, hp, h9]
      clear hp hE
      go_enter Tryd.func49, Tryd.ntmps49
      go_wp2_with fail
      refine (ParseNum_is s hlim (n : Int) true Hu.out Hb.out _ hE1).mono ?_
      rintro e w1 ⟨rfl, hb, _⟩
      obtain ⟨⟨c0, c1, c2⟩, f0, f1, f2⟩ := cell3 (zero3 hb)
      have hw := below3 hb
      clear hb
      go_wp2
      refine bodyPost_ret (v := .tuple #[.agg #[.int .i64 2, .string ⟨#[]⟩, .int .i64 (n : Int)], .bool true]) (by simp [results, Tryd.results49, go_sem, c0, c1, c2]) rfl ⟨⟨_, _, _, _, rfl, ?_⟩, set3 hw _ _ _⟩
      rw [Ht.out]; exact ⟨rfl, rfl, rfl, rfl⟩
    · have Ht : Hid (tok 2 s.data.toList = Option.none) := show tok 2 s.data.toList = _ by simp [tok, hp]; omega
      have h9' : (999999 : Int) < (n : Int) := by omega
      clear hp hE h9
      go_enter Tryd.func49, Tryd.ntmps49
      go_wp2_with fail
      refine (ParseNum_is s hlim (n : Int) true Hu.out Hb.out _ hE1).mono ?_
      rintro e w1 ⟨rfl, hb, _⟩
      obtain ⟨⟨c0, c1, c2⟩, f0, f1, f2⟩ := cell3 (zero3 hb)
      have hw := below3 hb
      clear hb
      go_wp2
      refine bodyPost_ret (v := .tuple #[.agg #[.int .i64 0, .string ⟨#[]⟩, .int .i64 0], .bool false]) (by simp [results, Tryd.results49, go_sem, c0, c1, c2]) rfl ⟨⟨_, _, _, _, rfl, ?_⟩, set3 hw _ _ _⟩
      rw [Ht.out]; exact ⟨rfl, rfl, rfl, rfl⟩
set_option maxHeartbeats 1000000 in
theorem tokOf_is (k : Nat) (hk1 : 1 ≤ k) (hk4 : k ≤ 4) (s : ByteArray) (w : World) (hne : 1 ≤ s.size) (hlim : s.size ≤ 281474976710656) (hE : Env w) (hall : k = 1 → s.data.toList.all (fun b => kind b == 1) = true) :
    Calls Tryd.prog 30 #[.int .i64 (k : Int), .string s] w fun e w' => TokOf (tok k s.data.toList) e ∧ Below w.heap.size w w' := by
  have hE1 : Env (w.alloc (.cells #[.int .i64 0, .string ⟨#[]⟩, .int .i64 0] 47)) := hE.later ((Below.refl _ w).alloc (Nat.le_refl _) _) (Nat.le_refl _)
  obtain rfl | rfl | rfl | rfl : k = 1 ∨ k = 2 ∨ k = 3 ∨ k = 4 := by omega
  · have Ha := Lib.hid (hall rfl)
    clear hall hE hk1 hk4
    go_enter Tryd.func30, Tryd.ntmps30
    go_wp2_with fail
    refine (wordTok_is s _ hne Ha.out).mono ?_
    rintro e w1 ⟨⟨k, x, n, b, rfl, hr⟩, hb⟩
    have Hr := Lib.hid hr
    obtain ⟨⟨c0, c1, c2⟩, f0, f1, f2⟩ := cell3 (zero3 hb)
    have hw := below3 hb
    clear hb hr
    go_wp2
    exact bodyPost_ret (v := .tuple #[.agg #[.int .i64 k, .string x, .int .i64 n], .bool b]) (by simp [results, Tryd.results30, go_sem, c0, c1, c2]) rfl ⟨⟨_, _, _, _, rfl, Hr.out⟩, set3 hw _ _ _⟩
  · clear hall hE hk1 hk4
    go_enter Tryd.func30, Tryd.ntmps30
    go_wp2_with fail
    refine (numTok_is s _ hlim hE1).mono ?_
    rintro e w1 ⟨⟨k, x, n, b, rfl, hr⟩, hb⟩
    have Hr := Lib.hid hr
    obtain ⟨⟨c0, c1, c2⟩, f0, f1, f2⟩ := cell3 (zero3 hb)
    have hw := below3 hb
    clear hb hr
    go_wp2
    exact bodyPost_ret (v := .tuple #[.agg #[.int .i64 k, .string x, .int .i64 n], .bool b]) (by simp [results, Tryd.results30, go_sem, c0, c1, c2]) rfl ⟨⟨_, _, _, _, rfl, Hr.out⟩, set3 hw _ _ _⟩
  · clear hall hE hE1 hk1 hk4
    go_enter Tryd.func30, Tryd.ntmps30
    go_wp2
    exact bodyPost_ret (v := .tuple #[.agg #[.int .i64 4, .string s, .int .i64 0], .bool true]) (by simp [results, Tryd.results30, go_sem]) rfl ⟨⟨_, _, _, _, rfl, rfl, (arr_eq s).symm, rfl, rfl⟩, (Below.refl _ w).alloc (Nat.le_refl _) _⟩
  · clear hall hE hE1 hk1 hk4
    go_enter Tryd.func30, Tryd.ntmps30
    go_wp2
    exact bodyPost_ret (v := .tuple #[.agg #[.int .i64 0, .string ⟨#[]⟩, .int .i64 0], .bool false]) (by simp [results, Tryd.results30, go_sem]) rfl ⟨⟨_, _, _, _, rfl, rfl, rfl, rfl, rfl⟩, (Below.refl _ w).alloc (Nat.le_refl _) _⟩
theorem goesOn_is (k : Nat) (v : Bool) (hv : goes k = v) (w : World) : Calls Tryd.prog 29 #[.int .i64 (k : Int)] w fun e w' => e = .returned (.bool v) ∧ w = w' := by
  subst hv
  by_cases h1 : k = 1
  · subst h1
    go_enter Tryd.func29, Tryd.ntmps29
    go_wp2
    go_ret
    exact ⟨rfl, rfl⟩
  · by_cases h2 : k = 2
    · subst h2
      go_enter Tryd.func29, Tryd.ntmps29
      go_wp2
      go_ret
      exact ⟨rfl, rfl⟩
    · have g1 : ((k : Int) == 1) = false := by rw [beq_eq_false_iff_ne]; omega
      have g2 : ((k : Int) == 2) = false := by rw [beq_eq_false_iff_ne]; omega
      have Hg : Hid (goes k = false) := show goes k = false by simp [goes, h1, h2]
      clear h1 h2
      go_enter Tryd.func29, Tryd.ntmps29
      go_wp2
      go_ret
      exact ⟨ret_bool Hg.out.symm, rfl⟩
end Go.Proofs.YtoogikibmdjpiaaDoor
