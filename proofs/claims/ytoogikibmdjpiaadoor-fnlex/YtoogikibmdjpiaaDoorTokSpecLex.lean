/-
  The contract of the specification's Lex.
-/
import Derived.Test.YtoogikibmdjpiaaDoorTokSpec
namespace Go.Proofs.YtoogikibmdjpiaaDoor
open Go.RowKit Go.Lib
set_option linter.unusedSimpArgs false

theorem kind0_of {b : UInt8} (h : (b.toNat : Int) = 32 ∨ (b.toNat : Int) = 10) : kind b = 0 := by
  unfold kind; rw [if_pos (by omega)]
theorem kind0_not {b : UInt8} (h1 : ¬ (b.toNat : Int) = 32) (h2 : ¬ (b.toNat : Int) = 10) : kind b ≠ 0 := by
  unfold kind; rw [if_neg (by omega)]
  split
  · omega
  · split
    · omega
    · split <;> omega
theorem own_empty {w : World} {B : Nat} (hB : B ≤ w.heap.size) (N : Nat) (hN : w.heap.size = N) : (w.alloc (Obj.cells #[] 47)).ownsRow B 47 3 (.slice (some ⟨N, 0, Option.none⟩) 0 0) 0 [] := by
  subst hN
  refine ⟨rfl, .inr ⟨w.heap.size, 0, #[], rfl, hB, ?_, Nat.le_refl _, by unfold maxLen; omega, rfl, rfl⟩⟩
  show (w.heap.push (Obj.cells #[] 47 (0, 0)))[w.heap.size]? = _
  simp
set_option maxHeartbeats 4000000 in
set_option maxRecDepth 100000 in
theorem spec_Lex_text (s : ByteArray) (R : Option (List T)) (hR : cut [] (pend 0 [] (s.data.toList ++ [32])) = R) (w : World) (hlim : s.size ≤ 3000) :
    Calls Tryd.prog 9 #[.string s] w fun e w' => LexOut w.heap.size w' R e ∧ Below w.heap.size w w' := by
  have hl : ¬ (3000 : Int) < (s.size : Int) := by omega
  have hlen : s.data.toList.length = s.size := by simp
  have HR := Lib.hid hR
  have Hlim := Lib.hid hlim
  obtain ⟨i0, hi, hz0, hz1, hz2⟩ := info_parts infoTok
  clear hR
  go_enter Tryd.func9, Tryd.ntmps9
  go_wp2
  go_loopw [4, 5] (fun v i wr => ∃ (out : List T) (p : Nat), i = .int .i64 p ∧ wr.ownsRow w.heap.size 47 3 v out.length (cellsOf out) ∧ Below w.heap.size w wr ∧ Hid (Sp s.data.toList R out p)) (fun _ i _ => s.size - (RowKit.intOf i).toNat)
  case atStart =>
    refine ⟨[], 0, rfl, own_empty (Nat.le_refl _) _ rfl, (Below.refl _ w).alloc (Nat.le_refl _) _, ?_⟩
    show Sp s.data.toList R [] 0
    rw [← HR.out]; exact Sp.start _
  case round =>
    obtain ⟨out, p, rfl, hown, hbw, hst⟩ := hrel
    obtain ⟨ao, cap, rfl⟩ := own_shape hown
    have hple : p ≤ s.size := by have := hst.out.1; omega
    by_cases hp : p < s.size
    · have hpl : p < s.data.toList.length := by simpa using hp
      have hbk : kind (s.data.toList[p]'hpl) = kind (s[p]'hp) := by rw [idx_list s p hp hpl]
      have hpI : (p : Int) < (s.size : Int) := by omega
      by_cases g1 : ((s[p]'hp).toNat : Int) = 32
      · have hS := Lib.hid (hst.out.gap hpl (by rw [hbk]; exact kind0_of (.inl g1)))
        clear hbk hpl
        go_wp2
        go_roundw
        case rel => exact ⟨out, p + 1, by go_num, hown, hbw, hS⟩
        case measure => simp [RowKit.intOf]; omega
      · by_cases g2 : ((s[p]'hp).toNat : Int) = 10
        · have hS := Lib.hid (hst.out.gap hpl (by rw [hbk]; exact kind0_of (.inr g2)))
          have g1' : (((s[p]'hp).toNat : Int) == 32) = false := by rw [beq_eq_false_iff_ne]; exact g1
          clear hbk hpl g1
          go_wp2
          go_roundw
          case rel => exact ⟨out, p + 1, by go_num, hown, hbw, hS⟩
          case measure => simp [RowKit.intOf]; omega
        · have hk0 := kind0_not g1 g2
          have g1' : (((s[p]'hp).toNat : Int) == 32) = false := by rw [beq_eq_false_iff_ne]; exact g1
          have g2' : (((s[p]'hp).toNat : Int) == 10) = false := by rw [beq_eq_false_iff_ne]; exact g2
          have Hk0 := Lib.hid hk0
          clear hbk hpl g1 g2 hk0
          go_wp2_with fail
          refine (l2Next_is s p hp (by have := Hlim.out; omega) Hk0.out _).mono ?_
          rintro e w1 ⟨⟨a, x, n, nx, b, rfl, hX, hres⟩, hb1⟩
          have hown1 := own_below hown hb1
          have hbw1 := hbw.trans (hb1.mono hbw.size)
          have HX := Lib.hid hX
          have hnx1 := hX.lt
          have hnx2 : nx ≤ s.size := by have := hX.le; omega
          clear hX hown hbw hb1
          cases htk : tok (kind (s[p]'hp)) (piece s.data.toList p nx) with
          | none =>
            rw [htk] at hres
            obtain ⟨rfl, rfl, rfl, rfl⟩ := hres
            have HR2 := Lib.hid (hst.out.bad Hk0.out HX.out htk)
            clear htk
            go_wp2
            go_ret2
            exact ⟨⟨_, by rw [HR2.out]; rfl, by rw [HR2.out]; exact own_empty (by have := hbw1.size; simp; omega) _ (by simp)⟩, (hbw1.alloc hbw1.size _).alloc (by have := hbw1.size; simp; omega) _⟩
          | some t =>
            rw [htk] at hres
            obtain ⟨rfl, rfl, rfl, rfl⟩ := hres
            have hkt : (t.k == 0) = false := by rw [beq_eq_false_iff_ne]; have := tok_kind htk; omega
            by_cases h6 : out.length < 600
            · have hS := Lib.hid (hst.out.tok Hk0.out HX.out htk h6)
              have h6' : ¬ (600 : Int) ≤ (out.length : Int) := by omega
              clear htk
              go_wp2_with (at_builtin; refine wpList_append_own _ rfl _ _ 25 rfl w.heap.size 47 i0 _ 3 32 Tryd.underlying25 hi hz0 hz1 hz2 rfl (by decide) _ _ _ rfl ((hown1.alloc _).alloc _) ⟨w1.heap.size + 1, 0, Option.none⟩ 1 1 (cells3 t) rfl rfl ?c1 ?c2 ?c3 ?c4 ?c5 ?_)
              case c1 => exact laid3 _ t _ (by simp)
              case c2 => exact one3 t
              case c3 => unfold maxLen; omega
              case c4 => omega
              case c5 => have := hbw1.size; simp; omega
              intro v' w3 hown' hgrow _
              have hbw4 := snoc_below hown1 hbw1 hgrow
              have hown4 := snoc_own hown'
              clear hown' hgrow hown1 hbw1
              go_wp2
              go_roundw
              case rel => exact ⟨out ++ [t], nx, rfl, hown4, hbw4, hS⟩
              case measure => simp [RowKit.intOf]; omega
            · have HR2 := Lib.hid (hst.out.full Hk0.out HX.out htk h6)
              have h6' : (600 : Int) ≤ (out.length : Int) := by omega
              clear htk h6
              go_wp2
              go_ret2
              exact ⟨⟨_, by rw [HR2.out]; rfl, by rw [HR2.out]; exact own_empty (by have := hbw1.size; simp; omega) _ (by simp)⟩, (hbw1.alloc hbw1.size _).alloc (by have := hbw1.size; simp; omega) _⟩
    · have hR := hst.out.done (by rw [hlen]; exact hp)
      go_wp2
      go_ret2
      exact ⟨⟨_, by rw [hR]; rfl, by rw [hR]; exact hown⟩, hbw⟩
set_option maxRecDepth 100000 in
/-- The specification's Lex, at every text. -/
theorem spec_Lex (s : ByteArray) (o : Option (List T)) (ho : lex s.data.toList = o) (w : World) :
    Calls Tryd.prog 9 #[.string s] w fun e w' => LexOut w.heap.size w' o e ∧ Below w.heap.size w w' := by
  have hlen : s.data.toList.length = s.size := by simp
  by_cases hg : 3000 < s.size
  · have hO : Hid (o = Option.none) := show o = Option.none by rw [← ho, lex, if_pos (by omega)]
    have hg' : (3000 : Int) < (s.size : Int) := by omega
    clear hg ho hlen
    go_enter Tryd.func9, Tryd.ntmps9
    go_wp2
    go_ret2
    exact ⟨⟨_, by rw [hO.out]; rfl, by rw [hO.out]; exact own_empty (Nat.le_refl _) _ rfl⟩, (Below.refl _ w).alloc (Nat.le_refl _) _⟩
  · refine spec_Lex_text s o ?_ w (by omega)
    rw [← ho, lex, if_neg (by omega)]
end Go.Proofs.YtoogikibmdjpiaaDoor
