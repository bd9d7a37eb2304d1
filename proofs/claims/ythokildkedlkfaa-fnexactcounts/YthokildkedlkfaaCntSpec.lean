/-
  How often a name is set and asked: plainly, and of the specification.
-/
import Derived.Test.YthokildkedlkfaaNameAskS
import Derived.Deep.RegionHeld
namespace Go.Proofs.Ythokildkedlkfaa
open Go.RowKit Go.Lib
set_option linter.unusedSimpArgs false
set_option linter.unusedVariables false

abbrev xaggC (x : X) (v : Value) : Value := .agg #[.int .i64 x.h.k, .int .i64 x.h.n, .string x.h.s, v]
def hitA (s : ByteArray) (a : EN) : Bool := decide (a.1.k = 2) && decide (a.1.s = s)
def hitS (s : ByteArray) (a : SN) : Bool := decide (a.1.k = 1) && decide (a.1.s = s)
def asksE (s : ByteArray) (R : EF) : Nat := (enall R).countP (hitA s)
def asksX (s : ByteArray) (x : X) : Nat := (xall x).countP (hitA s)
def asksF (s : ByteArray) (F : SF) : Nat := (sallE F).countP (hitA s)
def setsF (s : ByteArray) (F : SF) : Nat := (sall F).countP (hitS s)
theorem asksX_eq (s : ByteArray) (x : X) : asksX s x = asksE s x.l + (if hitA s (x.h, x.l) = true then 1 else 0) := by simp [asksX, asksE, xall, List.countP_cons]
theorem asksE_node (s : ByteArray) (p q : Nat) (h : EH) (l r : EF) : asksE s (.node p q h l r) = asksX s ⟨h, l⟩ + asksE s r := by
  rw [asksX_eq]; simp only [asksE, enall, List.countP_cons, List.countP_append]; omega
theorem asksE_le (s : ByteArray) (R : EF) : asksE s R ≤ enodes R := by
  have := List.countP_le_length (p := hitA s) (l := enall R); rw [enall_len] at this; exact this
def asksH (s : ByteArray) (h : SH) : Nat := asksX s h.x1 + (asksX s h.x2 + (asksX s h.x3 + asksX s h.x4))
theorem asksH_eq (s : ByteArray) (h : SH) : (hall h).countP (hitA s) = asksH s h := by simp [hall, asksH, asksX, List.countP_append]
theorem asksF_node (s : ByteArray) (p q : Nat) (h : SH) (l r : SF) : asksF s (.node p q h l r) = asksH s h + (asksF s l + asksF s r) := by
  simp only [asksF, sallE, List.countP_append, asksH_eq]
theorem setsF_node (s : ByteArray) (p q : Nat) (h : SH) (l r : SF) : setsF s (.node p q h l r) = (if hitS s (h, l) = true then 1 else 0) + (setsF s l + setsF s r) := by
  simp only [setsF, sall, List.countP_cons, List.countP_append]; omega
theorem asksF_le (s : ByteArray) (F : SF) : asksF s F ≤ (sallE F).length := List.countP_le_length
theorem setsF_le (s : ByteArray) (F : SF) : setsF s F ≤ snodes F := by
  have := List.countP_le_length (p := hitS s) (l := sall F); rw [sall_len] at this; exact this
theorem asksX_le (s : ByteArray) (x : X) : asksX s x ≤ enodes x.l + 1 := by
  rw [asksX_eq]; have := asksE_le s x.l; split <;> omega
def CntP (s : ByteArray) (F : SF) (w : World) (e : Ending) (w' : World) : Prop := e = .returned (.tuple #[.int .i64 (setsF s F : Nat), .int .i64 (asksF s F : Nat)]) ∧ Below w.heap.size w w'
def AskP (s : ByteArray) (x : X) (w : World) (e : Ending) (w' : World) : Prop := e = .returned (.int .i64 (asksX s x : Nat)) ∧ Below w.heap.size w w'
set_option maxHeartbeats 2000000 in
set_option maxRecDepth 100000 in
theorem l12Asks_step (s : ByteArray) (x : X)
    (ih : ∀ y : X, enodes y.l < enodes x.l → ∀ (w : World) (v : Value), EV w 0 y.l v → Calls Try.prog 51 #[xaggC y v, .string s] w (AskP s y w))
    (w : World) (v : Value) (hN : enodes x.l + 1 ≤ 10000000) (hv : EV w 0 x.l v) :
    Calls Try.prog 51 #[xaggC x v, .string s] w (AskP s x w) := by
  obtain ⟨b, o, ao, cap, rfl, hao, _, hin⟩ := hv
  have Hih := Lib.hid ih
  have hlenF := elen_le x.l
  have hlI : (elen x.l : Int) ≤ 10000000 := by omega
  have HN := Lib.hid hN
  have hB0 := alloc_below w (.cells #[.int .i64 x.h.k, .int .i64 x.h.n, .string x.h.s, .slice ao (elen x.l) cap] 26)
  have hin1 := Lib.hid (EIn_later hB0 _ _ _ hin)
  obtain ⟨W1, hW1⟩ : ∃ W1, W1 = w.alloc (.cells #[.int .i64 x.h.k, .int .i64 x.h.n, .string x.h.s, .slice ao (elen x.l) cap] 26) := ⟨_, rfl⟩
  have hcl : ∀ (w' : World), Below W1.heap.size W1 w' → w'.cell? ⟨w.heap.size, 3, Option.none⟩ = some (.slice ao (elen x.l) cap) := fun w' hb => by rw [hW1] at hb; exact box_cell (i := 3) hb rfl
  have Hcl := Lib.hid hcl
  have HB0 : Hid (Below w.heap.size w W1) := by rw [hW1]; exact hB0
  rw [← hW1] at hin1
  clear ih hin hcl hB0 hN
  obtain ⟨⟨xk, xn, xs⟩, xl⟩ := x
  by_cases hk : xk = 2
  · subst hk
    by_cases hs : xs = s
    · subst hs
      have HX : Hid (1 + asksE xs xl = asksX xs ⟨⟨2, xn, xs⟩, xl⟩) := show _ = _ by rw [asksX_eq]; simp [hitA]; omega
      go_enter Try.func51, Try.ntmps51
      go_wp2
      rw [← hW1]
      go_loopw [5, 6] (fun c i wr => ∃ (R : EF) (j cc : Nat), i = .int .i64 (j : Int) ∧ c = .int .i64 (cc : Int) ∧ Hid (j + elen R = elen xl ∧ cc + asksE xs R = asksX xs ⟨⟨2, xn, xs⟩, xl⟩ ∧ enodes R ≤ enodes xl ∧ EIn W1 0 R b (o + j * 4)) ∧ Below W1.heap.size W1 wr) (fun _ i _ => elen xl - (RowKit.intOf i).toNat)
      case atStart => exact ⟨xl, 0, 1, rfl, rfl, ⟨by omega, HX.out, Nat.le_refl _, by simpa using hin1.out⟩, Below.refl _ _⟩
      case round =>
        obtain ⟨R, j, cc, rfl, rfl, hr, hbw⟩ := hrel
        obtain ⟨e1, e2, e3, e4⟩ := hr.out
        have hcl := Hcl.out _ hbw
        cases R with
        | nil =>
          have hk : ¬ (j : Int) < (elen xl : Int) := by simp only [elen] at e1; omega
          have E : Hid (cc = asksX xs ⟨⟨2, xn, xs⟩, xl⟩) := show _ = _ by rw [← e2]; simp [asksE, enall]
          have HBW := Lib.hid (HB0.out.trans (hbw.mono HB0.out.size))
          clear hr e2 hbw
          go_wp2
          go_ret
          exact ⟨by rw [← E.out]; rfl, HBW.out⟩
        | node p q h l r =>
          have hlt : (j : Int) < (elen xl : Int) := by simp only [elen] at e1; omega
          have hne2 : ¬ xl = .nil := by intro e; rw [e] at e1; simp only [elen] at e1; omega
          obtain rfl : ao = some ⟨b, o, Option.none⟩ := hao.resolve_right hne2
          obtain ⟨hxc, hrr⟩ := EIn_node.1 e4
          obtain ⟨c0, c1, c2, u, c3, hu⟩ := XC.later hxc hbw
          simp only [enodes] at e3
          rw [asksE_node] at e2
          have Hl := Lib.hid (Hih.out ⟨h, l⟩ (show enodes l < _ by omega))
          have HU := Lib.hid hu
          have hccI : (cc : Int) + (asksX xs ⟨h, l⟩ : Int) ≤ 10000000 := by have h1 := asksX_le xs ⟨⟨2, xn, xs⟩, xl⟩; have h2 := HN.out; dsimp only at h1 h2; omega
          have He : Hid (j + 1 + elen r = elen xl ∧ cc + asksX xs ⟨h, l⟩ + asksE xs r = asksX xs ⟨⟨2, xn, xs⟩, xl⟩ ∧ enodes r ≤ enodes xl ∧ EIn W1 0 r b (o + (j + 1) * 4)) :=
            ⟨by simp only [elen] at e1; omega, by omega, by omega, by rw [show o + (j + 1) * 4 = o + j * 4 + 4 by omega]; exact hrr⟩
          clear hr e1 e2 e3 e4 hne2 hao hu hrr hxc
          go_wp2_with fail
          refine (Hl.out _ u HU.out).mono ?_
          rintro e w3 ⟨rfl, hb3⟩
          have hbw3 := Lib.hid (hbw.trans (hb3.mono hbw.size))
          obtain ⟨aa, haa⟩ : ∃ aa, asksX xs ⟨h, l⟩ = aa := ⟨_, rfl⟩
          rw [haa] at He hccI
          rw [haa]
          clear hb3 c0 c1 c2 c3 hbw hcl haa
          go_wp2
          go_roundw
          case rel => exact ⟨r, j + 1, cc + aa, by go_num, by go_num, He.out, hbw3.out⟩
          case measure => simp [RowKit.intOf]; omega
    · have HX : Hid (0 + asksE s xl = asksX s ⟨⟨2, xn, xs⟩, xl⟩) := show _ = _ by rw [asksX_eq]; simp [hitA, hs]
      have hsb := str_ne hs
      go_enter Try.func51, Try.ntmps51
      go_wp2
      rw [← hW1]
      go_loopw [5, 6] (fun c i wr => ∃ (R : EF) (j cc : Nat), i = .int .i64 (j : Int) ∧ c = .int .i64 (cc : Int) ∧ Hid (j + elen R = elen xl ∧ cc + asksE s R = asksX s ⟨⟨2, xn, xs⟩, xl⟩ ∧ enodes R ≤ enodes xl ∧ EIn W1 0 R b (o + j * 4)) ∧ Below W1.heap.size W1 wr) (fun _ i _ => elen xl - (RowKit.intOf i).toNat)
      case atStart => exact ⟨xl, 0, 0, rfl, rfl, ⟨by omega, HX.out, Nat.le_refl _, by simpa using hin1.out⟩, Below.refl _ _⟩
      case round =>
        obtain ⟨R, j, cc, rfl, rfl, hr, hbw⟩ := hrel
        obtain ⟨e1, e2, e3, e4⟩ := hr.out
        have hcl := Hcl.out _ hbw
        cases R with
        | nil =>
          have hk : ¬ (j : Int) < (elen xl : Int) := by simp only [elen] at e1; omega
          have E : Hid (cc = asksX s ⟨⟨2, xn, xs⟩, xl⟩) := show _ = _ by rw [← e2]; simp [asksE, enall]
          have HBW := Lib.hid (HB0.out.trans (hbw.mono HB0.out.size))
          clear hr e2 hbw
          go_wp2
          go_ret
          exact ⟨by rw [← E.out]; rfl, HBW.out⟩
        | node p q h l r =>
          have hlt : (j : Int) < (elen xl : Int) := by simp only [elen] at e1; omega
          have hne2 : ¬ xl = .nil := by intro e; rw [e] at e1; simp only [elen] at e1; omega
          obtain rfl : ao = some ⟨b, o, Option.none⟩ := hao.resolve_right hne2
          obtain ⟨hxc, hrr⟩ := EIn_node.1 e4
          obtain ⟨c0, c1, c2, u, c3, hu⟩ := XC.later hxc hbw
          simp only [enodes] at e3
          rw [asksE_node] at e2
          have Hl := Lib.hid (Hih.out ⟨h, l⟩ (show enodes l < _ by omega))
          have HU := Lib.hid hu
          have hccI : (cc : Int) + (asksX s ⟨h, l⟩ : Int) ≤ 10000000 := by have h1 := asksX_le s ⟨⟨2, xn, xs⟩, xl⟩; have h2 := HN.out; dsimp only at h1 h2; omega
          have He : Hid (j + 1 + elen r = elen xl ∧ cc + asksX s ⟨h, l⟩ + asksE s r = asksX s ⟨⟨2, xn, xs⟩, xl⟩ ∧ enodes r ≤ enodes xl ∧ EIn W1 0 r b (o + (j + 1) * 4)) :=
            ⟨by simp only [elen] at e1; omega, by omega, by omega, by rw [show o + (j + 1) * 4 = o + j * 4 + 4 by omega]; exact hrr⟩
          clear hr e1 e2 e3 e4 hne2 hao hu hrr hxc
          go_wp2_with fail
          refine (Hl.out _ u HU.out).mono ?_
          rintro e w3 ⟨rfl, hb3⟩
          have hbw3 := Lib.hid (hbw.trans (hb3.mono hbw.size))
          obtain ⟨aa, haa⟩ : ∃ aa, asksX s ⟨h, l⟩ = aa := ⟨_, rfl⟩
          rw [haa] at He hccI
          rw [haa]
          clear hb3 c0 c1 c2 c3 hbw hcl haa
          go_wp2
          go_roundw
          case rel => exact ⟨r, j + 1, cc + aa, by go_num, by go_num, He.out, hbw3.out⟩
          case measure => simp [RowKit.intOf]; omega
  · have HX : Hid (0 + asksE s xl = asksX s ⟨⟨xk, xn, xs⟩, xl⟩) := show _ = _ by rw [asksX_eq]; simp [hitA, hk]
    have hkb := int_ne hk
    go_enter Try.func51, Try.ntmps51
    go_wp2
    rw [← hW1]
    go_loopw [5, 6] (fun c i wr => ∃ (R : EF) (j cc : Nat), i = .int .i64 (j : Int) ∧ c = .int .i64 (cc : Int) ∧ Hid (j + elen R = elen xl ∧ cc + asksE s R = asksX s ⟨⟨xk, xn, xs⟩, xl⟩ ∧ enodes R ≤ enodes xl ∧ EIn W1 0 R b (o + j * 4)) ∧ Below W1.heap.size W1 wr) (fun _ i _ => elen xl - (RowKit.intOf i).toNat)
    case atStart => exact ⟨xl, 0, 0, rfl, rfl, ⟨by omega, HX.out, Nat.le_refl _, by simpa using hin1.out⟩, Below.refl _ _⟩
    case round =>
      obtain ⟨R, j, cc, rfl, rfl, hr, hbw⟩ := hrel
      obtain ⟨e1, e2, e3, e4⟩ := hr.out
      have hcl := Hcl.out _ hbw
      cases R with
      | nil =>
        have hk : ¬ (j : Int) < (elen xl : Int) := by simp only [elen] at e1; omega
        have E : Hid (cc = asksX s ⟨⟨xk, xn, xs⟩, xl⟩) := show _ = _ by rw [← e2]; simp [asksE, enall]
        have HBW := Lib.hid (HB0.out.trans (hbw.mono HB0.out.size))
        clear hr e2 hbw
        go_wp2
        go_ret
        exact ⟨by rw [← E.out]; rfl, HBW.out⟩
      | node p q h l r =>
        have hlt : (j : Int) < (elen xl : Int) := by simp only [elen] at e1; omega
        have hne2 : ¬ xl = .nil := by intro e; rw [e] at e1; simp only [elen] at e1; omega
        obtain rfl : ao = some ⟨b, o, Option.none⟩ := hao.resolve_right hne2
        obtain ⟨hxc, hrr⟩ := EIn_node.1 e4
        obtain ⟨c0, c1, c2, u, c3, hu⟩ := XC.later hxc hbw
        simp only [enodes] at e3
        rw [asksE_node] at e2
        have Hl := Lib.hid (Hih.out ⟨h, l⟩ (show enodes l < _ by omega))
        have HU := Lib.hid hu
        have hccI : (cc : Int) + (asksX s ⟨h, l⟩ : Int) ≤ 10000000 := by have h1 := asksX_le s ⟨⟨xk, xn, xs⟩, xl⟩; have h2 := HN.out; dsimp only at h1 h2; omega
        have He : Hid (j + 1 + elen r = elen xl ∧ cc + asksX s ⟨h, l⟩ + asksE s r = asksX s ⟨⟨xk, xn, xs⟩, xl⟩ ∧ enodes r ≤ enodes xl ∧ EIn W1 0 r b (o + (j + 1) * 4)) :=
          ⟨by simp only [elen] at e1; omega, by omega, by omega, by rw [show o + (j + 1) * 4 = o + j * 4 + 4 by omega]; exact hrr⟩
        clear hr e1 e2 e3 e4 hne2 hao hu hrr hxc
        go_wp2_with fail
        refine (Hl.out _ u HU.out).mono ?_
        rintro e w3 ⟨rfl, hb3⟩
        have hbw3 := Lib.hid (hbw.trans (hb3.mono hbw.size))
        obtain ⟨aa, haa⟩ : ∃ aa, asksX s ⟨h, l⟩ = aa := ⟨_, rfl⟩
        rw [haa] at He hccI
        rw [haa]
        clear hb3 c0 c1 c2 c3 hbw hcl haa
        go_wp2
        go_roundw
        case rel => exact ⟨r, j + 1, cc + aa, by go_num, by go_num, He.out, hbw3.out⟩
        case measure => simp [RowKit.intOf]; omega
theorem l12Asks_all (s : ByteArray) : ∀ (n : Nat) (x : X), enodes x.l < n → ∀ (w : World) (v : Value), enodes x.l + 1 ≤ 10000000 → EV w 0 x.l v → Calls Try.prog 51 #[xaggC x v, .string s] w (AskP s x w)
  | 0, _, h, _, _, _, _ => absurd h (by omega)
  | n + 1, x, h, w, v, hN, hv => l12Asks_step s x (fun y hy w v hv => l12Asks_all s n y (by omega) w v (by omega) hv) w v hN hv
theorem l12Asks_is (s : ByteArray) (x : X) (w : World) (v : Value) (hN : enodes x.l + 1 ≤ 10000000) (hv : EV w 0 x.l v) : Calls Try.prog 51 #[xaggC x v, .string s] w (AskP s x w) := l12Asks_all s _ x (Nat.lt_succ_self _) w v hN hv
end Go.Proofs.Ythokildkedlkfaa
