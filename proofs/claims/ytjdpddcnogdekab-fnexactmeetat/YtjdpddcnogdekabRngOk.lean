/-
  Boxes: what is right; slices.ContainsFunc over ranges; hasRng, hasWays, rngEndOk, BoxOk of the landed code; l9At of the specification.
-/
import Derived.Test.YtjdpddcnogdekabRngRow
import Derived.Test.YtjdpddcnogdekabTokName
import Derived.Test.YtjdpddcnogdekabAstUnder
import Derived.Deep.RegionHeld
import Derived.Deep.QuietTactic
import Derived.BigQuiet
import Derived.Shelf.Abstract
namespace Go.Proofs.Ytjdpddcnogdekab
open Go.RowKit Go.Lib Go.Shelf
set_option linter.unusedSimpArgs false
set_option linter.unusedVariables false

def inEnd9 (n : Int) : Bool := decide (-10000 ≤ n) && decide (n ≤ 10000)
def hasR9 (rs : List RG) (s : ByteArray) : Bool := rs.any fun r => decide (r.s = s)
def rgOk9 (pre : List RG) (t : RG) : Bool := nameOk t.s.data.toList && inEnd9 t.lo && inEnd9 t.hi && !(hasR9 pre t.s)
def boxGo9 (rs : List RG) : Nat → Nat → Bool
  | _, 0 => true
  | k, n + 1 => (match rs[k]? with | some t => rgOk9 (rs.take k) t | none => true) && boxGo9 rs (k + 1) n
def boxOk9 (rs : List RG) : Bool := decide (rs.length ≤ 8) && boxGo9 rs 0 rs.length
def waysOk9 (rs : List RG) : Bool := boxOk9 rs && !(rs.any fun r => decide (r.lo > r.hi))
theorem boxGo9_at {rs : List RG} {k : Nat} {t : RG} (h : rs[k]? = some t) : boxGo9 rs k (rs.length - k) = (rgOk9 (rs.take k) t && boxGo9 rs (k + 1) (rs.length - (k + 1))) := by
  have hlt := (List.getElem?_eq_some_iff.1 h).1
  rw [show rs.length - k = (rs.length - (k + 1)) + 1 by omega, boxGo9, h]
theorem drop9 {ts : List RG} {k : Nat} {t : RG} (h : ts[k]? = some t) : ts.drop k = t :: ts.drop (k + 1) := by
  have hlt := (List.getElem?_eq_some_iff.1 h).1
  rw [List.drop_eq_getElem_cons hlt]; congr 1; rw [List.getElem?_eq_getElem hlt] at h; injection h
/-- Where the first one is that p says yes of. -/
def findR9 (p : RG → Bool) : List RG → Nat → Int
  | [], _ => -1
  | t :: r, k => if p t = true then (k : Int) else findR9 p r (k + 1)
theorem findR9_any (p : RG → Bool) : ∀ (l : List RG) (k : Nat), decide (findR9 p l k ≥ 0) = l.any p
  | [], _ => by simp [findR9]
  | t :: r, k => by
    unfold findR9
    by_cases h : p t = true
    · rw [if_pos h]; simp [h]
    · rw [if_neg h, findR9_any p r (k + 1)]; simp [h]
set_option maxHeartbeats 1000000 in
theorem IndexFunc9 (rs : List RG) (hn : rs.length ≤ 1000000000) (p : RG → Bool) (kf : Nat) (caps : Array Value) (hent : ∀ (args : Array Value) (w : World), (callFunc kf args).run Try.prog w = .ok (.enter kf args) w) (J : World → Prop) (hon : ∀ w w', J w → Below w.heap.size w w' → J w')
    (hcall : ∀ w, J w → ∀ t : RG, Calls Try.prog kf (#[.agg #[.string t.s, .int .i64 t.lo, .int .i64 t.hi]] ++ caps) w fun e w' => e = .returned (.bool (p t)) ∧ Below w.heap.size w w') (v : Value) (w : World) (hJ : J w) (hr : RV w 0 v rs) :
    Calls Try.prog 63 #[v, .func (.func kf) #[] caps] w fun e w' => e = .returned (.int .i64 (findR9 p rs 0)) ∧ Below w.heap.size w w' := by
  obtain ⟨ao, cap, rfl, _, hr⟩ := hr
  have Hr := Lib.hid hr
  have HJ := Lib.hid hJ
  have HO := Lib.hid hon
  have HC := Lib.hid hcall
  clear hr hJ hon hcall
  go_enter Try.func63, Try.ntmps63
  go_wp2
  go_loopw [8] (fun i wr => ∃ k : Nat, k ≤ rs.length ∧ i = .int .i64 k ∧ Hid (findR9 p rs 0 = findR9 p (rs.drop k) k) ∧ Hid (Below w.heap.size w wr)) (fun i _ => rs.length - (RowKit.intOf i).toNat)
  case atStart => exact ⟨0, by omega, rfl, rfl, Below.refl _ _⟩
  case round =>
    obtain ⟨k, hk, rfl, hg, HB⟩ := hrel
    by_cases hlt : k < rs.length
    · have hltI : (k : Int) < (rs.length : Int) := by omega
      obtain ⟨t, ht⟩ : ∃ t, rs[k]? = some t := ⟨rs[k], List.getElem?_eq_getElem hlt⟩
      rcases Hr.out with hr | ⟨g, off, rfl, _, gl, hc⟩
      · subst hr; simp at hlt
      have A0 := (HB.out.cell (p := ⟨g, off + k * 3, Option.none⟩) gl).trans (hc k t ht).1
      have A1 := (HB.out.cell (p := ⟨g, off + k * 3 + 1, Option.none⟩) gl).trans (hc k t ht).2.1
      have A2 := (HB.out.cell (p := ⟨g, off + k * 3 + 2, Option.none⟩) gl).trans (hc k t ht).2.2
      have hd : Hid (rs.drop k = t :: rs.drop (k + 1)) := drop9 ht
      have Jr := Lib.hid (HO.out _ _ HJ.out HB.out)
      clear hc ht
      cases hp : p t with
      | true =>
        have R : Hid (findR9 p rs 0 = (k : Int)) := by show findR9 p rs 0 = (k : Int); rw [hg.out, hd.out, findR9, if_pos hp]
        have HP := Lib.hid hp
        clear hp
        go_wp2_with fail
        refine (HC.out _ Jr.out t).mono ?_
        rintro e w1 ⟨rfl, hb1⟩
        rw [HP.out]
        have B1 := Lib.hid (HB.out.trans (hb1.mono HB.out.size))
        clear hb1 A0 A1 A2
        go_wp2
        go_ret
        exact retI R.out.symm B1.out
      | false =>
        have R : Hid (findR9 p rs 0 = findR9 p (rs.drop (k + 1)) (k + 1)) := by show findR9 p rs 0 = _; rw [hg.out, hd.out, findR9, if_neg (by simp [hp])]
        have HP := Lib.hid hp
        clear hp
        go_wp2_with fail
        refine (HC.out _ Jr.out t).mono ?_
        rintro e w1 ⟨rfl, hb1⟩
        rw [HP.out]
        have B1 := Lib.hid (HB.out.trans (hb1.mono HB.out.size))
        clear hb1 A0 A1 A2
        go_wp2
        go_roundw
        case rel => exact ⟨k + 1, by omega, by go_num, R.out, B1.out⟩
        case measure => simp [RowKit.intOf]; omega
    · have R : Hid (findR9 p rs 0 = -1) := by show findR9 p rs 0 = -1; rw [hg.out, List.drop_of_length_le (by omega)]; rfl
      go_wp2
      go_ret
      exact retI R.out.symm HB.out
theorem ContainsFunc9 (rs : List RG) (hn : rs.length ≤ 1000000000) (p : RG → Bool) (kf : Nat) (caps : Array Value) (hent : ∀ (args : Array Value) (w : World), (callFunc kf args).run Try.prog w = .ok (.enter kf args) w) (J : World → Prop) (hon : ∀ w w', J w → Below w.heap.size w w' → J w')
    (hcall : ∀ w, J w → ∀ t : RG, Calls Try.prog kf (#[.agg #[.string t.s, .int .i64 t.lo, .int .i64 t.hi]] ++ caps) w fun e w' => e = .returned (.bool (p t)) ∧ Below w.heap.size w w') (v : Value) (w : World) (hJ : J w) (hr : RV w 0 v rs) :
    Calls Try.prog 56 #[v, .func (.func kf) #[] caps] w fun e w' => e = .returned (.bool (rs.any p)) ∧ Below w.heap.size w w' := by
  have HX := Lib.hid (IndexFunc9 rs hn p kf caps hent J hon hcall v w hJ hr)
  clear hcall hJ hr hon hent
  go_enter Try.func56, Try.ntmps56
  go_wp2_with fail
  refine HX.out.mono ?_
  rintro e w1 ⟨rfl, hb1⟩
  have HB := Lib.hid hb1
  clear hb1
  go_wp2
  go_ret
  exact ⟨ret_bool (findR9_any p rs 0), HB.out⟩
theorem belowD9 {B : Nat} {w w' : World} (h : Below B w w') (n : Nat) : Below B w (w'.drewN n) := ⟨h.os, h.tape, h.output, h.size, h.block⟩
theorem enters_hasRng (args : Array Value) (w : World) : (callFunc 76 args).run Try.prog w = .ok (.enter 76 args) w := enters_of Try.func76 (by kernel_rfl) rfl args w
theorem enters_hasWays (args : Array Value) (w : World) : (callFunc 57 args).run Try.prog w = .ok (.enter 57 args) w := enters_of Try.func57 (by kernel_rfl) rfl args w
theorem hasRng1_is (s : ByteArray) (b : Nat) (w : World) (hw : w.cell? ⟨b, 0, Option.none⟩ = some (.string s)) (t : RG) :
    Calls Try.prog 76 #[.agg #[.string t.s, .int .i64 t.lo, .int .i64 t.hi], .pointer (some ⟨b, 0, Option.none⟩)] w fun e w' => e = .returned (.bool (decide (t.s = s))) ∧ Below w.heap.size w w' := by
  have q := keeps (alloc_below w (.cells #[.string t.s, .int .i64 t.lo, .int .i64 t.hi] 55)) hw
  have B := Lib.hid (alloc_below w (.cells #[.string t.s, .int .i64 t.lo, .int .i64 t.hi] 55))
  by_cases he : t.s = s
  · subst he
    go_enter Try.func76, Try.ntmps76
    go_wp2
    go_ret
    exact ⟨ret_bool (by simp), B.out⟩
  · have hne := str_ne he
    have R : Hid (decide (t.s = s) = false) := decide_eq_false he
    clear he
    go_enter Try.func76, Try.ntmps76
    go_wp2
    go_ret
    exact ⟨ret_bool R.out.symm, B.out⟩
theorem hasWays1_is (w : World) (t : RG) :
    Calls Try.prog 57 #[.agg #[.string t.s, .int .i64 t.lo, .int .i64 t.hi]] w fun e w' => e = .returned (.bool (decide (t.lo > t.hi))) ∧ Below w.heap.size w w' := by
  have B := Lib.hid (alloc_below w (.cells #[.string t.s, .int .i64 t.lo, .int .i64 t.hi] 55))
  go_enter Try.func57, Try.ntmps57
  go_wp2
  go_ret
  exact ⟨rfl, B.out⟩
set_option maxHeartbeats 1000000 in
theorem hasRng_is (rs : List RG) (hn : rs.length ≤ 1000000000) (s : ByteArray) (v : Value) (w : World) (hr : RV w 0 v rs) (b : Bool) (hb : hasR9 rs s = b) :
    Calls Try.prog 62 #[v, .string s] w fun e w' => e = .returned (.bool b) ∧ Below w.heap.size w w' := by
  subst hb
  have B := Lib.hid (alloc_below w (.cells #[.string s] 9))
  have HX := Lib.hid (ContainsFunc9 rs hn (fun r => decide (r.s = s)) 76 #[.pointer (some ⟨w.heap.size, 0, Option.none⟩)] enters_hasRng (fun W => W.cell? ⟨w.heap.size, 0, Option.none⟩ = some (.string s)) (fun W W' h hb => keeps hb h) (fun W h t => hasRng1_is s w.heap.size W h t) v (w.alloc (.cells #[.string s] 9)) (box_cell (Below.refl _ _) rfl) (hr.later B.out))
  clear hr
  go_enter Try.func62, Try.ntmps62
  go_wp2_with fail
  refine HX.out.mono ?_
  rintro e w1 ⟨rfl, hb1⟩
  have HB := Lib.hid (B.out.trans (hb1.mono B.out.size))
  clear hb1 HX
  go_wp2
  go_ret
  exact ⟨rfl, HB.out⟩
theorem rngEndOk_is (n : Int) (v : Bool) (hv : inEnd9 n = v) (w : World) : Calls Try.prog 61 #[.int .i64 n] w fun e w' => e = .returned (.bool v) ∧ w = w' := by
  subst hv
  by_cases h1 : -10000 ≤ n
  · by_cases h2 : n ≤ 10000
    all_goals
      go_enter Try.func61, Try.ntmps61
      go_wp2
      go_ret
      exact ⟨ret_bool (by simp [inEnd9, h1, h2]), rfl⟩
  · go_enter Try.func61, Try.ntmps61
    go_wp2
    go_ret
    exact ⟨ret_bool (by have h0 : decide ((-10000 : Int) ≤ n) = false := decide_eq_false (by omega); unfold inEnd9; rw [h0]; rfl), rfl⟩
end Go.Proofs.Ytjdpddcnogdekab
