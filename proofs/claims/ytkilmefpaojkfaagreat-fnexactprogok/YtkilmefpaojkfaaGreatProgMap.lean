/-
  The two maps of a naming; the contracts of the landed code's isArr and becomes.
-/
import Derived.Test.YtkilmefpaojkfaaGreatProgPlain
import Derived.Test.YtkilmefpaojkfaaGreatNameFour
import Derived.Maps.OwnOps
import Derived.Maps.OwnSet
namespace Go.Proofs.YtkilmefpaojkfaaGreat
open Go.RowKit Go.Lib Go.Maps Go.Sort Go.WideMaps
set_option linter.unusedSimpArgs false
set_option linter.unusedVariables false

/-- The map of that block has at most n entries and reads so. -/
def Rd (w : World) (b n : Nat) (T : ByteArray → Int) : Prop := ∃ D : DataW Unit, OwnM w b n D ∧ ∀ s : ByteArray, D.atKey (.string s.data.toList) (.lit (.int .i64 0)) = .lit (.int .i64 (T s))
theorem Rd.block {w w' : World} {b n : Nat} {T : ByteArray → Int} (h : Rd w b n T) (e : w'.heap[b]? = w.heap[b]?) : Rd w' b n T := by
  obtain ⟨D, h1, h2⟩ := h; exact ⟨D, h1.block e, h2⟩
theorem Rd.lt {w : World} {b n : Nat} {T : ByteArray → Int} (h : Rd w b n T) : b < w.heap.size := by obtain ⟨D, h1, _⟩ := h; exact h1.lt
theorem Rd.below {w w' : World} {b n : Nat} {T : ByteArray → Int} (h : Rd w b n T) (hb : Below w.heap.size w w') : Rd w' b n T := h.block (hb.block _ h.lt)
theorem Rd.gap {w w' : World} {b n lo hi : Nat} {T : ByteArray → Int} (h : Rd w b n T) (hg : Gap lo hi w w') (hn : b < lo ∨ hi ≤ b) : Rd w' b n T := h.block (hg.block _ h.lt hn)
theorem Rd.more {w : World} {b n m : Nat} {T : ByteArray → Int} (h : Rd w b n T) (hm : n ≤ m) : Rd w b m T := by
  obtain ⟨D, h1, h2⟩ := h; exact ⟨D, World.ownsMap.mono h1 hm, h2⟩
theorem Rd.as {w : World} {b n : Nat} {T T' : ByteArray → Int} (h : Rd w b n T) (e : ∀ s, T s = T' s) : Rd w b n T' := by
  obtain ⟨D, h1, h2⟩ := h; exact ⟨D, h1, fun s => by rw [h2 s, e s]⟩
theorem key_ne {s t : ByteArray} (h : ¬ t = s) : (Lit.string t.data.toList) ≠ .string s.data.toList := by
  intro e; injection e with e; exact h (ba_ext e)
theorem rd_put {D : DataW Unit} {T : ByteArray → Int} (hD : IsMap D) (h : ∀ s : ByteArray, D.atKey (.string s.data.toList) (.lit (.int .i64 0)) = .lit (.int .i64 (T s))) (s : ByteArray) (k : Int) (t : ByteArray) :
    (D.put (.string s.data.toList) (.lit (.int .i64 k))).atKey (.string t.data.toList) (.lit (.int .i64 0)) = .lit (.int .i64 (if t = s then k else T t)) := by
  by_cases e : t = s
  · subst e; rw [atKey_put_same hD (by exact ⟨⟩), if_pos rfl]
  · rw [atKey_put_other (key_ne e), if_neg e]; exact h t
theorem rd_del {D : DataW Unit} {T : ByteArray → Int} (h : ∀ s : ByteArray, D.atKey (.string s.data.toList) (.lit (.int .i64 0)) = .lit (.int .i64 (T s))) (s : ByteArray) (t : ByteArray) :
    (D.del (.string s.data.toList)).atKey (.string t.data.toList) (.lit (.int .i64 0)) = .lit (.int .i64 (if t = s then 0 else T t)) := by
  by_cases e : t = s
  · subst e; rw [atKey_del_same, if_pos rfl]
  · rw [atKey_del_other (key_ne e), if_neg e]; exact h t
theorem lit_int {a b : Int} {D : DataW Unit} (h : D = .lit (.int .i64 a)) (g : D = .lit (.int .i64 b)) : b = a := by
  rw [h] at g; injection g with g; injection g with _ g; exact g.symm
theorem keyS {s : ByteArray} (hs : s.size ≤ 10000000) : keyOf Tryz.prog 9 (.string s) = some (.string s.data.toList) := keyOf_string_mk Tryz.underlying9 (by unfold maxLen; omega)
theorem ret_boolM {a b : Bool} (h : a = b) : Ending.returned (.bool a) = .returned (.bool b) := by rw [h]
/-- A naming. -/
abbrev nam (tb ab : Nat) : Value := .agg #[.map (some tb), .map (some ab)]
set_option maxHeartbeats 1000000 in
set_option maxRecDepth 100000 in
theorem isArr_is (tb ab n : Nat) (T : ByteArray → Int) (s : ByteArray) (hs : s.size ≤ 10000000) (b : Bool) (hb : decide (T s = 1) = b) (w : World) (hR : Rd w tb n T) :
    Calls Tryz.prog 91 #[nam tb ab, .string s] w fun e w' => e = .returned (.bool b) ∧ Below w.heap.size w w' := by
  obtain ⟨D, hown, hat0⟩ := hR
  have HO := Lib.hid (hown.alloc (.cells #[.map (some tb), .map (some ab)] 68))
  have B := Lib.hid (alloc_below w (.cells #[.map (some tb), .map (some ab)] 68))
  have hkey := keyS hs
  have HA := Lib.hid (hat0 s)
  clear hown hat0
  have hone : Hid (T s = 1 → b = true) := fun h => by rw [← hb]; simpa using h
  have hnot : Hid (¬ T s = 1 → b = false) := fun h => by rw [← hb]; simpa using h
  clear hb
  go_enter Tryz.func91, Tryz.ntmps91
  go_wp2_with (at_lookup; refine wpList_lookup_own_int _ rfl _ _ 51 rfl 9 3 .i64 keyLaw Tryz.underlying51 Tryz.underlying3 (zeroInt _) tb n D rfl HO.out _ _ rfl hkey ?_; intro c hat hwc)
  all_goals (have hc := lit_int HA.out hat; subst hc)
  all_goals go_ret
  all_goals first
    | exact retB (by first | exact hone.out ‹_› | exact hnot.out ‹_›) B.out
    | exact retB (by
        by_cases h : T s = 1
        · rw [hone.out h]; simp [h]
        · rw [hnot.out h]; simp [h]) B.out
set_option maxHeartbeats 1000000 in
set_option maxRecDepth 100000 in
theorem becomes_is (tb ab n : Nat) (T : ByteArray → Int) (s : ByteArray) (hs : s.size ≤ 10000000) (k : Int) (hk : 1 ≤ k ∧ k ≤ 3) (hn : n < 10000000) (b : Bool) (hb : decide (T s = 0 ∨ T s = k) = b) (w : World) (hR : Rd w tb n T) :
    Calls Tryz.prog 92 #[nam tb ab, .string s, .int .i64 k] w fun e w' => e = .returned (.bool b) ∧ Rd w' tb (n + 1) (setT T s k) ∧ Gap tb (tb + 1) w w' := by
  have hlt := hR.lt
  have HR0 := Lib.hid hR
  obtain ⟨D, hown, hat0⟩ := hR
  have HO := Lib.hid (hown.alloc (.cells #[.map (some tb), .map (some ab)] 68))
  have B := Lib.hid (alloc_below w (.cells #[.map (some tb), .map (some ab)] 68))
  have hkey := keyS hs
  have HA := Lib.hid (hat0 s)
  have HA0 := Lib.hid hat0
  have hD := Lib.hid (hown.tidy keyLaw).isMap
  have hnI : (n : Int) < 10000000 := by omega
  have Hlt := Lib.hid hlt
  clear hown hat0 hlt
  have Hb := Lib.hid hb
  clear hb
  obtain ⟨k1, k2⟩ := hk
  by_cases h0 : T s = 0
  · have hb1 := Lib.hid (show b = true by rw [← Hb.out]; simp [h0])
    have c0 : (w.alloc (.cells #[.map (some tb), .map (some ab)] 68)).cell? ⟨w.heap.size, 0, Option.none⟩ = some (.map (some tb)) := box_cell (Below.refl _ _) rfl
    have HS := Lib.hid (show ∀ t, (if t = s then k else T t) = setT T s k t from fun t => by
      unfold setT
      by_cases e : t = s
      · rw [if_pos e, if_pos ⟨e, h0⟩]
      · rw [if_neg e, if_neg (fun c => e c.1)])
    have HA1 := Lib.hid (HA.out.trans (by rw [h0]))
    clear h0
    go_enter Tryz.func92, Tryz.ntmps92
    go_wp2_with (first
      | (at_lookup; refine wpList_lookup_own_int _ rfl _ _ 51 rfl 9 3 .i64 keyLaw Tryz.underlying51 Tryz.underlying3 (zeroInt _) tb n D rfl HO.out _ _ rfl hkey ?_; intro c hat hwc; obtain rfl := lit_int HA1.out hat)
      | (at_mapUpdate; refine wpList_mapUpdate_own _ rfl _ _ _ 51 rfl 9 3 keyLaw Tryz.underlying51 _ tb n _ rfl HO.out (by unfold maxLen; omega) _ _ _ rfl rfl hkey _ [] (plainElem_int Tryz.underlying3 (WalkArith.wf_i64 (by omega))) ?_)
      | go_in)
    intro w1 ho1 hg1
    have hgap := gap_map Hlt.out hg1
    have c1 : w1.cell? ⟨w.heap.size, 0, Option.none⟩ = some (.map (some tb)) := by
      have := hg1.block w.heap.size (by simp) (fun e => by injection e with e; have := Hlt.out; omega)
      unfold World.cell? at c0 ⊢; simp only [this]; exact c0
    have HR1 : Hid (Rd w1 tb (n + 1) (setT T s k)) := Lib.hid (Rd.as ⟨_, ho1, rd_put hD.out HA0.out s k⟩ HS.out)
    have HO1 := Lib.hid ho1
    have HP := Lib.hid (show (D.put (.string s.data.toList) (.lit (.int .i64 k))).atKey (.string s.data.toList) (.lit (.int .i64 0)) = .lit (.int .i64 k) by rw [rd_put hD.out HA0.out s k s, if_pos rfl])
    have HG := Lib.hid hgap
    clear hgap hg1 ho1 c0
    go_wp2_with (at_lookup; refine wpList_lookup_own_int _ rfl _ _ 51 rfl 9 3 .i64 keyLaw Tryz.underlying51 Tryz.underlying3 (zeroInt _) tb (n + 1) _ rfl HO1.out _ _ rfl hkey ?_; intro c hat hwc; obtain rfl := lit_int HP.out hat)
    go_ret
    exact ⟨ret_boolM hb1.out.symm, HR1.out, HG.out⟩
  · have HS := Lib.hid (show ∀ t, T t = setT T s k t from fun t => by unfold setT; rw [if_neg (fun c => h0 c.2)])
    have HR1 : Hid (Rd (w.alloc (.cells #[.map (some tb), .map (some ab)] 68)) tb (n + 1) (setT T s k)) := Lib.hid (Rd.as ((HR0.out.below B.out).more (Nat.le_succ _)) HS.out)
    have HG := Lib.hid (Gap.of tb (tb + 1) B.out)
    obtain ⟨c, Hc⟩ : ∃ c, Hid (c = T s) := ⟨_, rfl⟩
    rw [← Hc.out] at h0
    have HA1 := Lib.hid (HA.out.trans (by rw [← Hc.out]))
    have hne := int_ne h0
    have hbb : Hid (b = decide (c = k)) := Lib.hid (by rw [← Hb.out, ← Hc.out]; simp [h0])
    clear HA Hb HS HR0 Hc
    by_cases h1 : c = k
    · have h2 := Lib.hid (show b = true by rw [hbb.out]; exact decide_eq_true h1)
      subst h1
      go_enter Tryz.func92, Tryz.ntmps92
      go_wp2_with (at_lookup; refine wpList_lookup_own_int _ rfl _ _ 51 rfl 9 3 .i64 keyLaw Tryz.underlying51 Tryz.underlying3 (zeroInt _) tb n D rfl HO.out _ _ rfl hkey ?_; intro c' hat hwc; obtain rfl := lit_int HA1.out hat; clear hat hwc)
      go_ret
      exact ⟨ret_boolM h2.out.symm, HR1.out, HG.out⟩
    · have h2 := Lib.hid (show b = false by rw [hbb.out]; exact decide_eq_false h1)
      have hne1 := int_ne h1
      go_enter Tryz.func92, Tryz.ntmps92
      go_wp2_with (at_lookup; refine wpList_lookup_own_int _ rfl _ _ 51 rfl 9 3 .i64 keyLaw Tryz.underlying51 Tryz.underlying3 (zeroInt _) tb n D rfl HO.out _ _ rfl hkey ?_; intro c' hat hwc; obtain rfl := lit_int HA1.out hat; clear hat hwc)
      go_ret
      exact ⟨ret_boolM h2.out.symm, HR1.out, HG.out⟩
end Go.Proofs.YtkilmefpaojkfaaGreat
