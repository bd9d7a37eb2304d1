/-
  PROVED: at the landed commit laws.FnExactTokText returns true for every slice of signs: impl.TokText answers as the specification's TokText and writes into no argument, and nothing that was there turns; the listed package-level variables of Go's library (tables of strconv and math/bits) are as their own text lays them, which the card ties.
-/
import Derived.Test.YtoogikibmdjpiaaDoorRows
import Derived.Test.YtoogikibmdjpiaaDoorTie
import Derived.Test.YtoogikibmdjpiaaDoorCards
import Derived.Test.YtoogikibmdjpiaaDoorNumLaidEnv
import Derived.Test.YtoogikibmdjpiaaDoorTextLaw
import Derived.Deep.Slices
import Derived.WalkKit
import Derived.ProofKit
import Derived.OpenShut
import Derived.ShutString
import Derived.ChangeOld
import Derived.Below
import Derived.LaidMore
import Derived.SevenTiedAt
import Derived.Stop.Joined
namespace Go.Proofs.YtoogikibmdjpiaaDoor.fnExactTokText
open Go.ChangeShapes Go.WideShapes Go.ChangeAt Go.RowKit

theorem lt_of_cell {w : World} {a : Addr} {v : Value} (h : w.cell? a = some v) : a.block < w.heap.size := by
  unfold World.cell? at h
  split at h
  · rename_i e; exact (Array.getElem?_eq_some_iff.1 e).1
  · cases h
theorem own : ownKnob Tryd.prog.godebug = none := by kernel_rfl
theorem laidOut : laidOutB Tryd.prog = true := by kernel_rfl

set_option maxRecDepth 100000 in
/-- One sign that came in. -/
theorem open_tok {H : Type} {enc : TypeId × Value → H} {W : World} {fuel : Nat} {sp : Nat → Bool} {held : Bool} {a : Addr} {cs : List Value} {x : DataW H × List MemPlace} (h1 : W.cells? 0 a 3 = some cs) (h2 : DataW.trod enc Tryd.prog W 0 sp held fuel 67 cs = some x) :
    ∃ t : T, Fits t ∧ t.s.length ≤ 9223372036854775807 ∧ W.cell? (a.add 0) = some (.int .i64 t.k) ∧ W.cell? (a.add 1) = some (.string ⟨t.s.toArray⟩) ∧ W.cell? (a.add 2) = some (.int .i64 t.n) := by
  obtain ⟨_, hlen, hcell⟩ := World.cells?_some h1
  obtain ⟨xs, n, _, _, _, hxl, hf⟩ := DataW.trod_struct Tryd.underlying67 h2
  have ci : Tryd.prog.cellsOf 3 = 1 := by kernel_rfl
  have cs1 : Tryd.prog.cellsOf 9 = 1 := by kernel_rfl
  match xs, hxl, cs, hlen with
  | [y0, y1, y2], _, [v0, v1, v2], _ =>
    have g0 := hf 0 _ rfl
    have g1 := hf 1 _ rfl
    have g2 := hf 2 _ rfl
    simp [ci, cs1] at g0 g1 g2
    obtain ⟨k, e0, _, _⟩ := DataW.trod_int Tryd.underlying3 g0
    obtain ⟨s, e1, _, hs⟩ := DataW.trod_string Tryd.underlying9 g1
    obtain ⟨m, e2, _, hm⟩ := DataW.trod_int Tryd.underlying3 g2
    injection e0 with e0; injection e1 with e1; injection e2 with e2
    subst e0; subst e1; subst e2
    have hb := bounds_i64 hm
    refine ⟨⟨k, s.data.toList, m⟩, hb, ?_, hcell 0 (by omega), ?_, hcell 2 (by omega)⟩
    · have e : s.data.toList.length = s.size := by simp
      show s.data.toList.length ≤ _
      unfold maxLen at hs; omega
    · have := hcell 1 (by omega)
      rw [this]
      show some (Value.string s) = some (.string ⟨s.data.toList.toArray⟩)
      rw [arr_eq]
/-- The signs that came in. -/
theorem open_toks {H : Type} {enc : TypeId × Value → H} {W : World} {fuel : Nat} {held : Bool} {a0 : Option Addr} {len0 cap0 : Nat} {cs : List Value} {x : DataW H × List MemPlace} (hcs0 : cs = [.slice a0 len0 cap0]) (hf : DataW.trod enc Tryd.prog W 0 (fun _ => true) held fuel 33 cs = some x) :
    ∃ ts : List T, (∀ t ∈ ts, Fits t) ∧ (∀ t ∈ ts, t.s.length ≤ 9223372036854775807) ∧ ARow W (.slice a0 len0 cap0) ts := by
  have ce : Tryd.prog.cellsOf 67 = 3 := by kernel_rfl
  rcases Deep.open_slice Tryd.underlying33 hf with ⟨hcs, _⟩ | ⟨a, len, cap, m, n, D, Pl, hcs, _, hl, hmx, hm, _, each⟩
  · rw [hcs0] at hcs
    injection hcs with hcs
    injection hcs with e1 e2 e3
    subst e1; subst e2; subst e3
    exact ⟨[], (fun t h => by cases h), (fun t h => by cases h), Option.none, 0, rfl, by simp, .inl rfl⟩
  · rw [hcs0] at hcs
    injection hcs with hcs
    injection hcs with e1 e2 e3
    subst e1; subst e2; subst e3
    have hlm : len0 ≤ m := by rw [hm]; simpa using hl
    have each2 : ∀ i, i < len0 → ∃ t : T, Fits t ∧ t.s.length ≤ 9223372036854775807 ∧ W.cell? ((a.add (i * 3)).add 0) = some (.int .i64 t.k) ∧ W.cell? ((a.add (i * 3)).add 1) = some (.string ⟨t.s.toArray⟩) ∧ W.cell? ((a.add (i * 3)).add 2) = some (.int .i64 t.n) := by
      intro i hi
      obtain ⟨cs', h1, h2⟩ := each i (by omega)
      rw [ce] at h1
      exact open_tok h1 h2
    haveI : Inhabited T := ⟨⟨0, [], 0⟩⟩
    obtain ⟨q, hq⟩ := Deep.choose_lt each2
    have hget : ∀ i t, ((List.range len0).map q)[i]? = some t → i < len0 ∧ t = q i := by
      intro i t h
      have hi : i < len0 := by simpa using (List.getElem?_eq_some_iff.1 h).1
      rw [List.getElem?_map, List.getElem?_range hi] at h
      exact ⟨hi, (Option.some.inj h).symm⟩
    have hmem : ∀ t ∈ (List.range len0).map q, ∃ i, i < len0 ∧ t = q i := by
      intro t h
      obtain ⟨i, hi, e⟩ := List.mem_map.1 h
      exact ⟨i, List.mem_range.1 hi, e.symm⟩
    refine ⟨(List.range len0).map q, fun t h => ?_, fun t h => ?_, some a, cap0, ?_, ?_, ?_⟩
    · obtain ⟨i, hi, rfl⟩ := hmem t h; exact (hq i hi).1
    · obtain ⟨i, hi, rfl⟩ := hmem t h; exact (hq i hi).2.1
    · simp
    · have : ((List.range len0).map q).length = len0 := by simp
      rw [this]; unfold maxLen at hmx; omega
    · rcases Nat.eq_zero_or_pos len0 with h0 | h0
      · subst h0; exact .inl rfl
      · right
        obtain ⟨b, off, spot⟩ := a
        have hsp : spot = Option.none := by
          have := World.cell?_spot (hq 0 h0).2.2.1
          simpa [Addr.add] using this
        subst hsp
        have e : ∀ i j, ((⟨b, off, Option.none⟩ : Addr).add i).add j = ⟨b, off + i + j, Option.none⟩ := fun i j => by rw [Go.WideShapes.add_plain, Go.WideShapes.add_plain]
        refine ⟨b, off, rfl, ?_, fun i t h => ?_⟩
        · have := lt_of_cell (hq 0 h0).2.2.1
          rw [e] at this; exact this
        · obtain ⟨hi, rfl⟩ := hget i t h
          have := (hq i hi).2.2
          rw [e, e, e] at this
          exact this
theorem door_met (os : Os) (args : Array Value) : laidMetH Tryd.prog Rows.fnExactTokTextRow.laid ((World.doorLaid Tryd.prog 62 os).forCall (fun _ _ => 0) ⟨#[], args, []⟩).memory :=
  laidMetH_of_parts3 (fuel := 8) (laidMet_of_run' 8 (by kernel_rfl) (by kernel_rfl)) (by kernel_rfl) (by kernel_rfl)

set_option maxRecDepth 100000 in
theorem lifted (os : Os) (started : os.Started) (H : Type) (enc : TypeId × Value → H) :
    ReturnsInHanded {} Tryd.checked os 5 .any (fun w args => (Rows.fnExactTokTextSpec.pre enc Tryd.prog Tryd.f5 [] false w args ∧ laidMetH Tryd.prog Rows.fnExactTokTextRow.laid w) ∧ sizedMet enc Tryd.prog Tryd.f5 (OpenSpec.ofChange Rows.fnExactTokTextSpec) false w args)
      (Rows.fnExactTokTextSpec.post enc Tryd.prog Tryd.f5 false true false false) := by
  refine returnsInHanded_of_change_and (C := Tryd.checked) (X := fun w _ => laidMetH Tryd.prog Rows.fnExactTokTextRow.laid w) (fun _ _ _ hh h => h.of_heap hh) own started (by kernel_rfl) Tryd.func5
    (ChangeSpec.witness_shaped (enc := enc) (C := Tryd.checked) (os := os) (X := fun w _ => laidMetH Tryd.prog Rows.fnExactTokTextRow.laid w) false (World.doorLaid Tryd.prog 62 os) #[.slice none 0 0] 8 rfl (World.shaped_of_RefB (by kernel_rfl) (by kernel_rfl)) (by kernel_rfl) (by kernel_rfl) (by kernel_rfl) (door_met os _)) ?_
  intro W base args ds gs before hval0 hW _ _ hL _
  have hval : ∀ (j : Nat) t v, Tryd.f5.params[j]? = some t → args[j]? = some v → Value.okWide Tryd.prog W .any base t v := hval0
  have hW' := hW
  obtain ⟨p, q, hA0, hV, rfl, hfz, hnd⟩ := hW
  have hA : DataW.TrodAll enc Tryd.prog W 0 (fun _ => true) true Tryd.f5.params.toList args.toList ds p := hA0
  rw [Tryd.params5] at hA hval
  obtain ⟨v0, vs0, d0, ds0, p0, q0, hargs, rfl, rfl, h0, r0⟩ := trodAll_cons hA
  obtain ⟨rfl, rfl, rfl⟩ := trodAll_nil r0
  obtain rfl : args = #[v0] := by cases args; simp_all
  obtain ⟨rfl, rfl⟩ := trodVars_none hV
  obtain ⟨a0, len0, cap0, rfl⟩ := okWide_slice Tryd.underlying33 (hval 0 33 v0 rfl rfl)
  have k0 := h0
  have lt0 : ∀ x ∈ p0, x.block < W.heap.size := by obtain ⟨m, hm⟩ := k0; exact DataW.trod_lt m _ _ _ hm
  obtain ⟨ts, hfit, hsz, hrow⟩ : ∃ ts : List T, (∀ t ∈ ts, Fits t) ∧ (∀ t ∈ ts, t.s.length ≤ 9223372036854775807) ∧ ARow W (.slice a0 len0 cap0) ts := by
    obtain ⟨fuel, hf⟩ := h0
    exact open_toks (by simp [Value.cells]) hf
  have hE : Tab W := by
    have hL' := hL
    rw [MakeChecks.laidMetH_plain _ _ _ (by kernel_rfl)] at hL'
    exact tab_of (laidMet.tail (laidMet.tail hL'))
  clear hA0 hval0
  refine (exactTokText_walk ts hfit hsz _ W hE hrow).mono fun e W' ⟨he, bel⟩ => ?_
  subst he
  exact ⟨_, rfl, _, _, _, [], _, [], hW', trodAll_mk1 (shut_bool Tryd.underlying4 _), (trodAll_cons_mk (Below.trod laidOut (by kernel_rfl) (of_decide_eq_true (by kernel_rfl)) k0 bel lt0) trodAll_mk0), rfl, bel.frame _, fun h => by cases h⟩

theorem over : Rows.FnExactTokTextSaid :=
  OpenClaim.holds_of_wide 5 Tryd.f5 rfl rfl rfl rfl rfl rfl rfl ⟨rfl, rfl, rfl, rfl, rfl⟩ rfl rfl rfl rfl rfl (by kernel_rfl) Tryd.func5 (by kernel_rfl)
    (of_decide_eq_true (by kernel_rfl)) (by unfold Func.isWrapper; first | (rw [if_pos (by decide +kernel)]; kernel_rfl) | (rw [if_neg (by decide +kernel)]; exact ⟨rfl, rfl⟩))
    (fun os started H enc _ => lifted os started H enc)

theorem card : Rows.FnExactTokTextCardSaid :=
  Claim7.holds_tied_plain_at .later [] [.data, .data, .data] true (true, "584fd32140636827b0317bb8c6bfb2bed04ea626ce0f8cc13aad7d523b9cf1e9") true
    over (fun _ h => by cases h) (by kernel_rfl) (fun _ h => by cases h) fnExactTokText_row_tie rfl ⟨rfl, rfl⟩ (by kernel_rfl) rfl
    (fun f fn hf hfn => by
      obtain rfl : f = 5 := Option.some.inj ((show Tryd.prog.funcNamed Rows.fnExactTokTextRow.func = some 5 by kernel_rfl).symm.trans hf) |>.symm
      obtain rfl : fn = Tryd.f5 := (Option.some.inj (Tryd.func5.symm.trans hfn)).symm
      exact ⟨by kernel_rfl, fun j t ht => by
        rw [Tryd.params5] at ht
        have hm : t ∈ [ 33 ] := by simpa using Array.mem_of_getElem? ht
        have hall : ([ 33 ].all fun u => !Tryd.prog.wantsStandIn u) = true := by kernel_rfl
        exact (show Tryd.prog.wantsStandIn t = false by simpa using List.all_eq_true.1 hall t hm)⟩)
    (by kernel_rfl)
end Go.Proofs.YtoogikibmdjpiaaDoor.fnExactTokText
namespace Go.Proofs.YtoogikibmdjpiaaDoor
/-- THE STATEMENT -/
theorem fnExactTokText_holds : Rows.FnExactTokTextCardSaid := fnExactTokText.card
#print axioms fnExactTokText_holds
end Go.Proofs.YtoogikibmdjpiaaDoor
