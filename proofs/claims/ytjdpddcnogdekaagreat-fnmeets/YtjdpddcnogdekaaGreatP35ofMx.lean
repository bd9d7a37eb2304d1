/-
  Texts in one: OrdUntil, OrdLast.
-/
import Derived.Test.YtjdpddcnogdekaaGreatProg
import Derived.Deep.RegionHeld
import Derived.WalkKit
/-
  A region that reads a cell which its last operation writes: what reads may be taken first if what it reads stays until it has come up.
-/
namespace Go.Proofs.YtjdpddcnogdekaaGreat
open Go.RowKit
set_option linter.unusedSimpArgs false
set_option linter.unusedVariables false

section
variable {P : Program} {ops : Array Oper} {Q : Exit → Act → World → Prop} {md : Region.Mode} {S : World → Prop} {i : Nat}
/-- Number j doesn't wait for number i. -/
def freeOf (md : Region.Mode) (ops : Array Oper) (i j : Nat) : Bool :=
  match ops[j]? with
  | some o => o.after.all fun e => !(Region.binds md e && decide (e.on = i))
  | none => true
/-- Whatever order is picked from here on; behind each operation that doesn't wait for number i the condition holds. -/
def wpAnyD (P : Program) (md : Region.Mode) (ops : Array Oper) (Q : Exit → Act → World → Prop) (S : World → Prop) (i : Nat) : Nat → Array Bool → Act → World → Prop
  | 0, listed, a, w => Region.ready md ops listed = [] ∧ Q .normal a w
  | fuel + 1, listed, a, w => (Region.ready md ops listed = [] → Q .normal a w) ∧ ∀ j ∈ Region.ready md ops listed, wpOp P ops Q j (fun a' w' => (freeOf md ops i j = true → S w') ∧ wpAnyD P md ops Q S i fuel (listed.setIfInBounds j true) a' w') a w
theorem wpAny_ofD : ∀ (fuel : Nat) (listed : Array Bool) (a : Act) (w : World), wpAnyD P md ops Q S i fuel listed a w → wpAny P md ops Q fuel listed a w
  | 0, _, _, _, h => h
  | fuel + 1, _, _, _, h => ⟨h.1, fun j hj => wpOp_mono (fun a' w' h' => wpAny_ofD fuel _ a' w' h'.2) (h.2 j hj)⟩
theorem freeOf_of {j : Nat} {oj : Oper} (hj : ops[j]? = some oj) (h : ∀ e ∈ oj.after, Region.binds md e = true → e.on ≠ i) : freeOf md ops i j = true := by
  unfold freeOf
  rw [hj]
  show (oj.after.all fun e => !(Region.binds md e && decide (e.on = i))) = true
  rw [Array.all_eq_true']
  intro e he
  cases hb : Region.binds md e with
  | false => rfl
  | true => have := h e he hb; simp [this]
/-- Of two that may come up now neither waits for the other. -/
theorem up_free {j : Nat} {oj : Oper} {listed : Array Bool} (hj : j ∈ Region.ready md ops listed) (hi : i ∈ Region.ready md ops listed) (ho : ops[j]? = some oj) : ∀ e ∈ oj.after, Region.binds md e = true → e.on ≠ i := by
  obtain ⟨_, o, ho', hw⟩ := mem_ready.1 hj
  obtain ⟨hni, _⟩ := mem_ready.1 hi
  rw [ho] at ho'
  cases ho'
  intro e he hb hei
  have hd := hw e he hb
  rw [hei] at hd
  by_cases hlt : i < listed.size
  · rw [Array.getD_eq_getD_getElem?, Array.getElem?_eq_getElem hlt, Option.getD_some] at hd hni
    rw [hd] at hni
    cases hni
  · rw [Array.getD_eq_getD_getElem?, Array.getElem?_eq_none (by omega)] at hd
    cases hd
/-- What is known of all that have not come up is known when fewer have not. -/
def Aside (md : Region.Mode) (ops : Array Oper) (i : Nat) (oi : Oper) (listed : Array Bool) : Prop :=
  ∀ k ok, ops[k]? = some ok → k ≠ i → listed.getD k true = false → (∀ e ∈ ok.after, Region.binds md e = true → e.on ≠ i) → oi.apart ops ok = true
theorem Aside.more {oi : Oper} {listed : Array Bool} {j : Nat} (h : Aside md ops i oi listed) (hj : listed.getD j true = false) : Aside md ops i oi (listed.setIfInBounds j true) := fun k ok hk hki hu hno => by
  refine h k ok hk hki ?_ hno
  rcases Nat.decEq j k with hne | he
  · rwa [getD_set_ne true hne] at hu
  · rw [← he]; exact hj
theorem wpAny_until {oi : Oper} {v : Value} (hi : ops[i]? = some oi) (hsel : ∀ (j : Nat) (o : Oper) cs b, ops[j]? = some o → o.op ≠ .select cs b)
    (hQ : ∀ c a w, Q (.panic c) (a.put oi.dst v) w → Q (.panic c) a w) : ∀ (fuel : Nat) (listed : Array Bool) (a : Act) (w : World), Aside md ops i oi listed → i ∈ Region.ready md ops listed → YieldsIf P ops S oi v a → S w →
      wpAnyD P md ops Q S i fuel (listed.setIfInBounds i true) (a.put oi.dst v) w → wpAny P md ops Q (fuel + 1) listed a w
  | 0, listed, a, w, _, hr, hy, hS, H => by
    refine ⟨fun h => (by rw [h] at hr; cases hr), fun j hj => ?_⟩
    rcases Nat.decEq j i with hne | he
    · have h1 := ready_mono hj hne
      rw [H.1] at h1
      cases h1
    · rw [he]; exact hy.wpOp hi hS H
  | fuel + 1, listed, a, w, hA, hr, hy, hS, H => by
    refine ⟨fun h => (by rw [h] at hr; cases hr), fun j hj => ?_⟩
    rcases Nat.decEq j i with hne | he
    · obtain ⟨hju, oj, hoj, _⟩ := mem_ready.1 hj
      have hno := up_free hj hr hoj
      refine wpOp_mono (fun a' w' h => wpAny_until hi hsel hQ fuel (listed.setIfInBounds j true) a' w' (hA.more hju) (ready_mono hr (Ne.symm hne)) h.1 (h.2.1 (freeOf_of hoj hno)) ?_) (wpOp_putIf hoj (hA j oj hoj hne hju hno) (fun cs b => hsel i oi cs b hi) (fun cs b => hsel j oj cs b hoj) hQ hy (H.2 j (ready_mono hj hne)))
      rw [Array.setIfInBounds_comm _ _ hne]
      exact h.2.2
    · rw [he]; exact hy.wpOp hi hS (wpAny_ofD _ _ _ _ H)
theorem wpAny_till {oi : Oper} {v : Value} {fuel : Nat} {listed : Array Bool} {a : Act} {w : World} (S : World → Prop) (hi : ops[i]? = some oi)
    (hs : Region.noSelect ops = true) (hf : Region.free md ops listed i = true) (hr : (Region.ready md ops listed).contains i = true)
    (hQ : ∀ c a w, Q (.panic c) (a.put oi.dst v) w → Q (.panic c) a w) (hy : YieldsIf P ops S oi v a) (hS : S w)
    (h : S w → wpAnyD P md ops Q S i fuel (listed.setIfInBounds i true) (a.put oi.dst v) w) : wpAny P md ops Q (fuel + 1) listed a w :=
  wpAny_until hi (Region.noSelect_spec hs) hQ fuel listed a w (Region.free_spec hi hf) (by simpa using hr) hy hS (h hS)
def AllReadyD (P : Program) (md : Region.Mode) (ops : Array Oper) (Q : Exit → Act → World → Prop) (S : World → Prop) (i : Nat) (fuel : Nat) (listed : Array Bool) (a : Act) (w : World) (rs : List Nat) : Prop :=
  ∀ j ∈ rs, wpOp P ops Q j (fun a' w' => (freeOf md ops i j = true → S w') ∧ wpAnyD P md ops Q S i fuel (listed.setIfInBounds j true) a' w') a w
theorem AllReadyD.nil {fuel : Nat} {listed : Array Bool} {a : Act} {w : World} : AllReadyD P md ops Q S i fuel listed a w [] := fun _ h => by cases h
theorem AllReadyD.cons {fuel : Nat} {listed : Array Bool} {a : Act} {w : World} {j : Nat} {o : Oper} {rs : List Nat} (ho : ops[j]? = some o)
    (h : ∀ K' : Act → World → Prop, Shut (∀ a w, (freeOf md ops i j = true → S w) → wpAnyD P md ops Q S i fuel (listed.setIfInBounds j true) a w → K' a w) → if Region.wanted o (yielded ops a.tmps) = true then Oper.wp P o a w K' Q else K' (a.put o.dst undef) w)
    (hs : AllReadyD P md ops Q S i fuel listed a w rs) : AllReadyD P md ops Q S i fuel listed a w (j :: rs) := fun k hk => by
  rcases List.mem_cons.1 hk with rfl | hk
  · exact wpOp_step ho (fun K' hK => h K' (fun a w hS hW => hK a w ⟨hS, hW⟩))
  · exact hs k hk
theorem wpAnyD_ready {rs : List Nat} {fuel : Nat} {listed : Array Bool} {a : Act} {w : World} (hr : Region.ready md ops listed = rs) (hne : rs ≠ [])
    (h : AllReadyD P md ops Q S i fuel listed a w rs) : wpAnyD P md ops Q S i (fuel + 1) listed a w := ⟨fun h0 => absurd (hr ▸ h0) hne, hr ▸ h⟩
theorem wpAnyD_done {listed : Array Bool} {a : Act} {w : World} (hr : Region.ready md ops listed = []) (h : Q .normal a w) :
    ∀ fuel, wpAnyD P md ops Q S i fuel listed a w
  | 0 => ⟨hr, h⟩
  | _ + 1 => ⟨fun _ => h, by rw [hr]; simp⟩
theorem region_drew {id : Nat} {a : Act} {w : World} (hm : P.follows .mixedOrders = true) (h : ∀ wd, wd = w.drew → wpAny P .any ops Q ops.size (Array.replicate ops.size false) a wd) : (Code.region id ops true).wp P Q a w := wp_region_any hm (h _ rfl)
/-- What waits for number i owes nothing. -/
theorem waitsN {j : Nat} (h : freeOf md ops i j = false) : ¬ freeOf md ops i j = true := fun e => by rw [h] at e; cases e
theorem waitsD {j : Nat} {w : World} (h : freeOf md ops i j = false) : freeOf md ops i j = true → S w := fun e => by rw [h] at e; cases e
end
end Go.Proofs.YtjdpddcnogdekaaGreat
/-
  A region that reads cells which its last operation writes: what is known of the world holds behind each operation but that one.
-/
namespace Go.Proofs.YtjdpddcnogdekaaGreat
open Go.RowKit
set_option linter.unusedSimpArgs false
set_option linter.unusedVariables false

section
variable {P : Program} {ops : Array Oper} {Q : Exit → Act → World → Prop} {md : Region.Mode} {S : World → Prop} {last : Nat}
/-- Whatever order is picked from here on; behind each operation but the last the condition holds. -/
def wpAnyL (P : Program) (md : Region.Mode) (ops : Array Oper) (Q : Exit → Act → World → Prop) (S : World → Prop) (last : Nat) : Nat → Array Bool → Act → World → Prop
  | 0, listed, a, w => Region.ready md ops listed = [] ∧ Q .normal a w
  | fuel + 1, listed, a, w => (Region.ready md ops listed = [] → Q .normal a w) ∧ ∀ j ∈ Region.ready md ops listed, wpOp P ops Q j (fun a' w' => (j ≠ last → S w') ∧ wpAnyL P md ops Q S last fuel (listed.setIfInBounds j true) a' w') a w
theorem wpAny_ofL : ∀ (fuel : Nat) (listed : Array Bool) (a : Act) (w : World), wpAnyL P md ops Q S last fuel listed a w → wpAny P md ops Q fuel listed a w
  | 0, _, _, _, h => h
  | fuel + 1, _, _, _, h => ⟨h.1, fun j hj => wpOp_mono (fun a' w' h' => wpAny_ofL fuel _ a' w' h'.2) (h.2 j hj)⟩
/-- Those that wait, one over another, for number i. -/
def descs (md : Region.Mode) (ops : Array Oper) (i : Nat) : List Nat :=
  (List.range ops.size).foldl (fun c k => if k = i then k :: c else match ops[k]? with | some o => if o.after.toList.any (fun e => Region.binds md e && c.contains e.on) then k :: c else c | none => c) []
def chnOk (md : Region.Mode) (ops : Array Oper) (listed : Array Bool) (last i : Nat) (ch : List Nat) : Bool :=
  ch.contains last && !(decide (i = last)) && ch.all fun c => !(listed.getD c true) && (decide (c = i) || match ops[c]? with | some o => o.after.toList.any (fun e => Region.binds md e && ch.contains e.on) | none => false)
structure Chn (md : Region.Mode) (ops : Array Oper) (listed : Array Bool) (last i : Nat) (ch : List Nat) : Prop where
  mem : last ∈ ch
  ne : i ≠ last
  un : ∀ c ∈ ch, listed.getD c true = false
  on : ∀ c ∈ ch, c = i ∨ ∃ o, ops[c]? = some o ∧ ∃ e ∈ o.after, Region.binds md e = true ∧ e.on ∈ ch
theorem Chn.of {listed : Array Bool} {i : Nat} {ch : List Nat} (h : chnOk md ops listed last i ch = true) : Chn md ops listed last i ch := by
  unfold chnOk at h
  simp only [Bool.and_eq_true, List.all_eq_true, Bool.not_eq_true', decide_eq_false_iff_not, Bool.or_eq_true, decide_eq_true_eq] at h
  refine ⟨by simpa using h.1.1, h.1.2, fun c hc => (h.2 c hc).1, fun c hc => ?_⟩
  rcases (h.2 c hc).2 with e | e
  · exact .inl e
  · right
    split at e
    · rename_i o ho
      rw [List.any_eq_true] at e
      obtain ⟨x, hx, e1⟩ := e
      simp only [Bool.and_eq_true] at e1
      exact ⟨o, ho, x, by simpa using hx, e1.1, by simpa using e1.2⟩
    · cases e
/-- What may come up is no such one, but for number i. -/
theorem Chn.off {listed : Array Bool} {i j : Nat} {ch : List Nat} (h : Chn md ops listed last i ch) (hj : j ∈ Region.ready md ops listed) (hne : j ≠ i) : j ∉ ch := by
  intro hc
  rcases h.on j hc with e | ⟨o, ho, e, he, hb, hp⟩
  · exact hne e
  · obtain ⟨_, o', ho', hw⟩ := mem_ready.1 hj
    rw [ho] at ho'
    cases ho'
    have hd := hw e he hb
    have hu := h.un _ hp
    by_cases hlt : e.on < listed.size
    · rw [Array.getD_eq_getD_getElem?, Array.getElem?_eq_getElem hlt, Option.getD_some] at hd hu
      rw [hd] at hu
      cases hu
    · rw [Array.getD_eq_getD_getElem?, Array.getElem?_eq_none (by omega)] at hd
      cases hd
theorem Chn.more {listed : Array Bool} {i j : Nat} {ch : List Nat} (h : Chn md ops listed last i ch) (hj : j ∉ ch) : Chn md ops (listed.setIfInBounds j true) last i ch :=
  ⟨h.mem, h.ne, fun c hc => by rw [getD_set_ne true (fun e => hj (by rw [e]; exact hc))]; exact h.un c hc, h.on⟩
theorem wpAnyL_until {i : Nat} {oi : Oper} {v : Value} {ch : List Nat} (hi : ops[i]? = some oi) (hsel : ∀ (j : Nat) (o : Oper) cs b, ops[j]? = some o → o.op ≠ .select cs b)
    (hQ : ∀ c a w, Q (.panic c) (a.put oi.dst v) w → Q (.panic c) a w) : ∀ (fuel : Nat) (listed : Array Bool) (a : Act) (w : World), Chn md ops listed last i ch → Aside md ops i oi listed → i ∈ Region.ready md ops listed → YieldsIf P ops S oi v a → S w →
      wpAnyL P md ops Q S last fuel (listed.setIfInBounds i true) (a.put oi.dst v) w → wpAnyL P md ops Q S last (fuel + 1) listed a w
  | 0, listed, a, w, hC, _, hr, hy, hS, H => by
    refine ⟨fun h => (by rw [h] at hr; cases hr), fun j hj => ?_⟩
    rcases Nat.decEq j i with hne | he
    · have h1 := ready_mono hj hne
      rw [H.1] at h1
      cases h1
    · rw [he]; exact hy.wpOp hi hS ⟨fun _ => hS, H⟩
  | fuel + 1, listed, a, w, hC, hA, hr, hy, hS, H => by
    refine ⟨fun h => (by rw [h] at hr; cases hr), fun j hj => ?_⟩
    rcases Nat.decEq j i with hne | he
    · obtain ⟨hju, oj, hoj, _⟩ := mem_ready.1 hj
      have hno := up_free hj hr hoj
      have hoff := hC.off hj hne
      have hjl : j ≠ last := fun e => hoff (by rw [e]; exact hC.mem)
      refine wpOp_mono (fun a' w' h => ⟨fun _ => h.2.1 hjl, wpAnyL_until hi hsel hQ fuel (listed.setIfInBounds j true) a' w' (hC.more hoff) (hA.more hju) (ready_mono hr (Ne.symm hne)) h.1 (h.2.1 hjl) ?_⟩) (wpOp_putIf hoj (hA j oj hoj hne hju hno) (fun cs b => hsel i oi cs b hi) (fun cs b => hsel j oj cs b hoj) hQ hy (H.2 j (ready_mono hj hne)))
      rw [Array.setIfInBounds_comm _ _ hne]
      exact h.2.2
    · rw [he]; exact hy.wpOp hi hS ⟨fun _ => hS, H⟩
theorem wpAnyL_take {i : Nat} {oi : Oper} {v : Value} {fuel : Nat} {listed : Array Bool} {a : Act} {w : World} (hi : ops[i]? = some oi)
    (hs : Region.noSelect ops = true) (hf : Region.free md ops listed i = true) (hr : (Region.ready md ops listed).contains i = true) (hc : chnOk md ops listed last i (descs md ops i) = true)
    (hQ : ∀ c a w, Q (.panic c) (a.put oi.dst v) w → Q (.panic c) a w) (hy : YieldsIf P ops S oi v a) (hS : S w)
    (h : wpAnyL P md ops Q S last fuel (listed.setIfInBounds i true) (a.put oi.dst v) w) : wpAnyL P md ops Q S last (fuel + 1) listed a w :=
  wpAnyL_until hi (Region.noSelect_spec hs) hQ fuel listed a w (Chn.of hc) (Region.free_spec hi hf) (by simpa using hr) hy hS h
def AllReadyL (P : Program) (md : Region.Mode) (ops : Array Oper) (Q : Exit → Act → World → Prop) (S : World → Prop) (last : Nat) (fuel : Nat) (listed : Array Bool) (a : Act) (w : World) (rs : List Nat) : Prop :=
  ∀ j ∈ rs, wpOp P ops Q j (fun a' w' => (j ≠ last → S w') ∧ wpAnyL P md ops Q S last fuel (listed.setIfInBounds j true) a' w') a w
theorem AllReadyL.nil {fuel : Nat} {listed : Array Bool} {a : Act} {w : World} : AllReadyL P md ops Q S last fuel listed a w [] := fun _ h => by cases h
theorem AllReadyL.cons {fuel : Nat} {listed : Array Bool} {a : Act} {w : World} {j : Nat} {o : Oper} {rs : List Nat} (ho : ops[j]? = some o)
    (h : ∀ K' : Act → World → Prop, Shut (∀ a w, (j ≠ last → S w) → wpAnyL P md ops Q S last fuel (listed.setIfInBounds j true) a w → K' a w) → if Region.wanted o (yielded ops a.tmps) = true then Oper.wp P o a w K' Q else K' (a.put o.dst undef) w)
    (hs : AllReadyL P md ops Q S last fuel listed a w rs) : AllReadyL P md ops Q S last fuel listed a w (j :: rs) := fun k hk => by
  rcases List.mem_cons.1 hk with rfl | hk
  · exact wpOp_step ho (fun K' hK => h K' (fun a w hS hW => hK a w ⟨hS, hW⟩))
  · exact hs k hk
theorem wpAnyL_ready {rs : List Nat} {fuel : Nat} {listed : Array Bool} {a : Act} {w : World} (hr : Region.ready md ops listed = rs) (hne : rs ≠ [])
    (h : AllReadyL P md ops Q S last fuel listed a w rs) : wpAnyL P md ops Q S last (fuel + 1) listed a w := ⟨fun h0 => absurd (hr ▸ h0) hne, hr ▸ h⟩
theorem wpAnyL_done {listed : Array Bool} {a : Act} {w : World} (hr : Region.ready md ops listed = []) (h : Q .normal a w) :
    ∀ fuel, wpAnyL P md ops Q S last fuel listed a w
  | 0 => ⟨hr, h⟩
  | _ + 1 => ⟨fun _ => h, by rw [hr]; simp⟩
theorem wp_region_last (S : World → Prop) (last : Nat) {id : Nat} {a : Act} {w : World} (hm : P.follows .mixedOrders = true) (h : wpAnyL P .any ops Q S last ops.size (Array.replicate ops.size false) a w.drew) : (Code.region id ops true).wp P Q a w := wp_region_any hm (wpAny_ofL _ _ _ _ h)
end
end Go.Proofs.YtjdpddcnogdekaaGreat
