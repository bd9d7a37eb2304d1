/-
  That what the specification asks of a program's names is what the landed code asks of them (no Go).
-/
import Derived.Test.YtkilmefpaojkfaaGreatProgSpec
import Derived.Test.YtkilmefpaojkfaaGreatProgBody
namespace Go.Proofs.YtkilmefpaojkfaaGreat
open Go.RowKit Go.Lib Go.Maps Go.Sort Go.WideMaps
set_option linter.unusedSimpArgs false
set_option linter.unusedVariables false

theorem arrGo_mem : ∀ (ts : List AR) (k : Nat) (s : ByteArray), 0 ≤ arrGo ts k s ↔ s ∈ arrNames ts
  | [], k, s => by simp [arrGo, arrNames]
  | t :: ts, k, s => by
    unfold arrGo
    by_cases e : t.s = s
    · rw [if_pos e]; simp [arrNames, e]
    · rw [if_neg e, arrGo_mem ts (k + 1) s]
      have e' : ¬ s = t.s := fun c => e c.symm
      simp [arrNames, e']
theorem allArrs_iff (ts : List AR) (ns : List ByteArray) : allArrs ts ns = true ↔ ∀ s ∈ ns, s ∈ arrNames ts := by
  unfold allArrs; rw [List.all_eq_true]
  constructor
  · intro h s hs; have := h s hs; rw [decide_eq_true_eq] at this; exact (arrGo_mem ts 0 s).1 this
  · intro h s hs; rw [decide_eq_true_eq]; exact (arrGo_mem ts 0 s).2 (h s hs)
theorem apart_iff (a b : List ByteArray) : apart a b = true ↔ ∀ s ∈ a, s ∉ b := by
  unfold apart; rw [List.all_eq_true]
  constructor
  · intro h s hs hb
    have := h s hs
    rw [List.all_eq_true] at this
    have := this s hb
    simp at this
  · intro h s hs
    rw [List.all_eq_true]
    intro t ht
    have : ¬ t = s := fun e => h s hs (e ▸ ht)
    simp [this]
theorem nestB_iff : ∀ (F : SF) (ns : List ByteArray) (R : ByteArray → Bool), (∀ s, R s = true ↔ s ∈ ns) → (nestB F ns = true ↔ nestP F R)
  | .nil, ns, R, h => by simp [nestB, nestP]
  | .node p q hd l r, ns, R, h => by
    have hr := nestB_iff r ns R h
    have hl := nestB_iff l (ns ++ [hd.s]) (fun s => R s || decide (s = hd.s)) (fun s => by simp [h s])
    simp only [nestB, nestP, Bool.and_eq_true, hr]
    by_cases hk : hd.k = 3
    · rw [if_pos hk, Bool.and_eq_true, hl]
      have hin : ns.all (fun t => !decide (t = hd.s)) = true ↔ R hd.s = false := by
        rw [List.all_eq_true, ← Bool.not_eq_true, h hd.s]
        constructor
        · intro g hm; have := g _ hm; simp at this
        · intro g t ht; have : ¬ t = hd.s := fun e => g (e ▸ ht); simp [this]
      rw [hin]
      simp [hk]
    · rw [if_neg hk]; simp [hk]
theorem nm1 (k : Int) (F : SF) (s : ByteArray) : s ∈ nmS k F [] ↔ ∃ a ∈ sall F, a.1.k = k ∧ a.1.s = s := by
  rw [(nmS_names k F [] List.Pairwise.nil).2 s]
  constructor
  · rintro (h | ⟨a, ha, e⟩)
    · simp at h
    · unfold ofKind at e; split at e
      · injection e with e; exact ⟨a, ha, by assumption, e⟩
      · cases e
  · rintro ⟨a, ha, e1, e2⟩
    exact .inr ⟨a, ha, by unfold ofKind; rw [if_pos e1, e2]⟩
theorem nm2 (k : Int) (F : SF) (s : ByteArray) : s ∈ nmA k F [] ↔ ∃ n ∈ sall F, ∃ a ∈ hall n.1, a.1.k = k ∧ a.1.s = s := by
  rw [(nmA_names k F [] List.Pairwise.nil).2 s]
  constructor
  · rintro (h | ⟨a, ha, e⟩)
    · simp at h
    · obtain ⟨n, hn, hm⟩ := (sallE_mem F a).1 ha
      unfold ofKindE at e; split at e
      · injection e with e; exact ⟨n, hn, a, hm, by assumption, e⟩
      · cases e
  · rintro ⟨n, hn, a, ha, e1, e2⟩
    exact .inr ⟨a, (sallE_mem F a).2 ⟨n, hn, ha⟩, by unfold ofKindE; rw [if_pos e1, e2]⟩
/-- What the specification asks of the names, told of all statements at once. -/
theorem names_iff (ts : List AR) (F : SF) : namesB ts F = true ↔ ((AllFit (arrNames ts) ([] ++ sall F) ∧ nestP F (fun _ => false)) ∧ (nmS 1 F []).length ≤ 6) := by
  unfold namesB
  simp only [Bool.and_eq_true, decide_eq_true_eq, allArrs_iff, apart_iff, List.nil_append]
  rw [nestB_iff F [] (fun _ => false) (fun s => by simp)]
  constructor
  · rintro ⟨a1, a2, a3, a4, a5, a6, a7, a8⟩
    refine ⟨⟨fun n hn => ⟨fun a ha => ⟨fun e => a2 _ ((nm2 3 F _).2 ⟨n, hn, a, ha, e, rfl⟩), fun e hm => a5 _ hm ((nm2 2 F _).2 ⟨n, hn, a, ha, e, rfl⟩)⟩, fun e => a1 _ ((nm1 2 F _).2 ⟨n, hn, e, rfl⟩), fun e => ⟨fun hm => a3 _ hm ((nm1 1 F _).2 ⟨n, hn, e, rfl⟩), fun m hm e3 es => a6 n.1.s ((nm1 1 F _).2 ⟨n, hn, e, rfl⟩) ((nm1 3 F _).2 ⟨m, hm, e3, es⟩)⟩, fun e hm => a4 _ hm ((nm1 3 F _).2 ⟨n, hn, e, rfl⟩)⟩, a7⟩, a8⟩
  · rintro ⟨⟨h, a7⟩, a8⟩
    refine ⟨fun s hs => ?_, fun s hs => ?_, fun s hm hs => ?_, fun s hm hs => ?_, fun s hm hs => ?_, fun s h1 h3 => ?_, a7, a8⟩
    · obtain ⟨n, hn, e, rfl⟩ := (nm1 2 F s).1 hs; exact (h n hn).2.1 e
    · obtain ⟨n, hn, a, ha, e, rfl⟩ := (nm2 3 F s).1 hs; exact ((h n hn).1 a ha).1 e
    · obtain ⟨n, hn, e, rfl⟩ := (nm1 1 F s).1 hs; exact ((h n hn).2.2.1 e).1 hm
    · obtain ⟨n, hn, e, rfl⟩ := (nm1 3 F s).1 hs; exact (h n hn).2.2.2 e hm
    · obtain ⟨n, hn, a, ha, e, rfl⟩ := (nm2 2 F s).1 hs; exact ((h n hn).1 a ha).2 e hm
    · obtain ⟨n, hn, e, es⟩ := (nm1 1 F s).1 h1
      obtain ⟨m, hm, e3, es3⟩ := (nm1 3 F s).1 h3
      exact ((h n hn).2.2.1 e).2 m hm e3 (es3.trans es.symm)
theorem told_bodies : ∀ (F : SF) (d : Nat), toldS d F = true → bodies F
  | .nil, _, _ => trivial
  | .node p q h l r, d, e => by
    rw [toldS_node, Bool.and_eq_true] at e
    obtain ⟨e1, e2⟩ := e
    unfold toldSt at e1
    rw [Bool.and_eq_true] at e1
    refine ⟨fun hk => ?_, ?_, told_bodies r d e2⟩
    · rw [if_neg hk] at e1
      have := of_decide_eq_true e1.2
      cases l with
      | nil => rfl
      | node => simp [slen] at this
    · by_cases hk : h.k = 3
      · rw [if_pos hk] at e1
        unfold bodyTold at e1
        simp only [Bool.and_eq_true] at e1
        exact told_bodies l (d - 1) e1.2.2.2.2
      · rw [if_neg hk] at e1
        have := of_decide_eq_true e1.2
        cases l with
        | nil => trivial
        | node => simp [slen] at this
theorem stmts_told : ∀ (F : SF), stmtsB F = true → toldS 3 F = true
  | .nil, _ => rfl
  | .node p q h l r, e => by
    simp only [stmtsB, Bool.and_eq_true, stmtOk] at e
    rw [toldS_node, Bool.and_eq_true]
    exact ⟨e.1.1, stmts_told r e.2⟩
theorem nice_of : ∀ (F : SF), ssize F ≤ 1048576 → nice F := fun F hS a ha => by
  have key : ∀ (G : SF), a ∈ sall G → hsize a.1 + 1 ≤ ssize G := fun G => by
    induction G with
    | nil => intro hx; simp [sall] at hx
    | node _ _ h' l' r' ih1 ih2 =>
      intro hx
      simp only [sall, List.mem_cons, List.mem_append] at hx
      simp only [ssize]
      rcases hx with rfl | hx | hx
      · show hsize h' + 1 ≤ _; omega
      · have := ih1 hx; omega
      · have := ih2 hx; omega
  have h1 := key F ha
  refine ⟨by simp only [hsize] at h1; omega, ?_, fun e he => Nat.le_trans (hall_small a.1 e he) (by omega)⟩
  rw [hall_len]
  have := enodes_le a.1.x1.l; have := enodes_le a.1.x2.l; have := enodes_le a.1.x3.l; have := enodes_le a.1.x4.l
  simp only [hsize, xsize] at h1
  omega
end Go.Proofs.YtkilmefpaojkfaaGreat
