/-
  One round of the landed code's Lex, in plain words: what stands open, and what is still to come.
-/
import Derived.Test.YtoogikibmdjpiaaDoorTokPlain
namespace Go.Proofs.YtoogikibmdjpiaaDoor
open Go.Lib Go.RowKit

def piece (l : List UInt8) (f pos : Nat) : List UInt8 := (l.take pos).drop f
theorem piece_succ {l : List UInt8} {f pos : Nat} (hf : f ≤ pos) (hp : pos < l.length) : piece l f (pos + 1) = piece l f pos ++ [l[pos]] := by
  unfold piece
  rw [List.take_succ_eq_append_getElem hp, List.drop_append_of_le_length (by simp; omega)]
theorem piece_one {l : List UInt8} {pos : Nat} (hp : pos < l.length) : piece l pos (pos + 1) = [l[pos]] := by
  rw [piece_succ (Nat.le_refl _) hp]
  have : piece l pos pos = [] := by unfold piece; rw [List.drop_eq_nil_iff]; simp; omega
  rw [this]; rfl
theorem drop_at {l : List UInt8} {pos : Nat} (hp : pos < l.length) : l.drop pos = l[pos] :: l.drop (pos + 1) := List.drop_eq_getElem_cons hp
/-- Where Lex stands: the signs that are done, a piece of kind k that stands open from f to pos, and what all of it will answer. -/
structure St (l : List UInt8) (R : Option (List T)) (done : List T) (k f pos : Nat) : Prop where
  le : f ≤ pos
  len : pos ≤ l.length
  ne : k ≠ 0 → f < pos
  k4 : k ≤ 4
  n600 : done.length ≤ 600
  inv : (k = 4 ∧ pos < l.length ∧ R = none) ∨ (k ≤ 3 ∧ (k ≠ 0 → ∀ b ∈ piece l f pos, kind b = k) ∧ R = cut done (pend k (piece l f pos) (l.drop pos)))
theorem St.start (l : List UInt8) : St l (cut [] (pend 0 [] l)) [] 0 0 0 :=
  ⟨Nat.le_refl _, Nat.zero_le _, fun h => absurd rfl h, by omega, by simp, .inr ⟨by omega, fun h => absurd rfl h, by simp [piece]⟩⟩
theorem St.on {l : List UInt8} {R : Option (List T)} {done : List T} {k f pos : Nat} (h : St l R done k f pos) (hp : pos < l.length) (hk : kind l[pos] = k) (hg : goes k = true) : St l R done k f (pos + 1) := by
  have hk0 : k = 1 ∨ k = 2 := by simpa [goes] using hg
  refine ⟨by have := h.le; omega, hp, fun _ => by have := h.le; omega, h.k4, h.n600, ?_⟩
  rcases h.inv with ⟨h4, _⟩ | ⟨_, ha, hR⟩
  · omega
  · refine .inr ⟨by omega, fun _ b hb => ?_, ?_⟩
    · rw [piece_succ h.le hp] at hb
      rcases List.mem_append.1 hb with hb | hb
      · exact ha (by omega) b hb
      · simp at hb; subst hb; exact hk
    · rw [hR, drop_at hp, pend_on _ _ hk hg, piece_succ h.le hp]
/-- A new piece begins. -/
theorem begun {l : List UInt8} {R : Option (List T)} {done : List T} {pos wd : Nat} (hn : done.length ≤ 600) (hp : pos < l.length) (h1 : 1 ≤ wd) (hw : kind l[pos] ≠ 4 → wd = 1) (h4 : kind l[pos] = 4 → pos + wd < l.length)
    (hR : R = cut done (pend 0 [] (l.drop pos))) : St l R done (kind l[pos]) pos (pos + wd) := by
  have hk := kind_lt l[pos]
  rw [drop_at hp, pend_start] at hR
  refine ⟨by omega, ?_, fun _ => by omega, hk, hn, ?_⟩
  · by_cases e : kind l[pos] = 4
    · have := h4 e; omega
    · have := hw e; omega
  · by_cases e : kind l[pos] = 4
    · refine .inl ⟨e, h4 e, ?_⟩
      have hlt : pos + 1 < l.length := by have := h4 e; omega
      rw [hR, e, drop_at hlt, pend_other]; rfl
    · have := hw e
      subst this
      refine .inr ⟨by omega, fun _ b hb => ?_, ?_⟩
      · rw [piece_one hp] at hb; simp at hb; subst hb; rfl
      · rw [hR, piece_one hp]
theorem St.gap {l : List UInt8} {R : Option (List T)} {done : List T} {f pos wd : Nat} (h : St l R done 0 f pos) (hp : pos < l.length) (h1 : 1 ≤ wd) (hw : kind l[pos] ≠ 4 → wd = 1) (h4 : kind l[pos] = 4 → pos + wd < l.length) :
    St l R done (kind l[pos]) pos (pos + wd) := by
  rcases h.inv with ⟨h0, _⟩ | ⟨_, _, hR⟩
  · omega
  · exact begun h.n600 hp h1 hw h4 (by rw [hR, pend_gap])
theorem St.ends {l : List UInt8} {R : Option (List T)} {done : List T} {k f pos : Nat} (h : St l R done k f pos) (hp : pos < l.length) (hk0 : k ≠ 0) (hg : ¬ (kind l[pos] = k ∧ goes k = true)) :
    R = none ∨ (k ≤ 3 ∧ R = cut done (match tok k (piece l f pos) with | some t => put t (pend 0 [] (l.drop pos)) | none => none)) := by
  rcases h.inv with ⟨_, _, hR⟩ | ⟨h3, _, hR⟩
  · exact .inl hR
  · refine .inr ⟨h3, ?_⟩
    rw [hR, drop_at hp, pend_end _ _ hk0 hg]
    cases YtoogikibmdjpiaaDoor.tok k (piece l f pos) <;> rfl
theorem St.tok {l : List UInt8} {R : Option (List T)} {done : List T} {k f pos wd : Nat} {t : T} (h : St l R done k f pos) (hp : pos < l.length) (hk0 : k ≠ 0) (hg : ¬ (kind l[pos] = k ∧ goes k = true))
    (ht : tok k (piece l f pos) = some t) (hd : done.length ≠ 600) (h1 : 1 ≤ wd) (hw : kind l[pos] ≠ 4 → wd = 1) (h4 : kind l[pos] = 4 → pos + wd < l.length) : St l R (done ++ [t]) (kind l[pos]) pos (pos + wd) := by
  have hn := h.n600
  rcases h.inv with ⟨rfl, _, _⟩ | _
  · simp [YtoogikibmdjpiaaDoor.tok] at ht
  · rcases h.ends hp hk0 hg with hR | ⟨_, hR⟩
    · rcases h.inv with ⟨rfl, _, _⟩ | ⟨_, _, hR2⟩
      · simp [YtoogikibmdjpiaaDoor.tok] at ht
      · refine begun (by simp; omega) hp h1 hw h4 ?_
        rw [hR2, drop_at hp, pend_end _ _ hk0 hg, ht, ← drop_at hp]
        exact cut_put _
    · refine begun (by simp; omega) hp h1 hw h4 ?_
      rw [hR, ht]
      exact cut_put _
theorem St.bad {l : List UInt8} {R : Option (List T)} {done : List T} {k f pos : Nat} (h : St l R done k f pos) (hp : pos < l.length) (hk0 : k ≠ 0) (hg : ¬ (kind l[pos] = k ∧ goes k = true)) (ht : YtoogikibmdjpiaaDoor.tok k (piece l f pos) = none) : R = none := by
  rcases h.ends hp hk0 hg with hR | ⟨_, hR⟩
  · exact hR
  · rw [hR, ht]; rfl
theorem St.full {l : List UInt8} {R : Option (List T)} {done : List T} {k f pos : Nat} {t : T} (h : St l R done k f pos) (hp : pos < l.length) (hk0 : k ≠ 0) (hg : ¬ (kind l[pos] = k ∧ goes k = true)) (ht : YtoogikibmdjpiaaDoor.tok k (piece l f pos) = some t) (hd : done.length = 600) : R = none := by
  rcases h.ends hp hk0 hg with hR | ⟨_, hR⟩
  · exact hR
  · rw [hR, ht]; exact cut_full hd _
theorem St.done {l : List UInt8} {R : Option (List T)} {done : List T} {k f pos : Nat} (h : St l R done k f pos) (hp : ¬ pos < l.length) : R = some done := by
  rcases h.inv with ⟨_, h4, _⟩ | ⟨_, _, hR⟩
  · omega
  · rw [hR, List.drop_eq_nil_iff.2 (by omega)]
    exact cut_nil h.n600
theorem St.letters {l : List UInt8} {R : Option (List T)} {done : List T} {k f pos : Nat} (h : St l R done k f pos) (h1 : k = 1) : (piece l f pos).all (fun b => kind b == 1) = true := by
  subst h1
  rcases h.inv with ⟨h4, _⟩ | ⟨_, ha, _⟩
  · omega
  · rw [List.all_eq_true]; intro b hb; simp [ha (by omega) b hb]
theorem extract_piece (s : ByteArray) (f pos : Nat) : (s.extract f pos).data.toList = piece s.data.toList f pos := by
  rw [ByteArray.data_extract, Array.toList_extract]
  unfold piece
  rw [List.extract_eq_take_drop, List.drop_take]
end Go.Proofs.YtoogikibmdjpiaaDoor
