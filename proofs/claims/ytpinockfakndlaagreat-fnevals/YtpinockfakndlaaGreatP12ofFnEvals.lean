import Derived.Test.YtpinockfakndlaaGreatP10ofFnEvals
import Derived.Test.YtpinockfakndlaaGreatP11ofFnEvals
import Derived.OwnWalk
import Derived.Deep.RegionWith
import Derived.Deep.Cut
import Derived.Deep.CutRange
namespace Go.Proofs.YtpinockfakndlaaGreat
open Go.RowKit Go.Lib
set_option linter.unusedSimpArgs false
set_option linter.unusedVariables false
def Res : Option T → Int → ByteArray → Int → Bool → Prop
  | some t, k, s, n, b => k = t.k ∧ s = ⟨t.s.toArray⟩ ∧ n = t.n ∧ b = true
  | Option.none, k, s, n, b => k = 0 ∧ s = ⟨#[]⟩ ∧ n = 0 ∧ b = false
theorem arr_eq (s : ByteArray) : (⟨s.data.toList.toArray⟩ : ByteArray) = s := by cases s; simp
theorem cell3 {w : World} {b : Nat} {x y z : Value} {t : TypeId} (h : w.heap[b]? = some (.cells #[x, y, z] t (0, 0))) :
    (w.cell? ⟨b, 0, Option.none⟩ = some x ∧ w.cell? ⟨b, 1, Option.none⟩ = some y ∧ w.cell? ⟨b, 2, Option.none⟩ = some z) ∧ w.frozen? ⟨b, 0, Option.none⟩ = false ∧ w.frozen? ⟨b, 1, Option.none⟩ = false ∧ w.frozen? ⟨b, 2, Option.none⟩ = false := by
  simp [World.cell?, World.frozen?, h]
theorem zero3 {w w1 : World} (hb : Below (w.alloc (.cells #[.int .i64 0, .string ⟨#[]⟩, .int .i64 0] 172)).heap.size (w.alloc (.cells #[.int .i64 0, .string ⟨#[]⟩, .int .i64 0] 172)) w1) :
    w1.heap[w.heap.size]? = some (.cells #[.int .i64 0, .string ⟨#[]⟩, .int .i64 0] 172 (0, 0)) := by
  have e : (w.alloc (.cells #[.int .i64 0, .string ⟨#[]⟩, .int .i64 0] 172)).heap = w.heap.push (.cells #[.int .i64 0, .string ⟨#[]⟩, .int .i64 0] 172 (0, 0)) := rfl
  rw [hb.block w.heap.size (by rw [e]; simp), e]; simp
theorem below3 {w w1 : World} {o : Obj} (hb : Below (w.alloc o).heap.size (w.alloc o) w1) : Below w.heap.size w w1 :=
  ((Below.refl _ w).alloc (Nat.le_refl _) o).trans (hb.mono (by simp))
theorem set3T {w w1 : World} (hb : Below w.heap.size w w1) (x y z : Value) : Below w.heap.size w (((w1.setCell ⟨w.heap.size, 0, Option.none⟩ x).setCell ⟨w.heap.size, 1, Option.none⟩ y).setCell ⟨w.heap.size, 2, Option.none⟩ z) :=
  ((hb.setCell (p := ⟨w.heap.size, 0, Option.none⟩) (Nat.le_refl _) _).setCell (p := ⟨w.heap.size, 1, Option.none⟩) (Nat.le_refl _) _).setCell (p := ⟨w.heap.size, 2, Option.none⟩) (Nat.le_refl _) _
end Go.Proofs.YtpinockfakndlaaGreat
namespace Go.Proofs.YtpinockfakndlaaGreat
open Go.Lib Go.RowKit
set_option linter.unusedSimpArgs false
set_option linter.unusedVariables false
def piece (l : List UInt8) (f pos : Nat) : List UInt8 := (l.take pos).drop f
theorem piece_succ {l : List UInt8} {f pos : Nat} (hf : f ≤ pos) (hp : pos < l.length) : piece l f (pos + 1) = piece l f pos ++ [l[pos]] := by
  unfold piece
  rw [List.take_succ_eq_append_getElem hp, List.drop_append_of_le_length (by simp; omega)]
theorem piece_one {l : List UInt8} {pos : Nat} (hp : pos < l.length) : piece l pos (pos + 1) = [l[pos]] := by
  rw [piece_succ (Nat.le_refl _) hp]
  have : piece l pos pos = [] := by unfold piece; rw [List.drop_eq_nil_iff]; simp; omega
  rw [this]; rfl
theorem drop_at {l : List UInt8} {pos : Nat} (hp : pos < l.length) : l.drop pos = l[pos] :: l.drop (pos + 1) := List.drop_eq_getElem_cons hp
structure St (l : List UInt8) (R : Option (List T)) (done : List T) (k f pos : Nat) : Prop where
  le : f ≤ pos
  len : pos ≤ l.length
  ne : k ≠ 0 → f < pos
  k4 : k ≤ 4
  n600 : done.length ≤ 600
  inv : (k = 4 ∧ pos < l.length ∧ R = none) ∨ (k ≤ 3 ∧ (k ≠ 0 → ∀ b ∈ piece l f pos, kind b = k) ∧ R = cut done (pend k (piece l f pos) (l.drop pos)))
theorem extract_piece (s : ByteArray) (f pos : Nat) : (s.extract f pos).data.toList = piece s.data.toList f pos := by
  rw [ByteArray.data_extract, Array.toList_extract]
  unfold piece
  rw [List.extract_eq_take_drop, List.drop_take]
end Go.Proofs.YtpinockfakndlaaGreat
namespace Go.Proofs.YtpinockfakndlaaGreat
open Go.RowKit Go.Lib
set_option linter.unusedSimpArgs false
set_option linter.unusedVariables false
def cells3 (t : T) : List Value := [.int .i64 t.k, .string ⟨t.s.toArray⟩, .int .i64 t.n]
def cellsOf (ts : List T) : List Value := ts.flatMap cells3
theorem cellsOf_snoc (ts : List T) (t : T) : cellsOf (ts ++ [t]) = cellsOf ts ++ cells3 t := by simp [cellsOf]
theorem own_later {w w' : World} {B sz n : Nat} {e : TypeId} {v : Value} {xs : List Value} (h : w.ownsRow B e sz v n xs) (hk : ∀ g c, B ≤ g → w.heap[g]? = some (.cells c e (0, 0)) → w'.heap[g]? = w.heap[g]?) : w'.ownsRow B e sz v n xs := by
  refine ⟨h.1, ?_⟩
  rcases h.2 with h0 | ⟨g, cap, cur, h1, h2, h3, h4⟩
  · exact .inl h0
  · exact .inr ⟨g, cap, cur, h1, h2, (hk g cur h2 h3).trans h3, h4⟩
theorem lt_of_heap {w : World} {g : Nat} {o : Obj} (h : w.heap[g]? = some o) : g < w.heap.size := (Array.getElem?_eq_some_iff.1 h).1
theorem own_below {w w' : World} {B sz n : Nat} {e : TypeId} {v : Value} {xs : List Value} (h : w.ownsRow B e sz v n xs) (hb : Below w.heap.size w w') : w'.ownsRow B e sz v n xs :=
  own_later h fun g _ _ hg => hb.block g (lt_of_heap hg)
theorem own_shape {w : World} {B sz n : Nat} {e : TypeId} {v : Value} {xs : List Value} (h : w.ownsRow B e sz v n xs) : ∃ ao cap, v = .slice ao n cap := by
  rcases h.2 with ⟨h0, rfl⟩ | ⟨g, cap, cur, h1, _⟩
  · exact ⟨_, _, h0⟩
  · exact ⟨_, _, h1⟩
theorem below_keeps {w w' : World} {I : Nat} {o : Obj} (hb : Below w.heap.size w w') (h : w.heap[I]? = some o) : w'.heap[I]? = some o := (hb.block I (lt_of_heap h)).trans h
def LexOut (B : Nat) (w' : World) (o : Option (List T)) (e : Ending) : Prop :=
  ∃ v, e = .returned (.tuple #[v, .bool o.isSome]) ∧ w'.ownsRow B 172 3 v (o.getD []).length (cellsOf (o.getD []))
theorem infoTok : (Tryz.prog.info? 172).map (fun i => (i.zero, i.size, i.bytes)) = some (some (.agg #[.int .i64 0, .string ⟨#[]⟩, .int .i64 0]), 3, 32) := by kernel_rfl
theorem laid3L (w : World) (t : T) (N : Nat) (hN : w.heap.size = N) : ∀ j u, (cells3 t)[j]? = some u → (w.alloc (.cells #[.int .i64 t.k, .string ⟨t.s.toArray⟩, .int .i64 t.n] 172)).cell? ((⟨N, 0, Option.none⟩ : Addr).add j) = some u := by
  subst hN
  intro j u h
  have e : (w.alloc (.cells #[.int .i64 t.k, .string ⟨t.s.toArray⟩, .int .i64 t.n] 172)).heap[w.heap.size]? = some (.cells #[.int .i64 t.k, .string ⟨t.s.toArray⟩, .int .i64 t.n] 172 (0, 0)) := by
    show (w.heap.push _)[w.heap.size]? = _
    simp
  have e2 : ((⟨w.heap.size, 0, Option.none⟩ : Addr).add j) = ⟨w.heap.size, j, Option.none⟩ := by simp [Addr.add]; omega
  rw [e2]
  simp only [World.cell?, e]
  match j, h with
  | 0, h => simpa [cells3] using h
  | 1, h => simpa [cells3] using h
  | 2, h => simpa [cells3] using h
  | j + 3, h => simp [cells3] at h
theorem one3 (t : T) : ∀ u ∈ cells3 t, u.oneCell' = true := by
  intro u hu
  simp only [cells3, List.mem_cons, List.not_mem_nil, or_false] at hu
  rcases hu with rfl | rfl | rfl <;> rfl
theorem snoc_own {w3 : World} {B : Nat} {done : List T} {t : T} {v : Value} (h : w3.ownsRow B 172 3 v (done.length + 1) (cellsOf done ++ cells3 t)) : w3.ownsRow B 172 3 v (done ++ [t]).length (cellsOf (done ++ [t])) := by
  rw [cellsOf_snoc, List.length_append]; exact h
theorem snoc_below {w w2 w3 : World} {n : Nat} {v : Value} {xs : List Value} {o1 o2 : Obj} (hown : w2.ownsRow w.heap.size 172 3 v n xs) (hb : Below w.heap.size w w2) (hg : ((w2.alloc o1).alloc o2).grownBy w3 v.ownBlock) : Below w.heap.size w w3 :=
  ((hb.alloc hb.size o1).alloc (by have := hb.size; simp; omega) o2).grown hg (by have := hb.size; simp; omega) (fun k hk => (hown.lt k hk).1)
def Row (w : World) (v : Value) (ts : List T) : Prop :=
  ∃ ao cap, v = .slice ao ts.length cap ∧ (ts = [] ∨ ∃ g, ao = some ⟨g, 0, Option.none⟩ ∧ g < w.heap.size ∧ ∀ i t, ts[i]? = some t →
    w.cell? ⟨g, i * 3, Option.none⟩ = some (.int .i64 t.k) ∧ w.cell? ⟨g, i * 3 + 1, Option.none⟩ = some (.string ⟨t.s.toArray⟩) ∧ w.cell? ⟨g, i * 3 + 2, Option.none⟩ = some (.int .i64 t.n))
theorem cellsOf_get (ts : List T) : ∀ i t, ts[i]? = some t → (cellsOf ts)[i * 3]? = some (.int .i64 t.k) ∧ (cellsOf ts)[i * 3 + 1]? = some (.string ⟨t.s.toArray⟩) ∧ (cellsOf ts)[i * 3 + 2]? = some (.int .i64 t.n) := by
  induction ts with
  | nil => intro i t h; simp at h
  | cons u us ih =>
    intro i t h
    have e : cellsOf (u :: us) = .int .i64 u.k :: .string ⟨u.s.toArray⟩ :: .int .i64 u.n :: cellsOf us := rfl
    cases i with
    | zero => simp at h; subst h; exact ⟨rfl, rfl, rfl⟩
    | succ i =>
      have := ih i t (by simpa using h)
      rw [e, show (i + 1) * 3 = i * 3 + 3 by omega]
      simpa using this
theorem Row.of {w : World} {B : Nat} {v : Value} {ts : List T} (h : w.ownsRow B 172 3 v ts.length (cellsOf ts)) : Row w v ts := by
  rcases h.2 with ⟨h0, h1⟩ | ⟨g, cap, cur, h1, h2, h3, h4⟩
  · exact ⟨Option.none, 0, by rw [h1]; exact h0, .inl (List.length_eq_zero_iff.1 h1)⟩
  · refine ⟨_, cap, h1, .inr ⟨g, rfl, lt_of_heap h3, fun i t hi => ?_⟩⟩
    have hc := h.cells (g := g) (by rw [h1]; rfl)
    have e : ∀ j, (⟨g, 0, Option.none⟩ : Addr).add j = ⟨g, j, Option.none⟩ := fun j => by simp [Addr.add]; omega
    have hg := cellsOf_get ts i t hi
    have a := hc _ _ hg.1; have b := hc _ _ hg.2.1; have c := hc _ _ hg.2.2
    rw [e] at a b c
    exact ⟨a, b, c⟩
end Go.Proofs.YtpinockfakndlaaGreat
