/-
  Texts in one: NamePut, AffLess.
-/
import Derived.Test.YtjdpddcnogdekaaGreatP14ofMx
import Derived.Test.YtjdpddcnogdekaaGreatP05ofMx
import Derived.Test.YtjdpddcnogdekaaGreatP24ofMx
import Derived.Test.YtjdpddcnogdekaaGreatP23ofMx
import Derived.Test.YtjdpddcnogdekaaGreatP18ofMx
import Derived.Deep.QuietTactic
import Derived.BigQuiet
/-
  The contracts of the specification's l4Put, l4Names, VarsOf, LoopVars: names in order.
-/
namespace Go.Proofs.YtjdpddcnogdekaaGreat
open Go.RowKit Go.Lib
set_option linter.unusedSimpArgs false
set_option linter.unusedVariables false

/-- A slice that holds these names, at lo or above. -/
def TV (w : World) (lo : Nat) (v : Value) (ns : List ByteArray) : Prop :=
  ∃ ao cap, v = .slice ao ns.length cap ∧ (ns = [] ∨ ∃ g off, ao = some ⟨g, off, Option.none⟩ ∧ lo ≤ g ∧ g < w.heap.size ∧ ∀ i t, ns[i]? = some t → w.cell? ⟨g, off + i, Option.none⟩ = some (.string t))
theorem TV.same {w w' : World} {lo lo' : Nat} {v : Value} {ns : List ByteArray} (hlo : lo' ≤ lo) (h : TV w lo v ns) (hk : Keeps lo w w') (hz : w.heap.size ≤ w'.heap.size) : TV w' lo' v ns := by
  obtain ⟨ao, cap, hv, h⟩ := h
  refine ⟨ao, cap, hv, ?_⟩
  rcases h with h | ⟨g, off, h1, h0, h2, h3⟩
  · exact .inl h
  · exact .inr ⟨g, off, h1, Nat.le_trans hlo h0, Nat.lt_of_lt_of_le h2 hz, fun i t hi => hk _ _ h0 (h3 i t hi)⟩
theorem TV.later {w w' : World} {lo : Nat} {v : Value} {ns : List ByteArray} (h : TV w lo v ns) (hb : Below w.heap.size w w') : TV w' lo v ns := h.same (Nat.le_refl _) (Keeps.later hb) hb.size
theorem TV.low {w : World} {lo : Nat} {v : Value} {ns : List ByteArray} (h : TV w lo v ns) : TV w 0 v ns := h.same (Nat.zero_le _) (Keeps.refl _ _) (Nat.le_refl _)
theorem TV.shape {w : World} {lo : Nat} {v : Value} {ns : List ByteArray} (h : TV w lo v ns) : ∃ a c, v = .slice a ns.length c := by obtain ⟨a, c, h1, _⟩ := h; exact ⟨a, c, h1⟩
theorem TV.of {w : World} {B : Nat} {v : Value} {ns : List ByteArray} (h : w.ownsRow B 9 1 v ns.length (ns.map Value.string)) : TV w B v ns := by
  rcases h.2 with ⟨h0, h1⟩ | ⟨g, cap, cur, h1, h2, h3, h4⟩
  · exact ⟨Option.none, 0, by rw [h1]; exact h0, .inl (List.length_eq_zero_iff.1 h1)⟩
  · refine ⟨_, cap, h1, .inr ⟨g, 0, rfl, h2, lt_heap h3, fun i t hi => ?_⟩⟩
    have hc := h.cells (g := g) (by rw [h1]; rfl) i (.string t) (by rw [List.getElem?_map, hi]; rfl)
    have e : (⟨g, 0, Option.none⟩ : Addr).add i = ⟨g, i, Option.none⟩ := by simp [Addr.add]; omega
    rw [e] at hc
    rw [Nat.zero_add]; exact hc
theorem infoStr : (Tryz.prog.info? 9).map (fun i => (i.zero, i.size, i.bytes)) = some (some (.string ⟨#[]⟩), 1, 16) := by kernel_rfl
theorem newT (w : World) (u : Value) (t : TypeId) : ∀ j x, [u][j]? = some x → (w.alloc (.cells #[u] t)).cell? ((⟨w.heap.size, 0, Option.none⟩ : Addr).add j) = some x := new1 w u t
/-- One name more. -/
theorem snocT {w w5 w6 : World} {os : List ByteArray} {t v' : Value} {x : ByteArray} {o : Obj} (hown : w5.ownsRow w.heap.size 9 1 t os.length (os.map Value.string)) (hb : Below w.heap.size w w5) (hg : (w5.alloc o).grownBy w6 t.ownBlock)
    (h : w6.ownsRow w.heap.size 9 1 v' (os.length + 1) (os.map Value.string ++ [.string x])) : w6.ownsRow w.heap.size 9 1 v' (os ++ [x]).length ((os ++ [x]).map Value.string) ∧ Below w.heap.size w w6 :=
  ⟨by rw [List.length_append, List.map_append]; exact h, (hb.alloc hb.size o).grown hg (by have := hb.size; simp; omega) (fun k hk => (hown.lt k hk).1)⟩
theorem ownShape {w : World} {B sz n : Nat} {e : TypeId} {v : Value} {xs : List Value} (h : w.ownsRow B e sz v n xs) : ∃ a c, v = .slice a n c := by
  rcases h.2 with ⟨h1, h0⟩ | ⟨g, cap, cur, h1, _⟩
  · exact ⟨_, _, by rw [h0]; exact h1⟩
  · exact ⟨_, _, h1⟩
theorem putR_x {s x : ByteArray} {r : List ByteArray} (d : Bool) (hd : d = true ∨ blt x s = true) (hx : ¬ x = s) : putR s d (x :: r) = x :: putR s d r := by
  cases d with
  | true => rw [putR, if_neg hx]
  | false => rcases hd with h | h
             · cases h
             · rw [putR, if_pos h, if_neg hx]
theorem putR_same {s : ByteArray} {r : List ByteArray} : putR s true (s :: r) = putR s true r := by rw [putR, if_pos rfl]
theorem putR_s {s x : ByteArray} {r : List ByteArray} (h : blt x s = false) : putR s false (x :: r) = s :: putR s true (x :: r) := by
  simp only [putR, h]; simp
end Go.Proofs.YtjdpddcnogdekaaGreat
/-
  The contract of termsLess (under way).
-/
namespace Go.Proofs.YtjdpddcnogdekaaGreat
open Go.RowKit Go.Lib
set_option linter.unusedSimpArgs false
set_option linter.unusedVariables false

theorem less8_one (f : Nat) (l m : List AR) (h : l = [] ∨ m = []) : less8 f l m = l ++ m.map negT8 := by
  rcases h with h | h
  · subst h
    cases m with
    | nil => cases f <;> rfl
    | cons u m => cases f <;> simp [less8]
  · subst h
    cases f <;> cases l <;> simp [less8]
theorem AV.tail8 {w : World} {g off c c' : Nat} {t : AR} {l : List AR} (h : AV w 0 (.slice (some ⟨g, off, Option.none⟩) (l.length + 1) c) (t :: l)) : AV w 0 (.slice (some ⟨g, off + 2, Option.none⟩) l.length c') l := by
  obtain ⟨ao, cap, e, h⟩ := h
  injection e with e1 e2 e3
  subst e1
  rcases h with h | ⟨g', off', e4, e5, e6, e7⟩
  · cases h
  · injection e4 with e4
    injection e4 with e4 e8 e9
    subst e4; subst e8
    exact ⟨_, c', rfl, .inr ⟨g, off + 2, rfl, e5, e6, fun i u hi => by
      have := e7 (i + 1) u (by simpa using hi)
      rwa [show off + (i + 1) * 2 = off + 2 + i * 2 by omega] at this⟩⟩
theorem AV.head8 {w : World} {a : Option Addr} {n c : Nat} {t : AR} {l : List AR} (h : AV w 0 (.slice a n c) (t :: l)) : ∃ g off, a = some ⟨g, off, Option.none⟩ ∧ n = l.length + 1 ∧ g < w.heap.size ∧ w.cell? ⟨g, off, Option.none⟩ = some (.string t.s) ∧ w.cell? ⟨g, off + 1, Option.none⟩ = some (.int .i64 t.n) := by
  obtain ⟨ao, cap, e, h⟩ := h
  injection e with e1 e2 e3
  subst e1
  rcases h with h | ⟨g, off, e4, e5, e6, e7⟩
  · cases h
  · have := e7 0 t rfl
    exact ⟨g, off, e4, by simpa using e2, e6, by simpa using this.1, by simpa using this.2⟩
theorem own_later8 {w w' : World} {B sz n : Nat} {e : TypeId} {v : Value} {xs : List Value} (h : w.ownsRow B e sz v n xs) (hk : ∀ g c, B ≤ g → w.heap[g]? = some (.cells c e (0, 0)) → w'.heap[g]? = w.heap[g]?) : w'.ownsRow B e sz v n xs := by
  refine ⟨h.1, ?_⟩
  rcases h.2 with h0 | ⟨g, cap, cur, h1, h2, h3, h4⟩
  · exact .inl h0
  · exact .inr ⟨g, cap, cur, h1, h2, (hk g cur h2 h3).trans h3, h4⟩
theorem lt_of_heap {w : World} {g : Nat} {o : Obj} (h : w.heap[g]? = some o) : g < w.heap.size := (Array.getElem?_eq_some_iff.1 h).1
theorem own_below8 {w w' : World} {B sz n : Nat} {e : TypeId} {v : Value} {xs : List Value} (h : w.ownsRow B e sz v n xs) (hb : Below w.heap.size w w') : w'.ownsRow B e sz v n xs :=
  own_later8 h fun g _ _ hg => hb.block g (lt_of_heap hg)
def Cap8 (v : Value) : Prop := ∀ a n c, v = .slice a n c → n ≤ c
theorem AV.tail9 {w : World} {g off c : Nat} {t : AR} {l : List AR} (h : AV w 0 (.slice (some ⟨g, off, Option.none⟩) (l.length + 1) c) (t :: l)) (hc : l.length + 1 ≤ c) :
    AV w 0 (.slice (if c = 1 then some ⟨g, off, Option.none⟩ else some ⟨g, off + 2, Option.none⟩) l.length (c - 1)) l ∧ Cap8 (.slice (if c = 1 then some ⟨g, off, Option.none⟩ else some ⟨g, off + 2, Option.none⟩) l.length (c - 1)) := by
  refine ⟨?_, fun a n c' e => by injection e with e1 e2 e3; omega⟩
  by_cases h1 : c = 1
  · have h2 : l = [] := List.length_eq_zero_iff.1 (by omega)
    subst h2
    exact ⟨_, _, rfl, .inl rfl⟩
  · rw [if_neg h1]
    exact AV.tail8 h
def lenV8 : Value → Nat
  | .slice _ n _ => n
  | _ => 0
theorem new2T (w : World) (u v : Value) (t : TypeId) : ∀ j x, [u, v][j]? = some x → (w.alloc (.cells #[u, v] t)).cell? ((⟨w.heap.size, 0, Option.none⟩ : Addr).add j) = some x := by
  intro j x h
  obtain ⟨⟨c0, c1⟩, _⟩ := blk2 (heap_last w (.cells #[u, v] t))
  match j, h with
  | 0, h =>
    have e0 : (⟨w.heap.size, 0, Option.none⟩ : Addr).add 0 = ⟨w.heap.size, 0, Option.none⟩ := by simp [Addr.add]
    rw [e0, c0]; simpa using h
  | 1, h =>
    have e0 : (⟨w.heap.size, 0, Option.none⟩ : Addr).add 1 = ⟨w.heap.size, 1, Option.none⟩ := by simp [Addr.add]
    rw [e0, c1]; simpa using h
/-- One term more. -/
theorem snocT8 {w w5 w6 : World} {os : List AR} {v v' : Value} {t : AR} {o : Obj} (hown : w5.ownsRow w.heap.size 70 2 v os.length (acells os)) (hb : Below w.heap.size w w5) (hg : (w5.alloc o).grownBy w6 v.ownBlock)
    (h : w6.ownsRow w.heap.size 70 2 v' (os.length + 1) (acells os ++ [.string t.s, .int .i64 t.n])) : w6.ownsRow w.heap.size 70 2 v' (os ++ [t]).length (acells (os ++ [t])) ∧ Below w.heap.size w w6 :=
  ⟨by rw [List.length_append, acells_snoc]; exact h, (hb.alloc hb.size o).grown hg (by have := hb.size; simp; omega) (fun k hk => (hown.lt k hk).1)⟩
theorem heap2t (w : World) (a b : Obj) : ((w.alloc a).alloc b).heap[w.heap.size]? = some a ∧ ((w.alloc a).alloc b).heap[w.heap.size + 1]? = some b := by
  have h := heap_last (w.alloc a) b
  rw [World.size_alloc] at h
  exact ⟨by rw [Below.heap_alloc _ _ _ (by simp)]; exact heap_last _ _, h⟩
theorem belowL8 {B : Nat} {w w' : World} (h : Below B w w') (n : Nat) : Below B w (w'.drewN n) := ⟨h.os, h.tape, h.output, h.size, h.block⟩
def NmB8 (l : List AR) : Prop := ∀ t ∈ l, t.s.size ≤ 281474976710656
end Go.Proofs.YtjdpddcnogdekaaGreat
