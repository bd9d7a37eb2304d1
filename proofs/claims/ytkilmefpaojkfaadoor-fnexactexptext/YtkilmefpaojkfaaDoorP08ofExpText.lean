/-
  Texts in one: NamePlain, NamePut, TokBuild, TxtImpl.
-/
import Derived.Test.YtkilmefpaojkfaaDoorP01ofExpText
import Derived.Sort.Walk0
import Derived.Sort.KeysCollected
import Derived.Test.YtkilmefpaojkfaaDoorP02ofExpText
import Derived.Test.YtkilmefpaojkfaaDoorP03ofExpText
import Derived.Shelf.Strings.BuilderK
import Derived.Test.YtkilmefpaojkfaaDoorRows
import Derived.WalkKit
import Derived.WalkLawsBesides
import Derived.OwnWalk
import Derived.Lib.Hide
import Derived.Test.YtkilmefpaojkfaaDoorTxtSpec
/-
  Names in order (no Go): what l4Put makes of a row of names, and that rows in order with the same names are the same.
-/
namespace Go.Proofs.YtkilmefpaojkfaaDoor
open Go.RowKit Go.Lib Go.Maps
set_option linter.unusedSimpArgs false
set_option linter.unusedVariables false

/-- One name ahead of another, byte by byte. -/
def blt (a b : ByteArray) : Bool := Op.bytesLess a.toList b.toList
theorem blt_iff (a b : ByteArray) : blt a b = true ↔ a.data.toList < b.data.toList := by
  unfold blt; rw [bytesLess_eq, ByteArray.toList_eq, ByteArray.toList_eq]; simp
theorem blt_irrefl (a : ByteArray) : blt a a = false := by
  cases h : blt a a with
  | false => rfl
  | true => exact absurd ((blt_iff a a).1 h) (List.lt_irrefl _)
theorem blt_trans {a b c : ByteArray} (h : blt a b = true) (g : blt b c = true) : blt a c = true := (blt_iff a c).2 (List.lt_trans ((blt_iff a b).1 h) ((blt_iff b c).1 g))
theorem ba_ext {a b : ByteArray} (h : a.data.toList = b.data.toList) : a = b := ByteArray.ext (Array.toList_inj.1 h)
theorem blt_total {a b : ByteArray} (h : blt a b = false) (hne : a ≠ b) : blt b a = true := by
  rw [blt_iff]
  have h1 : ¬ a.data.toList < b.data.toList := fun hh => by rw [(blt_iff a b).2 hh] at h; cases h
  have h2 : b.data.toList ≤ a.data.toList := List.not_lt.1 h1
  rcases List.le_iff_lt_or_eq.1 h2 with h3 | h3
  · exact h3
  · exact absurd (ba_ext h3).symm hne
/-- In order, no two alike. -/
def Asc (l : List ByteArray) : Prop := l.Pairwise (fun a b => blt a b = true)
theorem Asc.nodup {l : List ByteArray} (h : Asc l) : l.Nodup := List.Pairwise.imp (fun {a b} hab e => by subst e; rw [blt_irrefl] at hab; cases hab) h
theorem asc_ext {l m : List ByteArray} (hl : Asc l) (hm : Asc m) (h : ∀ b, b ∈ l ↔ b ∈ m) : l = m :=
  List.Perm.eq_of_pairwise (le := fun a b => blt a b = true) (fun a b _ _ h1 h2 => by have := blt_trans h1 h2; rw [blt_irrefl] at this; cases this) hl hm ((List.perm_ext_iff_of_nodup hl.nodup hm.nodup).2 h)
/-- What l4Put makes of what is left of a row. -/
def putR (s : ByteArray) : Bool → List ByteArray → List ByteArray
  | d, [] => if d = true then [] else [s]
  | true, x :: r => if x = s then putR s true r else x :: putR s true r
  | false, x :: r => if blt x s = true then (if x = s then putR s false r else x :: putR s false r) else s :: (if x = s then putR s true r else x :: putR s true r)
theorem putR_true (s : ByteArray) : ∀ (l : List ByteArray) (b : ByteArray), b ∈ putR s true l ↔ b ∈ l ∧ b ≠ s
  | [], b => by simp [putR]
  | x :: r, b => by
    have ih := putR_true s r b
    rw [putR]
    by_cases hx : x = s
    · rw [if_pos hx, ih]
      constructor
      · rintro ⟨h1, h2⟩; exact ⟨List.mem_cons_of_mem _ h1, h2⟩
      · rintro ⟨h1, h2⟩
        rcases List.mem_cons.1 h1 with h1 | h1
        · exact absurd (h1.trans hx) h2
        · exact ⟨h1, h2⟩
    · rw [if_neg hx, List.mem_cons, ih, List.mem_cons]
      constructor
      · rintro (h | ⟨h1, h2⟩)
        · exact ⟨.inl h, by rw [h]; exact hx⟩
        · exact ⟨.inr h1, h2⟩
      · rintro ⟨h1 | h1, h2⟩
        · exact .inl h1
        · exact .inr ⟨h1, h2⟩
theorem asc_true (s : ByteArray) : ∀ (l : List ByteArray), Asc l → Asc (putR s true l)
  | [], _ => by simp [putR, Asc]
  | x :: r, h => by
    obtain ⟨h1, h2⟩ := List.pairwise_cons.1 h
    have ih := asc_true s r h2
    rw [putR]
    by_cases hx : x = s
    · rw [if_pos hx]; exact ih
    · rw [if_neg hx]; exact List.pairwise_cons.2 ⟨fun b hb => h1 b ((putR_true s r b).1 hb).1, ih⟩
theorem asc_put (s : ByteArray) : ∀ (l : List ByteArray), Asc l → Asc (putR s false l) ∧ ∀ b, b ∈ putR s false l ↔ (b = s ∨ b ∈ l)
  | [], _ => by simp [putR, Asc]
  | x :: r, h => by
    obtain ⟨h1, h2⟩ := List.pairwise_cons.1 h
    obtain ⟨i1, i2⟩ := asc_put s r h2
    rw [putR]
    cases hb : blt x s with
    | true =>
      have hx : ¬ x = s := fun e => by subst e; rw [blt_irrefl] at hb; cases hb
      rw [if_pos rfl, if_neg hx]
      refine ⟨List.pairwise_cons.2 ⟨fun b hbm => ?_, i1⟩, fun b => ?_⟩
      · rcases (i2 b).1 hbm with e | e
        · subst e; exact hb
        · exact h1 b e
      · rw [List.mem_cons, i2 b, List.mem_cons]
        constructor
        · rintro (e | e | e) <;> simp [e]
        · rintro (e | e | e) <;> simp [e]
    | false =>
      rw [if_neg (by simp)]
      by_cases hx : x = s
      · subst hx
        rw [if_pos rfl]
        refine ⟨List.pairwise_cons.2 ⟨fun b hbm => h1 b ((putR_true x r b).1 hbm).1, asc_true x r h2⟩, fun b => ?_⟩
        rw [List.mem_cons, putR_true, List.mem_cons]
        constructor
        · rintro (e | ⟨e, _⟩)
          · exact .inl e
          · exact .inr (.inr e)
        · rintro (e | e | e)
          · exact .inl e
          · exact .inl e
          · by_cases hbx : b = x
            · exact .inl hbx
            · exact .inr ⟨e, hbx⟩
      · have hsx := blt_total hb hx
        rw [if_neg hx]
        refine ⟨List.pairwise_cons.2 ⟨fun b hbm => ?_, List.pairwise_cons.2 ⟨fun b hbm => h1 b ((putR_true s r b).1 hbm).1, asc_true s r h2⟩⟩, fun b => ?_⟩
        · rcases List.mem_cons.1 hbm with e | e
          · rw [e]; exact hsx
          · exact blt_trans hsx (h1 b ((putR_true s r b).1 e).1)
        · rw [List.mem_cons, List.mem_cons, putR_true, List.mem_cons]
          constructor
          · rintro (e | e | ⟨e, _⟩)
            · exact .inl e
            · exact .inr (.inl e)
            · exact .inr (.inr e)
          · rintro (e | e | e)
            · exact .inl e
            · exact .inr (.inl e)
            · by_cases hbs : b = s
              · exact .inl hbs
              · exact .inr (.inr ⟨e, hbs⟩)
/-- How long a row gets. -/
theorem putR_len (s : ByteArray) : ∀ (d : Bool) (l : List ByteArray), (putR s d l).length ≤ l.length + 1
  | true, [] => by simp [putR]
  | false, [] => by simp [putR]
  | true, x :: r => by
    have := putR_len s true r
    rw [putR]; split <;> simp only [List.length_cons] <;> omega
  | false, x :: r => by
    have h1 := putR_len s false r
    have h2 : (putR s true r).length ≤ r.length := by
      clear h1
      induction r with
      | nil => simp [putR]
      | cons y r ih => rw [putR]; split <;> simp only [List.length_cons] <;> omega
    rw [putR]; split <;> split <;> simp only [List.length_cons] <;> omega
/-- The names of statements of a kind, behind those that came. -/
def nmS (k : Int) : SF → List ByteArray → List ByteArray
  | .nil, out => out
  | .node _ _ h l r, out => nmS k r (nmS k l (if h.k = k then putR h.s false out else out))
/-- The names of expressions of a kind. -/
def nmE (k : Int) : EF → List ByteArray → List ByteArray
  | .nil, out => out
  | .node _ _ h l r, out => nmE k r (nmE k l (if h.k = k then putR h.s false out else out))
def nmX (k : Int) (x : X) (out : List ByteArray) : List ByteArray := nmE k x.l (if x.h.k = k then putR x.h.s false out else out)
def nmA (k : Int) : SF → List ByteArray → List ByteArray
  | .nil, out => out
  | .node _ _ h l r, out => nmA k r (nmA k l (nmX k h.x4 (nmX k h.x3 (nmX k h.x2 (nmX k h.x1 out)))))
end Go.Proofs.YtkilmefpaojkfaaDoor
/-
  The contracts of the specification's l4Put, l4Names, VarsOf, LoopVars: names in order.
-/
namespace Go.Proofs.YtkilmefpaojkfaaDoor
open Go.RowKit Go.Lib
set_option linter.unusedSimpArgs false
set_option linter.unusedVariables false

/-- A slice that holds these names, at lo or above. -/
def TV (w : World) (lo : Nat) (v : Value) (ns : List ByteArray) : Prop :=
  ∃ ao cap, v = .slice ao ns.length cap ∧ (ns = [] ∨ ∃ g off, ao = some ⟨g, off, Option.none⟩ ∧ lo ≤ g ∧ g < w.heap.size ∧ ∀ i t, ns[i]? = some t → w.cell? ⟨g, off + i, Option.none⟩ = some (.string t))
theorem TV.same {w w' : World} {lo lo' : Nat} {v : Value} {ns : List ByteArray} (hlo : lo' ≤ lo) (h : TV w lo v ns) (hk : Keeps lo w w') (hz : w.heap.size ≤ w'.heap.size) : TV w' lo' v ns := by
  obtain ⟨ao, cap, hv, h⟩ := h
  refine ⟨ao, cap, hv, ?_⟩
  rcases h with h | ⟨g, off, h1, h0, h2, h3⟩
  · exact .inl h
  · exact .inr ⟨g, off, h1, Nat.le_trans hlo h0, Nat.lt_of_lt_of_le h2 hz, fun i t hi => hk _ _ h0 (h3 i t hi)⟩
theorem TV.later {w w' : World} {lo : Nat} {v : Value} {ns : List ByteArray} (h : TV w lo v ns) (hb : Below w.heap.size w w') : TV w' lo v ns := h.same (Nat.le_refl _) (Keeps.later hb) hb.size
theorem TV.low {w : World} {lo : Nat} {v : Value} {ns : List ByteArray} (h : TV w lo v ns) : TV w 0 v ns := h.same (Nat.zero_le _) (Keeps.refl _ _) (Nat.le_refl _)
theorem TV.shape {w : World} {lo : Nat} {v : Value} {ns : List ByteArray} (h : TV w lo v ns) : ∃ a c, v = .slice a ns.length c := by obtain ⟨a, c, h1, _⟩ := h; exact ⟨a, c, h1⟩
theorem TV.of {w : World} {B : Nat} {v : Value} {ns : List ByteArray} (h : w.ownsRow B 9 1 v ns.length (ns.map Value.string)) : TV w B v ns := by
  rcases h.2 with ⟨h0, h1⟩ | ⟨g, cap, cur, h1, h2, h3, h4⟩
  · exact ⟨Option.none, 0, by rw [h1]; exact h0, .inl (List.length_eq_zero_iff.1 h1)⟩
  · refine ⟨_, cap, h1, .inr ⟨g, 0, rfl, h2, lt_heap h3, fun i t hi => ?_⟩⟩
    have hc := h.cells (g := g) (by rw [h1]; rfl) i (.string t) (by rw [List.getElem?_map, hi]; rfl)
    have e : (⟨g, 0, Option.none⟩ : Addr).add i = ⟨g, i, Option.none⟩ := by simp [Addr.add]; omega
    rw [e] at hc
    rw [Nat.zero_add]; exact hc
theorem infoStr : (Tryd.prog.info? 9).map (fun i => (i.zero, i.size, i.bytes)) = some (some (.string ⟨#[]⟩), 1, 16) := by kernel_rfl
theorem newT (w : World) (u : Value) (t : TypeId) : ∀ j x, [u][j]? = some x → (w.alloc (.cells #[u] t)).cell? ((⟨w.heap.size, 0, Option.none⟩ : Addr).add j) = some x := new1 w u t
/-- One name more. -/
theorem snocT {w w5 w6 : World} {os : List ByteArray} {t v' : Value} {x : ByteArray} {o : Obj} (hown : w5.ownsRow w.heap.size 9 1 t os.length (os.map Value.string)) (hb : Below w.heap.size w w5) (hg : (w5.alloc o).grownBy w6 t.ownBlock)
    (h : w6.ownsRow w.heap.size 9 1 v' (os.length + 1) (os.map Value.string ++ [.string x])) : w6.ownsRow w.heap.size 9 1 v' (os ++ [x]).length ((os ++ [x]).map Value.string) ∧ Below w.heap.size w w6 :=
  ⟨by rw [List.length_append, List.map_append]; exact h, (hb.alloc hb.size o).grown hg (by have := hb.size; simp; omega) (fun k hk => (hown.lt k hk).1)⟩
theorem ownShape {w : World} {B sz n : Nat} {e : TypeId} {v : Value} {xs : List Value} (h : w.ownsRow B e sz v n xs) : ∃ a c, v = .slice a n c := by
  rcases h.2 with ⟨h1, h0⟩ | ⟨g, cap, cur, h1, _⟩
  · exact ⟨_, _, by rw [h0]; exact h1⟩
  · exact ⟨_, _, h1⟩
theorem putR_x {s x : ByteArray} {r : List ByteArray} (d : Bool) (hd : d = true ∨ blt x s = true) (hx : ¬ x = s) : putR s d (x :: r) = x :: putR s d r := by
  cases d with
  | true => rw [putR, if_neg hx]
  | false => rcases hd with h | h
             · cases h
             · rw [putR, if_pos h, if_neg hx]
theorem putR_same {s : ByteArray} {r : List ByteArray} : putR s true (s :: r) = putR s true r := by rw [putR, if_pos rfl]
theorem putR_s {s x : ByteArray} {r : List ByteArray} (h : blt x s = false) : putR s false (x :: r) = s :: putR s true (x :: r) := by
  simp only [putR, h]; simp
end Go.Proofs.YtkilmefpaojkfaaDoor
/-
  The contracts of strings.Builder at this dump: WriteByte, WriteString and String of a builder of the call's own.
-/
namespace Go.Proofs
open Go.Shelf
def Tryd.lays169_ren : Go.Shelf.Ren := ⟨fun | 169 => 33 | n => n, fun | 70 => 62 | 9 => 9 | 0 => 0 | 72 => 64 | 37 => 56 | 127 => 73 | 3 => 3 | 5 => 5 | n => n, fun | n => n⟩
theorem Tryd.lays169 : Go.Proofs.Lays.n169 Tryd.prog Tryd.lays169_ren := {
  mixed := by kernel_rfl
  f169 := Tryd.func33.trans (congrArg some (by kernel_rfl))
  t0 := Tryd.underlying0
  a0 := Tryd.isAgg0
  z0 := Tryd.sizeOf0
  v0 := Tryd.zeroValue0
  t3 := Tryd.underlying3
  a3 := Tryd.isAgg3
  z3 := Tryd.sizeOf3
  v3 := Tryd.zeroValue3
  t9 := Tryd.underlying9
  a9 := Tryd.isAgg9
  z9 := Tryd.sizeOf9
  v9 := Tryd.zeroValue9
  t37 := Tryd.underlying56
  a37 := Tryd.isAgg56
  z37 := Tryd.sizeOf56
  v37 := Tryd.zeroValue56
  t70 := Tryd.underlying62
  a70 := Tryd.isAgg62
  z70 := Tryd.sizeOf62
  v70 := Tryd.zeroValue62
  t72 := Tryd.underlying64
  a72 := Tryd.isAgg64
  z72 := Tryd.sizeOf64
  v72 := Tryd.zeroValue64
  t127 := Tryd.underlying73
  a127 := Tryd.isAgg73
  z127 := Tryd.sizeOf73
  v127 := Tryd.zeroValue73 }
end Go.Proofs
namespace Go.Proofs.YtkilmefpaojkfaaDoor
open Go.RowKit Go.Lib
set_option linter.unusedSimpArgs false

theorem extra : Builder.Extra Tryd.prog Tryd.lays169_ren :=
  { sizeBuilder := by kernel_rfl, liesBuilder := by kernel_rfl, t5 := Tryd.underlying5, a5 := Tryd.isAgg5, z5 := Tryd.sizeOf5, v5 := Tryd.zeroValue5, infoByte := by kernel_rfl, cellsByte := by kernel_rfl, sizeByte := by kernel_rfl, neB5 := by decide }
/-- A builder of the call's own that holds these bytes. -/
abbrev Bld (B b : Nat) (l : List UInt8) (w : World) : Prop := Lib.IsBuilderF 64 5 B b (Lib.byteCells l) w
theorem String_is (B b : Nat) (l : List UInt8) (w : World) (h : Bld B b l w) (hBw : B ≤ w.heap.size) :
    Calls Tryd.prog 33 #[.pointer (some ⟨b, 0, Option.none⟩)] w fun e w' => e = .returned (.string ⟨l.toArray⟩) ∧ Below B w w' :=
  (Any.Builder_String_any_k Tryd.lays169 extra B b l w h hBw).mono fun _ _ h => ⟨h.1, h.2.2.1⟩
theorem sizeB : ∃ j, Tryd.prog.info? 64 = some j ∧ j.size = 2 := by
  obtain ⟨j, hj, hs⟩ := Option.map_eq_some_iff.1 (show (Tryd.prog.info? 64).map (·.size) = some 2 by kernel_rfl)
  exact ⟨j, hj, hs⟩
theorem liesB : liesAt Tryd.prog Tryd.prog.depth 64 (2 / Tryd.prog.cellsOf 64) 0 64 1 = true := by kernel_rfl
theorem infoByte : (Tryd.prog.info? 5).map (fun i => (i.zero, i.size, i.bytes)) = some (some (.int .u8 0), 1, 1) := by kernel_rfl
/-- A builder's pointer, taken as one to anything, and back again. -/
theorem to_ptr (b : Nat) (w : World) (hsh : w.shape? b = some (64, 2)) : (convert 62 77 (.pointer (some ⟨b, 0, Option.none⟩))).run Tryd.prog w = .ok (.pointer (some ⟨b, 0, Option.none⟩)) w := by
  obtain ⟨j, hj, hjs⟩ := sizeB
  simp [convert, run_underlying Tryd.underlying62, run_underlying Tryd.underlying77, Conv.unsafePointer, Conv.seenAt, viewAt, cellsIn, hsh, Go.sizeOf, typeInfo, hj, hjs]
theorem of_ptr (b : Nat) (w : World) (hsh : w.shape? b = some (64, 2)) : (convert 77 62 (.pointer (some ⟨b, 0, Option.none⟩))).run Tryd.prog w = .ok (.pointer (some ⟨b, 0, Option.none⟩)) w := by
  obtain ⟨j, hj, hjs⟩ := sizeB
  simp [convert, run_underlying Tryd.underlying62, run_underlying Tryd.underlying77, Conv.unsafePointer, Conv.seenAt, viewAt, hsh, variablesAt, liesB, Go.sizeOf, typeInfo, hj]
set_option maxHeartbeats 1000000 in
set_option maxRecDepth 100000 in
theorem copyCheck_new (b : Nat) (w : World) (h0 : w.cell? ⟨b, 0, Option.none⟩ = some (.pointer Option.none)) (hsh : w.shape? b = some (64, 2)) (hfz : w.frozen? ⟨b, 0, Option.none⟩ = false) :
    Calls Tryd.prog 43 #[.pointer (some ⟨b, 0, Option.none⟩)] w fun e w' => e = .returned (.tuple #[]) ∧ w' = w.setCell ⟨b, 0, Option.none⟩ (.pointer (some ⟨b, 0, Option.none⟩)) := by
  have cv1 := to_ptr b w hsh
  have cv2 := of_ptr b w hsh
  go_enter Tryd.func43, Tryd.ntmps43
  go_wp2
  rw [run_callFunc_extern Tryd.func48 (by kernel_rfl) (by kernel_rfl) (by kernel_rfl) (e := Extern.AbiNoEscape.same) (by kernel_rfl), Lib.run_noEscape]
  simp only [Result.andThen]
  rw [Oper.upon_value]
  go_wp2
  go_end0
  exact ⟨rfl, rfl⟩
set_option maxHeartbeats 1000000 in
set_option maxRecDepth 100000 in
theorem copyCheck_used (b : Nat) (w : World) (h0 : w.cell? ⟨b, 0, Option.none⟩ = some (.pointer (some ⟨b, 0, Option.none⟩))) :
    Calls Tryd.prog 43 #[.pointer (some ⟨b, 0, Option.none⟩)] w fun e w' => e = .returned (.tuple #[]) ∧ w' = w := by
  obtain ⟨j, hj, _⟩ := sizeB
  go_enter Tryd.func43, Tryd.ntmps43
  go_wp2
  rw [Lib.run_neq_ptr_same w _ Tryd.underlying62 hj]
  go_wp2
  go_end0
  exact ⟨rfl, rfl⟩
/-- Behind copyCheck the builder knows its own address; its bytes, and every block but its own, are as they were. -/
theorem copyCheck_is (B b : Nat) (l : List UInt8) (w : World) (h : Bld B b l w) :
    Calls Tryd.prog 43 #[.pointer (some ⟨b, 0, Option.none⟩)] w fun e w' => e = .returned (.tuple #[]) ∧ Lib.BuilderAtF 64 5 B b (.pointer (some ⟨b, 0, Option.none⟩)) (Lib.byteCells l) w' ∧ Below B w w' ∧ Lib.OthersKept 5 (some b) w w' := by
  rcases h with h | h
  · refine (copyCheck_new b w h.cell0 h.shape h.frozen0).mono ?_
    rintro e w' ⟨rfl, rfl⟩
    exact ⟨rfl, h.used _, (Below.refl B w).setCell (p := ⟨b, 0, Option.none⟩) h.1 _, (Lib.OthersKept.refl _ _ w).setCell ⟨b, 0, Option.none⟩ rfl _⟩
  · refine (copyCheck_used b w h.cell0).mono ?_
    rintro e w' ⟨rfl, rfl⟩
    exact ⟨rfl, h, Below.refl B _, Lib.OthersKept.refl _ _ _⟩
theorem lt_blk {w : World} {b : Nat} {o : Obj} (h : w.heap[b]? = some o) : b < w.heap.size := (Array.getElem?_eq_some_iff.1 h).1
theorem len_cells (l : List UInt8) : (Lib.byteCells l).length = l.length := Lib.byteCells_length l
theorem ownF_shape {w : World} {B sz n : Nat} {e : TypeId} {v : Value} {xs : List Value} (h : w.ownsRowF B e sz v n xs) : ∃ ao n' cap, v = .slice ao n' cap := by
  rcases h.2 with ⟨hv, _⟩ | ⟨g, cap, cur, fz, hv, _⟩
  · exact ⟨_, _, _, hv⟩
  · exact ⟨_, _, _, hv⟩
set_option maxHeartbeats 2000000 in
set_option maxRecDepth 100000 in
theorem WriteString_is (B b : Nat) (l : List UInt8) (s : ByteArray) (w : World) (h : Bld B b l w) (hlen : l.length + s.size ≤ 140737488355328) (hBw : B ≤ w.heap.size) :
    Calls Tryd.prog 32 #[.pointer (some ⟨b, 0, Option.none⟩), .string s] w fun e w' => e = .returned (.tuple #[.int .i64 s.size, .nilIface]) ∧ Bld B b (l ++ s.data.toList) w' ∧ Below B w w' ∧ Lib.OthersKept 5 (some b) w w' := by
  obtain ⟨i0, hi, hz0, hz1, hz2⟩ := info_parts infoByte
  have hll := len_cells l
  go_enter Tryd.func32, Tryd.ntmps32
  go_wp2_with (go_at_call 43; refine (copyCheck_is B b l _ h).mono ?_)
  rintro e w1 ⟨rfl, ⟨hB, v, hbk, hown, hne⟩, hb1, hk1⟩
  have c0 : w1.cell? ⟨b, 0, Option.none⟩ = some (.pointer (some ⟨b, 0, Option.none⟩)) := by rw [Lib.cell_of_heap hbk]; rfl
  have c1 : w1.cell? ⟨b, 1, Option.none⟩ = some v := by rw [Lib.cell_of_heap hbk]; rfl
  have hlt := lt_blk hbk
  go_wp2_with (at_builtin; refine Lib.wpList_append_own_stringF _ rfl _ _ 56 9 rfl B 5 i0 Tryd.underlying56 Tryd.underlying9 hi hz0 hz1 hz2 _ _ _ rfl hown s rfl ?c3 ?c4 ?c5 ?_)
  case c3 => unfold maxLen; omega
  case c4 => omega
  case c5 => have := hb1.size; omega
  intro v' w2 hown' hgrow _
  have hb2 : w2.heap[b]? = some (.cells #[.pointer (some ⟨b, 0, Option.none⟩), v] 64 (0, 0)) := by
    rw [hgrow.block b hlt (fun e => hne e.symm)]
    exact hbk
  have d0 : w2.cell? ⟨b, 0, Option.none⟩ = some (.pointer (some ⟨b, 0, Option.none⟩)) := by rw [Lib.cell_of_heap hb2]; rfl
  have d1 : w2.cell? ⟨b, 1, Option.none⟩ = some v := by rw [Lib.cell_of_heap hb2]; rfl
  have f1 : w2.frozen? ⟨b, 1, Option.none⟩ = false := Lib.frozen_of_heap hb2 1
  obtain ⟨ao, n', cap, rfl⟩ := ownF_shape hown'
  go_wp2
  go_ret2
  have hcells : Lib.byteCells (l ++ s.data.toList) = Lib.byteCells l ++ Lib.strCells s := by rw [Lib.byteCells_append]; rfl
  refine ⟨rfl, .inr ?_, ?_, (hk1.grown hgrow (Lib.ownsRowF_kind hown)).setCell ⟨b, 1, Option.none⟩ rfl _⟩
  · exact Lib.BuilderAtF.put (T := 64) (e := 5) hB hb2 (bs' := Lib.byteCells (l ++ s.data.toList)) (by rw [hcells, List.length_append, Lib.strCells_length, len_cells]; exact hown') (by decide)
  · exact (hb1.grown hgrow (by have := hb1.size; omega) (fun k hk => (hown.lt k hk).1)).setCell (p := ⟨b, 1, Option.none⟩) hB _
end Go.Proofs.YtkilmefpaojkfaaDoor
/-
  The contracts of the landed code's joined, holdOf, signOf, sideText, pairText, partText.
-/
namespace Go.Proofs.YtkilmefpaojkfaaDoor
open Go.RowKit Go.Lib
set_option linter.unusedSimpArgs false
set_option linter.unusedVariables false

/-- The table of the powers of ten stands as the text lays it. -/
def TabT (w : World) : Prop := Lib.TabIs Tryd.prog w "internal/strconv.uint64pow10" .u64 Lib.pow10Tab
theorem TabT.later {w w' : World} (h : TabT w) (hb : Below w.heap.size w w') : TabT w' := Joins.tab_stays gPow h hb (Nat.le_refl _)
/-- Texts, one behind the other. -/
def catT : List ByteArray → List UInt8
  | [] => []
  | s :: l => s.data.toList ++ catT l
theorem catT_app (a b : List ByteArray) : catT (a ++ b) = catT a ++ catT b := by
  induction a with
  | nil => rfl
  | cons s a ih => simp only [List.cons_append, catT, ih, List.append_assoc]
theorem catT_take {ns : List ByteArray} {k : Nat} {x : ByteArray} (h : ns[k]? = some x) : catT (ns.take (k + 1)) = catT (ns.take k) ++ x.data.toList := by
  have hk : k < ns.length := (List.getElem?_eq_some_iff.1 h).1
  have e := (List.getElem?_eq_some_iff.1 h).2
  rw [List.take_succ_eq_append_getElem hk, catT_app, e]; simp [catT]
theorem catT_le (ns : List ByteArray) (k : Nat) : (catT (ns.take k)).length ≤ (catT ns).length := by
  conv => rhs; rw [← List.take_append_drop k ns, catT_app]
  simp
theorem bldT_lt {B b : Nat} {l : List UInt8} {w : World} (h : Bld B b l w) : b < w.heap.size := by
  rcases h with h | h
  · exact lt_blk h.2.choose_spec.1
  · exact lt_blk h.2.choose_spec.1
set_option maxHeartbeats 2000000 in
set_option maxRecDepth 100000 in
theorem joined_is (ns : List ByteArray) (hn : ns.length ≤ 1000) (hlen : (catT ns).length ≤ 1000000) (v : Value) (w : World) (hv : TV w 0 v ns) :
    Calls Tryd.prog 24 #[v] w fun e w' => e = .returned (.string (str (catT ns))) ∧ Below w.heap.size w w' := by
  obtain ⟨ao, cap, rfl, hr⟩ := hv
  have Hr := Lib.hid hr
  have Hlen := Lib.hid hlen
  clear hr hlen
  go_enter Tryd.func24, Tryd.ntmps24
  go_wp2
  go_loopw [8] (fun i wr => ∃ k : Nat, k ≤ ns.length ∧ i = .int .i64 k ∧ Hid (Bld w.heap.size w.heap.size (catT (ns.take k)) wr) ∧ Hid (Below w.heap.size w wr)) (fun i _ => ns.length - (RowKit.intOf i).toNat)
  case atStart => exact ⟨0, by omega, rfl, Lib.IsBuilderF.of (Lib.fresh_isBuilder 64 5 w), alloc_below _ _⟩
  case round =>
    obtain ⟨k, hk, rfl, hB, hbw⟩ := hrel
    by_cases hlt : k < ns.length
    · have hltI : (k : Int) < (ns.length : Int) := by omega
      obtain ⟨x, hx⟩ : ∃ x, ns[k]? = some x := ⟨ns[k], List.getElem?_eq_getElem hlt⟩
      rcases Hr.out with hr | ⟨g, off, rfl, _, gl, hc⟩
      · subst hr; simp at hlt
      have A0 := (hbw.out.cell (p := ⟨g, off + k, Option.none⟩) gl).trans (hc k x hx)
      have hE := Lib.hid (catT_take hx)
      have hl1 := Nat.le_trans (catT_le ns (k + 1)) Hlen.out
      rw [hE.out, List.length_append] at hl1
      have hxs : x.data.toList.length = x.size := by simp
      have Hl := Lib.hid (show (catT (ns.take k)).length + x.size ≤ 140737488355328 by omega)
      clear hc hx hl1 hxs Hr
      go_wp2_with fail
      refine (WriteString_is _ _ _ x _ hB.out Hl.out hbw.out.size).mono ?_
      rintro e w3 ⟨rfl, hB3, hb3, _⟩
      have B3 := Lib.hid (hbw.out.trans hb3)
      have HB3 := Lib.hid hB3
      clear hB3 hb3 A0
      go_wp2
      go_roundw
      case rel => exact ⟨k + 1, by omega, by go_num, Lib.hid (by rw [hE.out]; exact HB3.out), B3⟩
      case measure => simp [RowKit.intOf]; omega
    · have hke : k = ns.length := by omega
      have HB := Lib.hid (show Bld w.heap.size w.heap.size (catT ns) wr by have := hB.out; rw [hke, List.take_of_length_le (Nat.le_refl _)] at this; exact this)
      clear hB hke
      go_wp2_with fail
      refine (String_is _ _ _ _ HB.out hbw.out.size).mono ?_
      rintro e w3 ⟨rfl, hb3⟩
      have B3 := Lib.hid (hbw.out.trans hb3)
      clear hb3
      go_wp2
      go_ret
      exact ⟨rfl, B3.out⟩
set_option maxRecDepth 100000 in
theorem holdOf_is (k : Int) (w : World) : Calls Tryd.prog 34 #[.int .i64 k] w fun e w' => e = .returned (.int .i64 (lvl k : Int)) ∧ w = w' := by
  by_cases h4 : k = 4
  · subst h4
    go_enter Tryd.func34, Tryd.ntmps34
    go_wp2
    go_ret
    exact ⟨rfl, rfl⟩
  · by_cases h5 : k = 5
    · subst h5
      go_enter Tryd.func34, Tryd.ntmps34
      go_wp2
      go_ret
      exact ⟨rfl, rfl⟩
    · by_cases h6 : k = 6
      · subst h6
        go_enter Tryd.func34, Tryd.ntmps34
        go_wp2
        go_ret
        exact ⟨rfl, rfl⟩
      · have E := Lib.hid (lvl3 h4 h5 h6)
        have e4 := int_ne h4
        have e5 := int_ne h5
        have e6 := int_ne h6
        go_enter Tryd.func34, Tryd.ntmps34
        go_wp2
        go_ret
        exact ⟨by show Ending.returned (.int .i64 3) = .returned (.int .i64 (lvl k : Int)); rw [E.out]; rfl, rfl⟩
set_option maxRecDepth 100000 in
theorem signOf_is (k : Int) (hk : 4 ≤ k ∧ k ≤ 8) (w : World) : Calls Tryd.prog 35 #[.int .i64 k] w fun e w' => e = .returned (.string (str (sgn k))) ∧ w = w' := by
  have hc : k = 4 ∨ k = 5 ∨ k = 6 ∨ k = 7 ∨ k = 8 := by omega
  clear hk
  rcases hc with rfl | rfl | rfl | rfl | rfl
  all_goals
    go_enter Tryd.func35, Tryd.ntmps35
    go_wp2
    go_ret
    exact ⟨rfl, rfl⟩
/-- Texts in a row that was just laid. -/
theorem TV.new (w : World) (ns : List ByteArray) (t : TypeId) (n c : Nat) (hn : ns.length = n) : TV (w.alloc (.cells (ns.map Value.string).toArray t)) 0 (.slice (some ⟨w.heap.size, 0, Option.none⟩) n c) ns := by
  subst hn
  refine ⟨_, c, rfl, .inr ⟨w.heap.size, 0, rfl, Nat.zero_le _, by simp, fun i x hi => ?_⟩⟩
  rw [Nat.zero_add]
  have := new_range w (ns.map Value.string).toArray t i (.string x) (by simp [hi])
  rwa [Nat.zero_add] at this
/-- What partText says of expressions that are as told so deep. -/
def PartC (d : Nat) : Prop := ∀ (x : X), toldX d x = true → enodes x.l ≤ 100 → ∀ (w : World) (v : Value), EV w 0 x.l v → TabT w → Calls Tryd.prog 14 #[.agg (xcells x v).toArray] w fun e w' => e = .returned (.string (str (xT x))) ∧ Below w.heap.size w w'
set_option maxHeartbeats 2000000 in
set_option maxRecDepth 100000 in
theorem sideText_of (d : Nat) (ih : PartC d) (x : X) (hx : toldX d x = true) (hnx : enodes x.l ≤ 100) (n : Nat) (hn : n ≤ 3) (w : World) (v : Value) (hv : EV w 0 x.l v) (hT : TabT w) :
    Calls Tryd.prog 36 #[.agg (xcells x v).toArray, .int .i64 (n : Int)] w fun e w' => e = .returned (.string (str (side (xP x) n))) ∧ Below w.heap.size w w' := by
  have B := Lib.hid (alloc_below w (.cells (xcells x v).toArray 29))
  have R0 := Lib.hid (show (w.alloc (.cells (xcells x v).toArray 29)).rangeAt w.heap.size 0 (xcells x v) from new_range w (xcells x v).toArray 29)
  have CI := Lib.hid (ih x hx hnx _ v (hv.later B.out) (hT.later B.out))
  have hlen := xT_len d x hx
  obtain ⟨T, HT⟩ : ∃ T, Hid (str (xT x) = T) := ⟨_, rfl⟩
  have hTs : T.size ≤ 1000000 := by rw [← HT.out, str_size]; omega
  have hTl : T.data.toList = xT x := by rw [← HT.out, str_list]
  rw [HT.out] at CI
  have HP := Lib.hid (show (xP x).1 = lvl x.h.k from rfl)
  have hl : lvl x.h.k ≤ 3 := by unfold lvl; repeat' split <;> try omega
  clear ih hv hT
  have Hq := Lib.hid (holdOf_is x.h.k)
  show Calls Tryd.prog 36 #[.agg #[.int .i64 x.h.k, .int .i64 x.h.n, .string x.h.s, v], .int .i64 (n : Int)] w _
  by_cases hlt : lvl x.h.k < n
  · have hltI : (lvl x.h.k : Int) < (n : Int) := by omega
    have EQ := Lib.hid (show catT [⟨#[40]⟩, T, ⟨#[41]⟩] = side (xP x) n by rw [side_yes (by rw [HP.out]; exact hlt)]; simp only [catT, hTl]; simp; rfl)
    have CJ := Lib.hid (fun (W : World) => joined_is [⟨#[40]⟩, T, ⟨#[41]⟩] (by simp) (by rw [EQ.out]; have := side_len (xP x) n; have e : (xP x).2.length = (xT x).length := rfl; omega) _ _ (TV.new W [⟨#[40]⟩, T, ⟨#[41]⟩] 9 3 3 rfl))
    rw [EQ.out] at CJ
    clear hTl
    go_enter Tryd.func36, Tryd.ntmps36
    go_wp2_with fail
    refine (Hq.out _).mono ?_
    rintro e w1 ⟨rfl, rfl⟩
    go_wp2_with (refine wpList_load_mid rfl 29 _ rfl w.heap.size 0 rfl _ _ R0.out Tryd.underlying29 rfl sizeIE2 ?_)
    refine CI.out.mono ?_
    rintro e w2 ⟨rfl, hb2⟩
    have B2 := Lib.hid (below_alloc hb2)
    clear hb2 CI
    go_wp2_with fail
    refine (CJ.out _).mono ?_
    rintro e w3 ⟨rfl, hb3⟩
    have B3 := Lib.hid (B2.out.trans ((below_alloc hb3).mono B2.out.size))
    clear hb3 CJ
    go_wp2
    go_ret
    exact ⟨rfl, B3.out⟩
  · have hltI : ¬ (lvl x.h.k : Int) < (n : Int) := by omega
    have E := Lib.hid (show str (side (xP x) n) = T by rw [← HT.out, side_no (by rw [HP.out]; exact hlt)]; rfl)
    rw [E.out]
    clear hTl
    go_enter Tryd.func36, Tryd.ntmps36
    go_wp2_with fail
    refine (Hq.out _).mono ?_
    rintro e w1 ⟨rfl, rfl⟩
    go_wp2_with (refine wpList_load_mid rfl 29 _ rfl w.heap.size 0 rfl _ _ R0.out Tryd.underlying29 rfl sizeIE2 ?_)
    refine CI.out.mono ?_
    rintro e w2 ⟨rfl, hb2⟩
    have B2 := Lib.hid (below_alloc hb2)
    clear hb2 CI
    go_wp2
    go_ret
    exact ⟨rfl, B2.out⟩
set_option maxHeartbeats 4000000 in
set_option maxRecDepth 100000 in
theorem pairText_one (d : Nat) (ih : PartC d) (k : Int) (hk : 4 ≤ k ∧ k ≤ 8) (hl : lvl k = 3) (y z : X) (hy : toldX d y = true) (hz : toldX d z = true) (hny : enodes y.l ≤ 100) (hnz : enodes z.l ≤ 100) (w : World) (u1 u2 : Value) (hu1 : EV w 0 y.l u1) (hu2 : EV w 0 z.l u2) (hT : TabT w) :
    Calls Tryd.prog 25 #[.int .i64 k, .agg #[.int .i64 y.h.k, .int .i64 y.h.n, .string y.h.s, u1, .int .i64 z.h.k, .int .i64 z.h.n, .string z.h.s, u2]] w fun e w' => e = .returned (.string (str (pairT k (xP y) (xP z)))) ∧ Below w.heap.size w w' := by
  have B := Lib.hid (alloc_below w (.cells #[.int .i64 y.h.k, .int .i64 y.h.n, .string y.h.s, u1, .int .i64 z.h.k, .int .i64 z.h.n, .string z.h.s, u2] 54))
  obtain ⟨w1, W1⟩ : ∃ w1, Hid (w1 = w.alloc (.cells #[.int .i64 y.h.k, .int .i64 y.h.n, .string y.h.s, u1, .int .i64 z.h.k, .int .i64 z.h.n, .string z.h.s, u2] 54)) := ⟨_, rfl⟩
  have RA := show w1.rangeAt w.heap.size 0 [.int .i64 y.h.k, .int .i64 y.h.n, .string y.h.s, u1, .int .i64 z.h.k, .int .i64 z.h.n, .string z.h.s, u2] by rw [W1.out]; exact new_range w #[.int .i64 y.h.k, .int .i64 y.h.n, .string y.h.s, u1, .int .i64 z.h.k, .int .i64 z.h.n, .string z.h.s, u2] 54
  have RY := Lib.hid (show w1.rangeAt w.heap.size 0 (xcells y u1) from x_range (x := y) (RA 0 _ rfl) (RA 1 _ rfl) (RA 2 _ rfl) (RA 3 _ rfl))
  have RZ := Lib.hid (show w1.rangeAt w.heap.size 4 (xcells z u2) from x_range (x := z) (RA 4 _ rfl) (RA 5 _ rfl) (RA 6 _ rfl) (RA 7 _ rfl))
  have B1 := Lib.hid (show Below w.heap.size w w1 by rw [W1.out]; exact B.out)
  have hlen := xT_len d y hy
  have hlen2 := xT_len d z hz
  have Hq := Lib.hid (holdOf_is k)
  have CS := Lib.hid (signOf_is k hk)
  have HT1 := Lib.hid (hT.later B1.out)
  obtain ⟨G, HG⟩ : ∃ G, Hid (str (sgn k) = G) := ⟨_, rfl⟩
  have hGl : G.data.toList = sgn k := by rw [← HG.out, str_list]
  rw [HG.out] at CS
  have hpl := pairT_len k (xP y) (xP z)
  have e1 : (xP y).2.length = (xT y).length := rfl
  have e2 : (xP z).2.length = (xT z).length := rfl
  obtain ⟨T, HT⟩ : ∃ T, Hid (str (xT y) = T) := ⟨_, rfl⟩
  obtain ⟨U, HU⟩ : ∃ U, Hid (str (xT z) = U) := ⟨_, rfl⟩
  have hTl : T.data.toList = xT y := by rw [← HT.out, str_list]
  have hUl : U.data.toList = xT z := by rw [← HU.out, str_list]
  have CY : Hid (∀ w', Below w1.heap.size w1 w' → Calls Tryd.prog 14 #[.agg (xcells y u1).toArray] w' fun e w'' => e = .returned (.string T) ∧ Below w'.heap.size w' w'') := Lib.hid (fun w' hb => by rw [← HT.out]; exact ih y hy hny w' u1 ((hu1.later B1.out).later hb) (HT1.out.later hb))
  have CZ : Hid (∀ w', Below w1.heap.size w1 w' → Calls Tryd.prog 14 #[.agg (xcells z u2).toArray] w' fun e w'' => e = .returned (.string U) ∧ Below w'.heap.size w' w'') := Lib.hid (fun w' hb => by rw [← HU.out]; exact ih z hz hnz w' u2 ((hu2.later B1.out).later hb) (HT1.out.later hb))
  have EQ := Lib.hid (show catT [G, ⟨#[40]⟩, T, ⟨#[44, 32]⟩, U, ⟨#[41]⟩] = pairT k (xP y) (xP z) by unfold pairT; rw [if_pos hl]; simp only [catT, hGl, hTl, hUl]; simp; rfl)
  have CJ := Lib.hid (fun (W : World) => joined_is [G, ⟨#[40]⟩, T, ⟨#[44, 32]⟩, U, ⟨#[41]⟩] (by simp) (by rw [EQ.out]; omega) _ _ (TV.new W [G, ⟨#[40]⟩, T, ⟨#[44, 32]⟩, U, ⟨#[41]⟩] 9 6 6 rfl))
  have hlI : (lvl k : Int) = 3 := by omega
  rw [EQ.out] at CJ
  have bd : Below w1.heap.size w1 w1.drew := (Below.refl _ w1).drew
  clear RA hTl hUl hGl hu1 hu2 hT ih hpl e1 e2 hlen hlen2
  go_enter Tryd.func25, Tryd.ntmps25
  go_wp2_with fail
  refine (Hq.out _).mono ?_
  rintro e w0 ⟨rfl, rfl⟩
  go_wp2_with fail
  rw [← W1.out]
  clear W1
  refine wp_region_held_drew (S := Below w1.heap.size w1) (by kernel_rfl) bd (fun hHeld => ?_)
  refine wpAnyH_take (i := 0) (v := .int .i64 k) rfl (by kernel_rfl) (by kernel_rfl) (by kernel_rfl) (fun _ _ _ h => h) (Or.inl ⟨by rfl, ?yo0⟩) hHeld ?_
  case yo0 => intro w hSw; go_simp
  simp only [Act.put, List.getElem_toArray, List.getElem_cons_succ, List.getElem_cons_zero, List.setIfInBounds_toArray, List.set_cons_zero, List.set_cons_succ]
  refine wpAnyH_take (i := 2) (v := .pointer (some ⟨w.heap.size, 0, Option.none⟩)) rfl (by kernel_rfl) (by kernel_rfl) (by kernel_rfl) (fun _ _ _ h => h) (Or.inl ⟨by rfl, ?yo2⟩) hHeld ?_
  case yo2 => intro w hSw; go_simp
  simp only [Act.put, List.getElem_toArray, List.getElem_cons_succ, List.getElem_cons_zero, List.setIfInBounds_toArray, List.set_cons_zero, List.set_cons_succ]
  refine wpAnyH_take (i := 3) (v := .agg (xcells y u1).toArray) rfl (by kernel_rfl) (by kernel_rfl) (by kernel_rfl) (fun _ _ _ h => h) (yieldsIf_load_mid (by rfl) 29 _ rfl (w.heap.size) (0) rfl (xcells y u1) _ (fun w h => rangeAt_later RY.out h) Tryd.underlying29 rfl sizeIE2) hHeld ?_
  simp only [Act.put, List.getElem_toArray, List.getElem_cons_succ, List.getElem_cons_zero, List.setIfInBounds_toArray, List.set_cons_zero, List.set_cons_succ]
  refine wpAnyH_take (i := 5) (v := .pointer (some ⟨w.heap.size, 4, Option.none⟩)) rfl (by kernel_rfl) (by kernel_rfl) (by kernel_rfl) (fun _ _ _ h => h) (Or.inl ⟨by rfl, ?yo5⟩) hHeld ?_
  case yo5 => intro w hSw; go_simp
  simp only [Act.put, List.getElem_toArray, List.getElem_cons_succ, List.getElem_cons_zero, List.setIfInBounds_toArray, List.set_cons_zero, List.set_cons_succ]
  refine wpAnyH_take (i := 6) (v := .agg (xcells z u2).toArray) rfl (by kernel_rfl) (by kernel_rfl) (by kernel_rfl) (fun _ _ _ h => h) (yieldsIf_load_mid (by rfl) 29 _ rfl (w.heap.size) (4) rfl (xcells z u2) _ (fun w h => rangeAt_later RZ.out h) Tryd.underlying29 rfl sizeIE2) hHeld ?_
  simp only [Act.put, List.getElem_toArray, List.getElem_cons_succ, List.getElem_cons_zero, List.setIfInBounds_toArray, List.set_cons_zero, List.set_cons_succ]
  refine wpAnyH_ready (rs := [1]) (by kernel_rfl) (by simp) ?_
  refine AllReadyH.cons rfl (fun K hK => ?_) AllReadyH.nil
  rw [if_pos (by rfl)]
  simp only [List.getElem_toArray, List.getElem_cons_succ, List.getElem_cons_zero]
  go_wp2_with fail
  refine (CS.out _).mono ?_
  rintro e w4 ⟨rfl, rfl⟩
  go_wp2_with fail
  refine hK.out _ _ (hHeld) (fun hHeld => ?_)
  refine wpAnyH_ready (rs := [4]) (by kernel_rfl) (by simp) ?_
  refine AllReadyH.cons rfl (fun K hK => ?_) AllReadyH.nil
  rw [if_pos (by rfl)]
  simp only [List.getElem_toArray, List.getElem_cons_succ, List.getElem_cons_zero]
  go_wp2_with fail
  refine (CY.out _ hHeld).mono ?_
  rintro e w5 ⟨rfl, hb5⟩
  go_wp2_with fail
  refine hK.out _ _ (hHeld.trans (hb5.mono hHeld.size)) (fun hHeld => ?_)
  refine wpAnyH_ready (rs := [7]) (by kernel_rfl) (by simp) ?_
  refine AllReadyH.cons rfl (fun K hK => ?_) AllReadyH.nil
  rw [if_pos (by rfl)]
  simp only [List.getElem_toArray, List.getElem_cons_succ, List.getElem_cons_zero]
  go_wp2_with fail
  refine (CZ.out _ hHeld).mono ?_
  rintro e w6 ⟨rfl, hb6⟩
  go_wp2_with fail
  refine hK.out _ _ (hHeld.trans (hb6.mono hHeld.size)) (fun hHeld => ?_)
  refine wpAnyH_ready (rs := [8]) (by kernel_rfl) (by simp) ?_
  refine AllReadyH.cons rfl (fun K hK => ?_) AllReadyH.nil
  rw [if_pos (by rfl)]
  simp only [List.getElem_toArray, List.getElem_cons_succ, List.getElem_cons_zero]
  go_wp2_with fail
  refine hK.out _ _ (hHeld.alloc hHeld.size _) (fun hHeld => ?_)
  try simp only [Act.put, List.getElem_toArray, List.getElem_cons_succ, List.getElem_cons_zero, List.setIfInBounds_toArray, List.set_cons_zero, List.set_cons_succ]
  refine wpAnyH_ready (rs := [9]) (by kernel_rfl) (by simp) ?_
  refine AllReadyH.cons rfl (fun K hK => ?_) AllReadyH.nil
  rw [if_pos (by rfl)]
  simp only [List.getElem_toArray, List.getElem_cons_succ, List.getElem_cons_zero]
  go_wp2_with fail
  refine (CJ.out w6).mono ?_
  rintro e w7 ⟨rfl, hb7⟩
  go_wp2_with fail
  refine hK.out _ _ (hHeld.trans (hb7.mono hHeld.size)) (fun hHeld => ?_)
  refine wpAnyH_take (i := 10) (v := .string (str (pairT k (xP y) (xP z)))) rfl (by kernel_rfl) (by kernel_rfl) (by kernel_rfl) (fun _ _ _ h => h) (Or.inl ⟨by rfl, ?yo10⟩) hHeld ?_
  case yo10 => intro w hSw; go_simp
  simp only [Act.put, List.getElem_toArray, List.getElem_cons_succ, List.getElem_cons_zero, List.setIfInBounds_toArray, List.set_cons_zero, List.set_cons_succ]
  refine wpAnyH_done (by kernel_rfl) ?_ _
  have BB := Lib.hid (B1.out.trans (hHeld.mono B1.out.size))
  clear hHeld bd
  go_wp2
  go_ret
  exact ⟨rfl, BB.out⟩
set_option maxHeartbeats 4000000 in
set_option maxRecDepth 100000 in
theorem pairText_two (d : Nat) (ih : PartC d) (k : Int) (hk : 4 ≤ k ∧ k ≤ 8) (hl : lvl k < 3) (y z : X) (hy : toldX d y = true) (hz : toldX d z = true) (hny : enodes y.l ≤ 100) (hnz : enodes z.l ≤ 100) (w : World) (u1 u2 : Value) (hu1 : EV w 0 y.l u1) (hu2 : EV w 0 z.l u2) (hT : TabT w) :
    Calls Tryd.prog 25 #[.int .i64 k, .agg #[.int .i64 y.h.k, .int .i64 y.h.n, .string y.h.s, u1, .int .i64 z.h.k, .int .i64 z.h.n, .string z.h.s, u2]] w fun e w' => e = .returned (.string (str (pairT k (xP y) (xP z)))) ∧ Below w.heap.size w w' := by
  have B := Lib.hid (alloc_below w (.cells #[.int .i64 y.h.k, .int .i64 y.h.n, .string y.h.s, u1, .int .i64 z.h.k, .int .i64 z.h.n, .string z.h.s, u2] 54))
  obtain ⟨w1, W1⟩ : ∃ w1, Hid (w1 = w.alloc (.cells #[.int .i64 y.h.k, .int .i64 y.h.n, .string y.h.s, u1, .int .i64 z.h.k, .int .i64 z.h.n, .string z.h.s, u2] 54)) := ⟨_, rfl⟩
  have RA := show w1.rangeAt w.heap.size 0 [.int .i64 y.h.k, .int .i64 y.h.n, .string y.h.s, u1, .int .i64 z.h.k, .int .i64 z.h.n, .string z.h.s, u2] by rw [W1.out]; exact new_range w #[.int .i64 y.h.k, .int .i64 y.h.n, .string y.h.s, u1, .int .i64 z.h.k, .int .i64 z.h.n, .string z.h.s, u2] 54
  have RY := Lib.hid (show w1.rangeAt w.heap.size 0 (xcells y u1) from x_range (x := y) (RA 0 _ rfl) (RA 1 _ rfl) (RA 2 _ rfl) (RA 3 _ rfl))
  have RZ := Lib.hid (show w1.rangeAt w.heap.size 4 (xcells z u2) from x_range (x := z) (RA 4 _ rfl) (RA 5 _ rfl) (RA 6 _ rfl) (RA 7 _ rfl))
  have B1 := Lib.hid (show Below w.heap.size w w1 by rw [W1.out]; exact B.out)
  have hlen := xT_len d y hy
  have hlen2 := xT_len d z hz
  have Hq := Lib.hid (holdOf_is k)
  have CS := Lib.hid (signOf_is k hk)
  have HT1 := Lib.hid (hT.later B1.out)
  obtain ⟨G, HG⟩ : ∃ G, Hid (str (sgn k) = G) := ⟨_, rfl⟩
  have hGl : G.data.toList = sgn k := by rw [← HG.out, str_list]
  rw [HG.out] at CS
  have hpl := pairT_len k (xP y) (xP z)
  have e1 : (xP y).2.length = (xT y).length := rfl
  have e2 : (xP z).2.length = (xT z).length := rfl
  obtain ⟨T, HT⟩ : ∃ T, Hid (str (side (xP y) (lvl k)) = T) := ⟨_, rfl⟩
  obtain ⟨U, HU⟩ : ∃ U, Hid (str (side (xP z) (lvl k + 1)) = U) := ⟨_, rfl⟩
  have hTl : T.data.toList = side (xP y) (lvl k) := by rw [← HT.out, str_list]
  have hUl : U.data.toList = side (xP z) (lvl k + 1) := by rw [← HU.out, str_list]
  obtain ⟨m, Hm⟩ : ∃ m, Hid (lvl k = m) := ⟨_, rfl⟩
  have hm : m < 3 := by rw [← Hm.out]; exact hl
  have CY : Hid (∀ w', Below w1.heap.size w1 w' → Calls Tryd.prog 36 #[.agg (xcells y u1).toArray, .int .i64 (m : Int)] w' fun e w'' => e = .returned (.string T) ∧ Below w'.heap.size w' w'') := Lib.hid (fun w' hb => by rw [← HT.out, ← Hm.out]; exact sideText_of d ih y hy hny (lvl k) (by omega) w' u1 ((hu1.later B1.out).later hb) (HT1.out.later hb))
  have CZ : Hid (∀ w', Below w1.heap.size w1 w' → Calls Tryd.prog 36 #[.agg (xcells z u2).toArray, .int .i64 ((m : Int) + 1)] w' fun e w'' => e = .returned (.string U) ∧ Below w'.heap.size w' w'') := Lib.hid (fun w' hb => by rw [← HU.out, ← Hm.out]; exact sideText_of d ih z hz hnz (lvl k + 1) (by omega) w' u2 ((hu2.later B1.out).later hb) (HT1.out.later hb))
  have EQ := Lib.hid (show catT [T, ⟨#[32]⟩, G, ⟨#[32]⟩, U] = pairT k (xP y) (xP z) by unfold pairT; rw [if_neg (by omega)]; simp only [catT, hGl, hTl, hUl]; simp)
  have CJ := Lib.hid (fun (W : World) => joined_is [T, ⟨#[32]⟩, G, ⟨#[32]⟩, U] (by simp) (by rw [EQ.out]; omega) _ _ (TV.new W [T, ⟨#[32]⟩, G, ⟨#[32]⟩, U] 9 5 5 rfl))
  rw [Hm.out] at Hq
  have hmne : ((m : Int) == 3) = false := int_ne (by omega)
  have hmI : (m : Int) < 3 := by omega
  rw [EQ.out] at CJ
  have bd : Below w1.heap.size w1 w1.drew := (Below.refl _ w1).drew
  clear RA hTl hUl hGl hu1 hu2 hT ih hpl e1 e2 hlen hlen2
  go_enter Tryd.func25, Tryd.ntmps25
  go_wp2_with fail
  refine (Hq.out _).mono ?_
  rintro e w0 ⟨rfl, rfl⟩
  go_wp2_with fail
  rw [← W1.out]
  clear W1
  refine wp_region_held_drew (S := Below w1.heap.size w1) (by kernel_rfl) bd (fun hHeld => ?_)
  refine wpAnyH_take (i := 0) (v := .pointer (some ⟨w.heap.size, 0, Option.none⟩)) rfl (by kernel_rfl) (by kernel_rfl) (by kernel_rfl) (fun _ _ _ h => h) (Or.inl ⟨by rfl, ?yo0⟩) hHeld ?_
  case yo0 => intro w hSw; go_simp
  simp only [Act.put, List.getElem_toArray, List.getElem_cons_succ, List.getElem_cons_zero, List.setIfInBounds_toArray, List.set_cons_zero, List.set_cons_succ]
  refine wpAnyH_take (i := 1) (v := .agg (xcells y u1).toArray) rfl (by kernel_rfl) (by kernel_rfl) (by kernel_rfl) (fun _ _ _ h => h) (yieldsIf_load_mid (by rfl) 29 _ rfl (w.heap.size) (0) rfl (xcells y u1) _ (fun w h => rangeAt_later RY.out h) Tryd.underlying29 rfl sizeIE2) hHeld ?_
  simp only [Act.put, List.getElem_toArray, List.getElem_cons_succ, List.getElem_cons_zero, List.setIfInBounds_toArray, List.set_cons_zero, List.set_cons_succ]
  refine wpAnyH_take (i := 2) (v := .int .i64 (m : Int)) rfl (by kernel_rfl) (by kernel_rfl) (by kernel_rfl) (fun _ _ _ h => h) (Or.inl ⟨by rfl, ?yo2⟩) hHeld ?_
  case yo2 => intro w hSw; go_simp
  simp only [Act.put, List.getElem_toArray, List.getElem_cons_succ, List.getElem_cons_zero, List.setIfInBounds_toArray, List.set_cons_zero, List.set_cons_succ]
  refine wpAnyH_take (i := 4) (v := .int .i64 k) rfl (by kernel_rfl) (by kernel_rfl) (by kernel_rfl) (fun _ _ _ h => h) (Or.inl ⟨by rfl, ?yo4⟩) hHeld ?_
  case yo4 => intro w hSw; go_simp
  simp only [Act.put, List.getElem_toArray, List.getElem_cons_succ, List.getElem_cons_zero, List.setIfInBounds_toArray, List.set_cons_zero, List.set_cons_succ]
  refine wpAnyH_take (i := 6) (v := .pointer (some ⟨w.heap.size, 4, Option.none⟩)) rfl (by kernel_rfl) (by kernel_rfl) (by kernel_rfl) (fun _ _ _ h => h) (Or.inl ⟨by rfl, ?yo6⟩) hHeld ?_
  case yo6 => intro w hSw; go_simp
  simp only [Act.put, List.getElem_toArray, List.getElem_cons_succ, List.getElem_cons_zero, List.setIfInBounds_toArray, List.set_cons_zero, List.set_cons_succ]
  refine wpAnyH_take (i := 7) (v := .agg (xcells z u2).toArray) rfl (by kernel_rfl) (by kernel_rfl) (by kernel_rfl) (fun _ _ _ h => h) (yieldsIf_load_mid (by rfl) 29 _ rfl (w.heap.size) (4) rfl (xcells z u2) _ (fun w h => rangeAt_later RZ.out h) Tryd.underlying29 rfl sizeIE2) hHeld ?_
  simp only [Act.put, List.getElem_toArray, List.getElem_cons_succ, List.getElem_cons_zero, List.setIfInBounds_toArray, List.set_cons_zero, List.set_cons_succ]
  refine wpAnyH_take (i := 8) (v := .int .i64 (m : Int)) rfl (by kernel_rfl) (by kernel_rfl) (by kernel_rfl) (fun _ _ _ h => h) (Or.inl ⟨by rfl, ?yo8⟩) hHeld ?_
  case yo8 => intro w hSw; go_simp
  simp only [Act.put, List.getElem_toArray, List.getElem_cons_succ, List.getElem_cons_zero, List.setIfInBounds_toArray, List.set_cons_zero, List.set_cons_succ]
  refine wpAnyH_take (i := 9) (v := .int .i64 ((m : Int) + 1)) rfl (by kernel_rfl) (by kernel_rfl) (by kernel_rfl) (fun _ _ _ h => h) (Or.inl ⟨by rfl, ?yo9⟩) hHeld ?_
  case yo9 => intro w hSw; have hw := wrap_small ((m : Int) + 1) (by omega) (by omega); go_simp
  simp only [Act.put, List.getElem_toArray, List.getElem_cons_succ, List.getElem_cons_zero, List.setIfInBounds_toArray, List.set_cons_zero, List.set_cons_succ]
  refine wpAnyH_ready (rs := [3]) (by kernel_rfl) (by simp) ?_
  refine AllReadyH.cons rfl (fun K hK => ?_) AllReadyH.nil
  rw [if_pos (by rfl)]
  simp only [List.getElem_toArray, List.getElem_cons_succ, List.getElem_cons_zero]
  go_wp2_with fail
  refine (CY.out _ hHeld).mono ?_
  rintro e w5 ⟨rfl, hb5⟩
  go_wp2_with fail
  refine hK.out _ _ (hHeld.trans (hb5.mono hHeld.size)) (fun hHeld => ?_)
  refine wpAnyH_ready (rs := [5]) (by kernel_rfl) (by simp) ?_
  refine AllReadyH.cons rfl (fun K hK => ?_) AllReadyH.nil
  rw [if_pos (by rfl)]
  simp only [List.getElem_toArray, List.getElem_cons_succ, List.getElem_cons_zero]
  go_wp2_with fail
  refine (CS.out _).mono ?_
  rintro e w4 ⟨rfl, rfl⟩
  go_wp2_with fail
  refine hK.out _ _ (hHeld) (fun hHeld => ?_)
  refine wpAnyH_ready (rs := [10]) (by kernel_rfl) (by simp) ?_
  refine AllReadyH.cons rfl (fun K hK => ?_) AllReadyH.nil
  rw [if_pos (by rfl)]
  simp only [List.getElem_toArray, List.getElem_cons_succ, List.getElem_cons_zero]
  go_wp2_with fail
  refine (CZ.out _ hHeld).mono ?_
  rintro e w6 ⟨rfl, hb6⟩
  go_wp2_with fail
  refine hK.out _ _ (hHeld.trans (hb6.mono hHeld.size)) (fun hHeld => ?_)
  refine wpAnyH_ready (rs := [11]) (by kernel_rfl) (by simp) ?_
  refine AllReadyH.cons rfl (fun K hK => ?_) AllReadyH.nil
  rw [if_pos (by rfl)]
  simp only [List.getElem_toArray, List.getElem_cons_succ, List.getElem_cons_zero]
  go_wp2_with fail
  refine hK.out _ _ (hHeld.alloc hHeld.size _) (fun hHeld => ?_)
  try simp only [Act.put, List.getElem_toArray, List.getElem_cons_succ, List.getElem_cons_zero, List.setIfInBounds_toArray, List.set_cons_zero, List.set_cons_succ]
  refine wpAnyH_ready (rs := [12]) (by kernel_rfl) (by simp) ?_
  refine AllReadyH.cons rfl (fun K hK => ?_) AllReadyH.nil
  rw [if_pos (by rfl)]
  simp only [List.getElem_toArray, List.getElem_cons_succ, List.getElem_cons_zero]
  go_wp2_with fail
  refine (CJ.out w6).mono ?_
  rintro e w7 ⟨rfl, hb7⟩
  go_wp2_with fail
  refine hK.out _ _ (hHeld.trans (hb7.mono hHeld.size)) (fun hHeld => ?_)
  refine wpAnyH_take (i := 13) (v := .string (str (pairT k (xP y) (xP z)))) rfl (by kernel_rfl) (by kernel_rfl) (by kernel_rfl) (fun _ _ _ h => h) (Or.inl ⟨by rfl, ?yo13⟩) hHeld ?_
  case yo13 => intro w hSw; go_simp
  simp only [Act.put, List.getElem_toArray, List.getElem_cons_succ, List.getElem_cons_zero, List.setIfInBounds_toArray, List.set_cons_zero, List.set_cons_succ]
  refine wpAnyH_done (by kernel_rfl) ?_ _
  have BB := Lib.hid (B1.out.trans (hHeld.mono B1.out.size))
  clear hHeld bd
  go_wp2
  go_ret
  exact ⟨rfl, BB.out⟩
theorem pairText_is (d : Nat) (ih : PartC d) (k : Int) (hk : 4 ≤ k ∧ k ≤ 8) (y z : X) (hy : toldX d y = true) (hz : toldX d z = true) (hny : enodes y.l ≤ 100) (hnz : enodes z.l ≤ 100) (w : World) (u1 u2 : Value) (hu1 : EV w 0 y.l u1) (hu2 : EV w 0 z.l u2) (hT : TabT w) :
    Calls Tryd.prog 25 #[.int .i64 k, .agg #[.int .i64 y.h.k, .int .i64 y.h.n, .string y.h.s, u1, .int .i64 z.h.k, .int .i64 z.h.n, .string z.h.s, u2]] w fun e w' => e = .returned (.string (str (pairT k (xP y) (xP z)))) ∧ Below w.heap.size w w' := by
  have hl : lvl k ≤ 3 := by unfold lvl; repeat' split <;> try omega
  by_cases h : lvl k = 3
  · exact pairText_one d ih k hk h y z hy hz hny hnz w u1 u2 hu1 hu2 hT
  · exact pairText_two d ih k hk (by omega) y z hy hz hny hnz w u1 u2 hu1 hu2 hT
end Go.Proofs.YtkilmefpaojkfaaDoor
