/-
  Texts in one: NamePut, TokBuild, TxtImpl, TxtExp.
-/
import Derived.Test.YtkhccpjkajhnpabGreatDoorP09ofProgText
import Derived.Test.YtkhccpjkajhnpabGreatDoorP01ofProgText
import Derived.Test.YtkhccpjkajhnpabGreatDoorP02ofProgText
import Derived.Shelf.Strings.BuilderK
import Derived.Test.YtkhccpjkajhnpabGreatDoorRows
import Derived.WalkKit
import Derived.WalkLawsBesides
import Derived.OwnWalk
import Derived.Lib.Hide
import Derived.Test.YtkhccpjkajhnpabGreatDoorTxtSpec
import Derived.Test.YtkhccpjkajhnpabGreatDoorP06ofProgText
/-
  The contracts of the specification's l4Put, l4Names, VarsOf, LoopVars: names in order.
-/
namespace Go.Proofs.YtkhccpjkajhnpabGreatDoor
open Go.RowKit Go.Lib
set_option linter.unusedSimpArgs false
set_option linter.unusedVariables false

/-- A slice that holds these names, at lo or above. -/
def TV (w : World) (lo : Nat) (v : Value) (ns : List ByteArray) : Prop :=
  ∃ ao cap, v = .slice ao ns.length cap ∧ (ns = [] ∨ ∃ g off, ao = some ⟨g, off, Option.none⟩ ∧ lo ≤ g ∧ g < w.heap.size ∧ ∀ i t, ns[i]? = some t → w.cell? ⟨g, off + i, Option.none⟩ = some (.string t))
theorem TV.same {w w' : World} {lo lo' : Nat} {v : Value} {ns : List ByteArray} (hlo : lo' ≤ lo) (h : TV w lo v ns) (hk : Keeps lo w w') (hz : w.heap.size ≤ w'.heap.size) : TV w' lo' v ns := by
  obtain ⟨ao, cap, hv, h⟩ := h
  refine ⟨ao, cap, hv, ?_⟩
  rcases h with h | ⟨g, off, h1, h0, h2, h3⟩
  · exact .inl h
  · exact .inr ⟨g, off, h1, Nat.le_trans hlo h0, Nat.lt_of_lt_of_le h2 hz, fun i t hi => hk _ _ h0 (h3 i t hi)⟩
theorem TV.later {w w' : World} {lo : Nat} {v : Value} {ns : List ByteArray} (h : TV w lo v ns) (hb : Below w.heap.size w w') : TV w' lo v ns := h.same (Nat.le_refl _) (Keeps.later hb) hb.size
theorem TV.low {w : World} {lo : Nat} {v : Value} {ns : List ByteArray} (h : TV w lo v ns) : TV w 0 v ns := h.same (Nat.zero_le _) (Keeps.refl _ _) (Nat.le_refl _)
theorem TV.shape {w : World} {lo : Nat} {v : Value} {ns : List ByteArray} (h : TV w lo v ns) : ∃ a c, v = .slice a ns.length c := by obtain ⟨a, c, h1, _⟩ := h; exact ⟨a, c, h1⟩
theorem TV.of {w : World} {B : Nat} {v : Value} {ns : List ByteArray} (h : w.ownsRow B 9 1 v ns.length (ns.map Value.string)) : TV w B v ns := by
  rcases h.2 with ⟨h0, h1⟩ | ⟨g, cap, cur, h1, h2, h3, h4⟩
  · exact ⟨Option.none, 0, by rw [h1]; exact h0, .inl (List.length_eq_zero_iff.1 h1)⟩
  · refine ⟨_, cap, h1, .inr ⟨g, 0, rfl, h2, lt_heap h3, fun i t hi => ?_⟩⟩
    have hc := h.cells (g := g) (by rw [h1]; rfl) i (.string t) (by rw [List.getElem?_map, hi]; rfl)
    have e : (⟨g, 0, Option.none⟩ : Addr).add i = ⟨g, i, Option.none⟩ := by simp [Addr.add]; omega
    rw [e] at hc
    rw [Nat.zero_add]; exact hc
theorem infoStr : (Tryz.prog.info? 9).map (fun i => (i.zero, i.size, i.bytes)) = some (some (.string ⟨#[]⟩), 1, 16) := by kernel_rfl
theorem newT (w : World) (u : Value) (t : TypeId) : ∀ j x, [u][j]? = some x → (w.alloc (.cells #[u] t)).cell? ((⟨w.heap.size, 0, Option.none⟩ : Addr).add j) = some x := new1 w u t
/-- One name more. -/
theorem snocT {w w5 w6 : World} {os : List ByteArray} {t v' : Value} {x : ByteArray} {o : Obj} (hown : w5.ownsRow w.heap.size 9 1 t os.length (os.map Value.string)) (hb : Below w.heap.size w w5) (hg : (w5.alloc o).grownBy w6 t.ownBlock)
    (h : w6.ownsRow w.heap.size 9 1 v' (os.length + 1) (os.map Value.string ++ [.string x])) : w6.ownsRow w.heap.size 9 1 v' (os ++ [x]).length ((os ++ [x]).map Value.string) ∧ Below w.heap.size w w6 :=
  ⟨by rw [List.length_append, List.map_append]; exact h, (hb.alloc hb.size o).grown hg (by have := hb.size; simp; omega) (fun k hk => (hown.lt k hk).1)⟩
theorem ownShape {w : World} {B sz n : Nat} {e : TypeId} {v : Value} {xs : List Value} (h : w.ownsRow B e sz v n xs) : ∃ a c, v = .slice a n c := by
  rcases h.2 with ⟨h1, h0⟩ | ⟨g, cap, cur, h1, _⟩
  · exact ⟨_, _, by rw [h0]; exact h1⟩
  · exact ⟨_, _, h1⟩
theorem putR_x {s x : ByteArray} {r : List ByteArray} (d : Bool) (hd : d = true ∨ blt x s = true) (hx : ¬ x = s) : putR s d (x :: r) = x :: putR s d r := by
  cases d with
  | true => rw [putR, if_neg hx]
  | false => rcases hd with h | h
             · cases h
             · rw [putR, if_pos h, if_neg hx]
theorem putR_same {s : ByteArray} {r : List ByteArray} : putR s true (s :: r) = putR s true r := by rw [putR, if_pos rfl]
theorem putR_s {s x : ByteArray} {r : List ByteArray} (h : blt x s = false) : putR s false (x :: r) = s :: putR s true (x :: r) := by
  simp only [putR, h]; simp
set_option maxHeartbeats 2000000 in
set_option maxRecDepth 100000 in
theorem l4Put_is (ns : List ByteArray) (hn : ns.length ≤ 10000000) (s : ByteArray) (v : Value) (w : World) (hv : TV w 0 v ns) :
    Calls Tryz.prog 53 #[v, .string s] w fun e w' => ∃ v', e = .returned v' ∧ TV w' w.heap.size v' (putR s false ns) ∧ Below w.heap.size w w' := by
  obtain ⟨i0, hi0, hz0, hz1, hz2⟩ := info_parts infoStr
  obtain ⟨ao, cap, rfl, hr⟩ := hv
  have Hr := Lib.hid hr
  clear hr
  have hnI : (ns.length : Int) ≤ 10000000 := by omega
  go_enter Tryz.func53, Tryz.ntmps53
  go_wp2
  go_loopw [5, 6, 7] (fun out d i wr => ∃ (k : Nat) (dn : Bool) (os : List ByteArray), k ≤ ns.length ∧ i = .int .i64 k ∧ d = .bool dn ∧ Hid (os ++ putR s dn (ns.drop k) = putR s false ns ∧ os.length ≤ k + 1 ∧ (dn = false → os.length ≤ k)) ∧ wr.ownsRow w.heap.size 9 1 out os.length (os.map Value.string) ∧ Below w.heap.size w wr) (fun _ _ i _ => ns.length - (RowKit.intOf i).toNat)
  case atStart =>
    exact ⟨0, false, [], by omega, rfl, rfl, ⟨by simp, by simp, fun _ => by simp⟩, ⟨rfl, .inr ⟨w.heap.size, 0, #[], rfl, Nat.le_refl _, (by show (w.heap.push _)[w.heap.size]? = _; simp), Nat.le_refl _, (by unfold maxLen; omega), rfl, rfl⟩⟩, alloc_below _ _⟩
  case round =>
    obtain ⟨k, dn, os, hk, rfl, rfl, hg, hown, hbr⟩ := hrel
    obtain ⟨g1, g2, g3⟩ := hg.out
    obtain ⟨oa, oc, rfl⟩ := ownShape hown
    have hol : (os.length : Int) ≤ 10000001 := by omega
    by_cases hlt : k < ns.length
    · have hltI : (k : Int) < (ns.length : Int) := by omega
      obtain ⟨x, hx⟩ : ∃ x, ns[k]? = some x := ⟨ns[k], List.getElem?_eq_getElem hlt⟩
      rcases Hr.out with hr | ⟨g, off, rfl, _, gl, hc⟩
      · subst hr; simp at hlt
      have hsz := hbr.size
      have AW := Lib.hid (hc k x hx)
      have A0 := (hbr.cell (p := ⟨g, off + k, Option.none⟩) gl).trans AW.out
      have hd : ns.drop k = x :: ns.drop (k + 1) := by rw [List.drop_eq_getElem_cons hlt]; congr 1; rw [List.getElem?_eq_getElem hlt] at hx; injection hx
      rw [hd] at g1
      clear hc hx Hr hd hg
      by_cases hdb : dn = true ∨ blt x s = true
      · have G3 : Hid (dn = false → os.length ≤ k) := g3
        by_cases he : x = s
        · have hdn : dn = true := hdb.resolve_right (fun h => by rw [he, blt_irrefl] at h; cases h)
          subst hdn
          subst he
          rw [putR_same] at g1
          have G := Lib.hid (And.intro g1 g2)
          clear g1 g2 g3 hdb
          go_wp2
          go_roundw
          case rel => exact ⟨k + 1, true, os, by omega, by go_num, rfl, ⟨G.out.1, by have := G.out.2; omega, fun h => by cases h⟩, hown, hbr⟩
          case measure => simp [RowKit.intOf]; omega
        · rw [putR_x dn hdb he] at g1
          have G := Lib.hid (And.intro g1 g2)
          have hne := str_ne he
          have hcs : dn = true ∨ (dn = false ∧ Op.bytesLess x.toList s.toList = true) := by
            cases dn with
            | true => exact .inl rfl
            | false => exact .inr ⟨rfl, hdb.resolve_left (by simp)⟩
          clear g1 g2 g3 hdb he
          rcases hcs with rfl | ⟨rfl, hls⟩
          · go_wp2_with (at_builtin; refine wpList_append_own _ rfl _ _ 56 rfl w.heap.size 9 i0 _ 1 16 Tryz.underlying56 hi0 hz0 hz1 hz2 rfl (by decide) _ _ _ rfl (hown.alloc _) ⟨wr.heap.size, 0, Option.none⟩ 1 1 [.string x] rfl rfl (newT _ _ _) ?cb2 ?cb3 ?cb4 ?cb5 ?_)
            case cb2 => first | rfl | (intro x hx; simp only [List.mem_cons, List.not_mem_nil, or_false] at hx; subst hx; rfl)
            case cb3 => unfold maxLen; omega
            case cb4 => omega
            case cb5 => first | omega | (simp; omega)
            intro v' w6 hown' hgrow _
            obtain ⟨n1, n2⟩ := snocT hown hbr hgrow hown'
            clear hown' hgrow hown hbr A0
            go_wp2
            go_roundw
            case rel => exact ⟨k + 1, true, os ++ [x], by omega, by go_num, rfl, ⟨by rw [List.append_assoc]; exact G.out.1, by have := G.out.2; simp; omega, fun h => by cases h⟩, n1, n2⟩
            case measure => simp [RowKit.intOf]; omega
          · go_wp2_with (at_builtin; refine wpList_append_own _ rfl _ _ 56 rfl w.heap.size 9 i0 _ 1 16 Tryz.underlying56 hi0 hz0 hz1 hz2 rfl (by decide) _ _ _ rfl (hown.alloc _) ⟨wr.heap.size, 0, Option.none⟩ 1 1 [.string x] rfl rfl (newT _ _ _) ?cc2 ?cc3 ?cc4 ?cc5 ?_)
            case cc2 => first | rfl | (intro x hx; simp only [List.mem_cons, List.not_mem_nil, or_false] at hx; subst hx; rfl)
            case cc3 => unfold maxLen; omega
            case cc4 => omega
            case cc5 => first | omega | (simp; omega)
            intro v' w6 hown' hgrow _
            obtain ⟨n1, n2⟩ := snocT hown hbr hgrow hown'
            clear hown' hgrow hown hbr A0
            go_wp2
            go_roundw
            case rel => exact ⟨k + 1, false, os ++ [x], by omega, by go_num, rfl, ⟨by rw [List.append_assoc]; exact G.out.1, by have := G.out.2; simp; omega, fun _ => by have := G3.out (by simp); simp; omega⟩, n1, n2⟩
            case measure => simp [RowKit.intOf]; omega
      · have hdn : dn = false := by cases dn with | false => rfl | true => exact absurd (.inl rfl) hdb
        subst hdn
        have hbl : blt x s = false := by cases h : blt x s with | false => rfl | true => exact absurd (.inr h) hdb
        have hls : Op.bytesLess x.toList s.toList = false := hbl
        rw [putR_s hbl] at g1
        have g4 := g3 rfl
        clear hdb hbl g3
        by_cases he : x = s
        · subst he
          rw [putR_same] at g1
          have G := Lib.hid (And.intro g1 g4)
          clear g1 g2 g4
          go_wp2_with (at_builtin; refine wpList_append_own _ rfl _ _ 56 rfl w.heap.size 9 i0 _ 1 16 Tryz.underlying56 hi0 hz0 hz1 hz2 rfl (by decide) _ _ _ rfl (hown.alloc _) ⟨wr.heap.size, 0, Option.none⟩ 1 1 [.string x] rfl rfl (newT _ _ _) ?ce2 ?ce3 ?ce4 ?ce5 ?_)
          case ce2 => first | rfl | (intro x hx; simp only [List.mem_cons, List.not_mem_nil, or_false] at hx; subst hx; rfl)
          case ce3 => unfold maxLen; omega
          case ce4 => omega
          case ce5 => first | omega | (simp; omega)
          intro v' w6 hown' hgrow _
          obtain ⟨n1, n2⟩ := snocT hown hbr hgrow hown'
          have A6 := (n2.cell (p := ⟨g, off + k, Option.none⟩) gl).trans AW.out
          clear hown' hgrow hown hbr A0
          go_wp2
          go_roundw
          case rel => exact ⟨k + 1, true, os ++ [x], by omega, by go_num, rfl, ⟨by rw [List.append_assoc]; exact G.out.1, by have := G.out.2; simp; omega, fun h => by cases h⟩, n1, n2⟩
          case measure => simp [RowKit.intOf]; omega
        · have hne := str_ne he
          rw [putR_x true (.inl rfl) he] at g1
          have G := Lib.hid (And.intro g1 g4)
          clear g1 g2 he g4
          go_wp2_with (at_builtin; refine wpList_append_own _ rfl _ _ 56 rfl w.heap.size 9 i0 _ 1 16 Tryz.underlying56 hi0 hz0 hz1 hz2 rfl (by decide) _ _ _ rfl (hown.alloc _) ⟨wr.heap.size, 0, Option.none⟩ 1 1 [.string s] rfl rfl (newT _ _ _) ?cg2 ?cg3 ?cg4 ?cg5 ?_)
          case cg2 => first | rfl | (intro x hx; simp only [List.mem_cons, List.not_mem_nil, or_false] at hx; subst hx; rfl)
          case cg3 => unfold maxLen; omega
          case cg4 => omega
          case cg5 => first | omega | (simp; omega)
          intro v' w6 hown' hgrow _
          obtain ⟨n1, n2⟩ := snocT hown hbr hgrow hown'
          have A6 := (n2.cell (p := ⟨g, off + k, Option.none⟩) gl).trans AW.out
          have hs6 := n2.size
          obtain ⟨va, vc, rfl⟩ := ownShape n1
          have hol6 : ((os ++ [s]).length : Int) ≤ 10000002 := by simp; omega
          clear hown' hgrow hown hbr A0
          go_wp2_with (at_builtin; refine wpList_append_own _ rfl _ _ 56 rfl w.heap.size 9 i0 _ 1 16 Tryz.underlying56 hi0 hz0 hz1 hz2 rfl (by decide) _ _ _ rfl (n1.alloc _) ⟨w6.heap.size, 0, Option.none⟩ 1 1 [.string x] rfl rfl (newT _ _ _) ?cd2 ?cd3 ?cd4 ?cd5 ?_)
          case cd2 => first | rfl | (intro x hx; simp only [List.mem_cons, List.not_mem_nil, or_false] at hx; subst hx; rfl)
          case cd3 => unfold maxLen; omega
          case cd4 => omega
          case cd5 => first | omega | (simp; omega)
          intro v'' w7 hown'' hgrow2 _
          obtain ⟨m1, m2⟩ := snocT n1 n2 (o := .cells #[.string x] 9) (by simpa using hgrow2) (show w7.ownsRow w.heap.size 9 1 v'' ((os ++ [s]).length + 1) ((os ++ [s]).map Value.string ++ [.string x]) by simpa using hown'')
          clear hown'' hgrow2 n1 n2 A6
          go_wp2
          go_roundw
          case rel => exact ⟨k + 1, true, os ++ [s] ++ [x], by omega, by go_num, rfl, ⟨by rw [List.append_assoc, List.append_assoc]; exact G.out.1, by have := G.out.2; simp; omega, fun h => by cases h⟩, m1, m2⟩
          case measure => simp [RowKit.intOf]; omega
    · have hkk : ns.drop k = [] := List.drop_of_length_le (by omega)
      rw [hkk] at g1
      cases dn with
      | true =>
        have G := Lib.hid (show os = putR s false ns by simpa [putR] using g1)
        clear g1 hg
        go_wp2
        go_ret
        exact ⟨_, rfl, by rw [← G.out]; exact TV.of hown, hbr⟩
      | false =>
        have G := Lib.hid (show os ++ [s] = putR s false ns by simpa [putR] using g1)
        have hsz := hbr.size
        clear g1 hg
        go_wp2_with (at_builtin; refine wpList_append_own _ rfl _ _ 56 rfl w.heap.size 9 i0 _ 1 16 Tryz.underlying56 hi0 hz0 hz1 hz2 rfl (by decide) _ _ _ rfl (hown.alloc _) ⟨wr.heap.size, 0, Option.none⟩ 1 1 [.string s] rfl rfl (newT _ _ _) ?cf2 ?cf3 ?cf4 ?cf5 ?_)
        case cf2 => first | rfl | (intro x hx; simp only [List.mem_cons, List.not_mem_nil, or_false] at hx; subst hx; rfl)
        case cf3 => unfold maxLen; omega
        case cf4 => omega
        case cf5 => first | omega | (simp; omega)
        intro v' w6 hown' hgrow _
        obtain ⟨n1, n2⟩ := snocT hown hbr hgrow hown'
        clear hown' hgrow hown hbr
        go_wp2
        go_ret
        exact ⟨_, rfl, by rw [← G.out]; exact TV.of n1, n2⟩
end Go.Proofs.YtkhccpjkajhnpabGreatDoor
/-
  The contracts of strings.Builder at this dump: WriteByte, WriteString and String of a builder of the call's own.
-/
namespace Go.Proofs
open Go.Shelf
def Tryz.lays169_ren : Go.Shelf.Ren := ⟨fun | 169 => 42 | n => n, fun | 70 => 77 | 9 => 9 | 0 => 0 | 72 => 79 | 37 => 62 | 127 => 102 | 3 => 3 | 5 => 5 | n => n, fun | n => n⟩
theorem Tryz.lays169 : Go.Proofs.Lays.n169 Tryz.prog Tryz.lays169_ren := {
  mixed := by kernel_rfl
  f169 := Tryz.func42.trans (congrArg some (by kernel_rfl))
  t0 := Tryz.underlying0
  a0 := Tryz.isAgg0
  z0 := Tryz.sizeOf0
  v0 := Tryz.zeroValue0
  t3 := Tryz.underlying3
  a3 := Tryz.isAgg3
  z3 := Tryz.sizeOf3
  v3 := Tryz.zeroValue3
  t9 := Tryz.underlying9
  a9 := Tryz.isAgg9
  z9 := Tryz.sizeOf9
  v9 := Tryz.zeroValue9
  t37 := Tryz.underlying62
  a37 := Tryz.isAgg62
  z37 := Tryz.sizeOf62
  v37 := Tryz.zeroValue62
  t70 := Tryz.underlying77
  a70 := Tryz.isAgg77
  z70 := Tryz.sizeOf77
  v70 := Tryz.zeroValue77
  t72 := Tryz.underlying79
  a72 := Tryz.isAgg79
  z72 := Tryz.sizeOf79
  v72 := Tryz.zeroValue79
  t127 := Tryz.underlying102
  a127 := Tryz.isAgg102
  z127 := Tryz.sizeOf102
  v127 := Tryz.zeroValue102 }
end Go.Proofs
namespace Go.Proofs.YtkhccpjkajhnpabGreatDoor
open Go.RowKit Go.Lib
set_option linter.unusedSimpArgs false

theorem extra : Builder.Extra Tryz.prog Tryz.lays169_ren :=
  { sizeBuilder := by kernel_rfl, liesBuilder := by kernel_rfl, t5 := Tryz.underlying5, a5 := Tryz.isAgg5, z5 := Tryz.sizeOf5, v5 := Tryz.zeroValue5, infoByte := by kernel_rfl, cellsByte := by kernel_rfl, sizeByte := by kernel_rfl, neB5 := by decide }
/-- A builder of the call's own that holds these bytes. -/
abbrev Bld (B b : Nat) (l : List UInt8) (w : World) : Prop := Lib.IsBuilderF 79 5 B b (Lib.byteCells l) w
theorem String_is (B b : Nat) (l : List UInt8) (w : World) (h : Bld B b l w) (hBw : B ≤ w.heap.size) :
    Calls Tryz.prog 42 #[.pointer (some ⟨b, 0, Option.none⟩)] w fun e w' => e = .returned (.string ⟨l.toArray⟩) ∧ Below B w w' :=
  (Any.Builder_String_any_k Tryz.lays169 extra B b l w h hBw).mono fun _ _ h => ⟨h.1, h.2.2.1⟩
theorem sizeB : ∃ j, Tryz.prog.info? 79 = some j ∧ j.size = 2 := by
  obtain ⟨j, hj, hs⟩ := Option.map_eq_some_iff.1 (show (Tryz.prog.info? 79).map (·.size) = some 2 by kernel_rfl)
  exact ⟨j, hj, hs⟩
theorem liesB : liesAt Tryz.prog Tryz.prog.depth 79 (2 / Tryz.prog.cellsOf 79) 0 79 1 = true := by kernel_rfl
theorem infoByte : (Tryz.prog.info? 5).map (fun i => (i.zero, i.size, i.bytes)) = some (some (.int .u8 0), 1, 1) := by kernel_rfl
/-- A builder's pointer, taken as one to anything, and back again. -/
theorem to_ptr (b : Nat) (w : World) (hsh : w.shape? b = some (79, 2)) : (convert 77 119 (.pointer (some ⟨b, 0, Option.none⟩))).run Tryz.prog w = .ok (.pointer (some ⟨b, 0, Option.none⟩)) w := by
  obtain ⟨j, hj, hjs⟩ := sizeB
  simp [convert, run_underlying Tryz.underlying77, run_underlying Tryz.underlying119, Conv.unsafePointer, Conv.seenAt, viewAt, cellsIn, hsh, Go.sizeOf, typeInfo, hj, hjs]
theorem of_ptr (b : Nat) (w : World) (hsh : w.shape? b = some (79, 2)) : (convert 119 77 (.pointer (some ⟨b, 0, Option.none⟩))).run Tryz.prog w = .ok (.pointer (some ⟨b, 0, Option.none⟩)) w := by
  obtain ⟨j, hj, hjs⟩ := sizeB
  simp [convert, run_underlying Tryz.underlying77, run_underlying Tryz.underlying119, Conv.unsafePointer, Conv.seenAt, viewAt, hsh, variablesAt, liesB, Go.sizeOf, typeInfo, hj]
set_option maxHeartbeats 1000000 in
set_option maxRecDepth 100000 in
theorem copyCheck_new (b : Nat) (w : World) (h0 : w.cell? ⟨b, 0, Option.none⟩ = some (.pointer Option.none)) (hsh : w.shape? b = some (79, 2)) (hfz : w.frozen? ⟨b, 0, Option.none⟩ = false) :
    Calls Tryz.prog 66 #[.pointer (some ⟨b, 0, Option.none⟩)] w fun e w' => e = .returned (.tuple #[]) ∧ w' = w.setCell ⟨b, 0, Option.none⟩ (.pointer (some ⟨b, 0, Option.none⟩)) := by
  have cv1 := to_ptr b w hsh
  have cv2 := of_ptr b w hsh
  go_enter Tryz.func66, Tryz.ntmps66
  go_wp2
  rw [run_callFunc_extern Tryz.func91 (by kernel_rfl) (by kernel_rfl) (by kernel_rfl) (e := Extern.AbiNoEscape.same) (by kernel_rfl), Lib.run_noEscape]
  simp only [Result.andThen]
  rw [Oper.upon_value]
  go_wp2
  go_end0
  exact ⟨rfl, rfl⟩
set_option maxHeartbeats 1000000 in
set_option maxRecDepth 100000 in
theorem copyCheck_used (b : Nat) (w : World) (h0 : w.cell? ⟨b, 0, Option.none⟩ = some (.pointer (some ⟨b, 0, Option.none⟩))) :
    Calls Tryz.prog 66 #[.pointer (some ⟨b, 0, Option.none⟩)] w fun e w' => e = .returned (.tuple #[]) ∧ w' = w := by
  obtain ⟨j, hj, _⟩ := sizeB
  go_enter Tryz.func66, Tryz.ntmps66
  go_wp2
  rw [Lib.run_neq_ptr_same w _ Tryz.underlying77 hj]
  go_wp2
  go_end0
  exact ⟨rfl, rfl⟩
/-- Behind copyCheck the builder knows its own address; its bytes, and every block but its own, are as they were. -/
theorem copyCheck_is (B b : Nat) (l : List UInt8) (w : World) (h : Bld B b l w) :
    Calls Tryz.prog 66 #[.pointer (some ⟨b, 0, Option.none⟩)] w fun e w' => e = .returned (.tuple #[]) ∧ Lib.BuilderAtF 79 5 B b (.pointer (some ⟨b, 0, Option.none⟩)) (Lib.byteCells l) w' ∧ Below B w w' ∧ Lib.OthersKept 5 (some b) w w' := by
  rcases h with h | h
  · refine (copyCheck_new b w h.cell0 h.shape h.frozen0).mono ?_
    rintro e w' ⟨rfl, rfl⟩
    exact ⟨rfl, h.used _, (Below.refl B w).setCell (p := ⟨b, 0, Option.none⟩) h.1 _, (Lib.OthersKept.refl _ _ w).setCell ⟨b, 0, Option.none⟩ rfl _⟩
  · refine (copyCheck_used b w h.cell0).mono ?_
    rintro e w' ⟨rfl, rfl⟩
    exact ⟨rfl, h, Below.refl B _, Lib.OthersKept.refl _ _ _⟩
theorem lt_blk {w : World} {b : Nat} {o : Obj} (h : w.heap[b]? = some o) : b < w.heap.size := (Array.getElem?_eq_some_iff.1 h).1
theorem len_cells (l : List UInt8) : (Lib.byteCells l).length = l.length := Lib.byteCells_length l
theorem ownF_shape {w : World} {B sz n : Nat} {e : TypeId} {v : Value} {xs : List Value} (h : w.ownsRowF B e sz v n xs) : ∃ ao n' cap, v = .slice ao n' cap := by
  rcases h.2 with ⟨hv, _⟩ | ⟨g, cap, cur, fz, hv, _⟩
  · exact ⟨_, _, _, hv⟩
  · exact ⟨_, _, _, hv⟩
set_option maxHeartbeats 2000000 in
set_option maxRecDepth 100000 in
theorem WriteString_is (B b : Nat) (l : List UInt8) (s : ByteArray) (w : World) (h : Bld B b l w) (hlen : l.length + s.size ≤ 140737488355328) (hBw : B ≤ w.heap.size) :
    Calls Tryz.prog 41 #[.pointer (some ⟨b, 0, Option.none⟩), .string s] w fun e w' => e = .returned (.tuple #[.int .i64 s.size, .nilIface]) ∧ Bld B b (l ++ s.data.toList) w' ∧ Below B w w' ∧ Lib.OthersKept 5 (some b) w w' := by
  obtain ⟨i0, hi, hz0, hz1, hz2⟩ := info_parts infoByte
  have hll := len_cells l
  go_enter Tryz.func41, Tryz.ntmps41
  go_wp2_with (go_at_call 66; refine (copyCheck_is B b l _ h).mono ?_)
  rintro e w1 ⟨rfl, ⟨hB, v, hbk, hown, hne⟩, hb1, hk1⟩
  have c0 : w1.cell? ⟨b, 0, Option.none⟩ = some (.pointer (some ⟨b, 0, Option.none⟩)) := by rw [Lib.cell_of_heap hbk]; rfl
  have c1 : w1.cell? ⟨b, 1, Option.none⟩ = some v := by rw [Lib.cell_of_heap hbk]; rfl
  have hlt := lt_blk hbk
  go_wp2_with (at_builtin; refine Lib.wpList_append_own_stringF _ rfl _ _ 62 9 rfl B 5 i0 Tryz.underlying62 Tryz.underlying9 hi hz0 hz1 hz2 _ _ _ rfl hown s rfl ?c3 ?c4 ?c5 ?_)
  case c3 => unfold maxLen; omega
  case c4 => omega
  case c5 => have := hb1.size; omega
  intro v' w2 hown' hgrow _
  have hb2 : w2.heap[b]? = some (.cells #[.pointer (some ⟨b, 0, Option.none⟩), v] 79 (0, 0)) := by
    rw [hgrow.block b hlt (fun e => hne e.symm)]
    exact hbk
  have d0 : w2.cell? ⟨b, 0, Option.none⟩ = some (.pointer (some ⟨b, 0, Option.none⟩)) := by rw [Lib.cell_of_heap hb2]; rfl
  have d1 : w2.cell? ⟨b, 1, Option.none⟩ = some v := by rw [Lib.cell_of_heap hb2]; rfl
  have f1 : w2.frozen? ⟨b, 1, Option.none⟩ = false := Lib.frozen_of_heap hb2 1
  obtain ⟨ao, n', cap, rfl⟩ := ownF_shape hown'
  go_wp2
  go_ret2
  have hcells : Lib.byteCells (l ++ s.data.toList) = Lib.byteCells l ++ Lib.strCells s := by rw [Lib.byteCells_append]; rfl
  refine ⟨rfl, .inr ?_, ?_, (hk1.grown hgrow (Lib.ownsRowF_kind hown)).setCell ⟨b, 1, Option.none⟩ rfl _⟩
  · exact Lib.BuilderAtF.put (T := 79) (e := 5) hB hb2 (bs' := Lib.byteCells (l ++ s.data.toList)) (by rw [hcells, List.length_append, Lib.strCells_length, len_cells]; exact hown') (by decide)
  · exact (hb1.grown hgrow (by have := hb1.size; omega) (fun k hk => (hown.lt k hk).1)).setCell (p := ⟨b, 1, Option.none⟩) hB _
end Go.Proofs.YtkhccpjkajhnpabGreatDoor
/-
  The contracts of the landed code's joined, holdOf, signOf, sideText, pairText, partText.
-/
namespace Go.Proofs.YtkhccpjkajhnpabGreatDoor
open Go.RowKit Go.Lib
set_option linter.unusedSimpArgs false
set_option linter.unusedVariables false

/-- The table of the powers of ten stands as the text lays it. -/
def TabT (w : World) : Prop := Lib.TabIs Tryz.prog w "internal/strconv.uint64pow10" .u64 Lib.pow10Tab
theorem TabT.later {w w' : World} (h : TabT w) (hb : Below w.heap.size w w') : TabT w' := Joins.tab_stays gPow h hb (Nat.le_refl _)
/-- Texts, one behind the other. -/
def catT : List ByteArray → List UInt8
  | [] => []
  | s :: l => s.data.toList ++ catT l
theorem catT_app (a b : List ByteArray) : catT (a ++ b) = catT a ++ catT b := by
  induction a with
  | nil => rfl
  | cons s a ih => simp only [List.cons_append, catT, ih, List.append_assoc]
theorem catT_take {ns : List ByteArray} {k : Nat} {x : ByteArray} (h : ns[k]? = some x) : catT (ns.take (k + 1)) = catT (ns.take k) ++ x.data.toList := by
  have hk : k < ns.length := (List.getElem?_eq_some_iff.1 h).1
  have e := (List.getElem?_eq_some_iff.1 h).2
  rw [List.take_succ_eq_append_getElem hk, catT_app, e]; simp [catT]
theorem catT_le (ns : List ByteArray) (k : Nat) : (catT (ns.take k)).length ≤ (catT ns).length := by
  conv => rhs; rw [← List.take_append_drop k ns, catT_app]
  simp
theorem bldT_lt {B b : Nat} {l : List UInt8} {w : World} (h : Bld B b l w) : b < w.heap.size := by
  rcases h with h | h
  · exact lt_blk h.2.choose_spec.1
  · exact lt_blk h.2.choose_spec.1
set_option maxHeartbeats 2000000 in
set_option maxRecDepth 100000 in
theorem joined_is (ns : List ByteArray) (hn : ns.length ≤ 1000) (hlen : (catT ns).length ≤ 1000000) (v : Value) (w : World) (hv : TV w 0 v ns) :
    Calls Tryz.prog 17 #[v] w fun e w' => e = .returned (.string (str (catT ns))) ∧ Below w.heap.size w w' := by
  obtain ⟨ao, cap, rfl, hr⟩ := hv
  have Hr := Lib.hid hr
  have Hlen := Lib.hid hlen
  clear hr hlen
  go_enter Tryz.func17, Tryz.ntmps17
  go_wp2
  go_loopw [8] (fun i wr => ∃ k : Nat, k ≤ ns.length ∧ i = .int .i64 k ∧ Hid (Bld w.heap.size w.heap.size (catT (ns.take k)) wr) ∧ Hid (Below w.heap.size w wr)) (fun i _ => ns.length - (RowKit.intOf i).toNat)
  case atStart => exact ⟨0, by omega, rfl, Lib.IsBuilderF.of (Lib.fresh_isBuilder 79 5 w), alloc_below _ _⟩
  case round =>
    obtain ⟨k, hk, rfl, hB, hbw⟩ := hrel
    by_cases hlt : k < ns.length
    · have hltI : (k : Int) < (ns.length : Int) := by omega
      obtain ⟨x, hx⟩ : ∃ x, ns[k]? = some x := ⟨ns[k], List.getElem?_eq_getElem hlt⟩
      rcases Hr.out with hr | ⟨g, off, rfl, _, gl, hc⟩
      · subst hr; simp at hlt
      have A0 := (hbw.out.cell (p := ⟨g, off + k, Option.none⟩) gl).trans (hc k x hx)
      have hE := Lib.hid (catT_take hx)
      have hl1 := Nat.le_trans (catT_le ns (k + 1)) Hlen.out
      rw [hE.out, List.length_append] at hl1
      have hxs : x.data.toList.length = x.size := by simp
      have Hl := Lib.hid (show (catT (ns.take k)).length + x.size ≤ 140737488355328 by omega)
      clear hc hx hl1 hxs Hr
      go_wp2_with fail
      refine (WriteString_is _ _ _ x _ hB.out Hl.out hbw.out.size).mono ?_
      rintro e w3 ⟨rfl, hB3, hb3, _⟩
      have B3 := Lib.hid (hbw.out.trans hb3)
      have HB3 := Lib.hid hB3
      clear hB3 hb3 A0
      go_wp2
      go_roundw
      case rel => exact ⟨k + 1, by omega, by go_num, Lib.hid (by rw [hE.out]; exact HB3.out), B3⟩
      case measure => simp [RowKit.intOf]; omega
    · have hke : k = ns.length := by omega
      have HB := Lib.hid (show Bld w.heap.size w.heap.size (catT ns) wr by have := hB.out; rw [hke, List.take_of_length_le (Nat.le_refl _)] at this; exact this)
      clear hB hke
      go_wp2_with fail
      refine (String_is _ _ _ _ HB.out hbw.out.size).mono ?_
      rintro e w3 ⟨rfl, hb3⟩
      have B3 := Lib.hid (hbw.out.trans hb3)
      clear hb3
      go_wp2
      go_ret
      exact ⟨rfl, B3.out⟩
set_option maxRecDepth 100000 in
theorem holdOf_is (k : Int) (w : World) : Calls Tryz.prog 107 #[.int .i64 k] w fun e w' => e = .returned (.int .i64 (lvl k : Int)) ∧ w = w' := by
  by_cases h4 : k = 4
  · subst h4
    go_enter Tryz.func107, Tryz.ntmps107
    go_wp2
    go_ret
    exact ⟨rfl, rfl⟩
  · by_cases h5 : k = 5
    · subst h5
      go_enter Tryz.func107, Tryz.ntmps107
      go_wp2
      go_ret
      exact ⟨rfl, rfl⟩
    · by_cases h6 : k = 6
      · subst h6
        go_enter Tryz.func107, Tryz.ntmps107
        go_wp2
        go_ret
        exact ⟨rfl, rfl⟩
      · have E := Lib.hid (lvl3 h4 h5 h6)
        have e4 := int_ne h4
        have e5 := int_ne h5
        have e6 := int_ne h6
        go_enter Tryz.func107, Tryz.ntmps107
        go_wp2
        go_ret
        exact ⟨by show Ending.returned (.int .i64 3) = .returned (.int .i64 (lvl k : Int)); rw [E.out]; rfl, rfl⟩
set_option maxRecDepth 100000 in
theorem signOf_is (k : Int) (hk : 4 ≤ k ∧ k ≤ 8) (w : World) : Calls Tryz.prog 108 #[.int .i64 k] w fun e w' => e = .returned (.string (str (sgn k))) ∧ w = w' := by
  have hc : k = 4 ∨ k = 5 ∨ k = 6 ∨ k = 7 ∨ k = 8 := by omega
  clear hk
  rcases hc with rfl | rfl | rfl | rfl | rfl
  all_goals
    go_enter Tryz.func108, Tryz.ntmps108
    go_wp2
    go_ret
    exact ⟨rfl, rfl⟩
/-- Texts in a row that was just laid. -/
theorem TV.new (w : World) (ns : List ByteArray) (t : TypeId) (n c : Nat) (hn : ns.length = n) : TV (w.alloc (.cells (ns.map Value.string).toArray t)) 0 (.slice (some ⟨w.heap.size, 0, Option.none⟩) n c) ns := by
  subst hn
  refine ⟨_, c, rfl, .inr ⟨w.heap.size, 0, rfl, Nat.zero_le _, by simp, fun i x hi => ?_⟩⟩
  rw [Nat.zero_add]
  have := new_range w (ns.map Value.string).toArray t i (.string x) (by simp [hi])
  rwa [Nat.zero_add] at this
/-- What partText says of expressions that are as told so deep. -/
def PartC (d : Nat) : Prop := ∀ (x : X), toldX d x = true → enodes x.l ≤ 100 → ∀ (w : World) (v : Value), EV w 0 x.l v → TabT w → Calls Tryz.prog 68 #[.agg (xcells x v).toArray] w fun e w' => e = .returned (.string (str (xT x))) ∧ Below w.heap.size w w'
set_option maxHeartbeats 2000000 in
set_option maxRecDepth 100000 in
theorem sideText_of (d : Nat) (ih : PartC d) (x : X) (hx : toldX d x = true) (hnx : enodes x.l ≤ 100) (n : Nat) (hn : n ≤ 3) (w : World) (v : Value) (hv : EV w 0 x.l v) (hT : TabT w) :
    Calls Tryz.prog 109 #[.agg (xcells x v).toArray, .int .i64 (n : Int)] w fun e w' => e = .returned (.string (str (side (xP x) n))) ∧ Below w.heap.size w w' := by
  have B := Lib.hid (alloc_below w (.cells (xcells x v).toArray 65))
  have R0 := Lib.hid (show (w.alloc (.cells (xcells x v).toArray 65)).rangeAt w.heap.size 0 (xcells x v) from new_range w (xcells x v).toArray 65)
  have CI := Lib.hid (ih x hx hnx _ v (hv.later B.out) (hT.later B.out))
  have hlen := xT_len d x hx
  obtain ⟨T, HT⟩ : ∃ T, Hid (str (xT x) = T) := ⟨_, rfl⟩
  have hTs : T.size ≤ 1000000 := by rw [← HT.out, str_size]; omega
  have hTl : T.data.toList = xT x := by rw [← HT.out, str_list]
  rw [HT.out] at CI
  have HP := Lib.hid (show (xP x).1 = lvl x.h.k from rfl)
  have hl : lvl x.h.k ≤ 3 := by unfold lvl; repeat' split <;> try omega
  clear ih hv hT
  have Hq := Lib.hid (holdOf_is x.h.k)
  show Calls Tryz.prog 109 #[.agg #[.int .i64 x.h.k, .int .i64 x.h.n, .string x.h.s, v], .int .i64 (n : Int)] w _
  by_cases hlt : lvl x.h.k < n
  · have hltI : (lvl x.h.k : Int) < (n : Int) := by omega
    have EQ := Lib.hid (show catT [⟨#[40]⟩, T, ⟨#[41]⟩] = side (xP x) n by rw [side_yes (by rw [HP.out]; exact hlt)]; simp only [catT, hTl]; simp; rfl)
    have CJ := Lib.hid (fun (W : World) => joined_is [⟨#[40]⟩, T, ⟨#[41]⟩] (by simp) (by rw [EQ.out]; have := side_len (xP x) n; have e : (xP x).2.length = (xT x).length := rfl; omega) _ _ (TV.new W [⟨#[40]⟩, T, ⟨#[41]⟩] 9 3 3 rfl))
    rw [EQ.out] at CJ
    clear hTl
    go_enter Tryz.func109, Tryz.ntmps109
    go_wp2_with fail
    refine (Hq.out _).mono ?_
    rintro e w1 ⟨rfl, rfl⟩
    go_wp2_with (refine wpList_load_mid rfl 65 _ rfl w.heap.size 0 rfl _ _ R0.out Tryz.underlying65 rfl sizeIE2 ?_)
    refine CI.out.mono ?_
    rintro e w2 ⟨rfl, hb2⟩
    have B2 := Lib.hid (below_alloc hb2)
    clear hb2 CI
    go_wp2_with fail
    refine (CJ.out _).mono ?_
    rintro e w3 ⟨rfl, hb3⟩
    have B3 := Lib.hid (B2.out.trans ((below_alloc hb3).mono B2.out.size))
    clear hb3 CJ
    go_wp2
    go_ret
    exact ⟨rfl, B3.out⟩
  · have hltI : ¬ (lvl x.h.k : Int) < (n : Int) := by omega
    have E := Lib.hid (show str (side (xP x) n) = T by rw [← HT.out, side_no (by rw [HP.out]; exact hlt)]; rfl)
    rw [E.out]
    clear hTl
    go_enter Tryz.func109, Tryz.ntmps109
    go_wp2_with fail
    refine (Hq.out _).mono ?_
    rintro e w1 ⟨rfl, rfl⟩
    go_wp2_with (refine wpList_load_mid rfl 65 _ rfl w.heap.size 0 rfl _ _ R0.out Tryz.underlying65 rfl sizeIE2 ?_)
    refine CI.out.mono ?_
    rintro e w2 ⟨rfl, hb2⟩
    have B2 := Lib.hid (below_alloc hb2)
    clear hb2 CI
    go_wp2
    go_ret
    exact ⟨rfl, B2.out⟩
set_option maxHeartbeats 4000000 in
set_option maxRecDepth 100000 in
theorem pairText_one (d : Nat) (ih : PartC d) (k : Int) (hk : 4 ≤ k ∧ k ≤ 8) (hl : lvl k = 3) (y z : X) (hy : toldX d y = true) (hz : toldX d z = true) (hny : enodes y.l ≤ 100) (hnz : enodes z.l ≤ 100) (w : World) (u1 u2 : Value) (hu1 : EV w 0 y.l u1) (hu2 : EV w 0 z.l u2) (hT : TabT w) :
    Calls Tryz.prog 94 #[.int .i64 k, .agg #[.int .i64 y.h.k, .int .i64 y.h.n, .string y.h.s, u1, .int .i64 z.h.k, .int .i64 z.h.n, .string z.h.s, u2]] w fun e w' => e = .returned (.string (str (pairT k (xP y) (xP z)))) ∧ Below w.heap.size w w' := by
  have B := Lib.hid (alloc_below w (.cells #[.int .i64 y.h.k, .int .i64 y.h.n, .string y.h.s, u1, .int .i64 z.h.k, .int .i64 z.h.n, .string z.h.s, u2] 131))
  obtain ⟨w1, W1⟩ : ∃ w1, Hid (w1 = w.alloc (.cells #[.int .i64 y.h.k, .int .i64 y.h.n, .string y.h.s, u1, .int .i64 z.h.k, .int .i64 z.h.n, .string z.h.s, u2] 131)) := ⟨_, rfl⟩
  have RA := show w1.rangeAt w.heap.size 0 [.int .i64 y.h.k, .int .i64 y.h.n, .string y.h.s, u1, .int .i64 z.h.k, .int .i64 z.h.n, .string z.h.s, u2] by rw [W1.out]; exact new_range w #[.int .i64 y.h.k, .int .i64 y.h.n, .string y.h.s, u1, .int .i64 z.h.k, .int .i64 z.h.n, .string z.h.s, u2] 131
  have RY := Lib.hid (show w1.rangeAt w.heap.size 0 (xcells y u1) from x_range (x := y) (RA 0 _ rfl) (RA 1 _ rfl) (RA 2 _ rfl) (RA 3 _ rfl))
  have RZ := Lib.hid (show w1.rangeAt w.heap.size 4 (xcells z u2) from x_range (x := z) (RA 4 _ rfl) (RA 5 _ rfl) (RA 6 _ rfl) (RA 7 _ rfl))
  have B1 := Lib.hid (show Below w.heap.size w w1 by rw [W1.out]; exact B.out)
  have hlen := xT_len d y hy
  have hlen2 := xT_len d z hz
  have Hq := Lib.hid (holdOf_is k)
  have CS := Lib.hid (signOf_is k hk)
  have HT1 := Lib.hid (hT.later B1.out)
  obtain ⟨G, HG⟩ : ∃ G, Hid (str (sgn k) = G) := ⟨_, rfl⟩
  have hGl : G.data.toList = sgn k := by rw [← HG.out, str_list]
  rw [HG.out] at CS
  have hpl := pairT_len k (xP y) (xP z)
  have e1 : (xP y).2.length = (xT y).length := rfl
  have e2 : (xP z).2.length = (xT z).length := rfl
  obtain ⟨T, HT⟩ : ∃ T, Hid (str (xT y) = T) := ⟨_, rfl⟩
  obtain ⟨U, HU⟩ : ∃ U, Hid (str (xT z) = U) := ⟨_, rfl⟩
  have hTl : T.data.toList = xT y := by rw [← HT.out, str_list]
  have hUl : U.data.toList = xT z := by rw [← HU.out, str_list]
  have CY : Hid (∀ w', Below w1.heap.size w1 w' → Calls Tryz.prog 68 #[.agg (xcells y u1).toArray] w' fun e w'' => e = .returned (.string T) ∧ Below w'.heap.size w' w'') := Lib.hid (fun w' hb => by rw [← HT.out]; exact ih y hy hny w' u1 ((hu1.later B1.out).later hb) (HT1.out.later hb))
  have CZ : Hid (∀ w', Below w1.heap.size w1 w' → Calls Tryz.prog 68 #[.agg (xcells z u2).toArray] w' fun e w'' => e = .returned (.string U) ∧ Below w'.heap.size w' w'') := Lib.hid (fun w' hb => by rw [← HU.out]; exact ih z hz hnz w' u2 ((hu2.later B1.out).later hb) (HT1.out.later hb))
  have EQ := Lib.hid (show catT [G, ⟨#[40]⟩, T, ⟨#[44, 32]⟩, U, ⟨#[41]⟩] = pairT k (xP y) (xP z) by unfold pairT; rw [if_pos hl]; simp only [catT, hGl, hTl, hUl]; simp; rfl)
  have CJ := Lib.hid (fun (W : World) => joined_is [G, ⟨#[40]⟩, T, ⟨#[44, 32]⟩, U, ⟨#[41]⟩] (by simp) (by rw [EQ.out]; omega) _ _ (TV.new W [G, ⟨#[40]⟩, T, ⟨#[44, 32]⟩, U, ⟨#[41]⟩] 9 6 6 rfl))
  have hlI : (lvl k : Int) = 3 := by omega
  rw [EQ.out] at CJ
  have bd : Below w1.heap.size w1 w1.drew := (Below.refl _ w1).drew
  clear RA hTl hUl hGl hu1 hu2 hT ih hpl e1 e2 hlen hlen2
  go_enter Tryz.func94, Tryz.ntmps94
  go_wp2_with fail
  refine (Hq.out _).mono ?_
  rintro e w0 ⟨rfl, rfl⟩
  go_wp2_with fail
  rw [← W1.out]
  clear W1
  refine wp_region_held_drew (S := Below w1.heap.size w1) (by kernel_rfl) bd (fun hHeld => ?_)
  refine wpAnyH_take (i := 0) (v := .int .i64 k) rfl (by kernel_rfl) (by kernel_rfl) (by kernel_rfl) (fun _ _ _ h => h) (Or.inl ⟨by rfl, ?yo0⟩) hHeld ?_
  case yo0 => intro w hSw; go_simp
  simp only [Act.put, List.getElem_toArray, List.getElem_cons_succ, List.getElem_cons_zero, List.setIfInBounds_toArray, List.set_cons_zero, List.set_cons_succ]
  refine wpAnyH_take (i := 2) (v := .pointer (some ⟨w.heap.size, 0, Option.none⟩)) rfl (by kernel_rfl) (by kernel_rfl) (by kernel_rfl) (fun _ _ _ h => h) (Or.inl ⟨by rfl, ?yo2⟩) hHeld ?_
  case yo2 => intro w hSw; go_simp
  simp only [Act.put, List.getElem_toArray, List.getElem_cons_succ, List.getElem_cons_zero, List.setIfInBounds_toArray, List.set_cons_zero, List.set_cons_succ]
  refine wpAnyH_take (i := 3) (v := .agg (xcells y u1).toArray) rfl (by kernel_rfl) (by kernel_rfl) (by kernel_rfl) (fun _ _ _ h => h) (yieldsIf_load_mid (by rfl) 65 _ rfl (w.heap.size) (0) rfl (xcells y u1) _ (fun w h => rangeAt_later RY.out h) Tryz.underlying65 rfl sizeIE2) hHeld ?_
  simp only [Act.put, List.getElem_toArray, List.getElem_cons_succ, List.getElem_cons_zero, List.setIfInBounds_toArray, List.set_cons_zero, List.set_cons_succ]
  refine wpAnyH_take (i := 5) (v := .pointer (some ⟨w.heap.size, 4, Option.none⟩)) rfl (by kernel_rfl) (by kernel_rfl) (by kernel_rfl) (fun _ _ _ h => h) (Or.inl ⟨by rfl, ?yo5⟩) hHeld ?_
  case yo5 => intro w hSw; go_simp
  simp only [Act.put, List.getElem_toArray, List.getElem_cons_succ, List.getElem_cons_zero, List.setIfInBounds_toArray, List.set_cons_zero, List.set_cons_succ]
  refine wpAnyH_take (i := 6) (v := .agg (xcells z u2).toArray) rfl (by kernel_rfl) (by kernel_rfl) (by kernel_rfl) (fun _ _ _ h => h) (yieldsIf_load_mid (by rfl) 65 _ rfl (w.heap.size) (4) rfl (xcells z u2) _ (fun w h => rangeAt_later RZ.out h) Tryz.underlying65 rfl sizeIE2) hHeld ?_
  simp only [Act.put, List.getElem_toArray, List.getElem_cons_succ, List.getElem_cons_zero, List.setIfInBounds_toArray, List.set_cons_zero, List.set_cons_succ]
  refine wpAnyH_ready (rs := [1]) (by kernel_rfl) (by simp) ?_
  refine AllReadyH.cons rfl (fun K hK => ?_) AllReadyH.nil
  rw [if_pos (by rfl)]
  simp only [List.getElem_toArray, List.getElem_cons_succ, List.getElem_cons_zero]
  go_wp2_with fail
  refine (CS.out _).mono ?_
  rintro e w4 ⟨rfl, rfl⟩
  go_wp2_with fail
  refine hK.out _ _ (hHeld) (fun hHeld => ?_)
  refine wpAnyH_ready (rs := [4]) (by kernel_rfl) (by simp) ?_
  refine AllReadyH.cons rfl (fun K hK => ?_) AllReadyH.nil
  rw [if_pos (by rfl)]
  simp only [List.getElem_toArray, List.getElem_cons_succ, List.getElem_cons_zero]
  go_wp2_with fail
  refine (CY.out _ hHeld).mono ?_
  rintro e w5 ⟨rfl, hb5⟩
  go_wp2_with fail
  refine hK.out _ _ (hHeld.trans (hb5.mono hHeld.size)) (fun hHeld => ?_)
  refine wpAnyH_ready (rs := [7]) (by kernel_rfl) (by simp) ?_
  refine AllReadyH.cons rfl (fun K hK => ?_) AllReadyH.nil
  rw [if_pos (by rfl)]
  simp only [List.getElem_toArray, List.getElem_cons_succ, List.getElem_cons_zero]
  go_wp2_with fail
  refine (CZ.out _ hHeld).mono ?_
  rintro e w6 ⟨rfl, hb6⟩
  go_wp2_with fail
  refine hK.out _ _ (hHeld.trans (hb6.mono hHeld.size)) (fun hHeld => ?_)
  refine wpAnyH_ready (rs := [8]) (by kernel_rfl) (by simp) ?_
  refine AllReadyH.cons rfl (fun K hK => ?_) AllReadyH.nil
  rw [if_pos (by rfl)]
  simp only [List.getElem_toArray, List.getElem_cons_succ, List.getElem_cons_zero]
  go_wp2_with fail
  refine hK.out _ _ (hHeld.alloc hHeld.size _) (fun hHeld => ?_)
  try simp only [Act.put, List.getElem_toArray, List.getElem_cons_succ, List.getElem_cons_zero, List.setIfInBounds_toArray, List.set_cons_zero, List.set_cons_succ]
  refine wpAnyH_ready (rs := [9]) (by kernel_rfl) (by simp) ?_
  refine AllReadyH.cons rfl (fun K hK => ?_) AllReadyH.nil
  rw [if_pos (by rfl)]
  simp only [List.getElem_toArray, List.getElem_cons_succ, List.getElem_cons_zero]
  go_wp2_with fail
  refine (CJ.out w6).mono ?_
  rintro e w7 ⟨rfl, hb7⟩
  go_wp2_with fail
  refine hK.out _ _ (hHeld.trans (hb7.mono hHeld.size)) (fun hHeld => ?_)
  refine wpAnyH_take (i := 10) (v := .string (str (pairT k (xP y) (xP z)))) rfl (by kernel_rfl) (by kernel_rfl) (by kernel_rfl) (fun _ _ _ h => h) (Or.inl ⟨by rfl, ?yo10⟩) hHeld ?_
  case yo10 => intro w hSw; go_simp
  simp only [Act.put, List.getElem_toArray, List.getElem_cons_succ, List.getElem_cons_zero, List.setIfInBounds_toArray, List.set_cons_zero, List.set_cons_succ]
  refine wpAnyH_done (by kernel_rfl) ?_ _
  have BB := Lib.hid (B1.out.trans (hHeld.mono B1.out.size))
  clear hHeld bd
  go_wp2
  go_ret
  exact ⟨rfl, BB.out⟩
set_option maxHeartbeats 4000000 in
set_option maxRecDepth 100000 in
theorem pairText_two (d : Nat) (ih : PartC d) (k : Int) (hk : 4 ≤ k ∧ k ≤ 8) (hl : lvl k < 3) (y z : X) (hy : toldX d y = true) (hz : toldX d z = true) (hny : enodes y.l ≤ 100) (hnz : enodes z.l ≤ 100) (w : World) (u1 u2 : Value) (hu1 : EV w 0 y.l u1) (hu2 : EV w 0 z.l u2) (hT : TabT w) :
    Calls Tryz.prog 94 #[.int .i64 k, .agg #[.int .i64 y.h.k, .int .i64 y.h.n, .string y.h.s, u1, .int .i64 z.h.k, .int .i64 z.h.n, .string z.h.s, u2]] w fun e w' => e = .returned (.string (str (pairT k (xP y) (xP z)))) ∧ Below w.heap.size w w' := by
  have B := Lib.hid (alloc_below w (.cells #[.int .i64 y.h.k, .int .i64 y.h.n, .string y.h.s, u1, .int .i64 z.h.k, .int .i64 z.h.n, .string z.h.s, u2] 131))
  obtain ⟨w1, W1⟩ : ∃ w1, Hid (w1 = w.alloc (.cells #[.int .i64 y.h.k, .int .i64 y.h.n, .string y.h.s, u1, .int .i64 z.h.k, .int .i64 z.h.n, .string z.h.s, u2] 131)) := ⟨_, rfl⟩
  have RA := show w1.rangeAt w.heap.size 0 [.int .i64 y.h.k, .int .i64 y.h.n, .string y.h.s, u1, .int .i64 z.h.k, .int .i64 z.h.n, .string z.h.s, u2] by rw [W1.out]; exact new_range w #[.int .i64 y.h.k, .int .i64 y.h.n, .string y.h.s, u1, .int .i64 z.h.k, .int .i64 z.h.n, .string z.h.s, u2] 131
  have RY := Lib.hid (show w1.rangeAt w.heap.size 0 (xcells y u1) from x_range (x := y) (RA 0 _ rfl) (RA 1 _ rfl) (RA 2 _ rfl) (RA 3 _ rfl))
  have RZ := Lib.hid (show w1.rangeAt w.heap.size 4 (xcells z u2) from x_range (x := z) (RA 4 _ rfl) (RA 5 _ rfl) (RA 6 _ rfl) (RA 7 _ rfl))
  have B1 := Lib.hid (show Below w.heap.size w w1 by rw [W1.out]; exact B.out)
  have hlen := xT_len d y hy
  have hlen2 := xT_len d z hz
  have Hq := Lib.hid (holdOf_is k)
  have CS := Lib.hid (signOf_is k hk)
  have HT1 := Lib.hid (hT.later B1.out)
  obtain ⟨G, HG⟩ : ∃ G, Hid (str (sgn k) = G) := ⟨_, rfl⟩
  have hGl : G.data.toList = sgn k := by rw [← HG.out, str_list]
  rw [HG.out] at CS
  have hpl := pairT_len k (xP y) (xP z)
  have e1 : (xP y).2.length = (xT y).length := rfl
  have e2 : (xP z).2.length = (xT z).length := rfl
  obtain ⟨T, HT⟩ : ∃ T, Hid (str (side (xP y) (lvl k)) = T) := ⟨_, rfl⟩
  obtain ⟨U, HU⟩ : ∃ U, Hid (str (side (xP z) (lvl k + 1)) = U) := ⟨_, rfl⟩
  have hTl : T.data.toList = side (xP y) (lvl k) := by rw [← HT.out, str_list]
  have hUl : U.data.toList = side (xP z) (lvl k + 1) := by rw [← HU.out, str_list]
  obtain ⟨m, Hm⟩ : ∃ m, Hid (lvl k = m) := ⟨_, rfl⟩
  have hm : m < 3 := by rw [← Hm.out]; exact hl
  have CY : Hid (∀ w', Below w1.heap.size w1 w' → Calls Tryz.prog 109 #[.agg (xcells y u1).toArray, .int .i64 (m : Int)] w' fun e w'' => e = .returned (.string T) ∧ Below w'.heap.size w' w'') := Lib.hid (fun w' hb => by rw [← HT.out, ← Hm.out]; exact sideText_of d ih y hy hny (lvl k) (by omega) w' u1 ((hu1.later B1.out).later hb) (HT1.out.later hb))
  have CZ : Hid (∀ w', Below w1.heap.size w1 w' → Calls Tryz.prog 109 #[.agg (xcells z u2).toArray, .int .i64 ((m : Int) + 1)] w' fun e w'' => e = .returned (.string U) ∧ Below w'.heap.size w' w'') := Lib.hid (fun w' hb => by rw [← HU.out, ← Hm.out]; exact sideText_of d ih z hz hnz (lvl k + 1) (by omega) w' u2 ((hu2.later B1.out).later hb) (HT1.out.later hb))
  have EQ := Lib.hid (show catT [T, ⟨#[32]⟩, G, ⟨#[32]⟩, U] = pairT k (xP y) (xP z) by unfold pairT; rw [if_neg (by omega)]; simp only [catT, hGl, hTl, hUl]; simp)
  have CJ := Lib.hid (fun (W : World) => joined_is [T, ⟨#[32]⟩, G, ⟨#[32]⟩, U] (by simp) (by rw [EQ.out]; omega) _ _ (TV.new W [T, ⟨#[32]⟩, G, ⟨#[32]⟩, U] 9 5 5 rfl))
  rw [Hm.out] at Hq
  have hmne : ((m : Int) == 3) = false := int_ne (by omega)
  have hmI : (m : Int) < 3 := by omega
  rw [EQ.out] at CJ
  have bd : Below w1.heap.size w1 w1.drew := (Below.refl _ w1).drew
  clear RA hTl hUl hGl hu1 hu2 hT ih hpl e1 e2 hlen hlen2
  go_enter Tryz.func94, Tryz.ntmps94
  go_wp2_with fail
  refine (Hq.out _).mono ?_
  rintro e w0 ⟨rfl, rfl⟩
  go_wp2_with fail
  rw [← W1.out]
  clear W1
  refine wp_region_held_drew (S := Below w1.heap.size w1) (by kernel_rfl) bd (fun hHeld => ?_)
  refine wpAnyH_take (i := 0) (v := .pointer (some ⟨w.heap.size, 0, Option.none⟩)) rfl (by kernel_rfl) (by kernel_rfl) (by kernel_rfl) (fun _ _ _ h => h) (Or.inl ⟨by rfl, ?yo0⟩) hHeld ?_
  case yo0 => intro w hSw; go_simp
  simp only [Act.put, List.getElem_toArray, List.getElem_cons_succ, List.getElem_cons_zero, List.setIfInBounds_toArray, List.set_cons_zero, List.set_cons_succ]
  refine wpAnyH_take (i := 1) (v := .agg (xcells y u1).toArray) rfl (by kernel_rfl) (by kernel_rfl) (by kernel_rfl) (fun _ _ _ h => h) (yieldsIf_load_mid (by rfl) 65 _ rfl (w.heap.size) (0) rfl (xcells y u1) _ (fun w h => rangeAt_later RY.out h) Tryz.underlying65 rfl sizeIE2) hHeld ?_
  simp only [Act.put, List.getElem_toArray, List.getElem_cons_succ, List.getElem_cons_zero, List.setIfInBounds_toArray, List.set_cons_zero, List.set_cons_succ]
  refine wpAnyH_take (i := 2) (v := .int .i64 (m : Int)) rfl (by kernel_rfl) (by kernel_rfl) (by kernel_rfl) (fun _ _ _ h => h) (Or.inl ⟨by rfl, ?yo2⟩) hHeld ?_
  case yo2 => intro w hSw; go_simp
  simp only [Act.put, List.getElem_toArray, List.getElem_cons_succ, List.getElem_cons_zero, List.setIfInBounds_toArray, List.set_cons_zero, List.set_cons_succ]
  refine wpAnyH_take (i := 4) (v := .int .i64 k) rfl (by kernel_rfl) (by kernel_rfl) (by kernel_rfl) (fun _ _ _ h => h) (Or.inl ⟨by rfl, ?yo4⟩) hHeld ?_
  case yo4 => intro w hSw; go_simp
  simp only [Act.put, List.getElem_toArray, List.getElem_cons_succ, List.getElem_cons_zero, List.setIfInBounds_toArray, List.set_cons_zero, List.set_cons_succ]
  refine wpAnyH_take (i := 6) (v := .pointer (some ⟨w.heap.size, 4, Option.none⟩)) rfl (by kernel_rfl) (by kernel_rfl) (by kernel_rfl) (fun _ _ _ h => h) (Or.inl ⟨by rfl, ?yo6⟩) hHeld ?_
  case yo6 => intro w hSw; go_simp
  simp only [Act.put, List.getElem_toArray, List.getElem_cons_succ, List.getElem_cons_zero, List.setIfInBounds_toArray, List.set_cons_zero, List.set_cons_succ]
  refine wpAnyH_take (i := 7) (v := .agg (xcells z u2).toArray) rfl (by kernel_rfl) (by kernel_rfl) (by kernel_rfl) (fun _ _ _ h => h) (yieldsIf_load_mid (by rfl) 65 _ rfl (w.heap.size) (4) rfl (xcells z u2) _ (fun w h => rangeAt_later RZ.out h) Tryz.underlying65 rfl sizeIE2) hHeld ?_
  simp only [Act.put, List.getElem_toArray, List.getElem_cons_succ, List.getElem_cons_zero, List.setIfInBounds_toArray, List.set_cons_zero, List.set_cons_succ]
  refine wpAnyH_take (i := 8) (v := .int .i64 (m : Int)) rfl (by kernel_rfl) (by kernel_rfl) (by kernel_rfl) (fun _ _ _ h => h) (Or.inl ⟨by rfl, ?yo8⟩) hHeld ?_
  case yo8 => intro w hSw; go_simp
  simp only [Act.put, List.getElem_toArray, List.getElem_cons_succ, List.getElem_cons_zero, List.setIfInBounds_toArray, List.set_cons_zero, List.set_cons_succ]
  refine wpAnyH_take (i := 9) (v := .int .i64 ((m : Int) + 1)) rfl (by kernel_rfl) (by kernel_rfl) (by kernel_rfl) (fun _ _ _ h => h) (Or.inl ⟨by rfl, ?yo9⟩) hHeld ?_
  case yo9 => intro w hSw; have hw := wrap_small ((m : Int) + 1) (by omega) (by omega); go_simp
  simp only [Act.put, List.getElem_toArray, List.getElem_cons_succ, List.getElem_cons_zero, List.setIfInBounds_toArray, List.set_cons_zero, List.set_cons_succ]
  refine wpAnyH_ready (rs := [3]) (by kernel_rfl) (by simp) ?_
  refine AllReadyH.cons rfl (fun K hK => ?_) AllReadyH.nil
  rw [if_pos (by rfl)]
  simp only [List.getElem_toArray, List.getElem_cons_succ, List.getElem_cons_zero]
  go_wp2_with fail
  refine (CY.out _ hHeld).mono ?_
  rintro e w5 ⟨rfl, hb5⟩
  go_wp2_with fail
  refine hK.out _ _ (hHeld.trans (hb5.mono hHeld.size)) (fun hHeld => ?_)
  refine wpAnyH_ready (rs := [5]) (by kernel_rfl) (by simp) ?_
  refine AllReadyH.cons rfl (fun K hK => ?_) AllReadyH.nil
  rw [if_pos (by rfl)]
  simp only [List.getElem_toArray, List.getElem_cons_succ, List.getElem_cons_zero]
  go_wp2_with fail
  refine (CS.out _).mono ?_
  rintro e w4 ⟨rfl, rfl⟩
  go_wp2_with fail
  refine hK.out _ _ (hHeld) (fun hHeld => ?_)
  refine wpAnyH_ready (rs := [10]) (by kernel_rfl) (by simp) ?_
  refine AllReadyH.cons rfl (fun K hK => ?_) AllReadyH.nil
  rw [if_pos (by rfl)]
  simp only [List.getElem_toArray, List.getElem_cons_succ, List.getElem_cons_zero]
  go_wp2_with fail
  refine (CZ.out _ hHeld).mono ?_
  rintro e w6 ⟨rfl, hb6⟩
  go_wp2_with fail
  refine hK.out _ _ (hHeld.trans (hb6.mono hHeld.size)) (fun hHeld => ?_)
  refine wpAnyH_ready (rs := [11]) (by kernel_rfl) (by simp) ?_
  refine AllReadyH.cons rfl (fun K hK => ?_) AllReadyH.nil
  rw [if_pos (by rfl)]
  simp only [List.getElem_toArray, List.getElem_cons_succ, List.getElem_cons_zero]
  go_wp2_with fail
  refine hK.out _ _ (hHeld.alloc hHeld.size _) (fun hHeld => ?_)
  try simp only [Act.put, List.getElem_toArray, List.getElem_cons_succ, List.getElem_cons_zero, List.setIfInBounds_toArray, List.set_cons_zero, List.set_cons_succ]
  refine wpAnyH_ready (rs := [12]) (by kernel_rfl) (by simp) ?_
  refine AllReadyH.cons rfl (fun K hK => ?_) AllReadyH.nil
  rw [if_pos (by rfl)]
  simp only [List.getElem_toArray, List.getElem_cons_succ, List.getElem_cons_zero]
  go_wp2_with fail
  refine (CJ.out w6).mono ?_
  rintro e w7 ⟨rfl, hb7⟩
  go_wp2_with fail
  refine hK.out _ _ (hHeld.trans (hb7.mono hHeld.size)) (fun hHeld => ?_)
  refine wpAnyH_take (i := 13) (v := .string (str (pairT k (xP y) (xP z)))) rfl (by kernel_rfl) (by kernel_rfl) (by kernel_rfl) (fun _ _ _ h => h) (Or.inl ⟨by rfl, ?yo13⟩) hHeld ?_
  case yo13 => intro w hSw; go_simp
  simp only [Act.put, List.getElem_toArray, List.getElem_cons_succ, List.getElem_cons_zero, List.setIfInBounds_toArray, List.set_cons_zero, List.set_cons_succ]
  refine wpAnyH_done (by kernel_rfl) ?_ _
  have BB := Lib.hid (B1.out.trans (hHeld.mono B1.out.size))
  clear hHeld bd
  go_wp2
  go_ret
  exact ⟨rfl, BB.out⟩
theorem pairText_is (d : Nat) (ih : PartC d) (k : Int) (hk : 4 ≤ k ∧ k ≤ 8) (y z : X) (hy : toldX d y = true) (hz : toldX d z = true) (hny : enodes y.l ≤ 100) (hnz : enodes z.l ≤ 100) (w : World) (u1 u2 : Value) (hu1 : EV w 0 y.l u1) (hu2 : EV w 0 z.l u2) (hT : TabT w) :
    Calls Tryz.prog 94 #[.int .i64 k, .agg #[.int .i64 y.h.k, .int .i64 y.h.n, .string y.h.s, u1, .int .i64 z.h.k, .int .i64 z.h.n, .string z.h.s, u2]] w fun e w' => e = .returned (.string (str (pairT k (xP y) (xP z)))) ∧ Below w.heap.size w w' := by
  have hl : lvl k ≤ 3 := by unfold lvl; repeat' split <;> try omega
  by_cases h : lvl k = 3
  · exact pairText_one d ih k hk h y z hy hz hny hnz w u1 u2 hu1 hu2 hT
  · exact pairText_two d ih k hk (by omega) y z hy hz hny hnz w u1 u2 hu1 hu2 hT
end Go.Proofs.YtkhccpjkajhnpabGreatDoor
/-
  The contracts of the landed code's partText and ExpText, and of the specification's ExpText.
-/
namespace Go.Proofs.YtkhccpjkajhnpabGreatDoor
open Go.RowKit Go.Lib
set_option linter.unusedSimpArgs false
set_option linter.unusedVariables false

set_option maxHeartbeats 1000000 in
set_option maxRecDepth 100000 in
theorem partText_step (d : Nat) (ih : PartC d) : PartC (d + 1) := by
  intro x hx hn w v hv hT
  show Calls Tryz.prog 68 #[.agg #[.int .i64 x.h.k, .int .i64 x.h.n, .string x.h.s, v]] w _
  have Hv := Lib.hid hv
  have HT := Lib.hid hT
  have Hih := Lib.hid ih
  have Hx := Lib.hid hx
  have hb0 : Below w.heap.size w (w.alloc (.cells #[.int .i64 x.h.k, .int .i64 x.h.n, .string x.h.s, v] 65)) := alloc_below _ _
  have Hq : Hid (∀ w, EV w 0 x.l v → Calls Tryz.prog 93 #[.agg #[.int .i64 x.h.k, .int .i64 x.h.n, .string x.h.s, v]] w fun e w' => ∃ fv, e = .returned fv ∧ FormIs w x fv ∧ Below w.heap.size w w') := fun w hv => formOf_is x w v hv
  clear ih hv hT hx
  go_enter Tryz.func68, Tryz.ntmps68
  go_wp2_with fail
  refine (Hq.out _ (Hv.out.later hb0)).mono ?_
  rintro e w1 ⟨fv, rfl, hform, hb1⟩
  have B1 := Lib.hid (hb0.trans (hb1.mono hb0.size))
  have Hb1 := Lib.hid hb1
  have ck := box_cell (i := 0) hb1 rfl
  clear hb0 hb1 Hq
  rcases hform with ⟨hf, rfl⟩ | ⟨hf, rfl⟩ | ⟨hf, p, q, y, u, hl, hu, rfl⟩ | ⟨hf, p, q, p', q', y, z, u, u', hl, hu, hu', rfl⟩ | ⟨hf, rfl⟩
  · have hx1 := Hx.out
    rw [toldX_num hf] at hx1
    simp only [Bool.and_eq_true, decide_eq_true_eq] at hx1
    have E := Lib.hid (xT_num (elen_zero (fnum_num hf).2) (fnum_num hf).1)
    have q1 := as_nn
    have CN := Lib.hid (fun W (hb : Below w1.heap.size w1 W) => impl_NumText x.h.n (by omega) (by omega) W ((HT.out.later B1.out).later hb))
    clear hf hx1 ck
    go_wp2_with fail
    refine (CN.out _ (alloc_below _ _)).mono ?_
    rintro e w2 ⟨rfl, hb2⟩
    have B2 := Lib.hid (B1.out.trans ((below_alloc hb2).mono B1.out.size))
    clear hb2 CN
    go_wp2
    go_ret
    exact ⟨ret_str (by rw [E.out]; rfl), B2.out⟩
  · have E := Lib.hid (xT_var (elen_zero (fnum_var hf).2) (fnum_var hf).1)
    have q1 := as_vn
    have q2 := as_vv
    have hx1 := Hx.out
    rw [toldX_var hf] at hx1
    have hs : x.h.s.size ≤ 6 := by
      unfold nameOk at hx1
      simp only [Bool.and_eq_true, decide_eq_true_eq] at hx1
      simpa using hx1.1.1.2
    have hsl : x.h.s.data.toList.length = x.h.s.size := by simp
    have CJ := Lib.hid (fun (W : World) => joined_is [x.h.s] (by simp) (by simp only [catT, List.append_nil]; omega) _ _ (TV.new W [x.h.s] 9 1 1 rfl))
    have EC := Lib.hid (show catT [x.h.s] = xT x by rw [E.out]; simp [catT])
    rw [EC.out] at CJ
    have CJ2 : Hid (Calls Tryz.prog 17 #[.slice (some ⟨w1.heap.size + 1, 0, Option.none⟩) 1 1] ((w1.alloc (.cells #[.string x.h.s] 127)).alloc (.cells #[.string x.h.s] 9)) fun e w' => e = .returned (.string (str (xT x))) ∧ Below ((w1.alloc (.cells #[.string x.h.s] 127)).alloc (.cells #[.string x.h.s] 9)).heap.size ((w1.alloc (.cells #[.string x.h.s] 127)).alloc (.cells #[.string x.h.s] 9)) w') := Lib.hid (by
      have := CJ.out (w1.alloc (.cells #[.string x.h.s] 127))
      rw [World.size_alloc] at this
      exact this)
    clear hf hx1 hs hsl ck CJ
    go_wp2_with fail
    refine CJ2.out.mono ?_
    rintro e w2 ⟨rfl, hb2⟩
    have B2 := Lib.hid (B1.out.trans ((below_alloc (below_alloc hb2)).mono B1.out.size))
    clear hb2 CJ2
    go_wp2
    go_ret
    exact ⟨rfl, B2.out⟩
  · have hx1 := Hx.out
    rw [toldX_at hf hl, Bool.and_eq_true] at hx1
    have hs : x.h.s.size ≤ 6 := by
      have h1 := hx1.1
      unfold nameOk at h1
      simp only [Bool.and_eq_true, decide_eq_true_eq] at h1
      simpa using h1.1.1.2
    have hsl : x.h.s.data.toList.length = x.h.s.size := by simp
    have hny : enodes y.l ≤ 100 := by rw [hl] at hn; simp only [enodes] at hn; omega
    have hlen := xT_len d y hx1.2
    have q1 := as_an
    have q2 := as_av
    have q3 := as_aa
    obtain ⟨T, HTT⟩ : ∃ T, Hid (str (xT y) = T) := ⟨_, rfl⟩
    have hTl : T.data.toList = xT y := by rw [← HTT.out, str_list]
    have EQ := Lib.hid (show catT [x.h.s, ⟨#[91]⟩, T, ⟨#[93]⟩] = xT x by rw [xT_at hl]; simp only [catT, hTl]; simp)
    have hxl := xT_len (d + 1) x Hx.out
    have CJ := Lib.hid (fun (W : World) => joined_is [x.h.s, ⟨#[91]⟩, T, ⟨#[93]⟩] (by simp) (by rw [EQ.out]; omega) _ _ (TV.new W [x.h.s, ⟨#[91]⟩, T, ⟨#[93]⟩] 9 4 4 rfl))
    rw [EQ.out] at CJ
    obtain ⟨w2, W2⟩ : ∃ w2, Hid (w2 = w1.alloc (.cells #[.string x.h.s, .int .i64 y.h.k, .int .i64 y.h.n, .string y.h.s, u] 129)) := ⟨_, rfl⟩
    have RA := show w2.rangeAt w1.heap.size 0 [.string x.h.s, .int .i64 y.h.k, .int .i64 y.h.n, .string y.h.s, u] by rw [W2.out]; exact new_range w1 #[.string x.h.s, .int .i64 y.h.k, .int .i64 y.h.n, .string y.h.s, u] 129
    have RS := Lib.hid (show w2.cell? ⟨w1.heap.size, 0, Option.none⟩ = some (.string x.h.s) from RA 0 _ rfl)
    have RY := Lib.hid (show w2.rangeAt w1.heap.size 1 (xcells y u) from x_range (x := y) (RA 1 _ rfl) (RA 2 _ rfl) (RA 3 _ rfl) (RA 4 _ rfl))
    have B2 := Lib.hid (show Below w1.heap.size w1 w2 by rw [W2.out]; exact alloc_below _ _)
    have CY : Hid (∀ w', Below w2.heap.size w2 w' → Calls Tryz.prog 68 #[.agg (xcells y u).toArray] w' fun e w'' => e = .returned (.string T) ∧ Below w'.heap.size w' w'') := Lib.hid (fun w' hb => by rw [← HTT.out]; exact Hih.out y hx1.2 hny w' u (((hu.later Hb1.out).later B2.out).later hb) (((HT.out.later B1.out).later B2.out).later hb))
    have bd : Below w2.heap.size w2 w2.drew := (Below.refl _ w2).drew
    obtain ⟨ua, uc, rfl⟩ := hu.shape
    clear hf hx1 hs hsl hny hlen hTl hxl RA hu hl ck
    go_wp2_with fail
    rw [← W2.out]
    clear W2
    refine wp_region_held_drew (S := Below w2.heap.size w2) (by kernel_rfl) bd (fun hHeld => ?_)
    refine wpAnyH_take (i := 0) (v := .pointer (some ⟨w1.heap.size, 0, Option.none⟩)) rfl (by kernel_rfl) (by kernel_rfl) (by kernel_rfl) (fun _ _ _ h => h) (Or.inl ⟨by rfl, ?ya0⟩) hHeld ?_
    case ya0 => intro w hSw; go_simp
    simp only [Act.put, List.getElem_toArray, List.getElem_cons_succ, List.getElem_cons_zero, List.setIfInBounds_toArray, List.set_cons_zero, List.set_cons_succ]
    refine wpAnyH_take (i := 1) (v := .string x.h.s) rfl (by kernel_rfl) (by kernel_rfl) (by kernel_rfl) (fun _ _ _ h => h) (Or.inl ⟨by rfl, ?ya1⟩) hHeld ?_
    case ya1 => intro w hSw; have q := keeps hSw RS.out; go_simp
    simp only [Act.put, List.getElem_toArray, List.getElem_cons_succ, List.getElem_cons_zero, List.setIfInBounds_toArray, List.set_cons_zero, List.set_cons_succ]
    refine wpAnyH_take (i := 2) (v := .pointer (some ⟨w1.heap.size, 1, Option.none⟩)) rfl (by kernel_rfl) (by kernel_rfl) (by kernel_rfl) (fun _ _ _ h => h) (Or.inl ⟨by rfl, ?ya2⟩) hHeld ?_
    case ya2 => intro w hSw; go_simp
    simp only [Act.put, List.getElem_toArray, List.getElem_cons_succ, List.getElem_cons_zero, List.setIfInBounds_toArray, List.set_cons_zero, List.set_cons_succ]
    refine wpAnyH_take (i := 3) (v := .agg (xcells y (.slice ua (elen y.l) uc)).toArray) rfl (by kernel_rfl) (by kernel_rfl) (by kernel_rfl) (fun _ _ _ h => h) (yieldsIf_load_mid (by rfl) 65 _ rfl (w1.heap.size) (1) rfl (xcells y (.slice ua (elen y.l) uc)) _ (fun w h => rangeAt_later RY.out h) Tryz.underlying65 rfl sizeIE2) hHeld ?_
    simp only [Act.put, List.getElem_toArray, List.getElem_cons_succ, List.getElem_cons_zero, List.setIfInBounds_toArray, List.set_cons_zero, List.set_cons_succ]
    refine wpAnyH_ready (rs := [4]) (by kernel_rfl) (by simp) ?_
    refine AllReadyH.cons rfl (fun K hK => ?_) AllReadyH.nil
    rw [if_pos (by rfl)]
    simp only [List.getElem_toArray, List.getElem_cons_succ, List.getElem_cons_zero]
    go_wp2_with fail
    refine (CY.out _ hHeld).mono ?_
    rintro e w5 ⟨rfl, hb5⟩
    go_wp2_with fail
    refine hK.out _ _ (hHeld.trans (hb5.mono hHeld.size)) (fun hHeld => ?_)
    refine wpAnyH_ready (rs := [5]) (by kernel_rfl) (by simp) ?_
    refine AllReadyH.cons rfl (fun K hK => ?_) AllReadyH.nil
    rw [if_pos (by rfl)]
    simp only [List.getElem_toArray, List.getElem_cons_succ, List.getElem_cons_zero]
    go_wp2_with fail
    refine hK.out _ _ (hHeld.alloc hHeld.size _) (fun hHeld => ?_)
    try simp only [Act.put, List.getElem_toArray, List.getElem_cons_succ, List.getElem_cons_zero, List.setIfInBounds_toArray, List.set_cons_zero, List.set_cons_succ]
    refine wpAnyH_ready (rs := [6]) (by kernel_rfl) (by simp) ?_
    refine AllReadyH.cons rfl (fun K hK => ?_) AllReadyH.nil
    rw [if_pos (by rfl)]
    simp only [List.getElem_toArray, List.getElem_cons_succ, List.getElem_cons_zero]
    go_wp2_with fail
    refine (CJ.out w5).mono ?_
    rintro e w7 ⟨rfl, hb7⟩
    go_wp2_with fail
    refine hK.out _ _ (hHeld.trans (hb7.mono hHeld.size)) (fun hHeld => ?_)
    refine wpAnyH_take (i := 7) (v := .string (str (xT x))) rfl (by kernel_rfl) (by kernel_rfl) (by kernel_rfl) (fun _ _ _ h => h) (Or.inl ⟨by rfl, ?ya7⟩) hHeld ?_
    case ya7 => intro w hSw; go_simp
    simp only [Act.put, List.getElem_toArray, List.getElem_cons_succ, List.getElem_cons_zero, List.setIfInBounds_toArray, List.set_cons_zero, List.set_cons_succ]
    refine wpAnyH_done (by kernel_rfl) ?_ _
    have BB := Lib.hid (B1.out.trans ((B2.out.trans (hHeld.mono B2.out.size)).mono B1.out.size))
    clear hHeld bd
    go_wp2
    go_ret
    exact ⟨rfl, BB.out⟩
  · have hx1 := Hx.out
    rw [toldX_pair hf hl, Bool.and_eq_true] at hx1
    have hkk := (fnum_pair hf).1
    have hnyz : enodes y.l ≤ 100 ∧ enodes z.l ≤ 100 := by rw [hl] at hn; simp only [enodes] at hn; omega
    have q1 := as_pn
    have q2 := as_pv
    have q3 := as_pa
    have q4 := as_pp
    have ck2 : ∀ o, (w1.alloc o).cell? ⟨w.heap.size, 0, Option.none⟩ = some (.int .i64 x.h.k) := fun o => keeps (alloc_below _ _) ck
    have E := Lib.hid (xT_pair hl)
    obtain ⟨w2, W2⟩ : ∃ w2, Hid (w2 = w1.alloc (.cells #[.int .i64 y.h.k, .int .i64 y.h.n, .string y.h.s, u, .int .i64 z.h.k, .int .i64 z.h.n, .string z.h.s, u'] 131)) := ⟨_, rfl⟩
    have B2 := Lib.hid (show Below w1.heap.size w1 w2 by rw [W2.out]; exact alloc_below _ _)
    have CP := Lib.hid (pairText_is d Hih.out x.h.k hkk y z hx1.1 hx1.2 hnyz.1 hnyz.2 w2 u u' ((hu.later Hb1.out).later B2.out) ((hu'.later Hb1.out).later B2.out) ((HT.out.later B1.out).later B2.out))
    rw [← E.out, W2.out] at CP
    obtain ⟨ua, uc, rfl⟩ := hu.shape
    obtain ⟨ub, ud, rfl⟩ := hu'.shape
    clear hf hx1 hkk hnyz hu hu' hl
    go_wp2_with fail
    refine CP.out.mono ?_
    rintro e w3 ⟨rfl, hb3⟩
    have BB := Lib.hid (B1.out.trans ((below_alloc hb3).mono B1.out.size))
    clear hb3 CP
    go_wp2
    go_ret
    exact ⟨rfl, BB.out⟩
  · exfalso
    have hx1 := Hx.out
    simp only [toldX, here, hf, Bool.false_and, Bool.and_false] at hx1
    cases hx1
theorem partText_all : ∀ d, PartC d
  | 0 => fun x h => by rw [toldX_zero] at h; cases h
  | d + 1 => partText_step d (partText_all d)
/-- What ExpText answers. -/
def expT (x : X) : List UInt8 := if expOk x = true then xT x else []
theorem expOk_told {x : X} (h : expOk x = true) : toldX 8 x = true ∧ enodes x.l ≤ 100 := by
  unfold expOk at h
  rw [Bool.and_eq_true, decide_eq_true_eq] at h
  exact ⟨h.1, by omega⟩
end Go.Proofs.YtkhccpjkajhnpabGreatDoor
