/-
  The contracts of the specification's l4Put, l4Names, VarsOf, LoopVars: names in order.
-/
import Derived.Test.YthokildkedlkfaaNamePlain
import Derived.Test.YthokildkedlkfaaAstUnder
import Derived.Test.YthokildkedlkfaaAstEqS
import Derived.Test.YthokildkedlkfaaAstVis
namespace Go.Proofs.Ythokildkedlkfaa
open Go.RowKit Go.Lib
set_option linter.unusedSimpArgs false
set_option linter.unusedVariables false

/-- A slice that holds these names, at lo or above. -/
def TV (w : World) (lo : Nat) (v : Value) (ns : List ByteArray) : Prop :=
  ∃ ao cap, v = .slice ao ns.length cap ∧ (ns = [] ∨ ∃ g off, ao = some ⟨g, off, Option.none⟩ ∧ lo ≤ g ∧ g < w.heap.size ∧ ∀ i t, ns[i]? = some t → w.cell? ⟨g, off + i, Option.none⟩ = some (.string t))
theorem TV.same {w w' : World} {lo lo' : Nat} {v : Value} {ns : List ByteArray} (hlo : lo' ≤ lo) (h : TV w lo v ns) (hk : Keeps lo w w') (hz : w.heap.size ≤ w'.heap.size) : TV w' lo' v ns := by
  obtain ⟨ao, cap, hv, h⟩ := h
  refine ⟨ao, cap, hv, ?_⟩
  rcases h with h | ⟨g, off, h1, h0, h2, h3⟩
  · exact .inl h
  · exact .inr ⟨g, off, h1, Nat.le_trans hlo h0, Nat.lt_of_lt_of_le h2 hz, fun i t hi => hk _ _ h0 (h3 i t hi)⟩
theorem TV.later {w w' : World} {lo : Nat} {v : Value} {ns : List ByteArray} (h : TV w lo v ns) (hb : Below w.heap.size w w') : TV w' lo v ns := h.same (Nat.le_refl _) (Keeps.later hb) hb.size
theorem TV.low {w : World} {lo : Nat} {v : Value} {ns : List ByteArray} (h : TV w lo v ns) : TV w 0 v ns := h.same (Nat.zero_le _) (Keeps.refl _ _) (Nat.le_refl _)
theorem TV.shape {w : World} {lo : Nat} {v : Value} {ns : List ByteArray} (h : TV w lo v ns) : ∃ a c, v = .slice a ns.length c := by obtain ⟨a, c, h1, _⟩ := h; exact ⟨a, c, h1⟩
theorem TV.of {w : World} {B : Nat} {v : Value} {ns : List ByteArray} (h : w.ownsRow B 9 1 v ns.length (ns.map Value.string)) : TV w B v ns := by
  rcases h.2 with ⟨h0, h1⟩ | ⟨g, cap, cur, h1, h2, h3, h4⟩
  · exact ⟨Option.none, 0, by rw [h1]; exact h0, .inl (List.length_eq_zero_iff.1 h1)⟩
  · refine ⟨_, cap, h1, .inr ⟨g, 0, rfl, h2, lt_heap h3, fun i t hi => ?_⟩⟩
    have hc := h.cells (g := g) (by rw [h1]; rfl) i (.string t) (by rw [List.getElem?_map, hi]; rfl)
    have e : (⟨g, 0, Option.none⟩ : Addr).add i = ⟨g, i, Option.none⟩ := by simp [Addr.add]; omega
    rw [e] at hc
    rw [Nat.zero_add]; exact hc
theorem infoStr : (Try.prog.info? 9).map (fun i => (i.zero, i.size, i.bytes)) = some (some (.string ⟨#[]⟩), 1, 16) := by kernel_rfl
theorem newT (w : World) (u : Value) (t : TypeId) : ∀ j x, [u][j]? = some x → (w.alloc (.cells #[u] t)).cell? ((⟨w.heap.size, 0, Option.none⟩ : Addr).add j) = some x := new1 w u t
/-- One name more. -/
theorem snocT {w w5 w6 : World} {os : List ByteArray} {t v' : Value} {x : ByteArray} {o : Obj} (hown : w5.ownsRow w.heap.size 9 1 t os.length (os.map Value.string)) (hb : Below w.heap.size w w5) (hg : (w5.alloc o).grownBy w6 t.ownBlock)
    (h : w6.ownsRow w.heap.size 9 1 v' (os.length + 1) (os.map Value.string ++ [.string x])) : w6.ownsRow w.heap.size 9 1 v' (os ++ [x]).length ((os ++ [x]).map Value.string) ∧ Below w.heap.size w w6 :=
  ⟨by rw [List.length_append, List.map_append]; exact h, (hb.alloc hb.size o).grown hg (by have := hb.size; simp; omega) (fun k hk => (hown.lt k hk).1)⟩
theorem ownShape {w : World} {B sz n : Nat} {e : TypeId} {v : Value} {xs : List Value} (h : w.ownsRow B e sz v n xs) : ∃ a c, v = .slice a n c := by
  rcases h.2 with ⟨h1, h0⟩ | ⟨g, cap, cur, h1, _⟩
  · exact ⟨_, _, by rw [h0]; exact h1⟩
  · exact ⟨_, _, h1⟩
theorem putR_x {s x : ByteArray} {r : List ByteArray} (d : Bool) (hd : d = true ∨ blt x s = true) (hx : ¬ x = s) : putR s d (x :: r) = x :: putR s d r := by
  cases d with
  | true => rw [putR, if_neg hx]
  | false => rcases hd with h | h
             · cases h
             · rw [putR, if_pos h, if_neg hx]
theorem putR_same {s : ByteArray} {r : List ByteArray} : putR s true (s :: r) = putR s true r := by rw [putR, if_pos rfl]
theorem putR_s {s x : ByteArray} {r : List ByteArray} (h : blt x s = false) : putR s false (x :: r) = s :: putR s true (x :: r) := by
  simp only [putR, h]; simp
set_option maxHeartbeats 2000000 in
set_option maxRecDepth 100000 in
theorem l4Put_is (ns : List ByteArray) (hn : ns.length ≤ 10000000) (s : ByteArray) (v : Value) (w : World) (hv : TV w 0 v ns) :
    Calls Try.prog 79 #[v, .string s] w fun e w' => ∃ v', e = .returned v' ∧ TV w' w.heap.size v' (putR s false ns) ∧ Below w.heap.size w w' := by
  obtain ⟨i0, hi0, hz0, hz1, hz2⟩ := info_parts infoStr
  obtain ⟨ao, cap, rfl, hr⟩ := hv
  have Hr := Lib.hid hr
  clear hr
  have hnI : (ns.length : Int) ≤ 10000000 := by omega
  go_enter Try.func79, Try.ntmps79
  go_wp2
  go_loopw [5, 6, 7] (fun out d i wr => ∃ (k : Nat) (dn : Bool) (os : List ByteArray), k ≤ ns.length ∧ i = .int .i64 k ∧ d = .bool dn ∧ Hid (os ++ putR s dn (ns.drop k) = putR s false ns ∧ os.length ≤ k + 1 ∧ (dn = false → os.length ≤ k)) ∧ wr.ownsRow w.heap.size 9 1 out os.length (os.map Value.string) ∧ Below w.heap.size w wr) (fun _ _ i _ => ns.length - (RowKit.intOf i).toNat)
  case atStart =>
    exact ⟨0, false, [], by omega, rfl, rfl, ⟨by simp, by simp, fun _ => by simp⟩, ⟨rfl, .inr ⟨w.heap.size, 0, #[], rfl, Nat.le_refl _, (by show (w.heap.push _)[w.heap.size]? = _; simp), Nat.le_refl _, (by unfold maxLen; omega), rfl, rfl⟩⟩, alloc_below _ _⟩
  case round =>
    obtain ⟨k, dn, os, hk, rfl, rfl, hg, hown, hbr⟩ := hrel
    obtain ⟨g1, g2, g3⟩ := hg.out
    obtain ⟨oa, oc, rfl⟩ := ownShape hown
    have hol : (os.length : Int) ≤ 10000001 := by omega
    by_cases hlt : k < ns.length
    · have hltI : (k : Int) < (ns.length : Int) := by omega
      obtain ⟨x, hx⟩ : ∃ x, ns[k]? = some x := ⟨ns[k], List.getElem?_eq_getElem hlt⟩
      rcases Hr.out with hr | ⟨g, off, rfl, _, gl, hc⟩
      · subst hr; simp at hlt
      have hsz := hbr.size
      have AW := Lib.hid (hc k x hx)
      have A0 := (hbr.cell (p := ⟨g, off + k, Option.none⟩) gl).trans AW.out
      have hd : ns.drop k = x :: ns.drop (k + 1) := by rw [List.drop_eq_getElem_cons hlt]; congr 1; rw [List.getElem?_eq_getElem hlt] at hx; injection hx
      rw [hd] at g1
      clear hc hx Hr hd hg
      by_cases hdb : dn = true ∨ blt x s = true
      · have G3 : Hid (dn = false → os.length ≤ k) := g3
        by_cases he : x = s
        · have hdn : dn = true := hdb.resolve_right (fun h => by rw [he, blt_irrefl] at h; cases h)
          subst hdn
          subst he
          rw [putR_same] at g1
          have G := Lib.hid (And.intro g1 g2)
          clear g1 g2 g3 hdb
          go_wp2
          go_roundw
          case rel => exact ⟨k + 1, true, os, by omega, by go_num, rfl, ⟨G.out.1, by have := G.out.2; omega, fun h => by cases h⟩, hown, hbr⟩
          case measure => simp [RowKit.intOf]; omega
        · rw [putR_x dn hdb he] at g1
          have G := Lib.hid (And.intro g1 g2)
          have hne := str_ne he
          have hcs : dn = true ∨ (dn = false ∧ Op.bytesLess x.toList s.toList = true) := by
            cases dn with
            | true => exact .inl rfl
            | false => exact .inr ⟨rfl, hdb.resolve_left (by simp)⟩
          clear g1 g2 g3 hdb he
          rcases hcs with rfl | ⟨rfl, hls⟩
          · go_wp2_with (at_builtin; refine wpList_append_own _ rfl _ _ 31 rfl w.heap.size 9 i0 _ 1 16 Try.underlying31 hi0 hz0 hz1 hz2 rfl (by decide) _ _ _ rfl (hown.alloc _) ⟨wr.heap.size, 0, Option.none⟩ 1 1 [.string x] rfl rfl (newT _ _ _) ?cb2 ?cb3 ?cb4 ?cb5 ?_)
            case cb2 => first | rfl | (intro x hx; simp only [List.mem_cons, List.not_mem_nil, or_false] at hx; subst hx; rfl)
            case cb3 => unfold maxLen; omega
            case cb4 => omega
            case cb5 => first | omega | (simp; omega)
            intro v' w6 hown' hgrow _
            obtain ⟨n1, n2⟩ := snocT hown hbr hgrow hown'
            clear hown' hgrow hown hbr A0
            go_wp2
            go_roundw
            case rel => exact ⟨k + 1, true, os ++ [x], by omega, by go_num, rfl, ⟨by rw [List.append_assoc]; exact G.out.1, by have := G.out.2; simp; omega, fun h => by cases h⟩, n1, n2⟩
            case measure => simp [RowKit.intOf]; omega
          · go_wp2_with (at_builtin; refine wpList_append_own _ rfl _ _ 31 rfl w.heap.size 9 i0 _ 1 16 Try.underlying31 hi0 hz0 hz1 hz2 rfl (by decide) _ _ _ rfl (hown.alloc _) ⟨wr.heap.size, 0, Option.none⟩ 1 1 [.string x] rfl rfl (newT _ _ _) ?cc2 ?cc3 ?cc4 ?cc5 ?_)
            case cc2 => first | rfl | (intro x hx; simp only [List.mem_cons, List.not_mem_nil, or_false] at hx; subst hx; rfl)
            case cc3 => unfold maxLen; omega
            case cc4 => omega
            case cc5 => first | omega | (simp; omega)
            intro v' w6 hown' hgrow _
            obtain ⟨n1, n2⟩ := snocT hown hbr hgrow hown'
            clear hown' hgrow hown hbr A0
            go_wp2
            go_roundw
            case rel => exact ⟨k + 1, false, os ++ [x], by omega, by go_num, rfl, ⟨by rw [List.append_assoc]; exact G.out.1, by have := G.out.2; simp; omega, fun _ => by have := G3.out (by simp); simp; omega⟩, n1, n2⟩
            case measure => simp [RowKit.intOf]; omega
      · have hdn : dn = false := by cases dn with | false => rfl | true => exact absurd (.inl rfl) hdb
        subst hdn
        have hbl : blt x s = false := by cases h : blt x s with | false => rfl | true => exact absurd (.inr h) hdb
        have hls : Op.bytesLess x.toList s.toList = false := hbl
        rw [putR_s hbl] at g1
        have g4 := g3 rfl
        clear hdb hbl g3
        by_cases he : x = s
        · subst he
          rw [putR_same] at g1
          have G := Lib.hid (And.intro g1 g4)
          clear g1 g2 g4
          go_wp2_with (at_builtin; refine wpList_append_own _ rfl _ _ 31 rfl w.heap.size 9 i0 _ 1 16 Try.underlying31 hi0 hz0 hz1 hz2 rfl (by decide) _ _ _ rfl (hown.alloc _) ⟨wr.heap.size, 0, Option.none⟩ 1 1 [.string x] rfl rfl (newT _ _ _) ?ce2 ?ce3 ?ce4 ?ce5 ?_)
          case ce2 => first | rfl | (intro x hx; simp only [List.mem_cons, List.not_mem_nil, or_false] at hx; subst hx; rfl)
          case ce3 => unfold maxLen; omega
          case ce4 => omega
          case ce5 => first | omega | (simp; omega)
          intro v' w6 hown' hgrow _
          obtain ⟨n1, n2⟩ := snocT hown hbr hgrow hown'
          have A6 := (n2.cell (p := ⟨g, off + k, Option.none⟩) gl).trans AW.out
          clear hown' hgrow hown hbr A0
          go_wp2
          go_roundw
          case rel => exact ⟨k + 1, true, os ++ [x], by omega, by go_num, rfl, ⟨by rw [List.append_assoc]; exact G.out.1, by have := G.out.2; simp; omega, fun h => by cases h⟩, n1, n2⟩
          case measure => simp [RowKit.intOf]; omega
        · have hne := str_ne he
          rw [putR_x true (.inl rfl) he] at g1
          have G := Lib.hid (And.intro g1 g4)
          clear g1 g2 he g4
          go_wp2_with (at_builtin; refine wpList_append_own _ rfl _ _ 31 rfl w.heap.size 9 i0 _ 1 16 Try.underlying31 hi0 hz0 hz1 hz2 rfl (by decide) _ _ _ rfl (hown.alloc _) ⟨wr.heap.size, 0, Option.none⟩ 1 1 [.string s] rfl rfl (newT _ _ _) ?cg2 ?cg3 ?cg4 ?cg5 ?_)
          case cg2 => first | rfl | (intro x hx; simp only [List.mem_cons, List.not_mem_nil, or_false] at hx; subst hx; rfl)
          case cg3 => unfold maxLen; omega
          case cg4 => omega
          case cg5 => first | omega | (simp; omega)
          intro v' w6 hown' hgrow _
          obtain ⟨n1, n2⟩ := snocT hown hbr hgrow hown'
          have A6 := (n2.cell (p := ⟨g, off + k, Option.none⟩) gl).trans AW.out
          have hs6 := n2.size
          obtain ⟨va, vc, rfl⟩ := ownShape n1
          have hol6 : ((os ++ [s]).length : Int) ≤ 10000002 := by simp; omega
          clear hown' hgrow hown hbr A0
          go_wp2_with (at_builtin; refine wpList_append_own _ rfl _ _ 31 rfl w.heap.size 9 i0 _ 1 16 Try.underlying31 hi0 hz0 hz1 hz2 rfl (by decide) _ _ _ rfl (n1.alloc _) ⟨w6.heap.size, 0, Option.none⟩ 1 1 [.string x] rfl rfl (newT _ _ _) ?cd2 ?cd3 ?cd4 ?cd5 ?_)
          case cd2 => first | rfl | (intro x hx; simp only [List.mem_cons, List.not_mem_nil, or_false] at hx; subst hx; rfl)
          case cd3 => unfold maxLen; omega
          case cd4 => omega
          case cd5 => first | omega | (simp; omega)
          intro v'' w7 hown'' hgrow2 _
          obtain ⟨m1, m2⟩ := snocT n1 n2 (o := .cells #[.string x] 9) (by simpa using hgrow2) (show w7.ownsRow w.heap.size 9 1 v'' ((os ++ [s]).length + 1) ((os ++ [s]).map Value.string ++ [.string x]) by simpa using hown'')
          clear hown'' hgrow2 n1 n2 A6
          go_wp2
          go_roundw
          case rel => exact ⟨k + 1, true, os ++ [s] ++ [x], by omega, by go_num, rfl, ⟨by rw [List.append_assoc, List.append_assoc]; exact G.out.1, by have := G.out.2; simp; omega, fun h => by cases h⟩, m1, m2⟩
          case measure => simp [RowKit.intOf]; omega
    · have hkk : ns.drop k = [] := List.drop_of_length_le (by omega)
      rw [hkk] at g1
      cases dn with
      | true =>
        have G := Lib.hid (show os = putR s false ns by simpa [putR] using g1)
        clear g1 hg
        go_wp2
        go_ret
        exact ⟨_, rfl, by rw [← G.out]; exact TV.of hown, hbr⟩
      | false =>
        have G := Lib.hid (show os ++ [s] = putR s false ns by simpa [putR] using g1)
        have hsz := hbr.size
        clear g1 hg
        go_wp2_with (at_builtin; refine wpList_append_own _ rfl _ _ 31 rfl w.heap.size 9 i0 _ 1 16 Try.underlying31 hi0 hz0 hz1 hz2 rfl (by decide) _ _ _ rfl (hown.alloc _) ⟨wr.heap.size, 0, Option.none⟩ 1 1 [.string s] rfl rfl (newT _ _ _) ?cf2 ?cf3 ?cf4 ?cf5 ?_)
        case cf2 => first | rfl | (intro x hx; simp only [List.mem_cons, List.not_mem_nil, or_false] at hx; subst hx; rfl)
        case cf3 => unfold maxLen; omega
        case cf4 => omega
        case cf5 => first | omega | (simp; omega)
        intro v' w6 hown' hgrow _
        obtain ⟨n1, n2⟩ := snocT hown hbr hgrow hown'
        clear hown' hgrow hown hbr
        go_wp2
        go_ret
        exact ⟨_, rfl, by rw [← G.out]; exact TV.of n1, n2⟩
end Go.Proofs.Ythokildkedlkfaa
