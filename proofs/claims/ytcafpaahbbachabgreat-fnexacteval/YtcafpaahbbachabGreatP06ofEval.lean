/-
  Texts in one: NamePut, AstArrAt, Words, EvImpl, AstTop.
-/
import Derived.Test.YtcafpaahbbachabGreatP05ofEval
import Derived.Test.YtcafpaahbbachabGreatP02ofEval
import Derived.Test.YtcafpaahbbachabGreatP03ofEval
import Derived.Test.YtcafpaahbbachabGreatRows
import Derived.WalkKit
import Derived.WalkLawsBesides
import Derived.Laws.BitsLemmas
import Derived.Test.YtcafpaahbbachabGreatP04ofEval
/-
  The contracts of the specification's l4Put, l4Names, VarsOf, LoopVars: names in order.
-/
namespace Go.Proofs.YtcafpaahbbachabGreat
open Go.RowKit Go.Lib
set_option linter.unusedSimpArgs false
set_option linter.unusedVariables false

/-- A slice that holds these names, at lo or above. -/
def TV (w : World) (lo : Nat) (v : Value) (ns : List ByteArray) : Prop :=
  ∃ ao cap, v = .slice ao ns.length cap ∧ (ns = [] ∨ ∃ g off, ao = some ⟨g, off, Option.none⟩ ∧ lo ≤ g ∧ g < w.heap.size ∧ ∀ i t, ns[i]? = some t → w.cell? ⟨g, off + i, Option.none⟩ = some (.string t))
theorem TV.same {w w' : World} {lo lo' : Nat} {v : Value} {ns : List ByteArray} (hlo : lo' ≤ lo) (h : TV w lo v ns) (hk : Keeps lo w w') (hz : w.heap.size ≤ w'.heap.size) : TV w' lo' v ns := by
  obtain ⟨ao, cap, hv, h⟩ := h
  refine ⟨ao, cap, hv, ?_⟩
  rcases h with h | ⟨g, off, h1, h0, h2, h3⟩
  · exact .inl h
  · exact .inr ⟨g, off, h1, Nat.le_trans hlo h0, Nat.lt_of_lt_of_le h2 hz, fun i t hi => hk _ _ h0 (h3 i t hi)⟩
theorem TV.later {w w' : World} {lo : Nat} {v : Value} {ns : List ByteArray} (h : TV w lo v ns) (hb : Below w.heap.size w w') : TV w' lo v ns := h.same (Nat.le_refl _) (Keeps.later hb) hb.size
theorem TV.low {w : World} {lo : Nat} {v : Value} {ns : List ByteArray} (h : TV w lo v ns) : TV w 0 v ns := h.same (Nat.zero_le _) (Keeps.refl _ _) (Nat.le_refl _)
theorem TV.shape {w : World} {lo : Nat} {v : Value} {ns : List ByteArray} (h : TV w lo v ns) : ∃ a c, v = .slice a ns.length c := by obtain ⟨a, c, h1, _⟩ := h; exact ⟨a, c, h1⟩
theorem TV.of {w : World} {B : Nat} {v : Value} {ns : List ByteArray} (h : w.ownsRow B 9 1 v ns.length (ns.map Value.string)) : TV w B v ns := by
  rcases h.2 with ⟨h0, h1⟩ | ⟨g, cap, cur, h1, h2, h3, h4⟩
  · exact ⟨Option.none, 0, by rw [h1]; exact h0, .inl (List.length_eq_zero_iff.1 h1)⟩
  · refine ⟨_, cap, h1, .inr ⟨g, 0, rfl, h2, lt_heap h3, fun i t hi => ?_⟩⟩
    have hc := h.cells (g := g) (by rw [h1]; rfl) i (.string t) (by rw [List.getElem?_map, hi]; rfl)
    have e : (⟨g, 0, Option.none⟩ : Addr).add i = ⟨g, i, Option.none⟩ := by simp [Addr.add]; omega
    rw [e] at hc
    rw [Nat.zero_add]; exact hc
theorem infoStr : (Tryz.prog.info? 9).map (fun i => (i.zero, i.size, i.bytes)) = some (some (.string ⟨#[]⟩), 1, 16) := by kernel_rfl
theorem newT (w : World) (u : Value) (t : TypeId) : ∀ j x, [u][j]? = some x → (w.alloc (.cells #[u] t)).cell? ((⟨w.heap.size, 0, Option.none⟩ : Addr).add j) = some x := new1 w u t
/-- One name more. -/
theorem snocT {w w5 w6 : World} {os : List ByteArray} {t v' : Value} {x : ByteArray} {o : Obj} (hown : w5.ownsRow w.heap.size 9 1 t os.length (os.map Value.string)) (hb : Below w.heap.size w w5) (hg : (w5.alloc o).grownBy w6 t.ownBlock)
    (h : w6.ownsRow w.heap.size 9 1 v' (os.length + 1) (os.map Value.string ++ [.string x])) : w6.ownsRow w.heap.size 9 1 v' (os ++ [x]).length ((os ++ [x]).map Value.string) ∧ Below w.heap.size w w6 :=
  ⟨by rw [List.length_append, List.map_append]; exact h, (hb.alloc hb.size o).grown hg (by have := hb.size; simp; omega) (fun k hk => (hown.lt k hk).1)⟩
theorem ownShape {w : World} {B sz n : Nat} {e : TypeId} {v : Value} {xs : List Value} (h : w.ownsRow B e sz v n xs) : ∃ a c, v = .slice a n c := by
  rcases h.2 with ⟨h1, h0⟩ | ⟨g, cap, cur, h1, _⟩
  · exact ⟨_, _, by rw [h0]; exact h1⟩
  · exact ⟨_, _, h1⟩
theorem putR_x {s x : ByteArray} {r : List ByteArray} (d : Bool) (hd : d = true ∨ blt x s = true) (hx : ¬ x = s) : putR s d (x :: r) = x :: putR s d r := by
  cases d with
  | true => rw [putR, if_neg hx]
  | false => rcases hd with h | h
             · cases h
             · rw [putR, if_pos h, if_neg hx]
theorem putR_same {s : ByteArray} {r : List ByteArray} : putR s true (s :: r) = putR s true r := by rw [putR, if_pos rfl]
theorem putR_s {s x : ByteArray} {r : List ByteArray} (h : blt x s = false) : putR s false (x :: r) = s :: putR s true (x :: r) := by
  simp only [putR, h]; simp
set_option maxHeartbeats 2000000 in
set_option maxRecDepth 100000 in
theorem l4Put_is (ns : List ByteArray) (hn : ns.length ≤ 10000000) (s : ByteArray) (v : Value) (w : World) (hv : TV w 0 v ns) :
    Calls Tryz.prog 106 #[v, .string s] w fun e w' => ∃ v', e = .returned v' ∧ TV w' w.heap.size v' (putR s false ns) ∧ Below w.heap.size w w' := by
  obtain ⟨i0, hi0, hz0, hz1, hz2⟩ := info_parts infoStr
  obtain ⟨ao, cap, rfl, hr⟩ := hv
  have Hr := Lib.hid hr
  clear hr
  have hnI : (ns.length : Int) ≤ 10000000 := by omega
  go_enter Tryz.func106, Tryz.ntmps106
  go_wp2
  go_loopw [5, 6, 7] (fun out d i wr => ∃ (k : Nat) (dn : Bool) (os : List ByteArray), k ≤ ns.length ∧ i = .int .i64 k ∧ d = .bool dn ∧ Hid (os ++ putR s dn (ns.drop k) = putR s false ns ∧ os.length ≤ k + 1 ∧ (dn = false → os.length ≤ k)) ∧ wr.ownsRow w.heap.size 9 1 out os.length (os.map Value.string) ∧ Below w.heap.size w wr) (fun _ _ i _ => ns.length - (RowKit.intOf i).toNat)
  case atStart =>
    exact ⟨0, false, [], by omega, rfl, rfl, ⟨by simp, by simp, fun _ => by simp⟩, ⟨rfl, .inr ⟨w.heap.size, 0, #[], rfl, Nat.le_refl _, (by show (w.heap.push _)[w.heap.size]? = _; simp), Nat.le_refl _, (by unfold maxLen; omega), rfl, rfl⟩⟩, alloc_below _ _⟩
  case round =>
    obtain ⟨k, dn, os, hk, rfl, rfl, hg, hown, hbr⟩ := hrel
    obtain ⟨g1, g2, g3⟩ := hg.out
    obtain ⟨oa, oc, rfl⟩ := ownShape hown
    have hol : (os.length : Int) ≤ 10000001 := by omega
    by_cases hlt : k < ns.length
    · have hltI : (k : Int) < (ns.length : Int) := by omega
      obtain ⟨x, hx⟩ : ∃ x, ns[k]? = some x := ⟨ns[k], List.getElem?_eq_getElem hlt⟩
      rcases Hr.out with hr | ⟨g, off, rfl, _, gl, hc⟩
      · subst hr; simp at hlt
      have hsz := hbr.size
      have AW := Lib.hid (hc k x hx)
      have A0 := (hbr.cell (p := ⟨g, off + k, Option.none⟩) gl).trans AW.out
      have hd : ns.drop k = x :: ns.drop (k + 1) := by rw [List.drop_eq_getElem_cons hlt]; congr 1; rw [List.getElem?_eq_getElem hlt] at hx; injection hx
      rw [hd] at g1
      clear hc hx Hr hd hg
      by_cases hdb : dn = true ∨ blt x s = true
      · have G3 : Hid (dn = false → os.length ≤ k) := g3
        by_cases he : x = s
        · have hdn : dn = true := hdb.resolve_right (fun h => by rw [he, blt_irrefl] at h; cases h)
          subst hdn
          subst he
          rw [putR_same] at g1
          have G := Lib.hid (And.intro g1 g2)
          clear g1 g2 g3 hdb
          go_wp2
          go_roundw
          case rel => exact ⟨k + 1, true, os, by omega, by go_num, rfl, ⟨G.out.1, by have := G.out.2; omega, fun h => by cases h⟩, hown, hbr⟩
          case measure => simp [RowKit.intOf]; omega
        · rw [putR_x dn hdb he] at g1
          have G := Lib.hid (And.intro g1 g2)
          have hne := str_ne he
          have hcs : dn = true ∨ (dn = false ∧ Op.bytesLess x.toList s.toList = true) := by
            cases dn with
            | true => exact .inl rfl
            | false => exact .inr ⟨rfl, hdb.resolve_left (by simp)⟩
          clear g1 g2 g3 hdb he
          rcases hcs with rfl | ⟨rfl, hls⟩
          · go_wp2_with (at_builtin; refine wpList_append_own _ rfl _ _ 72 rfl w.heap.size 9 i0 _ 1 16 Tryz.underlying72 hi0 hz0 hz1 hz2 rfl (by decide) _ _ _ rfl (hown.alloc _) ⟨wr.heap.size, 0, Option.none⟩ 1 1 [.string x] rfl rfl (newT _ _ _) ?cb2 ?cb3 ?cb4 ?cb5 ?_)
            case cb2 => first | rfl | (intro x hx; simp only [List.mem_cons, List.not_mem_nil, or_false] at hx; subst hx; rfl)
            case cb3 => unfold maxLen; omega
            case cb4 => omega
            case cb5 => first | omega | (simp; omega)
            intro v' w6 hown' hgrow _
            obtain ⟨n1, n2⟩ := snocT hown hbr hgrow hown'
            clear hown' hgrow hown hbr A0
            go_wp2
            go_roundw
            case rel => exact ⟨k + 1, true, os ++ [x], by omega, by go_num, rfl, ⟨by rw [List.append_assoc]; exact G.out.1, by have := G.out.2; simp; omega, fun h => by cases h⟩, n1, n2⟩
            case measure => simp [RowKit.intOf]; omega
          · go_wp2_with (at_builtin; refine wpList_append_own _ rfl _ _ 72 rfl w.heap.size 9 i0 _ 1 16 Tryz.underlying72 hi0 hz0 hz1 hz2 rfl (by decide) _ _ _ rfl (hown.alloc _) ⟨wr.heap.size, 0, Option.none⟩ 1 1 [.string x] rfl rfl (newT _ _ _) ?cc2 ?cc3 ?cc4 ?cc5 ?_)
            case cc2 => first | rfl | (intro x hx; simp only [List.mem_cons, List.not_mem_nil, or_false] at hx; subst hx; rfl)
            case cc3 => unfold maxLen; omega
            case cc4 => omega
            case cc5 => first | omega | (simp; omega)
            intro v' w6 hown' hgrow _
            obtain ⟨n1, n2⟩ := snocT hown hbr hgrow hown'
            clear hown' hgrow hown hbr A0
            go_wp2
            go_roundw
            case rel => exact ⟨k + 1, false, os ++ [x], by omega, by go_num, rfl, ⟨by rw [List.append_assoc]; exact G.out.1, by have := G.out.2; simp; omega, fun _ => by have := G3.out (by simp); simp; omega⟩, n1, n2⟩
            case measure => simp [RowKit.intOf]; omega
      · have hdn : dn = false := by cases dn with | false => rfl | true => exact absurd (.inl rfl) hdb
        subst hdn
        have hbl : blt x s = false := by cases h : blt x s with | false => rfl | true => exact absurd (.inr h) hdb
        have hls : Op.bytesLess x.toList s.toList = false := hbl
        rw [putR_s hbl] at g1
        have g4 := g3 rfl
        clear hdb hbl g3
        by_cases he : x = s
        · subst he
          rw [putR_same] at g1
          have G := Lib.hid (And.intro g1 g4)
          clear g1 g2 g4
          go_wp2_with (at_builtin; refine wpList_append_own _ rfl _ _ 72 rfl w.heap.size 9 i0 _ 1 16 Tryz.underlying72 hi0 hz0 hz1 hz2 rfl (by decide) _ _ _ rfl (hown.alloc _) ⟨wr.heap.size, 0, Option.none⟩ 1 1 [.string x] rfl rfl (newT _ _ _) ?ce2 ?ce3 ?ce4 ?ce5 ?_)
          case ce2 => first | rfl | (intro x hx; simp only [List.mem_cons, List.not_mem_nil, or_false] at hx; subst hx; rfl)
          case ce3 => unfold maxLen; omega
          case ce4 => omega
          case ce5 => first | omega | (simp; omega)
          intro v' w6 hown' hgrow _
          obtain ⟨n1, n2⟩ := snocT hown hbr hgrow hown'
          have A6 := (n2.cell (p := ⟨g, off + k, Option.none⟩) gl).trans AW.out
          clear hown' hgrow hown hbr A0
          go_wp2
          go_roundw
          case rel => exact ⟨k + 1, true, os ++ [x], by omega, by go_num, rfl, ⟨by rw [List.append_assoc]; exact G.out.1, by have := G.out.2; simp; omega, fun h => by cases h⟩, n1, n2⟩
          case measure => simp [RowKit.intOf]; omega
        · have hne := str_ne he
          rw [putR_x true (.inl rfl) he] at g1
          have G := Lib.hid (And.intro g1 g4)
          clear g1 g2 he g4
          go_wp2_with (at_builtin; refine wpList_append_own _ rfl _ _ 72 rfl w.heap.size 9 i0 _ 1 16 Tryz.underlying72 hi0 hz0 hz1 hz2 rfl (by decide) _ _ _ rfl (hown.alloc _) ⟨wr.heap.size, 0, Option.none⟩ 1 1 [.string s] rfl rfl (newT _ _ _) ?cg2 ?cg3 ?cg4 ?cg5 ?_)
          case cg2 => first | rfl | (intro x hx; simp only [List.mem_cons, List.not_mem_nil, or_false] at hx; subst hx; rfl)
          case cg3 => unfold maxLen; omega
          case cg4 => omega
          case cg5 => first | omega | (simp; omega)
          intro v' w6 hown' hgrow _
          obtain ⟨n1, n2⟩ := snocT hown hbr hgrow hown'
          have A6 := (n2.cell (p := ⟨g, off + k, Option.none⟩) gl).trans AW.out
          have hs6 := n2.size
          obtain ⟨va, vc, rfl⟩ := ownShape n1
          have hol6 : ((os ++ [s]).length : Int) ≤ 10000002 := by simp; omega
          clear hown' hgrow hown hbr A0
          go_wp2_with (at_builtin; refine wpList_append_own _ rfl _ _ 72 rfl w.heap.size 9 i0 _ 1 16 Tryz.underlying72 hi0 hz0 hz1 hz2 rfl (by decide) _ _ _ rfl (n1.alloc _) ⟨w6.heap.size, 0, Option.none⟩ 1 1 [.string x] rfl rfl (newT _ _ _) ?cd2 ?cd3 ?cd4 ?cd5 ?_)
          case cd2 => first | rfl | (intro x hx; simp only [List.mem_cons, List.not_mem_nil, or_false] at hx; subst hx; rfl)
          case cd3 => unfold maxLen; omega
          case cd4 => omega
          case cd5 => first | omega | (simp; omega)
          intro v'' w7 hown'' hgrow2 _
          obtain ⟨m1, m2⟩ := snocT n1 n2 (o := .cells #[.string x] 9) (by simpa using hgrow2) (show w7.ownsRow w.heap.size 9 1 v'' ((os ++ [s]).length + 1) ((os ++ [s]).map Value.string ++ [.string x]) by simpa using hown'')
          clear hown'' hgrow2 n1 n2 A6
          go_wp2
          go_roundw
          case rel => exact ⟨k + 1, true, os ++ [s] ++ [x], by omega, by go_num, rfl, ⟨by rw [List.append_assoc, List.append_assoc]; exact G.out.1, by have := G.out.2; simp; omega, fun h => by cases h⟩, m1, m2⟩
          case measure => simp [RowKit.intOf]; omega
    · have hkk : ns.drop k = [] := List.drop_of_length_le (by omega)
      rw [hkk] at g1
      cases dn with
      | true =>
        have G := Lib.hid (show os = putR s false ns by simpa [putR] using g1)
        clear g1 hg
        go_wp2
        go_ret
        exact ⟨_, rfl, by rw [← G.out]; exact TV.of hown, hbr⟩
      | false =>
        have G := Lib.hid (show os ++ [s] = putR s false ns by simpa [putR] using g1)
        have hsz := hbr.size
        clear g1 hg
        go_wp2_with (at_builtin; refine wpList_append_own _ rfl _ _ 72 rfl w.heap.size 9 i0 _ 1 16 Tryz.underlying72 hi0 hz0 hz1 hz2 rfl (by decide) _ _ _ rfl (hown.alloc _) ⟨wr.heap.size, 0, Option.none⟩ 1 1 [.string s] rfl rfl (newT _ _ _) ?cf2 ?cf3 ?cf4 ?cf5 ?_)
        case cf2 => first | rfl | (intro x hx; simp only [List.mem_cons, List.not_mem_nil, or_false] at hx; subst hx; rfl)
        case cf3 => unfold maxLen; omega
        case cf4 => omega
        case cf5 => first | omega | (simp; omega)
        intro v' w6 hown' hgrow _
        obtain ⟨n1, n2⟩ := snocT hown hbr hgrow hown'
        clear hown' hgrow hown hbr
        go_wp2
        go_ret
        exact ⟨_, rfl, by rw [← G.out]; exact TV.of n1, n2⟩
end Go.Proofs.YtcafpaahbbachabGreat
/-
  The contract of the landed code's ArrAt.
-/
namespace Go.Proofs.YtcafpaahbbachabGreat
open Go.RowKit Go.Lib
set_option linter.unusedSimpArgs false
set_option linter.unusedVariables false

set_option maxHeartbeats 1000000 in
theorem impl_ArrAt (ts : List AR) (hn : ts.length ≤ 1048576) (s : ByteArray) (va vb : Value) (hvb : vb.oneCell' = true) (w : World) (ha : AV w 0 va ts) :
    Calls Tryz.prog 141 #[.agg #[va, vb], .string s] w fun e w' => e = .returned (.int .i64 (arrGo ts 0 s)) ∧ Below w.heap.size w w' := by
  obtain ⟨ao, cap, rfl, hr⟩ := ha
  have Hr := Lib.hid hr
  clear hr
  have hc0 : (w.alloc (.cells #[.slice ao ts.length cap, vb] 43)).cell? ⟨w.heap.size, 0, Option.none⟩ = some (.slice ao ts.length cap) := box_cell (Below.refl _ _) rfl
  have B := Lib.hid (alloc_below w (.cells #[.slice ao ts.length cap, vb] 43))
  go_enter Tryz.func141, Tryz.ntmps141
  go_wp2
  go_loopw [10] (fun i wr => ∃ k : Nat, k ≤ ts.length ∧ i = .int .i64 k ∧ Hid (arrGo ts 0 s = arrGo (ts.drop k) k s) ∧ Below w.heap.size w wr) (fun i _ => ts.length - (RowKit.intOf i).toNat)
  case atStart => exact ⟨0, by omega, rfl, (by show arrGo ts 0 s = arrGo (ts.drop 0) 0 s; rw [List.drop_zero]), B.out⟩
  case round =>
    obtain ⟨k, hk, rfl, hg, hbr⟩ := hrel
    by_cases hlt : k < ts.length
    · have hltI : (k : Int) < (ts.length : Int) := by omega
      obtain ⟨t, ht⟩ : ∃ t, ts[k]? = some t := ⟨ts[k], List.getElem?_eq_getElem hlt⟩
      rcases Hr.out with hr | ⟨g, off, rfl, _, gl, hc⟩
      · subst hr; simp at hlt
      have A0 := (hbr.cell (p := ⟨g, off + k * 2, Option.none⟩) gl).trans (hc k t ht).1
      have A1 := (hbr.cell (p := ⟨g, off + k * 2 + 1, Option.none⟩) gl).trans (hc k t ht).2
      have hd : Hid (ts.drop k = t :: ts.drop (k + 1)) := by
        show ts.drop k = t :: ts.drop (k + 1)
        rw [List.drop_eq_getElem_cons hlt]; congr 1; rw [List.getElem?_eq_getElem hlt] at ht; injection ht
      clear hc ht Hr hc0
      have HB := Lib.hid (fun o : Obj => hbr.alloc hbr.size o)
      clear hbr
      by_cases he : t.s = s
      · have he2 : Hid (arrGo ts 0 s = (k : Int)) := by show arrGo ts 0 s = (k : Int); rw [hg.out, hd.out, arrGo, if_pos he]
        subst he
        go_wp2
        go_ret
        exact retI he2.out.symm (HB.out _)
      · have he2 : Hid (arrGo ts 0 s = arrGo (ts.drop (k + 1)) (k + 1) s) := by show arrGo ts 0 s = _; rw [hg.out, hd.out, arrGo, if_neg he]
        have hne := str_ne he
        go_wp2
        go_roundw
        case rel => exact ⟨k + 1, by omega, by go_num, he2.out, HB.out _⟩
        case measure => simp [RowKit.intOf]; omega
    · have he2 : Hid (arrGo ts 0 s = -1) := by show arrGo ts 0 s = -1; rw [hg.out, List.drop_of_length_le (by omega)]; rfl
      go_wp2
      go_ret
      exact retI he2.out.symm hbr
end Go.Proofs.YtcafpaahbbachabGreat
/-
  The contracts of the numbers that go round: spec.Wrap and impl.Wrap of any int answer the one word that is as many times 4294967296 away; AddW, SubW, MulW answer it of the sum, the difference, the product of both words.
-/
namespace Go.Proofs.YtcafpaahbbachabGreat
open Go.RowKit

theorem i64_and32 (n : Int) : bits .and .i64 n 4294967295 = n % 4294967296 := by
  have h32 : (BitVec.ofInt 64 4294967295).toNat = 2 ^ 32 - 1 := by decide
  have key : (BitVec.ofInt 64 n &&& BitVec.ofInt 64 4294967295).toNat = (n % ((2 ^ 64 : Nat) : Int)).toNat % 2 ^ 32 := by
    rw [BitVec.toNat_and, BitVec.toNat_ofInt, h32, Nat.and_two_pow_sub_one_eq_mod]
  show IntKind.i64.wrap ((BitVec.ofInt 64 n &&& BitVec.ofInt 64 4294967295).toNat : Nat) = n % 4294967296
  rw [key, IntKind.wrap_i64]
  omega
theorem wrap32_bdW (n : Int) : -2147483648 ≤ wrap32 n ∧ wrap32 n ≤ 2147483647 := by unfold wrap32; omega
theorem mul_bdW (a b : Int) (ha0 : -2147483648 ≤ a) (ha : a ≤ 2147483647) (hb0 : -2147483648 ≤ b) (hb : b ≤ 2147483647) : -9223372036854775808 ≤ a * b ∧ a * b ≤ 9223372036854775807 := by
  have h1 : a.natAbs ≤ 2147483648 := by omega
  have h2 : b.natAbs ≤ 2147483648 := by omega
  have h3 : (a * b).natAbs ≤ 2147483648 * 2147483648 := by rw [Int.natAbs_mul]; exact Nat.mul_le_mul h1 h2
  omega
theorem ret_int {k : IntKind} {a b : Int} (h : a = b) : Ending.returned (.int k a) = .returned (.int k b) := by rw [h]

theorem spec_Wrap (n : Int) (w : World) : Calls Tryz.prog 138 #[.int .i64 n] w fun e w' => e = .returned (.int .i64 (wrap32 n)) ∧ w = w' := by
  have ha := i64_and32 n
  go_enter Tryz.func138, Tryz.ntmps138
  go_wp2
  all_goals
    go_ret
    exact ⟨ret_int (by unfold wrap32; omega), rfl⟩
theorem impl_Wrap (n : Int) (w : World) : Calls Tryz.prog 142 #[.int .i64 n] w fun e w' => e = .returned (.int .i64 (wrap32 n)) ∧ w = w' := by
  go_enter Tryz.func142, Tryz.ntmps142
  go_wp2
  go_ret
  exact ⟨ret_int (by unfold wrap64 wrap32; omega), rfl⟩

theorem spec_AddW (a b : Int) (w : World) : Calls Tryz.prog 107 #[.int .i64 a, .int .i64 b] w fun e w' => e = .returned (.int .i64 (wrap32 (wrap32 a + wrap32 b))) ∧ w = w' := by
  have ha := wrap32_bdW a
  have hb := wrap32_bdW b
  go_enter Tryz.func107, Tryz.ntmps107
  go_wp2_with (go_at_call 138; refine (spec_Wrap _ _).mono ?_; rintro e w' ⟨rfl, rfl⟩)
  go_ret
  exact ⟨rfl, rfl⟩
theorem impl_AddW (a b : Int) (w : World) : Calls Tryz.prog 114 #[.int .i64 a, .int .i64 b] w fun e w' => e = .returned (.int .i64 (wrap32 (wrap32 a + wrap32 b))) ∧ w = w' := by
  have ha := wrap32_bdW a
  have hb := wrap32_bdW b
  go_enter Tryz.func114, Tryz.ntmps114
  go_wp2_with (go_at_call 142; refine (impl_Wrap _ _).mono ?_; rintro e w' ⟨rfl, rfl⟩)
  go_ret
  exact ⟨rfl, rfl⟩
theorem spec_SubW (a b : Int) (w : World) : Calls Tryz.prog 108 #[.int .i64 a, .int .i64 b] w fun e w' => e = .returned (.int .i64 (wrap32 (wrap32 a - wrap32 b))) ∧ w = w' := by
  have ha := wrap32_bdW a
  have hb := wrap32_bdW b
  go_enter Tryz.func108, Tryz.ntmps108
  go_wp2_with (go_at_call 138; refine (spec_Wrap _ _).mono ?_; rintro e w' ⟨rfl, rfl⟩)
  go_ret
  exact ⟨rfl, rfl⟩
theorem impl_SubW (a b : Int) (w : World) : Calls Tryz.prog 115 #[.int .i64 a, .int .i64 b] w fun e w' => e = .returned (.int .i64 (wrap32 (wrap32 a - wrap32 b))) ∧ w = w' := by
  have ha := wrap32_bdW a
  have hb := wrap32_bdW b
  go_enter Tryz.func115, Tryz.ntmps115
  go_wp2_with (go_at_call 142; refine (impl_Wrap _ _).mono ?_; rintro e w' ⟨rfl, rfl⟩)
  go_ret
  exact ⟨rfl, rfl⟩
theorem wrap_mul (a b : Int) : wrap64 (wrap32 a * wrap32 b) = wrap32 a * wrap32 b := by
  have ha := wrap32_bdW a
  have hb := wrap32_bdW b
  have := mul_bdW _ _ ha.1 ha.2 hb.1 hb.2
  unfold wrap64
  omega
theorem spec_MulW (a b : Int) (w : World) : Calls Tryz.prog 109 #[.int .i64 a, .int .i64 b] w fun e w' => e = .returned (.int .i64 (wrap32 (wrap32 a * wrap32 b))) ∧ w = w' := by
  go_enter Tryz.func109, Tryz.ntmps109
  go_wp2_with (go_at_call 138; refine (spec_Wrap _ _).mono ?_; rintro e w' ⟨rfl, rfl⟩)
  go_ret
  exact ⟨ret_int (by rw [wrap_mul]), rfl⟩
theorem impl_MulW (a b : Int) (w : World) : Calls Tryz.prog 116 #[.int .i64 a, .int .i64 b] w fun e w' => e = .returned (.int .i64 (wrap32 (wrap32 a * wrap32 b))) ∧ w = w' := by
  go_enter Tryz.func116, Tryz.ntmps116
  go_wp2_with (go_at_call 142; refine (impl_Wrap _ _).mono ?_; rintro e w' ⟨rfl, rfl⟩)
  go_ret
  exact ⟨ret_int (by rw [wrap_mul]), rfl⟩
end Go.Proofs.YtcafpaahbbachabGreat
/-
  What an expression is, the landed code: slices.Index, varWords, pairValue, spotOf.
-/
namespace Go.Proofs.YtcafpaahbbachabGreat
open Go.RowKit Go.Lib
set_option linter.unusedSimpArgs false
set_option linter.unusedVariables false

def idxGo : List ByteArray → Nat → ByteArray → Int
  | [], _, _ => -1
  | t :: ts, k, s => if t = s then k else idxGo ts (k + 1) s
theorem idxGo_bd (s : ByteArray) : ∀ (ns : List ByteArray) (k : Nat), idxGo ns k s = -1 ∨ ((k : Int) ≤ idxGo ns k s ∧ idxGo ns k s < (k : Int) + ns.length)
  | [], _ => .inl rfl
  | t :: ts, k => by
    rw [idxGo]
    split
    · exact .inr ⟨by omega, by simp; omega⟩
    · rcases idxGo_bd s ts (k + 1) with h | ⟨h1, h2⟩
      · exact .inl h
      · exact .inr ⟨by omega, by simp only [List.length_cons]; omega⟩
set_option maxHeartbeats 1000000 in
theorem slicesIndex_is (ns : List ByteArray) (hn : ns.length ≤ 100000000) (s : ByteArray) (v : Value) (w : World) (hv : TV w 0 v ns) :
    Calls Tryz.prog 80 #[v, .string s] w fun e w' => e = .returned (.int .i64 (idxGo ns 0 s)) ∧ w' = w := by
  obtain ⟨ao, cap, rfl, hr⟩ := hv
  have Hr := Lib.hid hr
  clear hr
  go_enter Tryz.func80, Tryz.ntmps80
  go_wp2
  go_loopw [8] (fun i wr => ∃ k : Nat, k ≤ ns.length ∧ i = .int .i64 k ∧ Hid (idxGo ns 0 s = idxGo (ns.drop k) k s) ∧ wr = w) (fun i _ => ns.length - (RowKit.intOf i).toNat)
  case atStart => exact ⟨0, by omega, rfl, (by show idxGo ns 0 s = idxGo (ns.drop 0) 0 s; rw [List.drop_zero]), rfl⟩
  case round =>
    obtain ⟨k, hk, rfl, hg, rfl⟩ := hrel
    by_cases hlt : k < ns.length
    · have hltI : (k : Int) < (ns.length : Int) := by omega
      obtain ⟨t, ht⟩ : ∃ t, ns[k]? = some t := ⟨ns[k], List.getElem?_eq_getElem hlt⟩
      rcases Hr.out with hr | ⟨g, off, rfl, _, gl, hc⟩
      · subst hr; simp at hlt
      have A0 := hc k t ht
      have hd : Hid (ns.drop k = t :: ns.drop (k + 1)) := by
        show ns.drop k = t :: ns.drop (k + 1)
        rw [List.drop_eq_getElem_cons hlt]; congr 1; rw [List.getElem?_eq_getElem hlt] at ht; injection ht
      clear hc ht Hr
      by_cases he : t = s
      · have he2 : Hid (idxGo ns 0 s = (k : Int)) := by show idxGo ns 0 s = (k : Int); rw [hg.out, hd.out, idxGo, if_pos he]
        subst he
        go_wp2
        go_ret
        exact ⟨(by rw [he2.out]; try rfl), rfl⟩
      · have he2 : Hid (idxGo ns 0 s = idxGo (ns.drop (k + 1)) (k + 1) s) := by show idxGo ns 0 s = _; rw [hg.out, hd.out, idxGo, if_neg he]
        have hne := str_ne (fun e => he e.symm)
        go_wp2
        go_roundw
        case rel => exact ⟨k + 1, by omega, by go_num, he2.out, trivial⟩
        case measure => simp [RowKit.intOf]; omega
    · have he2 : Hid (idxGo ns 0 s = -1) := by show idxGo ns 0 s = -1; rw [hg.out, List.drop_of_length_le (by omega)]; rfl
      go_wp2
      go_ret
      exact ⟨(by rw [he2.out]; try rfl), rfl⟩
/-- What a name that is set has. -/
def varN (ns : List ByteArray) (V : List Int) (s : ByteArray) : Int := if idxGo ns 0 s < 0 then 0 else V[(idxGo ns 0 s).toNat]?.getD 0
set_option maxHeartbeats 1000000 in
theorem varWords1_is (ns : List ByteArray) (hn : ns.length ≤ 100000000) (V : List Int) (hV : V.length ≤ 100000000) (s : ByteArray) (nv vv : Value) (p q : Nat) (w : World) (h1 : TV w 0 nv ns) (h2 : IV w 0 vv V) (c1 : w.cell? ⟨p, 0, Option.none⟩ = some nv) (c2 : w.cell? ⟨q, 0, Option.none⟩ = some vv) :
    Calls Tryz.prog 79 #[.string s, .pointer (some ⟨p, 0, Option.none⟩), .pointer (some ⟨q, 0, Option.none⟩)] w fun e w' => e = .returned (.int .i64 (varN ns V s)) ∧ Below w.heap.size w w' := by
  have H1 := Lib.hid h1
  have H2 := Lib.hid h2
  obtain ⟨a1, b1, rfl⟩ := h1.shape
  obtain ⟨a2, b2, rfl⟩ := h2.shape
  obtain ⟨i, hi⟩ : ∃ i, idxGo ns 0 s = i := ⟨_, rfl⟩
  have HI := Lib.hid hi
  have hbd := idxGo_bd s ns 0
  rw [hi] at hbd
  clear h1 h2 hi
  by_cases hi0 : i < 0
  · have hv : Hid (varN ns V s = 0) := show varN ns V s = 0 by rw [varN, HI.out, if_pos hi0]
    go_enter Tryz.func79, Tryz.ntmps79
    go_wp2_with fail
    refine (slicesIndex_is ns hn s _ _ H1.out).mono ?_
    rintro e w1 ⟨rfl, rfl⟩
    rw [HI.out]
    go_wp2
    go_ret
    exact ⟨(by rw [hv.out]; try rfl), Below.refl _ _⟩
  by_cases hi1 : i ≥ (V.length : Int)
  · have hv : Hid (varN ns V s = 0) := show varN ns V s = 0 by rw [varN, HI.out, if_neg hi0, List.getElem?_eq_none (by omega)]; rfl
    go_enter Tryz.func79, Tryz.ntmps79
    go_wp2_with fail
    refine (slicesIndex_is ns hn s _ _ H1.out).mono ?_
    rintro e w1 ⟨rfl, rfl⟩
    rw [HI.out]
    go_wp2
    go_ret
    exact ⟨(by rw [hv.out]; try rfl), Below.refl _ _⟩
  obtain ⟨k, rfl⟩ : ∃ k : Nat, i = (k : Int) := ⟨i.toNat, by omega⟩
  have hkl : k < V.length := by omega
  obtain ⟨x, hx⟩ : ∃ x, V[k]? = some x := ⟨V[k], List.getElem?_eq_getElem hkl⟩
  obtain ⟨g, off, rfl, A0⟩ := H2.out.at hx
  have hv : Hid (varN ns V s = x) := show varN ns V s = x by rw [varN, HI.out, if_neg hi0, Int.toNat_natCast, hx]; rfl
  clear hx
  go_enter Tryz.func79, Tryz.ntmps79
  go_wp2_with fail
  refine (slicesIndex_is ns hn s _ _ H1.out).mono ?_
  rintro e w1 ⟨rfl, rfl⟩
  rw [HI.out]
  go_wp2
  go_ret
  exact ⟨(by rw [hv.out]; try rfl), Below.refl _ _⟩
theorem enters_varWords (args : Array Value) (w : World) : (callFunc 79 args).run Tryz.prog w = .ok (.enter 79 args) w := enters_of Tryz.func79 (by kernel_rfl) rfl args w
/-- The names that are set, and what they have, where the closure has them. -/
def JV (ns : List ByteArray) (V : List Int) (nv vv : Value) (p q : Nat) (w : World) : Prop := TV w 0 nv ns ∧ IV w 0 vv V ∧ w.cell? ⟨p, 0, Option.none⟩ = some nv ∧ w.cell? ⟨q, 0, Option.none⟩ = some vv
set_option maxHeartbeats 1000000 in
theorem varWords_is (ns : List ByteArray) (V : List Int) (nv vv : Value) (hnv : ∃ a n c, nv = .slice a n c) (hvv : ∃ a n c, vv = .slice a n c) (w : World) :
    Calls Tryz.prog 41 #[nv, vv] w fun e w' => e = .returned (.func (.func 79) #[] #[.pointer (some ⟨w.heap.size, 0, Option.none⟩), .pointer (some ⟨w.heap.size + 1, 0, Option.none⟩)]) ∧ Below w.heap.size w w' ∧ w'.cell? ⟨w.heap.size, 0, Option.none⟩ = some nv ∧ w'.cell? ⟨w.heap.size + 1, 0, Option.none⟩ = some vv := by
  obtain ⟨a1, n1, b1, rfl⟩ := hnv
  obtain ⟨a2, n2, b2, rfl⟩ := hvv
  have hB : Hid (Below w.heap.size w ((w.alloc (.cells #[.slice a1 n1 b1] 72)).alloc (.cells #[.slice a2 n2 b2] 27))) := (alloc_below w _).alloc (by simp) _
  have q0 : Hid (((w.alloc (.cells #[.slice a1 n1 b1] 72)).alloc (.cells #[.slice a2 n2 b2] 27)).cell? ⟨w.heap.size, 0, Option.none⟩ = some (.slice a1 n1 b1)) := cell1 (t := 72) (by rw [Below.heap_alloc _ _ _ (by simp)]; exact heap_last _ _)
  have q1 : Hid (((w.alloc (.cells #[.slice a1 n1 b1] 72)).alloc (.cells #[.slice a2 n2 b2] 27)).cell? ⟨w.heap.size + 1, 0, Option.none⟩ = some (.slice a2 n2 b2)) := by
    have h := heap_last (w.alloc (.cells #[.slice a1 n1 b1] 72)) (.cells #[.slice a2 n2 b2] 27)
    rw [World.size_alloc] at h
    exact cell1 h
  go_enter Tryz.func41, Tryz.ntmps41
  go_wp2
  go_ret
  exact ⟨rfl, hB.out, q0.out, q1.out⟩
theorem lkVars (ns : List ByteArray) (hn : ns.length ≤ 100000000) (V : List Int) (hV : V.length ≤ 100000000) (nv vv : Value) (p q : Nat) : Lk (.func (.func 79) #[] #[.pointer (some ⟨p, 0, Option.none⟩), .pointer (some ⟨q, 0, Option.none⟩)]) (JV ns V nv vv p q) (varN ns V) :=
  ⟨⟨_, _, rfl, enters_varWords, fun w ⟨h1, h2, h3, h4⟩ s => varWords1_is ns hn V hV s nv vv p q w h1 h2 h3 h4⟩, fun w w' ⟨h1, h2, h3, h4⟩ hb => ⟨h1.later hb, h2.later hb, keeps hb h3, keeps hb h4⟩⟩
/-- What two words come to. -/
def opV (k a b : Int) : Int := if k = 4 then wrap32 (wrap32 a + wrap32 b) else if k = 5 then wrap32 (wrap32 a - wrap32 b) else if k = 6 then wrap32 (wrap32 a * wrap32 b) else if k = 7 then (if a < b then a else b) else if a > b then a else b
set_option maxHeartbeats 1000000 in
theorem pairValue_is (k a b : Int) (hk : 4 ≤ k ∧ k ≤ 8) (w : World) :
    Calls Tryz.prog 78 #[.int .i64 k, .int .i64 a, .int .i64 b] w fun e w' => e = .returned (.int .i64 (opV k a b)) ∧ w' = w := by
  have hk' : k = 4 ∨ k = 5 ∨ k = 6 ∨ k = 7 ∨ k = 8 := by omega
  clear hk
  rcases hk' with rfl | rfl | rfl | rfl | rfl
  · go_enter Tryz.func78, Tryz.ntmps78
    go_wp2_with fail
    refine (impl_AddW a b w).mono ?_
    rintro e w1 ⟨rfl, rfl⟩
    go_wp2
    go_ret
    exact ⟨rfl, rfl⟩
  · go_enter Tryz.func78, Tryz.ntmps78
    go_wp2_with fail
    refine (impl_SubW a b w).mono ?_
    rintro e w1 ⟨rfl, rfl⟩
    go_wp2
    go_ret
    exact ⟨rfl, rfl⟩
  · go_enter Tryz.func78, Tryz.ntmps78
    go_wp2_with fail
    refine (impl_MulW a b w).mono ?_
    rintro e w1 ⟨rfl, rfl⟩
    go_wp2
    go_ret
    exact ⟨rfl, rfl⟩
  · have hv : Hid (opV 7 a b = min a b) := show opV 7 a b = min a b by
      by_cases h : a < b
      · simp [opV, h]; omega
      · simp [opV, h]; omega
    go_enter Tryz.func78, Tryz.ntmps78
    go_wp2
    go_ret
    exact ⟨(by rw [hv.out]; try rfl), rfl⟩
  · have hv : Hid (opV 8 a b = max a b) := show opV 8 a b = max a b by
      by_cases h : a > b
      · simp [opV, h]; omega
      · simp [opV, h]; omega
    go_enter Tryz.func78, Tryz.ntmps78
    go_wp2
    go_ret
    exact ⟨(by rw [hv.out]; try rfl), rfl⟩
theorem arrGo_bd (s : ByteArray) : ∀ (ts : List AR) (k : Nat), arrGo ts k s = -1 ∨ ((k : Int) ≤ arrGo ts k s ∧ arrGo ts k s < (k : Int) + ts.length)
  | [], _ => .inl rfl
  | t :: ts, k => by
    rw [arrGo]
    split
    · exact .inr ⟨by omega, by simp; omega⟩
    · rcases arrGo_bd s ts (k + 1) with h | ⟨h1, h2⟩
      · exact .inl h
      · exact .inr ⟨by omega, by simp only [List.length_cons]; omega⟩
/-- The word of an array at a place. -/
def inA (ts : List AR) (A : List (List Int)) (s : ByteArray) (p : Int) : Option Int :=
  if arrGo ts 0 s < 0 then none else if p < 0 then none else (A[(arrGo ts 0 s).toNat]?).bind fun xs => xs[p.toNat]?
/-- Where a word of an array stands. -/
def SpotAt (w : World) (sa : Value) (ts : List AR) (s : ByteArray) (p x : Int) (ad : Addr) : Prop :=
  ∃ (k m go oo sl sc g off len c : Nat), arrGo ts 0 s = (k : Int) ∧ p = (m : Int) ∧ sa = .slice (some ⟨go, oo, Option.none⟩) sl sc ∧ w.cell? ⟨go, oo + k, Option.none⟩ = some (.slice (some ⟨g, off, Option.none⟩) len c) ∧ ad = ⟨g, off + m, Option.none⟩ ∧ w.cell? ad = some (.int .i64 x)
def SpotR (w : World) (sa : Value) (ts : List AR) (A : List (List Int)) (s : ByteArray) (p : Int) (e : Ending) : Prop :=
  (inA ts A s p = none ∧ e = .returned (.pointer Option.none)) ∨ ∃ x ad, inA ts A s p = some x ∧ e = .returned (.pointer (some ad)) ∧ SpotAt w sa ts s p x ad
/-- Two boxes: a program, a store. -/
structure PS (w w' : World) (N : Nat) (va vb sa sv so : Value) (en : Int) : Prop where
  p : w'.heap[N]? = some (.cells #[va, vb] 43 (0, 0))
  q : w'.heap[N + 1]? = some (.cells #[sa, sv, so, .int .i64 en] 45 (0, 0))
  b : Below w.heap.size w w'
theorem PS.start (w : World) (va vb sa sv so : Value) (en : Int) : PS w ((w.alloc (.cells #[va, vb] 43)).alloc (.cells #[sa, sv, so, .int .i64 en] 45)) w.heap.size va vb sa sv so en :=
  ⟨by rw [Below.heap_alloc _ _ _ (by simp)]; exact blkLast _ _,
   (congrArg (fun n => ((w.alloc (.cells #[va, vb] 43)).alloc (.cells #[sa, sv, so, .int .i64 en] 45)).heap[n]?) (show w.heap.size + 1 = (w.alloc (.cells #[va, vb] 43)).heap.size by simp)).trans (blkLast _ _),
   (alloc_below w _).alloc (by simp) _⟩
theorem PS.later {w w1 w2 : World} {N : Nat} {va vb sa sv so : Value} {en : Int} (h : PS w w1 N va vb sa sv so en) (hb : Below w1.heap.size w1 w2) : PS w w2 N va vb sa sv so en :=
  ⟨(hb.block _ (lt_heap h.p)).trans h.p, (hb.block _ (lt_heap h.q)).trans h.q, h.b.trans (hb.mono h.b.size)⟩
theorem sizeProg2 : (Tryz.prog.info? 43).map (·.size) = some 2 := by kernel_rfl
theorem sizeSto2 : (Tryz.prog.info? 45).map (·.size) = some 4 := by kernel_rfl
set_option maxHeartbeats 2000000 in
set_option maxRecDepth 100000 in
theorem spotOf_is (ts : List AR) (hn : ts.length ≤ 1048576) (A : List (List Int)) (hA : A.length ≤ 100000000) (hAi : ∀ xs ∈ A, xs.length ≤ 100000000) (s : ByteArray) (p : Int) (va vb sa sv so : Value) (en : Int) (hvb : vb.oneCell' = true) (hsv : sv.oneCell' = true) (hso : so.oneCell' = true) (w : World) (ha : AV w 0 va ts) (hi : IIV w 0 sa A) :
    Calls Tryz.prog 113 #[.agg #[va, vb], .agg #[sa, sv, so, .int .i64 en], .string s, .int .i64 p] w fun e w' => SpotR w sa ts A s p e ∧ Below w.heap.size w w' := by
  have HA := Lib.hid ha
  have HI := Lib.hid hi
  obtain ⟨a1, b1, rfl⟩ := ha.shape
  obtain ⟨a2, b2, rfl⟩ := hi.shape
  have P0 := Lib.hid (PS.start w (.slice a1 ts.length b1) vb (.slice a2 A.length b2) sv so en)
  have RP : Hid (((w.alloc (.cells #[.slice a1 ts.length b1, vb] 43)).alloc (.cells #[.slice a2 A.length b2, sv, so, .int .i64 en] 45)).rangeAt w.heap.size 0 [.slice a1 ts.length b1, vb]) := blk_range P0.out.p
  obtain ⟨i, hiv⟩ : ∃ i, arrGo ts 0 s = i := ⟨_, rfl⟩
  have HV := Lib.hid hiv
  have hbd := arrGo_bd s ts 0
  rw [hiv] at hbd
  clear ha hi hiv
  go_enter Tryz.func113, Tryz.ntmps113
  go_wp2_with (refine wpList_load_mid rfl 43 _ rfl w.heap.size 0 rfl _ _ RP.out Tryz.underlying43 rfl sizeProg2 ?_)
  refine (impl_ArrAt ts hn s _ _ hvb _ (HA.out.later P0.out.b)).mono ?_
  rintro e w1 ⟨rfl, hb1⟩
  rw [HV.out]
  have P1 := Lib.hid (P0.out.later hb1)
  have I1 := Lib.hid (HI.out.later P1.out.b)
  obtain ⟨⟨q0, _, _, _⟩, _⟩ := blk4 P1.out.q
  clear hb1 P0 RP
  by_cases h0 : i < 0
  · have hr : Hid (inA ts A s p = none) := show inA ts A s p = none by rw [inA, HV.out, if_pos h0]
    go_wp2
    go_ret
    exact ⟨.inl ⟨hr.out, rfl⟩, P1.out.b⟩
  by_cases h1 : i ≥ (A.length : Int)
  · have hr : Hid (inA ts A s p = none) := show inA ts A s p = none by
      rw [inA, HV.out, if_neg h0]
      split
      · rfl
      · rw [List.getElem?_eq_none (by omega)]; rfl
    go_wp2
    go_ret
    exact ⟨.inl ⟨hr.out, rfl⟩, P1.out.b⟩
  by_cases h2 : p < 0
  · have hr : Hid (inA ts A s p = none) := show inA ts A s p = none by rw [inA, HV.out, if_neg h0, if_pos h2]
    go_wp2
    go_ret
    exact ⟨.inl ⟨hr.out, rfl⟩, P1.out.b⟩
  obtain ⟨k, rfl⟩ : ∃ k : Nat, i = (k : Int) := ⟨i.toNat, by omega⟩
  obtain ⟨m, rfl⟩ : ∃ m : Nat, p = (m : Int) := ⟨p.toNat, by omega⟩
  obtain ⟨xs, hxs⟩ : ∃ xs, A[k]? = some xs := ⟨A[k]'(by omega), List.getElem?_eq_getElem _⟩
  have hkl : (k : Int) < (A.length : Int) := by omega
  obtain ⟨g, off, u, rfl, A0, hu⟩ := I1.out.at hxs
  have A0w : Hid (w.cell? ⟨g, off + k, Option.none⟩ = some u) := by
    obtain ⟨g', off', u', e, c, _⟩ := HI.out.at hxs
    injection e with e
    injection e with e1 e2
    subst e1; subst e2
    have := keeps P1.out.b c
    rw [A0] at this
    show w.cell? ⟨g, off + k, Option.none⟩ = some u
    rw [c, this]
  have hxl := hAi xs (List.mem_of_getElem? hxs)
  have Hu := Lib.hid hu
  obtain ⟨pa, qa, rfl⟩ := hu.shape
  by_cases h3 : (m : Int) ≥ (xs.length : Int)
  · have hr : Hid (inA ts A s (m : Int) = none) := show inA ts A s (m : Int) = none by
      rw [inA, HV.out, if_neg h0, if_neg h2, Int.toNat_natCast, Int.toNat_natCast, hxs]
      exact List.getElem?_eq_none (by omega)
    clear hxs hu
    go_wp2
    go_ret
    exact ⟨.inl ⟨hr.out, rfl⟩, P1.out.b⟩
  obtain ⟨x, hx⟩ : ∃ x, xs[m]? = some x := ⟨xs[m]'(by omega), List.getElem?_eq_getElem _⟩
  have hml : (m : Int) < (xs.length : Int) := by omega
  obtain ⟨g2, off2, rfl, B0⟩ := Hu.out.at hx
  have hr : Hid (inA ts A s (m : Int) = some x) := show inA ts A s (m : Int) = some x by
    rw [inA, HV.out, if_neg h0, if_neg h2, Int.toNat_natCast, Int.toNat_natCast, hxs]
    exact hx
  have B0w : Hid (w.cell? ⟨g2, off2 + m, Option.none⟩ = some (.int .i64 x)) := by
    obtain ⟨g', off', u', e, c, hu'⟩ := HI.out.at hxs
    injection e with e
    injection e with e1 e2
    subst e1; subst e2
    have e3 : some u' = some _ := c.symm.trans A0w.out
    injection e3 with e3
    subst e3
    obtain ⟨g3, off3, e4, c4⟩ := hu'.at hx
    injection e4 with e4
    injection e4 with e5 e6
    subst e5; subst e6
    exact c4
  clear hxs hx hu
  go_wp2
  go_ret
  exact ⟨.inr ⟨x, _, hr.out, rfl, ⟨k, m, g, off, _, _, g2, off2, _, _, HV.out, rfl, rfl, A0w.out, rfl, B0w.out⟩⟩, P1.out.b⟩
end Go.Proofs.YtcafpaahbbachabGreat
/-
  The contracts of sameTop, partsOf.
-/
namespace Go.Proofs.YtcafpaahbbachabGreat
open Go.RowKit Go.Lib
set_option linter.unusedSimpArgs false
set_option linter.unusedVariables false

set_option maxHeartbeats 1000000 in
set_option maxRecDepth 100000 in
theorem sameTop_is (x y : X) (va vb : Value) (w : World) :
    Calls Tryz.prog 171 #[.agg (xcells x va).toArray, .agg (xcells y vb).toArray] w fun e w' => e = .returned (.bool (hsame x.h y.h)) ∧ Below w.heap.size w w' := by
  obtain ⟨⟨xk, xn, xs⟩, xl⟩ := x
  obtain ⟨⟨yk, yn, ys⟩, yl⟩ := y
  show Calls Tryz.prog 171 #[.agg #[.int .i64 xk, .int .i64 xn, .string xs, va], .agg #[.int .i64 yk, .int .i64 yn, .string ys, vb]] w _
  have hB : Hid (∀ a b, Below w.heap.size w ((w.alloc a).alloc b)) := fun a b => (alloc_below w a).alloc (by simp) b
  by_cases hk : xk = yk
  case neg =>
    have hf : Hid (hsame ⟨xk, xn, xs⟩ ⟨yk, yn, ys⟩ = false) := show hsame _ _ = false by simp [hsame, hk]
    have h1 := int_ne hk
    go_enter Tryz.func171, Tryz.ntmps171
    go_wp2
    go_ret
    exact retB hf.out (hB.out _ _)
  by_cases hn : xn = yn
  case neg =>
    have hf : Hid (hsame ⟨xk, xn, xs⟩ ⟨yk, yn, ys⟩ = false) := show hsame _ _ = false by simp [hsame, hn]
    have h1 := int_ne hn
    subst hk
    go_enter Tryz.func171, Tryz.ntmps171
    go_wp2
    go_ret
    exact retB hf.out (hB.out _ _)
  by_cases hs : xs = ys
  case neg =>
    have hf : Hid (hsame ⟨xk, xn, xs⟩ ⟨yk, yn, ys⟩ = false) := show hsame _ _ = false by simp [hsame, hs]
    have h1 := str_ne hs
    subst hk
    subst hn
    clear hs
    go_enter Tryz.func171, Tryz.ntmps171
    go_wp2
    go_ret
    exact retB hf.out (hB.out _ _)
  subst hk
  subst hn
  subst hs
  have hf : Hid (hsame ⟨xk, xn, xs⟩ ⟨xk, xn, xs⟩ = true) := show hsame _ _ = true by simp [hsame]
  go_enter Tryz.func171, Tryz.ntmps171
  go_wp2
  go_ret
  exact retB hf.out (hB.out _ _)
end Go.Proofs.YtcafpaahbbachabGreat
