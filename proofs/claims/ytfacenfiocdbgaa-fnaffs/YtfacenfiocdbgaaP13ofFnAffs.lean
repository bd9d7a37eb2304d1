/-
  Texts in one: NamePut, AffLess.
-/
import Derived.Test.YtfacenfiocdbgaaP09ofFnAffs
import Derived.Test.YtfacenfiocdbgaaP05ofFnAffs
import Derived.Test.YtfacenfiocdbgaaP12ofFnAffs
import Derived.Test.YtfacenfiocdbgaaP11ofFnAffs
import Derived.Test.YtfacenfiocdbgaaP08ofFnAffs
import Derived.Deep.QuietTactic
import Derived.BigQuiet
/-
  The contracts of the specification's l4Put, l4Names, VarsOf, LoopVars: names in order.
-/
namespace Go.Proofs.Ytfacenfiocdbgaa
open Go.RowKit Go.Lib
set_option linter.unusedSimpArgs false
set_option linter.unusedVariables false

/-- A slice that holds these names, at lo or above. -/
def TV (w : World) (lo : Nat) (v : Value) (ns : List ByteArray) : Prop :=
  ∃ ao cap, v = .slice ao ns.length cap ∧ (ns = [] ∨ ∃ g off, ao = some ⟨g, off, Option.none⟩ ∧ lo ≤ g ∧ g < w.heap.size ∧ ∀ i t, ns[i]? = some t → w.cell? ⟨g, off + i, Option.none⟩ = some (.string t))
theorem TV.same {w w' : World} {lo lo' : Nat} {v : Value} {ns : List ByteArray} (hlo : lo' ≤ lo) (h : TV w lo v ns) (hk : Keeps lo w w') (hz : w.heap.size ≤ w'.heap.size) : TV w' lo' v ns := by
  obtain ⟨ao, cap, hv, h⟩ := h
  refine ⟨ao, cap, hv, ?_⟩
  rcases h with h | ⟨g, off, h1, h0, h2, h3⟩
  · exact .inl h
  · exact .inr ⟨g, off, h1, Nat.le_trans hlo h0, Nat.lt_of_lt_of_le h2 hz, fun i t hi => hk _ _ h0 (h3 i t hi)⟩
theorem TV.later {w w' : World} {lo : Nat} {v : Value} {ns : List ByteArray} (h : TV w lo v ns) (hb : Below w.heap.size w w') : TV w' lo v ns := h.same (Nat.le_refl _) (Keeps.later hb) hb.size
theorem TV.low {w : World} {lo : Nat} {v : Value} {ns : List ByteArray} (h : TV w lo v ns) : TV w 0 v ns := h.same (Nat.zero_le _) (Keeps.refl _ _) (Nat.le_refl _)
theorem TV.shape {w : World} {lo : Nat} {v : Value} {ns : List ByteArray} (h : TV w lo v ns) : ∃ a c, v = .slice a ns.length c := by obtain ⟨a, c, h1, _⟩ := h; exact ⟨a, c, h1⟩
theorem TV.of {w : World} {B : Nat} {v : Value} {ns : List ByteArray} (h : w.ownsRow B 9 1 v ns.length (ns.map Value.string)) : TV w B v ns := by
  rcases h.2 with ⟨h0, h1⟩ | ⟨g, cap, cur, h1, h2, h3, h4⟩
  · exact ⟨Option.none, 0, by rw [h1]; exact h0, .inl (List.length_eq_zero_iff.1 h1)⟩
  · refine ⟨_, cap, h1, .inr ⟨g, 0, rfl, h2, lt_heap h3, fun i t hi => ?_⟩⟩
    have hc := h.cells (g := g) (by rw [h1]; rfl) i (.string t) (by rw [List.getElem?_map, hi]; rfl)
    have e : (⟨g, 0, Option.none⟩ : Addr).add i = ⟨g, i, Option.none⟩ := by simp [Addr.add]; omega
    rw [e] at hc
    rw [Nat.zero_add]; exact hc
theorem infoStr : (Try.prog.info? 9).map (fun i => (i.zero, i.size, i.bytes)) = some (some (.string ⟨#[]⟩), 1, 16) := by kernel_rfl
theorem newT (w : World) (u : Value) (t : TypeId) : ∀ j x, [u][j]? = some x → (w.alloc (.cells #[u] t)).cell? ((⟨w.heap.size, 0, Option.none⟩ : Addr).add j) = some x := new1 w u t
/-- One name more. -/
theorem snocT {w w5 w6 : World} {os : List ByteArray} {t v' : Value} {x : ByteArray} {o : Obj} (hown : w5.ownsRow w.heap.size 9 1 t os.length (os.map Value.string)) (hb : Below w.heap.size w w5) (hg : (w5.alloc o).grownBy w6 t.ownBlock)
    (h : w6.ownsRow w.heap.size 9 1 v' (os.length + 1) (os.map Value.string ++ [.string x])) : w6.ownsRow w.heap.size 9 1 v' (os ++ [x]).length ((os ++ [x]).map Value.string) ∧ Below w.heap.size w w6 :=
  ⟨by rw [List.length_append, List.map_append]; exact h, (hb.alloc hb.size o).grown hg (by have := hb.size; simp; omega) (fun k hk => (hown.lt k hk).1)⟩
theorem ownShape {w : World} {B sz n : Nat} {e : TypeId} {v : Value} {xs : List Value} (h : w.ownsRow B e sz v n xs) : ∃ a c, v = .slice a n c := by
  rcases h.2 with ⟨h1, h0⟩ | ⟨g, cap, cur, h1, _⟩
  · exact ⟨_, _, by rw [h0]; exact h1⟩
  · exact ⟨_, _, h1⟩
theorem putR_x {s x : ByteArray} {r : List ByteArray} (d : Bool) (hd : d = true ∨ blt x s = true) (hx : ¬ x = s) : putR s d (x :: r) = x :: putR s d r := by
  cases d with
  | true => rw [putR, if_neg hx]
  | false => rcases hd with h | h
             · cases h
             · rw [putR, if_pos h, if_neg hx]
theorem putR_same {s : ByteArray} {r : List ByteArray} : putR s true (s :: r) = putR s true r := by rw [putR, if_pos rfl]
theorem putR_s {s x : ByteArray} {r : List ByteArray} (h : blt x s = false) : putR s false (x :: r) = s :: putR s true (x :: r) := by
  simp only [putR, h]; simp
set_option maxHeartbeats 2000000 in
set_option maxRecDepth 100000 in
theorem l4Put_is (ns : List ByteArray) (hn : ns.length ≤ 10000000) (s : ByteArray) (v : Value) (w : World) (hv : TV w 0 v ns) :
    Calls Try.prog 69 #[v, .string s] w fun e w' => ∃ v', e = .returned v' ∧ TV w' w.heap.size v' (putR s false ns) ∧ Below w.heap.size w w' := by
  obtain ⟨i0, hi0, hz0, hz1, hz2⟩ := info_parts infoStr
  obtain ⟨ao, cap, rfl, hr⟩ := hv
  have Hr := Lib.hid hr
  clear hr
  have hnI : (ns.length : Int) ≤ 10000000 := by omega
  go_enter Try.func69, Try.ntmps69
  go_wp2
  go_loopw [5, 6, 7] (fun out d i wr => ∃ (k : Nat) (dn : Bool) (os : List ByteArray), k ≤ ns.length ∧ i = .int .i64 k ∧ d = .bool dn ∧ Hid (os ++ putR s dn (ns.drop k) = putR s false ns ∧ os.length ≤ k + 1 ∧ (dn = false → os.length ≤ k)) ∧ wr.ownsRow w.heap.size 9 1 out os.length (os.map Value.string) ∧ Below w.heap.size w wr) (fun _ _ i _ => ns.length - (RowKit.intOf i).toNat)
  case atStart =>
    exact ⟨0, false, [], by omega, rfl, rfl, ⟨by simp, by simp, fun _ => by simp⟩, ⟨rfl, .inr ⟨w.heap.size, 0, #[], rfl, Nat.le_refl _, (by show (w.heap.push _)[w.heap.size]? = _; simp), Nat.le_refl _, (by unfold maxLen; omega), rfl, rfl⟩⟩, alloc_below _ _⟩
  case round =>
    obtain ⟨k, dn, os, hk, rfl, rfl, hg, hown, hbr⟩ := hrel
    obtain ⟨g1, g2, g3⟩ := hg.out
    obtain ⟨oa, oc, rfl⟩ := ownShape hown
    have hol : (os.length : Int) ≤ 10000001 := by omega
    by_cases hlt : k < ns.length
    · have hltI : (k : Int) < (ns.length : Int) := by omega
      obtain ⟨x, hx⟩ : ∃ x, ns[k]? = some x := ⟨ns[k], List.getElem?_eq_getElem hlt⟩
      rcases Hr.out with hr | ⟨g, off, rfl, _, gl, hc⟩
      · subst hr; simp at hlt
      have hsz := hbr.size
      have AW := Lib.hid (hc k x hx)
      have A0 := (hbr.cell (p := ⟨g, off + k, Option.none⟩) gl).trans AW.out
      have hd : ns.drop k = x :: ns.drop (k + 1) := by rw [List.drop_eq_getElem_cons hlt]; congr 1; rw [List.getElem?_eq_getElem hlt] at hx; injection hx
      rw [hd] at g1
      clear hc hx Hr hd hg
      by_cases hdb : dn = true ∨ blt x s = true
      · have G3 : Hid (dn = false → os.length ≤ k) := g3
        by_cases he : x = s
        · have hdn : dn = true := hdb.resolve_right (fun h => by rw [he, blt_irrefl] at h; cases h)
          subst hdn
          subst he
          rw [putR_same] at g1
          have G := Lib.hid (And.intro g1 g2)
          clear g1 g2 g3 hdb
          go_wp2
          go_roundw
          case rel => exact ⟨k + 1, true, os, by omega, by go_num, rfl, ⟨G.out.1, by have := G.out.2; omega, fun h => by cases h⟩, hown, hbr⟩
          case measure => simp [RowKit.intOf]; omega
        · rw [putR_x dn hdb he] at g1
          have G := Lib.hid (And.intro g1 g2)
          have hne := str_ne he
          have hcs : dn = true ∨ (dn = false ∧ Op.bytesLess x.toList s.toList = true) := by
            cases dn with
            | true => exact .inl rfl
            | false => exact .inr ⟨rfl, hdb.resolve_left (by simp)⟩
          clear g1 g2 g3 hdb he
          rcases hcs with rfl | ⟨rfl, hls⟩
          · go_wp2_with (at_builtin; refine wpList_append_own _ rfl _ _ 34 rfl w.heap.size 9 i0 _ 1 16 Try.underlying34 hi0 hz0 hz1 hz2 rfl (by decide) _ _ _ rfl (hown.alloc _) ⟨wr.heap.size, 0, Option.none⟩ 1 1 [.string x] rfl rfl (newT _ _ _) ?cb2 ?cb3 ?cb4 ?cb5 ?_)
            case cb2 => first | rfl | (intro x hx; simp only [List.mem_cons, List.not_mem_nil, or_false] at hx; subst hx; rfl)
            case cb3 => unfold maxLen; omega
            case cb4 => omega
            case cb5 => first | omega | (simp; omega)
            intro v' w6 hown' hgrow _
            obtain ⟨n1, n2⟩ := snocT hown hbr hgrow hown'
            clear hown' hgrow hown hbr A0
            go_wp2
            go_roundw
            case rel => exact ⟨k + 1, true, os ++ [x], by omega, by go_num, rfl, ⟨by rw [List.append_assoc]; exact G.out.1, by have := G.out.2; simp; omega, fun h => by cases h⟩, n1, n2⟩
            case measure => simp [RowKit.intOf]; omega
          · go_wp2_with (at_builtin; refine wpList_append_own _ rfl _ _ 34 rfl w.heap.size 9 i0 _ 1 16 Try.underlying34 hi0 hz0 hz1 hz2 rfl (by decide) _ _ _ rfl (hown.alloc _) ⟨wr.heap.size, 0, Option.none⟩ 1 1 [.string x] rfl rfl (newT _ _ _) ?cc2 ?cc3 ?cc4 ?cc5 ?_)
            case cc2 => first | rfl | (intro x hx; simp only [List.mem_cons, List.not_mem_nil, or_false] at hx; subst hx; rfl)
            case cc3 => unfold maxLen; omega
            case cc4 => omega
            case cc5 => first | omega | (simp; omega)
            intro v' w6 hown' hgrow _
            obtain ⟨n1, n2⟩ := snocT hown hbr hgrow hown'
            clear hown' hgrow hown hbr A0
            go_wp2
            go_roundw
            case rel => exact ⟨k + 1, false, os ++ [x], by omega, by go_num, rfl, ⟨by rw [List.append_assoc]; exact G.out.1, by have := G.out.2; simp; omega, fun _ => by have := G3.out (by simp); simp; omega⟩, n1, n2⟩
            case measure => simp [RowKit.intOf]; omega
      · have hdn : dn = false := by cases dn with | false => rfl | true => exact absurd (.inl rfl) hdb
        subst hdn
        have hbl : blt x s = false := by cases h : blt x s with | false => rfl | true => exact absurd (.inr h) hdb
        have hls : Op.bytesLess x.toList s.toList = false := hbl
        rw [putR_s hbl] at g1
        have g4 := g3 rfl
        clear hdb hbl g3
        by_cases he : x = s
        · subst he
          rw [putR_same] at g1
          have G := Lib.hid (And.intro g1 g4)
          clear g1 g2 g4
          go_wp2_with (at_builtin; refine wpList_append_own _ rfl _ _ 34 rfl w.heap.size 9 i0 _ 1 16 Try.underlying34 hi0 hz0 hz1 hz2 rfl (by decide) _ _ _ rfl (hown.alloc _) ⟨wr.heap.size, 0, Option.none⟩ 1 1 [.string x] rfl rfl (newT _ _ _) ?ce2 ?ce3 ?ce4 ?ce5 ?_)
          case ce2 => first | rfl | (intro x hx; simp only [List.mem_cons, List.not_mem_nil, or_false] at hx; subst hx; rfl)
          case ce3 => unfold maxLen; omega
          case ce4 => omega
          case ce5 => first | omega | (simp; omega)
          intro v' w6 hown' hgrow _
          obtain ⟨n1, n2⟩ := snocT hown hbr hgrow hown'
          have A6 := (n2.cell (p := ⟨g, off + k, Option.none⟩) gl).trans AW.out
          clear hown' hgrow hown hbr A0
          go_wp2
          go_roundw
          case rel => exact ⟨k + 1, true, os ++ [x], by omega, by go_num, rfl, ⟨by rw [List.append_assoc]; exact G.out.1, by have := G.out.2; simp; omega, fun h => by cases h⟩, n1, n2⟩
          case measure => simp [RowKit.intOf]; omega
        · have hne := str_ne he
          rw [putR_x true (.inl rfl) he] at g1
          have G := Lib.hid (And.intro g1 g4)
          clear g1 g2 he g4
          go_wp2_with (at_builtin; refine wpList_append_own _ rfl _ _ 34 rfl w.heap.size 9 i0 _ 1 16 Try.underlying34 hi0 hz0 hz1 hz2 rfl (by decide) _ _ _ rfl (hown.alloc _) ⟨wr.heap.size, 0, Option.none⟩ 1 1 [.string s] rfl rfl (newT _ _ _) ?cg2 ?cg3 ?cg4 ?cg5 ?_)
          case cg2 => first | rfl | (intro x hx; simp only [List.mem_cons, List.not_mem_nil, or_false] at hx; subst hx; rfl)
          case cg3 => unfold maxLen; omega
          case cg4 => omega
          case cg5 => first | omega | (simp; omega)
          intro v' w6 hown' hgrow _
          obtain ⟨n1, n2⟩ := snocT hown hbr hgrow hown'
          have A6 := (n2.cell (p := ⟨g, off + k, Option.none⟩) gl).trans AW.out
          have hs6 := n2.size
          obtain ⟨va, vc, rfl⟩ := ownShape n1
          have hol6 : ((os ++ [s]).length : Int) ≤ 10000002 := by simp; omega
          clear hown' hgrow hown hbr A0
          go_wp2_with (at_builtin; refine wpList_append_own _ rfl _ _ 34 rfl w.heap.size 9 i0 _ 1 16 Try.underlying34 hi0 hz0 hz1 hz2 rfl (by decide) _ _ _ rfl (n1.alloc _) ⟨w6.heap.size, 0, Option.none⟩ 1 1 [.string x] rfl rfl (newT _ _ _) ?cd2 ?cd3 ?cd4 ?cd5 ?_)
          case cd2 => first | rfl | (intro x hx; simp only [List.mem_cons, List.not_mem_nil, or_false] at hx; subst hx; rfl)
          case cd3 => unfold maxLen; omega
          case cd4 => omega
          case cd5 => first | omega | (simp; omega)
          intro v'' w7 hown'' hgrow2 _
          obtain ⟨m1, m2⟩ := snocT n1 n2 (o := .cells #[.string x] 9) (by simpa using hgrow2) (show w7.ownsRow w.heap.size 9 1 v'' ((os ++ [s]).length + 1) ((os ++ [s]).map Value.string ++ [.string x]) by simpa using hown'')
          clear hown'' hgrow2 n1 n2 A6
          go_wp2
          go_roundw
          case rel => exact ⟨k + 1, true, os ++ [s] ++ [x], by omega, by go_num, rfl, ⟨by rw [List.append_assoc, List.append_assoc]; exact G.out.1, by have := G.out.2; simp; omega, fun h => by cases h⟩, m1, m2⟩
          case measure => simp [RowKit.intOf]; omega
    · have hkk : ns.drop k = [] := List.drop_of_length_le (by omega)
      rw [hkk] at g1
      cases dn with
      | true =>
        have G := Lib.hid (show os = putR s false ns by simpa [putR] using g1)
        clear g1 hg
        go_wp2
        go_ret
        exact ⟨_, rfl, by rw [← G.out]; exact TV.of hown, hbr⟩
      | false =>
        have G := Lib.hid (show os ++ [s] = putR s false ns by simpa [putR] using g1)
        have hsz := hbr.size
        clear g1 hg
        go_wp2_with (at_builtin; refine wpList_append_own _ rfl _ _ 34 rfl w.heap.size 9 i0 _ 1 16 Try.underlying34 hi0 hz0 hz1 hz2 rfl (by decide) _ _ _ rfl (hown.alloc _) ⟨wr.heap.size, 0, Option.none⟩ 1 1 [.string s] rfl rfl (newT _ _ _) ?cf2 ?cf3 ?cf4 ?cf5 ?_)
        case cf2 => first | rfl | (intro x hx; simp only [List.mem_cons, List.not_mem_nil, or_false] at hx; subst hx; rfl)
        case cf3 => unfold maxLen; omega
        case cf4 => omega
        case cf5 => first | omega | (simp; omega)
        intro v' w6 hown' hgrow _
        obtain ⟨n1, n2⟩ := snocT hown hbr hgrow hown'
        clear hown' hgrow hown hbr
        go_wp2
        go_ret
        exact ⟨_, rfl, by rw [← G.out]; exact TV.of n1, n2⟩
end Go.Proofs.Ytfacenfiocdbgaa
/-
  The contract of termsLess (under way).
-/
namespace Go.Proofs.Ytfacenfiocdbgaa
open Go.RowKit Go.Lib
set_option linter.unusedSimpArgs false
set_option linter.unusedVariables false

theorem less8_one (f : Nat) (l m : List AR) (h : l = [] ∨ m = []) : less8 f l m = l ++ m.map negT8 := by
  rcases h with h | h
  · subst h
    cases m with
    | nil => cases f <;> rfl
    | cons u m => cases f <;> simp [less8]
  · subst h
    cases f <;> cases l <;> simp [less8]
theorem AV.tail8 {w : World} {g off c c' : Nat} {t : AR} {l : List AR} (h : AV w 0 (.slice (some ⟨g, off, Option.none⟩) (l.length + 1) c) (t :: l)) : AV w 0 (.slice (some ⟨g, off + 2, Option.none⟩) l.length c') l := by
  obtain ⟨ao, cap, e, h⟩ := h
  injection e with e1 e2 e3
  subst e1
  rcases h with h | ⟨g', off', e4, e5, e6, e7⟩
  · cases h
  · injection e4 with e4
    injection e4 with e4 e8 e9
    subst e4; subst e8
    exact ⟨_, c', rfl, .inr ⟨g, off + 2, rfl, e5, e6, fun i u hi => by
      have := e7 (i + 1) u (by simpa using hi)
      rwa [show off + (i + 1) * 2 = off + 2 + i * 2 by omega] at this⟩⟩
theorem AV.head8 {w : World} {a : Option Addr} {n c : Nat} {t : AR} {l : List AR} (h : AV w 0 (.slice a n c) (t :: l)) : ∃ g off, a = some ⟨g, off, Option.none⟩ ∧ n = l.length + 1 ∧ g < w.heap.size ∧ w.cell? ⟨g, off, Option.none⟩ = some (.string t.s) ∧ w.cell? ⟨g, off + 1, Option.none⟩ = some (.int .i64 t.n) := by
  obtain ⟨ao, cap, e, h⟩ := h
  injection e with e1 e2 e3
  subst e1
  rcases h with h | ⟨g, off, e4, e5, e6, e7⟩
  · cases h
  · have := e7 0 t rfl
    exact ⟨g, off, e4, by simpa using e2, e6, by simpa using this.1, by simpa using this.2⟩
theorem own_later8 {w w' : World} {B sz n : Nat} {e : TypeId} {v : Value} {xs : List Value} (h : w.ownsRow B e sz v n xs) (hk : ∀ g c, B ≤ g → w.heap[g]? = some (.cells c e (0, 0)) → w'.heap[g]? = w.heap[g]?) : w'.ownsRow B e sz v n xs := by
  refine ⟨h.1, ?_⟩
  rcases h.2 with h0 | ⟨g, cap, cur, h1, h2, h3, h4⟩
  · exact .inl h0
  · exact .inr ⟨g, cap, cur, h1, h2, (hk g cur h2 h3).trans h3, h4⟩
theorem lt_of_heap {w : World} {g : Nat} {o : Obj} (h : w.heap[g]? = some o) : g < w.heap.size := (Array.getElem?_eq_some_iff.1 h).1
theorem own_below8 {w w' : World} {B sz n : Nat} {e : TypeId} {v : Value} {xs : List Value} (h : w.ownsRow B e sz v n xs) (hb : Below w.heap.size w w') : w'.ownsRow B e sz v n xs :=
  own_later8 h fun g _ _ hg => hb.block g (lt_of_heap hg)
def Cap8 (v : Value) : Prop := ∀ a n c, v = .slice a n c → n ≤ c
theorem AV.tail9 {w : World} {g off c : Nat} {t : AR} {l : List AR} (h : AV w 0 (.slice (some ⟨g, off, Option.none⟩) (l.length + 1) c) (t :: l)) (hc : l.length + 1 ≤ c) :
    AV w 0 (.slice (if c = 1 then some ⟨g, off, Option.none⟩ else some ⟨g, off + 2, Option.none⟩) l.length (c - 1)) l ∧ Cap8 (.slice (if c = 1 then some ⟨g, off, Option.none⟩ else some ⟨g, off + 2, Option.none⟩) l.length (c - 1)) := by
  refine ⟨?_, fun a n c' e => by injection e with e1 e2 e3; omega⟩
  by_cases h1 : c = 1
  · have h2 : l = [] := List.length_eq_zero_iff.1 (by omega)
    subst h2
    exact ⟨_, _, rfl, .inl rfl⟩
  · rw [if_neg h1]
    exact AV.tail8 h
def lenV8 : Value → Nat
  | .slice _ n _ => n
  | _ => 0
theorem new2T (w : World) (u v : Value) (t : TypeId) : ∀ j x, [u, v][j]? = some x → (w.alloc (.cells #[u, v] t)).cell? ((⟨w.heap.size, 0, Option.none⟩ : Addr).add j) = some x := by
  intro j x h
  obtain ⟨⟨c0, c1⟩, _⟩ := blk2 (heap_last w (.cells #[u, v] t))
  match j, h with
  | 0, h =>
    have e0 : (⟨w.heap.size, 0, Option.none⟩ : Addr).add 0 = ⟨w.heap.size, 0, Option.none⟩ := by simp [Addr.add]
    rw [e0, c0]; simpa using h
  | 1, h =>
    have e0 : (⟨w.heap.size, 0, Option.none⟩ : Addr).add 1 = ⟨w.heap.size, 1, Option.none⟩ := by simp [Addr.add]
    rw [e0, c1]; simpa using h
/-- One term more. -/
theorem snocT8 {w w5 w6 : World} {os : List AR} {v v' : Value} {t : AR} {o : Obj} (hown : w5.ownsRow w.heap.size 59 2 v os.length (acells os)) (hb : Below w.heap.size w w5) (hg : (w5.alloc o).grownBy w6 v.ownBlock)
    (h : w6.ownsRow w.heap.size 59 2 v' (os.length + 1) (acells os ++ [.string t.s, .int .i64 t.n])) : w6.ownsRow w.heap.size 59 2 v' (os ++ [t]).length (acells (os ++ [t])) ∧ Below w.heap.size w w6 :=
  ⟨by rw [List.length_append, acells_snoc]; exact h, (hb.alloc hb.size o).grown hg (by have := hb.size; simp; omega) (fun k hk => (hown.lt k hk).1)⟩
theorem heap2t (w : World) (a b : Obj) : ((w.alloc a).alloc b).heap[w.heap.size]? = some a ∧ ((w.alloc a).alloc b).heap[w.heap.size + 1]? = some b := by
  have h := heap_last (w.alloc a) b
  rw [World.size_alloc] at h
  exact ⟨by rw [Below.heap_alloc _ _ _ (by simp)]; exact heap_last _ _, h⟩
theorem belowL8 {B : Nat} {w w' : World} (h : Below B w w') (n : Nat) : Below B w (w'.drewN n) := ⟨h.os, h.tape, h.output, h.size, h.block⟩
def NmB8 (l : List AR) : Prop := ∀ t ∈ l, t.s.size ≤ 281474976710656
set_option maxHeartbeats 4000000 in
set_option maxRecDepth 100000 in
theorem termsLess_is (l m : List AR) (hl : l.length ≤ 4000000) (hm : m.length ≤ 4000000) (nl : NmB8 l) (nm : NmB8 m) (va vb : Value) (w : World) (ha : AV w 0 va l) (hb : AV w 0 vb m) (hca : Cap8 va) (hcb : Cap8 vb) :
    Calls Try.prog 34 #[va, vb] w fun e w' => ∃ v', e = .returned v' ∧ w'.ownsRow w.heap.size 59 2 v' (less8 (l.length + m.length) l m).length (acells (less8 (l.length + m.length) l m)) ∧ Below w.heap.size w w' := by
  obtain ⟨i0, hi0, hz0, hz1, hz2⟩ := info_parts infoIT8
  have HA := Lib.hid (And.intro ha (And.intro hb (And.intro hca hcb)))
  have HN := Lib.hid (And.intro nl nm)
  clear ha hb nl nm hca hcb
  go_enter Try.func34, Try.ntmps34
  go_wp2
  go_loopw [0, 1, 5] (fun x y z wr => ∃ (f : Nat) (l' m' os : List AR), Hid (l'.length + m'.length ≤ f ∧ os ++ less8 f l' m' = less8 (l.length + m.length) l m ∧ os.length + l'.length + m'.length ≤ l.length + m.length ∧ NmB8 l' ∧ NmB8 m') ∧ Hid (AV w 0 x l' ∧ AV w 0 y m' ∧ Cap8 x ∧ Cap8 y) ∧ wr.ownsRow w.heap.size 59 2 z os.length (acells os) ∧ Below w.heap.size w wr) (fun x y _ _ => lenV8 x + lenV8 y)
  case atStart =>
    exact ⟨l.length + m.length, l, m, [], ⟨Nat.le_refl _, rfl, by simp, HN.out⟩, HA, ⟨rfl, .inr ⟨w.heap.size, 0, #[], rfl, Nat.le_refl _, (by show (w.heap.push _)[w.heap.size]? = _; simp), Nat.le_refl _, (by unfold maxLen; omega), rfl, rfl⟩⟩, alloc_below _ _⟩
  case round =>
    obtain ⟨f, l', m', os, hf, hv, hown, hbr⟩ := hrel
    obtain ⟨a1, c1, e1⟩ := hv.out.1.shape
    obtain ⟨a2, c2, e2⟩ := hv.out.2.1.shape
    subst e1; subst e2
    obtain ⟨oa, oc, rfl⟩ := ownShape hown
    have hcnt := hf.out.2.2.1
    have hol : (os.length : Int) ≤ 8000000 := by omega
    by_cases hend : l' = [] ∨ m' = []
    · have hend2 : l' = [] ∨ (l' ≠ [] ∧ m' = []) := by
        by_cases h : l' = []
        · exact .inl h
        · exact .inr ⟨h, hend.resolve_left h⟩
      rcases hend2 with h0 | h0
      · have g1 : (l'.length : Int) = 0 := by rw [h0]; rfl
        have g2 : ¬ (0 : Int) < (l'.length : Int) := by omega
        have g3 : decide (0 < l'.length) = false := decide_eq_false (by omega)
        clear g1 h0
        have hlI : (l'.length : Int) ≤ 8000000 := by omega
        have hmI : (m'.length : Int) ≤ 8000000 := by omega
        have HR : Hid (os ++ l' ++ m'.map negT8 = less8 (l.length + m.length) l m) := show _ = _ by rw [← hf.out.2.1, less8_one f l' m' hend, List.append_assoc]
        have HNB := Lib.hid hf.out.2.2.2
        have HCN : Hid (os.length + l'.length + m'.length ≤ 8000000) := show _ ≤ _ by have := hf.out.2.2.1; omega
        have HB1 := Lib.hid hbr
        have HO := Lib.hid hown
        clear hend hf hown hbr hcnt hol
        go_wp2
        clear g2 g3
        go_loopw [5, 85] (fun z i wr => ∃ (k : Nat) (X : List AR), k ≤ l'.length ∧ i = .int .i64 (k : Int) ∧ Hid (X = os ++ l'.take k) ∧ Hid (wr.ownsRow w.heap.size 59 2 z X.length (acells X)) ∧ Below w.heap.size w wr) (fun _ i _ => l'.length - (RowKit.intOf i).toNat)
        case atStart => exact ⟨0, os, by omega, rfl, (by show os = os ++ l'.take 0; simp), HO, HB1.out⟩
        case round =>
          obtain ⟨k, X, hk, rfl, HX, HO2, hbr⟩ := hrel
          clear HO HB1
          by_cases hlt : k < l'.length
          · have hltI : (k : Int) < (l'.length : Int) := by omega
            obtain ⟨t, ht⟩ : ∃ t, l'[k]? = some t := ⟨l'[k], List.getElem?_eq_getElem hlt⟩
            obtain ⟨ao, cap, e, hr⟩ := hv.out.1
            injection e with e1 e2 e3
            subst e1; subst e3
            rcases hr with hr | ⟨g, off, rfl, _, gl, hc⟩
            · subst hr; simp at hlt
            have A0 := (hbr.cell (p := ⟨g, off + k * 2, Option.none⟩) gl).trans (hc k t ht).1
            have A1 := (hbr.cell (p := ⟨g, off + k * 2 + 1, Option.none⟩) gl).trans (hc k t ht).2
            have hnb := HNB.out.1 t (List.mem_of_getElem? ht)
            have HT : Hid (X ++ [t] = os ++ l'.take (k + 1)) := show _ = _ by rw [HX.out, List.append_assoc, take_snocA ht]
            have HL : Hid (X.length ≤ 8000000) := show _ ≤ _ by have := HCN.out; rw [HX.out, List.length_append, List.length_take]; omega
            clear hc ht
            go_wp2_with fail
            refine (termOf_is t.s hnb t.n _).mono ?_
            rintro e w2 ⟨rfl, hb2⟩
            have hb3 := below_alloc hb2
            have HO3 := Lib.hid (own_below8 HO2.out hb3)
            have hbr2 := hbr.trans (hb3.mono hbr.size)
            have hol2 := HL.out
            have hsz := hbr2.size
            clear hb2 hb3 hbr A0 A1
            go_wp2_with (at_builtin; refine wpList_append_own _ rfl _ _ 24 rfl w.heap.size 59 i0 _ 2 24 Try.underlying24 hi0 hz0 hz1 hz2 rfl (by decide) _ _ _ rfl (HO3.out.alloc _) ⟨w2.heap.size, 0, Option.none⟩ 1 1 [.string t.s, .int .i64 t.n] rfl rfl (new2T _ _ _ _) ?bx2 ?bx3 ?bx4 ?bx5 ?_)
            case bx2 => intro x hx; simp only [List.mem_cons, List.not_mem_nil, or_false] at hx; rcases hx with rfl | rfl <;> rfl
            case bx3 => unfold maxLen; omega
            case bx4 => omega
            case bx5 => simp; omega
            intro v' w6 hown' hgrow _
            obtain ⟨n1, n2⟩ := snocT8 HO3.out hbr2 hgrow hown'
            have N1 := Lib.hid n1
            clear hown' hgrow hbr2 hsz hol2 n1
            go_wp2
            go_roundw
            case rel => exact ⟨k + 1, X ++ [t], by omega, by go_num, HT.out, N1.out, n2⟩
            case measure => simp [RowKit.intOf]; omega
          · have hkk : l'.take k = l' := List.take_of_length_le (by omega)
            have HX1 : Hid (X = os ++ l') := show X = _ by rw [HX.out, hkk]
            have HB1 := Lib.hid hbr
            clear hbr
            go_wp2
            go_loopw [5, 100] (fun z i wr => ∃ (k : Nat) (Y : List AR), k ≤ m'.length ∧ i = .int .i64 (k : Int) ∧ Hid (Y = os ++ l' ++ (m'.take k).map negT8) ∧ Hid (wr.ownsRow w.heap.size 59 2 z Y.length (acells Y)) ∧ Below w.heap.size w wr) (fun _ i _ => m'.length - (RowKit.intOf i).toNat)
            case atStart => exact ⟨0, X, by omega, rfl, (by show X = os ++ l' ++ (m'.take 0).map negT8; rw [HX1.out]; simp), HO2, HB1.out⟩
            case round =>
              obtain ⟨q, Y, hq, rfl, HY, HO4, hbr⟩ := hrel
              clear HO2 HB1
              by_cases hlt2 : q < m'.length
              · have hltI : (q : Int) < (m'.length : Int) := by omega
                obtain ⟨t, ht⟩ : ∃ t, m'[q]? = some t := ⟨m'[q], List.getElem?_eq_getElem hlt2⟩
                obtain ⟨ao, cap, e, hr⟩ := hv.out.2.1
                injection e with e1 e2 e3
                subst e1; subst e3
                rcases hr with hr | ⟨g, off, rfl, _, gl, hc⟩
                · subst hr; simp at hlt2
                have A0 := (hbr.cell (p := ⟨g, off + q * 2, Option.none⟩) gl).trans (hc q t ht).1
                have A1 := (hbr.cell (p := ⟨g, off + q * 2 + 1, Option.none⟩) gl).trans (hc q t ht).2
                have hnb := HNB.out.2 t (List.mem_of_getElem? ht)
                have HT : Hid (Y ++ [negT8 t] = os ++ l' ++ (m'.take (q + 1)).map negT8) := show _ = _ by rw [HY.out, take_snocA ht]; simp
                have HL : Hid (Y.length ≤ 8000000) := show _ ≤ _ by have := HCN.out; rw [HY.out]; simp only [List.length_append, List.length_map, List.length_take]; omega
                obtain ⟨nn, hnn⟩ : ∃ nn, IntKind.i64.wrap (-t.n) = nn := ⟨_, rfl⟩
                have HNN : Hid (negT8 t = ⟨t.s, nn⟩) := show negT8 t = _ by rw [negT8, hnn]
                clear hc ht
                go_wp2_with fail
                refine (termOf_is t.s hnb nn _).mono ?_
                rintro e w2 ⟨rfl, hb2⟩
                have hb3 := below_alloc hb2
                have HO5 := Lib.hid (own_below8 HO4.out hb3)
                have hbr2 := hbr.trans (hb3.mono hbr.size)
                have hol2 := HL.out
                have hsz := hbr2.size
                clear hb2 hb3 hbr A0 A1 hnn
                go_wp2_with (at_builtin; refine wpList_append_own _ rfl _ _ 24 rfl w.heap.size 59 i0 _ 2 24 Try.underlying24 hi0 hz0 hz1 hz2 rfl (by decide) _ _ _ rfl (HO5.out.alloc _) ⟨w2.heap.size, 0, Option.none⟩ 1 1 [.string t.s, .int .i64 nn] rfl rfl (new2T _ _ _ _) ?cx2 ?cx3 ?cx4 ?cx5 ?_)
                case cx2 => intro x hx; simp only [List.mem_cons, List.not_mem_nil, or_false] at hx; rcases hx with rfl | rfl <;> rfl
                case cx3 => unfold maxLen; omega
                case cx4 => omega
                case cx5 => simp; omega
                intro v' w6 hown' hgrow _
                obtain ⟨n1, n2⟩ := snocT8 (t := ⟨t.s, nn⟩) HO5.out hbr2 hgrow hown'
                rw [← HNN.out] at n1
                have N1 := Lib.hid n1
                clear hown' hgrow hbr2 hsz hol2 n1
                go_wp2
                go_roundw
                case rel => exact ⟨q + 1, Y ++ [negT8 t], by omega, by go_num, HT.out, N1.out, n2⟩
                case measure => simp [RowKit.intOf]; omega
              · have hqq : m'.take q = m' := List.take_of_length_le (by omega)
                have HY1 : Hid (Y = less8 (l.length + m.length) l m) := show Y = _ by rw [HY.out, hqq, HR.out]
                have HZ := Lib.hid (HY1.out ▸ HO4.out)
                go_wp2
                go_ret
                exact ⟨_, rfl, HZ.out, hbr⟩
      · have g1 : (m'.length : Int) = 0 := by rw [h0.2]; rfl
        have g4 : (0 : Int) < (l'.length : Int) := by have := List.length_pos_iff.2 h0.1; omega
        have g2 : ¬ (0 : Int) < (m'.length : Int) := by omega
        have g3 : decide (0 < m'.length) = false := decide_eq_false (by omega)
        clear g1 h0
        have hlI : (l'.length : Int) ≤ 8000000 := by omega
        have hmI : (m'.length : Int) ≤ 8000000 := by omega
        have HR : Hid (os ++ l' ++ m'.map negT8 = less8 (l.length + m.length) l m) := show _ = _ by rw [← hf.out.2.1, less8_one f l' m' hend, List.append_assoc]
        have HNB := Lib.hid hf.out.2.2.2
        have HCN : Hid (os.length + l'.length + m'.length ≤ 8000000) := show _ ≤ _ by have := hf.out.2.2.1; omega
        have HB1 := Lib.hid hbr
        have HO := Lib.hid hown
        clear hend hf hown hbr hcnt hol
        go_wp2
        clear g2 g3 g4
        go_loopw [5, 85] (fun z i wr => ∃ (k : Nat) (X : List AR), k ≤ l'.length ∧ i = .int .i64 (k : Int) ∧ Hid (X = os ++ l'.take k) ∧ Hid (wr.ownsRow w.heap.size 59 2 z X.length (acells X)) ∧ Below w.heap.size w wr) (fun _ i _ => l'.length - (RowKit.intOf i).toNat)
        case atStart => exact ⟨0, os, by omega, rfl, (by show os = os ++ l'.take 0; simp), HO, HB1.out⟩
        case round =>
          obtain ⟨k, X, hk, rfl, HX, HO2, hbr⟩ := hrel
          clear HO HB1
          by_cases hlt : k < l'.length
          · have hltI : (k : Int) < (l'.length : Int) := by omega
            obtain ⟨t, ht⟩ : ∃ t, l'[k]? = some t := ⟨l'[k], List.getElem?_eq_getElem hlt⟩
            obtain ⟨ao, cap, e, hr⟩ := hv.out.1
            injection e with e1 e2 e3
            subst e1; subst e3
            rcases hr with hr | ⟨g, off, rfl, _, gl, hc⟩
            · subst hr; simp at hlt
            have A0 := (hbr.cell (p := ⟨g, off + k * 2, Option.none⟩) gl).trans (hc k t ht).1
            have A1 := (hbr.cell (p := ⟨g, off + k * 2 + 1, Option.none⟩) gl).trans (hc k t ht).2
            have hnb := HNB.out.1 t (List.mem_of_getElem? ht)
            have HT : Hid (X ++ [t] = os ++ l'.take (k + 1)) := show _ = _ by rw [HX.out, List.append_assoc, take_snocA ht]
            have HL : Hid (X.length ≤ 8000000) := show _ ≤ _ by have := HCN.out; rw [HX.out, List.length_append, List.length_take]; omega
            clear hc ht
            go_wp2_with fail
            refine (termOf_is t.s hnb t.n _).mono ?_
            rintro e w2 ⟨rfl, hb2⟩
            have hb3 := below_alloc hb2
            have HO3 := Lib.hid (own_below8 HO2.out hb3)
            have hbr2 := hbr.trans (hb3.mono hbr.size)
            have hol2 := HL.out
            have hsz := hbr2.size
            clear hb2 hb3 hbr A0 A1
            go_wp2_with (at_builtin; refine wpList_append_own _ rfl _ _ 24 rfl w.heap.size 59 i0 _ 2 24 Try.underlying24 hi0 hz0 hz1 hz2 rfl (by decide) _ _ _ rfl (HO3.out.alloc _) ⟨w2.heap.size, 0, Option.none⟩ 1 1 [.string t.s, .int .i64 t.n] rfl rfl (new2T _ _ _ _) ?bz2 ?bz3 ?bz4 ?bz5 ?_)
            case bz2 => intro x hx; simp only [List.mem_cons, List.not_mem_nil, or_false] at hx; rcases hx with rfl | rfl <;> rfl
            case bz3 => unfold maxLen; omega
            case bz4 => omega
            case bz5 => simp; omega
            intro v' w6 hown' hgrow _
            obtain ⟨n1, n2⟩ := snocT8 HO3.out hbr2 hgrow hown'
            have N1 := Lib.hid n1
            clear hown' hgrow hbr2 hsz hol2 n1
            go_wp2
            go_roundw
            case rel => exact ⟨k + 1, X ++ [t], by omega, by go_num, HT.out, N1.out, n2⟩
            case measure => simp [RowKit.intOf]; omega
          · have hkk : l'.take k = l' := List.take_of_length_le (by omega)
            have HX1 : Hid (X = os ++ l') := show X = _ by rw [HX.out, hkk]
            have HB1 := Lib.hid hbr
            clear hbr
            go_wp2
            go_loopw [5, 100] (fun z i wr => ∃ (k : Nat) (Y : List AR), k ≤ m'.length ∧ i = .int .i64 (k : Int) ∧ Hid (Y = os ++ l' ++ (m'.take k).map negT8) ∧ Hid (wr.ownsRow w.heap.size 59 2 z Y.length (acells Y)) ∧ Below w.heap.size w wr) (fun _ i _ => m'.length - (RowKit.intOf i).toNat)
            case atStart => exact ⟨0, X, by omega, rfl, (by show X = os ++ l' ++ (m'.take 0).map negT8; rw [HX1.out]; simp), HO2, HB1.out⟩
            case round =>
              obtain ⟨q, Y, hq, rfl, HY, HO4, hbr⟩ := hrel
              clear HO2 HB1
              by_cases hlt2 : q < m'.length
              · have hltI : (q : Int) < (m'.length : Int) := by omega
                obtain ⟨t, ht⟩ : ∃ t, m'[q]? = some t := ⟨m'[q], List.getElem?_eq_getElem hlt2⟩
                obtain ⟨ao, cap, e, hr⟩ := hv.out.2.1
                injection e with e1 e2 e3
                subst e1; subst e3
                rcases hr with hr | ⟨g, off, rfl, _, gl, hc⟩
                · subst hr; simp at hlt2
                have A0 := (hbr.cell (p := ⟨g, off + q * 2, Option.none⟩) gl).trans (hc q t ht).1
                have A1 := (hbr.cell (p := ⟨g, off + q * 2 + 1, Option.none⟩) gl).trans (hc q t ht).2
                have hnb := HNB.out.2 t (List.mem_of_getElem? ht)
                have HT : Hid (Y ++ [negT8 t] = os ++ l' ++ (m'.take (q + 1)).map negT8) := show _ = _ by rw [HY.out, take_snocA ht]; simp
                have HL : Hid (Y.length ≤ 8000000) := show _ ≤ _ by have := HCN.out; rw [HY.out]; simp only [List.length_append, List.length_map, List.length_take]; omega
                obtain ⟨nn, hnn⟩ : ∃ nn, IntKind.i64.wrap (-t.n) = nn := ⟨_, rfl⟩
                have HNN : Hid (negT8 t = ⟨t.s, nn⟩) := show negT8 t = _ by rw [negT8, hnn]
                clear hc ht
                go_wp2_with fail
                refine (termOf_is t.s hnb nn _).mono ?_
                rintro e w2 ⟨rfl, hb2⟩
                have hb3 := below_alloc hb2
                have HO5 := Lib.hid (own_below8 HO4.out hb3)
                have hbr2 := hbr.trans (hb3.mono hbr.size)
                have hol2 := HL.out
                have hsz := hbr2.size
                clear hb2 hb3 hbr A0 A1 hnn
                go_wp2_with (at_builtin; refine wpList_append_own _ rfl _ _ 24 rfl w.heap.size 59 i0 _ 2 24 Try.underlying24 hi0 hz0 hz1 hz2 rfl (by decide) _ _ _ rfl (HO5.out.alloc _) ⟨w2.heap.size, 0, Option.none⟩ 1 1 [.string t.s, .int .i64 nn] rfl rfl (new2T _ _ _ _) ?cy2 ?cy3 ?cy4 ?cy5 ?_)
                case cy2 => intro x hx; simp only [List.mem_cons, List.not_mem_nil, or_false] at hx; rcases hx with rfl | rfl <;> rfl
                case cy3 => unfold maxLen; omega
                case cy4 => omega
                case cy5 => simp; omega
                intro v' w6 hown' hgrow _
                obtain ⟨n1, n2⟩ := snocT8 (t := ⟨t.s, nn⟩) HO5.out hbr2 hgrow hown'
                rw [← HNN.out] at n1
                have N1 := Lib.hid n1
                clear hown' hgrow hbr2 hsz hol2 n1
                go_wp2
                go_roundw
                case rel => exact ⟨q + 1, Y ++ [negT8 t], by omega, by go_num, HT.out, N1.out, n2⟩
                case measure => simp [RowKit.intOf]; omega
              · have hqq : m'.take q = m' := List.take_of_length_le (by omega)
                have HY1 : Hid (Y = less8 (l.length + m.length) l m) := show Y = _ by rw [HY.out, hqq, HR.out]
                have HZ := Lib.hid (HY1.out ▸ HO4.out)
                go_wp2
                go_ret
                exact ⟨_, rfl, HZ.out, hbr⟩
    · obtain ⟨t, l1, rfl⟩ : ∃ t l1, l' = t :: l1 := by cases l' with | nil => exact absurd (.inl rfl) hend | cons t l1 => exact ⟨t, l1, rfl⟩
      obtain ⟨u, m1, rfl⟩ : ∃ u m1, m' = u :: m1 := by cases m' with | nil => exact absurd (.inr rfl) hend | cons u m1 => exact ⟨u, m1, rfl⟩
      obtain ⟨f, rfl⟩ : ∃ f', f = f' + 1 := ⟨f - 1, by have := hf.out.1; simp only [List.length_cons] at this; omega⟩
      obtain ⟨g, off, rfl, _, gl, A0, A1⟩ := hv.out.1.head8
      obtain ⟨h, hoff, rfl, _, hgl, B0, B1⟩ := hv.out.2.1.head8
      have A0 := (hbr.cell (p := ⟨g, off, Option.none⟩) gl).trans A0
      have A1 := (hbr.cell (p := ⟨g, off + 1, Option.none⟩) gl).trans A1
      have B0 := (hbr.cell (p := ⟨h, hoff, Option.none⟩) hgl).trans B0
      have B1 := (hbr.cell (p := ⟨h, hoff + 1, Option.none⟩) hgl).trans B1
      have HO := Lib.hid hown
      have HB := Lib.hid hbr
      clear hend hown hcnt hbr
      have K1 : ∀ (p : Addr) (v : Value), wr.cell? p = some v → (∀ X : Obj, (wr.alloc X).cell? p = some v) ∧ ∀ X Y : Obj, ((wr.alloc X).alloc Y).cell? p = some v := fun p v hp => ⟨fun X => keeps (alloc_below _ _) hp, fun X Y => keeps ((alloc_below wr _).alloc (by simp) _) hp⟩
      obtain ⟨a01, a02⟩ := K1 _ _ A0
      obtain ⟨a11, a12⟩ := K1 _ _ A1
      obtain ⟨b01, b02⟩ := K1 _ _ B0
      obtain ⟨b11, b12⟩ := K1 _ _ B1
      clear K1
      simp only [List.length_cons]
      have k1 : (0 : Int) < ((l1.length + 1 : Nat) : Int) := by omega
      have k2 : (0 : Int) < ((m1.length + 1 : Nat) : Int) := by omega
      go_wp2_with fail
      go_region
      · obtain ⟨z0, z1⟩ := heap2t wr (.cells #[.string t.s, .int .i64 t.n] 59) (.cells #[.string u.s, .int .i64 u.n] 59)
        have hbq := belowL8 ((alloc_below wr (.cells #[.string t.s, .int .i64 t.n] 59)).alloc (by simp) (.cells #[.string u.s, .int .i64 u.n] 59)) 1
        have HBq := Lib.hid (HB.out.trans (hbq.mono HB.out.size))
        have HOq := Lib.hid (own_below8 HO.out hbq)
        obtain ⟨⟨x0, x1⟩, _⟩ := blk2 (w := ((wr.alloc (.cells #[.string t.s, .int .i64 t.n] 59)).alloc (.cells #[.string u.s, .int .i64 u.n] 59)).drew) z0
        obtain ⟨⟨y0, y1⟩, _⟩ := blk2 (w := ((wr.alloc (.cells #[.string t.s, .int .i64 t.n] 59)).alloc (.cells #[.string u.s, .int .i64 u.n] 59)).drew) z1
        obtain ⟨wq, hwq⟩ : ∃ wq, ((wr.alloc (.cells #[.string t.s, .int .i64 t.n] 59)).alloc (.cells #[.string u.s, .int .i64 u.n] 59)).drew = wq := ⟨_, rfl⟩
        have hsw : ((wr.alloc (.cells #[.string t.s, .int .i64 t.n] 59)).alloc (.cells #[.string u.s, .int .i64 u.n] 59)).drewN 1 = wq := hwq
        rw [hsw] at HBq HOq
        rw [hwq] at x0 x1 y0 y1 ⊢
        have X := Lib.hid (And.intro x0 (And.intro x1 (And.intro y0 y1)))
        clear z0 z1 hbq hwq hsw A0 A1 B0 B1 a01 a02 a11 a12 b01 b02 b11 b12 k1 k2
        have hLm : Hid (∀ f', less8 (f' + 1) (t :: l1) (u :: m1) = if t.s = u.s ∧ t.n = u.n then less8 f' l1 m1 else if t.s = u.s then ⟨t.s, IntKind.i64.wrap (t.n - u.n)⟩ :: less8 f' l1 m1 else if blt t.s u.s = true then t :: less8 f' l1 (u :: m1) else negT8 u :: less8 f' (t :: l1) m1) := fun _ => rfl
        have hw1 : (1 : Int) ≤ (l1.length : Int) + 1 := by omega
        have hw2 : (1 : Int) ≤ (m1.length : Int) + 1 := by omega
        have TL := Lib.hid (AV.tail9 hv.out.1 (hv.out.2.2.1 _ _ _ rfl))
        have TM := Lib.hid (AV.tail9 hv.out.2.1 (hv.out.2.2.2 _ _ _ rfl))
        have HV := Lib.hid hv.out
        obtain ⟨q1, q2, q3, q4, q5⟩ := hf.out
        have hts := q4 t (by simp)
        have hus := q5 u (by simp)
        have hn1 : NmB8 l1 := fun x hx => q4 x (by simp [hx])
        have hn2 : NmB8 m1 := fun x hx => q5 x (by simp [hx])
        simp only [List.length_cons] at q1 q3
        by_cases e1 : t.s = u.s
        · by_cases e2 : t.n = u.n
          · have R : Hid (l1.length + m1.length ≤ f ∧ os ++ less8 f l1 m1 = less8 (l.length + m.length) l m ∧ os.length + l1.length + m1.length ≤ l.length + m.length ∧ NmB8 l1 ∧ NmB8 m1) := ⟨by omega, by rw [← q2, hLm.out, if_pos ⟨e1, e2⟩], by omega, hn1, hn2⟩
            rw [← e1] at y0
            rw [← e2] at y1
            clear q1 q2 q3 q4 q5 hts hus hn1 hn2 e1 e2
            go_wp2_with fail
            go_quiet (fail)
            go_wp2
            go_roundw
            case rel => exact ⟨f, l1, m1, os, R, ⟨TL.out.1, TM.out.1, TL.out.2, TM.out.2⟩, own_below8 HOq.out (belowL8 (Below.refl _ _) _), belowL8 HBq.out _⟩
            case measure => simp [lenV8]; try omega
          · obtain ⟨nn, hnn⟩ : ∃ nn, IntKind.i64.wrap (t.n - u.n) = nn := ⟨_, rfl⟩
            have R : Hid (l1.length + m1.length ≤ f ∧ (os ++ [⟨t.s, nn⟩]) ++ less8 f l1 m1 = less8 (l.length + m.length) l m ∧ (os ++ [(⟨t.s, nn⟩ : AR)]).length + l1.length + m1.length ≤ l.length + m.length ∧ NmB8 l1 ∧ NmB8 m1) := ⟨by omega, by rw [← q2, hLm.out, if_neg (fun h => e2 h.2), if_pos e1, hnn, List.append_assoc]; rfl, by rw [List.length_append, List.length_singleton]; omega, hn1, hn2⟩
            have hne : (t.n == u.n) = false := by rw [beq_eq_false_iff_ne]; exact e2
            rw [← e1] at y0
            clear q1 q2 q3 q4 q5 hus hn1 hn2 e1 e2
            go_wp2_with fail
            refine (termOf_is t.s hts nn _).mono ?_
            rintro e w2 ⟨rfl, hb2⟩
            have HO3 := Lib.hid (own_below8 HOq.out hb2)
            have hbr2 := HBq.out.trans (hb2.mono HBq.out.size)
            have hsz := hbr2.size
            have X1 := X.out
            clear hb2 x0 x1 y0 y1 hnn
            go_wp2_with (at_builtin; refine wpList_append_own _ rfl _ _ 24 rfl w.heap.size 59 i0 _ 2 24 Try.underlying24 hi0 hz0 hz1 hz2 rfl (by decide) _ _ _ rfl (HO3.out.alloc _) ⟨w2.heap.size, 0, Option.none⟩ 1 1 [.string t.s, .int .i64 nn] rfl rfl (new2T _ _ _ _) ?pb2 ?pb3 ?pb4 ?pb5 ?_)
            case pb2 => intro x hx; simp only [List.mem_cons, List.not_mem_nil, or_false] at hx; rcases hx with rfl | rfl <;> rfl
            case pb3 => unfold maxLen; omega
            case pb4 => omega
            case pb5 => simp; omega
            intro v' w6 hown' hgrow _
            obtain ⟨n1, n2⟩ := snocT8 (t := ⟨t.s, nn⟩) HO3.out hbr2 hgrow hown'
            have N1 := Lib.hid n1
            clear hown' hgrow hbr2 hsz n1
            go_wp2_with fail
            go_quiet (fail)
            go_wp2
            go_roundw
            case rel => exact ⟨f, l1, m1, os ++ [⟨t.s, nn⟩], R, ⟨TL.out.1, TM.out.1, TL.out.2, TM.out.2⟩, own_below8 N1.out (belowL8 (Below.refl _ _) _), belowL8 n2 _⟩
            case measure => simp [lenV8]; try omega
        · have hsf := str_ne e1
          cases hb : blt t.s u.s with
          | true =>
            have hbl : Op.bytesLess t.s.toList u.s.toList = true := hb
            have R : Hid (l1.length + (u :: m1).length ≤ f ∧ (os ++ [t]) ++ less8 f l1 (u :: m1) = less8 (l.length + m.length) l m ∧ (os ++ [t]).length + l1.length + (u :: m1).length ≤ l.length + m.length ∧ NmB8 l1 ∧ NmB8 (u :: m1)) := ⟨by simp only [List.length_cons]; omega, by rw [← q2, hLm.out, if_neg (fun h => e1 h.1), if_neg e1, if_pos hb, List.append_assoc]; rfl, by rw [List.length_append, List.length_singleton]; simp only [List.length_cons]; omega, hn1, q5⟩
            clear q1 q2 q3 q4 q5 hus hn1 hn2 e1 hb
            go_wp2_with fail
            refine (termOf_is t.s hts t.n _).mono ?_
            rintro e w2 ⟨rfl, hb2⟩
            have HO3 := Lib.hid (own_below8 HOq.out hb2)
            have hbr2 := HBq.out.trans (hb2.mono HBq.out.size)
            have hsz := hbr2.size
            clear hb2 x0 x1 y0 y1
            go_wp2_with (at_builtin; refine wpList_append_own _ rfl _ _ 24 rfl w.heap.size 59 i0 _ 2 24 Try.underlying24 hi0 hz0 hz1 hz2 rfl (by decide) _ _ _ rfl (HO3.out.alloc _) ⟨w2.heap.size, 0, Option.none⟩ 1 1 [.string t.s, .int .i64 t.n] rfl rfl (new2T _ _ _ _) ?pc2 ?pc3 ?pc4 ?pc5 ?_)
            case pc2 => intro x hx; simp only [List.mem_cons, List.not_mem_nil, or_false] at hx; rcases hx with rfl | rfl <;> rfl
            case pc3 => unfold maxLen; omega
            case pc4 => omega
            case pc5 => simp; omega
            intro v' w6 hown' hgrow _
            obtain ⟨n1, n2⟩ := snocT8 (t := ⟨t.s, t.n⟩) HO3.out hbr2 hgrow hown'
            have N1 := Lib.hid n1
            clear hown' hgrow hbr2 hsz n1
            go_wp2
            go_roundw
            case rel => exact ⟨f, l1, u :: m1, os ++ [t], R, ⟨TL.out.1, HV.out.2.1, TL.out.2, HV.out.2.2.2⟩, N1.out, n2⟩
            case measure => simp [lenV8]; try omega
          | false =>
            have hbl : Op.bytesLess t.s.toList u.s.toList = false := hb
            obtain ⟨nn, hnn⟩ : ∃ nn, IntKind.i64.wrap (-u.n) = nn := ⟨_, rfl⟩
            have R : Hid ((t :: l1).length + m1.length ≤ f ∧ (os ++ [⟨u.s, nn⟩]) ++ less8 f (t :: l1) m1 = less8 (l.length + m.length) l m ∧ (os ++ [(⟨u.s, nn⟩ : AR)]).length + (t :: l1).length + m1.length ≤ l.length + m.length ∧ NmB8 (t :: l1) ∧ NmB8 m1) := ⟨by simp only [List.length_cons]; omega, by rw [← q2, hLm.out, if_neg (fun h => e1 h.1), if_neg e1, if_neg (by rw [hb]; simp), negT8, hnn, List.append_assoc]; rfl, by rw [List.length_append, List.length_singleton]; simp only [List.length_cons]; omega, q4, hn2⟩
            clear q1 q2 q3 q4 q5 hts hn1 hn2 e1 hb
            go_wp2_with fail
            refine (termOf_is u.s hus nn _).mono ?_
            rintro e w2 ⟨rfl, hb2⟩
            have HO3 := Lib.hid (own_below8 HOq.out hb2)
            have hbr2 := HBq.out.trans (hb2.mono HBq.out.size)
            have hsz := hbr2.size
            clear hb2 x0 x1 y0 y1 hnn
            go_wp2_with (at_builtin; refine wpList_append_own _ rfl _ _ 24 rfl w.heap.size 59 i0 _ 2 24 Try.underlying24 hi0 hz0 hz1 hz2 rfl (by decide) _ _ _ rfl (HO3.out.alloc _) ⟨w2.heap.size, 0, Option.none⟩ 1 1 [.string u.s, .int .i64 nn] rfl rfl (new2T _ _ _ _) ?pd2 ?pd3 ?pd4 ?pd5 ?_)
            case pd2 => intro x hx; simp only [List.mem_cons, List.not_mem_nil, or_false] at hx; rcases hx with rfl | rfl <;> rfl
            case pd3 => unfold maxLen; omega
            case pd4 => omega
            case pd5 => simp; omega
            intro v' w6 hown' hgrow _
            obtain ⟨n1, n2⟩ := snocT8 (t := ⟨u.s, nn⟩) HO3.out hbr2 hgrow hown'
            have N1 := Lib.hid n1
            clear hown' hgrow hbr2 hsz n1
            go_wp2
            go_roundw
            case rel => exact ⟨f, t :: l1, m1, os ++ [⟨u.s, nn⟩], R, ⟨HV.out.1, TM.out.1, HV.out.2.2.1, TM.out.2⟩, N1.out, n2⟩
            case measure => simp [lenV8]; try omega
      · obtain ⟨z0, z1⟩ := heap2t wr (.cells #[.string u.s, .int .i64 u.n] 59) (.cells #[.string t.s, .int .i64 t.n] 59)
        have hbq := belowL8 ((alloc_below wr (.cells #[.string u.s, .int .i64 u.n] 59)).alloc (by simp) (.cells #[.string t.s, .int .i64 t.n] 59)) 1
        have HBq := Lib.hid (HB.out.trans (hbq.mono HB.out.size))
        have HOq := Lib.hid (own_below8 HO.out hbq)
        obtain ⟨⟨x0, x1⟩, _⟩ := blk2 (w := ((wr.alloc (.cells #[.string u.s, .int .i64 u.n] 59)).alloc (.cells #[.string t.s, .int .i64 t.n] 59)).drew) z1
        obtain ⟨⟨y0, y1⟩, _⟩ := blk2 (w := ((wr.alloc (.cells #[.string u.s, .int .i64 u.n] 59)).alloc (.cells #[.string t.s, .int .i64 t.n] 59)).drew) z0
        obtain ⟨wq, hwq⟩ : ∃ wq, ((wr.alloc (.cells #[.string u.s, .int .i64 u.n] 59)).alloc (.cells #[.string t.s, .int .i64 t.n] 59)).drew = wq := ⟨_, rfl⟩
        have hsw : ((wr.alloc (.cells #[.string u.s, .int .i64 u.n] 59)).alloc (.cells #[.string t.s, .int .i64 t.n] 59)).drewN 1 = wq := hwq
        rw [hsw] at HBq HOq
        rw [hwq] at x0 x1 y0 y1 ⊢
        have X := Lib.hid (And.intro x0 (And.intro x1 (And.intro y0 y1)))
        clear z0 z1 hbq hwq hsw A0 A1 B0 B1 a01 a02 a11 a12 b01 b02 b11 b12 k1 k2
        have hLm : Hid (∀ f', less8 (f' + 1) (t :: l1) (u :: m1) = if t.s = u.s ∧ t.n = u.n then less8 f' l1 m1 else if t.s = u.s then ⟨t.s, IntKind.i64.wrap (t.n - u.n)⟩ :: less8 f' l1 m1 else if blt t.s u.s = true then t :: less8 f' l1 (u :: m1) else negT8 u :: less8 f' (t :: l1) m1) := fun _ => rfl
        have hw1 : (1 : Int) ≤ (l1.length : Int) + 1 := by omega
        have hw2 : (1 : Int) ≤ (m1.length : Int) + 1 := by omega
        have TL := Lib.hid (AV.tail9 hv.out.1 (hv.out.2.2.1 _ _ _ rfl))
        have TM := Lib.hid (AV.tail9 hv.out.2.1 (hv.out.2.2.2 _ _ _ rfl))
        have HV := Lib.hid hv.out
        obtain ⟨q1, q2, q3, q4, q5⟩ := hf.out
        have hts := q4 t (by simp)
        have hus := q5 u (by simp)
        have hn1 : NmB8 l1 := fun x hx => q4 x (by simp [hx])
        have hn2 : NmB8 m1 := fun x hx => q5 x (by simp [hx])
        simp only [List.length_cons] at q1 q3
        by_cases e1 : t.s = u.s
        · by_cases e2 : t.n = u.n
          · have R : Hid (l1.length + m1.length ≤ f ∧ os ++ less8 f l1 m1 = less8 (l.length + m.length) l m ∧ os.length + l1.length + m1.length ≤ l.length + m.length ∧ NmB8 l1 ∧ NmB8 m1) := ⟨by omega, by rw [← q2, hLm.out, if_pos ⟨e1, e2⟩], by omega, hn1, hn2⟩
            rw [← e1] at y0
            rw [← e2] at y1
            clear q1 q2 q3 q4 q5 hts hus hn1 hn2 e1 e2
            go_wp2_with fail
            go_quiet (fail)
            go_wp2
            go_roundw
            case rel => exact ⟨f, l1, m1, os, R, ⟨TL.out.1, TM.out.1, TL.out.2, TM.out.2⟩, own_below8 HOq.out (belowL8 (Below.refl _ _) _), belowL8 HBq.out _⟩
            case measure => simp [lenV8]; try omega
          · obtain ⟨nn, hnn⟩ : ∃ nn, IntKind.i64.wrap (t.n - u.n) = nn := ⟨_, rfl⟩
            have R : Hid (l1.length + m1.length ≤ f ∧ (os ++ [⟨t.s, nn⟩]) ++ less8 f l1 m1 = less8 (l.length + m.length) l m ∧ (os ++ [(⟨t.s, nn⟩ : AR)]).length + l1.length + m1.length ≤ l.length + m.length ∧ NmB8 l1 ∧ NmB8 m1) := ⟨by omega, by rw [← q2, hLm.out, if_neg (fun h => e2 h.2), if_pos e1, hnn, List.append_assoc]; rfl, by rw [List.length_append, List.length_singleton]; omega, hn1, hn2⟩
            have hne : (t.n == u.n) = false := by rw [beq_eq_false_iff_ne]; exact e2
            rw [← e1] at y0
            clear q1 q2 q3 q4 q5 hus hn1 hn2 e1 e2
            go_wp2_with fail
            refine (termOf_is t.s hts nn _).mono ?_
            rintro e w2 ⟨rfl, hb2⟩
            have HO3 := Lib.hid (own_below8 HOq.out hb2)
            have hbr2 := HBq.out.trans (hb2.mono HBq.out.size)
            have hsz := hbr2.size
            have X1 := X.out
            clear hb2 x0 x1 y0 y1 hnn
            go_wp2_with (at_builtin; refine wpList_append_own _ rfl _ _ 24 rfl w.heap.size 59 i0 _ 2 24 Try.underlying24 hi0 hz0 hz1 hz2 rfl (by decide) _ _ _ rfl (HO3.out.alloc _) ⟨w2.heap.size, 0, Option.none⟩ 1 1 [.string t.s, .int .i64 nn] rfl rfl (new2T _ _ _ _) ?qb2 ?qb3 ?qb4 ?qb5 ?_)
            case qb2 => intro x hx; simp only [List.mem_cons, List.not_mem_nil, or_false] at hx; rcases hx with rfl | rfl <;> rfl
            case qb3 => unfold maxLen; omega
            case qb4 => omega
            case qb5 => simp; omega
            intro v' w6 hown' hgrow _
            obtain ⟨n1, n2⟩ := snocT8 (t := ⟨t.s, nn⟩) HO3.out hbr2 hgrow hown'
            have N1 := Lib.hid n1
            clear hown' hgrow hbr2 hsz n1
            go_wp2_with fail
            go_quiet (fail)
            go_wp2
            go_roundw
            case rel => exact ⟨f, l1, m1, os ++ [⟨t.s, nn⟩], R, ⟨TL.out.1, TM.out.1, TL.out.2, TM.out.2⟩, own_below8 N1.out (belowL8 (Below.refl _ _) _), belowL8 n2 _⟩
            case measure => simp [lenV8]; try omega
        · have hsf := str_ne e1
          cases hb : blt t.s u.s with
          | true =>
            have hbl : Op.bytesLess t.s.toList u.s.toList = true := hb
            have R : Hid (l1.length + (u :: m1).length ≤ f ∧ (os ++ [t]) ++ less8 f l1 (u :: m1) = less8 (l.length + m.length) l m ∧ (os ++ [t]).length + l1.length + (u :: m1).length ≤ l.length + m.length ∧ NmB8 l1 ∧ NmB8 (u :: m1)) := ⟨by simp only [List.length_cons]; omega, by rw [← q2, hLm.out, if_neg (fun h => e1 h.1), if_neg e1, if_pos hb, List.append_assoc]; rfl, by rw [List.length_append, List.length_singleton]; simp only [List.length_cons]; omega, hn1, q5⟩
            clear q1 q2 q3 q4 q5 hus hn1 hn2 e1 hb
            go_wp2_with fail
            refine (termOf_is t.s hts t.n _).mono ?_
            rintro e w2 ⟨rfl, hb2⟩
            have HO3 := Lib.hid (own_below8 HOq.out hb2)
            have hbr2 := HBq.out.trans (hb2.mono HBq.out.size)
            have hsz := hbr2.size
            clear hb2 x0 x1 y0 y1
            go_wp2_with (at_builtin; refine wpList_append_own _ rfl _ _ 24 rfl w.heap.size 59 i0 _ 2 24 Try.underlying24 hi0 hz0 hz1 hz2 rfl (by decide) _ _ _ rfl (HO3.out.alloc _) ⟨w2.heap.size, 0, Option.none⟩ 1 1 [.string t.s, .int .i64 t.n] rfl rfl (new2T _ _ _ _) ?qc2 ?qc3 ?qc4 ?qc5 ?_)
            case qc2 => intro x hx; simp only [List.mem_cons, List.not_mem_nil, or_false] at hx; rcases hx with rfl | rfl <;> rfl
            case qc3 => unfold maxLen; omega
            case qc4 => omega
            case qc5 => simp; omega
            intro v' w6 hown' hgrow _
            obtain ⟨n1, n2⟩ := snocT8 (t := ⟨t.s, t.n⟩) HO3.out hbr2 hgrow hown'
            have N1 := Lib.hid n1
            clear hown' hgrow hbr2 hsz n1
            go_wp2
            go_roundw
            case rel => exact ⟨f, l1, u :: m1, os ++ [t], R, ⟨TL.out.1, HV.out.2.1, TL.out.2, HV.out.2.2.2⟩, N1.out, n2⟩
            case measure => simp [lenV8]; try omega
          | false =>
            have hbl : Op.bytesLess t.s.toList u.s.toList = false := hb
            obtain ⟨nn, hnn⟩ : ∃ nn, IntKind.i64.wrap (-u.n) = nn := ⟨_, rfl⟩
            have R : Hid ((t :: l1).length + m1.length ≤ f ∧ (os ++ [⟨u.s, nn⟩]) ++ less8 f (t :: l1) m1 = less8 (l.length + m.length) l m ∧ (os ++ [(⟨u.s, nn⟩ : AR)]).length + (t :: l1).length + m1.length ≤ l.length + m.length ∧ NmB8 (t :: l1) ∧ NmB8 m1) := ⟨by simp only [List.length_cons]; omega, by rw [← q2, hLm.out, if_neg (fun h => e1 h.1), if_neg e1, if_neg (by rw [hb]; simp), negT8, hnn, List.append_assoc]; rfl, by rw [List.length_append, List.length_singleton]; simp only [List.length_cons]; omega, q4, hn2⟩
            clear q1 q2 q3 q4 q5 hts hn1 hn2 e1 hb
            go_wp2_with fail
            refine (termOf_is u.s hus nn _).mono ?_
            rintro e w2 ⟨rfl, hb2⟩
            have HO3 := Lib.hid (own_below8 HOq.out hb2)
            have hbr2 := HBq.out.trans (hb2.mono HBq.out.size)
            have hsz := hbr2.size
            clear hb2 x0 x1 y0 y1 hnn
            go_wp2_with (at_builtin; refine wpList_append_own _ rfl _ _ 24 rfl w.heap.size 59 i0 _ 2 24 Try.underlying24 hi0 hz0 hz1 hz2 rfl (by decide) _ _ _ rfl (HO3.out.alloc _) ⟨w2.heap.size, 0, Option.none⟩ 1 1 [.string u.s, .int .i64 nn] rfl rfl (new2T _ _ _ _) ?qd2 ?qd3 ?qd4 ?qd5 ?_)
            case qd2 => intro x hx; simp only [List.mem_cons, List.not_mem_nil, or_false] at hx; rcases hx with rfl | rfl <;> rfl
            case qd3 => unfold maxLen; omega
            case qd4 => omega
            case qd5 => simp; omega
            intro v' w6 hown' hgrow _
            obtain ⟨n1, n2⟩ := snocT8 (t := ⟨u.s, nn⟩) HO3.out hbr2 hgrow hown'
            have N1 := Lib.hid n1
            clear hown' hgrow hbr2 hsz n1
            go_wp2
            go_roundw
            case rel => exact ⟨f, t :: l1, m1, os ++ [⟨u.s, nn⟩], R, ⟨HV.out.1, TM.out.1, HV.out.2.2.1, TM.out.2⟩, N1.out, n2⟩
            case measure => simp [lenV8]; try omega
end Go.Proofs.Ytfacenfiocdbgaa
