/-
  The contract of the landed code's countAll over statements, and of its Size.
-/
import Derived.Test.YtnomibchmmgagaaAstSize
import Derived.Test.YtnomibchmmgagaaAstToS
import Derived.Deep.LoopGhost
namespace Go.Proofs.Ytnomibchmmgagaa
open Go.RowKit Go.Lib
set_option linter.unusedSimpArgs false
set_option linter.unusedVariables false

theorem lt_heap {w : World} {g : Nat} {o : Obj} (h : w.heap[g]? = some o) : g < w.heap.size := (Array.getElem?_eq_some_iff.1 h).1
theorem ownB {w w' : World} {B sz n : Nat} {e : TypeId} {v : Value} {xs : List Value} (h : w.ownsRow B e sz v n xs) (hb : Below w.heap.size w w') : w'.ownsRow B e sz v n xs := by
  refine ⟨h.1, ?_⟩
  rcases h.2 with h0 | ⟨g, cap, cur, h1, h2, h3, h4⟩
  · exact .inl h0
  · exact .inr ⟨g, cap, cur, h1, h2, (hb.block g (lt_heap h3)).trans h3, h4⟩
theorem ownSets {w : World} {B sz n N : Nat} {e : TypeId} {v : Value} {xs : List Value} (h : w.ownsRow B e sz v n xs) (hN : ∀ o, w.heap[N]? = some o → ∀ g, v.ownBlock = some g → N ≠ g) (o : Nat) (vs : List Value) (hn : N < w.heap.size) : (w.setCells N o vs).ownsRow B e sz v n xs := by
  refine ⟨h.1, ?_⟩
  rcases h.2 with h0 | ⟨g, cap, cur, h1, h2, h3, h4⟩
  · exact .inl h0
  · refine .inr ⟨g, cap, cur, h1, h2, ?_, h4⟩
    have hne : N ≠ g := hN _ (Array.getElem?_eq_getElem hn) g (by rw [h1]; rfl)
    have : ∀ (vs : List Value) (o : Nat) (w : World), (w.setCells N o vs).heap[g]? = w.heap[g]? := by
      intro vs
      induction vs with
      | nil => intro o w; rfl
      | cons x xs ih => intro o w; rw [World.setCells, ih, Below.heap_setCell _ _ _ _ (fun e => hne e.symm)]
    rw [this]; exact h3
/-- A row with something in it. -/
theorem own_some {w : World} {B sz n : Nat} {e : TypeId} {v : Value} {xs : List Value} (h : w.ownsRow B e sz v (n + 1) xs) : ∃ g cap, v = .slice (some ⟨g, 0, Option.none⟩) (n + 1) cap ∧ n + 1 ≤ cap ∧ cap ≤ maxLen ∧ B ≤ g ∧ g < w.heap.size := by
  rcases h.2 with ⟨_, h0⟩ | ⟨g, cap, cur, h1, h2, h3, h4, h5, _⟩
  · cases h0
  · exact ⟨g, cap, h1, h4, h5, h2, lt_heap h3⟩
theorem own_none {w : World} {B sz : Nat} {e : TypeId} {v : Value} {xs : List Value} (h : w.ownsRow B e sz v 0 xs) : ∃ a cap, v = .slice a 0 cap := by
  rcases h.2 with ⟨h1, h0⟩ | ⟨g, cap, cur, h1, _⟩
  · exact ⟨_, _, h1⟩
  · exact ⟨_, _, h1⟩
/-- The last one is let go. -/
theorem own_pop {w : World} {B sz n g cap : Nat} {e : TypeId} {xs ys : List Value} (h : w.ownsRow B e sz (.slice (some ⟨g, 0, Option.none⟩) (n + 1) cap) (n + 1) (xs ++ ys)) (hx : xs.length = n * sz) : w.ownsRow B e sz (.slice (some ⟨g, 0, Option.none⟩) n cap) n xs := by
  refine ⟨hx, ?_⟩
  rcases h.2 with ⟨h0, _⟩ | ⟨g', cap', cur, h1, h2, h3, h4, h5, h6, h7⟩
  · cases h0
  · injection h1 with e1 e2 e3
    subst e3
    refine .inr ⟨g, cap, cur, rfl, ?_, ?_, by omega, h5, h6, ?_⟩
    · injection e1 with e1; injection e1 with e1; subst e1; exact h2
    · injection e1 with e1; injection e1 with e1; subst e1; exact h3
    · have := congrArg (List.take (n * sz)) h7
      rw [List.take_take, Nat.min_eq_left (Nat.mul_le_mul_right sz (Nat.le_succ n)), List.take_append_of_le_length (by omega)] at this
      rw [this, List.take_of_length_le (by omega)]
/-- A cell of a row that the call owns. -/
theorem own_cell {w : World} {B sz n g cap : Nat} {e : TypeId} {xs : List Value} (h : w.ownsRow B e sz (.slice (some ⟨g, 0, Option.none⟩) n cap) n xs) {j : Nat} {u : Value} (hu : xs[j]? = some u) : w.cell? ⟨g, j, Option.none⟩ = some u := by
  have hc := h.cells (g := g) rfl j u hu
  have e1 : (⟨g, 0, Option.none⟩ : Addr).add j = ⟨g, j, Option.none⟩ := by simp [Addr.add]; omega
  rwa [e1] at hc
/-- What is left to do: rows of statements, each in its slice. -/
abbrev TdS := List (SF × Value)
/-- A new block that is stored into at once. -/
theorem newblk {w W : World} {arr : Array Value} {t : TypeId} {vs : List Value} (hn : vs.length ≤ arr.size) (hW : (w.alloc (.cells arr t)).setCells w.heap.size 0 vs = W) : W.rangeAt w.heap.size 0 vs ∧ Below w.heap.size w W := by
  have e : (w.alloc (.cells arr t)).heap[w.heap.size]? = some (.cells arr t (0, 0)) := by show (w.heap.push _)[w.heap.size]? = _; simp
  subst hW
  exact ⟨World.rangeAt_setCells_same _ _ _ _ (blk_there e hn), below_sets _ _ (alloc_below _ _) (Nat.le_refl _)⟩
theorem newthere (w : World) (t : TypeId) : (w.alloc (.cells zero19 t)).there w.heap.size 0 19 := blk_there (arr := zero19) (t := t) (by show (w.heap.push _)[w.heap.size]? = _; simp) (Nat.le_refl 19)
theorem new1 (w : World) (u : Value) (t : TypeId) : ∀ j x, [u][j]? = some x → (w.alloc (.cells #[u] t)).cell? ((⟨w.heap.size, 0, Option.none⟩ : Addr).add j) = some x := by
  intro j x h
  have e : (w.alloc (.cells #[u] t)).heap[w.heap.size]? = some (.cells #[u] t (0, 0)) := by show (w.heap.push _)[w.heap.size]? = _; simp
  match j, h with
  | 0, h =>
    have e0 : (⟨w.heap.size, 0, Option.none⟩ : Addr).add 0 = ⟨w.heap.size, 0, Option.none⟩ := by simp [Addr.add]
    rw [e0]; simp only [World.cell?, e]; simpa using h
  | j + 1, h => simp at h
theorem newblkS {w W : World} {t : TypeId} (h : SH) (v1 v2 v3 v4 v : Value) (hW : (w.alloc (.cells zero19 t)).setCells w.heap.size 0 (scells h v1 v2 v3 v4 v) = W) : W.rangeAt w.heap.size 0 (scells h v1 v2 v3 v4 v) ∧ Below w.heap.size w W := newblk (arr := zero19) (Nat.le_refl 19) hW
/-- One more to do. -/
theorem snocS {w w5 w6 : World} {td : TdS} {t v' u : Value} {l : SF} {o : Obj} (hown : w5.ownsRow w.heap.size 28 1 t td.length (td.map (·.2))) (hb : Below w.heap.size w w5) (hg : (w5.alloc o).grownBy w6 t.ownBlock)
    (h : w6.ownsRow w.heap.size 28 1 v' (td.length + 1) (td.map (·.2) ++ [u])) : w6.ownsRow w.heap.size 28 1 v' (td ++ [(l, u)]).length ((td ++ [(l, u)]).map (·.2)) ∧ Below w.heap.size w w6 :=
  ⟨by rw [List.length_append, List.map_append]; exact h, (hb.alloc hb.size o).grown hg (by have := hb.size; simp; omega) (fun k hk => (hown.lt k hk).1)⟩
theorem infoSS : (Try.prog.info? 28).map (fun i => (i.zero, i.size, i.bytes)) = some (some (.slice Option.none 0 0), 1, 24) := by kernel_rfl

def tsum : TdS → Nat
  | [] => 0
  | p :: r => snodes p.1 + tsum r
theorem tsum_app (a b : TdS) : tsum (a ++ b) = tsum a + tsum b := by
  induction a with
  | nil => simp [tsum]
  | cons p a ih => simp only [List.cons_append, tsum, ih]; omega
/-- The state of the count between two rounds. -/
structure CntS (w : World) (F : SF) (td : TdS) (c m : Nat) : Prop where
  all : ∀ p ∈ td, SV w 0 p.1 p.2
  sum : c + tsum td = snodes F
  len : td.length + tsum td = m
  big : m ≤ snodes F + 1
/-- Within a round: R is what of the row is still to be looked at. -/
structure CntR (w : World) (F : SF) (td : TdS) (c m : Nat) (R G : SF) (k b o : Nat) : Prop where
  all : ∀ p ∈ td, SV w 0 p.1 p.2
  sum : c + tsum td + snodes R = snodes F + slen R
  len : td.length + tsum td + snodes R + 1 = m
  big : m ≤ snodes F + 1
  at_ : SIn w 0 R b (o + k * 19)
  num : k + slen R = slen G
theorem CntS.pop {w : World} {F : SF} {td : TdS} {c m : Nat} {p : SF × Value} {b o : Nat} (h : CntS w F (td ++ [p]) c m) (hin : SIn w 0 p.1 b o) : CntR w F td (c + slen p.1) m p.1 p.1 0 b o := by
  have h1 := h.sum; have h2 := h.len; have h3 := h.big
  rw [tsum_app] at h1 h2
  simp only [tsum, List.length_append, List.length_cons, List.length_nil] at h1 h2
  exact ⟨fun q hq => h.all q (List.mem_append_left _ hq), by omega, by omega, h3, by simpa using hin, by omega⟩
theorem CntR.push {w : World} {F : SF} {td : TdS} {c m p q : Nat} {hd : SH} {l r G : SF} {k b o : Nat} {u : Value} (h : CntR w F td c m (.node p q hd l r) G k b o) (hu : SV w 0 l u) : CntR w F (td ++ [(l, u)]) c m r G (k + 1) b o := by
  have h1 := h.sum; have h2 := h.len; have h4 := h.num
  simp only [snodes, slen] at h1 h2 h4
  refine ⟨fun q hq => ?_, ?_, ?_, h.big, ?_, by omega⟩
  · rcases List.mem_append.1 hq with hq | hq
    · exact h.all q hq
    · simp only [List.mem_cons, List.not_mem_nil, or_false] at hq; subst hq; exact hu
  · rw [tsum_app]; simp only [tsum]; omega
  · rw [tsum_app]; simp only [tsum, List.length_append, List.length_cons, List.length_nil]; omega
  · rw [show o + (k + 1) * 19 = o + k * 19 + 19 by omega]; exact (SIn_node.1 h.at_).2
theorem CntR.done {w : World} {F : SF} {td : TdS} {c m : Nat} {G : SF} {k b o : Nat} (h : CntR w F td c m .nil G k b o) : CntS w F td c (m - 1) := by
  have h1 := h.sum; have h2 := h.len; have h3 := h.big
  simp only [snodes, slen] at h1 h2
  exact ⟨h.all, by omega, by omega, by omega⟩
set_option maxHeartbeats 4000000 in
set_option maxRecDepth 100000 in
theorem countAllS_is (F : SF) (hF : snodes F ≤ 10000000) (w : World) (v : Value) (hv : SV w 0 F v) :
    Calls Try.prog 52 #[v, .func (.func 51) #[] #[]] w fun e w' => e = .returned (.int .i64 (snodes F : Int)) ∧ Below w.heap.size w w' := by
  obtain ⟨i0, hi, hz0, hz1, hz2⟩ := info_parts infoSS
  have C0 : Hid (CntS w F [(F, v)] 0 (snodes F + 1)) := ⟨fun p hp => by simp only [List.mem_cons, List.not_mem_nil, or_false] at hp; subst hp; exact hv, by simp [tsum], by simp [tsum]; omega, Nat.le_refl _⟩
  obtain ⟨a0, c0, rfl⟩ := hv.shape
  clear hv
  go_enter Try.func52, Try.ntmps52
  go_wp2
  go_loopg [5, 6] (snodes F + 1) (fun m x t wr => ∃ (td : TdS) (c : Nat), x = .int .i64 (c : Int) ∧ Hid (CntS w F td c m) ∧ wr.ownsRow w.heap.size 28 1 t td.length (td.map (·.2)) ∧ Below w.heap.size w wr)
  case atStart => exact ⟨[(F, .slice a0 (slen F) c0)], 0, rfl, C0.out, ⟨rfl, .inr ⟨w.heap.size, 1, #[.slice a0 (slen F) c0], rfl, Nat.le_refl _, (by show (w.heap.push _)[w.heap.size]? = _; simp), Nat.le_refl _, (by unfold maxLen; omega), rfl, rfl⟩⟩, alloc_below _ _⟩
  case round =>
    obtain ⟨td, c, rfl, hC, hown, hbw⟩ := hrel
    clear C0
    rcases List.eq_nil_or_concat td with rfl | ⟨ti, p, htd⟩
    · obtain ⟨a, cap, rfl⟩ := own_none hown
      have hs := hC.out.sum
      simp only [tsum] at hs
      go_wp2
      go_ret
      exact retI (by omega) hbw
    · rw [List.concat_eq_append] at htd
      subst htd
      rw [List.length_append, List.map_append] at hown
      obtain ⟨g, cap, rfl, hc1, hc2, hBg, hg⟩ := own_some hown
      have hcell := own_cell hown (j := ti.length) (u := p.2) (by rw [List.getElem?_append_right (by simp)]; simp)
      have hpop := own_pop hown (by simp)
      obtain ⟨b, o, pa, pc, hpv, hpa, _, hpin⟩ := hC.out.all p (by simp)
      have hR := hC.out.pop hpin
      rw [hpv] at hcell
      have hnp : c + slen p.1 ≤ 10000000 := by have := hR.sum; have := slen_le p.1; omega
      have hlen : ti.length ≤ 10000001 := by have := hR.len; have := hR.big; omega
      have HR := Lib.hid hR
      have hcapI : (ti.length : Int) + 1 ≤ (cap : Int) := by omega
      have hlenI : (ti.length : Int) ≤ 10000001 := by omega
      have hmx : (cap : Int) ≤ 9223372036854775807 := by unfold maxLen at hc2; omega
      clear hC hown hpin hR hc1 hlen hc2
      go_wp2
      go_loopw [6, 32] (fun t i wr2 => ∃ (td : TdS) (R : SF) (k : Nat), i = .int .i64 (k : Int) ∧ Hid (CntR w F td (c + slen p.1) gk R p.1 k b o) ∧ wr2.ownsRow w.heap.size 28 1 t td.length (td.map (·.2)) ∧ Below w.heap.size w wr2) (fun _ i _ => slen p.1 - (RowKit.intOf i).toNat)
      case atStart => exact ⟨ti, p.1, 0, rfl, HR.out, hpop, hbw⟩
      case round =>
        obtain ⟨td, R, k, rfl, hR, hown, hbr⟩ := hrel
        clear hcell hpop HR hbw
        cases R with
        | nil =>
          have hk : ¬ (k : Int) < (slen p.1 : Int) := by have := hR.out.num; simp only [slen] at this; omega
          go_wp2
          go_roundg (gk - 1)
          case measure => have := hR.out.len; omega
          case rel => exact ⟨td, c + slen p.1, by go_num, hR.out.done, hown, hbr⟩
        | node p' q' h l r =>
          have hlt : (k : Int) < (slen p.1 : Int) := by have := hR.out.num; simp only [slen] at this; omega
          have hne : ¬ p.1 = .nil := by intro e; have := hR.out.num; rw [e] at this; simp only [slen] at this; omega
          obtain rfl : pa = some ⟨b, o, Option.none⟩ := hpa.resolve_right hne
          obtain ⟨v1, v2, v3, v4, u, hu, hul, hrg⟩ := (SIn_node.1 hR.out.at_).1.range
          have Hrg := Lib.hid (rangeAt_later hrg hbr)
          have hR2 := Lib.hid (hR.out.push hul)
          have o1 := hu.e1.isOne
          have o2 := hu.e2.isOne
          have o3 := hu.e3.isOne
          have o4 := hu.e4.isOne
          have o5 := hul.isOne
          obtain ⟨ua, uc, rfl⟩ := hul.shape
          have hn1 : td.length ≤ 10000001 := by have := hR.out.len; have := hR.out.big; omega
          have Hn1 := Lib.hid hn1
          have hsz := hbr.size
          clear hrg hu hul hR hne hn1 hpa
          go_wp2_with (first | (refine wpList_load_mid rfl 30 _ rfl b (o + k * 19) rfl _ _ Hrg.out Try.underlying30 rfl sizeIS ?_) | (refine store_abs rfl 30 _ _ rfl _ _ _ rfl rfl ?ht sizeIS ?ho ?_; exact (newthere wr _); exact (oneS h v1 v2 v3 v4 _ o1 o2 o3 o4 o5); intro W hW; have HW := Lib.hid (newblkS h v1 v2 v3 v4 _ hW); clear hW) | (refine wpList_load_mid rfl 30 _ rfl wr.heap.size 0 rfl _ _ HW.out.1 Try.underlying30 rfl sizeIS ?_))
          refine (bodyOf_is h v1 v2 v3 v4 _ _).mono ?_
          rintro e w5 ⟨rfl, hb5⟩
          have hB5 := HW.out.2.trans (hb5.mono HW.out.2.size)
          have hown5 := ownB hown hB5
          have hbr5 := hbr.trans (hB5.mono hbr.size)
          have HO := Lib.hid hown5
          have hs5 := hbr5.size
          have hlt5 : td.length ≤ 10000001 := Hn1.out
          obtain ⟨ta, tc, rfl⟩ : ∃ ta tc, u6 = .slice ta td.length tc := by
            rcases hown5.2 with ⟨h1, h0⟩ | ⟨g, cap, cur, h1, _⟩
            · exact ⟨_, _, by rw [h0]; exact h1⟩
            · exact ⟨_, _, h1⟩
          clear hb5 hown hbr HW Hrg o1 o2 o3 o4 o5 hB5
          go_wp2_with (at_builtin; refine wpList_append_own _ rfl _ _ 114 rfl w.heap.size 28 i0 _ 1 24 Try.underlying114 hi hz0 hz1 hz2 rfl (by decide) _ _ _ rfl (hown5.alloc _) ⟨w5.heap.size, 0, Option.none⟩ 1 1 [.slice ua (slen l) uc] rfl rfl ?c1 ?c2 ?c3 ?c4 ?c5 ?_)
          case c1 => exact new1 _ _ _
          case c2 => intro x hx; simp only [List.mem_cons, List.not_mem_nil, or_false] at hx; subst hx; rfl
          case c3 => unfold maxLen; omega
          case c4 => omega
          case c5 => simp; omega
          intro v' w6 hown' hgrow _
          obtain ⟨n1, n2⟩ := snocS (l := l) hown5 hbr5 hgrow hown'
          clear hown' hgrow hown5 hbr5 HO
          go_wp2
          go_roundw
          case rel => exact ⟨td ++ [(l, .slice ua (slen l) uc)], r, k + 1, by go_num, hR2, n1, n2⟩
          case measure => simp [RowKit.intOf]; omega
theorem impl_Size (F : SF) (hF : snodes F ≤ 10000000) (w : World) (v : Value) (hv : SV w 0 F v) :
    Calls Try.prog 23 #[v] w fun e w' => e = .returned (.int .i64 (snodes F : Int)) ∧ Below w.heap.size w w' := by
  go_enter Try.func23, Try.ntmps23
  go_wp2_with (go_at_call 52; refine (countAllS_is F hF w v hv).mono ?_; rintro e w1 ⟨rfl, hb1⟩)
  go_ret
  exact ⟨rfl, hb1⟩
end Go.Proofs.Ytnomibchmmgagaa
