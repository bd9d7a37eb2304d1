/-
  The contracts of toExp, toExpS: a copy in memory of its own.
-/
import Derived.Test.YthokildkedlkfaaAstMem
namespace Go.Proofs.Ythokildkedlkfaa
open Go.RowKit Go.Lib
set_option linter.unusedSimpArgs false
set_option linter.unusedVariables false

theorem sizeIE : (Try.prog.info? 26).map (·.size) = some 4 := by kernel_rfl
theorem sizeLE : (Try.prog.info? 50).map (·.size) = some 4 := by kernel_rfl
theorem blk4 {w : World} {b : Nat} {x y z u : Value} {t : TypeId} (h : w.heap[b]? = some (.cells #[x, y, z, u] t (0, 0))) :
    (w.cell? ⟨b, 0, Option.none⟩ = some x ∧ w.cell? ⟨b, 1, Option.none⟩ = some y ∧ w.cell? ⟨b, 2, Option.none⟩ = some z ∧ w.cell? ⟨b, 3, Option.none⟩ = some u) ∧ w.frozen? ⟨b, 0, Option.none⟩ = false ∧ w.frozen? ⟨b, 1, Option.none⟩ = false ∧ w.frozen? ⟨b, 2, Option.none⟩ = false ∧ w.frozen? ⟨b, 3, Option.none⟩ = false := by
  simp [World.cell?, World.frozen?, h]
theorem set5 {w w1 : World} {N : Nat} (hb : Below w.heap.size w w1) (hN : w.heap.size = N) (p x y z u : Value) : Below w.heap.size w (((((w1.setCell ⟨N + 2, 3, Option.none⟩ p).setCell ⟨N + 1, 0, Option.none⟩ x).setCell ⟨N + 1, 1, Option.none⟩ y).setCell ⟨N + 1, 2, Option.none⟩ z).setCell ⟨N + 1, 3, Option.none⟩ u) ∧
    Keeps (w.heap.size + 3) w1 (((((w1.setCell ⟨N + 2, 3, Option.none⟩ p).setCell ⟨N + 1, 0, Option.none⟩ x).setCell ⟨N + 1, 1, Option.none⟩ y).setCell ⟨N + 1, 2, Option.none⟩ z).setCell ⟨N + 1, 3, Option.none⟩ u) := by
  subst hN
  exact ⟨((((hb.setCell (p := ⟨w.heap.size + 2, 3, Option.none⟩) (by simp) _).setCell (p := ⟨w.heap.size + 1, 0, Option.none⟩) (by simp) _).setCell (p := ⟨w.heap.size + 1, 1, Option.none⟩) (by simp) _).setCell (p := ⟨w.heap.size + 1, 2, Option.none⟩) (by simp) _).setCell (p := ⟨w.heap.size + 1, 3, Option.none⟩) (by simp) _,
    ((((Keeps.set _ _ (by simp) _).trans (Keeps.set _ _ (by simp) _)).trans (Keeps.set _ _ (by simp) _)).trans (Keeps.set _ _ (by simp) _)).trans (Keeps.set _ _ (by simp) _)⟩
set_option maxHeartbeats 1000000 in
theorem toExp_of (x : X)
    (ih : ∀ (w : World) (v : Value), EV w 0 x.l v → Calls Try.prog 67 #[v] w fun e w' => ∃ v', e = .returned v' ∧ EV w' w.heap.size x.l v' ∧ Below w.heap.size w w')
    (w : World) (v : Value) (hv : EV w 0 x.l v) :
    Calls Try.prog 53 #[.agg #[.int .i64 x.h.k, .int .i64 x.h.n, .string x.h.s, v]] w fun e w' => ∃ v', e = .returned (.agg #[.int .i64 x.h.k, .int .i64 x.h.n, .string x.h.s, v']) ∧ EV w' w.heap.size x.l v' ∧ Below w.heap.size w w' := by
  have Hih := Lib.hid ih
  clear ih
  obtain ⟨a, c, rfl⟩ := hv.shape
  have Hv := Lib.hid hv
  clear hv
  go_enter Try.func53, Try.ntmps53
  go_wp2_with fail
  have hb3 := ((alloc_below w (.cells #[.int .i64 x.h.k, .int .i64 x.h.n, .string x.h.s, .slice a (elen x.l) c] 50)).alloc (by simp) (.cells #[.int .i64 0, .int .i64 0, .string ⟨#[]⟩, .slice Option.none 0 0] 26)).alloc (by simp; omega) (.cells #[.int .i64 x.h.k, .int .i64 x.h.n, .string x.h.s, .slice Option.none 0 0] 26)
  obtain ⟨_, q1, q2⟩ := heap3 w (.cells #[.int .i64 x.h.k, .int .i64 x.h.n, .string x.h.s, .slice a (elen x.l) c] 50) (.cells #[.int .i64 0, .int .i64 0, .string ⟨#[]⟩, .slice Option.none 0 0] 26) (.cells #[.int .i64 x.h.k, .int .i64 x.h.n, .string x.h.s, .slice Option.none 0 0] 26)
  refine (Hih.out _ _ (Hv.out.later hb3)).mono ?_
  rintro e w1 ⟨v', rfl, hv', hb1⟩
  obtain ⟨a', c', rfl⟩ := hv'.shape
  have r1 := (hb1.block _ (by simp)).trans q1
  have r2 := (hb1.block _ (by simp)).trans q2
  have hb := hb3.trans (hb1.mono hb3.size)
  obtain ⟨⟨c0, c1, c2, c3⟩, f0, f1, f2, f3⟩ := blk4 r1
  obtain ⟨⟨d0, d1, d2, d3⟩, g0, g1, g2, g3⟩ := blk4 r2
  have Hv' := Lib.hid hv'
  have Hb := Lib.hid hb
  clear hb1 hb3 hv' q1 q2 r1 r2 hb
  go_wp2
  obtain ⟨hB, hK⟩ := set5 Hb.out rfl (.slice a' (elen x.l) c') (.int .i64 x.h.k) (.int .i64 x.h.n) (.string x.h.s) (.slice a' (elen x.l) c')
  refine bodyPost_ret (v := .agg #[.int .i64 x.h.k, .int .i64 x.h.n, .string x.h.s, .slice a' (elen x.l) c']) (by simp [results, Try.results53, go_sem, c0, c1, c2, c3]) rfl ⟨_, rfl, (Hv'.out.same (lo' := w.heap.size) (by simp; omega) (fun a v hl hc => hK a v (by simpa using hl) hc)), hB⟩
theorem infoIE : (Try.prog.info? 26).map (fun i => (i.zero, i.size, i.bytes)) = some (some (.agg #[.int .i64 0, .int .i64 0, .string ⟨#[]⟩, .slice Option.none 0 0]), 4, 56) := by kernel_rfl
/-- One more expression behind those that are laid. -/
theorem ERow.next {w w' : World} {lo g : Nat} {P : EF} {xs : List Value} {h : EH} {l : EF} {v : Value} (p q : Nat) (hP : ERow w lo P xs) (hk : Keeps lo w w') (hv : EV w' lo l v) (hr : w'.rangeAt g 0 xs) (h4 : w'.rangeAt g (elen P * 4) [.int .i64 h.k, .int .i64 h.n, .string h.s, v]) :
    ERow w' lo (eapp P (.node p q h l .nil)) (xs ++ [.int .i64 h.k, .int .i64 h.n, .string h.s, v]) ∧ w'.rangeAt g 0 (xs ++ [.int .i64 h.k, .int .i64 h.n, .string h.s, v]) :=
  ⟨(ERow.same (Nat.le_refl _) hk hP).app (ERow.one hv), rangeAt_app hr (by rw [hP.length, Nat.zero_add]; exact h4)⟩
theorem all4 (k n : Int) (t : ByteArray) (a : Option Addr) (l c : Nat) : (#[.int .i64 k, .int .i64 n, .string t, .slice a l c] : Array Value).all (·.oneCell') = true :=
  all_oneCell_toArray (cs := [.int .i64 k, .int .i64 n, .string t, .slice a l c]) (fun v hv => by
    simp only [List.mem_cons, List.not_mem_nil, or_false] at hv
    rcases hv with rfl | rfl | rfl | rfl <;> rfl)
set_option maxHeartbeats 400000 in
theorem toExpS_step (F : EF) (hF : esize F ≤ 1048576)
    (ih : ∀ l : EF, enodes l < enodes F → esize l ≤ 1048576 → ∀ (w : World) (v : Value), EV w 0 l v → Calls Try.prog 67 #[v] w fun e w' => ∃ v', e = .returned v' ∧ EV w' w.heap.size l v' ∧ Below w.heap.size w w')
    (w : World) (v : Value) (hv : EV w 0 F v) :
    Calls Try.prog 67 #[v] w fun e w' => ∃ v', e = .returned v' ∧ EV w' w.heap.size F v' ∧ Below w.heap.size w w' := by
  have hn : elen F ≤ 1048576 := Nat.le_trans (Nat.le_trans (elen_le F) (enodes_le F)) hF
  obtain ⟨b, o, ao, cap, rfl, hao, _, hin⟩ := hv
  obtain ⟨i0, hi, hz0, hz1, hz2⟩ := info_parts infoIE
  have Hih := Lib.hid ih
  clear ih
  go_enter Try.func67, Try.ntmps67
  go_wp2_with (refine wpList_make_full _ rfl _ _ 24 rfl w.heap.size 26 i0 _ 4 Try.underlying24 hi hz0 hz1 .i64 .i64 _ _ (elen F) rfl rfl rfl rfl ?c1 ?c2 ?c3 ?_)
  case c1 => rw [hz2]; omega
  case c2 => unfold maxLen; omega
  case c3 => exact Nat.le_refl _
  intro w1 hown hgrow
  obtain ⟨cur, hcur, _, hcs, _⟩ := own_block hown
  have hbw : Below w.heap.size w w1 := (Below.refl _ w).grown hgrow (Nat.le_refl _) (fun k hk => by cases hk)
  have Hth : Hid (w1.there w.heap.size 0 (elen F * 4)) := blk_there hcur (by omega)
  have hsz : w.heap.size < w1.heap.size := (Array.getElem?_eq_some_iff.1 hcur).1
  clear hown hgrow hcur hcs
  go_wp2
  go_loopw [4] (fun i wr => ∃ (P R : EF) (xs : List Value), i = .int .i64 (elen P : Int) ∧ Hid (eapp P R = F ∧ enodes R ≤ enodes F ∧ esize R ≤ 1048576) ∧ EIn w 0 R b (o + elen P * 4) ∧ Hid (wr.there w.heap.size 0 (elen F * 4) ∧ ERow wr (w.heap.size + 1) P xs ∧ wr.rangeAt w.heap.size 0 xs ∧ w.heap.size < wr.heap.size) ∧ Below w.heap.size w wr) (fun i _ => elen F - (RowKit.intOf i).toNat)
  case atStart => exact ⟨.nil, F, [], rfl, ⟨rfl, Nat.le_refl _, hF⟩, by simpa [elen] using hin, ⟨Hth.out, rfl, (fun j v hv => by simp at hv), hsz⟩, hbw⟩
  case round =>
    obtain ⟨P, R, xs, rfl, hr, hinR, hm, hbr⟩ := hrel
    obtain ⟨e1, e2, e3⟩ := hr.out
    have eL := congrArg elen e1
    rw [elen_app] at eL
    cases R with
    | nil =>
      have hk : ¬ (elen P : Int) < (elen F : Int) := by simp only [elen] at eL; omega
      rw [eapp_nil] at e1
      subst e1
      go_wp2
      go_ret
      exact ⟨_, rfl, EV.laid hm.out.2.1 hm.out.2.2.1 _ (by omega), hbr⟩
    | node p q h l r =>
      have hlt : (elen P : Int) < (elen F : Int) := by simp only [elen] at eL; omega
      rcases hao with rfl | hnil
      · obtain ⟨⟨a0, a1, a2, u, a3, hu⟩, hinr⟩ := EIn_node.1 (EIn_later hbr _ _ _ hinR)
        have hinr0 := (EIn_node.1 hinR).2
        simp only [enodes] at e2
        simp only [esize] at e3
        have Hl := Lib.hid (fun w v => Hih.out l (by omega) (by omega) w v)
        have He : Hid (eapp (eapp P (.node p q h l .nil)) r = F ∧ enodes r ≤ enodes F ∧ esize r ≤ 1048576) := ⟨by rw [eapp_snoc]; exact e1, by omega, by omega⟩
        have HeL : Hid (elen P + (elen r + 1) = elen F) := eL
        clear hr hinR e1 e2 e3 hinr hin eL
        go_wp2_with fail
        refine (toExp_of ⟨h, l⟩ Hl.out _ u hu).mono ?_
        rintro e w2 ⟨v', rfl, hv', hb2⟩
        obtain ⟨t1, t2, t3, t4⟩ := hm.out
        have t1' := there_later t1 hb2
        have hbw2 := hbr.trans (hb2.mono hbr.size)
        have ht4 : w2.there w.heap.size (elen P * 4) 4 := by have := there_part t1' (elen P * 4) 4 (by have := HeL.out; omega); rwa [Nat.zero_add] at this
        obtain ⟨a', c', rfl⟩ := hv'.shape
        clear a0 a1 a2 a3
        go_wp2_with (refine wpList_store_mid rfl 26 _ _ rfl _ _ _ rfl rfl ?ht sizeIE (all4 _ _ _ _ _ _) ?_)
        case ht => exact ht4
        have hks : Keeps (w.heap.size + 1) w2 (w2.setCells w.heap.size (elen P * 4) [.int .i64 h.k, .int .i64 h.n, .string h.s, .slice a' (elen l) c']) := Keeps.sets _ (by omega) _ _
        obtain ⟨n1, n2⟩ := ERow.next p q t2 ((Keeps.later hb2).trans hks) ((hv'.lower t4).same (Nat.le_refl _) hks) (World.rangeAt_setCells_apart (rangeAt_later t3 hb2) w.heap.size (elen P * 4) [.int .i64 h.k, .int .i64 h.n, .string h.s, .slice a' (elen l) c'] (.inr (.inl (by rw [t2.length]; omega)))) (World.rangeAt_setCells_same _ _ _ _ ht4)
        have n3 := World.there_setCells t1' w.heap.size (elen P * 4) [.int .i64 h.k, .int .i64 h.n, .string h.s, .slice a' (elen l) c']
        have n4 := below_sets [.int .i64 h.k, .int .i64 h.n, .string h.s, .slice a' (elen l) c'] (elen P * 4) hbw2 (Nat.le_refl _)
        have n5 : w.heap.size < (w2.setCells w.heap.size (elen P * 4) [.int .i64 h.k, .int .i64 h.n, .string h.s, .slice a' (elen l) c']).heap.size := by rw [size_sets]; exact Nat.lt_of_lt_of_le t4 hb2.size
        have hlen : elen (eapp P (.node p q h l .nil)) = elen P + 1 := by rw [elen_app]; rfl
        have N := Lib.hid (And.intro n1 (And.intro n2 (And.intro n3 (And.intro n5 hlen))))
        clear t1 t2 t3 t1' ht4 hv' hb2 hbw2 hks n1 n2 n3 n5 hlen hm hbr
        go_wp2
        go_roundw
        case rel =>
          obtain ⟨n1, n2, n3, n5, hlen⟩ := N.out
          exact ⟨eapp P (.node p q h l .nil), r, _, by rw [hlen]; go_num, He.out, by rw [hlen, show o + (elen P + 1) * 4 = o + elen P * 4 + 4 by omega]; exact hinr0, ⟨n3, n1, n2, n5⟩, n4⟩
        case measure => simp [RowKit.intOf]; omega
      · subst hnil; simp only [elen] at eL; omega
theorem toExpS_all : ∀ (n : Nat) (F : EF), enodes F < n → esize F ≤ 1048576 → ∀ (w : World) (v : Value), EV w 0 F v → Calls Try.prog 67 #[v] w fun e w' => ∃ v', e = .returned v' ∧ EV w' w.heap.size F v' ∧ Below w.heap.size w w'
  | 0, _, h, _, _, _, _ => absurd h (by omega)
  | n + 1, F, h, hF, w, v, hv => toExpS_step F hF (fun l hl hk w v a => toExpS_all n l (by omega) hk w v a) w v hv
theorem toExpS_is (F : EF) (hF : esize F ≤ 1048576) (w : World) (v : Value) (hv : EV w 0 F v) :
    Calls Try.prog 67 #[v] w fun e w' => ∃ v', e = .returned v' ∧ EV w' w.heap.size F v' ∧ Below w.heap.size w w' := toExpS_all _ F (Nat.lt_succ_self _) hF w v hv
theorem toExp_is (x : X) (hx : xsize x ≤ 1048576) (w : World) (v : Value) (hv : EV w 0 x.l v) :
    Calls Try.prog 53 #[.agg #[.int .i64 x.h.k, .int .i64 x.h.n, .string x.h.s, v]] w fun e w' => ∃ v', e = .returned (.agg #[.int .i64 x.h.k, .int .i64 x.h.n, .string x.h.s, v']) ∧ EV w' w.heap.size x.l v' ∧ Below w.heap.size w w' :=
  toExp_of x (fun w v a => toExpS_is x.l (by unfold xsize at hx; omega) w v a) w v hv
end Go.Proofs.Ythokildkedlkfaa
