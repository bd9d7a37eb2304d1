import Derived.Test.YtpinockfakndlaaGreatZp
import Derived.Test.YtpinockfakndlaaGreatP23ofFnEvals
import Derived.Deep.AppendLies
import Derived.OneCell
import Derived.Shelf.LaysM
import Derived.Shelf.Strconv.Clone
import Derived.Shelf.SortM.Plain
import Derived.Shelf.SortM.SortNone
import Derived.Shelf.SlIter.Nil
import Derived.Ground.SlgmProg
import Derived.Ground.GgzProg
import Derived.Test.YtpinockfakndlaaGreatProg
import Derived.Test.YtpinockfakndlaaGreatP22ofFnEvals
import Derived.Maps.OwnSet
import Derived.Lib.SmallJoins
set_option maxHeartbeats 4000000
set_option maxRecDepth 100000
namespace Go.Proofs.YtpinockfakndlaaGreat
open Go.RowKit Go.Lib
set_option linter.unusedSimpArgs false
set_option linter.unusedVariables false
def nestB : SF → List ByteArray → Bool
  | .nil, _ => true
  | .node _ _ h l r, ns => (if h.k = 3 then ns.all (fun t => !decide (t = h.s)) && nestB l (ns ++ [h.s]) else true) && nestB r ns
def TS (w : World) (v : Value) (ns : List ByteArray) : Prop := ∃ g off c, v = .slice (some ⟨g, off, Option.none⟩) ns.length c ∧ g < w.heap.size ∧ ∀ i t, ns[i]? = some t → w.cell? ⟨g, off + i, Option.none⟩ = some (.string t)
theorem TS.tv {w : World} {v : Value} {ns : List ByteArray} (h : TS w v ns) : TV w 0 v ns := by
  obtain ⟨g, off, c, rfl, h1, h2⟩ := h
  exact ⟨_, c, rfl, .inr ⟨g, off, rfl, Nat.zero_le _, h1, h2⟩⟩
theorem TS.later {w w' : World} {v : Value} {ns : List ByteArray} (h : TS w v ns) (hb : Below w.heap.size w w') : TS w' v ns := by
  obtain ⟨g, off, c, rfl, h1, h2⟩ := h
  exact ⟨g, off, c, rfl, Nat.lt_of_lt_of_le h1 hb.size, fun i t hi => keeps hb (h2 i t hi)⟩
theorem TS.of {w : World} {B : Nat} {v : Value} {ns : List ByteArray} (hn : 0 < ns.length) (h : w.ownsRow B 9 1 v ns.length (ns.map Value.string)) : TS w v ns := by
  obtain ⟨ao, cap, rfl, h1⟩ := TV.of h
  rcases h1 with h1 | ⟨g, off, rfl, _, h2, h3⟩
  · subst h1; simp at hn
  · exact ⟨g, off, cap, rfl, h2, h3⟩
theorem TS.made (w : World) (t : TypeId) : TS (w.alloc (.cells #[] t)) (.slice (some ⟨w.heap.size, 0, Option.none⟩) 0 0) [] := ⟨w.heap.size, 0, 0, rfl, by simp, fun i t h => by simp at h⟩
theorem own_made (w : World) (B : Nat) (hB : B ≤ w.heap.size) (t : TypeId) : (w.alloc (.cells #[] t)).ownsRow B t 1 (.slice (some ⟨w.heap.size, 0, Option.none⟩) 0 0) 0 [] :=
  ⟨rfl, .inr ⟨w.heap.size, 0, #[], rfl, hB, by show (w.heap.push _)[w.heap.size]? = _; simp, Nat.le_refl _, by unfold maxLen; omega, rfl, rfl⟩⟩
theorem TS.news {w : World} {ns : List ByteArray} {g off : Nat} (hc : ∀ i t, ns[i]? = some t → w.cell? ⟨g, off + i, Option.none⟩ = some (.string t)) : ∀ j u, (ns.map Value.string)[j]? = some u → w.cell? ((⟨g, off, Option.none⟩ : Addr).add j) = some u := fun j u hj => by
  rw [List.getElem?_map] at hj
  cases hn : ns[j]? with
  | none => rw [hn] at hj; cases hj
  | some t =>
    rw [hn] at hj; injection hj with hj; subst hj
    have := hc j t hn
    unfold Addr.add; simp only []; split
    · rename_i e; have e' : j = 0 := by simpa using e
      subst e'; exact this
    · exact this
theorem str_one {ns : List ByteArray} : ∀ u ∈ ns.map Value.string, u.oneCell' = true := fun u hu => by
  obtain ⟨t, _, rfl⟩ := List.mem_map.1 hu; rfl
theorem below_grown {B : Nat} {w w1 w2 : World} {v : Value} {n : Nat} {xs : List Value} (hb : Below B w w1) (hB : B ≤ w1.heap.size) (hown : w1.ownsRow B 9 1 v n xs) (hg : w1.grownBy w2 v.ownBlock) : Below B w w2 := hb.grown hg hB (fun k hk => (hown.lt k hk).1)
theorem cell_grown {w w' : World} {v : Value} {b : Nat} {u : Value} (hg : w.grownBy w' v.ownBlock) (h : w.cell? ⟨b, 0, Option.none⟩ = some u) (hne : ∀ k, v.ownBlock = some k → k ≠ b) : w'.cell? ⟨b, 0, Option.none⟩ = some u := by
  have hlt := lt_of_cellA h
  have := hg.block b hlt (fun e => hne b e.symm rfl)
  unfold World.cell? at h ⊢; simp only [this]; exact h
theorem own_at {X : World} {b B : Nat} {t : TypeId} (h : X.heap[b]? = some (.cells #[] t (0, 0))) (hB : B ≤ b) : X.ownsRow B t 1 (.slice (some ⟨b, 0, Option.none⟩) 0 0) 0 [] :=
  ⟨rfl, .inr ⟨b, 0, #[], rfl, hB, h, Nat.le_refl _, by unfold maxLen; omega, rfl, rfl⟩⟩
theorem heap_prev (w : World) (a b : Obj) : ((w.alloc a).alloc b).heap[w.heap.size]? = some a := by rw [Below.heap_alloc _ _ _ (by simp)]; exact heap_last w a
theorem heap_next (w : World) (a b : Obj) : ((w.alloc a).alloc b).heap[w.heap.size + 1]? = some b := by
  have := heap_last (w.alloc a) b; rwa [World.size_alloc] at this
theorem one_cell (w : World) (u : Value) (t : TypeId) : (w.alloc (.cells #[u] t)).cell? ⟨w.heap.size, 0, Option.none⟩ = some u := cell_of_one (t := t) (by show (w.heap.push _)[w.heap.size]? = _; simp)
theorem one_cell2 (w : World) (o : Obj) (u : Value) (t : TypeId) : ((w.alloc o).alloc (.cells #[u] t)).cell? ⟨w.heap.size + 1, 0, Option.none⟩ = some u := by have := one_cell (w.alloc o) u t; rwa [World.size_alloc] at this
theorem one_news {w : World} {b : Nat} {u : Value} (h : w.cell? ⟨b, 0, Option.none⟩ = some u) : ∀ j x, [u][j]? = some x → w.cell? ((⟨b, 0, Option.none⟩ : Addr).add j) = some x := fun j x hj => by
  match j, hj with
  | 0, hj => cases hj; exact h
  | j + 1, hj => simp at hj
theorem str_one1 {s : ByteArray} : ∀ u ∈ [Value.string s], u.oneCell' = true := fun u hu => by simp only [List.mem_cons, List.not_mem_nil, or_false] at hu; subst hu; rfl
theorem l4Nest_step (F : SF)
    (ih : ∀ l : SF, snodes l < snodes F → ∀ (ns : List ByteArray) (w : World) (v vn : Value), ns.length + snodes l ≤ 10000000 → SV w 0 l v → TS w vn ns → Calls Tryz.prog 69 #[v, vn] w fun e w' => e = .returned (.bool (nestB l ns)) ∧ Below w.heap.size w w')
    (ns : List ByteArray) (w : World) (v vn : Value) (hN : ns.length + snodes F ≤ 10000000) (hv : SV w 0 F v) (hn : TS w vn ns) :
    Calls Tryz.prog 69 #[v, vn] w fun e w' => e = .returned (.bool (nestB F ns)) ∧ Below w.heap.size w w' := by
  obtain ⟨i0, hi0, hz0, hz1, hz2⟩ := info_parts infoStr
  obtain ⟨b, o, ao, cap, rfl, hao, _, hin⟩ := hv
  have Hih := hid ih
  have Hn := hid hn
  obtain ⟨ng, noff, ncap, rfl, hng, hnc⟩ := hn
  have hlenF := slen_le F
  obtain ⟨A, HA⟩ : ∃ A, Hid (A = nestB F ns) := ⟨_, rfl⟩
  have hAA : Hid (nestB F ns = A) := HA.out.symm
  rw [← HA.out]
  clear ih hng hnc
  go_enter Tryz.func69, Tryz.ntmps69
  go_wp2
  go_loopw [5] (fun i wr => ∃ (R : SF) (j : Nat), i = .int .i64 (j : Int) ∧ Hid (j + slen R = slen F ∧ snodes R ≤ snodes F ∧ nestB R ns = A ∧ SIn w 0 R b (o + j * 19)) ∧ Hid (Below w.heap.size w wr)) (fun i _ => slen F - (RowKit.intOf i).toNat)
  case atStart => exact ⟨F, 0, rfl, ⟨by omega, by omega, hAA.out, by simpa using hin⟩, Below.refl _ _⟩
  case round =>
    obtain ⟨R, j, rfl, hr, hbw⟩ := hrel
    obtain ⟨e1, e2, e3, e4⟩ := hr.out
    clear HA hAA
    cases R with
    | nil =>
      have hk : ¬ (j : Int) < (slen F : Int) := by simp only [slen] at e1; omega
      have E := hid (show true = A from e3)
      clear hr e3 e4 hin
      go_wp2
      go_ret
      exact ⟨ret_bool E.out, hbw.out⟩
    | node p q h l r =>
      have hlt : (j : Int) < (slen F : Int) := by simp only [slen] at e1; omega
      have hne : ¬ F = .nil := by intro e; subst e; simp only [slen] at e1; omega
      obtain rfl : ao = some ⟨b, o, Option.none⟩ := hao.resolve_right hne
      have hr0 := (SIn_node.1 e4).2
      obtain ⟨c0, c1, _, _, _, _, u, c18, hu⟩ := SC.later (SIn_node.1 e4).1 hbw.out
      simp only [snodes] at e2
      have Hl := hid (Hih.out l (by omega))
      have HU := hid (And.intro hu (Hn.out.later hbw.out))
      have He : Hid (j + 1 + slen r = slen F ∧ snodes r ≤ snodes F ∧ snodes l + 1 ≤ snodes F ∧ SIn w 0 r b (o + (j + 1) * 19)) :=
        ⟨by simp only [slen] at e1; omega, by omega, by omega, by rw [show o + (j + 1) * 19 = o + j * 19 + 19 by omega]; exact hr0⟩
      have E3 := hid (show ((if h.k = 3 then ns.all (fun t => !decide (t = h.s)) && nestB l (ns ++ [h.s]) else true) && nestB r ns) = A from e3)
      obtain ⟨ua, uc, rfl⟩ := hu.shape
      have C0 := hid (And.intro c1 c18)
      clear hr e1 e2 e3 e4 hin hne hao hu hr0 Hih
      by_cases hk : h.k = 3
      · have E4 := hid (show (ns.all (fun t => !decide (t = h.s)) && (nestB l (ns ++ [h.s]) && nestB r ns)) = A by have := E3.out; rw [if_pos hk, Bool.and_assoc] at this; exact this)
        clear E3
        have bd : Below wr.heap.size wr wr.drew := (Below.refl _ wr).drew
        have hwl : wr.drew.heap.size = wr.heap.size := rfl
        rw [hk] at c0
        have CN : Hid (∀ (w2 : World) (v2 : Value), Below wr.heap.size wr w2 → TS w2 v2 (ns ++ [h.s]) → Calls Tryz.prog 69 #[.slice ua (slen l) uc, v2] w2 fun e w' => e = .returned (.bool (nestB l (ns ++ [h.s]))) ∧ Below w2.heap.size w2 w') := fun w2 v2 hb2 h2 => Hl.out (ns ++ [h.s]) w2 _ v2 (by have := He.out; simp only [List.length_append, List.length_singleton]; omega) (HU.out.1.later hb2) h2
        cases hq : ns.all (fun t => !decide (t = h.s)) with
        | false =>
          have h1 := hid (and_f E4.out hq)
          have CH : Hid (∀ w2, Below wr.heap.size wr w2 → Calls Tryz.prog 118 #[.slice (some ⟨ng, noff, Option.none⟩) ns.length ncap, .string h.s] w2 fun e w' => e = .returned (.bool true) ∧ w2 = w') := fun w2 hb2 => has_is ns (by omega) h.s true (by rw [hq]; rfl) _ w2 (HU.out.2.later hb2).tv
          clear E4 hq Hl CN
          go_wp2_with fail
          refine wp_region_held_drew (S := Below wr.heap.size wr) (by kernel_rfl) bd (fun hHeld => ?_)
          refine wpAnyH_take (i := 0) (v := .slice (some ⟨ng, noff, Option.none⟩) ns.length ncap) rfl (by kernel_rfl) (by kernel_rfl) (by kernel_rfl) (fun _ _ _ => id) (Or.inl ⟨by rfl, ?yh0⟩) hHeld ?_
          case yh0 => intro w hSw; go_simp
          simp only [Act.put, zp]
          refine wpAnyH_take (i := 1) (v := .slice (some ⟨b, o, Option.none⟩) (slen F) cap) rfl (by kernel_rfl) (by kernel_rfl) (by kernel_rfl) (fun _ _ _ => id) (Or.inl ⟨by rfl, ?yh1⟩) hHeld ?_
          case yh1 => intro w hSw; go_simp
          simp only [Act.put, zp]
          refine wpAnyH_take (i := 2) (v := .int .i64 (j : Int)) rfl (by kernel_rfl) (by kernel_rfl) (by kernel_rfl) (fun _ _ _ => id) (Or.inl ⟨by rfl, ?yh2⟩) hHeld ?_
          case yh2 => intro w hSw; go_simp
          simp only [Act.put, zp]
          refine wpAnyH_take (i := 3) (v := .pointer (some ⟨b, o + j * 19, Option.none⟩)) rfl (by kernel_rfl) (by kernel_rfl) (by kernel_rfl) (fun _ _ _ => id) (Or.inl ⟨by rfl, ?yh3⟩) hHeld ?_
          case yh3 => intro w hSw; go_simp
          simp only [Act.put, zp]
          refine wpAnyH_take (i := 4) (v := .pointer (some ⟨b, o + j * 19 + 1, Option.none⟩)) rfl (by kernel_rfl) (by kernel_rfl) (by kernel_rfl) (fun _ _ _ => id) (Or.inl ⟨by rfl, ?yh4⟩) hHeld ?_
          case yh4 => intro w hSw; go_simp
          simp only [Act.put, zp]
          refine wpAnyH_take (i := 5) (v := .string h.s) rfl (by kernel_rfl) (by kernel_rfl) (by kernel_rfl) (fun _ _ _ => id) (Or.inl ⟨by rfl, ?yh5⟩) hHeld ?_
          case yh5 => intro w hSw; have q := keeps hSw C0.out.1; go_simp
          simp only [Act.put, zp]
          refine wpAnyH_ready (rs := [6]) (by kernel_rfl) (by simp) ?_
          refine AllReadyH.cons rfl (fun K hK => ?_) AllReadyH.nil
          rw [if_pos (by rfl)]
          simp only [zq]
          go_wp2_with fail
          refine (CH.out _ bd).mono ?_
          rintro e w4 ⟨rfl, rfl⟩
          go_wp2_with fail
          refine hK.out _ _ (hHeld) (fun hHeld => ?_)
          refine wpAnyH_take (i := 7) (v := .bool true) rfl (by kernel_rfl) (by kernel_rfl) (by kernel_rfl) (fun _ _ _ => id) (Or.inl ⟨by rfl, ?yh7⟩) hHeld ?_
          case yh7 => intro w hSw; go_simp
          simp only [Act.put, zp]
          refine wpAnyH_take (i := 8) (v := undef) rfl (by kernel_rfl) (by kernel_rfl) (by kernel_rfl) (fun _ _ _ => id) (Or.inr ⟨by rfl, rfl⟩) hHeld ?_
          simp only [Act.put, zp]
          refine wpAnyH_take (i := 9) (v := undef) rfl (by kernel_rfl) (by kernel_rfl) (by kernel_rfl) (fun _ _ _ => id) (Or.inr ⟨by rfl, rfl⟩) hHeld ?_
          simp only [Act.put, zp]
          refine wpAnyH_take (i := 10) (v := undef) rfl (by kernel_rfl) (by kernel_rfl) (by kernel_rfl) (fun _ _ _ => id) (Or.inr ⟨by rfl, rfl⟩) hHeld ?_
          simp only [Act.put, zp]
          refine wpAnyH_take (i := 11) (v := undef) rfl (by kernel_rfl) (by kernel_rfl) (by kernel_rfl) (fun _ _ _ => id) (Or.inr ⟨by rfl, rfl⟩) hHeld ?_
          simp only [Act.put, zp]
          refine wpAnyH_take (i := 12) (v := undef) rfl (by kernel_rfl) (by kernel_rfl) (by kernel_rfl) (fun _ _ _ => id) (Or.inr ⟨by rfl, rfl⟩) hHeld ?_
          simp only [Act.put, zp]
          refine wpAnyH_take (i := 13) (v := undef) rfl (by kernel_rfl) (by kernel_rfl) (by kernel_rfl) (fun _ _ _ => id) (Or.inr ⟨by rfl, rfl⟩) hHeld ?_
          simp only [Act.put, zp]
          refine wpAnyH_take (i := 14) (v := undef) rfl (by kernel_rfl) (by kernel_rfl) (by kernel_rfl) (fun _ _ _ => id) (Or.inr ⟨by rfl, rfl⟩) hHeld ?_
          simp only [Act.put, zp]
          refine wpAnyH_take (i := 15) (v := undef) rfl (by kernel_rfl) (by kernel_rfl) (by kernel_rfl) (fun _ _ _ => id) (Or.inr ⟨by rfl, rfl⟩) hHeld ?_
          simp only [Act.put, zp]
          refine wpAnyH_take (i := 16) (v := undef) rfl (by kernel_rfl) (by kernel_rfl) (by kernel_rfl) (fun _ _ _ => id) (Or.inr ⟨by rfl, rfl⟩) hHeld ?_
          simp only [Act.put, zp]
          refine wpAnyH_take (i := 17) (v := undef) rfl (by kernel_rfl) (by kernel_rfl) (by kernel_rfl) (fun _ _ _ => id) (Or.inr ⟨by rfl, rfl⟩) hHeld ?_
          simp only [Act.put, zp]
          refine wpAnyH_take (i := 18) (v := undef) rfl (by kernel_rfl) (by kernel_rfl) (by kernel_rfl) (fun _ _ _ => id) (Or.inr ⟨by rfl, rfl⟩) hHeld ?_
          simp only [Act.put, zp]
          refine wpAnyH_take (i := 19) (v := undef) rfl (by kernel_rfl) (by kernel_rfl) (by kernel_rfl) (fun _ _ _ => id) (Or.inr ⟨by rfl, rfl⟩) hHeld ?_
          simp only [Act.put, zp]
          refine wpAnyH_take (i := 20) (v := undef) rfl (by kernel_rfl) (by kernel_rfl) (by kernel_rfl) (fun _ _ _ => id) (Or.inr ⟨by rfl, rfl⟩) hHeld ?_
          simp only [Act.put, zp]
          refine wpAnyH_take (i := 21) (v := undef) rfl (by kernel_rfl) (by kernel_rfl) (by kernel_rfl) (fun _ _ _ => id) (Or.inr ⟨by rfl, rfl⟩) hHeld ?_
          simp only [Act.put, zp]
          refine wpAnyH_take (i := 22) (v := undef) rfl (by kernel_rfl) (by kernel_rfl) (by kernel_rfl) (fun _ _ _ => id) (Or.inr ⟨by rfl, rfl⟩) hHeld ?_
          simp only [Act.put, zp]
          refine wpAnyH_take (i := 23) (v := undef) rfl (by kernel_rfl) (by kernel_rfl) (by kernel_rfl) (fun _ _ _ => id) (Or.inr ⟨by rfl, rfl⟩) hHeld ?_
          simp only [Act.put, zp]
          refine wpAnyH_take (i := 24) (v := undef) rfl (by kernel_rfl) (by kernel_rfl) (by kernel_rfl) (fun _ _ _ => id) (Or.inr ⟨by rfl, rfl⟩) hHeld ?_
          simp only [Act.put, zp]
          refine wpAnyH_take (i := 25) (v := .bool true) rfl (by kernel_rfl) (by kernel_rfl) (by kernel_rfl) (fun _ _ _ => id) (Or.inl ⟨by rfl, ?yh25⟩) hHeld ?_
          case yh25 => intro w hSw; go_simp
          simp only [Act.put, zp]
          refine wpAnyH_done (by kernel_rfl) ?_ _
          have B4 := hid (hbw.out.trans (bd.mono hbw.out.size))
          clear hHeld bd
          go_wp2
          go_ret
          exact ⟨ret_bool h1.out.symm, B4.out⟩
        | true =>
          have h1 := hid (and_t E4.out hq)
          have CH : Hid (∀ w2, Below wr.heap.size wr w2 → Calls Tryz.prog 118 #[.slice (some ⟨ng, noff, Option.none⟩) ns.length ncap, .string h.s] w2 fun e w' => e = .returned (.bool false) ∧ w2 = w') := fun w2 hb2 => has_is ns (by omega) h.s false (by rw [hq]; rfl) _ w2 (HU.out.2.later hb2).tv
          have HN : Hid (∀ w2, Below wr.heap.size wr w2 → ∀ i t, ns[i]? = some t → w2.cell? ⟨ng, noff + i, Option.none⟩ = some (.string t)) := fun w2 hb2 => by
            obtain ⟨g', off', c', e', _, hc'⟩ := HU.out.2.later hb2
            injection e' with e1 e2 e3
            injection e1 with e1
            injection e1 with e4 e5
            subst e4; subst e5; exact hc'
          obtain ⟨rb, Hrb⟩ : ∃ rb, Hid (rb = nestB l (ns ++ [h.s])) := ⟨_, rfl⟩
          rw [← Hrb.out] at CN
          clear E4 hq Hl
          go_wp2_with fail
          refine wp_region_held_drew (S := Below wr.heap.size wr) (by kernel_rfl) bd (fun hHeld => ?_)
          refine wpAnyH_take (i := 0) (v := .slice (some ⟨ng, noff, Option.none⟩) ns.length ncap) rfl (by kernel_rfl) (by kernel_rfl) (by kernel_rfl) (fun _ _ _ => id) (Or.inl ⟨by rfl, ?yg0⟩) hHeld ?_
          case yg0 => intro w hSw; go_simp
          simp only [Act.put, zp]
          refine wpAnyH_take (i := 1) (v := .slice (some ⟨b, o, Option.none⟩) (slen F) cap) rfl (by kernel_rfl) (by kernel_rfl) (by kernel_rfl) (fun _ _ _ => id) (Or.inl ⟨by rfl, ?yg1⟩) hHeld ?_
          case yg1 => intro w hSw; go_simp
          simp only [Act.put, zp]
          refine wpAnyH_take (i := 2) (v := .int .i64 (j : Int)) rfl (by kernel_rfl) (by kernel_rfl) (by kernel_rfl) (fun _ _ _ => id) (Or.inl ⟨by rfl, ?yg2⟩) hHeld ?_
          case yg2 => intro w hSw; go_simp
          simp only [Act.put, zp]
          refine wpAnyH_take (i := 3) (v := .pointer (some ⟨b, o + j * 19, Option.none⟩)) rfl (by kernel_rfl) (by kernel_rfl) (by kernel_rfl) (fun _ _ _ => id) (Or.inl ⟨by rfl, ?yg3⟩) hHeld ?_
          case yg3 => intro w hSw; go_simp
          simp only [Act.put, zp]
          refine wpAnyH_take (i := 4) (v := .pointer (some ⟨b, o + j * 19 + 1, Option.none⟩)) rfl (by kernel_rfl) (by kernel_rfl) (by kernel_rfl) (fun _ _ _ => id) (Or.inl ⟨by rfl, ?yg4⟩) hHeld ?_
          case yg4 => intro w hSw; go_simp
          simp only [Act.put, zp]
          refine wpAnyH_take (i := 5) (v := .string h.s) rfl (by kernel_rfl) (by kernel_rfl) (by kernel_rfl) (fun _ _ _ => id) (Or.inl ⟨by rfl, ?yg5⟩) hHeld ?_
          case yg5 => intro w hSw; have q := keeps hSw C0.out.1; go_simp
          simp only [Act.put, zp]
          refine wpAnyH_ready (rs := [6]) (by kernel_rfl) (by simp) ?_
          refine AllReadyH.cons rfl (fun K hK => ?_) AllReadyH.nil
          rw [if_pos (by rfl)]
          simp only [zq]
          go_wp2_with fail
          refine (CH.out _ bd).mono ?_
          rintro e w4 ⟨rfl, rfl⟩
          go_wp2_with fail
          refine hK.out _ _ (hHeld) (fun hHeld => ?_)
          refine wpAnyH_take (i := 7) (v := .bool false) rfl (by kernel_rfl) (by kernel_rfl) (by kernel_rfl) (fun _ _ _ => id) (Or.inl ⟨by rfl, ?yg7⟩) hHeld ?_
          case yg7 => intro w hSw; go_simp
          simp only [Act.put, zp]
          refine wpAnyH_take (i := 8) (v := .slice (some ⟨b, o, Option.none⟩) (slen F) cap) rfl (by kernel_rfl) (by kernel_rfl) (by kernel_rfl) (fun _ _ _ => id) (Or.inl ⟨by rfl, ?yg8⟩) hHeld ?_
          case yg8 => intro w hSw; go_simp
          simp only [Act.put, zp]
          refine wpAnyH_take (i := 9) (v := .int .i64 (j : Int)) rfl (by kernel_rfl) (by kernel_rfl) (by kernel_rfl) (fun _ _ _ => id) (Or.inl ⟨by rfl, ?yg9⟩) hHeld ?_
          case yg9 => intro w hSw; go_simp
          simp only [Act.put, zp]
          refine wpAnyH_take (i := 10) (v := .pointer (some ⟨b, o + j * 19, Option.none⟩)) rfl (by kernel_rfl) (by kernel_rfl) (by kernel_rfl) (fun _ _ _ => id) (Or.inl ⟨by rfl, ?yg10⟩) hHeld ?_
          case yg10 => intro w hSw; go_simp
          simp only [Act.put, zp]
          refine wpAnyH_take (i := 11) (v := .pointer (some ⟨b, o + j * 19 + 18, Option.none⟩)) rfl (by kernel_rfl) (by kernel_rfl) (by kernel_rfl) (fun _ _ _ => id) (Or.inl ⟨by rfl, ?yg11⟩) hHeld ?_
          case yg11 => intro w hSw; go_simp
          simp only [Act.put, zp]
          refine wpAnyH_take (i := 12) (v := .slice ua (slen l) uc) rfl (by kernel_rfl) (by kernel_rfl) (by kernel_rfl) (fun _ _ _ => id) (Or.inl ⟨by rfl, ?yg12⟩) hHeld ?_
          case yg12 => intro w hSw; have q := keeps hSw C0.out.2; go_simp
          simp only [Act.put, zp]
          refine wpAnyH_take (i := 14) (v := .slice (some ⟨ng, noff, Option.none⟩) ns.length ncap) rfl (by kernel_rfl) (by kernel_rfl) (by kernel_rfl) (fun _ _ _ => id) (Or.inl ⟨by rfl, ?yg14⟩) hHeld ?_
          case yg14 => intro w hSw; go_simp
          simp only [Act.put, zp]
          refine wpAnyH_take (i := 16) (v := .slice (some ⟨b, o, Option.none⟩) (slen F) cap) rfl (by kernel_rfl) (by kernel_rfl) (by kernel_rfl) (fun _ _ _ => id) (Or.inl ⟨by rfl, ?yg16⟩) hHeld ?_
          case yg16 => intro w hSw; go_simp
          simp only [Act.put, zp]
          refine wpAnyH_take (i := 17) (v := .int .i64 (j : Int)) rfl (by kernel_rfl) (by kernel_rfl) (by kernel_rfl) (fun _ _ _ => id) (Or.inl ⟨by rfl, ?yg17⟩) hHeld ?_
          case yg17 => intro w hSw; go_simp
          simp only [Act.put, zp]
          refine wpAnyH_take (i := 18) (v := .pointer (some ⟨b, o + j * 19, Option.none⟩)) rfl (by kernel_rfl) (by kernel_rfl) (by kernel_rfl) (fun _ _ _ => id) (Or.inl ⟨by rfl, ?yg18⟩) hHeld ?_
          case yg18 => intro w hSw; go_simp
          simp only [Act.put, zp]
          refine wpAnyH_take (i := 19) (v := .pointer (some ⟨b, o + j * 19 + 1, Option.none⟩)) rfl (by kernel_rfl) (by kernel_rfl) (by kernel_rfl) (fun _ _ _ => id) (Or.inl ⟨by rfl, ?yg19⟩) hHeld ?_
          case yg19 => intro w hSw; go_simp
          simp only [Act.put, zp]
          refine wpAnyH_take (i := 20) (v := .string h.s) rfl (by kernel_rfl) (by kernel_rfl) (by kernel_rfl) (fun _ _ _ => id) (Or.inl ⟨by rfl, ?yg20⟩) hHeld ?_
          case yg20 => intro w hSw; have q := keeps hSw C0.out.1; go_simp
          simp only [Act.put, zp]
          refine wpAnyH_ready (rs := [13, 21]) (by kernel_rfl) (by simp) ?_
          refine AllReadyH.cons rfl (fun K hK => ?_) (AllReadyH.cons rfl (fun K hK => ?_) AllReadyH.nil)
          · rw [if_pos (by rfl)]
            simp only [zq]
            go_wp2_with fail
            refine hK.out _ _ (hHeld.alloc hHeld.size _) (fun hHeld => ?_)
            try simp only [Act.put, zp]
            refine wpAnyH_ready (rs := [15, 21]) (by kernel_rfl) (by simp) ?_
            refine AllReadyH.cons rfl (fun K hK => ?_) (AllReadyH.cons rfl (fun K hK => ?_) AllReadyH.nil)
            · rw [if_pos (by rfl)]
              simp only [zq]
              refine wp_append_own _ _ _ 57 (by rfl) wr.heap.size 9 i0 _ 1 16 Tryz.underlying57 hi0 hz0 hz1 hz2 rfl (by decide) _ _ _ (by rfl) (own_at (heap_last wr _) (Nat.le_refl _)) ⟨ng, noff, Option.none⟩ ns.length ncap (ns.map Value.string) (by rfl) (by simp) (TS.news (HN.out _ hHeld)) str_one (by unfold maxLen; omega) (by omega) hHeld.size ?_
              intro v5 w5 hown5 hg5 _
              have hb5 := below_grown hHeld hHeld.size (own_at (heap_last wr _) (Nat.le_refl _)) hg5
              refine hK.out _ _ hb5 (fun hHeld => ?_)
              try simp only [Act.put, zp]
              refine wpAnyH_ready (rs := [21]) (by kernel_rfl) (by simp) ?_
              refine AllReadyH.cons rfl (fun K hK => ?_) AllReadyH.nil
              rw [if_pos (by rfl)]
              simp only [zq]
              go_wp2_with fail
              refine hK.out _ _ (hHeld.alloc hHeld.size _) (fun hHeld => ?_)
              try simp only [Act.put, zp]
              refine wpAnyH_ready (rs := [22]) (by kernel_rfl) (by simp) ?_
              refine AllReadyH.cons rfl (fun K hK => ?_) AllReadyH.nil
              rw [if_pos (by rfl)]
              simp only [zq]
              refine wp_append_own _ _ _ 57 (by rfl) wr.heap.size 9 i0 _ 1 16 Tryz.underlying57 hi0 hz0 hz1 hz2 rfl (by decide) _ _ _ (by rfl) (hown5.alloc _) ⟨w5.heap.size, 0, Option.none⟩ 1 1 [.string h.s] (by rfl) (by rfl) (one_news (one_cell _ _ _)) str_one1 (by unfold maxLen; omega) (by omega) hHeld.size ?_
              intro v6 w6 hown6 hg6 _
              have hb6 := below_grown hHeld hHeld.size (hown5.alloc _) hg6
              have T6 : Hid (TS w6 v6 (ns ++ [h.s])) := TS.of (by simp) (by simpa using hown6)
              refine hK.out _ _ hb6 (fun hHeld => ?_)
              clear hown6 hg6
              try simp only [Act.put, zp]
              refine wpAnyH_ready (rs := [23]) (by kernel_rfl) (by simp) ?_
              refine AllReadyH.cons rfl (fun K hK => ?_) AllReadyH.nil
              rw [if_pos (by rfl)]
              simp only [zq]
              go_wp2_with fail
              refine (CN.out w6 v6 hHeld T6.out).mono ?_
              rintro e w7 ⟨rfl, hb7⟩
              go_wp2_with fail
              refine hK.out _ _ (hHeld.trans (hb7.mono hHeld.size)) (fun hHeld => ?_)
              try simp only [Act.put, zp]
              refine wpAnyH_take (i := 24) (v := .bool (!rb)) rfl (by kernel_rfl) (by kernel_rfl) (by kernel_rfl) (fun _ _ _ => id) (Or.inl ⟨by rfl, ?zp24⟩) hHeld ?_
              case zp24 => intro w hSw; go_simp
              simp only [Act.put, zp]
              refine wpAnyH_take (i := 25) (v := .bool (!rb)) rfl (by kernel_rfl) (by kernel_rfl) (by kernel_rfl) (fun _ _ _ => id) (Or.inl ⟨by rfl, ?zp25⟩) hHeld ?_
              case zp25 => intro w hSw; go_simp
              simp only [Act.put, zp]
              refine wpAnyH_done (by kernel_rfl) ?_ _
              have B7 := hid (hbw.out.trans (hHeld.mono hbw.out.size))
              clear hb5 hb6 hb7 hHeld T6 bd CN CH hown5 hg5
              cases rb with
              | false =>
                have h2 := hid (and_f h1.out Hrb.out.symm)
                clear h1 Hrb
                go_wp2
                go_ret
                exact ⟨ret_bool h2.out.symm, B7.out⟩
              | true =>
                have h2 := hid (and_t h1.out Hrb.out.symm)
                clear h1 Hrb
                go_wp2
                go_roundw
                case rel => exact ⟨r, j + 1, by go_num, ⟨He.out.1, He.out.2.1, h2.out, He.out.2.2.2⟩, B7⟩
                case measure => simp [RowKit.intOf]; omega
            · rw [if_pos (by rfl)]
              simp only [zq]
              go_wp2_with fail
              refine hK.out _ _ (hHeld.alloc hHeld.size _) (fun hHeld => ?_)
              try simp only [Act.put, zp]
              refine wpAnyH_ready (rs := [15]) (by kernel_rfl) (by simp) ?_
              refine AllReadyH.cons rfl (fun K hK => ?_) AllReadyH.nil
              rw [if_pos (by rfl)]
              simp only [zq]
              refine wp_append_own _ _ _ 57 (by rfl) wr.heap.size 9 i0 _ 1 16 Tryz.underlying57 hi0 hz0 hz1 hz2 rfl (by decide) _ _ _ (by rfl) (own_at (heap_prev wr _ _) (Nat.le_refl _)) ⟨ng, noff, Option.none⟩ ns.length ncap (ns.map Value.string) (by rfl) (by simp) (TS.news (HN.out _ hHeld)) str_one (by unfold maxLen; omega) (by omega) hHeld.size ?_
              intro v5 w5 hown5 hg5 _
              have hb5 := below_grown hHeld hHeld.size (own_at (heap_prev wr _ _) (Nat.le_refl _)) hg5
              have hc5 := cell_grown hg5 (one_cell2 wr _ _ _) (by intro k hk; injection hk with hk; subst hk; simp)
              refine hK.out _ _ hb5 (fun hHeld => ?_)
              simp only [Act.put, zp]
              refine wpAnyH_ready (rs := [22]) (by kernel_rfl) (by simp) ?_
              refine AllReadyH.cons rfl (fun K hK => ?_) AllReadyH.nil
              rw [if_pos (by rfl)]
              simp only [zq]
              refine wp_append_own _ _ _ 57 (by rfl) wr.heap.size 9 i0 _ 1 16 Tryz.underlying57 hi0 hz0 hz1 hz2 rfl (by decide) _ _ _ (by rfl) (hown5) ⟨wr.heap.size + 1, 0, Option.none⟩ 1 1 [.string h.s] (by rfl) (by rfl) (one_news (hc5)) str_one1 (by unfold maxLen; omega) (by omega) hHeld.size ?_
              intro v6 w6 hown6 hg6 _
              have hb6 := below_grown hHeld hHeld.size (hown5) hg6
              have T6 : Hid (TS w6 v6 (ns ++ [h.s])) := TS.of (by simp) (by simpa using hown6)
              refine hK.out _ _ hb6 (fun hHeld => ?_)
              clear hown6 hg6
              try simp only [Act.put, zp]
              refine wpAnyH_ready (rs := [23]) (by kernel_rfl) (by simp) ?_
              refine AllReadyH.cons rfl (fun K hK => ?_) AllReadyH.nil
              rw [if_pos (by rfl)]
              simp only [zq]
              go_wp2_with fail
              refine (CN.out w6 v6 hHeld T6.out).mono ?_
              rintro e w7 ⟨rfl, hb7⟩
              go_wp2_with fail
              refine hK.out _ _ (hHeld.trans (hb7.mono hHeld.size)) (fun hHeld => ?_)
              try simp only [Act.put, zp]
              refine wpAnyH_take (i := 24) (v := .bool (!rb)) rfl (by kernel_rfl) (by kernel_rfl) (by kernel_rfl) (fun _ _ _ => id) (Or.inl ⟨by rfl, ?zq24⟩) hHeld ?_
              case zq24 => intro w hSw; go_simp
              simp only [Act.put, zp]
              refine wpAnyH_take (i := 25) (v := .bool (!rb)) rfl (by kernel_rfl) (by kernel_rfl) (by kernel_rfl) (fun _ _ _ => id) (Or.inl ⟨by rfl, ?zq25⟩) hHeld ?_
              case zq25 => intro w hSw; go_simp
              simp only [Act.put, zp]
              refine wpAnyH_done (by kernel_rfl) ?_ _
              have B7 := hid (hbw.out.trans (hHeld.mono hbw.out.size))
              clear hb5 hb6 hb7 hHeld T6 bd CN CH hown5 hg5
              cases rb with
              | false =>
                have h2 := hid (and_f h1.out Hrb.out.symm)
                clear h1 Hrb
                go_wp2
                go_ret
                exact ⟨ret_bool h2.out.symm, B7.out⟩
              | true =>
                have h2 := hid (and_t h1.out Hrb.out.symm)
                clear h1 Hrb
                go_wp2
                go_roundw
                case rel => exact ⟨r, j + 1, by go_num, ⟨He.out.1, He.out.2.1, h2.out, He.out.2.2.2⟩, B7⟩
                case measure => simp [RowKit.intOf]; omega
          · rw [if_pos (by rfl)]
            simp only [zq]
            go_wp2_with fail
            refine hK.out _ _ (hHeld.alloc hHeld.size _) (fun hHeld => ?_)
            have hHeld0 := hHeld
            try simp only [Act.put, zp]
            refine wpAnyH_ready (rs := [13]) (by kernel_rfl) (by simp) ?_
            refine AllReadyH.cons rfl (fun K hK => ?_) AllReadyH.nil
            rw [if_pos (by rfl)]
            simp only [zq]
            go_wp2_with fail
            refine hK.out _ _ (hHeld.alloc hHeld.size _) (fun hHeld => ?_)
            try simp only [Act.put, zp]
            refine wpAnyH_ready (rs := [15]) (by kernel_rfl) (by simp) ?_
            refine AllReadyH.cons rfl (fun K hK => ?_) AllReadyH.nil
            rw [if_pos (by rfl)]
            simp only [zq]
            refine wp_append_own _ _ _ 57 (by rfl) wr.heap.size 9 i0 _ 1 16 Tryz.underlying57 hi0 hz0 hz1 hz2 rfl (by decide) _ _ _ (by rfl) (own_at (heap_next wr _ _) (Nat.le_succ _)) ⟨ng, noff, Option.none⟩ ns.length ncap (ns.map Value.string) (by rfl) (by simp) (TS.news (HN.out _ hHeld)) str_one (by unfold maxLen; omega) (by omega) hHeld.size ?_
            intro v5 w5 hown5 hg5 _
            have hb5 := below_grown hHeld hHeld.size (own_at (heap_next wr _ _) (Nat.le_succ _)) hg5
            have hc5 := cell_grown hg5 (keeps (aB (wr.alloc _) _) (one_cell wr _ _)) (by intro k hk; injection hk with hk; subst hk; simp)
            refine hK.out _ _ hb5 (fun hHeld => ?_)
            simp only [Act.put, zp]
            refine wpAnyH_ready (rs := [22]) (by kernel_rfl) (by simp) ?_
            refine AllReadyH.cons rfl (fun K hK => ?_) AllReadyH.nil
            rw [if_pos (by rfl)]
            simp only [zq]
            refine wp_append_own _ _ _ 57 (by rfl) wr.heap.size 9 i0 _ 1 16 Tryz.underlying57 hi0 hz0 hz1 hz2 rfl (by decide) _ _ _ (by rfl) (hown5) ⟨wr.heap.size, 0, Option.none⟩ 1 1 [.string h.s] (by rfl) (by rfl) (one_news (hc5)) str_one1 (by unfold maxLen; omega) (by omega) hHeld.size ?_
            intro v6 w6 hown6 hg6 _
            have hb6 := below_grown hHeld hHeld.size (hown5) hg6
            have T6 : Hid (TS w6 v6 (ns ++ [h.s])) := TS.of (by simp) (by simpa using hown6)
            refine hK.out _ _ hb6 (fun hHeld => ?_)
            clear hown6 hg6
            try simp only [Act.put, zp]
            refine wpAnyH_ready (rs := [23]) (by kernel_rfl) (by simp) ?_
            refine AllReadyH.cons rfl (fun K hK => ?_) AllReadyH.nil
            rw [if_pos (by rfl)]
            simp only [zq]
            go_wp2_with fail
            refine (CN.out w6 v6 hHeld T6.out).mono ?_
            rintro e w7 ⟨rfl, hb7⟩
            go_wp2_with fail
            refine hK.out _ _ (hHeld.trans (hb7.mono hHeld.size)) (fun hHeld => ?_)
            try simp only [Act.put, zp]
            refine wpAnyH_take (i := 24) (v := .bool (!rb)) rfl (by kernel_rfl) (by kernel_rfl) (by kernel_rfl) (fun _ _ _ => id) (Or.inl ⟨by rfl, ?zr24⟩) hHeld ?_
            case zr24 => intro w hSw; go_simp
            simp only [Act.put, zp]
            refine wpAnyH_take (i := 25) (v := .bool (!rb)) rfl (by kernel_rfl) (by kernel_rfl) (by kernel_rfl) (fun _ _ _ => id) (Or.inl ⟨by rfl, ?zr25⟩) hHeld ?_
            case zr25 => intro w hSw; go_simp
            simp only [Act.put, zp]
            refine wpAnyH_done (by kernel_rfl) ?_ _
            have B7 := hid (hbw.out.trans (hHeld.mono hbw.out.size))
            clear hb5 hb6 hb7 hHeld T6 bd CN CH hown5 hg5
            cases rb with
            | false =>
              have h2 := hid (and_f h1.out Hrb.out.symm)
              clear h1 Hrb
              go_wp2
              go_ret
              exact ⟨ret_bool h2.out.symm, B7.out⟩
            | true =>
              have h2 := hid (and_t h1.out Hrb.out.symm)
              clear h1 Hrb
              go_wp2
              go_roundw
              case rel => exact ⟨r, j + 1, by go_num, ⟨He.out.1, He.out.2.1, h2.out, He.out.2.2.2⟩, B7⟩
              case measure => simp [RowKit.intOf]; omega
      · have h2 := hid (show nestB r ns = A by have := E3.out; rw [if_neg hk, Bool.true_and] at this; exact this)
        have hne := int_ne hk
        clear E3 Hl HU C0
        go_wp2
        go_roundw
        case rel => exact ⟨r, j + 1, by go_num, ⟨He.out.1, He.out.2.1, h2.out, He.out.2.2.2⟩, hbw⟩
        case measure => simp [RowKit.intOf]; omega
theorem l4Nest_all : ∀ (n : Nat) (F : SF), snodes F < n → ∀ (ns : List ByteArray) (w : World) (v vn : Value), ns.length + snodes F ≤ 10000000 → SV w 0 F v → TS w vn ns → Calls Tryz.prog 69 #[v, vn] w fun e w' => e = .returned (.bool (nestB F ns)) ∧ Below w.heap.size w w'
  | 0, _, h, _, _, _, _, _, _, _ => absurd h (by omega)
  | n + 1, F, h, ns, w, v, vn, hN, hv, hn => l4Nest_step F (fun l hl ns w v vn hN hv hn => l4Nest_all n l (by omega) ns w v vn hN hv hn) ns w v vn hN hv hn
theorem l4Nest_is (F : SF) (ns : List ByteArray) (w : World) (v vn : Value) (hN : ns.length + snodes F ≤ 10000000) (hv : SV w 0 F v) (hn : TS w vn ns) : Calls Tryz.prog 69 #[v, vn] w fun e w' => e = .returned (.bool (nestB F ns)) ∧ Below w.heap.size w w' := l4Nest_all _ F (Nat.lt_succ_self _) ns w v vn hN hv hn
end Go.Proofs.YtpinockfakndlaaGreat
namespace Go.Proofs
open Go.RowKit Go.Maps Go.Sort Go.Shelf
def Tryz.laysM316_ren : Go.Shelf.Ren := ⟨fun | 316 => 166 | n => n, fun | 9 => 9 | 3 => 3 | 4 => 4 | 37 => 22 | 0 => 0 | 127 => 202 | 5 => 5 | n => n, fun | n => n⟩
theorem Tryz.laysM316 : Go.Proofs.LaysM.n316 Tryz.prog Tryz.laysM316_ren := {
  mixed := by kernel_rfl
  f316 := Tryz.func166.trans (congrArg some (by kernel_rfl))
  t0 := Tryz.underlying0
  a0 := Tryz.isAgg0
  z0 := Tryz.sizeOf0
  v0 := Tryz.zeroValue0
  t3 := Tryz.underlying3
  a3 := Tryz.isAgg3
  z3 := Tryz.sizeOf3
  v3 := Tryz.zeroValue3
  t4 := Tryz.underlying4
  a4 := Tryz.isAgg4
  z4 := Tryz.sizeOf4
  v4 := Tryz.zeroValue4
  t9 := Tryz.underlying9
  a9 := Tryz.isAgg9
  z9 := Tryz.sizeOf9
  v9 := Tryz.zeroValue9
  t37 := Tryz.underlying22
  a37 := Tryz.isAgg22
  z37 := Tryz.sizeOf22
  v37 := Tryz.zeroValue22
  t127 := Tryz.underlying202
  a127 := Tryz.isAgg202
  z127 := Tryz.sizeOf202
  v127 := Tryz.zeroValue202
  t5 := Tryz.underlying5
  a5 := Tryz.isAgg5
  z5 := Tryz.sizeOf5
  v5 := Tryz.zeroValue5
  i0 := by kernel_rfl
  i3 := by kernel_rfl
  i4 := by kernel_rfl
  i5 := by kernel_rfl
  i9 := by kernel_rfl
  i37 := by kernel_rfl
  i127 := by kernel_rfl }
def Tryz.keys145_ren : Go.Shelf.Ren := ⟨fun | 7 => 145 | 10 => 165 | n => n, fun | 23 => 92 | 26 => 9 | 3 => 3 | 28 => 184 | 0 => 0 | 27 => 183 | 33 => 148 | 4 => 4 | n => n, fun | n => n⟩
theorem Tryz.keys145 : Go.Proofs.SlLaysZ.n7 Tryz.prog Tryz.keys145_ren := {
  mixed := by kernel_rfl
  f7 := ⟨Tryz.f145.name, by decide, Tryz.func145.trans (congrArg some (by kernel_rfl))⟩
  f10 := ⟨Tryz.f165.name, by decide, Tryz.func165.trans (congrArg some (by kernel_rfl))⟩
  t0 := Tryz.underlying0
  a0 := Tryz.isAgg0
  z0 := Tryz.sizeOf0
  v0 := Tryz.zeroValue0
  t4 := Tryz.underlying4
  a4 := Tryz.isAgg4
  z4 := Tryz.sizeOf4
  v4 := Tryz.zeroValue4
  t23 := Tryz.underlying92
  a23 := Tryz.isAgg92
  z23 := Tryz.sizeOf92
  v23 := Tryz.zeroValue92
  t26 := Tryz.underlying9
  a26 := Tryz.isAgg9
  z26 := Tryz.sizeOf9
  v26 := Tryz.zeroValue9
  t27 := Tryz.underlying183
  a27 := Tryz.isAgg183
  z27 := Tryz.sizeOf183
  v27 := Tryz.zeroValue183
  t28 := Tryz.underlying184
  a28 := Tryz.isAgg184
  z28 := Tryz.sizeOf184
  v28 := Tryz.zeroValue184
  t33 := Tryz.underlying148
  a33 := Tryz.isAgg148
  z33 := Tryz.sizeOf148
  v33 := Tryz.zeroValue148 }
def Tryz.sorted144_ren : Go.Shelf.Ren := ⟨fun | 6 => 144 | 8 => 163 | 9 => 164 | 11 => 172 | 13 => 174 | 12 => 173 | 23 => 186 | 24 => 187 | 14 => 177 | 15 => 178 | 16 => 179 | 17 => 180 | 18 => 181 | 19 => 182 | 20 => 183 | 21 => 184 | 22 => 185 | 25 => 192 | 26 => 193 | 27 => 194 | 28 => 195 | 29 => 196 | 30 => 197 | 31 => 199 | n => n, fun | 26 => 9 | 28 => 184 | 24 => 57 | 0 => 0 | 3 => 3 | 37 => 159 | 48 => 214 | 50 => 216 | 4 => 4 | 40 => 207 | 39 => 206 | 45 => 46 | 5 => 5 | 9 => 9 | 51 => 220 | 55 => 167 | 57 => 225 | 58 => 226 | 33 => 148 | n => n, fun | n => n⟩
theorem Tryz.sorted144 : Go.Proofs.SlLaysZ.n6 Tryz.prog Tryz.sorted144_ren := {
  mixed := by kernel_rfl
  f6 := ⟨Tryz.f144.name, by decide, Tryz.func144.trans (congrArg some (by kernel_rfl))⟩
  f8 := ⟨Tryz.f163.name, by decide, Tryz.func163.trans (congrArg some (by kernel_rfl))⟩
  f11 := ⟨Tryz.f172.name, by decide, Tryz.func172.trans (congrArg some (by kernel_rfl))⟩
  t0 := Tryz.underlying0
  a0 := Tryz.isAgg0
  z0 := Tryz.sizeOf0
  v0 := Tryz.zeroValue0
  t24 := Tryz.underlying57
  a24 := Tryz.isAgg57
  z24 := Tryz.sizeOf57
  v24 := Tryz.zeroValue57
  t26 := Tryz.underlying9
  a26 := Tryz.isAgg9
  z26 := Tryz.sizeOf9
  v26 := Tryz.zeroValue9
  t28 := Tryz.underlying184
  a28 := Tryz.isAgg184
  z28 := Tryz.sizeOf184
  v28 := Tryz.zeroValue184
  i26 := by kernel_rfl }
def Tryz.sort164_ren : Go.Shelf.Ren := ⟨fun | 6 => 164 | 8 => 174 | 9 => 173 | 19 => 186 | 20 => 187 | 21 => 177 | 22 => 178 | 23 => 179 | 24 => 180 | 25 => 181 | 26 => 182 | 27 => 183 | 28 => 184 | 29 => 185 | 36 => 192 | 31 => 193 | 32 => 194 | 37 => 195 | 38 => 196 | 39 => 197 | 41 => 199 | n => n, fun | 27 => 57 | 29 => 9 | 3 => 3 | 32 => 159 | 26 => 57 | 0 => 0 | 44 => 214 | 46 => 216 | 4 => 4 | 36 => 207 | 35 => 206 | 41 => 46 | 5 => 5 | 9 => 9 | 53 => 220 | 57 => 167 | 63 => 225 | 64 => 226 | n => n, fun | n => n⟩
theorem Tryz.sort164 : Go.Proofs.SlLaysM.n6 Tryz.prog Tryz.sort164_ren := {
  mixed := by kernel_rfl
  f6 := ⟨Tryz.f164.name, by decide, Tryz.func164.trans (congrArg some (by kernel_rfl))⟩
  f8 := Tryz.func174.trans (congrArg some (by kernel_rfl))
  f9 := ⟨Tryz.f173.name, by decide, Tryz.func173.trans (congrArg some (by kernel_rfl))⟩
  f19 := Tryz.func186.trans (congrArg some (by kernel_rfl))
  f20 := Tryz.func187.trans (congrArg some (by kernel_rfl))
  f21 := ⟨Tryz.f177.name, by decide, Tryz.func177.trans (congrArg some (by kernel_rfl))⟩
  f22 := ⟨Tryz.f178.name, by decide, Tryz.func178.trans (congrArg some (by kernel_rfl))⟩
  f23 := ⟨Tryz.f179.name, by decide, Tryz.func179.trans (congrArg some (by kernel_rfl))⟩
  f24 := ⟨Tryz.f180.name, by decide, Tryz.func180.trans (congrArg some (by kernel_rfl))⟩
  f25 := ⟨Tryz.f181.name, by decide, Tryz.func181.trans (congrArg some (by kernel_rfl))⟩
  f26 := ⟨Tryz.f182.name, by decide, Tryz.func182.trans (congrArg some (by kernel_rfl))⟩
  f27 := ⟨Tryz.f183.name, by decide, Tryz.func183.trans (congrArg some (by kernel_rfl))⟩
  f28 := ⟨Tryz.f184.name, by decide, Tryz.func184.trans (congrArg some (by kernel_rfl))⟩
  f29 := ⟨Tryz.f185.name, by decide, Tryz.func185.trans (congrArg some (by kernel_rfl))⟩
  f31 := Tryz.func193.trans (congrArg some (by kernel_rfl))
  f32 := Tryz.func194.trans (congrArg some (by kernel_rfl))
  f36 := ⟨Tryz.f192.name, by decide, Tryz.func192.trans (congrArg some (by kernel_rfl))⟩
  f37 := ⟨Tryz.f195.name, by decide, Tryz.func195.trans (congrArg some (by kernel_rfl))⟩
  f38 := ⟨Tryz.f196.name, by decide, Tryz.func196.trans (congrArg some (by kernel_rfl))⟩
  f39 := ⟨Tryz.f197.name, by decide, Tryz.func197.trans (congrArg some (by kernel_rfl))⟩
  f41 := ⟨Tryz.f199.name, by decide, Tryz.func199.trans (congrArg some (by kernel_rfl))⟩
  t0 := Tryz.underlying0
  a0 := Tryz.isAgg0
  z0 := Tryz.sizeOf0
  v0 := Tryz.zeroValue0
  t3 := Tryz.underlying3
  a3 := Tryz.isAgg3
  z3 := Tryz.sizeOf3
  v3 := Tryz.zeroValue3
  t4 := Tryz.underlying4
  a4 := Tryz.isAgg4
  z4 := Tryz.sizeOf4
  v4 := Tryz.zeroValue4
  t5 := Tryz.underlying5
  a5 := Tryz.isAgg5
  z5 := Tryz.sizeOf5
  v5 := Tryz.zeroValue5
  t9 := Tryz.underlying9
  a9 := Tryz.isAgg9
  z9 := Tryz.sizeOf9
  v9 := Tryz.zeroValue9
  t26 := Tryz.underlying57
  a26 := Tryz.isAgg57
  z26 := Tryz.sizeOf57
  v26 := Tryz.zeroValue57
  t27 := Tryz.underlying57
  a27 := Tryz.isAgg57
  z27 := Tryz.sizeOf57
  v27 := Tryz.zeroValue57
  t29 := Tryz.underlying9
  a29 := Tryz.isAgg9
  z29 := Tryz.sizeOf9
  v29 := Tryz.zeroValue9
  t32 := Tryz.underlying159
  a32 := Tryz.isAgg159
  z32 := Tryz.sizeOf159
  v32 := Tryz.zeroValue159
  t35 := Tryz.underlying206
  a35 := Tryz.isAgg206
  z35 := Tryz.sizeOf206
  v35 := Tryz.zeroValue206
  t36 := Tryz.underlying207
  a36 := Tryz.isAgg207
  z36 := Tryz.sizeOf207
  v36 := Tryz.zeroValue207
  t41 := Tryz.underlying46
  a41 := Tryz.isAgg46
  z41 := Tryz.sizeOf46
  v41 := Tryz.zeroValue46
  t44 := Tryz.underlying214
  a44 := Tryz.isAgg214
  z44 := Tryz.sizeOf214
  v44 := Tryz.zeroValue214
  t46 := Tryz.underlying216
  a46 := Tryz.isAgg216
  z46 := Tryz.sizeOf216
  v46 := Tryz.zeroValue216
  t53 := Tryz.underlying220
  a53 := Tryz.isAgg220
  z53 := Tryz.sizeOf220
  v53 := Tryz.zeroValue220
  t57 := Tryz.underlying167
  a57 := Tryz.isAgg167
  z57 := Tryz.sizeOf167
  v57 := Tryz.zeroValue167
  t63 := Tryz.underlying225
  a63 := Tryz.isAgg225
  z63 := Tryz.sizeOf225
  v63 := Tryz.zeroValue225
  t64 := Tryz.underlying226
  a64 := Tryz.isAgg226
  z64 := Tryz.sizeOf226
  v64 := Tryz.zeroValue226 }
theorem Tryz.sorts (m : Nat) : AnyZ.SortsIn Tryz.prog Tryz.sorted144_ren Fence.wide m :=
  ⟨fun blk off cap ss W hH hblk hsz => callsIn_wide.2 (AnyM.slices_Sort_string Tryz.sort164 blk off cap ss W hH hblk hsz),
   fun p cap W => callsIn_wide.2 (AnyM.slices_Sort_string_none Tryz.sort164 p cap W)⟩
theorem Tryz.maps_Keys (mb : Option Nat) (W : World) : Calls Tryz.prog 145 #[.map mb] W fun e w' => e = .returned (.func (.func 165) #[] #[.pointer (some ⟨W.heap.size, 0, none⟩)]) ∧ w' = W.alloc (.cells #[.map mb] 92) :=
  callsIn_wide.1 (AnyZ.keys_in Tryz.keys145 Fence.wide 5 trivial rfl mb W)
theorem Tryz.sorted_keys {H : Type} (b nn : Nat) (D0 : DataW H) (R : Value → Option (DataW H × List MemPlace)) (w : World) (hown : w.ownsMap Tryz.prog 9 R b nn D0) (hmax : Maps.size D0 ≤ maxLen) (hbytes : Maps.size D0 * 16 ≤ 140737488355328) :
    Calls Tryz.prog 144 #[.func (.func 165) #[] #[.pointer (some ⟨w.heap.size, 0, none⟩)]] (w.alloc (.cells #[.map (some b)] 92)) fun e w' => ∃ (v : Value) (ss : List (List UInt8)), e = .returned v ∧ ss.Perm (strKeys D0) ∧
      w'.ownsRow (w.alloc (.cells #[.map (some b)] 92)).heap.size 9 1 v ss.length ((ss.mergeSort (fun x y => decide (x ≤ y))).map encStr) ∧ (v = .slice none 0 0 ↔ ss = []) ∧ Below (w.alloc (.cells #[.map (some b)] 92)).heap.size (w.alloc (.cells #[.map (some b)] 92)) w' := by
  refine (callsIn_wide (n := 5)).1 ?_
  have hbl := hown.lt
  have hseq : SeqGives Fence.wide 2 Tryz.prog 165 #[.pointer (some ⟨w.heap.size, 0, none⟩)] encStr (fun ss => ss.Perm (strKeys D0)) (Maps.size D0) (w.alloc (.cells #[.map (some b)] 92)) :=
    AnyZ.keys_gives (ρ := Tryz.keys145_ren) { Tryz.keys145 with } Fence.wide _ trivial rfl (by omega) w.heap.size b nn D0 _ (by simp) (by simp) (by
      obtain ⟨es, clock, hb, Ft, hs, hD⟩ := hown
      exact ⟨es, clock, (Below.heap_alloc _ _ b hbl).trans hb, Ft, hs, hD⟩)
  exact AnyZ.sorted_in Tryz.sorted144 Fence.wide 5 trivial trivial trivial trivial rfl (by omega) (Tryz.sorts _) (enters_of Tryz.func164 (by kernel_rfl) rfl) 165 #[.pointer (some ⟨w.heap.size, 0, none⟩)] trivial (enters_of Tryz.func165 (by kernel_rfl) rfl) _ _ hmax hbytes _ hseq
theorem Tryz.clone (s : ByteArray) (w : World) (hlim : s.size ≤ 281474976710656) :
    Calls Tryz.prog 166 #[.string s] w fun e w' => e = .returned (.string s) ∧ Below w.heap.size w w' := Any.stringslite_Clone Tryz.laysM316 s w hlim
end Go.Proofs
namespace Go.Proofs.YtpinockfakndlaaGreat
open Go.RowKit Go.Lib Go.Maps Go.Sort
set_option linter.unusedSimpArgs false
set_option linter.unusedVariables false
theorem clone_is (s : ByteArray) (w : World) (hlim : s.size ≤ 10000000) :
    Calls Tryz.prog 146 #[.string s] w fun e w' => e = .returned (.string s) ∧ Below w.heap.size w w' := by
  have C := hid (Tryz.clone s w (by omega))
  go_enter Tryz.func146, Tryz.ntmps146
  go_wp2_with fail
  refine C.out.mono ?_
  rintro e w1 ⟨rfl, hb1⟩
  go_wp2
  go_ret
  exact ⟨rfl, hb1⟩
theorem own_same {w : World} {B n g cap j : Nat} {e : TypeId} {xs : List Value} {u : Value} (h : w.ownsRow B e 1 (.slice (some ⟨g, 0, Option.none⟩) n cap) n xs) (hj : xs[j]? = some u) : (w.setCell ⟨g, j, Option.none⟩ u).ownsRow B e 1 (.slice (some ⟨g, 0, Option.none⟩) n cap) n xs := by
  have e0 : xs.set j u = xs := by
    apply List.ext_getElem?
    intro i
    rw [List.getElem?_set]
    split
    · rename_i hij
      subst hij
      split
      · exact hj.symm
      · rename_i hlt; rw [List.getElem?_eq_none (by omega)]
    · rfl
  refine ⟨h.1, ?_⟩
  rcases h.2 with ⟨h0, _⟩ | ⟨g', cap', cur, h1, h2, h3, h4, h5, h6, h7⟩
  · cases h0
  · injection h1 with e1 e2 e3
    injection e1 with e1
    injection e1 with e1
    subst e1; subst e3
    exact .inr ⟨g, cap, cur.setIfInBounds j u, rfl, h2, Joins.block_setCell h3 u, h4, h5, by simpa using h6, by rw [Array.toList_setIfInBounds, List.take_set, h7, e0]⟩
theorem cell_own {w : World} {B n g cap : Nat} {e : TypeId} {xs : List Value} (h : w.ownsRow B e 1 (.slice (some ⟨g, 0, Option.none⟩) n cap) n xs) {j : Nat} {u : Value} (hu : xs[j]? = some u) : w.cell? ⟨g, j, Option.none⟩ = some u ∧ w.frozen? ⟨g, j, Option.none⟩ = false := by
  refine ⟨own_cell h hu, ?_⟩
  rcases h.2 with ⟨h0, _⟩ | ⟨g', cap', cur, h1, h2, h3, _⟩
  · cases h0
  · injection h1 with e1 e2 e3
    injection e1 with e1
    injection e1 with e1
    subst e1
    simp [World.frozen?, h3]
def mapNames (ss : List (List UInt8)) : List ByteArray := (ss.mergeSort (fun x y => decide (x ≤ y))).map fun l => ⟨l.toArray⟩
theorem mapNames_len (ss : List (List UInt8)) : (mapNames ss).length = ss.length := by simp [mapNames]
theorem ascending_is (b nn : Nat) (D0 : DataW Unit) (w : World) (hown : w.ownsMap Tryz.prog 9 (plainElem Tryz.prog 3) b nn D0) (hsz : Maps.size D0 ≤ 10000000) (hsm : ∀ x ∈ strKeys D0, x.length ≤ 10000000) :
    Calls Tryz.prog 106 #[.map (some b)] w fun e w' => ∃ (v : Value) (ss : List (List UInt8)), e = .returned v ∧ ss.Perm (strKeys D0) ∧ w'.ownsRow w.heap.size 9 1 v (mapNames ss).length ((mapNames ss).map Value.string) ∧ Below w.heap.size w w' := by
  have K := hid (Tryz.maps_Keys (some b) w)
  have S := hid (Tryz.sorted_keys b nn D0 _ w hown (by unfold maxLen; omega) (by omega))
  have Hsm := hid hsm
  clear hown hsm
  go_enter Tryz.func106, Tryz.ntmps106
  go_wp2_with fail
  refine K.out.mono ?_
  rintro e w1 ⟨rfl, rfl⟩
  go_wp2_with fail
  refine S.out.mono ?_
  rintro e w2 ⟨v, ss, rfl, hp, hrow, _, hb⟩
  have hlen : ss.length ≤ 10000000 := by rw [hp.length_eq]; refine Nat.le_trans ?_ hsz; cases D0 <;> simp [strKeys, Maps.size]
  have hB : Below w.heap.size w w2 := below_alloc hb
  have hrow' : w2.ownsRow w.heap.size 9 1 v (mapNames ss).length ((mapNames ss).map Value.string) := by
    have e1 : (ss.mergeSort (fun x y => decide (x ≤ y))).map encStr = (mapNames ss).map Value.string := by simp [mapNames, encStr, Function.comp]
    rw [mapNames_len, ← e1]
    exact ownsRow_base_a hrow (by simp)
  have hsmall : ∀ s ∈ mapNames ss, s.size ≤ 10000000 := fun s hs => by
    simp only [mapNames, List.mem_map] at hs
    obtain ⟨l, hl, rfl⟩ := hs
    exact Hsm.out l (hp.subset ((List.mergeSort_perm ss _).subset hl))
  have hl2 : (mapNames ss).length ≤ 10000000 := by rw [mapNames_len]; exact hlen
  have HP := hid hp
  have HS := hid hsmall
  obtain ⟨ns, hns⟩ : ∃ ns, Hid (mapNames ss = ns) := ⟨_, rfl⟩
  rw [hns.out] at hrow' hl2
  have HS' : Hid (∀ s ∈ ns, s.size ≤ 10000000) := by rw [← hns.out]; exact HS
  obtain ⟨va, vc, rfl⟩ := ownShape hrow'
  clear hrow hb hp hlen hsmall K S Hsm HS
  go_wp2
  go_loopw [11] (fun i wr => ∃ k : Nat, k ≤ ns.length ∧ i = .int .i64 k ∧ wr.ownsRow w.heap.size 9 1 (.slice va ns.length vc) ns.length (ns.map Value.string) ∧ Below w.heap.size w wr) (fun i _ => ns.length - (RowKit.intOf i).toNat)
  case atStart => exact ⟨0, by omega, rfl, hrow', hB⟩
  case round =>
    obtain ⟨k, hk, rfl, ho, hbr⟩ := hrel
    clear hrow' hB
    by_cases hlt : k < ns.length
    · have hltI : (k : Int) < (ns.length : Int) := by omega
      obtain ⟨m, hm⟩ : ∃ m, ns.length = m + 1 := ⟨ns.length - 1, by omega⟩
      obtain ⟨g, hva⟩ : ∃ g, va = some ⟨g, 0, Option.none⟩ := by
        have ho' := ho
        rw [hm] at ho'
        obtain ⟨g, cap, e1, _⟩ := own_some ho'
        injection e1 with e1
        exact ⟨g, e1⟩
      subst hva
      obtain ⟨s, hs⟩ : ∃ s, ns[k]? = some s := ⟨ns[k], List.getElem?_eq_getElem hlt⟩
      have hs2 : (ns.map Value.string)[k]? = some (.string s) := by rw [List.getElem?_map, hs]; rfl
      obtain ⟨c0, f0⟩ := cell_own ho hs2
      have hsl := HS'.out s (List.mem_of_getElem? hs)
      have Hs := hid hs2
      clear hs hs2 hm
      go_wp2_with fail
      refine (clone_is s _ hsl).mono ?_
      rintro e w3 ⟨rfl, hb3⟩
      have ho3 := ownB ho hb3
      have hbr3 := hbr.trans (hb3.mono hbr.size)
      obtain ⟨c3, f3⟩ := cell_own ho3 Hs.out
      have n1 := own_same ho3 Hs.out
      have hgB : w.heap.size ≤ g := (ho3.lt g rfl).1
      have n2 := hbr3.setCell (p := ⟨g, k, Option.none⟩) hgB (.string s)
      clear ho ho3 hbr hbr3 hb3 c0 f0
      go_wp2
      go_roundw
      case rel => exact ⟨k + 1, by omega, by go_num, n1, n2⟩
      case measure => simp [RowKit.intOf]; omega
    · go_wp2
      go_ret
      exact ⟨_, ss, rfl, HP.out, by rw [hns.out]; exact ho, hbr⟩
end Go.Proofs.YtpinockfakndlaaGreat
