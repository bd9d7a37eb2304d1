/-
  Texts in one: AstPOpen, TermRow, AffArg, NamePlain, NumPlain.
-/
import Derived.Test.YtljahppjkhinpaaP01ofAffAt
import Derived.Test.YtljahppjkhinpaaP02ofAffAt
import Derived.Test.YtljahppjkhinpaaP00ofAffAt
import Derived.Sort.Walk0
import Derived.Sort.KeysCollected
import Derived.RowKit
import Derived.Lib.Atoi
import Derived.Lib.AtoiAll
import Derived.Lib.AtoiAllCases
import Derived.Lib.AtoiTie
import Derived.Lib.ItoaNum
import Derived.Lib.ItoaMem
/-
  Programs that came in, opened; a program in two cells.
-/
namespace Go.Proofs.Ytljahppjkhinpaa
open Go.ChangeShapes Go.WideShapes Go.ChangeAt Go.RowKit
set_option linter.unusedSimpArgs false
set_option linter.unusedVariables false

section
variable {H : Type} {enc : TypeId × Value → H} {W : World} {sp : Nat → Bool} {held : Bool}
theorem build_arrs {b o len : Nat} (each : ∀ i, i < len → ∃ t : AR, t.s.size ≤ 9223372036854775807 ∧ W.cell? ⟨b, o + i * 2, Option.none⟩ = some (.string t.s) ∧ W.cell? ⟨b, o + i * 2 + 1, Option.none⟩ = some (.int .i64 t.n)) :
    ∀ d, d ≤ len → ∃ R : List AR, R.length = d ∧ (∀ t ∈ R, t.s.size ≤ 9223372036854775807) ∧ ∀ i t, R[i]? = some t → W.cell? ⟨b, o + i * 2, Option.none⟩ = some (.string t.s) ∧ W.cell? ⟨b, o + i * 2 + 1, Option.none⟩ = some (.int .i64 t.n)
  | 0, _ => ⟨[], rfl, fun _ h => by simp at h, fun i t h => by simp at h⟩
  | d + 1, hd => by
    obtain ⟨R, h1, h2, h3⟩ := build_arrs each d (by omega)
    obtain ⟨t, k, c0, c1⟩ := each d (by omega)
    refine ⟨R ++ [t], by simp [h1], fun u hu => ?_, fun i u hu => ?_⟩
    · rcases List.mem_append.1 hu with hu | hu
      · exact h2 u hu
      · simp only [List.mem_cons, List.not_mem_nil, or_false] at hu; subst hu; exact k
    · rcases Nat.lt_or_ge i R.length with hi | hi
      · rw [List.getElem?_append_left hi] at hu; exact h3 i u hu
      · rw [List.getElem?_append_right hi] at hu
        have hi2 : i = d := by have := (List.getElem?_eq_some_iff.1 hu).1; simp at this; omega
        subst hi2
        rw [h1, Nat.sub_self] at hu
        simp at hu; subst hu; exact ⟨c0, c1⟩
end
/-- A program in two cells of a block. -/
structure Pt (w0 w : World) (n : Nat) (va vb : Value) (ts : List AR) (F : SF) : Prop where
  rg : w.rangeAt n 0 [va, vb]
  av : AV w 0 va ts
  sv : SV w 0 F vb
  low : Below w0.heap.size w0 w
theorem Pt.later {w0 w w' : World} {n : Nat} {va vb : Value} {ts : List AR} {F : SF} (h : Pt w0 w n va vb ts F) (hb : Below w.heap.size w w') : Pt w0 w' n va vb ts F :=
  ⟨rangeAt_later h.rg hb, h.av.later hb, h.sv.later hb, h.low.trans (hb.mono h.low.size)⟩
theorem Pt.start {w : World} (t : TypeId) {va vb : Value} {ts : List AR} {F : SF} (ha : AV w 0 va ts) (hb : SV w 0 F vb) : Pt w (w.alloc (.cells #[va, vb] t)) w.heap.size va vb ts F :=
  ⟨blk_range (arr := #[va, vb]) (heap_last _ _), ha.later (alloc_below _ _), hb.later (alloc_below _ _), alloc_below _ _⟩
theorem newblk2 {w W : World} {t : TypeId} {x y : Value} (a b : Value) (hW : (w.alloc (.cells #[x, y] t)).setCells w.heap.size 0 [a, b] = W) : W.rangeAt w.heap.size 0 [a, b] ∧ Below w.heap.size w W := by
  subst hW
  exact ⟨World.rangeAt_setCells_same _ _ _ _ (blk_there (arr := #[x, y]) (t := t) (heap_last _ _) (Nat.le_refl 2)), below_sets _ _ (alloc_below _ _) (Nat.le_refl _)⟩
theorem oneP {a b : Value} (ha : a.oneCell' = true) (hb : b.oneCell' = true) : (#[a, b] : Array Value).all (·.oneCell') = true :=
  all_oneCell_toArray (cs := [a, b]) (fun v hv => by
    simp only [List.mem_cons, List.not_mem_nil, or_false] at hv
    rcases hv with rfl | rfl <;> assumption)
theorem AV.isOne {w : World} {lo : Nat} {v : Value} {ts : List AR} (h : AV w lo v ts) : v.oneCell' = true := by obtain ⟨a, c, rfl⟩ := h.shape; rfl
end Go.Proofs.Ytljahppjkhinpaa
/-
  Rows of terms (a name and a number each): their sizes, copies, and whether they are the same; rows that came in, opened.
-/
namespace Go.Proofs.Ytljahppjkhinpaa
open Go.RowKit Go.Lib
set_option linter.unusedSimpArgs false
set_option linter.unusedVariables false

set_option maxHeartbeats 1000000 in
theorem szTerm_is (t : AR) (ht : t.s.size ≤ 9223372036854775807) (left : Int) (h0 : 0 ≤ left) (h1 : left ≤ 1048576) (w : World) :
    Calls Try.prog 60 #[.agg #[.string t.s, .int .i64 t.n], .int .i64 left] w (Sz t.s.size left w) := by
  have hsI : (t.s.size : Int) ≤ 9223372036854775807 := by omega
  by_cases h : left < (t.s.size : Int)
  · have h' : left - (t.s.size : Int) < 0 := by omega
    go_enter Try.func60, Try.ntmps60
    go_wp2
    all_goals first
      | omega
      | (go_ret; exact Sz.less h (alloc_below _ _))
  · have h' : ¬ left - (t.s.size : Int) < 0 := by omega
    go_enter Try.func60, Try.ntmps60
    go_wp2
    all_goals first
      | omega
      | (go_ret; exact Sz.more (by omega) rfl (alloc_below _ _))
set_option maxHeartbeats 2000000 in
theorem szTermS_is (ts : List AR) (hts : ∀ t ∈ ts, t.s.size ≤ 9223372036854775807) (hM : ts.length ≤ 9223372036854775807) (v : Value) (w : World) (hr : AV w 0 v ts) (left : Int) (h0 : 0 ≤ left) (h1 : left ≤ 1048576) :
    Calls Try.prog 40 #[v, .int .i64 left] w (Sz (asize ts) left w) := by
  obtain ⟨ao, cap, rfl, hr⟩ := hr
  have Hts := Lib.hid hts
  clear hts
  obtain ⟨L0, rfl⟩ : ∃ L0 : Nat, left = (L0 : Int) := ⟨left.toNat, by omega⟩
  have HZ : Hid (asize ts = ts.length + abytes ts) := show asize ts = ts.length + abytes ts from rfl
  have hMI : (ts.length : Int) ≤ 9223372036854775807 := by omega
  by_cases hbig : (L0 : Int) < (ts.length : Int)
  · have hb' : (L0 : Int) - (ts.length : Int) < 0 := by omega
    go_enter Try.func40, Try.ntmps40
    go_wp2
    all_goals first
      | omega
      | (go_ret; exact Sz.less (by rw [HZ.out]; omega) (Below.refl _ _))
  · have hb' : ¬ (L0 : Int) - (ts.length : Int) < 0 := by omega
    go_enter Try.func40, Try.ntmps40
    go_wp2
    go_loopw [1, 5] (fun x i wr => ∃ k left : Nat, k ≤ ts.length ∧ i = .int .i64 k ∧ x = .int .i64 (left : Int) ∧ Hid (left + ts.length + abytes (ts.take k) = L0) ∧ Below w.heap.size w wr) (fun _ i _ => ts.length - (RowKit.intOf i).toNat)
    case atStart => exact ⟨0, L0 - ts.length, by omega, rfl, val_intA (by omega), (by show L0 - ts.length + ts.length + 0 = L0; omega), Below.refl _ _⟩
    case round =>
      obtain ⟨k, left, hk, rfl, rfl, hl, hbw⟩ := hrel
      have hlb := hl.out
      by_cases hlt : k < ts.length
      · have hltI : (k : Int) < (ts.length : Int) := by omega
        obtain ⟨t, ht⟩ : ∃ t, ts[k]? = some t := ⟨ts[k], List.getElem?_eq_getElem hlt⟩
        have htl := Hts.out t (List.mem_of_getElem? ht)
        rcases hr with hr | ⟨g, off, rfl, _, gl, hc⟩
        · subst hr; simp at hlt
        obtain ⟨a0, a1⟩ := hc k t ht
        have A0 := (hbw.cell (p := ⟨g, off + k * 2, Option.none⟩) gl).trans a0
        have A1 := (hbw.cell (p := ⟨g, off + k * 2 + 1, Option.none⟩) gl).trans a1
        have Htk : Hid (abytes (ts.take (k + 1)) = abytes (ts.take k) + t.s.size ∧ abytes (ts.take (k + 1)) ≤ abytes ts) := ⟨by rw [take_snocA ht, abytes_snoc], abytes_take _ _⟩
        have hl0 : (0 : Int) ≤ (left : Int) := by omega
        have hl1 : (left : Int) ≤ 1048576 := by omega
        clear a0 a1 hc ht
        by_cases hd : (left : Int) < (t.s.size : Int)
        · go_wp2_with fail
          refine (szTerm_is t htl (left : Int) hl0 hl1 _).mono ?_
          rintro e w1 ⟨rfl, hb1⟩
          rw [if_pos hd]
          have hbw1 := hbw.trans (hb1.mono hbw.size)
          clear hb1 hbw A0 A1
          go_wp2
          go_ret
          exact Sz.less (by have := Htk.out; rw [HZ.out]; omega) hbw1
        · go_wp2_with fail
          refine (szTerm_is t htl (left : Int) hl0 hl1 _).mono ?_
          rintro e w1 ⟨rfl, hb1⟩
          rw [if_neg (by omega)]
          have hbw1 := hbw.trans (hb1.mono hbw.size)
          have hnn : ¬ (left : Int) - (t.s.size : Int) < 0 := by omega
          clear hb1 hbw A0 A1
          go_wp2
          all_goals first
            | omega
            | (go_roundw
               case rel => exact ⟨k + 1, left - t.s.size, by omega, by go_num, val_intA (by omega), (by have h1 := hl.out; have h2 := Htk.out; show left - t.s.size + ts.length + abytes (ts.take (k + 1)) = L0; omega), hbw1⟩
               case measure => simp [RowKit.intOf]; omega)
      · have hkk : ts.take k = ts := List.take_of_length_le (by omega)
        rw [hkk] at hlb
        go_wp2
        go_ret
        exact Sz.more (by rw [HZ.out]; omega) (by rw [HZ.out]; omega) hbw
set_option maxHeartbeats 1000000 in
theorem toTerm_is (t : AR) (w : World) :
    Calls Try.prog 64 #[.agg #[.string t.s, .int .i64 t.n]] w fun e w' => e = .returned (.agg #[.string t.s, .int .i64 t.n]) ∧ Below w.heap.size w w' := by
  go_enter Try.func64, Try.ntmps64
  go_wp2
  exact bodyPost_ret (v := .agg #[.string t.s, .int .i64 t.n]) (by simp [results, Try.results64, go_sem]) rfl ⟨rfl, (((Below.refl _ w).alloc (Nat.le_refl _) _).alloc (by simp) _).alloc (by simp; omega) _⟩
theorem infoIT8 : (Try.prog.info? 59).map (fun i => (i.zero, i.size, i.bytes)) = some (some (.agg #[.string ⟨#[]⟩, .int .i64 0]), 2, 24) := by kernel_rfl
theorem sizeIT8 : (Try.prog.info? 59).map (·.size) = some 2 := by kernel_rfl
set_option maxHeartbeats 2000000 in
theorem toTermS_is (ts : List AR) (hn : ts.length ≤ 1048576) (v : Value) (w : World) (hr : AV w 0 v ts) :
    Calls Try.prog 43 #[v] w fun e w' => ∃ v', e = .returned v' ∧ AV w' w.heap.size v' ts ∧ Below w.heap.size w w' := by
  obtain ⟨ao, cap, rfl, hr⟩ := hr
  obtain ⟨i0, hi, hz0, hz1, hz2⟩ := info_parts infoIT8
  go_enter Try.func43, Try.ntmps43
  go_wp2_with (refine wpList_make_full _ rfl _ _ 24 rfl w.heap.size 59 i0 _ 2 Try.underlying24 hi hz0 hz1 .i64 .i64 _ _ ts.length rfl rfl rfl rfl ?c1 ?c2 ?c3 ?_)
  case c1 => rw [hz2]; omega
  case c2 => unfold maxLen; omega
  case c3 => exact Nat.le_refl _
  intro w1 hown hgrow
  obtain ⟨cur, hcur, _, hcs, _⟩ := own_block hown
  have hbw : Below w.heap.size w w1 := (Below.refl _ w).grown hgrow (Nat.le_refl _) (fun k hk => by cases hk)
  have Hth : Hid (w1.there w.heap.size 0 (ts.length * 2)) := blk_there hcur (by omega)
  have hsz : w.heap.size < w1.heap.size := (Array.getElem?_eq_some_iff.1 hcur).1
  clear hown hgrow hcur hcs
  go_wp2
  go_loopw [4] (fun i wr => ∃ k : Nat, k ≤ ts.length ∧ i = .int .i64 k ∧ Hid (wr.there w.heap.size 0 (ts.length * 2) ∧ wr.rangeAt w.heap.size 0 (acells (ts.take k)) ∧ w.heap.size < wr.heap.size) ∧ Below w.heap.size w wr) (fun i _ => ts.length - (RowKit.intOf i).toNat)
  case atStart => exact ⟨0, by omega, rfl, ⟨Hth.out, (fun j v hv => by simp [acells] at hv), hsz⟩, hbw⟩
  case round =>
    obtain ⟨k, hk, rfl, hm, hb⟩ := hrel
    by_cases hlt : k < ts.length
    · have hltI : (k : Int) < (ts.length : Int) := by omega
      obtain ⟨t, ht⟩ : ∃ t, ts[k]? = some t := ⟨ts[k], List.getElem?_eq_getElem hlt⟩
      rcases hr with hr | ⟨g, off, rfl, _, gl, hc⟩
      · subst hr; simp at hlt
      obtain ⟨a0, a1⟩ := hc k t ht
      have A0 := (hb.cell (p := ⟨g, off + k * 2, Option.none⟩) gl).trans a0
      have A1 := (hb.cell (p := ⟨g, off + k * 2 + 1, Option.none⟩) gl).trans a1
      have htl : Hid ((acells (ts.take k)).length = k * 2) := show (acells (ts.take k)).length = k * 2 by rw [acells_len, List.length_take]; omega
      have Htk : Hid (acells (ts.take (k + 1)) = acells (ts.take k) ++ [.string t.s, .int .i64 t.n]) := show acells (ts.take (k + 1)) = _ by rw [take_snocA ht, acells_snoc]
      clear a0 a1 hc ht
      go_wp2_with fail
      refine (toTerm_is t _).mono ?_
      rintro e w2 ⟨rfl, hb2⟩
      obtain ⟨t1, t2, t4⟩ := hm.out
      have t1' := there_later t1 hb2
      have hbw2 := hb.trans (hb2.mono hb.size)
      have ht4 : w2.there w.heap.size (k * 2) 2 := by have := there_part t1' (k * 2) 2 (by omega); rwa [Nat.zero_add] at this
      clear A0 A1
      go_wp2_with (refine wpList_store_mid rfl 59 _ _ rfl _ _ _ rfl rfl ?ht sizeIT8 (all2 _ _) ?_)
      case ht => exact ht4
      have n2 : (w2.setCells w.heap.size (k * 2) [.string t.s, .int .i64 t.n]).rangeAt w.heap.size 0 (acells (ts.take (k + 1))) := by
        rw [Htk.out]
        refine rangeAt_app (World.rangeAt_setCells_apart (rangeAt_later t2 hb2) w.heap.size (k * 2) [.string t.s, .int .i64 t.n] (.inr (.inl (by rw [htl.out]; omega)))) ?_
        rw [htl.out, Nat.zero_add]
        exact World.rangeAt_setCells_same _ _ _ _ ht4
      have n3 := World.there_setCells t1' w.heap.size (k * 2) [.string t.s, .int .i64 t.n]
      have n4 := below_sets [.string t.s, .int .i64 t.n] (k * 2) hbw2 (Nat.le_refl _)
      have n5 : w.heap.size < (w2.setCells w.heap.size (k * 2) [.string t.s, .int .i64 t.n]).heap.size := by rw [size_sets]; exact Nat.lt_of_lt_of_le t4 hb2.size
      have N := Lib.hid (And.intro n2 (And.intro n3 n5))
      clear t1 t2 t1' ht4 hb2 hbw2 n2 n3 n5 hm hb
      go_wp2
      go_roundw
      case rel => exact ⟨k + 1, by omega, by go_num, ⟨N.out.2.1, N.out.1, N.out.2.2⟩, n4⟩
      case measure => simp [RowKit.intOf]; omega
    · have hkk : ts.take k = ts := List.take_of_length_le (by omega)
      have hm2 := hm.out
      rw [hkk] at hm2
      have Hm := Lib.hid hm2
      clear hm2 hm
      go_wp2
      go_ret
      exact ⟨_, rfl, AV.laid Hm.out.2.2 Hm.out.2.1, hb⟩
set_option maxHeartbeats 1000000 in
theorem eqTerm_same (k : Int) (s : ByteArray) (w : World) :
    Calls Try.prog 65 #[.agg #[.string s, .int .i64 k], .agg #[.string s, .int .i64 k]] w fun e w' => e = .returned (.bool true) ∧ Below w.heap.size w w' := by
  go_enter Try.func65, Try.ntmps65
  go_wp2
  go_ret
  exact ⟨rfl, ((Below.refl _ w).alloc (Nat.le_refl _) _).alloc (by simp) _⟩
set_option maxHeartbeats 2000000 in
theorem eqTermS_same (ts : List AR) (hlen : ts.length ≤ 100000000) (va vb : Value) (w : World) (ha : AV w 0 va ts) (hb : AV w 0 vb ts) :
    Calls Try.prog 44 #[va, vb] w fun e w' => e = .returned (.bool true) ∧ Below w.heap.size w w' := by
  obtain ⟨ao, ca, rfl, ha⟩ := ha
  obtain ⟨bo, cb, rfl, hb⟩ := hb
  go_enter Try.func44, Try.ntmps44
  go_wp2
  go_loopw [5] (fun i wr => ∃ k : Nat, k ≤ ts.length ∧ i = .int .i64 k ∧ Below w.heap.size w wr) (fun i _ => ts.length - (RowKit.intOf i).toNat)
  case atStart => exact ⟨0, by omega, rfl, Below.refl _ _⟩
  case round =>
    obtain ⟨k, hk, rfl, hbw⟩ := hrel
    by_cases hlt : k < ts.length
    · obtain ⟨t, ht⟩ : ∃ t, ts[k]? = some t := ⟨ts[k], List.getElem?_eq_getElem hlt⟩
      rcases ha with ha | ⟨ga, oa, rfl, _, gla, hca⟩
      · subst ha; simp at hlt
      rcases hb with hb | ⟨gb, ob, rfl, _, glb, hcb⟩
      · subst hb; simp at hlt
      obtain ⟨a0, a1⟩ := hca k t ht
      obtain ⟨b0, b1⟩ := hcb k t ht
      have A0 := (hbw.cell (p := ⟨ga, oa + k * 2, Option.none⟩) gla).trans a0
      have A1 := (hbw.cell (p := ⟨ga, oa + k * 2 + 1, Option.none⟩) gla).trans a1
      have B0 := (hbw.cell (p := ⟨gb, ob + k * 2, Option.none⟩) glb).trans b0
      have B1 := (hbw.cell (p := ⟨gb, ob + k * 2 + 1, Option.none⟩) glb).trans b1
      have hltI : (k : Int) < (ts.length : Int) := by omega
      clear a0 a1 b0 b1 hca hcb ht
      go_wp2_with fail
      go_cut [26] from 11 to 26 (fun v wx => v = .bool false ∧ Below wr.heap.size wr wx)
      case first =>
        go_region_with (go_at_call 65; refine (eqTerm_same _ _ _).mono ?_; rintro e w1 ⟨rfl, hb1⟩)
        all_goals (try go_wp2_with fail)
        all_goals go_meet
        all_goals exact ⟨rfl, ⟨hb1.os, hb1.tape, hb1.output, hb1.size, hb1.block⟩⟩
      case rest =>
        obtain ⟨rfl, hb1⟩ := hcut
        have hbw2 := hbw.trans (hb1.mono hbw.size)
        clear A0 A1 B0 B1 hb1
        go_wp2
        go_roundw
        case rel => exact ⟨k + 1, by omega, by go_num, hbw2⟩
        case measure => simp [RowKit.intOf]; omega
    · go_wp2
      go_ret
      exact ⟨rfl, hbw⟩
end Go.Proofs.Ytljahppjkhinpaa
namespace Go.Proofs.Ytljahppjkhinpaa
open Go.ChangeShapes Go.WideShapes Go.ChangeAt Go.RowKit
theorem cT8 : Try.prog.cellsOf 87 = 2 := by kernel_rfl
section
variable {H : Type} {enc : TypeId × Value → H} {W : World} {sp : Nat → Bool} {held : Bool}
set_option maxRecDepth 100000 in
theorem open_term {fuel : Nat} {cs : List Value} {y : DataW H × List MemPlace} (h : DataW.trod enc Try.prog W 0 sp held fuel 87 cs = some y) : ∃ t : AR, cs = [.string t.s, .int .i64 t.n] ∧ t.s.size ≤ 9223372036854775807 := by
  obtain ⟨xs, m, hm, _, hlen, hxl, hf⟩ := DataW.trod_struct Try.underlying87 h
  rw [cT8] at hlen
  match xs, hxl, cs, hlen with
  | [y0, y1], _, [v0, v1], _ =>
    have g0 := hf 0 _ rfl
    have g1 := hf 1 _ rfl
    simp [cI, cT] at g0 g1
    obtain ⟨s, e0, _, hs⟩ := DataW.trod_string Try.underlying9 g0
    obtain ⟨n, e1, _, _⟩ := DataW.trod_int Try.underlying3 g1
    injection e0 with e0; injection e1 with e1
    subst e0; subst e1
    exact ⟨⟨s, n⟩, rfl, by unfold maxLen at hs; show s.size ≤ _; omega⟩
theorem open_terms {fuel : Nat} {cs : List Value} {x : DataW H × List MemPlace} (h : DataW.trod enc Try.prog W 0 sp held fuel 37 cs = some x) : ∃ (v : Value) (ts : List AR), cs = [v] ∧ (∀ t ∈ ts, t.s.size ≤ 9223372036854775807) ∧ ts.length ≤ 9223372036854775807 ∧ AV W 0 v ts := by
  rcases DataW.trod_slice Try.underlying37 h with ⟨rfl, _⟩ | ⟨a, len, cap, elems, rest, n, hn, rfl, _, _, hl, hmx, hlen, hel, _, _⟩
  · exact ⟨_, [], rfl, fun _ h => by simp at h, by simp, _, _, rfl, .inl rfl⟩
  · rw [cT8] at hel
    have each : ∀ i, i < len → ∃ (cs' : List Value) (y : DataW H × List MemPlace), W.cells? 0 (a.add (i * 2)) 2 = some cs' ∧ DataW.trod enc Try.prog W 0 sp held n 87 cs' = some y := fun i hi => by
      have h1 := hel i hi
      rw [List.getElem?_eq_getElem (by omega), Option.bind_eq_some_iff] at h1
      obtain ⟨cs', h2, h3⟩ := h1
      exact ⟨cs', _, h2, h3⟩
    rcases Nat.eq_zero_or_pos len with h0 | h0
    · subst h0; exact ⟨_, [], rfl, fun _ h => by simp at h, by simp, _, _, rfl, .inl rfl⟩
    · have each2 : ∀ i, i < len → ∃ t : AR, t.s.size ≤ 9223372036854775807 ∧ ∀ j u, [Value.string t.s, .int .i64 t.n][j]? = some u → W.cell? ((a.add (i * 2)).add j) = some u := fun i hi => by
        obtain ⟨cs', y, h1, h2⟩ := each i hi
        obtain ⟨_, hc, hcell⟩ := World.cells?_some h1
        obtain ⟨t, rfl, k1⟩ := open_term h2
        refine ⟨t, k1, fun j u hj => ?_⟩
        have hj4 : j < 2 := by have := (List.getElem?_eq_some_iff.1 hj).1; simpa using this
        rw [hcell j hj4]; exact hj
      obtain ⟨b, off, spot⟩ := a
      have hsp : spot = Option.none := by
        obtain ⟨x, _, hc⟩ := each2 0 h0
        have := World.cell?_spot (hc 0 _ rfl)
        simpa [Addr.add] using this
      subst hsp
      have e : ∀ i j, ((⟨b, off, Option.none⟩ : Addr).add i).add j = ⟨b, off + i + j, Option.none⟩ := fun i j => by rw [add_plain, add_plain]
      obtain ⟨R, r1, r2, r3⟩ := build_arrs (W := W) (b := b) (o := off) (len := len) (fun i hi => by
        obtain ⟨t, k1, hc⟩ := each2 i hi
        have c0 := hc 0 _ rfl; have c1 := hc 1 _ rfl
        rw [e] at c0 c1
        exact ⟨t, k1, c0, c1⟩) len (Nat.le_refl _)
      have hlt : b < W.heap.size := by
        obtain ⟨t, _, hc⟩ := each2 0 h0
        have := hc 0 _ rfl
        rw [e] at this
        exact lt_of_cellA this
      refine ⟨_, R, rfl, r2, by unfold maxLen at hmx; omega, _, cap, by rw [r1], .inr ⟨b, off, rfl, Nat.zero_le _, hlt, r3⟩⟩
end
end Go.Proofs.Ytljahppjkhinpaa
/-
  Straight sums as arguments: their size, their copies, whether they are the same; sums that came in, opened.
-/
namespace Go.Proofs.Ytljahppjkhinpaa
open Go.RowKit Go.Lib
set_option linter.unusedSimpArgs false
set_option linter.unusedVariables false

set_option maxHeartbeats 1000000 in
theorem szAff_is (c : Int) (ts : List AR) (hts : ∀ t ∈ ts, t.s.size ≤ 9223372036854775807) (hM : ts.length ≤ 9223372036854775807) (v : Value) (w : World) (hr : AV w 0 v ts) (left : Int) (h0 : 0 ≤ left) (h1 : left ≤ 1048576) :
    Calls Try.prog 17 #[.agg #[.int .i64 c, v], .int .i64 left] w (Sz (asize ts) left w) := by
  have B := Lib.hid (alloc_below w (.cells #[.int .i64 c, v] 39))
  have HR := Lib.hid hr
  clear hr
  go_enter Try.func17, Try.ntmps17
  go_wp2_with fail
  refine (szTermS_is ts hts hM v _ (HR.out.later B.out) left h0 h1).mono ?_
  rintro e w1 ⟨rfl, hb1⟩
  have B2 := Lib.hid (B.out.trans (hb1.mono B.out.size))
  clear hb1
  by_cases hd : left < (asize ts : Int)
  · rw [if_pos hd]
    go_wp2
    go_ret
    exact Sz.less hd B2.out
  · rw [if_neg hd]
    have hn : ¬ left - (asize ts : Int) < 0 := by omega
    go_wp2
    go_ret
    exact Sz.more (by omega) rfl B2.out
theorem sizeLA8 : (Try.prog.info? 39).map (·.size) = some 2 := by kernel_rfl
theorem sizeIA8 : (Try.prog.info? 26).map (·.size) = some 2 := by kernel_rfl
set_option maxHeartbeats 2000000 in
theorem toAff_is (c : Int) (ts : List AR) (hn : ts.length ≤ 1048576) (v : Value) (w : World) (hr : AV w 0 v ts) :
    Calls Try.prog 19 #[.agg #[.int .i64 c, v]] w fun e w' => ∃ v', e = .returned (.agg #[.int .i64 c, v']) ∧ AV w' w.heap.size v' ts ∧ Below w.heap.size w w' := by
  have HR := Lib.hid hr
  obtain ⟨a1, c1, rfl⟩ := hr.shape
  clear hr
  go_enter Try.func19, Try.ntmps19
  go_wp2_with fail
  have hb3 := ((alloc_below w (.cells #[.int .i64 c, .slice a1 ts.length c1] 39)).alloc (by simp) (.cells #[.int .i64 0, .slice Option.none 0 0] 26)).alloc (by simp; omega) (.cells #[.int .i64 c, .slice Option.none 0 0] 26)
  obtain ⟨q0, q1, q2⟩ := heap3 w (.cells #[.int .i64 c, .slice a1 ts.length c1] 39) (.cells #[.int .i64 0, .slice Option.none 0 0] 26) (.cells #[.int .i64 c, .slice Option.none 0 0] 26)
  refine (toTermS_is ts hn _ _ (HR.out.later hb3)).mono ?_
  rintro e w1 ⟨ua, rfl, hua, hb1⟩
  obtain ⟨x1, y1, rfl⟩ := hua.shape
  have r1 := (hb1.block _ (by simp)).trans q1
  have r2 := (hb1.block _ (by simp)).trans q2
  have B1 := hb3.trans (hb1.mono hb3.size)
  have hs1 := hb1.size
  simp only [World.size_alloc] at hs1 hua
  have B2 := ((B1.setCell (p := ⟨w.heap.size + 2, 1, Option.none⟩) (by simp) (.slice x1 ts.length y1)).setCell (p := ⟨w.heap.size + 1, 0, Option.none⟩) (by simp) (.int .i64 c)).setCell (p := ⟨w.heap.size + 1, 1, Option.none⟩) (by simp) (.slice x1 ts.length y1)
  have K2 : Keeps (w.heap.size + 3) w1 (((w1.setCell ⟨w.heap.size + 2, 1, Option.none⟩ (.slice x1 ts.length y1)).setCell ⟨w.heap.size + 1, 0, Option.none⟩ (.int .i64 c)).setCell ⟨w.heap.size + 1, 1, Option.none⟩ (.slice x1 ts.length y1)) := ((Keeps.set _ _ (by simp) _).trans (Keeps.set _ _ (by simp) _)).trans (Keeps.set _ _ (by simp) _)
  obtain ⟨⟨g0, g1⟩, f0, f1⟩ := blk2 r2
  obtain ⟨⟨e0, e1⟩, k0, k1⟩ := blk2 r1
  have HA := Lib.hid hua
  have HB := Lib.hid B2
  have HK := Lib.hid K2
  have HS := Lib.hid hs1
  clear hb1 hb3 hua B1 B2 K2 q0 q1 q2 r1 r2 hs1
  go_wp2
  refine bodyPost_ret (v := .agg #[.int .i64 c, .slice x1 ts.length y1]) (by simp [results, Try.results19, go_sem, e0, e1]) rfl ⟨_, rfl, HA.out.same (by omega) HK.out (by simp), HB.out⟩
set_option maxHeartbeats 2000000 in
theorem eqAff_same (c : Int) (ts : List AR) (hlen : ts.length ≤ 100000000) (va vb : Value) (w : World) (ha : AV w 0 va ts) (hb : AV w 0 vb ts) :
    Calls Try.prog 20 #[.agg #[.int .i64 c, va], .agg #[.int .i64 c, vb]] w fun e w' => e = .returned (.bool true) ∧ Below w.heap.size w w' := by
  have B := Lib.hid ((alloc_below w (.cells #[.int .i64 c, va] 26)).alloc (by simp) (.cells #[.int .i64 c, vb] 26))
  have HR := Lib.hid (And.intro ha hb)
  clear ha hb
  go_enter Try.func20, Try.ntmps20
  go_wp2_with fail
  refine (eqTermS_same ts hlen va vb _ (HR.out.1.later B.out) (HR.out.2.later B.out)).mono ?_
  rintro e w1 ⟨rfl, hb1⟩
  have B2 := Lib.hid (B.out.trans (hb1.mono B.out.size))
  clear hb1
  go_wp2
  go_ret
  exact ⟨rfl, B2.out⟩
theorem abytes_mem8 {ts : List AR} {t : AR} (h : t ∈ ts) : t.s.size ≤ abytes ts := by
  induction ts with
  | nil => simp at h
  | cons u us ih =>
    rcases List.mem_cons.1 h with rfl | h
    · simp only [abytes]; omega
    · have := ih h; simp only [abytes]; omega
/-- A sum in two cells of a block. -/
structure At8 (w0 w : World) (n : Nat) (c : Int) (va : Value) (ts : List AR) : Prop where
  rg : w.rangeAt n 0 [.int .i64 c, va]
  av : AV w 0 va ts
  low : Below w0.heap.size w0 w
theorem At8.later {w0 w w' : World} {n : Nat} {c : Int} {va : Value} {ts : List AR} (h : At8 w0 w n c va ts) (hb : Below w.heap.size w w') : At8 w0 w' n c va ts :=
  ⟨rangeAt_later h.rg hb, h.av.later hb, h.low.trans (hb.mono h.low.size)⟩
theorem At8.start {w : World} (t : TypeId) {c : Int} {va : Value} {ts : List AR} (ha : AV w 0 va ts) : At8 w (w.alloc (.cells #[.int .i64 c, va] t)) w.heap.size c va ts :=
  ⟨blk_range (arr := #[.int .i64 c, va]) (heap_last _ _), ha.later (alloc_below _ _), alloc_below _ _⟩
end Go.Proofs.Ytljahppjkhinpaa
namespace Go.Proofs.Ytljahppjkhinpaa
open Go.ChangeShapes Go.WideShapes Go.ChangeAt Go.RowKit
theorem cA8 : Try.prog.cellsOf 39 = 2 := by kernel_rfl
theorem cTs8 : Try.prog.cellsOf 37 = 1 := by kernel_rfl
section
variable {H : Type} {enc : TypeId × Value → H} {W : World} {sp : Nat → Bool} {held : Bool}
set_option maxRecDepth 100000 in
theorem open_aff {fuel : Nat} {cs : List Value} {y : DataW H × List MemPlace} (h : DataW.trod enc Try.prog W 0 sp held fuel 39 cs = some y) :
    ∃ (c : Int) (va : Value) (ts : List AR), cs = [.int .i64 c, va] ∧ (-9223372036854775808 ≤ c ∧ c ≤ 9223372036854775807) ∧ (∀ t ∈ ts, t.s.size ≤ 9223372036854775807) ∧ ts.length ≤ 9223372036854775807 ∧ AV W 0 va ts := by
  obtain ⟨xs, m, hm, _, hlen, hxl, hf⟩ := DataW.trod_struct Try.underlying39 h
  rw [cA8] at hlen
  match xs, hxl, cs, hlen with
  | [y0, y1], _, [v0, v1], _ =>
    have g0 := hf 0 _ rfl
    have g1 := hf 1 _ rfl
    simp [cI, cTs8] at g0 g1
    obtain ⟨n, e0, _, hn⟩ := DataW.trod_int Try.underlying3 g0
    obtain ⟨va, ts, e1, k1, k2, k3⟩ := open_terms g1
    injection e0 with e0; injection e1 with e1
    subst e0; subst e1
    exact ⟨n, v1, ts, rfl, bounds_i64 hn, k1, k2, k3⟩
end
end Go.Proofs.Ytljahppjkhinpaa
/-
  Names in order (no Go): what l4Put makes of a row of names, and that rows in order with the same names are the same.
-/
namespace Go.Proofs.Ytljahppjkhinpaa
open Go.RowKit Go.Lib Go.Maps
set_option linter.unusedSimpArgs false
set_option linter.unusedVariables false

/-- One name ahead of another, byte by byte. -/
def blt (a b : ByteArray) : Bool := Op.bytesLess a.toList b.toList
theorem blt_iff (a b : ByteArray) : blt a b = true ↔ a.data.toList < b.data.toList := by
  unfold blt; rw [bytesLess_eq, ByteArray.toList_eq, ByteArray.toList_eq]; simp
theorem blt_irrefl (a : ByteArray) : blt a a = false := by
  cases h : blt a a with
  | false => rfl
  | true => exact absurd ((blt_iff a a).1 h) (List.lt_irrefl _)
theorem blt_trans {a b c : ByteArray} (h : blt a b = true) (g : blt b c = true) : blt a c = true := (blt_iff a c).2 (List.lt_trans ((blt_iff a b).1 h) ((blt_iff b c).1 g))
theorem ba_ext {a b : ByteArray} (h : a.data.toList = b.data.toList) : a = b := ByteArray.ext (Array.toList_inj.1 h)
theorem blt_total {a b : ByteArray} (h : blt a b = false) (hne : a ≠ b) : blt b a = true := by
  rw [blt_iff]
  have h1 : ¬ a.data.toList < b.data.toList := fun hh => by rw [(blt_iff a b).2 hh] at h; cases h
  have h2 : b.data.toList ≤ a.data.toList := List.not_lt.1 h1
  rcases List.le_iff_lt_or_eq.1 h2 with h3 | h3
  · exact h3
  · exact absurd (ba_ext h3).symm hne
/-- In order, no two alike. -/
def Asc (l : List ByteArray) : Prop := l.Pairwise (fun a b => blt a b = true)
theorem Asc.nodup {l : List ByteArray} (h : Asc l) : l.Nodup := List.Pairwise.imp (fun {a b} hab e => by subst e; rw [blt_irrefl] at hab; cases hab) h
theorem asc_ext {l m : List ByteArray} (hl : Asc l) (hm : Asc m) (h : ∀ b, b ∈ l ↔ b ∈ m) : l = m :=
  List.Perm.eq_of_pairwise (le := fun a b => blt a b = true) (fun a b _ _ h1 h2 => by have := blt_trans h1 h2; rw [blt_irrefl] at this; cases this) hl hm ((List.perm_ext_iff_of_nodup hl.nodup hm.nodup).2 h)
/-- What l4Put makes of what is left of a row. -/
def putR (s : ByteArray) : Bool → List ByteArray → List ByteArray
  | d, [] => if d = true then [] else [s]
  | true, x :: r => if x = s then putR s true r else x :: putR s true r
  | false, x :: r => if blt x s = true then (if x = s then putR s false r else x :: putR s false r) else s :: (if x = s then putR s true r else x :: putR s true r)
theorem putR_true (s : ByteArray) : ∀ (l : List ByteArray) (b : ByteArray), b ∈ putR s true l ↔ b ∈ l ∧ b ≠ s
  | [], b => by simp [putR]
  | x :: r, b => by
    have ih := putR_true s r b
    rw [putR]
    by_cases hx : x = s
    · rw [if_pos hx, ih]
      constructor
      · rintro ⟨h1, h2⟩; exact ⟨List.mem_cons_of_mem _ h1, h2⟩
      · rintro ⟨h1, h2⟩
        rcases List.mem_cons.1 h1 with h1 | h1
        · exact absurd (h1.trans hx) h2
        · exact ⟨h1, h2⟩
    · rw [if_neg hx, List.mem_cons, ih, List.mem_cons]
      constructor
      · rintro (h | ⟨h1, h2⟩)
        · exact ⟨.inl h, by rw [h]; exact hx⟩
        · exact ⟨.inr h1, h2⟩
      · rintro ⟨h1 | h1, h2⟩
        · exact .inl h1
        · exact .inr ⟨h1, h2⟩
theorem asc_true (s : ByteArray) : ∀ (l : List ByteArray), Asc l → Asc (putR s true l)
  | [], _ => by simp [putR, Asc]
  | x :: r, h => by
    obtain ⟨h1, h2⟩ := List.pairwise_cons.1 h
    have ih := asc_true s r h2
    rw [putR]
    by_cases hx : x = s
    · rw [if_pos hx]; exact ih
    · rw [if_neg hx]; exact List.pairwise_cons.2 ⟨fun b hb => h1 b ((putR_true s r b).1 hb).1, ih⟩
theorem asc_put (s : ByteArray) : ∀ (l : List ByteArray), Asc l → Asc (putR s false l) ∧ ∀ b, b ∈ putR s false l ↔ (b = s ∨ b ∈ l)
  | [], _ => by simp [putR, Asc]
  | x :: r, h => by
    obtain ⟨h1, h2⟩ := List.pairwise_cons.1 h
    obtain ⟨i1, i2⟩ := asc_put s r h2
    rw [putR]
    cases hb : blt x s with
    | true =>
      have hx : ¬ x = s := fun e => by subst e; rw [blt_irrefl] at hb; cases hb
      rw [if_pos rfl, if_neg hx]
      refine ⟨List.pairwise_cons.2 ⟨fun b hbm => ?_, i1⟩, fun b => ?_⟩
      · rcases (i2 b).1 hbm with e | e
        · subst e; exact hb
        · exact h1 b e
      · rw [List.mem_cons, i2 b, List.mem_cons]
        constructor
        · rintro (e | e | e) <;> simp [e]
        · rintro (e | e | e) <;> simp [e]
    | false =>
      rw [if_neg (by simp)]
      by_cases hx : x = s
      · subst hx
        rw [if_pos rfl]
        refine ⟨List.pairwise_cons.2 ⟨fun b hbm => h1 b ((putR_true x r b).1 hbm).1, asc_true x r h2⟩, fun b => ?_⟩
        rw [List.mem_cons, putR_true, List.mem_cons]
        constructor
        · rintro (e | ⟨e, _⟩)
          · exact .inl e
          · exact .inr (.inr e)
        · rintro (e | e | e)
          · exact .inl e
          · exact .inl e
          · by_cases hbx : b = x
            · exact .inl hbx
            · exact .inr ⟨e, hbx⟩
      · have hsx := blt_total hb hx
        rw [if_neg hx]
        refine ⟨List.pairwise_cons.2 ⟨fun b hbm => ?_, List.pairwise_cons.2 ⟨fun b hbm => h1 b ((putR_true s r b).1 hbm).1, asc_true s r h2⟩⟩, fun b => ?_⟩
        · rcases List.mem_cons.1 hbm with e | e
          · rw [e]; exact hsx
          · exact blt_trans hsx (h1 b ((putR_true s r b).1 e).1)
        · rw [List.mem_cons, List.mem_cons, putR_true, List.mem_cons]
          constructor
          · rintro (e | e | ⟨e, _⟩)
            · exact .inl e
            · exact .inr (.inl e)
            · exact .inr (.inr e)
          · rintro (e | e | e)
            · exact .inl e
            · exact .inr (.inl e)
            · by_cases hbs : b = s
              · exact .inl hbs
              · exact .inr (.inr ⟨e, hbs⟩)
/-- How long a row gets. -/
theorem putR_len (s : ByteArray) : ∀ (d : Bool) (l : List ByteArray), (putR s d l).length ≤ l.length + 1
  | true, [] => by simp [putR]
  | false, [] => by simp [putR]
  | true, x :: r => by
    have := putR_len s true r
    rw [putR]; split <;> simp only [List.length_cons] <;> omega
  | false, x :: r => by
    have h1 := putR_len s false r
    have h2 : (putR s true r).length ≤ r.length := by
      clear h1
      induction r with
      | nil => simp [putR]
      | cons y r ih => rw [putR]; split <;> simp only [List.length_cons] <;> omega
    rw [putR]; split <;> split <;> simp only [List.length_cons] <;> omega
/-- The names of statements of a kind, behind those that came. -/
def nmS (k : Int) : SF → List ByteArray → List ByteArray
  | .nil, out => out
  | .node _ _ h l r, out => nmS k r (nmS k l (if h.k = k then putR h.s false out else out))
/-- The names of expressions of a kind. -/
def nmE (k : Int) : EF → List ByteArray → List ByteArray
  | .nil, out => out
  | .node _ _ h l r, out => nmE k r (nmE k l (if h.k = k then putR h.s false out else out))
def nmX (k : Int) (x : X) (out : List ByteArray) : List ByteArray := nmE k x.l (if x.h.k = k then putR x.h.s false out else out)
def nmA (k : Int) : SF → List ByteArray → List ByteArray
  | .nil, out => out
  | .node _ _ h l r, out => nmA k r (nmA k l (nmX k h.x4 (nmX k h.x3 (nmX k h.x2 (nmX k h.x1 out)))))
end Go.Proofs.Ytljahppjkhinpaa
/-
  Plain facts on numbers and their digits: no Go in sight.
-/
namespace Go.Proofs.Ytljahppjkhinpaa
open Go.Lib Go.RowKit

/-! ### words that go round -/
theorem wrap32_bd (n : Int) : -2147483648 ≤ wrap32 n ∧ wrap32 n ≤ 2147483647 := by unfold wrap32; omega
theorem wrap32_id (n : Int) (h0 : -2147483648 ≤ n) (h1 : n ≤ 2147483647) : wrap32 n = n := by unfold wrap32; omega
theorem mul_bd (a b : Int) (ha0 : -2147483648 ≤ a) (ha : a ≤ 2147483647) (hb0 : -2147483648 ≤ b) (hb : b ≤ 2147483647) : -9223372036854775808 ≤ a * b ∧ a * b ≤ 9223372036854775807 := by
  have h1 : a.natAbs ≤ 2147483648 := by omega
  have h2 : b.natAbs ≤ 2147483648 := by omega
  have h3 : (a * b).natAbs ≤ 2147483648 * 2147483648 := by rw [Int.natAbs_mul]; exact Nat.mul_le_mul h1 h2
  omega

/-! ### the greatest that divides both -/
theorem gcd_step (x y : Int) : Int.gcd y (x.tmod y) = Int.gcd x y := by
  rw [Int.gcd_comm x y]
  simp only [Int.gcd, Int.natAbs_tmod]
  rw [Nat.gcd_comm, ← Nat.gcd_rec]
theorem gcd_zero (x : Int) : (Int.gcd x 0 : Int) = if x < 0 then -x else x := by
  simp
  split <;> omega
theorem tmod_lt (x y : Int) (h : y ≠ 0) : (x.tmod y).natAbs < y.natAbs := by
  rw [Int.natAbs_tmod]
  exact Nat.mod_lt _ (by omega)
theorem gcd_dvd_tmod (x y : Int) : x.tmod (Int.gcd x y) = 0 ∧ y.tmod (Int.gcd x y) = 0 :=
  ⟨Int.tmod_eq_zero_of_dvd (Int.gcd_dvd_left ..), Int.tmod_eq_zero_of_dvd (Int.gcd_dvd_right ..)⟩
theorem gcd_none {x y : Int} (h : Int.gcd x y = 0) : x = 0 ∧ y = 0 := Int.gcd_eq_zero_iff.1 h
theorem gcd_le (x y : Int) (h0 : -2147483648 ≤ x) (h1 : x ≤ 2147483647) (h2 : -2147483648 ≤ y) (h3 : y ≤ 2147483647) : (Int.gcd x y : Int) ≤ 2147483648 := by
  by_cases hx : x = 0
  · subst hx; rw [Int.gcd_comm, gcd_zero]; split <;> omega
  · have := Nat.le_of_dvd (by omega) (Nat.gcd_dvd_left x.natAbs y.natAbs)
    have e : Int.gcd x y = Nat.gcd x.natAbs y.natAbs := rfl
    omega

/-! ### the digits, from the last one on -/
theorem decDigits_last (u : Nat) : decDigits u = (if u / 10 = 0 then [] else decDigits (u / 10)) ++ [UInt8.ofNat (48 + u % 10)] := by
  by_cases h : u < 10
  · rw [decDigits, dif_pos h, if_pos (by omega), Nat.mod_eq_of_lt h]; rfl
  · rw [decDigits, dif_neg h, if_neg (by omega)]
/-- What is left to be written of n's digits, and what has been: together they are the digits. -/
def Digs (n u : Nat) (t : List UInt8) : Prop := decDigits n = (if u = 0 then [] else decDigits u) ++ t
theorem digs_start (n : Nat) (h : 1 ≤ n) : Digs n n [] := by unfold Digs; rw [if_neg (by omega)]; simp
theorem digs_step {n u : Nat} {t : List UInt8} (h : Digs n u t) (hu : u ≠ 0) : Digs n (u / 10) (UInt8.ofNat (48 + u % 10) :: t) := by
  unfold Digs at h ⊢
  rw [if_neg hu, decDigits_last u] at h
  rw [h]; simp
theorem digs_end {n : Nat} {t : List UInt8} (h : Digs n 0 t) : decDigits n = t := by
  unfold Digs at h; simpa using h


theorem head_append {a : List UInt8} (b : List UInt8) (h : a ≠ []) : (a ++ b).head? = a.head? := by
  cases a with
  | nil => exact absurd rfl h
  | cons _ _ => rfl

theorem decFrom_append : ∀ (a b : List UInt8) (acc : Nat), decFrom acc (a ++ b) = (decFrom acc a).bind fun n => decFrom n b
  | [], b, acc => by simp [decFrom]
  | c :: r, b, acc => by
    simp only [List.cons_append, decFrom]
    cases digitVal c with
    | none => simp
    | some d => simpa using decFrom_append r b _

theorem digitVal_of (d : Nat) (h : d < 10) : digitVal (UInt8.ofNat (48 + d)) = some d := by
  have : (UInt8.ofNat (48 + d)).toNat = 48 + d := by simp; omega
  unfold digitVal
  rw [if_pos (by omega), this]
  simp

theorem byte_of_digit {b : UInt8} {d : Nat} (h : digitVal b = some d) : b = UInt8.ofNat (48 + d) ∧ d < 10 := by
  obtain ⟨h1, h2, h3⟩ := digitVal_eq h
  refine ⟨?_, by omega⟩
  apply UInt8.toNat_inj.1
  simp
  omega

/-- The digits of u spell u. -/
theorem decFrom_decDigits (u : Nat) : decFrom 0 (decDigits u) = some u := by
  induction u using Nat.strongRecOn with
  | _ u ih =>
    by_cases h : u < 10
    · rw [decDigits, dif_pos h]
      simp only [decFrom, digitVal_of u h]
      simp
    · rw [decDigits, dif_neg h, decFrom_append, ih (u / 10) (by omega)]
      simp only [Option.bind_some, decFrom, digitVal_of (u % 10) (by omega)]
      simp
      omega

theorem decDigits_ne (u : Nat) : decDigits u ≠ [] := by
  rw [decDigits]
  split <;> simp

/-- No needless nought stands ahead of u's digits. -/
theorem decDigits_head (u : Nat) (h : 1 ≤ u) : (decDigits u).head? ≠ some 48 := by
  induction u using Nat.strongRecOn with
  | _ u ih =>
    by_cases h10 : u < 10
    · rw [decDigits, dif_pos h10]
      simp only [List.head?_cons]
      intro he
      have he := Option.some.inj he
      have : (UInt8.ofNat (48 + u)).toNat = 48 := by rw [he]; rfl
      simp at this
      omega
    · rw [decDigits, dif_neg h10, head_append _ (decDigits_ne _)]
      exact ih _ (by omega) (by omega)

theorem nDigits_le10 (u : Nat) (h : u < 10000000000) : nDigits u ≤ 10 := by
  have step : ∀ k v, v < 10 ^ k → 1 ≤ k → nDigits v ≤ k := by
    intro k
    induction k with
    | zero => intro v _ h; omega
    | succ k ih =>
      intro v hv _
      rw [nDigits]
      split
      · omega
      · rename_i h10
        have : v / 10 < 10 ^ k := by rw [Nat.pow_succ] at hv; omega
        have hk : 1 ≤ k := by
          rcases k with _ | k
          · simp at this; omega
          · omega
        have := ih _ this hk
        omega
  exact step 10 u (by simpa using h) (by omega)

/-- A row of digits without a needless nought ahead is the digits of what it spells. -/
theorem decDigits_of (l : List UInt8) : ∀ u, decFrom 0 l = some u → l ≠ [] → (l.length > 1 → l.head? ≠ some 48) → l = decDigits u := by
  induction hn : l.length generalizing l with
  | zero => intro u _ h; exact absurd (List.length_eq_zero_iff.1 hn) h
  | succ n ih =>
    intro u hu hne hh
    obtain ⟨r, b, rfl⟩ : ∃ r b, l = r ++ [b] := ⟨l.dropLast, l.getLast hne, (List.dropLast_concat_getLast hne).symm⟩
    rw [decFrom_append] at hu
    cases hr : decFrom 0 r with
    | none => simp [hr] at hu
    | some v =>
      simp only [hr, Option.bind_some, decFrom] at hu
      cases hb : digitVal b with
      | none => simp [hb] at hu
      | some d =>
        simp only [hb, Option.some.injEq] at hu
        obtain ⟨rfl, hd⟩ := byte_of_digit hb
        by_cases hre : r = []
        · subst hre
          simp [decFrom] at hr
          subst hr
          rw [decDigits, dif_pos (by omega)]
          simp at hu ⊢
          rw [hu]
        · have hlen : r.length = n := by simpa using hn
          have hr1 : 1 ≤ r.length := by cases r with | nil => exact absurd rfl hre | cons _ _ => simp
          have hhd : (r ++ [UInt8.ofNat (48 + d)]).head? = r.head? := head_append _ hre
          have h48 : r.head? ≠ some 48 := by rw [← hhd]; exact hh (by simp; omega)
          have er := ih r hlen v hr hre (fun _ => h48)
          have hv : 1 ≤ v := by
            rcases Nat.eq_zero_or_pos v with h0 | h0
            · subst h0
              rw [decDigits, dif_pos (by omega)] at er
              rw [er] at h48
              exact absurd rfl h48
            · exact h0
          rw [decDigits, dif_neg (by omega), er]
          congr 1
          · congr 1; omega
          · congr 2; omega

/-- ParseNum as the document has it: the digits of a word that is not below 0, and nothing else. -/
def parseNum (l : List UInt8) : Option Nat :=
  match decFrom 0 l with
  | some u => if u ≤ 2147483647 ∧ l = decDigits u then some u else none
  | none => none

theorem parseNum_some {l : List UInt8} {u : Nat} : parseNum l = some u ↔ u ≤ 2147483647 ∧ l = decDigits u := by
  unfold parseNum
  constructor
  · intro h
    split at h
    · split at h
      · rename_i hx; injection h with h; subst h; exact hx
      · cases h
    · cases h
  · rintro ⟨h, rfl⟩
    simp [decFrom_decDigits, h]

theorem atoiAll_decDigits (u : Nat) (h : u ≤ 2147483647) : atoiAll (decDigits u) = .ok (u : Int) := by
  have hl : (decDigits u).length ≤ 18 := by rw [decDigits_length]; have := nDigits_le10 u (by omega); omega
  rw [atoiAll_short _ hl]
  have hd := decFrom_decDigits u
  cases hdd : decDigits u with
  | nil => exact absurd hdd (decDigits_ne u)
  | cons b r =>
    rw [hdd] at hd
    obtain ⟨d, hb⟩ := digit_of_decFrom _ _ _ hd 0 b (by simp)
    obtain ⟨h1, h2, _⟩ := digitVal_eq hb
    have n1 : (b == 45) = false := by rw [beq_eq_false_iff_ne]; intro e; rw [e] at h1; exact absurd h1 (by decide)
    have n2 : (b == 43) = false := by rw [beq_eq_false_iff_ne]; intro e; rw [e] at h1; exact absurd h1 (by decide)
    simp only [atoi, n1, n2, decNat, hd]
    simp [NumEnd.ofOption]

/-- What the landed code tests behind Atoi, and what it then answers, is parseNum. -/
theorem impl_some {l : List UInt8} {v : Int} (h : atoiAll l = .ok v) (h0 : 0 ≤ v) (h1 : v ≤ 2147483647) (h2 : l = itoa v) : parseNum l = some v.toNat := by
  obtain ⟨u, rfl⟩ := Int.eq_ofNat_of_zero_le h0
  rw [itoa_nonneg] at h2
  exact parseNum_some.2 ⟨by simp; omega, by simpa using h2⟩

theorem impl_none {l : List UInt8} (h : ∀ v, atoiAll l = .ok v → 0 ≤ v → v ≤ 2147483647 → l ≠ itoa v) : parseNum l = none := by
  cases hp : parseNum l with
  | none => rfl
  | some u =>
    obtain ⟨h1, rfl⟩ := parseNum_some.1 hp
    exact absurd (itoa_nonneg u).symm (h u (atoiAll_decDigits u h1) (by omega) (by omega))

/-- What the specification tests is parseNum. -/
theorem spec_some {l : List UInt8} {u : Nat} (h : decFrom 0 l = some u) (h1 : 1 ≤ l.length) (h3 : ¬ (1 < l.length ∧ l.head? = some 48)) (h4 : u ≤ 2147483647) : parseNum l = some u :=
  parseNum_some.2 ⟨h4, decDigits_of l u h (by intro e; simp [e] at h1) (fun hl hh => h3 ⟨hl, hh⟩)⟩

theorem spec_none_byte {l : List UInt8} (h : decFrom 0 l = none) : parseNum l = none := by simp [parseNum, h]

theorem spec_none_long {l : List UInt8} (h : 10 < l.length) : parseNum l = none := by
  cases hp : parseNum l with
  | none => rfl
  | some u =>
    obtain ⟨h1, rfl⟩ := parseNum_some.1 hp
    rw [decDigits_length] at h
    have := nDigits_le10 u (by omega)
    omega

theorem spec_none_nil : parseNum [] = none := by
  cases hp : parseNum [] with
  | none => rfl
  | some u => exact absurd (parseNum_some.1 hp).2.symm (decDigits_ne u)

theorem spec_none_nought {l : List UInt8} (h : 1 < l.length) (hh : l.head? = some 48) : parseNum l = none := by
  cases hp : parseNum l with
  | none => rfl
  | some u =>
    obtain ⟨h1, rfl⟩ := parseNum_some.1 hp
    rcases Nat.eq_zero_or_pos u with h0 | h0
    · subst h0
      rw [decDigits, dif_pos (by omega)] at h
      simp at h
    · exact absurd hh (decDigits_head u h0)

theorem spec_none_great {l : List UInt8} {u : Nat} (h : decFrom 0 l = some u) (h4 : 2147483647 < u) : parseNum l = none := by
  unfold parseNum
  rw [h]
  simp only
  rw [if_neg (by omega)]
end Go.Proofs.Ytljahppjkhinpaa
