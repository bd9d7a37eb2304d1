/-
  Texts in one: AstArr, TxtProgP, NumShelf, NumWalks.
-/
import Derived.Test.YtkhccpjkajhnpabGreatDoorP01ofProgText
import Derived.Deep.RegionWith
import Derived.Deep.Cut
import Derived.Deep.CutRange
import Derived.Test.YtkhccpjkajhnpabGreatDoorP05ofProgText
import Derived.Test.YtkhccpjkajhnpabGreatDoorP06ofProgText
import Derived.Shelf.Strconv.Itoa4
import Derived.Shelf.Strconv.AtoiAll
import Derived.Shelf.Strconv.ErrVarAll
import Derived.Shelf.LaysM
import Derived.Shelf.LaysC
import Derived.Test.YtkhccpjkajhnpabGreatDoorProg
import Derived.Test.YtkhccpjkajhnpabGreatDoorRows
import Derived.Test.YtkhccpjkajhnpabGreatDoorP04ofProgText
import Derived.WalkKit
import Derived.WalkLawsBesides
import Derived.Lib.SmallJoins
import Derived.Lib.AppendIntMem
import Derived.Lib.ItoaLen
import Derived.Deep.QuietTactic
import Derived.BigQuiet
/-
  Rows of arrays (a name and a size each): how they lie in memory; the contracts of szArrS, toArrS, eqArrS.
-/
namespace Go.Proofs.YtkhccpjkajhnpabGreatDoor
open Go.RowKit Go.Lib
set_option linter.unusedSimpArgs false
set_option linter.unusedVariables false

/-- An array: its name and its size. -/
structure AR where
  s : ByteArray
  n : Int
/-- A slice that holds these arrays, at lo or above. -/
def AV (w : World) (lo : Nat) (v : Value) (ts : List AR) : Prop :=
  ∃ ao cap, v = .slice ao ts.length cap ∧ (ts = [] ∨ ∃ g off, ao = some ⟨g, off, Option.none⟩ ∧ lo ≤ g ∧ g < w.heap.size ∧ ∀ i t, ts[i]? = some t →
    w.cell? ⟨g, off + i * 2, Option.none⟩ = some (.string t.s) ∧ w.cell? ⟨g, off + i * 2 + 1, Option.none⟩ = some (.int .i64 t.n))
theorem AV.same {w w' : World} {lo lo' : Nat} {v : Value} {ts : List AR} (hlo : lo' ≤ lo) (h : AV w lo v ts) (hk : Keeps lo w w') (hz : w.heap.size ≤ w'.heap.size) : AV w' lo' v ts := by
  obtain ⟨ao, cap, hv, h⟩ := h
  refine ⟨ao, cap, hv, ?_⟩
  rcases h with h | ⟨g, off, h1, h0, h2, h3⟩
  · exact .inl h
  · refine .inr ⟨g, off, h1, Nat.le_trans hlo h0, Nat.lt_of_lt_of_le h2 hz, fun i t hi => ?_⟩
    obtain ⟨a, b⟩ := h3 i t hi
    exact ⟨hk _ _ h0 a, hk _ _ h0 b⟩
theorem AV.later {w w' : World} {lo : Nat} {v : Value} {ts : List AR} (h : AV w lo v ts) (hb : Below w.heap.size w w') : AV w' lo v ts := h.same (Nat.le_refl _) (Keeps.later hb) hb.size
theorem AV.low {w : World} {lo : Nat} {v : Value} {ts : List AR} (h : AV w lo v ts) : AV w 0 v ts := h.same (Nat.zero_le _) (Keeps.refl _ _) (Nat.le_refl _)
theorem AV.shape {w : World} {lo : Nat} {v : Value} {ts : List AR} (h : AV w lo v ts) : ∃ a c, v = .slice a ts.length c := by obtain ⟨a, c, h1, _⟩ := h; exact ⟨a, c, h1⟩
/-- How many bytes their names have together. -/
def abytes : List AR → Nat
  | [] => 0
  | t :: ts => t.s.size + abytes ts
def asize (ts : List AR) : Nat := ts.length + abytes ts
theorem abytes_snoc (ts : List AR) (t : AR) : abytes (ts ++ [t]) = abytes ts + t.s.size := by
  induction ts with
  | nil => simp [abytes]
  | cons u us ih => simp only [List.cons_append, abytes, ih]; omega
theorem abytes_take (ts : List AR) (k : Nat) : abytes (ts.take k) ≤ abytes ts := by
  induction ts generalizing k with
  | nil => simp [abytes]
  | cons u us ih => cases k with
    | zero => simp [abytes]
    | succ k => have := ih k; simp only [List.take_succ_cons, abytes]; omega
theorem take_snocA {ts : List AR} {k : Nat} {t : AR} (h : ts[k]? = some t) : ts.take (k + 1) = ts.take k ++ [t] := by
  rw [List.take_add_one, h]; rfl
set_option maxHeartbeats 1000000 in
theorem szArr_is (t : AR) (ht : t.s.size ≤ 9223372036854775807) (left : Int) (h0 : 0 ≤ left) (h1 : left ≤ 1048576) (w : World) :
    Calls Tryz.prog 22 #[.agg #[.string t.s, .int .i64 t.n], .int .i64 left] w (Sz t.s.size left w) := by
  have hsI : (t.s.size : Int) ≤ 9223372036854775807 := by omega
  by_cases h : left < (t.s.size : Int)
  · have h' : left - (t.s.size : Int) < 0 := by omega
    go_enter Tryz.func22, Tryz.ntmps22
    go_wp2
    all_goals first
      | omega
      | (go_ret; exact Sz.less h (alloc_below _ _))
  · have h' : ¬ left - (t.s.size : Int) < 0 := by omega
    go_enter Tryz.func22, Tryz.ntmps22
    go_wp2
    all_goals first
      | omega
      | (go_ret; exact Sz.more (by omega) rfl (alloc_below _ _))
set_option maxHeartbeats 2000000 in
theorem szArrS_is (ts : List AR) (hts : ∀ t ∈ ts, t.s.size ≤ 9223372036854775807) (hM : ts.length ≤ 9223372036854775807) (v : Value) (w : World) (hr : AV w 0 v ts) (left : Int) (h0 : 0 ≤ left) (h1 : left ≤ 1048576) :
    Calls Tryz.prog 9 #[v, .int .i64 left] w (Sz (asize ts) left w) := by
  obtain ⟨ao, cap, rfl, hr⟩ := hr
  have Hts := Lib.hid hts
  clear hts
  obtain ⟨L0, rfl⟩ : ∃ L0 : Nat, left = (L0 : Int) := ⟨left.toNat, by omega⟩
  have HZ : Hid (asize ts = ts.length + abytes ts) := show asize ts = ts.length + abytes ts from rfl
  have hMI : (ts.length : Int) ≤ 9223372036854775807 := by omega
  by_cases hbig : (L0 : Int) < (ts.length : Int)
  · have hb' : (L0 : Int) - (ts.length : Int) < 0 := by omega
    go_enter Tryz.func9, Tryz.ntmps9
    go_wp2
    all_goals first
      | omega
      | (go_ret; exact Sz.less (by rw [HZ.out]; omega) (Below.refl _ _))
  · have hb' : ¬ (L0 : Int) - (ts.length : Int) < 0 := by omega
    go_enter Tryz.func9, Tryz.ntmps9
    go_wp2
    go_loopw [1, 5] (fun x i wr => ∃ k left : Nat, k ≤ ts.length ∧ i = .int .i64 k ∧ x = .int .i64 (left : Int) ∧ Hid (left + ts.length + abytes (ts.take k) = L0) ∧ Below w.heap.size w wr) (fun _ i _ => ts.length - (RowKit.intOf i).toNat)
    case atStart => exact ⟨0, L0 - ts.length, by omega, rfl, val_intA (by omega), (by show L0 - ts.length + ts.length + 0 = L0; omega), Below.refl _ _⟩
    case round =>
      obtain ⟨k, left, hk, rfl, rfl, hl, hbw⟩ := hrel
      have hlb := hl.out
      by_cases hlt : k < ts.length
      · have hltI : (k : Int) < (ts.length : Int) := by omega
        obtain ⟨t, ht⟩ : ∃ t, ts[k]? = some t := ⟨ts[k], List.getElem?_eq_getElem hlt⟩
        have htl := Hts.out t (List.mem_of_getElem? ht)
        rcases hr with hr | ⟨g, off, rfl, _, gl, hc⟩
        · subst hr; simp at hlt
        obtain ⟨a0, a1⟩ := hc k t ht
        have A0 := (hbw.cell (p := ⟨g, off + k * 2, Option.none⟩) gl).trans a0
        have A1 := (hbw.cell (p := ⟨g, off + k * 2 + 1, Option.none⟩) gl).trans a1
        have Htk : Hid (abytes (ts.take (k + 1)) = abytes (ts.take k) + t.s.size ∧ abytes (ts.take (k + 1)) ≤ abytes ts) := ⟨by rw [take_snocA ht, abytes_snoc], abytes_take _ _⟩
        have hl0 : (0 : Int) ≤ (left : Int) := by omega
        have hl1 : (left : Int) ≤ 1048576 := by omega
        clear a0 a1 hc ht
        by_cases hd : (left : Int) < (t.s.size : Int)
        · go_wp2_with fail
          refine (szArr_is t htl (left : Int) hl0 hl1 _).mono ?_
          rintro e w1 ⟨rfl, hb1⟩
          rw [if_pos hd]
          have hbw1 := hbw.trans (hb1.mono hbw.size)
          clear hb1 hbw A0 A1
          go_wp2
          go_ret
          exact Sz.less (by have := Htk.out; rw [HZ.out]; omega) hbw1
        · go_wp2_with fail
          refine (szArr_is t htl (left : Int) hl0 hl1 _).mono ?_
          rintro e w1 ⟨rfl, hb1⟩
          rw [if_neg (by omega)]
          have hbw1 := hbw.trans (hb1.mono hbw.size)
          have hnn : ¬ (left : Int) - (t.s.size : Int) < 0 := by omega
          clear hb1 hbw A0 A1
          go_wp2
          all_goals first
            | omega
            | (go_roundw
               case rel => exact ⟨k + 1, left - t.s.size, by omega, by go_num, val_intA (by omega), (by have h1 := hl.out; have h2 := Htk.out; show left - t.s.size + ts.length + abytes (ts.take (k + 1)) = L0; omega), hbw1⟩
               case measure => simp [RowKit.intOf]; omega)
      · have hkk : ts.take k = ts := List.take_of_length_le (by omega)
        rw [hkk] at hlb
        go_wp2
        go_ret
        exact Sz.more (by rw [HZ.out]; omega) (by rw [HZ.out]; omega) hbw
set_option maxHeartbeats 1000000 in
theorem toArr_is (t : AR) (w : World) :
    Calls Tryz.prog 34 #[.agg #[.string t.s, .int .i64 t.n]] w fun e w' => e = .returned (.agg #[.string t.s, .int .i64 t.n]) ∧ Below w.heap.size w w' := by
  go_enter Tryz.func34, Tryz.ntmps34
  go_wp2
  exact bodyPost_ret (v := .agg #[.string t.s, .int .i64 t.n]) (by simp [results, Tryz.results34, go_sem]) rfl ⟨rfl, (((Below.refl _ w).alloc (Nat.le_refl _) _).alloc (by simp) _).alloc (by simp; omega) _⟩
/-- The cells of a row of arrays. -/
def acells : List AR → List Value
  | [] => []
  | t :: ts => .string t.s :: .int .i64 t.n :: acells ts
theorem acells_len (ts : List AR) : (acells ts).length = ts.length * 2 := by
  induction ts with
  | nil => rfl
  | cons t ts ih => simp only [acells, List.length_cons, ih]; omega
theorem acells_snoc (ts : List AR) (t : AR) : acells (ts ++ [t]) = acells ts ++ [.string t.s, .int .i64 t.n] := by
  induction ts with
  | nil => rfl
  | cons u us ih => simp only [List.cons_append, acells, ih]
theorem acells_get (ts : List AR) : ∀ i t, ts[i]? = some t → (acells ts)[i * 2]? = some (.string t.s) ∧ (acells ts)[i * 2 + 1]? = some (.int .i64 t.n) := by
  induction ts with
  | nil => intro i t h; simp at h
  | cons u us ih =>
    intro i t h
    cases i with
    | zero => simp at h; subst h; exact ⟨rfl, rfl⟩
    | succ i =>
      have := ih i t (by simpa using h)
      rw [show (i + 1) * 2 = i * 2 + 2 by omega]
      simpa [acells] using this
theorem AV.laid {w : World} {g c : Nat} {ts : List AR} (hg : g < w.heap.size) (hr : w.rangeAt g 0 (acells ts)) : AV w g (.slice (some ⟨g, 0, Option.none⟩) ts.length c) ts :=
  ⟨_, c, rfl, .inr ⟨g, 0, rfl, Nat.le_refl _, hg, fun i t hi => ⟨hr _ _ (acells_get ts i t hi).1, by have := hr _ _ (acells_get ts i t hi).2; rwa [← Nat.add_assoc] at this⟩⟩⟩
theorem infoIA : (Tryz.prog.info? 39).map (fun i => (i.zero, i.size, i.bytes)) = some (some (.agg #[.string ⟨#[]⟩, .int .i64 0]), 2, 24) := by kernel_rfl
theorem sizeIA : (Tryz.prog.info? 39).map (·.size) = some 2 := by kernel_rfl
theorem all2 (t : ByteArray) (k : Int) : (#[.string t, .int .i64 k] : Array Value).all (·.oneCell') = true :=
  all_oneCell_toArray (cs := [.string t, .int .i64 k]) (fun v hv => by
    simp only [List.mem_cons, List.not_mem_nil, or_false] at hv
    rcases hv with rfl | rfl <;> rfl)
set_option maxHeartbeats 2000000 in
theorem toArrS_is (ts : List AR) (hn : ts.length ≤ 1048576) (v : Value) (w : World) (hr : AV w 0 v ts) :
    Calls Tryz.prog 14 #[v] w fun e w' => ∃ v', e = .returned v' ∧ AV w' w.heap.size v' ts ∧ Below w.heap.size w w' := by
  obtain ⟨ao, cap, rfl, hr⟩ := hr
  obtain ⟨i0, hi, hz0, hz1, hz2⟩ := info_parts infoIA
  go_enter Tryz.func14, Tryz.ntmps14
  go_wp2_with (refine wpList_make_full _ rfl _ _ 28 rfl w.heap.size 39 i0 _ 2 Tryz.underlying28 hi hz0 hz1 .i64 .i64 _ _ ts.length rfl rfl rfl rfl ?c1 ?c2 ?c3 ?_)
  case c1 => rw [hz2]; omega
  case c2 => unfold maxLen; omega
  case c3 => exact Nat.le_refl _
  intro w1 hown hgrow
  obtain ⟨cur, hcur, _, hcs, _⟩ := own_block hown
  have hbw : Below w.heap.size w w1 := (Below.refl _ w).grown hgrow (Nat.le_refl _) (fun k hk => by cases hk)
  have Hth : Hid (w1.there w.heap.size 0 (ts.length * 2)) := blk_there hcur (by omega)
  have hsz : w.heap.size < w1.heap.size := (Array.getElem?_eq_some_iff.1 hcur).1
  clear hown hgrow hcur hcs
  go_wp2
  go_loopw [4] (fun i wr => ∃ k : Nat, k ≤ ts.length ∧ i = .int .i64 k ∧ Hid (wr.there w.heap.size 0 (ts.length * 2) ∧ wr.rangeAt w.heap.size 0 (acells (ts.take k)) ∧ w.heap.size < wr.heap.size) ∧ Below w.heap.size w wr) (fun i _ => ts.length - (RowKit.intOf i).toNat)
  case atStart => exact ⟨0, by omega, rfl, ⟨Hth.out, (fun j v hv => by simp [acells] at hv), hsz⟩, hbw⟩
  case round =>
    obtain ⟨k, hk, rfl, hm, hb⟩ := hrel
    by_cases hlt : k < ts.length
    · have hltI : (k : Int) < (ts.length : Int) := by omega
      obtain ⟨t, ht⟩ : ∃ t, ts[k]? = some t := ⟨ts[k], List.getElem?_eq_getElem hlt⟩
      rcases hr with hr | ⟨g, off, rfl, _, gl, hc⟩
      · subst hr; simp at hlt
      obtain ⟨a0, a1⟩ := hc k t ht
      have A0 := (hb.cell (p := ⟨g, off + k * 2, Option.none⟩) gl).trans a0
      have A1 := (hb.cell (p := ⟨g, off + k * 2 + 1, Option.none⟩) gl).trans a1
      have htl : Hid ((acells (ts.take k)).length = k * 2) := show (acells (ts.take k)).length = k * 2 by rw [acells_len, List.length_take]; omega
      have Htk : Hid (acells (ts.take (k + 1)) = acells (ts.take k) ++ [.string t.s, .int .i64 t.n]) := show acells (ts.take (k + 1)) = _ by rw [take_snocA ht, acells_snoc]
      clear a0 a1 hc ht
      go_wp2_with fail
      refine (toArr_is t _).mono ?_
      rintro e w2 ⟨rfl, hb2⟩
      obtain ⟨t1, t2, t4⟩ := hm.out
      have t1' := there_later t1 hb2
      have hbw2 := hb.trans (hb2.mono hb.size)
      have ht4 : w2.there w.heap.size (k * 2) 2 := by have := there_part t1' (k * 2) 2 (by omega); rwa [Nat.zero_add] at this
      clear A0 A1
      go_wp2_with (refine wpList_store_mid rfl 39 _ _ rfl _ _ _ rfl rfl ?ht sizeIA (all2 _ _) ?_)
      case ht => exact ht4
      have n2 : (w2.setCells w.heap.size (k * 2) [.string t.s, .int .i64 t.n]).rangeAt w.heap.size 0 (acells (ts.take (k + 1))) := by
        rw [Htk.out]
        refine rangeAt_app (World.rangeAt_setCells_apart (rangeAt_later t2 hb2) w.heap.size (k * 2) [.string t.s, .int .i64 t.n] (.inr (.inl (by rw [htl.out]; omega)))) ?_
        rw [htl.out, Nat.zero_add]
        exact World.rangeAt_setCells_same _ _ _ _ ht4
      have n3 := World.there_setCells t1' w.heap.size (k * 2) [.string t.s, .int .i64 t.n]
      have n4 := below_sets [.string t.s, .int .i64 t.n] (k * 2) hbw2 (Nat.le_refl _)
      have n5 : w.heap.size < (w2.setCells w.heap.size (k * 2) [.string t.s, .int .i64 t.n]).heap.size := by rw [size_sets]; exact Nat.lt_of_lt_of_le t4 hb2.size
      have N := Lib.hid (And.intro n2 (And.intro n3 n5))
      clear t1 t2 t1' ht4 hb2 hbw2 n2 n3 n5 hm hb
      go_wp2
      go_roundw
      case rel => exact ⟨k + 1, by omega, by go_num, ⟨N.out.2.1, N.out.1, N.out.2.2⟩, n4⟩
      case measure => simp [RowKit.intOf]; omega
    · have hkk : ts.take k = ts := List.take_of_length_le (by omega)
      have hm2 := hm.out
      rw [hkk] at hm2
      have Hm := Lib.hid hm2
      clear hm2 hm
      go_wp2
      go_ret
      exact ⟨_, rfl, AV.laid Hm.out.2.2 Hm.out.2.1, hb⟩
set_option maxHeartbeats 1000000 in
theorem eqArr_same (k : Int) (s : ByteArray) (w : World) :
    Calls Tryz.prog 46 #[.agg #[.string s, .int .i64 k], .agg #[.string s, .int .i64 k]] w fun e w' => e = .returned (.bool true) ∧ Below w.heap.size w w' := by
  go_enter Tryz.func46, Tryz.ntmps46
  go_wp2
  go_ret
  exact ⟨rfl, ((Below.refl _ w).alloc (Nat.le_refl _) _).alloc (by simp) _⟩
set_option maxHeartbeats 2000000 in
theorem eqArrS_same (ts : List AR) (hlen : ts.length ≤ 100000000) (va vb : Value) (w : World) (ha : AV w 0 va ts) (hb : AV w 0 vb ts) :
    Calls Tryz.prog 20 #[va, vb] w fun e w' => e = .returned (.bool true) ∧ Below w.heap.size w w' := by
  obtain ⟨ao, ca, rfl, ha⟩ := ha
  obtain ⟨bo, cb, rfl, hb⟩ := hb
  go_enter Tryz.func20, Tryz.ntmps20
  go_wp2
  go_loopw [5] (fun i wr => ∃ k : Nat, k ≤ ts.length ∧ i = .int .i64 k ∧ Below w.heap.size w wr) (fun i _ => ts.length - (RowKit.intOf i).toNat)
  case atStart => exact ⟨0, by omega, rfl, Below.refl _ _⟩
  case round =>
    obtain ⟨k, hk, rfl, hbw⟩ := hrel
    by_cases hlt : k < ts.length
    · obtain ⟨t, ht⟩ : ∃ t, ts[k]? = some t := ⟨ts[k], List.getElem?_eq_getElem hlt⟩
      rcases ha with ha | ⟨ga, oa, rfl, _, gla, hca⟩
      · subst ha; simp at hlt
      rcases hb with hb | ⟨gb, ob, rfl, _, glb, hcb⟩
      · subst hb; simp at hlt
      obtain ⟨a0, a1⟩ := hca k t ht
      obtain ⟨b0, b1⟩ := hcb k t ht
      have A0 := (hbw.cell (p := ⟨ga, oa + k * 2, Option.none⟩) gla).trans a0
      have A1 := (hbw.cell (p := ⟨ga, oa + k * 2 + 1, Option.none⟩) gla).trans a1
      have B0 := (hbw.cell (p := ⟨gb, ob + k * 2, Option.none⟩) glb).trans b0
      have B1 := (hbw.cell (p := ⟨gb, ob + k * 2 + 1, Option.none⟩) glb).trans b1
      have hltI : (k : Int) < (ts.length : Int) := by omega
      clear a0 a1 b0 b1 hca hcb ht
      go_wp2_with fail
      go_cut [26] from 11 to 26 (fun v wx => v = .bool false ∧ Below wr.heap.size wr wx)
      case first =>
        go_region_with (go_at_call 46; refine (eqArr_same _ _ _).mono ?_; rintro e w1 ⟨rfl, hb1⟩)
        all_goals (try go_wp2_with fail)
        all_goals go_meet
        all_goals exact ⟨rfl, ⟨hb1.os, hb1.tape, hb1.output, hb1.size, hb1.block⟩⟩
      case rest =>
        obtain ⟨rfl, hb1⟩ := hcut
        have hbw2 := hbw.trans (hb1.mono hbw.size)
        clear A0 A1 B0 B1 hb1
        go_wp2
        go_roundw
        case rel => exact ⟨k + 1, by omega, by go_num, hbw2⟩
        case measure => simp [RowKit.intOf]; omega
    · go_wp2
      go_ret
      exact ⟨rfl, hbw⟩
end Go.Proofs.YtkhccpjkajhnpabGreatDoor
/-
  What the text of a program is (no Go).
-/
namespace Go.Proofs.YtkhccpjkajhnpabGreatDoor
open Go.RowKit Go.Lib
set_option linter.unusedSimpArgs false
set_option linter.unusedVariables false

/-- The text of one statement: p stands ahead of each line, b is the text of its body. -/
def stT (p : List UInt8) (h : SH) (b : List UInt8) : List UInt8 :=
  if h.k = 1 then p ++ (h.s.data.toList ++ ([32, 61, 32] ++ (xT h.x2 ++ [59, 10])))
  else if h.k = 2 then p ++ (h.s.data.toList ++ ([91] ++ (xT h.x1 ++ ([93, 32, 61, 32] ++ (xT h.x2 ++ [59, 10])))))
  else if h.k = 3 then p ++ ([102, 111, 114, 32] ++ (h.s.data.toList ++ ([32, 61, 32] ++ (xT h.x3 ++ ([32, 116, 111, 32] ++ (xT h.x4 ++ ([32, 123, 10] ++ (b ++ (p ++ [125, 10])))))))))
  else p ++ ([112, 114, 105, 110, 116, 32] ++ (xT h.x2 ++ [59, 10]))
def bodyT : SF → List UInt8 → List UInt8
  | .nil, _ => []
  | .node _ _ h l r, p => stT p h (bodyT l (p ++ [32, 32])) ++ bodyT r p
theorem bodyT_node (a b : Nat) (h : SH) (l r : SF) (p : List UInt8) : bodyT (.node a b h l r) p = stT p h (bodyT l (p ++ [32, 32])) ++ bodyT r p := rfl
def arrT1 (t : AR) : List UInt8 := [97, 114, 114, 97, 121, 32] ++ (t.s.data.toList ++ ([32] ++ (itoa t.n ++ [59, 10])))
def arrsT : List AR → List UInt8
  | [] => []
  | t :: ts => arrT1 t ++ arrsT ts
theorem arrsT_app (a b : List AR) : arrsT (a ++ b) = arrsT a ++ arrsT b := by
  induction a with
  | nil => rfl
  | cons t a ih => simp only [List.cons_append, arrsT, ih, List.append_assoc]
theorem name_len {s : ByteArray} (e : nameOk s.data.toList = true) : s.size ≤ 6 := by
  unfold nameOk at e
  simp only [Bool.and_eq_true, decide_eq_true_eq] at e
  have := e.1.1.2
  simpa using this
theorem expOk_parts {x : X} (h : expOk x = true) : toldX 8 x = true ∧ enodes x.l ≤ 100 := by
  unfold expOk at h
  simp only [Bool.and_eq_true, decide_eq_true_eq] at h
  exact ⟨h.1, by omega⟩
theorem expOk_len {x : X} (h : expOk x = true) : (xT x).length ≤ 2400 := by
  have h1 := h
  unfold expOk at h1
  simp only [Bool.and_eq_true, decide_eq_true_eq] at h1
  have := xT_len 8 x h1.1
  omega
/-- What a head that is as told has. -/
theorem head_cases {h : SH} (e : headOk h = true) :
    (h.k = 1 ∧ h.s.size ≤ 6 ∧ expOk h.x2 = true) ∨ (h.k = 2 ∧ h.s.size ≤ 6 ∧ expOk h.x1 = true ∧ expOk h.x2 = true) ∨
    (h.k = 3 ∧ h.s.size ≤ 6 ∧ expOk h.x3 = true ∧ expOk h.x4 = true) ∨ (h.k = 4 ∧ expOk h.x2 = true) := by
  unfold headOk at e
  split at e
  · rename_i k; simp only [Bool.and_eq_true] at e; exact .inl ⟨k, name_len e.1, e.2.1⟩
  · split at e
    · rename_i k; simp only [Bool.and_eq_true] at e; exact .inr (.inl ⟨k, name_len e.1, e.2.1.1, e.2.1.2⟩)
    · split at e
      · rename_i k; simp only [Bool.and_eq_true] at e; exact .inr (.inr (.inl ⟨k, name_len e.1, e.2.1.1, e.2.1.2⟩))
      · split at e
        · rename_i k; simp only [Bool.and_eq_true] at e; exact .inr (.inr (.inr ⟨k, e.2.1⟩))
        · cases e
theorem stT_1 {p b : List UInt8} {h : SH} (k : h.k = 1) : stT p h b = p ++ (h.s.data.toList ++ ([32, 61, 32] ++ (xT h.x2 ++ [59, 10]))) := if_pos k
theorem stT_2 {p b : List UInt8} {h : SH} (k : h.k = 2) : stT p h b = p ++ (h.s.data.toList ++ ([91] ++ (xT h.x1 ++ ([93, 32, 61, 32] ++ (xT h.x2 ++ [59, 10]))))) := by unfold stT; rw [if_neg (by omega), if_pos k]
theorem stT_3 {p b : List UInt8} {h : SH} (k : h.k = 3) : stT p h b = p ++ ([102, 111, 114, 32] ++ (h.s.data.toList ++ ([32, 61, 32] ++ (xT h.x3 ++ ([32, 116, 111, 32] ++ (xT h.x4 ++ ([32, 123, 10] ++ (b ++ (p ++ [125, 10]))))))))) := by unfold stT; rw [if_neg (by omega), if_neg (by omega), if_pos k]
theorem stT_4 {p b : List UInt8} {h : SH} (k : h.k = 4) : stT p h b = p ++ ([112, 114, 105, 110, 116, 32] ++ (xT h.x2 ++ [59, 10])) := by unfold stT; rw [if_neg (by omega), if_neg (by omega), if_neg (by omega)]
theorem stT_len {p b : List UInt8} {h : SH} (e : headOk h = true) (hp : p.length ≤ 6) : (stT p h b).length ≤ 4900 + b.length := by
  have hs : h.s.data.toList.length = h.s.size := by simp
  rcases head_cases e with ⟨k, h1, h2⟩ | ⟨k, h1, h2, h3⟩ | ⟨k, h1, h2, h3⟩ | ⟨k, h2⟩
  · have := expOk_len h2; rw [stT_1 k]; simp only [List.length_append, List.length_cons, List.length_nil]; omega
  · have := expOk_len h2; have := expOk_len h3; rw [stT_2 k]; simp only [List.length_append, List.length_cons, List.length_nil]; omega
  · have := expOk_len h2; have := expOk_len h3; rw [stT_3 k]; simp only [List.length_append, List.length_cons, List.length_nil]; omega
  · have := expOk_len h2; rw [stT_4 k]; simp only [List.length_append, List.length_cons, List.length_nil]; omega
/-- What a row that is as told so deep says of its first one. -/
theorem toldS_parts {d a b : Nat} {h : SH} {l r : SF} (e : toldS d (.node a b h l r) = true) : headOk h = true ∧ toldS d r = true ∧ ((h.k = 3 ∧ 1 ≤ d ∧ toldS (d - 1) l = true) ∨ (¬ h.k = 3 ∧ l = .nil)) := by
  rw [toldS_node] at e
  unfold toldSt at e
  simp only [Bool.and_eq_true] at e
  refine ⟨e.1.1, e.2, ?_⟩
  have e2 := e.1.2
  split at e2
  · rename_i k
    unfold bodyTold at e2
    simp only [Bool.and_eq_true, decide_eq_true_eq] at e2
    exact .inl ⟨k, e2.1, e2.2.2.2⟩
  · rename_i k
    simp only [decide_eq_true_eq] at e2
    refine .inr ⟨k, ?_⟩
    cases l with
    | nil => rfl
    | node => simp [slen] at e2
theorem bodyT_len : ∀ (F : SF) (d : Nat) (p : List UInt8), toldS d F = true → p.length + 2 * d ≤ 6 → (bodyT F p).length ≤ 4900 * snodes F
  | .nil, _, _, _, _ => by simp [bodyT]
  | .node a b h l r, d, p, e, hp => by
    obtain ⟨h1, h2, h3⟩ := toldS_parts e
    have hr := bodyT_len r d p h2 hp
    have hs := stT_len (b := bodyT l (p ++ [32, 32])) h1 (by omega : p.length ≤ 6)
    have hl : (bodyT l (p ++ [32, 32])).length ≤ 4900 * snodes l := by
      rcases h3 with ⟨_, h4, h5⟩ | ⟨_, rfl⟩
      · exact bodyT_len l (d - 1) _ h5 (by simp only [List.length_append, List.length_cons, List.length_nil]; omega)
      · simp [bodyT]
    rw [bodyT_node, List.length_append]
    simp only [snodes]
    omega
/-- Bits of a text, as bytes. -/
theorem str_nil : str [] = ⟨#[]⟩ := rfl
end Go.Proofs.YtkhccpjkajhnpabGreatDoor
/-
  The shelf's contracts of strconv.Itoa and strconv.Atoi, laid at this dump's own numbers (the two tables of numbers and their closed facts: by the guide's program; the kernel holds each body against the body that the contract was proved of).
-/
namespace Go.Proofs
open Go.Shelf
def Tryz.laysM171_ren : Go.Shelf.Ren := ⟨fun | 171 => 67 | 243 => 92 | 246 => 106 | 283 => 118 | 284 => 119 | 285 => 120 | 286 => 121 | 129 => 130 | 317 => 129 | 318 => 131 | 319 => 132 | 320 => 133 | 337 => 150 | 338 => 151 | n => n, fun | 3 => 3 | 9 => 9 | 2 => 2 | 4 => 4 | 171 => 150 | 0 => 0 | 53 => 151 | 37 => 62 | 5 => 5 | 173 => 154 | 212 => 164 | 51 => 165 | 20 => 20 | 213 => 166 | 46 => 162 | 232 => 187 | 233 => 188 | n => n, fun | 17 => 0 | 18 => 2 | 19 => 3 | n => n⟩
theorem Tryz.laysM171 : Go.Proofs.LaysM.n171 Tryz.prog Tryz.laysM171_ren := {
  mixed := by kernel_rfl
  f129 := Tryz.func130.trans (congrArg some (by kernel_rfl))
  f171 := Tryz.func67.trans (congrArg some (by kernel_rfl))
  f243 := Tryz.func92.trans (congrArg some (by kernel_rfl))
  f246 := Tryz.func106.trans (congrArg some (by kernel_rfl))
  f283 := Tryz.func118.trans (congrArg some (by kernel_rfl))
  f284 := Tryz.func119.trans (congrArg some (by kernel_rfl))
  f285 := Tryz.func120.trans (congrArg some (by kernel_rfl))
  f286 := Tryz.func121.trans (congrArg some (by kernel_rfl))
  f317 := Tryz.func129.trans (congrArg some (by kernel_rfl))
  f318 := Tryz.func131.trans (congrArg some (by kernel_rfl))
  f319 := Tryz.func132.trans (congrArg some (by kernel_rfl))
  f320 := Tryz.func133.trans (congrArg some (by kernel_rfl))
  f337 := Tryz.func150.trans (congrArg some (by kernel_rfl))
  f338 := Tryz.func151.trans (congrArg some (by kernel_rfl))
  t0 := Tryz.underlying0
  a0 := Tryz.isAgg0
  z0 := Tryz.sizeOf0
  v0 := Tryz.zeroValue0
  t2 := Tryz.underlying2
  a2 := Tryz.isAgg2
  z2 := Tryz.sizeOf2
  v2 := Tryz.zeroValue2
  t3 := Tryz.underlying3
  a3 := Tryz.isAgg3
  z3 := Tryz.sizeOf3
  v3 := Tryz.zeroValue3
  t4 := Tryz.underlying4
  a4 := Tryz.isAgg4
  z4 := Tryz.sizeOf4
  v4 := Tryz.zeroValue4
  t5 := Tryz.underlying5
  a5 := Tryz.isAgg5
  z5 := Tryz.sizeOf5
  v5 := Tryz.zeroValue5
  t9 := Tryz.underlying9
  a9 := Tryz.isAgg9
  z9 := Tryz.sizeOf9
  v9 := Tryz.zeroValue9
  t20 := Tryz.underlying20
  a20 := Tryz.isAgg20
  z20 := Tryz.sizeOf20
  v20 := Tryz.zeroValue20
  t37 := Tryz.underlying62
  a37 := Tryz.isAgg62
  z37 := Tryz.sizeOf62
  v37 := Tryz.zeroValue62
  t46 := Tryz.underlying162
  a46 := Tryz.isAgg162
  z46 := Tryz.sizeOf162
  v46 := Tryz.zeroValue162
  t51 := Tryz.underlying165
  a51 := Tryz.isAgg165
  z51 := Tryz.sizeOf165
  v51 := Tryz.zeroValue165
  t53 := Tryz.underlying151
  a53 := Tryz.isAgg151
  z53 := Tryz.sizeOf151
  v53 := Tryz.zeroValue151
  t171 := Tryz.underlying150
  a171 := Tryz.isAgg150
  z171 := Tryz.sizeOf150
  v171 := Tryz.zeroValue150
  t173 := Tryz.underlying154
  a173 := Tryz.isAgg154
  z173 := Tryz.sizeOf154
  v173 := Tryz.zeroValue154
  t212 := Tryz.underlying164
  a212 := Tryz.isAgg164
  z212 := Tryz.sizeOf164
  v212 := Tryz.zeroValue164
  t213 := Tryz.underlying166
  a213 := Tryz.isAgg166
  z213 := Tryz.sizeOf166
  t232 := Tryz.underlying187
  a232 := Tryz.isAgg187
  z232 := Tryz.sizeOf187
  v232 := Tryz.zeroValue187
  t233 := Tryz.underlying188
  a233 := Tryz.isAgg188
  z233 := Tryz.sizeOf188
  v233 := Tryz.zeroValue188
  g17 := by kernel_rfl
  g18 := by kernel_rfl
  g19 := by kernel_rfl
  i0 := by kernel_rfl
  i2 := by kernel_rfl
  i3 := by kernel_rfl
  i4 := by kernel_rfl
  i5 := by kernel_rfl
  i9 := by kernel_rfl
  i20 := by kernel_rfl
  i37 := by kernel_rfl
  i46 := by kernel_rfl
  i51 := by kernel_rfl
  i53 := by kernel_rfl
  i171 := by kernel_rfl
  i173 := by kernel_rfl
  i212 := by kernel_rfl
  i232 := by kernel_rfl
  i233 := by kernel_rfl
  m17 := by kernel_rfl
  m18 := by kernel_rfl
  m19 := by kernel_rfl }
end Go.Proofs
namespace Go.Proofs.YtkhccpjkajhnpabGreatDoor
open Go.RowKit
theorem strconv_Itoa (n : Int) (h0 : -9223372036854775808 ≤ n) (h1 : n ≤ 9223372036854775807) (w : World) (htab : Lib.TabIs Tryz.prog w "internal/strconv.uint64pow10" .u64 Lib.pow10Tab) :
    Calls Tryz.prog 67 #[.int .i64 n] w fun e w' => e = .returned (.string ⟨(Lib.itoa n).toArray⟩) ∧ ∃ k os, w' = Sort.grow (w.drewN k) os := Any.strconv_Itoa Tryz.laysM171 n h0 h1 w htab
end Go.Proofs.YtkhccpjkajhnpabGreatDoor
/-
  The contracts of NumText and ParseNum, the specification's and the landed code's.
-/
namespace Go.Proofs.YtkhccpjkajhnpabGreatDoor
open Go.RowKit Go.Lib

theorem ret_int {k : IntKind} {a b : Int} (h : a = b) : Ending.returned (.int k a) = .returned (.int k b) := by rw [h]
theorem impl_NumText (n : Int) (h0 : -9223372036854775808 ≤ n) (h1 : n ≤ 9223372036854775807) (w : World) (htab : Lib.TabIs Tryz.prog w "internal/strconv.uint64pow10" .u64 Lib.pow10Tab) :
    Calls Tryz.prog 44 #[.int .i64 n] w fun e w' => e = .returned (.string ⟨(Lib.itoa n).toArray⟩) ∧ Below w.heap.size w w' := by
  go_enter Tryz.func44, Tryz.ntmps44
  go_wp2_with (go_at_call 67; refine (strconv_Itoa _ h0 h1 _ htab).mono ?_; rintro e w' ⟨rfl, k, os, rfl⟩)
  go_ret
  exact ⟨rfl, Lib.below_grow _ _ (Nat.le_refl _) _ _⟩

theorem conv1 (w : World) (x : Int) (h0 : 0 ≤ x) (h1 : x < 256) :
    (convert 62 9 (.slice (some ⟨w.heap.size, 0, none⟩) 1 1)).run Tryz.prog (w.alloc (.cells #[.int .u8 x] 5)) = .ok (.string ⟨[UInt8.ofNat x.toNat].toArray⟩) (w.alloc (.cells #[.int .u8 x] 5)) := by
  refine run_convert_bytes_back (P := Tryz.prog) _ 62 9 5 ⟨w.heap.size, 0, none⟩ 1 [UInt8.ofNat x.toNat] Tryz.underlying62 Tryz.underlying5 Tryz.underlying9 ?_
  intro j hj
  simp at hj
  subst hj
  have e : ((UInt8.ofNat x.toNat).toNat : Int) = x := by simp; omega
  simp only [List.getElem_cons_zero, e]
  simp [Addr.add, World.cell?_alloc_new]
theorem cat1 (a b : List UInt8) : (⟨a.toArray⟩ : ByteArray) ++ ⟨b.toArray⟩ = ⟨(a ++ b).toArray⟩ := by
  apply ByteArray.ext
  simp
theorem digs_len {n u : Nat} {t : List UInt8} (h : Digs n u t) (hn : n < 18446744073709551616) : t.length ≤ 20 := by
  have hl := nDigits_le20 n hn
  rw [← decDigits_length, h] at hl
  simp at hl
  omega
theorem str_step (u : Nat) (t : List UInt8) : (⟨#[48 + UInt8.ofNat (u % 10)]⟩ : ByteArray) ++ ⟨t.toArray⟩ = ⟨(UInt8.ofNat (48 + u % 10) :: t).toArray⟩ := by
  have e : UInt8.ofNat (48 + u % 10) = 48 + UInt8.ofNat (u % 10) := by simp
  rw [e]
  exact cat1 [_] t
theorem str_step0 (u : Nat) (t : List UInt8) (h : (u : Int) % 10 ≤ 0) : (⟨#[UInt8.ofNat (48 + -((u : Int) % 10)).toNat]⟩ : ByteArray) ++ ⟨t.toArray⟩ = ⟨(UInt8.ofNat (48 + u % 10) :: t).toArray⟩ := by
  have e : (48 + -((u : Int) % 10)).toNat = 48 + u % 10 := by omega
  rw [e]
  exact cat1 [_] t
theorem val_str {a b : ByteArray} (h : a = b) : Value.string a = .string b := by rw [h]
theorem val_int {k : IntKind} {a b : Int} (h : a = b) : Value.int k a = .int k b := by rw [h]
theorem ret_str {a b : ByteArray} (h : a = b) : Ending.returned (.string a) = .returned (.string b) := by rw [h]
theorem itoa_of_neg {n : Int} {t : List UInt8} (h : n < 0) (hd : Digs n.natAbs 0 t) : itoa n = 45 :: t := by
  unfold itoa
  rw [if_pos h, digs_end hd]
theorem itoa_of_pos {n : Int} {t : List UInt8} (h : ¬ n < 0) (hd : Digs n.natAbs 0 t) : itoa n = t := by
  unfold itoa
  rw [if_neg h, ← digs_end hd]
  congr 1
  omega
set_option maxHeartbeats 400000 in
set_option maxRecDepth 100000 in
theorem spec_NumText (n : Int) (h0 : -9223372036854775808 ≤ n) (h1 : n ≤ 9223372036854775807) (w : World) :
    Calls Tryz.prog 12 #[.int .i64 n] w fun e w' => e = .returned (.string ⟨(Lib.itoa n).toArray⟩) ∧ Below w.heap.size w w' := by
  by_cases hn : n = 0
  · subst hn
    go_enter Tryz.func12, Tryz.ntmps12
    go_wp2
    go_ret
    exact ⟨ret_str (by rw [show itoa 0 = [48] by decide +kernel]), Below.refl _ _⟩
  go_enter Tryz.func12, Tryz.ntmps12
  go_wp2
  go_loopw [3, 4, 5] (fun s x _ wr => ∃ (t : List UInt8) (u : Nat), s = .string ⟨t.toArray⟩ ∧ x = .int .i64 (if n < 0 then -(u : Int) else u) ∧ u ≤ n.natAbs ∧ Hid (Digs n.natAbs u t) ∧ Below w.heap.size w wr) (fun _ x _ _ => (RowKit.intOf x).natAbs)
  case atStart => exact ⟨[], n.natAbs, rfl, by congr 1; split <;> omega, Nat.le_refl _, digs_start _ (by omega), Below.refl _ _⟩
  case round =>
    obtain ⟨t, u, rfl, rfl, hu, hd, hb⟩ := hrel
    have hlt := digs_len hd.out (by omega)
    by_cases hneg : n < 0
    · rw [if_pos hneg]
      by_cases hz : u = 0
      · subst hz
        go_wp2
        go_ret
        exact ⟨ret_str (by rw [itoa_of_neg hneg hd.out]; exact cat1 [45] t), hb⟩
      have e1 := conv1 wr (48 + -((u : Int) % 10)) (by omega) (by omega)
      have e2 := conv1 wr (48 + ((u : Int) % 10)) (by omega) (by omega)
      go_wp2
      · go_roundw
        case rel => exact ⟨_, u / 10, val_str (str_step u t), val_int (by rw [if_pos hneg]; omega), by omega, digs_step hd.out hz, hb.alloc hb.size _⟩
        case measure => simp [RowKit.intOf]; omega
      · go_roundw
        case rel => exact ⟨_, u / 10, val_str (str_step0 u t ‹_›), val_int (by rw [if_pos hneg]; omega), by omega, digs_step hd.out hz, hb.alloc hb.size _⟩
        case measure => simp [RowKit.intOf]; omega
    · rw [if_neg hneg]
      by_cases hz : u = 0
      · subst hz
        go_wp2
        go_ret
        exact ⟨ret_str (by rw [itoa_of_pos (by omega) hd.out]), hb⟩
      have e2 := conv1 wr (48 + ((u : Int) % 10)) (by omega) (by omega)
      go_wp2
      go_roundw
      case rel => exact ⟨_, u / 10, val_str (str_step u t), val_int (by rw [if_neg hneg]; omega), by omega, digs_step hd.out hz, hb.alloc hb.size _⟩
      case measure => simp [RowKit.intOf]; omega

theorem spec_In (x a b : Int) (w : World) : Calls Tryz.prog 50 #[.int .i64 x, .int .i64 a, .int .i64 b] w fun e w' => e = .returned (.bool (decide (a ≤ x) && decide (x ≤ b))) ∧ w = w' := by
  by_cases h1 : a ≤ x
  · by_cases h2 : x ≤ b
    all_goals
      go_enter Tryz.func50, Tryz.ntmps50
      go_wp2
      go_ret
      exact ⟨by simp [h1, h2], rfl⟩
  · go_enter Tryz.func50, Tryz.ntmps50
    go_wp2
    go_ret
    exact ⟨by simp; omega, rfl⟩
/-- ParseNum's two results, of what parseNum says. -/
def numTuple (o : Option Nat) : Value := .tuple #[.int .i64 (((o.getD 0 : Nat) : Int)), .bool o.isSome]
theorem ret_num {o : Option Nat} {v : Int} {b : Bool} (h1 : v = ((o.getD 0 : Nat) : Int)) (h2 : b = o.isSome) : Ending.returned (.tuple #[.int .i64 v, .bool b]) = .returned (numTuple o) := by subst h1; subst h2; rfl

theorem gPow : Tryz.prog.globalNamed "internal/strconv.uint64pow10" = some 0 := by kernel_rfl
end Go.Proofs.YtkhccpjkajhnpabGreatDoor
