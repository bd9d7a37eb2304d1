/-
  What endsOf hands back: it goes through a box and tells each range's ends.
-/
import Derived.Test.YtjdpddcnogdekaaEndS
import Derived.Test.YtjdpddcnogdekaaAffCoef
import Derived.RangeFuncNested
import Derived.RangeFuncBound
import Derived.RangeFuncCalls
import Derived.RangeFuncLeaves
import Derived.Shelf.Abstract
import Derived.Shelf.RegionOpen
import Derived.OwnWalkIn
import Derived.TacticsInMore
import Derived.LoopNIn
import Derived.LoopIn
import Derived.RangeFuncBox
namespace Go.Proofs.Ytjdpddcnogdekaa
open Go.RowKit Go.Lib Go.Shelf
set_option linter.unusedSimpArgs false
set_option linter.unusedVariables false

attribute [local go_sem] Oper.semAt_some

/-- What a range's ends come to. -/
def en9 (ts : List AR) (r : RG) : Int × Int := (coefA ts r.s * r.lo, coefA ts r.s * r.hi)
abbrev encs9 (x : Int × Int) : Array Value := #[.int .i64 x.1, .int .i64 x.2]
theorem coefA_bd (s : ByteArray) : ∀ (ts : List AR), (∀ t ∈ ts, -100000 ≤ t.n ∧ t.n ≤ 100000) → -100000 ≤ coefA ts s ∧ coefA ts s ≤ 100000
  | [], _ => by simp [coefA]
  | t :: ts, h => by
    rw [coefA]
    split
    · exact h t (by simp)
    · exact coefA_bd s ts (fun u hu => h u (by simp [hu]))
/-- Below n nothing has turned but one block. -/
structure K9 (n S : Nat) (A B : World) : Prop where
  os : B.os = A.os
  tape : B.tape = A.tape
  output : B.output = A.output
  size : A.heap.size ≤ B.heap.size
  block : ∀ k, k < n → k ≠ S → B.heap[k]? = A.heap[k]?
theorem K9.refl (n S : Nat) (A : World) : K9 n S A A := ⟨rfl, rfl, rfl, Nat.le_refl _, fun _ _ _ => rfl⟩
theorem K9.trans {n S : Nat} {A B C : World} (h : K9 n S A B) (k : K9 n S B C) : K9 n S A C := ⟨k.os.trans h.os, k.tape.trans h.tape, k.output.trans h.output, Nat.le_trans h.size k.size, fun j h1 h2 => (k.block j h1 h2).trans (h.block j h1 h2)⟩
theorem K9.of {n S : Nat} {A B : World} (h : Below n A B) : K9 n S A B := ⟨h.os, h.tape, h.output, h.size, fun k hk _ => h.block k hk⟩
theorem K9.cell {n S : Nat} {A B : World} (h : K9 n S A B) {p : Addr} (hp : p.block < n ∧ p.block ≠ S) : B.cell? p = A.cell? p := by simp only [World.cell?, h.block _ hp.1 hp.2]
theorem grown_none {w w' : World} (h : Below w.heap.size w w') : w.grownBy w' none := ⟨h.os, h.tape, h.output, h.size, fun k hk _ => h.block k hk⟩
set_option maxRecDepth 100000 in
set_option maxHeartbeats 4000000 in
theorem ends_in (l pb pa n₀ S : Nat) (c : Int) (ts : List AR) (hn : ts.length ≤ 1000000000) (hT : ∀ t ∈ ts, -100000 ≤ t.n ∧ t.n ≤ 100000) (rs : List RG) (hm : rs.length ≤ 1000000000) (hF : Fit9 rs) (va vb : Value) (J Jx : List (Int × Int) → World → Prop) (W : World) (hn₀ : n₀ ≤ W.heap.size)
    (hAb : AbidesFrom W.heap.size J)
    (hY : ∀ pre (x : Int × Int) W1, J pre W1 → pre.length < rs.length → YieldAt Fence.wide 1 Try.prog l #[.int .i64 x.1, .int .i64 x.2] W1 fun e W' =>
      (e = .returned (.bool true) ∧ J (pre ++ [x]) W' ∧ K9 n₀ S W1 W') ∨ (e = .returned (.bool false) ∧ Jx (pre ++ [x]) W'))
    (hb : W.cell? ⟨pb, 0, Option.none⟩ = some vb) (ha0 : W.cell? ⟨pa, 0, Option.none⟩ = some (.int .i64 c)) (ha1 : W.cell? ⟨pa, 1, Option.none⟩ = some va) (hbn : pb < n₀ ∧ pb ≠ S) (han : pa < n₀ ∧ pa ≠ S)
    (hAV : AV W 0 va ts) (hAn : ∀ k, va.ownBlock = some k → ts ≠ [] → k < n₀ ∧ k ≠ S) (hRV : RV W 0 vb rs) (hRn : ∀ k, vb.ownBlock = some k → rs ≠ [] → k < n₀ ∧ k ≠ S) (h0 : J [] W) :
    CallsIn Fence.wide 2 Try.prog 114 #[.func (.yield l) #[] #[], .pointer (some ⟨pb, 0, Option.none⟩), .pointer (some ⟨pa, 0, Option.none⟩)] W fun e W' => (∃ v, e = .returned v) ∧
      ((∃ ys, ys = rs.map (en9 ts) ∧ J ys W') ∨ (∃ pre, True ∧ Jx pre W')) := by
  have HA := Lib.hid hAV
  obtain ⟨ao, acap, rfl, har⟩ := hAV
  obtain ⟨bo, bcap, rfl, _, hbr⟩ := hRV
  have Har := Lib.hid har
  have Hbr := Lib.hid hbr
  have HT := Lib.hid hT
  have HF := Lib.hid hF
  have HAb := Lib.hid hAb
  clear har hbr hT hF hAb
  refine callsIn_of_wp Try.func114 rfl trivial ?_ rfl
  simp only [Try.ntmps114, List.size_toArray, List.length_cons, List.length_nil, Nat.reduceAdd, Nat.reduceSub, Array.replicate_succ, Array.replicate_zero, List.push_toArray, List.append_toArray, List.nil_append, List.cons_append]
  gi_wp2
  gi_loopw [9] (fun i wr => ∃ k : Nat, k ≤ rs.length ∧ i = .int .i64 (k : Int) ∧ J ((rs.take k).map (en9 ts)) wr ∧ K9 n₀ S W wr)
    (fun i _ => rs.length - (RowKit.intOf i).toNat)
  case atStart => exact ⟨0, Nat.zero_le _, rfl, h0, K9.refl _ _ _⟩
  case round =>
    obtain ⟨k, hk, rfl, hJs, hnx⟩ := hrel
    by_cases hlt : k < rs.length
    · have hltI : (k : Int) < (rs.length : Int) := by omega
      obtain ⟨r, hrr⟩ : ∃ r, rs[k]? = some r := ⟨rs[k], List.getElem?_eq_getElem hlt⟩
      rcases Hbr.out with hq | ⟨g, off, rfl, _, gl, hc⟩
      · subst hq; simp at hlt
      have hgn := hRn g rfl (fun e => by subst e; simp at hlt)
      have A0 := (hnx.cell (p := ⟨g, off + k * 3, Option.none⟩) hgn).trans (hc k r hrr).1
      have A1 := (hnx.cell (p := ⟨g, off + k * 3 + 1, Option.none⟩) hgn).trans (hc k r hrr).2.1
      have A2 := (hnx.cell (p := ⟨g, off + k * 3 + 2, Option.none⟩) hgn).trans (hc k r hrr).2.2
      have p0 := (hnx.cell (p := ⟨pa, 0, Option.none⟩) han).trans ha0
      have p1 := (hnx.cell (p := ⟨pa, 1, Option.none⟩) han).trans ha1
      have p0' := keeps (alloc_below wr (.cells #[.string r.s, .int .i64 r.lo, .int .i64 r.hi] 35)) p0
      have p1' := keeps (alloc_below wr (.cells #[.string r.s, .int .i64 r.lo, .int .i64 r.hi] 35)) p1
      clear p0 p1
      have hAVr : AV wr 0 (.slice ao ts.length acap) ts := by
        refine ⟨ao, acap, rfl, ?_⟩
        rcases Har.out with h | ⟨g2, off2, e1, e2, e3, e4⟩
        · exact .inl h
        · by_cases hte : ts = []
          · exact .inl hte
          · have hg2 := hAn g2 (by rw [e1]; rfl) hte
            exact .inr ⟨g2, off2, e1, e2, Nat.lt_of_lt_of_le e3 hnx.size, fun i t hi => ⟨(hnx.cell (p := ⟨g2, off2 + i * 2, Option.none⟩) hg2).trans (e4 i t hi).1, (hnx.cell (p := ⟨g2, off2 + i * 2 + 1, Option.none⟩) hg2).trans (e4 i t hi).2⟩⟩
      have HS : Hid ((rs.take (k + 1)).map (en9 ts) = (rs.take k).map (en9 ts) ++ [en9 ts r]) := show _ = _ by rw [take_snocR hrr, List.map_append]; rfl
      obtain ⟨_, _, f3, f4, f5, f6⟩ := HF.out r (List.mem_of_getElem? hrr)
      obtain ⟨n1, n2⟩ := coefA_bd r.s ts HT.out
      obtain ⟨m1, m2⟩ := prod9 n1 n2 f3 f4
      obtain ⟨m3, m4⟩ := prod9 n1 n2 f5 f6
      obtain ⟨q, hq⟩ : ∃ q, coefA ts r.s = q := ⟨_, rfl⟩
      rw [hq] at m1 m2 m3 m4
      have HQ := Lib.hid hq
      have e1 : IntKind.i64.wrap (q * r.lo) = q * r.lo := by rw [IntKind.wrap_i64]; omega
      have e2 : IntKind.i64.wrap (q * r.hi) = q * r.hi := by rw [IntKind.wrap_i64]; omega
      have HJ := Lib.hid hJs
      have HN := Lib.hid hnx
      have hlen : Hid (((rs.take k).map (en9 ts)).length < rs.length) := show _ < _ by rw [List.length_map, List.length_take]; omega
      have hAVq := hAVr.later (alloc_below wr (.cells #[.string r.s, .int .i64 r.lo, .int .i64 r.hi] 35))
      obtain ⟨b0, b1, b2⟩ := blk3 (heap_last wr (.cells #[.string r.s, .int .i64 r.lo, .int .i64 r.hi] 35))
      have HB := Lib.hid (And.intro b0 (And.intro b1 b2))
      have HAV := Lib.hid hAVq
      clear hc hrr hJs hnx n1 n2 m1 m2 m3 m4 hq hAVr hAVq b0 b1 b2 f3 f4 f5 f6
      gi_wp2_with fail
      refine ⟨trivial, (callsIn_wide.2 (impl_CoefOf c ts hn r.s _ _ HAV.out)).mono ?_⟩
      rintro e w3 ⟨rfl, hb3⟩
      rw [HQ.out]
      have hw3 : Below wr.heap.size wr w3 := below_alloc hb3
      have J3 := HAb.out _ _ _ _ HJ.out (grown_none hw3) (fun r e => by cases e)
      have N3 := Lib.hid (HN.out.trans (K9.of (hw3.mono (Nat.le_trans hn₀ HN.out.size))))
      have B1 := (hb3.cell (p := ⟨wr.heap.size, 1, Option.none⟩) (by simp)).trans HB.out.2.1
      have B2 := (hb3.cell (p := ⟨wr.heap.size, 2, Option.none⟩) (by simp)).trans HB.out.2.2
      have HE : Hid (en9 ts r = (q * r.lo, q * r.hi)) := show en9 ts r = _ by rw [en9, HQ.out]
      obtain ⟨fn, tmps, assign, body, hy, hR⟩ := hY _ (q * r.lo, q * r.hi) w3 J3 hlen.out
      dsimp only at hy
      clear hb3 hw3 J3 A0 A1 A2 p0' p1'
      gi_wp2
      refine hR.mono ?_
      rintro e W3 (⟨rfl, hJ3, hk3⟩ | ⟨rfl, hJx3⟩)
      · rw [← HE.out, ← HS.out] at hJ3
        have HJ3 := Lib.hid hJ3
        have HK3 := Lib.hid (N3.out.trans hk3)
        clear hJ3 hk3
        gi_wp2
        go_roundw
        case rel => exact ⟨k + 1, by omega, by go_num, HJ3.out, HK3.out⟩
        case measure => simp [RowKit.intOf]; try omega
      · have HJx3 := Lib.hid hJx3
        clear hJx3
        gi_wp2
        refine bodyPost_ret (results_none rfl _ _ _) rfl ?_
        exact ⟨⟨_, rfl⟩, .inr ⟨_, trivial, HJx3.out⟩⟩
    · have hkk : rs.take k = rs := List.take_of_length_le (by omega)
      rw [hkk] at hJs
      have HJ := Lib.hid hJs
      clear hJs
      gi_wp2
      go_end0
      exact ⟨⟨_, rfl⟩, .inl ⟨_, rfl, HJ.out⟩⟩
end Go.Proofs.Ytjdpddcnogdekaa
