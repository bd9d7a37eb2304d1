import Derived.Test.YtpinockfakndlaaGreatZp
import Derived.Test.YtpinockfakndlaaGreatP36ofFnEvals
import Derived.Test.YtpinockfakndlaaGreatP19ofFnEvals
import Derived.Test.YtpinockfakndlaaGreatP20ofFnEvals
import Derived.Test.YtpinockfakndlaaGreatP01ofFnEvals
import Derived.Test.YtpinockfakndlaaGreatRows
import Derived.Test.YtpinockfakndlaaGreatP09ofFnEvals
import Derived.WalkKit
import Derived.WalkLawsBesides
import Derived.Lib.SmallJoins
import Derived.Lib.ItoaLen
import Derived.Below
import Derived.Lib.Hide
namespace Go.Proofs.YtpinockfakndlaaGreat
open Go.RowKit Go.Lib
set_option linter.unusedSimpArgs false
set_option linter.unusedVariables false
set_option maxHeartbeats 4000000 in
set_option maxRecDepth 100000 in
theorem spec_Eval (ts : List AR) (F : SF) (ns : List ByteArray) (A : List (List Int)) (V O : List Int) (bs : List AR) (x : X) (hl : RL ts ns A V bs) (hO : O.length ≤ 100000000) (hx : xsize x ≤ 1048576) (va vb sa sv so bv v : Value) (en : Int) (w : World) (ha : AV w 0 va ts) (hb : SV w 0 F vb) (hs : StoV w sa sv so A V O) (hbb : AV w 0 bv bs) (hv : EV w 0 x.l v)
    (hV : ∀ w v, SV w 0 F v → Calls Tryz.prog 35 #[v] w fun e w' => ∃ nv, e = .returned nv ∧ TV w' 0 nv ns ∧ Below w.heap.size w w') :
    Calls Tryz.prog 17 #[.agg #[va, vb], .agg #[sa, sv, so, .int .i64 en], bv, .agg #[.int .i64 x.h.k, .int .i64 x.h.n, .string x.h.s, v]] w fun e w' => e = valR (evalP ts ns A V bs x) ∧ Below w.heap.size w w' := by
  have HA := hid (And.intro ha (And.intro hb (And.intro hs (And.intro hbb hv))))
  have HV := hid hV
  have HL := hid hl
  have HXS := hid hx
  have V0 := hid (VB.start w va vb sa sv so en #[.int .i64 x.h.k, .int .i64 x.h.n, .string x.h.s, v] 43)
  obtain ⟨a1, b1, rfl⟩ := ha.shape
  obtain ⟨a2, b2, rfl⟩ := hb.shape
  obtain ⟨a3, b3, rfl⟩ := hs.a.shape
  obtain ⟨a4, b4, rfl⟩ := hs.v.shape
  obtain ⟨a5, b5, rfl⟩ := hs.o.shape
  obtain ⟨a6, b6, rfl⟩ := hbb.shape
  obtain ⟨a7, b7, rfl⟩ := hv.shape
  clear ha hb hs hbb hv hV hl hx hO
  go_enter Tryz.func17, Tryz.ntmps17
  go_wp2_with (refine wpList_load_mid rfl 43 _ rfl (w.heap.size + 2) 0 rfl _ _ V0.out.re Tryz.underlying43 rfl sizeExp4 ?_)
  refine (spec_ExpOk x HXS.out _ _ (HA.out.2.2.2.2.later V0.out.b)).mono ?_
  rintro e w1 ⟨rfl, hb1⟩
  have V1 := hid (V0.out.later hb1)
  clear hb1 V0
  obtain ⟨ok, hok⟩ : ∃ ok, expOk x = ok := ⟨_, rfl⟩
  rw [hok]
  cases ok with
  | false =>
    have hr : Hid (evalP ts ns A V bs x = none) := show evalP ts ns A V bs x = none by rw [evalP, hok]; rfl
    clear hok
    go_wp2
    exact bodyPost_ret (v := .tuple #[.int .i64 0, .bool false]) (by simp [results, Tryz.results17, go_sem]) rfl ⟨by rw [hr.out]; rfl, V1.out.b⟩
  | true =>
  have hr : Hid (evalP ts ns A V bs x = evX ts A (withN bs (varN ns V)) 8 x) := show evalP ts ns A V bs x = _ by rw [evalP, hok]; rfl
  have TX : Hid (toldX 8 x = true) := by unfold expOk at hok; simp at hok; exact hok.1
  clear hok
  go_wp2_with fail
  have bd : Below w1.heap.size w1 w1.drew := (Below.refl _ w1).drew
  have Vd := V1.out.later bd
  refine wp_region_held_drew (S := fun w' => w'.rangeAt w.heap.size 0 [.slice a1 ts.length b1, .slice a2 (slen F) b2] ∧ w'.rangeAt (w.heap.size + 1) 0 [.slice a3 A.length b3, .slice a4 V.length b4, .slice a5 O.length b5, .int .i64 en] ∧ w'.rangeAt (w.heap.size + 2) 0 [.int .i64 x.h.k, .int .i64 x.h.n, .string x.h.s, .slice a7 (elen x.l) b7]) (by kernel_rfl) ⟨Vd.rp, Vd.rs, Vd.re⟩ (fun hHeld => ?_)
  refine wpAnyH_take (i := 0) (v := .agg ([.slice a1 ts.length b1, .slice a2 (slen F) b2] : List Value).toArray) rfl (by kernel_rfl) (by kernel_rfl) (by kernel_rfl) (fun _ _ _ => id) (yieldsIf_load_mid (by rfl) 27 _ rfl (w.heap.size) (0) rfl [.slice a1 ts.length b1, .slice a2 (slen F) b2] _ (fun w h => h.1) Tryz.underlying27 rfl sizeProg2) hHeld ?_
  simp only [Act.put, zp]
  refine wpAnyH_take (i := 1) (v := .pointer (some ⟨w.heap.size, 1, Option.none⟩)) rfl (by kernel_rfl) (by kernel_rfl) (by kernel_rfl) (fun _ _ _ => id) (Or.inl ⟨by rfl, ?sa1⟩) hHeld ?_
  case sa1 => intro w hSw; go_simp
  simp only [Act.put, zp]
  refine wpAnyH_take (i := 2) (v := .slice a2 (slen F) b2) rfl (by kernel_rfl) (by kernel_rfl) (by kernel_rfl) (fun _ _ _ => id) (Or.inl ⟨by rfl, ?sa2⟩) hHeld ?_
  case sa2 => intro w hSw; have h2 := hSw.1 1 _ rfl; go_simp
  simp only [Act.put, zp]
  refine wpAnyH_take (i := 4) (v := .agg ([.slice a3 A.length b3, .slice a4 V.length b4, .slice a5 O.length b5, .int .i64 en] : List Value).toArray) rfl (by kernel_rfl) (by kernel_rfl) (by kernel_rfl) (fun _ _ _ => id) (yieldsIf_load_mid (by rfl) 33 _ rfl (w.heap.size + 1) (0) rfl [.slice a3 A.length b3, .slice a4 V.length b4, .slice a5 O.length b5, .int .i64 en] _ (fun w h => h.2.1) Tryz.underlying33 rfl sizeSto2) hHeld ?_
  simp only [Act.put, zp]
  refine wpAnyH_take (i := 5) (v := .slice a6 bs.length b6) rfl (by kernel_rfl) (by kernel_rfl) (by kernel_rfl) (fun _ _ _ => id) (Or.inl ⟨by rfl, ?sa5⟩) hHeld ?_
  case sa5 => intro w hSw; go_simp
  simp only [Act.put, zp]
  refine wpAnyH_ready (rs := [3]) (by kernel_rfl) (by simp) ?_
  refine AllReadyH.cons rfl (fun K hK => ?_) AllReadyH.nil
  rw [if_pos (by rfl)]
  simp only [zq]
  go_wp2_with fail
  refine (HV.out _ _ (HA.out.2.1.later Vd.b)).mono ?_
  rintro e w2 ⟨nv, rfl, hn2, hb2⟩
  have N2 := hid hn2
  obtain ⟨n1, n2, rfl⟩ := hn2.shape
  have V2 := hid (Vd.later hb2)
  go_wp2_with fail
  refine hK.out _ _ (⟨rangeAt_later hHeld.1 hb2, rangeAt_later hHeld.2.1 hb2, rangeAt_later hHeld.2.2 hb2⟩) (fun hHeld => ?_)
  clear hb2 hn2 Vd bd V1
  refine wpAnyH_take (i := 6) (v := .agg #[.slice a1 ts.length b1, .slice a2 (slen F) b2, .slice n1 ns.length n2, .slice a3 A.length b3, .slice a4 V.length b4, .slice a5 O.length b5, .int .i64 en, .slice a6 bs.length b6, .int .i64 0]) rfl (by kernel_rfl) (by kernel_rfl) (by kernel_rfl) (fun _ _ _ => id) (Or.inl ⟨by rfl, ?sb6⟩) hHeld ?_
  case sb6 => intro w hSw; go_simp
  simp only [Act.put, zp]
  refine wpAnyH_ready (rs := [7]) (by kernel_rfl) (by simp) ?_
  refine AllReadyH.cons rfl (fun K hK => ?_) AllReadyH.nil
  rw [if_pos (by rfl)]
  simp only [zq]
  go_wp2_with fail
  have hb3 := aB w2 (.cells #[.slice a1 ts.length b1, .slice a2 (slen F) b2, .slice n1 ns.length n2, .slice a3 A.length b3, .slice a4 V.length b4, .slice a5 O.length b5, .int .i64 en, .slice a6 bs.length b6, .int .i64 0] 71)
  refine hK.out _ _ (⟨rangeAt_later hHeld.1 hb3, rangeAt_later hHeld.2.1 hb3, rangeAt_later hHeld.2.2 hb3⟩) (fun hHeld => ?_)
  refine wpAnyH_take (i := 8) (v := .pointer (some ⟨w2.heap.size, 0, Option.none⟩)) rfl (by kernel_rfl) (by kernel_rfl) (by kernel_rfl) (fun _ _ _ => id) (Or.inl ⟨by rfl, ?sc8⟩) hHeld ?_
  case sc8 => intro w hSw; go_simp
  simp only [Act.put, zp]
  refine wpAnyH_done (by kernel_rfl) ?_ _
  clear hHeld
  have V3 := hid (V2.out.later hb3)
  have RR3 : Hid (RR (w2.alloc (.cells #[.slice a1 ts.length b1, .slice a2 (slen F) b2, .slice n1 ns.length n2, .slice a3 A.length b3, .slice a4 V.length b4, .slice a5 O.length b5, .int .i64 en, .slice a6 bs.length b6, .int .i64 0] 71)) w2.heap.size ts ns A V bs (.slice a1 ts.length b1) (.slice a2 (slen F) b2) (.slice n1 ns.length n2) (.slice a3 A.length b3) (.slice a4 V.length b4) (.slice a5 O.length b5) en (.slice a6 bs.length b6) 0) := ⟨blkLast _ _, HA.out.1.later V3.out.b, N2.out.later hb3, HA.out.2.2.1.a.later V3.out.b, HA.out.2.2.1.v.later V3.out.b, HA.out.2.2.2.1.later V3.out.b⟩
  have HE3 := hid (HA.out.2.2.2.2.later V3.out.b)
  clear hb3 V2
  go_wp2_with (refine wpList_load_mid rfl 43 _ rfl (w.heap.size + 2) 0 rfl _ _ V3.out.re Tryz.underlying43 rfl sizeExp4 ?_)
  refine (l7Exp_all HL.out rfl 8 x _ _ TX.out HE3.out RR3.out).mono ?_
  rintro e w5 ⟨he, hb5⟩
  have B5 := hid (V3.out.b.trans (hb5.mono V3.out.b.size))
  obtain ⟨r, hrr⟩ : ∃ r, evX ts A (withN bs (varN ns V)) 8 x = r := ⟨_, rfl⟩
  rw [hrr] at hr he
  obtain rfl : e = .returned (.tuple #[.int .i64 (r.getD 0), .bool r.isSome]) := he
  clear hb5 hrr
  go_wp2
  exact bodyPost_ret (v := .tuple #[.int .i64 (r.getD 0), .bool r.isSome]) (by simp [results, Tryz.results17, go_sem]) rfl ⟨by rw [hr.out]; rfl, B5.out⟩
def rdF (w : World) (a : Addr) : Option Value := if w.frozen? a = true then Option.none else w.cell? a
def EInF (w : World) (lo : Nat) : EF → Nat → Nat → Prop
  | .nil, _, _ => True
  | .node _ _ h l r, b, o =>
    (rdF w ⟨b, o, Option.none⟩ = some (.int .i64 h.k) ∧ rdF w ⟨b, o + 1, Option.none⟩ = some (.int .i64 h.n) ∧ rdF w ⟨b, o + 2, Option.none⟩ = some (.string h.s) ∧
      ∃ v, rdF w ⟨b, o + 3, Option.none⟩ = some v ∧ ∃ b' o' a' c', v = .slice a' (elen l) c' ∧ (a' = some ⟨b', o', Option.none⟩ ∨ l = .nil) ∧ lo ≤ b' ∧ EInF w lo l b' o') ∧ EInF w lo r b (o + 4)
def EVF (w : World) (lo : Nat) (F : EF) (v : Value) : Prop := ∃ b o a c, v = .slice a (elen F) c ∧ (a = some ⟨b, o, Option.none⟩ ∨ F = .nil) ∧ lo ≤ b ∧ EInF w lo F b o
end Go.Proofs.YtpinockfakndlaaGreat
