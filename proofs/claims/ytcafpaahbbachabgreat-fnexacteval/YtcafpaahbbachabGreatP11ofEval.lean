/-
  Texts in one: EvTopS, NameShelf, NameAsc, NameKind, NameSpec.
-/
import Derived.Test.YtcafpaahbbachabGreatP10ofEval
import Derived.Test.YtcafpaahbbachabGreatP09ofEval
import Derived.Shelf.LaysM
import Derived.Shelf.Strconv.Clone
import Derived.Shelf.SortM.Plain
import Derived.Shelf.SortM.SortNone
import Derived.Shelf.SlIter.Nil
import Derived.Ground.SlgmProg
import Derived.Ground.GgzProg
import Derived.Test.YtcafpaahbbachabGreatProg
import Derived.Test.YtcafpaahbbachabGreatP06ofEval
import Derived.Maps.OwnSet
import Derived.Lib.SmallJoins
import Derived.OneCell
/-
  What an expression is: Eval of the specification.
-/
namespace Go.Proofs.YtcafpaahbbachabGreat
open Go.RowKit Go.Lib
set_option linter.unusedSimpArgs false
set_option linter.unusedVariables false

set_option maxHeartbeats 4000000 in
set_option maxRecDepth 100000 in
theorem spec_Eval (ts : List AR) (F : SF) (ns : List ByteArray) (A : List (List Int)) (V O : List Int) (bs : List AR) (x : X) (hl : RL ts ns A V bs) (hO : O.length ≤ 100000000) (hx : xsize x ≤ 1048576) (va vb sa sv so bv v : Value) (en : Int) (w : World) (ha : AV w 0 va ts) (hb : SV w 0 F vb) (hs : StoV w sa sv so A V O) (hbb : AV w 0 bv bs) (hv : EV w 0 x.l v)
    (hV : ∀ w v, SV w 0 F v → Calls Tryz.prog 31 #[v] w fun e w' => ∃ nv, e = .returned nv ∧ TV w' 0 nv ns ∧ Below w.heap.size w w') :
    Calls Tryz.prog 9 #[.agg #[va, vb], .agg #[sa, sv, so, .int .i64 en], bv, .agg #[.int .i64 x.h.k, .int .i64 x.h.n, .string x.h.s, v]] w fun e w' => e = valR (evalP ts ns A V bs x) ∧ Below w.heap.size w w' := by
  have HA := Lib.hid (And.intro ha (And.intro hb (And.intro hs (And.intro hbb hv))))
  have HV := Lib.hid hV
  have HL := Lib.hid hl
  have HXS := Lib.hid hx
  have V0 := Lib.hid (VB.start w va vb sa sv so en #[.int .i64 x.h.k, .int .i64 x.h.n, .string x.h.s, v] 51)
  obtain ⟨a1, b1, rfl⟩ := ha.shape
  obtain ⟨a2, b2, rfl⟩ := hb.shape
  obtain ⟨a3, b3, rfl⟩ := hs.a.shape
  obtain ⟨a4, b4, rfl⟩ := hs.v.shape
  obtain ⟨a5, b5, rfl⟩ := hs.o.shape
  obtain ⟨a6, b6, rfl⟩ := hbb.shape
  obtain ⟨a7, b7, rfl⟩ := hv.shape
  clear ha hb hs hbb hv hV hl hx hO
  go_enter Tryz.func9, Tryz.ntmps9
  go_wp2_with (refine wpList_load_mid rfl 51 _ rfl (w.heap.size + 2) 0 rfl _ _ V0.out.re Tryz.underlying51 rfl sizeExp4 ?_)
  refine (spec_ExpOk x HXS.out _ _ (HA.out.2.2.2.2.later V0.out.b)).mono ?_
  rintro e w1 ⟨rfl, hb1⟩
  have V1 := Lib.hid (V0.out.later hb1)
  clear hb1 V0
  obtain ⟨ok, hok⟩ : ∃ ok, expOk x = ok := ⟨_, rfl⟩
  rw [hok]
  cases ok with
  | false =>
    have hr : Hid (evalP ts ns A V bs x = none) := show evalP ts ns A V bs x = none by rw [evalP, hok]; rfl
    clear hok
    go_wp2
    exact bodyPost_ret (v := .tuple #[.int .i64 0, .bool false]) (by simp [results, Tryz.results9, go_sem]) rfl ⟨by rw [hr.out]; rfl, V1.out.b⟩
  | true =>
  have hr : Hid (evalP ts ns A V bs x = evX ts A (withN bs (varN ns V)) 8 x) := show evalP ts ns A V bs x = _ by rw [evalP, hok]; rfl
  have TX : Hid (toldX 8 x = true) := by unfold expOk at hok; simp at hok; exact hok.1
  clear hok
  go_wp2_with fail
  have bd : Below w1.heap.size w1 w1.drew := (Below.refl _ w1).drew
  have Vd := V1.out.later bd
  refine wp_region_held_drew (S := fun w' => w'.rangeAt w.heap.size 0 [.slice a1 ts.length b1, .slice a2 (slen F) b2] ∧ w'.rangeAt (w.heap.size + 1) 0 [.slice a3 A.length b3, .slice a4 V.length b4, .slice a5 O.length b5, .int .i64 en] ∧ w'.rangeAt (w.heap.size + 2) 0 [.int .i64 x.h.k, .int .i64 x.h.n, .string x.h.s, .slice a7 (elen x.l) b7]) (by kernel_rfl) ⟨Vd.rp, Vd.rs, Vd.re⟩ (fun hHeld => ?_)
  refine wpAnyH_take (i := 0) (v := .agg ([.slice a1 ts.length b1, .slice a2 (slen F) b2] : List Value).toArray) rfl (by kernel_rfl) (by kernel_rfl) (by kernel_rfl) (fun _ _ _ h => h) (yieldsIf_load_mid (by rfl) 43 _ rfl (w.heap.size) (0) rfl [.slice a1 ts.length b1, .slice a2 (slen F) b2] _ (fun w h => h.1) Tryz.underlying43 rfl sizeProg2) hHeld ?_
  simp only [Act.put, List.getElem_toArray, List.getElem_cons_succ, List.getElem_cons_zero, List.setIfInBounds_toArray, List.set_cons_zero, List.set_cons_succ]
  refine wpAnyH_take (i := 1) (v := .pointer (some ⟨w.heap.size, 1, Option.none⟩)) rfl (by kernel_rfl) (by kernel_rfl) (by kernel_rfl) (fun _ _ _ h => h) (Or.inl ⟨by rfl, ?sa1⟩) hHeld ?_
  case sa1 => intro w hSw; go_simp
  simp only [Act.put, List.getElem_toArray, List.getElem_cons_succ, List.getElem_cons_zero, List.setIfInBounds_toArray, List.set_cons_zero, List.set_cons_succ]
  refine wpAnyH_take (i := 2) (v := .slice a2 (slen F) b2) rfl (by kernel_rfl) (by kernel_rfl) (by kernel_rfl) (fun _ _ _ h => h) (Or.inl ⟨by rfl, ?sa2⟩) hHeld ?_
  case sa2 => intro w hSw; have h2 := hSw.1 1 _ rfl; go_simp
  simp only [Act.put, List.getElem_toArray, List.getElem_cons_succ, List.getElem_cons_zero, List.setIfInBounds_toArray, List.set_cons_zero, List.set_cons_succ]
  refine wpAnyH_take (i := 4) (v := .agg ([.slice a3 A.length b3, .slice a4 V.length b4, .slice a5 O.length b5, .int .i64 en] : List Value).toArray) rfl (by kernel_rfl) (by kernel_rfl) (by kernel_rfl) (fun _ _ _ h => h) (yieldsIf_load_mid (by rfl) 45 _ rfl (w.heap.size + 1) (0) rfl [.slice a3 A.length b3, .slice a4 V.length b4, .slice a5 O.length b5, .int .i64 en] _ (fun w h => h.2.1) Tryz.underlying45 rfl sizeSto2) hHeld ?_
  simp only [Act.put, List.getElem_toArray, List.getElem_cons_succ, List.getElem_cons_zero, List.setIfInBounds_toArray, List.set_cons_zero, List.set_cons_succ]
  refine wpAnyH_take (i := 5) (v := .slice a6 bs.length b6) rfl (by kernel_rfl) (by kernel_rfl) (by kernel_rfl) (fun _ _ _ h => h) (Or.inl ⟨by rfl, ?sa5⟩) hHeld ?_
  case sa5 => intro w hSw; go_simp
  simp only [Act.put, List.getElem_toArray, List.getElem_cons_succ, List.getElem_cons_zero, List.setIfInBounds_toArray, List.set_cons_zero, List.set_cons_succ]
  refine wpAnyH_ready (rs := [3]) (by kernel_rfl) (by simp) ?_
  refine AllReadyH.cons rfl (fun K hK => ?_) AllReadyH.nil
  rw [if_pos (by rfl)]
  simp only [List.getElem_toArray, List.getElem_cons_succ, List.getElem_cons_zero]
  go_wp2_with fail
  refine (HV.out _ _ (HA.out.2.1.later Vd.b)).mono ?_
  rintro e w2 ⟨nv, rfl, hn2, hb2⟩
  have N2 := Lib.hid hn2
  obtain ⟨n1, n2, rfl⟩ := hn2.shape
  have V2 := Lib.hid (Vd.later hb2)
  go_wp2_with fail
  refine hK.out _ _ (⟨rangeAt_later hHeld.1 hb2, rangeAt_later hHeld.2.1 hb2, rangeAt_later hHeld.2.2 hb2⟩) (fun hHeld => ?_)
  clear hb2 hn2 Vd bd V1
  refine wpAnyH_take (i := 6) (v := .agg #[.slice a1 ts.length b1, .slice a2 (slen F) b2, .slice n1 ns.length n2, .slice a3 A.length b3, .slice a4 V.length b4, .slice a5 O.length b5, .int .i64 en, .slice a6 bs.length b6, .int .i64 0]) rfl (by kernel_rfl) (by kernel_rfl) (by kernel_rfl) (fun _ _ _ h => h) (Or.inl ⟨by rfl, ?sb6⟩) hHeld ?_
  case sb6 => intro w hSw; go_simp
  simp only [Act.put, List.getElem_toArray, List.getElem_cons_succ, List.getElem_cons_zero, List.setIfInBounds_toArray, List.set_cons_zero, List.set_cons_succ]
  refine wpAnyH_ready (rs := [7]) (by kernel_rfl) (by simp) ?_
  refine AllReadyH.cons rfl (fun K hK => ?_) AllReadyH.nil
  rw [if_pos (by rfl)]
  simp only [List.getElem_toArray, List.getElem_cons_succ, List.getElem_cons_zero]
  go_wp2_with fail
  have hb3 := alloc_below w2 (.cells #[.slice a1 ts.length b1, .slice a2 (slen F) b2, .slice n1 ns.length n2, .slice a3 A.length b3, .slice a4 V.length b4, .slice a5 O.length b5, .int .i64 en, .slice a6 bs.length b6, .int .i64 0] 75)
  refine hK.out _ _ (⟨rangeAt_later hHeld.1 hb3, rangeAt_later hHeld.2.1 hb3, rangeAt_later hHeld.2.2 hb3⟩) (fun hHeld => ?_)
  refine wpAnyH_take (i := 8) (v := .pointer (some ⟨w2.heap.size, 0, Option.none⟩)) rfl (by kernel_rfl) (by kernel_rfl) (by kernel_rfl) (fun _ _ _ h => h) (Or.inl ⟨by rfl, ?sc8⟩) hHeld ?_
  case sc8 => intro w hSw; go_simp
  simp only [Act.put, List.getElem_toArray, List.getElem_cons_succ, List.getElem_cons_zero, List.setIfInBounds_toArray, List.set_cons_zero, List.set_cons_succ]
  refine wpAnyH_done (by kernel_rfl) ?_ _
  clear hHeld
  have V3 := Lib.hid (V2.out.later hb3)
  have RR3 : Hid (RR (w2.alloc (.cells #[.slice a1 ts.length b1, .slice a2 (slen F) b2, .slice n1 ns.length n2, .slice a3 A.length b3, .slice a4 V.length b4, .slice a5 O.length b5, .int .i64 en, .slice a6 bs.length b6, .int .i64 0] 75)) w2.heap.size ts ns A V bs (.slice a1 ts.length b1) (.slice a2 (slen F) b2) (.slice n1 ns.length n2) (.slice a3 A.length b3) (.slice a4 V.length b4) (.slice a5 O.length b5) en (.slice a6 bs.length b6) 0) := ⟨blkLast _ _, HA.out.1.later V3.out.b, N2.out.later hb3, HA.out.2.2.1.a.later V3.out.b, HA.out.2.2.1.v.later V3.out.b, HA.out.2.2.2.1.later V3.out.b⟩
  have HE3 := Lib.hid (HA.out.2.2.2.2.later V3.out.b)
  clear hb3 V2
  go_wp2_with (refine wpList_load_mid rfl 51 _ rfl (w.heap.size + 2) 0 rfl _ _ V3.out.re Tryz.underlying51 rfl sizeExp4 ?_)
  refine (l7Exp_all HL.out rfl 8 x _ _ TX.out HE3.out RR3.out).mono ?_
  rintro e w5 ⟨he, hb5⟩
  have B5 := Lib.hid (V3.out.b.trans (hb5.mono V3.out.b.size))
  obtain ⟨r, hrr⟩ : ∃ r, evX ts A (withN bs (varN ns V)) 8 x = r := ⟨_, rfl⟩
  rw [hrr] at hr he
  obtain rfl : e = .returned (.tuple #[.int .i64 (r.getD 0), .bool r.isSome]) := he
  clear hb5 hrr
  go_wp2
  exact bodyPost_ret (v := .tuple #[.int .i64 (r.getD 0), .bool r.isSome]) (by simp [results, Tryz.results9, go_sem]) rfl ⟨by rw [hr.out]; rfl, B5.out⟩
end Go.Proofs.YtcafpaahbbachabGreat
/-
  The library's contracts on maps.Keys, slices.Sorted and stringslite.Clone, laid at this dump.
-/
namespace Go.Proofs
open Go.RowKit Go.Maps Go.Sort Go.Shelf
def Tryz.laysM316_ren : Go.Shelf.Ren := ⟨fun | 316 => 161 | n => n, fun | 9 => 9 | 3 => 3 | 4 => 4 | 37 => 178 | 0 => 0 | 127 => 202 | 5 => 5 | n => n, fun | n => n⟩
theorem Tryz.laysM316 : Go.Proofs.LaysM.n316 Tryz.prog Tryz.laysM316_ren := {
  mixed := by kernel_rfl
  f316 := Tryz.func161.trans (congrArg some (by kernel_rfl))
  t0 := Tryz.underlying0
  a0 := Tryz.isAgg0
  z0 := Tryz.sizeOf0
  v0 := Tryz.zeroValue0
  t3 := Tryz.underlying3
  a3 := Tryz.isAgg3
  z3 := Tryz.sizeOf3
  v3 := Tryz.zeroValue3
  t4 := Tryz.underlying4
  a4 := Tryz.isAgg4
  z4 := Tryz.sizeOf4
  v4 := Tryz.zeroValue4
  t9 := Tryz.underlying9
  a9 := Tryz.isAgg9
  z9 := Tryz.sizeOf9
  v9 := Tryz.zeroValue9
  t37 := Tryz.underlying178
  a37 := Tryz.isAgg178
  z37 := Tryz.sizeOf178
  v37 := Tryz.zeroValue178
  t127 := Tryz.underlying202
  a127 := Tryz.isAgg202
  z127 := Tryz.sizeOf202
  v127 := Tryz.zeroValue202
  t5 := Tryz.underlying5
  a5 := Tryz.isAgg5
  z5 := Tryz.sizeOf5
  v5 := Tryz.zeroValue5
  i0 := by kernel_rfl
  i3 := by kernel_rfl
  i4 := by kernel_rfl
  i5 := by kernel_rfl
  i9 := by kernel_rfl
  i37 := by kernel_rfl
  i127 := by kernel_rfl }
def Tryz.keys144_ren : Go.Shelf.Ren := ⟨fun | 7 => 144 | 10 => 160 | n => n, fun | 23 => 151 | 26 => 9 | 3 => 3 | 28 => 184 | 0 => 0 | 27 => 183 | 33 => 161 | 4 => 4 | n => n, fun | n => n⟩
theorem Tryz.keys144 : Go.Proofs.SlLaysZ.n7 Tryz.prog Tryz.keys144_ren := {
  mixed := by kernel_rfl
  f7 := ⟨Tryz.f144.name, by decide, Tryz.func144.trans (congrArg some (by kernel_rfl))⟩
  f10 := ⟨Tryz.f160.name, by decide, Tryz.func160.trans (congrArg some (by kernel_rfl))⟩
  t0 := Tryz.underlying0
  a0 := Tryz.isAgg0
  z0 := Tryz.sizeOf0
  v0 := Tryz.zeroValue0
  t4 := Tryz.underlying4
  a4 := Tryz.isAgg4
  z4 := Tryz.sizeOf4
  v4 := Tryz.zeroValue4
  t23 := Tryz.underlying151
  a23 := Tryz.isAgg151
  z23 := Tryz.sizeOf151
  v23 := Tryz.zeroValue151
  t26 := Tryz.underlying9
  a26 := Tryz.isAgg9
  z26 := Tryz.sizeOf9
  v26 := Tryz.zeroValue9
  t27 := Tryz.underlying183
  a27 := Tryz.isAgg183
  z27 := Tryz.sizeOf183
  v27 := Tryz.zeroValue183
  t28 := Tryz.underlying184
  a28 := Tryz.isAgg184
  z28 := Tryz.sizeOf184
  v28 := Tryz.zeroValue184
  t33 := Tryz.underlying161
  a33 := Tryz.isAgg161
  z33 := Tryz.sizeOf161
  v33 := Tryz.zeroValue161 }
def Tryz.sorted143_ren : Go.Shelf.Ren := ⟨fun | 6 => 143 | 8 => 158 | 9 => 159 | 11 => 168 | 13 => 170 | 12 => 169 | 23 => 182 | 24 => 183 | 14 => 173 | 15 => 174 | 16 => 175 | 17 => 176 | 18 => 177 | 19 => 178 | 20 => 179 | 21 => 180 | 22 => 181 | 25 => 188 | 26 => 189 | 27 => 190 | 28 => 191 | 29 => 192 | 30 => 193 | 31 => 195 | n => n, fun | 26 => 9 | 28 => 184 | 24 => 72 | 0 => 0 | 3 => 3 | 37 => 201 | 48 => 213 | 50 => 215 | 4 => 4 | 40 => 206 | 39 => 205 | 45 => 38 | 5 => 5 | 9 => 9 | 51 => 219 | 55 => 164 | 57 => 224 | 58 => 225 | 33 => 161 | n => n, fun | n => n⟩
theorem Tryz.sorted143 : Go.Proofs.SlLaysZ.n6 Tryz.prog Tryz.sorted143_ren := {
  mixed := by kernel_rfl
  f6 := ⟨Tryz.f143.name, by decide, Tryz.func143.trans (congrArg some (by kernel_rfl))⟩
  f8 := ⟨Tryz.f158.name, by decide, Tryz.func158.trans (congrArg some (by kernel_rfl))⟩
  f11 := ⟨Tryz.f168.name, by decide, Tryz.func168.trans (congrArg some (by kernel_rfl))⟩
  t0 := Tryz.underlying0
  a0 := Tryz.isAgg0
  z0 := Tryz.sizeOf0
  v0 := Tryz.zeroValue0
  t24 := Tryz.underlying72
  a24 := Tryz.isAgg72
  z24 := Tryz.sizeOf72
  v24 := Tryz.zeroValue72
  t26 := Tryz.underlying9
  a26 := Tryz.isAgg9
  z26 := Tryz.sizeOf9
  v26 := Tryz.zeroValue9
  t28 := Tryz.underlying184
  a28 := Tryz.isAgg184
  z28 := Tryz.sizeOf184
  v28 := Tryz.zeroValue184
  i26 := by kernel_rfl }
def Tryz.sort159_ren : Go.Shelf.Ren := ⟨fun | 6 => 159 | 8 => 170 | 9 => 169 | 19 => 182 | 20 => 183 | 21 => 173 | 22 => 174 | 23 => 175 | 24 => 176 | 25 => 177 | 26 => 178 | 27 => 179 | 28 => 180 | 29 => 181 | 36 => 188 | 31 => 189 | 32 => 190 | 37 => 191 | 38 => 192 | 39 => 193 | 41 => 195 | n => n, fun | 27 => 72 | 29 => 9 | 3 => 3 | 32 => 201 | 26 => 72 | 0 => 0 | 44 => 213 | 46 => 215 | 4 => 4 | 36 => 206 | 35 => 205 | 41 => 38 | 5 => 5 | 9 => 9 | 53 => 219 | 57 => 164 | 63 => 224 | 64 => 225 | n => n, fun | n => n⟩
theorem Tryz.sort159 : Go.Proofs.SlLaysM.n6 Tryz.prog Tryz.sort159_ren := {
  mixed := by kernel_rfl
  f6 := ⟨Tryz.f159.name, by decide, Tryz.func159.trans (congrArg some (by kernel_rfl))⟩
  f8 := Tryz.func170.trans (congrArg some (by kernel_rfl))
  f9 := ⟨Tryz.f169.name, by decide, Tryz.func169.trans (congrArg some (by kernel_rfl))⟩
  f19 := Tryz.func182.trans (congrArg some (by kernel_rfl))
  f20 := Tryz.func183.trans (congrArg some (by kernel_rfl))
  f21 := ⟨Tryz.f173.name, by decide, Tryz.func173.trans (congrArg some (by kernel_rfl))⟩
  f22 := ⟨Tryz.f174.name, by decide, Tryz.func174.trans (congrArg some (by kernel_rfl))⟩
  f23 := ⟨Tryz.f175.name, by decide, Tryz.func175.trans (congrArg some (by kernel_rfl))⟩
  f24 := ⟨Tryz.f176.name, by decide, Tryz.func176.trans (congrArg some (by kernel_rfl))⟩
  f25 := ⟨Tryz.f177.name, by decide, Tryz.func177.trans (congrArg some (by kernel_rfl))⟩
  f26 := ⟨Tryz.f178.name, by decide, Tryz.func178.trans (congrArg some (by kernel_rfl))⟩
  f27 := ⟨Tryz.f179.name, by decide, Tryz.func179.trans (congrArg some (by kernel_rfl))⟩
  f28 := ⟨Tryz.f180.name, by decide, Tryz.func180.trans (congrArg some (by kernel_rfl))⟩
  f29 := ⟨Tryz.f181.name, by decide, Tryz.func181.trans (congrArg some (by kernel_rfl))⟩
  f31 := Tryz.func189.trans (congrArg some (by kernel_rfl))
  f32 := Tryz.func190.trans (congrArg some (by kernel_rfl))
  f36 := ⟨Tryz.f188.name, by decide, Tryz.func188.trans (congrArg some (by kernel_rfl))⟩
  f37 := ⟨Tryz.f191.name, by decide, Tryz.func191.trans (congrArg some (by kernel_rfl))⟩
  f38 := ⟨Tryz.f192.name, by decide, Tryz.func192.trans (congrArg some (by kernel_rfl))⟩
  f39 := ⟨Tryz.f193.name, by decide, Tryz.func193.trans (congrArg some (by kernel_rfl))⟩
  f41 := ⟨Tryz.f195.name, by decide, Tryz.func195.trans (congrArg some (by kernel_rfl))⟩
  t0 := Tryz.underlying0
  a0 := Tryz.isAgg0
  z0 := Tryz.sizeOf0
  v0 := Tryz.zeroValue0
  t3 := Tryz.underlying3
  a3 := Tryz.isAgg3
  z3 := Tryz.sizeOf3
  v3 := Tryz.zeroValue3
  t4 := Tryz.underlying4
  a4 := Tryz.isAgg4
  z4 := Tryz.sizeOf4
  v4 := Tryz.zeroValue4
  t5 := Tryz.underlying5
  a5 := Tryz.isAgg5
  z5 := Tryz.sizeOf5
  v5 := Tryz.zeroValue5
  t9 := Tryz.underlying9
  a9 := Tryz.isAgg9
  z9 := Tryz.sizeOf9
  v9 := Tryz.zeroValue9
  t26 := Tryz.underlying72
  a26 := Tryz.isAgg72
  z26 := Tryz.sizeOf72
  v26 := Tryz.zeroValue72
  t27 := Tryz.underlying72
  a27 := Tryz.isAgg72
  z27 := Tryz.sizeOf72
  v27 := Tryz.zeroValue72
  t29 := Tryz.underlying9
  a29 := Tryz.isAgg9
  z29 := Tryz.sizeOf9
  v29 := Tryz.zeroValue9
  t32 := Tryz.underlying201
  a32 := Tryz.isAgg201
  z32 := Tryz.sizeOf201
  v32 := Tryz.zeroValue201
  t35 := Tryz.underlying205
  a35 := Tryz.isAgg205
  z35 := Tryz.sizeOf205
  v35 := Tryz.zeroValue205
  t36 := Tryz.underlying206
  a36 := Tryz.isAgg206
  z36 := Tryz.sizeOf206
  v36 := Tryz.zeroValue206
  t41 := Tryz.underlying38
  a41 := Tryz.isAgg38
  z41 := Tryz.sizeOf38
  v41 := Tryz.zeroValue38
  t44 := Tryz.underlying213
  a44 := Tryz.isAgg213
  z44 := Tryz.sizeOf213
  v44 := Tryz.zeroValue213
  t46 := Tryz.underlying215
  a46 := Tryz.isAgg215
  z46 := Tryz.sizeOf215
  v46 := Tryz.zeroValue215
  t53 := Tryz.underlying219
  a53 := Tryz.isAgg219
  z53 := Tryz.sizeOf219
  v53 := Tryz.zeroValue219
  t57 := Tryz.underlying164
  a57 := Tryz.isAgg164
  z57 := Tryz.sizeOf164
  v57 := Tryz.zeroValue164
  t63 := Tryz.underlying224
  a63 := Tryz.isAgg224
  z63 := Tryz.sizeOf224
  v63 := Tryz.zeroValue224
  t64 := Tryz.underlying225
  a64 := Tryz.isAgg225
  z64 := Tryz.sizeOf225
  v64 := Tryz.zeroValue225 }
theorem Tryz.sorts (m : Nat) : AnyZ.SortsIn Tryz.prog Tryz.sorted143_ren Fence.wide m :=
  ⟨fun blk off cap ss W hH hblk hsz => callsIn_wide.2 (AnyM.slices_Sort_string Tryz.sort159 blk off cap ss W hH hblk hsz),
   fun p cap W => callsIn_wide.2 (AnyM.slices_Sort_string_none Tryz.sort159 p cap W)⟩
theorem Tryz.maps_Keys (mb : Option Nat) (W : World) : Calls Tryz.prog 144 #[.map mb] W fun e w' => e = .returned (.func (.func 160) #[] #[.pointer (some ⟨W.heap.size, 0, none⟩)]) ∧ w' = W.alloc (.cells #[.map mb] 151) :=
  callsIn_wide.1 (AnyZ.keys_in Tryz.keys144 Fence.wide 5 trivial rfl mb W)
set_option maxHeartbeats 1000000 in
theorem Tryz.sorted_keys {H : Type} (b nn : Nat) (D0 : DataW H) (R : Value → Option (DataW H × List MemPlace)) (w : World) (hown : w.ownsMap Tryz.prog 9 R b nn D0) (hmax : Maps.size D0 ≤ maxLen) (hbytes : Maps.size D0 * 16 ≤ 140737488355328) :
    Calls Tryz.prog 143 #[.func (.func 160) #[] #[.pointer (some ⟨w.heap.size, 0, none⟩)]] (w.alloc (.cells #[.map (some b)] 151)) fun e w' => ∃ (v : Value) (ss : List (List UInt8)), e = .returned v ∧ ss.Perm (strKeys D0) ∧
      w'.ownsRow (w.alloc (.cells #[.map (some b)] 151)).heap.size 9 1 v ss.length ((ss.mergeSort (fun x y => decide (x ≤ y))).map encStr) ∧ (v = .slice none 0 0 ↔ ss = []) ∧ Below (w.alloc (.cells #[.map (some b)] 151)).heap.size (w.alloc (.cells #[.map (some b)] 151)) w' := by
  refine (callsIn_wide (n := 5)).1 ?_
  have hbl := hown.lt
  have hseq : SeqGives Fence.wide 2 Tryz.prog 160 #[.pointer (some ⟨w.heap.size, 0, none⟩)] encStr (fun ss => ss.Perm (strKeys D0)) (Maps.size D0) (w.alloc (.cells #[.map (some b)] 151)) :=
    AnyZ.keys_gives (ρ := Tryz.keys144_ren) { Tryz.keys144 with } Fence.wide _ trivial rfl (by omega) w.heap.size b nn D0 _ (by simp) (by simp) (by
      obtain ⟨es, clock, hb, Ft, hs, hD⟩ := hown
      exact ⟨es, clock, (Below.heap_alloc _ _ b hbl).trans hb, Ft, hs, hD⟩)
  exact AnyZ.sorted_in Tryz.sorted143 Fence.wide 5 trivial trivial trivial trivial rfl (by omega) (Tryz.sorts _) (enters_of Tryz.func159 (by kernel_rfl) rfl) 160 #[.pointer (some ⟨w.heap.size, 0, none⟩)] trivial (enters_of Tryz.func160 (by kernel_rfl) rfl) _ _ hmax hbytes _ hseq
theorem Tryz.clone (s : ByteArray) (w : World) (hlim : s.size ≤ 281474976710656) :
    Calls Tryz.prog 161 #[.string s] w fun e w' => e = .returned (.string s) ∧ Below w.heap.size w w' := Any.stringslite_Clone Tryz.laysM316 s w hlim
end Go.Proofs
/-
  The contract of the landed code's ascending: the names of a map, in order, in memory of their own.
-/
namespace Go.Proofs.YtcafpaahbbachabGreat
open Go.RowKit Go.Lib Go.Maps Go.Sort
set_option linter.unusedSimpArgs false
set_option linter.unusedVariables false

set_option maxRecDepth 100000 in
theorem clone_is (s : ByteArray) (w : World) (hlim : s.size ≤ 10000000) :
    Calls Tryz.prog 145 #[.string s] w fun e w' => e = .returned (.string s) ∧ Below w.heap.size w w' := by
  have C := Lib.hid (Tryz.clone s w (by omega))
  go_enter Tryz.func145, Tryz.ntmps145
  go_wp2_with fail
  refine C.out.mono ?_
  rintro e w1 ⟨rfl, hb1⟩
  go_wp2
  go_ret
  exact ⟨rfl, hb1⟩
theorem own_same {w : World} {B n g cap j : Nat} {e : TypeId} {xs : List Value} {u : Value} (h : w.ownsRow B e 1 (.slice (some ⟨g, 0, Option.none⟩) n cap) n xs) (hj : xs[j]? = some u) : (w.setCell ⟨g, j, Option.none⟩ u).ownsRow B e 1 (.slice (some ⟨g, 0, Option.none⟩) n cap) n xs := by
  have e0 : xs.set j u = xs := by
    apply List.ext_getElem?
    intro i
    rw [List.getElem?_set]
    split
    · rename_i hij
      subst hij
      split
      · exact hj.symm
      · rename_i hlt; rw [List.getElem?_eq_none (by omega)]
    · rfl
  refine ⟨h.1, ?_⟩
  rcases h.2 with ⟨h0, _⟩ | ⟨g', cap', cur, h1, h2, h3, h4, h5, h6, h7⟩
  · cases h0
  · injection h1 with e1 e2 e3
    injection e1 with e1
    injection e1 with e1
    subst e1; subst e3
    exact .inr ⟨g, cap, cur.setIfInBounds j u, rfl, h2, Joins.block_setCell h3 u, h4, h5, by simpa using h6, by rw [Array.toList_setIfInBounds, List.take_set, h7, e0]⟩
theorem cell_own {w : World} {B n g cap : Nat} {e : TypeId} {xs : List Value} (h : w.ownsRow B e 1 (.slice (some ⟨g, 0, Option.none⟩) n cap) n xs) {j : Nat} {u : Value} (hu : xs[j]? = some u) : w.cell? ⟨g, j, Option.none⟩ = some u ∧ w.frozen? ⟨g, j, Option.none⟩ = false := by
  refine ⟨own_cell h hu, ?_⟩
  rcases h.2 with ⟨h0, _⟩ | ⟨g', cap', cur, h1, h2, h3, _⟩
  · cases h0
  · injection h1 with e1 e2 e3
    injection e1 with e1
    injection e1 with e1
    subst e1
    simp [World.frozen?, h3]
/-- The names of a map, in order. -/
def mapNames (ss : List (List UInt8)) : List ByteArray := (ss.mergeSort (fun x y => decide (x ≤ y))).map fun l => ⟨l.toArray⟩
theorem mapNames_len (ss : List (List UInt8)) : (mapNames ss).length = ss.length := by simp [mapNames]
set_option maxHeartbeats 2000000 in
set_option maxRecDepth 100000 in
theorem ascending_is (b nn : Nat) (D0 : DataW Unit) (w : World) (hown : w.ownsMap Tryz.prog 9 (plainElem Tryz.prog 3) b nn D0) (hsz : Maps.size D0 ≤ 10000000) (hsm : ∀ x ∈ strKeys D0, x.length ≤ 10000000) :
    Calls Tryz.prog 120 #[.map (some b)] w fun e w' => ∃ (v : Value) (ss : List (List UInt8)), e = .returned v ∧ ss.Perm (strKeys D0) ∧ w'.ownsRow w.heap.size 9 1 v (mapNames ss).length ((mapNames ss).map Value.string) ∧ Below w.heap.size w w' := by
  have K := Lib.hid (Tryz.maps_Keys (some b) w)
  have S := Lib.hid (Tryz.sorted_keys b nn D0 _ w hown (by unfold maxLen; omega) (by omega))
  have Hsm := Lib.hid hsm
  clear hown hsm
  go_enter Tryz.func120, Tryz.ntmps120
  go_wp2_with fail
  refine K.out.mono ?_
  rintro e w1 ⟨rfl, rfl⟩
  go_wp2_with fail
  refine S.out.mono ?_
  rintro e w2 ⟨v, ss, rfl, hp, hrow, _, hb⟩
  have hlen : ss.length ≤ 10000000 := by rw [hp.length_eq]; refine Nat.le_trans ?_ hsz; cases D0 <;> simp [strKeys, Maps.size]
  have hB : Below w.heap.size w w2 := below_alloc hb
  have hrow' : w2.ownsRow w.heap.size 9 1 v (mapNames ss).length ((mapNames ss).map Value.string) := by
    have e1 : (ss.mergeSort (fun x y => decide (x ≤ y))).map encStr = (mapNames ss).map Value.string := by simp [mapNames, encStr, Function.comp]
    rw [mapNames_len, ← e1]
    exact ownsRow_base_a hrow (by simp)
  have hsmall : ∀ s ∈ mapNames ss, s.size ≤ 10000000 := fun s hs => by
    simp only [mapNames, List.mem_map] at hs
    obtain ⟨l, hl, rfl⟩ := hs
    exact Hsm.out l (hp.subset ((List.mergeSort_perm ss _).subset hl))
  have hl2 : (mapNames ss).length ≤ 10000000 := by rw [mapNames_len]; exact hlen
  have HP := Lib.hid hp
  have HS := Lib.hid hsmall
  obtain ⟨ns, hns⟩ : ∃ ns, Hid (mapNames ss = ns) := ⟨_, rfl⟩
  rw [hns.out] at hrow' hl2
  have HS' : Hid (∀ s ∈ ns, s.size ≤ 10000000) := by rw [← hns.out]; exact HS
  obtain ⟨va, vc, rfl⟩ := ownShape hrow'
  clear hrow hb hp hlen hsmall K S Hsm HS
  go_wp2
  go_loopw [11] (fun i wr => ∃ k : Nat, k ≤ ns.length ∧ i = .int .i64 k ∧ wr.ownsRow w.heap.size 9 1 (.slice va ns.length vc) ns.length (ns.map Value.string) ∧ Below w.heap.size w wr) (fun i _ => ns.length - (RowKit.intOf i).toNat)
  case atStart => exact ⟨0, by omega, rfl, hrow', hB⟩
  case round =>
    obtain ⟨k, hk, rfl, ho, hbr⟩ := hrel
    clear hrow' hB
    by_cases hlt : k < ns.length
    · have hltI : (k : Int) < (ns.length : Int) := by omega
      obtain ⟨m, hm⟩ : ∃ m, ns.length = m + 1 := ⟨ns.length - 1, by omega⟩
      obtain ⟨g, hva⟩ : ∃ g, va = some ⟨g, 0, Option.none⟩ := by
        have ho' := ho
        rw [hm] at ho'
        obtain ⟨g, cap, e1, _⟩ := own_some ho'
        injection e1 with e1
        exact ⟨g, e1⟩
      subst hva
      obtain ⟨s, hs⟩ : ∃ s, ns[k]? = some s := ⟨ns[k], List.getElem?_eq_getElem hlt⟩
      have hs2 : (ns.map Value.string)[k]? = some (.string s) := by rw [List.getElem?_map, hs]; rfl
      obtain ⟨c0, f0⟩ := cell_own ho hs2
      have hsl := HS'.out s (List.mem_of_getElem? hs)
      have Hs := Lib.hid hs2
      clear hs hs2 hm
      go_wp2_with fail
      refine (clone_is s _ hsl).mono ?_
      rintro e w3 ⟨rfl, hb3⟩
      have ho3 := ownB ho hb3
      have hbr3 := hbr.trans (hb3.mono hbr.size)
      obtain ⟨c3, f3⟩ := cell_own ho3 Hs.out
      have n1 := own_same ho3 Hs.out
      have hgB : w.heap.size ≤ g := (ho3.lt g rfl).1
      have n2 := hbr3.setCell (p := ⟨g, k, Option.none⟩) hgB (.string s)
      clear ho ho3 hbr hbr3 hb3 c0 f0
      go_wp2
      go_roundw
      case rel => exact ⟨k + 1, by omega, by go_num, n1, n2⟩
      case measure => simp [RowKit.intOf]; omega
    · go_wp2
      go_ret
      exact ⟨_, ss, rfl, HP.out, by rw [hns.out]; exact ho, hbr⟩
end Go.Proofs.YtcafpaahbbachabGreat
/-
  The contract of the landed code's namesOfKind, VarsOf, LoopVars.
-/
namespace Go.Proofs.YtcafpaahbbachabGreat
open Go.RowKit Go.Lib Go.Maps Go.Sort Go.WideMaps
set_option linter.unusedSimpArgs false
set_option linter.unusedVariables false

theorem keyLaw : Keyed Tryz.prog 9 := string_keyed Tryz.underlying9
theorem zeroInt (w : World) : (zeroValue 3).run Tryz.prog w = .ok (.int .i64 0) w := by kernel_rfl
/-- A map of the call's own. -/
abbrev OwnM (w : World) (b n : Nat) (D : DataW Unit) : Prop := w.ownsMap Tryz.prog 9 (plainElem Tryz.prog 3) b n D
/-- A variable that holds it. -/
abbrev MapAt (w : World) (b mb : Nat) : Prop := w.heap[b]? = some (.cells #[.map (some mb)] 151 (0, 0))
theorem OwnM.block {w w' : World} {b n : Nat} {D : DataW Unit} (h : OwnM w b n D) (e : w'.heap[b]? = w.heap[b]?) : OwnM w' b n D := by
  obtain ⟨es, clock, hb, F, hs, hD⟩ := h
  exact ⟨es, clock, e.trans hb, F, hs, hD⟩
/-- A variable that holds a number. -/
abbrev NumIn (w : World) (b : Nat) (c : Int) : Prop := w.heap[b]? = some (.cells #[.int .i64 c] 3 (0, 0))
theorem gap_map {w w1 : World} {o : Obj} {mb : Nat} (hm : mb < w.heap.size) (hg : (w.alloc o).grownBy w1 (some mb)) : Gap mb (mb + 1) w w1 := by
  obtain ⟨h1, h2, h3, h4, h5⟩ := hg
  refine ⟨h1, h2, h3, Nat.le_trans (by simp) h4, fun k hk hc => ?_⟩
  rw [h5 k (by simp; omega) (by simp; omega), Below.heap_alloc _ _ _ hk]
set_option maxHeartbeats 2000000 in
set_option maxRecDepth 100000 in
/-- At a statement of that kind its name is counted. -/
theorem kindHit (h : SH) (v1 v2 v3 v4 v : Value) (w : World) (kb nb mb n : Nat) (D : DataW Unit) (hk : NumIn w kb h.k) (hn : MapAt w nb mb) (hown : OwnM w mb n D) (hnn : n < 10000000) (hs : h.s.size ≤ 10000000) :
    Calls Tryz.prog 119 #[sagg h v1 v2 v3 v4 v, .pointer (some ⟨kb, 0, Option.none⟩), .pointer (some ⟨nb, 0, Option.none⟩)] w fun e w' => e = .returned (.tuple #[]) ∧ (∃ d, OwnM w' mb (n + 1) (D.put (.string h.s.data.toList) d)) ∧ Gap mb (mb + 1) w w' := by
  have c1 : ∀ o, (w.alloc o).cell? ⟨kb, 0, Option.none⟩ = some (.int .i64 h.k) := fun o => cell_of_one ((Below.heap_alloc _ _ kb (lt_of_block hk)).trans hk)
  have c2 : ∀ o, (w.alloc o).cell? ⟨nb, 0, Option.none⟩ = some (.map (some mb)) := fun o => cell_of_one ((Below.heap_alloc _ _ nb (lt_of_block hn)).trans hn)
  have hlt := hown.lt
  have hkey : keyOf Tryz.prog 9 (.string h.s) = some (.string h.s.data.toList) := keyOf_string_mk Tryz.underlying9 (by unfold maxLen; omega)
  have hown1 := hown.alloc (.cells (sarr h v1 v2 v3 v4 v) 120)
  obtain ⟨c, hrun, hat, _⟩ := hown1.lookup_int keyLaw Tryz.underlying151 Tryz.underlying3 (zeroInt _) hkey
  have HO := Lib.hid hown1
  have Hlt := Lib.hid hlt
  clear hk hn hown hat hown1 hlt
  go_enter Tryz.func119, Tryz.ntmps119
  go_wp2_with (first
    | (at_mapUpdate; refine wpList_mapUpdate_own _ rfl _ _ _ 151 rfl 9 3 keyLaw Tryz.underlying151 _ mb n _ rfl HO.out (by unfold maxLen; omega) _ _ _ rfl rfl hkey _ [] (plainElem_int Tryz.underlying3 (wrap64_wf _)) ?_)
    | go_in)
  intro w1 ho1 hg1
  have G := Lib.hid (And.intro (Exists.intro (p := fun d => OwnM w1 mb (n + 1) (D.put (.string h.s.data.toList) d)) _ ho1) (gap_map Hlt.out hg1))
  clear ho1 hg1 hrun c1 c2
  go_wp2
  go_end0
  exact ⟨rfl, G.out.1, G.out.2⟩
set_option maxHeartbeats 2000000 in
set_option maxRecDepth 100000 in
theorem kindMiss (h : SH) (v1 v2 v3 v4 v : Value) (w : World) (kb : Nat) (nb : Nat) (k : Int) (hk : NumIn w kb k) (hne : ¬ h.k = k) :
    Calls Tryz.prog 119 #[sagg h v1 v2 v3 v4 v, .pointer (some ⟨kb, 0, Option.none⟩), .pointer (some ⟨nb, 0, Option.none⟩)] w fun e w' => e = .returned (.tuple #[]) ∧ Below w.heap.size w w' := by
  have c1 : ∀ o, (w.alloc o).cell? ⟨kb, 0, Option.none⟩ = some (.int .i64 k) := fun o => cell_of_one ((Below.heap_alloc _ _ kb (lt_of_block hk)).trans hk)
  have h1 := int_ne hne
  have B := Lib.hid (fun o => alloc_below w o)
  clear hk
  go_enter Tryz.func119, Tryz.ntmps119
  go_wp2
  go_end0
  exact ⟨rfl, B.out _⟩
/-- What of the names is in the map when so many have been gone to. -/
def KM {α : Type} (P : α → Option ByteArray) (vs : List α) (D : DataW Unit) : Prop := ∀ x : List UInt8, has D (.string x) = true ↔ ∃ n ∈ vs, ∃ s, P n = some s ∧ s.data.toList = x
theorem KM.hit {α : Type} {P : α → Option ByteArray} {vs : List α} {D : DataW Unit} {d : DataW Unit} {a : α} {s : ByteArray} (h : KM P vs D) (hD : IsMap D) (ha : P a = some s) : KM P (vs ++ [a]) (D.put (.string s.data.toList) d) := fun x => by
  by_cases hx : x = s.data.toList
  · subst hx
    rw [has_put_same hD (by exact ⟨⟩)]
    simp only [true_iff]
    exact ⟨a, by simp, s, ha, rfl⟩
  · rw [has_put_other (by intro e; injection e with e; exact hx e), h x]
    constructor
    · rintro ⟨n, hn, s', h1, h2⟩; exact ⟨n, by simp [hn], s', h1, h2⟩
    · rintro ⟨n, hn, s', h1, h2⟩
      rcases List.mem_append.1 hn with hn | hn
      · exact ⟨n, hn, s', h1, h2⟩
      · simp only [List.mem_cons, List.not_mem_nil, or_false] at hn
        subst hn
        rw [ha] at h1; injection h1 with h1; subst h1
        exact absurd h2.symm hx
theorem KM.miss {α : Type} {P : α → Option ByteArray} {vs : List α} {D : DataW Unit} {a : α} (h : KM P vs D) (ha : P a = Option.none) : KM P (vs ++ [a]) D := fun x => by
  rw [h x]
  constructor
  · rintro ⟨n, hn, s', h1, h2⟩; exact ⟨n, by simp [hn], s', h1, h2⟩
  · rintro ⟨n, hn, s', h1, h2⟩
    rcases List.mem_append.1 hn with hn | hn
    · exact ⟨n, hn, s', h1, h2⟩
    · simp only [List.mem_cons, List.not_mem_nil, or_false] at hn
      subst hn; rw [ha] at h1; cases h1
theorem own_keys {D : DataW Unit} {w : World} {b n : Nat} (ho : OwnM w b n D) : ∀ x, x ∈ strKeys D ↔ has D (.string x) = true := by
  obtain ⟨es, rfl, hpw⟩ := ho.tidy keyLaw
  obtain ⟨es', e, hko⟩ := ho.keysOf
  injection e with e
  subst e
  have hstr : ∀ p ∈ es, ∃ x, p.1 = Lit.string x := fun p hpm => by
    obtain ⟨key, hk⟩ := hko p hpm
    obtain ⟨x, _, hx, _⟩ := Maps.keyOf_str Tryz.underlying9 hk
    exact ⟨x, hx⟩
  intro x
  rw [has_eq, List.any_eq_true]
  show x ∈ es.map (fun p => strOf p.1) ↔ _
  rw [List.mem_map]
  constructor
  · rintro ⟨p, hp1, hp2⟩
    obtain ⟨y, hy⟩ := hstr p hp1
    refine ⟨p, hp1, ?_⟩
    rw [hy] at hp2 ⊢
    have : y = x := hp2
    subst this
    exact WideAt.sameKey_self (by exact ⟨⟩)
  · rintro ⟨p, hp1, hp2⟩
    exact ⟨p, hp1, by rw [WideAt.sameKey_eq hp2]; rfl⟩
/-- The names of a map in order are just those that were counted. -/
theorem KM.names {α : Type} {P : α → Option ByteArray} {vs : List α} {D : DataW Unit} {w : World} {b n : Nat} {ss : List (List UInt8)} (h : KM P vs D) (ho : OwnM w b n D) (hp : ss.Perm (strKeys D)) : Asc (mapNames ss) ∧ ∀ s, s ∈ mapNames ss ↔ ∃ a ∈ vs, P a = some s := by
  obtain ⟨es, rfl, hpw⟩ := ho.tidy keyLaw
  obtain ⟨es', e, hko⟩ := ho.keysOf
  injection e with e
  subst e
  have hstr : ∀ p ∈ es, ∃ x, p.1 = Lit.string x := fun p hpm => by
    obtain ⟨key, hk⟩ := hko p hpm
    obtain ⟨x, _, hx, _⟩ := Maps.keyOf_str Tryz.underlying9 hk
    exact ⟨x, hx⟩
  have hmem : ∀ x, x ∈ strKeys (.map es : DataW Unit) ↔ has (.map es) (.string x) = true := fun x => by
    rw [has_eq, List.any_eq_true]
    show x ∈ es.map (fun p => strOf p.1) ↔ _
    rw [List.mem_map]
    constructor
    · rintro ⟨p, hp1, hp2⟩
      obtain ⟨y, hy⟩ := hstr p hp1
      refine ⟨p, hp1, ?_⟩
      rw [hy] at hp2 ⊢
      have : y = x := hp2
      subst this
      exact WideAt.sameKey_self (by exact ⟨⟩)
    · rintro ⟨p, hp1, hp2⟩
      exact ⟨p, hp1, by rw [WideAt.sameKey_eq hp2]; rfl⟩
  have hnd : ss.Nodup := hp.symm.nodup (by
    show (es.map fun p => strOf p.1).Nodup
    refine List.pairwise_map.2 (hpw.imp_of_mem fun {p q} hp' hq' hne e => hne ?_)
    obtain ⟨a, ha⟩ := hstr p hp'
    obtain ⟨b, hb⟩ := hstr q hq'
    rw [ha, hb] at e ⊢
    exact congrArg _ e)
  have tr : ∀ a b c : List UInt8, leB a b = true → leB b c = true → leB a c = true := fun a b c h1 h2 => by simp only [leB, decide_eq_true_eq] at *; exact List.le_trans h1 h2
  have tot : ∀ a b : List UInt8, (leB a b || leB b a) = true := fun a b => by simp only [leB, Bool.or_eq_true, decide_eq_true_eq]; exact List.le_total a b
  have hsorted := List.pairwise_mergeSort tr tot ss
  have hnd2 : (ss.mergeSort leB).Nodup := (List.mergeSort_perm ss leB).symm.nodup hnd
  constructor
  · show ((ss.mergeSort leB).map fun l => (⟨l.toArray⟩ : ByteArray)).Pairwise _
    refine List.pairwise_map.2 ((hsorted.and hnd2).imp fun {a b} ⟨h1, h2⟩ => ?_)
    rw [blt_iff]
    simp only [leB, decide_eq_true_eq] at h1
    rcases List.le_iff_lt_or_eq.1 h1 with h3 | h3
    · simpa using h3
    · exact absurd h3 h2
  · intro s
    show s ∈ ((ss.mergeSort leB).map fun l => (⟨l.toArray⟩ : ByteArray)) ↔ _
    rw [List.mem_map]
    constructor
    · rintro ⟨l, hl, rfl⟩
      have := (hmem l).1 (hp.subset ((List.mergeSort_perm ss leB).subset hl))
      obtain ⟨a, ha, s', h1, h2⟩ := (h l).1 this
      refine ⟨a, ha, ?_⟩
      rw [h1]; congr 1
      exact ba_ext (by simpa using h2)
    · rintro ⟨a, ha, h1⟩
      refine ⟨s.data.toList, ?_, by simp⟩
      exact (List.mergeSort_perm ss leB).symm.subset (hp.symm.subset ((hmem _).2 ((h _).2 ⟨a, ha, s, h1, rfl⟩)))
/-- The name of a statement of that kind. -/
def ofKind (k : Int) (n : SN) : Option ByteArray := if n.1.k = k then some n.1.s else Option.none
/-- What the map holds when so many statements have been gone to. -/
def KJ (N : Nat) (k : Int) (vs : List SN) (w' : World) : Prop := ∃ D, OwnM w' (N + 1) vs.length D ∧ KM (ofKind k) vs D ∧ NumIn w' N k ∧ MapAt w' (N + 2) (N + 1)
theorem KJ.quiet (N : Nat) (k : Int) : Quiet N (N + 3) (KJ N k) := fun vs w1 w2 ⟨D, h1, h2, h3, h4⟩ _ hk => ⟨D, h1.block (hk _ (by omega) (by omega)), h2, (hk _ (by omega) (by omega)).trans h3, (hk _ (by omega) (by omega)).trans h4⟩
theorem KJ.step (N : Nat) (k : Int) (vs : List SN) (h : SH) (l : SF) (v1 v2 v3 v4 u : Value) (w : World) (hj : KJ N k vs w) (hl : vs.length < 10000000) (hs : h.s.size ≤ 10000000) :
    Calls Tryz.prog 119 (#[sagg h v1 v2 v3 v4 u] ++ #[.pointer (some ⟨N, 0, Option.none⟩), .pointer (some ⟨N + 2, 0, Option.none⟩)]) w fun e w' => e = .returned (.tuple #[]) ∧ KJ N k (vs ++ [(h, l)]) w' ∧ Gap N (N + 3) w w' := by
  obtain ⟨D, h1, h2, h3, h4⟩ := hj
  by_cases hk : h.k = k
  · subst hk
    refine (kindHit h v1 v2 v3 v4 u w N (N + 2) (N + 1) vs.length D h3 h4 h1 hl hs).mono ?_
    rintro e w' ⟨rfl, ⟨d, ho⟩, hg⟩
    refine ⟨rfl, ⟨_, ?_, h2.hit (d := d) (s := h.s) (h1.tidy keyLaw).isMap (by simp [ofKind]), ?_, ?_⟩, hg.wider (by omega) (by omega)⟩
    · rw [List.length_append]; exact ho
    · exact (hg.block _ (lt_of_block h3) (by omega)).trans h3
    · exact (hg.block _ (lt_of_block h4) (by omega)).trans h4
  · refine (kindMiss h v1 v2 v3 v4 u w N (N + 2) k h3 hk).mono ?_
    rintro e w' ⟨rfl, hb⟩
    refine ⟨rfl, ⟨D, ?_, h2.miss (by simp [ofKind, hk]), ?_, ?_⟩, Gap.of _ _ hb⟩
    · rw [List.length_append]; exact OwnM.block (World.ownsMap.mono h1 (Nat.le_succ _)) (hb.block _ h1.lt)
    · exact (hb.block _ (lt_of_block h3)).trans h3
    · exact (hb.block _ (lt_of_block h4)).trans h4
theorem names_start (w : World) (k : Int) : KJ w.heap.size k [] (((w.alloc (.cells #[.int .i64 k] 3)).alloc (.map #[] 0)).alloc (.cells #[.map (some (w.heap.size + 1))] 151)) ∧
    Below w.heap.size w (((w.alloc (.cells #[.int .i64 k] 3)).alloc (.map #[] 0)).alloc (.cells #[.map (some (w.heap.size + 1))] 151)) := by
  obtain ⟨q0, q1, q2⟩ := heap3 w (.cells #[.int .i64 k] 3) (.map #[] 0) (.cells #[.map (some (w.heap.size + 1))] 151)
  have hb := ((alloc_below w (.cells #[.int .i64 k] 3)).alloc (by simp) (.map #[] 0)).alloc (by simp; omega) (.cells #[.map (some (w.heap.size + 1))] 151)
  refine ⟨⟨.map [], ?_, fun x => by simp [has], q0, q2⟩, hb⟩
  have h := World.ownsMap_made (H := Unit) (w.alloc (.cells #[.int .i64 k] 3)) Tryz.prog 9 (plainElem Tryz.prog 3)
  rw [World.size_alloc] at h
  exact h.alloc _
set_option maxHeartbeats 2000000 in
set_option maxRecDepth 100000 in
theorem namesOfKind_is (F : SF) (hF : snodes F ≤ 10000000) (hs : ∀ n ∈ sall F, n.1.s.size ≤ 10000000) (k : Int) (w : World) (v : Value) (hv : SV w 0 F v) :
    Calls Tryz.prog 81 #[v, .int .i64 k] w fun e w' => ∃ v' ns, e = .returned v' ∧ Asc ns ∧ (∀ s, s ∈ ns ↔ ∃ a ∈ sall F, ofKind k a = some s) ∧ ns.length ≤ 10000000 ∧ w'.ownsRow w.heap.size 9 1 v' ns.length (ns.map Value.string) ∧ Below w.heap.size w w' := by
  have hmf : ∀ (fn : Fn) (first cap : Array Value) (w : World), (Instr.makeFunc fn first cap).run Tryz.prog w = .ok (.func fn first cap) w := fun _ _ _ _ => rfl
  have hmm := @run_makeMap Tryz.prog
  obtain ⟨j0, b0⟩ := names_start w k
  have N0 := Lib.hid (And.intro j0 b0)
  clear j0 b0
  have Hs := Lib.hid hs
  have Hv := Lib.hid (fun (W : World) (hJ : KJ w.heap.size k [] W) (hb : Below w.heap.size w W) (hW : w.heap.size + 3 ≤ W.heap.size) =>
    visitAllS_is F hF w W hb w.heap.size (w.heap.size + 3) (Nat.le_refl _) hW v hv 119 (fun _ _ => rfl) #[.pointer (some ⟨w.heap.size, 0, Option.none⟩), .pointer (some ⟨w.heap.size + 2, 0, Option.none⟩)] (KJ w.heap.size k)
      (KJ.quiet _ _) hJ (fun vs h l v1 v2 v3 v4 u w1 hj _ _ _ _ hm hl => KJ.step _ _ vs h l v1 v2 v3 v4 u w1 hj (by omega) (Hs.out _ hm)))
  clear hs
  go_enter Tryz.func81, Tryz.ntmps81
  go_wp2_with fail
  refine (Hv.out _ N0.out.1 N0.out.2 (by simp)).mono ?_
  rintro e w1 ⟨rfl, ⟨vs, ⟨D, ho, hk, _, hm⟩, hp⟩, hg⟩
  have hB1 := Lib.hid (N0.out.2.trans (hg.below (Nat.le_refl _) N0.out.2.size))
  have hcell := cell_of_one hm
  have hvl : vs.length ≤ 10000000 := by rw [hp.length_eq, sall_len]; exact hF
  have HD := Lib.hid (And.intro ho (And.intro hk hp))
  have hsz : Maps.size D ≤ 10000000 := Nat.le_trans ho.size_le hvl
  have hsm : ∀ x ∈ strKeys D, x.length ≤ 10000000 := fun x hx => by
    obtain ⟨n, hn, s, h1, h2⟩ := (hk x).1 ((own_keys ho x).1 hx)
    have h3 := Hs.out n (hp.subset hn)
    unfold ofKind at h1
    split at h1
    · injection h1 with h1; subst h1; subst h2; exact h3
    · cases h1
  have HS := Lib.hid (And.intro hsz hsm)
  clear ho hk hm hp hg N0 Hv Hs hsz hsm
  go_wp2_with fail
  refine (ascending_is _ _ D w1 HD.out.1 HS.out.1 HS.out.2).mono ?_
  rintro e w2 ⟨v', ss, rfl, hperm, hrow, hb2⟩
  have hB2 := hB1.out.trans (hb2.mono hB1.out.size)
  obtain ⟨a1, a2⟩ := HD.out.2.1.names HD.out.1 hperm
  have hlen : (mapNames ss).length ≤ 10000000 := by rw [mapNames_len, hperm.length_eq]; refine Nat.le_trans ?_ HS.out.1; cases D <;> simp [strKeys, Maps.size]
  have R := Lib.hid (And.intro a1 (And.intro (show ∀ s, s ∈ mapNames ss ↔ ∃ a ∈ sall F, ofKind k a = some s from fun s => (a2 s).trans ⟨fun ⟨a, h1, h2⟩ => ⟨a, HD.out.2.2.subset h1, h2⟩, fun ⟨a, h1, h2⟩ => ⟨a, HD.out.2.2.symm.subset h1, h2⟩⟩) (And.intro hlen (And.intro (ownsRow_base_a hrow hB1.out.size) hB2))))
  clear a1 a2 hlen hrow hb2 hB2 hperm hcell
  go_wp2
  go_ret
  exact ⟨_, mapNames ss, rfl, R.out.1, R.out.2.1, R.out.2.2.1, R.out.2.2.2.1, R.out.2.2.2.2⟩
end Go.Proofs.YtcafpaahbbachabGreat
/-
  The contract of the specification's l4Names, and what its names are.
-/
namespace Go.Proofs.YtcafpaahbbachabGreat
open Go.RowKit Go.Lib
set_option linter.unusedSimpArgs false
set_option linter.unusedVariables false

theorem nmS_names (k : Int) : ∀ (F : SF) (out : List ByteArray), Asc out → Asc (nmS k F out) ∧ ∀ s, s ∈ nmS k F out ↔ (s ∈ out ∨ ∃ a ∈ sall F, ofKind k a = some s)
  | .nil, out, h => ⟨h, fun s => by simp [nmS, sall]⟩
  | .node p q h l r, out, ho => by
    have hput : Asc (if h.k = k then putR h.s false out else out) ∧ ∀ s, s ∈ (if h.k = k then putR h.s false out else out) ↔ (s ∈ out ∨ ofKind k (h, l) = some s) := by
      by_cases hk : h.k = k
      · rw [if_pos hk]
        obtain ⟨i1, i2⟩ := asc_put h.s out ho
        refine ⟨i1, fun s => ?_⟩
        rw [i2 s]
        simp only [ofKind, if_pos hk, Option.some.injEq]
        constructor
        · rintro (e | e)
          · exact .inr e.symm
          · exact .inl e
        · rintro (e | e)
          · exact .inr e
          · exact .inl e.symm
      · rw [if_neg hk]
        refine ⟨ho, fun s => ?_⟩
        simp [ofKind, if_neg hk]
    obtain ⟨l1, l2⟩ := nmS_names k l _ hput.1
    obtain ⟨r1, r2⟩ := nmS_names k r _ l1
    refine ⟨r1, fun s => ?_⟩
    show s ∈ nmS k r (nmS k l _) ↔ _
    rw [r2 s, l2 s, hput.2 s]
    simp only [sall, List.mem_cons, List.mem_append]
    constructor
    · rintro (((e | e) | ⟨a, h1, h2⟩) | ⟨a, h1, h2⟩)
      · exact .inl e
      · exact .inr ⟨_, .inl rfl, e⟩
      · exact .inr ⟨a, .inr (.inl h1), h2⟩
      · exact .inr ⟨a, .inr (.inr h1), h2⟩
    · rintro (e | ⟨a, (rfl | h1 | h1), h2⟩)
      · exact .inl (.inl (.inl e))
      · exact .inl (.inl (.inr h2))
      · exact .inl (.inr ⟨a, h1, h2⟩)
      · exact .inr ⟨a, h1, h2⟩
theorem nmS_len (k : Int) : ∀ (F : SF) (out : List ByteArray), (nmS k F out).length ≤ out.length + snodes F
  | .nil, out => by simp [nmS, snodes]
  | .node p q h l r, out => by
    have h0 : (if h.k = k then putR h.s false out else out).length ≤ out.length + 1 := by split; exact putR_len _ _ _; omega
    have h1 := nmS_len k l (if h.k = k then putR h.s false out else out)
    have h2 := nmS_len k r (nmS k l (if h.k = k then putR h.s false out else out))
    simp only [nmS, snodes]; omega
set_option maxHeartbeats 2000000 in
set_option maxRecDepth 100000 in
theorem l4Names_step (k : Int) (F : SF)
    (ih : ∀ l : SF, snodes l < snodes F → ∀ (out : List ByteArray) (w : World) (vo v : Value), out.length + snodes l ≤ 10000000 → TV w 0 vo out → SV w 0 l v → Calls Tryz.prog 67 #[vo, v, .int .i64 k] w fun e w' => ∃ v', e = .returned v' ∧ TV w' 0 v' (nmS k l out) ∧ Below w.heap.size w w')
    (out : List ByteArray) (w : World) (vo v : Value) (hN : out.length + snodes F ≤ 10000000) (ho : TV w 0 vo out) (hv : SV w 0 F v) :
    Calls Tryz.prog 67 #[vo, v, .int .i64 k] w fun e w' => ∃ v', e = .returned v' ∧ TV w' 0 v' (nmS k F out) ∧ Below w.heap.size w w' := by
  obtain ⟨b, o, ao, cap, rfl, hao, _, hin⟩ := hv
  have Hih := Lib.hid ih
  have hlenF := slen_le F
  clear ih
  go_enter Tryz.func67, Tryz.ntmps67
  go_wp2
  go_loopw [0, 7] (fun x i wr => ∃ (R : SF) (j : Nat) (os : List ByteArray), i = .int .i64 (j : Int) ∧ TV wr 0 x os ∧ Hid (j + slen R = slen F ∧ os.length + snodes R ≤ out.length + snodes F ∧ snodes R ≤ snodes F ∧ nmS k R os = nmS k F out ∧ SIn w 0 R b (o + j * 19)) ∧ Below w.heap.size w wr) (fun _ i _ => slen F - (RowKit.intOf i).toNat)
  case atStart => exact ⟨F, 0, out, rfl, ho, ⟨by omega, by omega, by omega, rfl, by simpa using hin⟩, Below.refl _ _⟩
  case round =>
    obtain ⟨R, j, os, rfl, hos, hr, hbw⟩ := hrel
    obtain ⟨e1, e2, e3, e4, e5⟩ := hr.out
    obtain ⟨oa, oc, rfl⟩ := hos.shape
    clear ho
    cases R with
    | nil =>
      have hk : ¬ (j : Int) < (slen F : Int) := by simp only [slen] at e1; omega
      have E := Lib.hid (show os = nmS k F out from e4)
      clear hr e4
      go_wp2
      go_ret
      exact ⟨_, rfl, by rw [← E.out]; exact hos, hbw⟩
    | node p q h l r =>
      have hlt : (j : Int) < (slen F : Int) := by simp only [slen] at e1; omega
      have hne : ¬ F = .nil := by intro e; subst e; simp only [slen] at e1; omega
      obtain rfl : ao = some ⟨b, o, Option.none⟩ := hao.resolve_right hne
      have hsc0 := (SIn_node.1 e5).1
      have hr0 := (SIn_node.1 e5).2
      obtain ⟨c0, c1, _, _, _, _, u, c18, hu⟩ := SC.later hsc0 hbw
      simp only [snodes] at e2 e3
      have Hl := Lib.hid (Hih.out l (by omega))
      have HU := Lib.hid (And.intro hu hos)
      have Hsc := Lib.hid hsc0
      have He : Hid (j + 1 + slen r = slen F ∧ snodes r ≤ snodes F ∧ SIn w 0 r b (o + (j + 1) * 19) ∧ os.length + (snodes l + snodes r + 1) ≤ out.length + snodes F ∧ nmS k r (nmS k l (if h.k = k then putR h.s false os else os)) = nmS k F out) :=
        ⟨by simp only [slen] at e1; omega, by omega, by rw [show o + (j + 1) * 19 = o + j * 19 + 19 by omega]; exact hr0, by omega, e4⟩
      clear hr e1 e2 e3 e4 e5 hin hne hao hu hos hr0 hsc0
      by_cases hk : h.k = k
      · have Hk : Hid ((if h.k = k then putR h.s false os else os) = putR h.s false os) := if_pos hk
        subst hk
        go_wp2_with fail
        refine (l4Put_is os (by have := He.out; omega) h.s _ _ HU.out.2).mono ?_
        rintro e w1 ⟨v1, rfl, hv1, hb1⟩
        have hbw1 := hbw.trans (hb1.mono hbw.size)
        obtain ⟨_, _, _, _, _, _, u', c18', hu'⟩ := SC.later Hsc.out hbw1
        have hl1 := putR_len h.s false os
        have HV1 := Lib.hid (And.intro hv1.low hu')
        obtain ⟨x1, y1, rfl⟩ := hv1.shape
        clear hv1 hb1 hu' c0 c1 c18 hbw
        go_wp2_with fail
        refine (Hl.out (putR h.s false os) _ _ _ (by have := He.out; omega) HV1.out.1 HV1.out.2).mono ?_
        rintro e w2 ⟨v2, rfl, hv2, hb2⟩
        have hbw2 := hbw1.trans (hb2.mono hbw1.size)
        have hl2 := nmS_len h.k l (putR h.s false os)
        have HV2 := Lib.hid hv2
        clear hv2 hb2 c18' hbw1
        go_wp2
        go_roundw
        case rel =>
          have E := He.out
          rw [Hk.out] at E
          exact ⟨r, j + 1, nmS h.k l (putR h.s false os), by go_num, HV2.out, ⟨E.1, by omega, E.2.1, E.2.2.2.2, E.2.2.1⟩, hbw2⟩
        case measure => simp [RowKit.intOf]; omega
      · have Hk : Hid ((if h.k = k then putR h.s false os else os) = os) := if_neg hk
        have hne := int_ne hk
        go_wp2_with fail
        refine (Hl.out os _ _ _ (by have := He.out; omega) HU.out.2 HU.out.1).mono ?_
        rintro e w2 ⟨v2, rfl, hv2, hb2⟩
        have hbw2 := hbw.trans (hb2.mono hbw.size)
        have hl2 := nmS_len k l os
        have HV2 := Lib.hid hv2
        clear hv2 hb2 c0 c1 c18 hbw
        go_wp2
        go_roundw
        case rel =>
          have E := He.out
          rw [Hk.out] at E
          exact ⟨r, j + 1, nmS k l os, by go_num, HV2.out, ⟨E.1, by omega, E.2.1, E.2.2.2.2, E.2.2.1⟩, hbw2⟩
        case measure => simp [RowKit.intOf]; omega
theorem l4Names_all (k : Int) : ∀ (n : Nat) (F : SF), snodes F < n → ∀ (out : List ByteArray) (w : World) (vo v : Value), out.length + snodes F ≤ 10000000 → TV w 0 vo out → SV w 0 F v → Calls Tryz.prog 67 #[vo, v, .int .i64 k] w fun e w' => ∃ v', e = .returned v' ∧ TV w' 0 v' (nmS k F out) ∧ Below w.heap.size w w'
  | 0, _, h, _, _, _, _, _, _, _ => absurd h (by omega)
  | n + 1, F, h, out, w, vo, v, hN, ho, hv => l4Names_step k F (fun l hl out w vo v hN ho hv => l4Names_all k n l (by omega) out w vo v hN ho hv) out w vo v hN ho hv
theorem l4Names_is (k : Int) (F : SF) (out : List ByteArray) (w : World) (vo v : Value) (hN : out.length + snodes F ≤ 10000000) (ho : TV w 0 vo out) (hv : SV w 0 F v) :
    Calls Tryz.prog 67 #[vo, v, .int .i64 k] w fun e w' => ∃ v', e = .returned v' ∧ TV w' 0 v' (nmS k F out) ∧ Below w.heap.size w w' := l4Names_all k _ F (Nat.lt_succ_self _) out w vo v hN ho hv
end Go.Proofs.YtcafpaahbbachabGreat
