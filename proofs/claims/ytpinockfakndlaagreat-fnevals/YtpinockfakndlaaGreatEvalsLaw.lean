import Derived.Test.YtpinockfakndlaaGreatZp
import Derived.Test.YtpinockfakndlaaGreatP32ofFnEvals
import Derived.Test.YtpinockfakndlaaGreatP33ofFnEvals
import Derived.Test.YtpinockfakndlaaGreatP34ofFnEvals
import Derived.Test.YtpinockfakndlaaGreatP37ofFnEvals
import Derived.Test.YtpinockfakndlaaGreatP36ofFnEvals
import Derived.Test.YtpinockfakndlaaGreatP27ofFnEvals
import Derived.Test.YtpinockfakndlaaGreatP31ofFnEvals
import Derived.Test.YtpinockfakndlaaGreatP38ofFnEvals
import Derived.Deep.RegionHeld
namespace Go.Proofs.YtpinockfakndlaaGreat
open Go.RowKit Go.Lib
set_option linter.unusedSimpArgs false
set_option linter.unusedVariables false
theorem lt_of_heap7 {w : World} {g : Nat} {o : Obj} (h : w.heap[g]? = some o) : g < w.heap.size := (Array.getElem?_eq_some_iff.1 h).1
theorem heap_b7 {A B : World} {b : Nat} {x : Obj} (h : A.heap[b]? = some x) (hb : Below A.heap.size A B) : B.heap[b]? = some x := (hb.block b (lt_of_heap7 h)).trans h
theorem heap_last7 (w : World) (o : Obj) : (w.alloc o).heap[w.heap.size]? = some o := by show (w.heap.push o)[w.heap.size]? = _; simp
theorem heap37 (w : World) (a b c : Obj) : (((w.alloc a).alloc b).alloc c).heap[w.heap.size]? = some a ∧ (((w.alloc a).alloc b).alloc c).heap[w.heap.size + 1]? = some b ∧ (((w.alloc a).alloc b).alloc c).heap[w.heap.size + 1 + 1]? = some c := heap3 w a b c
theorem alloc37 (w : World) (a b c : Obj) : Below w.heap.size w (((w.alloc a).alloc b).alloc c) := ((aB w _).alloc (by simp) _).alloc (by simp; omega) _
theorem valR7 (o : Option Int) : ∃ n b, valR o = .returned (.tuple #[.int .i64 n, .bool b]) ∧ (b = true ∨ (b = false ∧ n = 0)) := by
  cases o with
  | none => exact ⟨0, false, rfl, .inr ⟨rfl, rfl⟩⟩
  | some n => exact ⟨n, true, rfl, .inl rfl⟩
theorem inner7 (ts : List AR) (F : SF) (hin : asize ts + ssize F ≤ 1048576) : StoL (zrows ts) (List.replicate (nmS 1 F []).length 0) [] ∧ 1 + (totA (zrows ts) + (List.replicate (nmS 1 F []).length (0 : Int)).length + ([] : List Int).length) ≤ 20000000 ∧ 1 + 2 * (ts.length : Int) + (smk F : Int) ≤ 20000000 ∧
      (∀ w va vb, AV w 0 va ts → SV w 0 F vb → Calls Tryz.prog 20 #[.agg #[va, vb]] w (SpecSto w (zrows ts) (List.replicate (nmS 1 F []).length 0) [] 0)) ∧
      (∀ w va vb, AV w 0 va ts → SV w 0 F vb → Calls Tryz.prog 19 #[.agg #[va, vb]] w (OutSto w (zrows ts) (List.replicate (nmS 1 F []).length 0) [] 0)) := by
  have kn : ts.length + ssize F ≤ 1048576 := by unfold asize at hin; omega
  have h2 := snodes_le F
  have h3 := smk_le F
  have h4 := totA_zrows ts
  have hlen : (nmS 1 F []).length ≤ ssize F := by
    have h1 := nmS_len 1 F []
    simp only [List.length_nil] at h1
    omega
  have hz : (zrows ts).length = ts.length := by simp [zrows]
  have hsmall : ∀ n ∈ sall F, n.1.s.size ≤ 10000000 := fun n hn => Nat.le_trans (sall_small F n hn) (by omega)
  refine ⟨⟨by omega, fun xs hx => ?_, by simp; omega, by simp⟩, by simp; omega, by omega, fun w va vb ha hb => ?_, fun w va vb ha hb => ?_⟩
  · simp only [zrows, List.mem_map] at hx
    obtain ⟨t, _, rfl⟩ := hx
    exact Nat.le_trans (nz_len _) (by omega)
  · refine (spec_StoNew ts F (nmS 1 F []).length (by omega) (by omega) va vb w ha hb (fun w v hv => ?_)).mono fun e w' h => h.out.spec
    refine (spec_VarsOf F (by omega) w v hv).mono ?_
    rintro e w' ⟨u, rfl, h1, h2⟩
    obtain ⟨a, c, rfl⟩ := h1.shape
    exact ⟨a, c, rfl, h2⟩
  · refine (impl_StoNew ts F (nmS 1 F []).length (by omega) (by omega) va vb w ha hb (fun w v hv => ?_)).mono fun e w' h => h.out
    refine (impl_VarsOf F (by omega) hsmall w v hv).mono ?_
    rintro e w' ⟨u, rfl, h1, h2⟩
    obtain ⟨a, c, rfl⟩ := (TV.of h1).shape
    exact ⟨a, c, rfl, h2⟩
set_option maxHeartbeats 8000000 in
set_option maxRecDepth 100000 in
theorem evals_walk (a : Option Addr) (len cap : Nat) (w : World) (hC : CodeIs w.heap.size w a len) :
    Calls Tryz.prog 4 #[.slice a len cap] w fun e w' => e = .returned (.bool true) ∧ Below w.heap.size w w' := by
  have HC := hid hC
  clear hC
  go_enter Tryz.func4, Tryz.ntmps4
  go_wp2_with fail
  refine (big_is a len cap _).mono ?_
  rintro e w0 ⟨rfl, rfl⟩
  by_cases hbig : (1048576 : Int) < (len : Int)
  · have hb1 : decide ((1048576 : Int) < (len : Int)) = true := decide_eq_true hbig
    rw [hb1]
    go_wp2
    go_ret
    exact ⟨rfl, Below.refl _ _⟩
  have hb1 : decide ((1048576 : Int) < (len : Int)) = false := decide_eq_false hbig
  rw [hb1]
  have hlen : len ≤ 281474976710656 := by omega
  clear hb1 hbig
  have LO := hid (Below.refl w.heap.size w)
  go_wp2_with fail
  refine (DrawEval_is a len cap _ hlen HC.out).mono ?_
  rintro e w1 ⟨ts, F, rs, V, bs, x, va, vb, ua, v, bv, u, rfl, ev, el, hb⟩
  rw [show (xC x u).toArray = #[.int .i64 x.h.k, .int .i64 x.h.n, .string x.h.s, u] from rfl]
  have sv := ev.s.stoV
  obtain ⟨p1, p2, rfl⟩ := ev.p.shape
  obtain ⟨p3, p4, rfl⟩ := ev.f.shape
  obtain ⟨p5, p6, h5⟩ := sv.a.shape
  rw [List.length_map] at h5
  subst h5
  obtain ⟨p7, p8, hv7⟩ := sv.v.shape
  have hv7 : v = .slice p7 V.length p8 := hv7
  subst hv7
  obtain ⟨p9, p10, rfl⟩ := ev.b.shape
  obtain ⟨p11, p12, rfl⟩ := ev.e.shape
  have LO_1 := hid (LO.out.trans (hb.mono LO.out.size))
  clear LO 
  have EV1 := hid ev
  have SV1 := hid sv
  have EL := hid el
  clear hb ev sv el
  have ba := alloc37 w1 (.cells #[.slice p1 ts.length p2, .slice p3 (slen F) p4] 27) (.cells #[.slice p5 rs.length p6, .slice p7 V.length p8, .slice Option.none 0 0, .int .i64 0] 33) (.cells #[.int .i64 x.h.k, .int .i64 x.h.n, .string x.h.s, .slice p11 (elen x.l) p12] 43)
  obtain ⟨q0, q1, q2⟩ := heap37 w1 (.cells #[.slice p1 ts.length p2, .slice p3 (slen F) p4] 27) (.cells #[.slice p5 rs.length p6, .slice p7 V.length p8, .slice Option.none 0 0, .int .i64 0] 33) (.cells #[.int .i64 x.h.k, .int .i64 x.h.n, .string x.h.s, .slice p11 (elen x.l) p12] 43)
  obtain ⟨⟨y0, y1⟩, _⟩ := blk2 q0
  obtain ⟨⟨y2, y3, y4, y5⟩, _⟩ := blk4 q1
  obtain ⟨⟨y6, y7, y8, y9⟩, _⟩ := blk4 q2
  obtain ⟨W1, hW1⟩ : ∃ W, Hid (W = ((w1.alloc (.cells #[.slice p1 ts.length p2, .slice p3 (slen F) p4] 27)).alloc (.cells #[.slice p5 rs.length p6, .slice p7 V.length p8, .slice Option.none 0 0, .int .i64 0] 33)).alloc (.cells #[.int .i64 x.h.k, .int .i64 x.h.n, .string x.h.s, .slice p11 (elen x.l) p12] 43)) := ⟨_, rfl⟩
  rw [← hW1.out] at ba q0 q1 q2
  go_wp2_with fail
  rw [← hW1.out]
  have EV1_2 := hid (EV1.out.later ba)
  have SV1_2 := hid (SV1.out.later ba)
  have LO_2 := hid (LO_1.out.trans (ba.mono LO_1.out.size))
  clear LO_1 y0 y1 y2 y3 y4 y5 y6 y7 y8 y9 EV1 SV1
  have BP := hid q0
  have BS := hid q1
  have BE := hid q2
  clear ba q0 q1 q2 hW1
  have hRL : RL ts (nmS 1 F []) (rs.map (·.2)) V bs := ⟨by have := EL.out.t; omega, by have h1 := nmS_len 1 F []; have h2 := snodes_le F; have h3 := EL.out.f; have h4 := limP_leE; simp only [List.length_nil] at h1; omega, by have := EL.out.r; simp; omega, fun xs hx => by obtain ⟨r, hr, rfl⟩ := List.mem_map.1 hx; have := EL.out.l r hr; omega, by have := EL.out.v; omega, by have := EL.out.b; omega⟩
  have HRL := hid hRL
  have hF : ssize F ≤ 10000 := Nat.le_trans EL.out.f limP_leE
  have HF := hid hF
  obtain ⟨n, b, hnb, hz⟩ := valR7 (evalP ts (nmS 1 F []) (rs.map (·.2)) V bs x)
  have HNB := hid hnb
  have HZ := hid hz
  have hxs : Hid (xsize x ≤ 1048576) := show _ ≤ _ from Nat.le_trans EL.out.x (by decide)
  clear hRL hF hnb hz
  refine (impl_Eval ts F (nmS 1 F []) (rs.map (·.2)) V [] bs x HRL.out (by simp) hxs.out _ _ _ _ _ _ _ 0 _ EV1_2.out.p.low EV1_2.out.f.low SV1_2.out EV1_2.out.b.low EV1_2.out.e.low (fun w v hv => (impl_VarsOf F (by have h1 := snodes_le F; have h2 := HF.out; omega) (fun n hn => Nat.le_trans (sall_small F n hn) (by have := HF.out; omega)) w v hv).mono fun e w' ⟨u, h1, h2, h3⟩ => ⟨u, h1, (TV.of h2).low, h3⟩)).mono ?_
  rintro e w2 ⟨he, hb⟩
  rw [HNB.out] at he
  subst he
  have EV1_3 := hid (EV1_2.out.later hb)
  have SV1_3 := hid (SV1_2.out.later hb)
  have LO_3 := hid (LO_2.out.trans (hb.mono LO_2.out.size))
  have BP_3 := hid (heap_b7 BP.out hb)
  have BS_3 := hid (heap_b7 BS.out hb)
  have BE_3 := hid (heap_b7 BE.out hb)
  clear LO_2 BP BS BE hb EV1_2 SV1_2
  obtain ⟨⟨y0, y1⟩, _⟩ := blk2 BP_3.out
  obtain ⟨⟨y2, y3, y4, y5⟩, _⟩ := blk4 BS_3.out
  obtain ⟨⟨y6, y7, y8, y9⟩, _⟩ := blk4 BE_3.out
  go_wp2_with fail
  refine (spec_Eval ts F (nmS 1 F []) (rs.map (·.2)) V [] bs x HRL.out (by simp) hxs.out _ _ _ _ _ _ _ 0 _ EV1_3.out.p.low EV1_3.out.f.low SV1_3.out EV1_3.out.b.low EV1_3.out.e.low (fun w v hv => spec_VarsOf F (by have h1 := snodes_le F; have h2 := HF.out; omega) w v hv)).mono ?_
  rintro e w3 ⟨he, hb⟩
  rw [HNB.out] at he
  subst he
  have EV1_4 := hid (EV1_3.out.later hb)
  have SV1_4 := hid (SV1_3.out.later hb)
  have LO_4 := hid (LO_3.out.trans (hb.mono LO_3.out.size))
  have BP_4 := hid (heap_b7 BP_3.out hb)
  have BS_4 := hid (heap_b7 BS_3.out hb)
  have BE_4 := hid (heap_b7 BE_3.out hb)
  clear LO_3 BP_3 BS_3 BE_3 hb y0 y1 y2 y3 y4 y5 y6 y7 y8 y9 EV1_3 SV1_3
  clear EV1_4
  clear SV1_4
  clear BP_4
  clear BS_4
  clear BE_4
  go_wp2_with fail
  refine (DrawStoNew_is a len cap _ hlen ((HC.out.later LO_4.out).mono LO_4.out.size)).mono ?_
  rintro e w4 ⟨us, G, vc, vd, rfl, h1, h2, l1, l2, l3, hb⟩
  obtain ⟨r1, r2, rfl⟩ := h1.shape
  obtain ⟨r3, r4, rfl⟩ := h2.shape
  have LO_5 := hid (LO_4.out.trans (hb.mono LO_4.out.size))
  clear LO_4 
  have A2 := hid h1
  have F2 := hid h2
  have hin : asize us + ssize G ≤ 1048576 := by
    have : ∀ l : List AR, (∀ t ∈ l, t.s.size ≤ 6) → abytes l ≤ 6 * l.length := by
      intro l
      induction l with
      | nil => intro _; simp [abytes]
      | cons t l ih => intro h; have h1 := h t (by simp); have h2 := ih (fun u hu => h u (by simp [hu])); simp only [abytes, List.length_cons]; omega
    have := this us l2
    unfold asize; omega
  have hI := inner7 us G hin
  obtain ⟨AZ, VZ, hAl, hV0, hI⟩ : ∃ (AZ : List (List Int)) (VZ : List Int), AZ.length = us.length ∧ (∀ t ∈ VZ, t = 0) ∧ StoL AZ VZ [] ∧ (∀ w va vb, AV w 0 va us → SV w 0 G vb → Calls Tryz.prog 20 #[.agg #[va, vb]] w (SpecSto w AZ VZ [] 0)) ∧ (∀ w va vb, AV w 0 va us → SV w 0 G vb → Calls Tryz.prog 19 #[.agg #[va, vb]] w (OutSto w AZ VZ [] 0)) :=
    ⟨_, _, by simp [zrows], fun t ht => List.eq_of_mem_replicate ht, hI.1, hI.2.2.2⟩
  have HIN := hid hI
  have HV0 := hid hV0
  clear hb h1 h2 l1 l2 l3 hin hI hV0
  have ba := aB w4 (.cells #[.slice r1 us.length r2, .slice r3 (slen G) r4] 27)
  have hh := heap_last7 w4 (.cells #[.slice r1 us.length r2, .slice r3 (slen G) r4] 27)
  obtain ⟨⟨y0, y1⟩, _⟩ := blk2 hh
  obtain ⟨W4, hW4⟩ : ∃ W, Hid (W = w4.alloc (.cells #[.slice r1 us.length r2, .slice r3 (slen G) r4] 27)) := ⟨_, rfl⟩
  rw [← hW4.out] at ba hh
  go_wp2_with fail
  rw [← hW4.out]
  have A2_6 := hid (A2.out.later ba)
  have F2_6 := hid (F2.out.later ba)
  have LO_6 := hid (LO_5.out.trans (ba.mono LO_5.out.size))
  clear LO_5 y0 y1 A2 F2
  have B11 := hid hh
  clear ba hh hW4
  refine (HIN.out.2.2 _ _ _ A2_6.out.low F2_6.out.low).mono ?_
  rintro e w5 ⟨xa, xv, xo, xr, rfl, hxr, hx, hb⟩
  have sx0 := hx.stoV
  rw [hxr] at sx0
  have sx : StoV w5 xa xv xo AZ VZ [] := sx0
  clear sx0
  obtain ⟨s1, s2, hs⟩ := sx.a.shape
  rw [hAl] at hs
  subst hs
  obtain ⟨s3, s4, rfl⟩ := sx.v.shape
  obtain ⟨s5, s6, h6⟩ := sx.o.shape
  have h6 : xo = .slice s5 0 s6 := h6
  subst h6
  have A2_7 := hid (A2_6.out.later hb)
  have F2_7 := hid (F2_6.out.later hb)
  have LO_7 := hid (LO_6.out.trans (hb.mono LO_6.out.size))
  have B11_7 := hid (heap_b7 B11.out hb)
  clear LO_6 B11 A2_6 F2_6
  have SX := hid sx
  have HAl := hid hAl
  clear hb sx hx hxr hAl
  have ba := aB w5 (.cells #[.slice s1 us.length s2, .slice s3 VZ.length s4, .slice s5 0 s6, .int .i64 0] 33)
  have hh := heap_last7 w5 (.cells #[.slice s1 us.length s2, .slice s3 VZ.length s4, .slice s5 0 s6, .int .i64 0] 33)
  go_wp2_with fail
  obtain ⟨wz, Wz⟩ : ∃ W, Hid (W = (w5.alloc (.cells #[.slice s1 us.length s2, .slice s3 VZ.length s4, .slice s5 0 s6, .int .i64 0] 33)).drew) := ⟨_, rfl⟩
  have bd : Below (w5.alloc (.cells #[.slice s1 us.length s2, .slice s3 VZ.length s4, .slice s5 0 s6, .int .i64 0] 33)).heap.size (w5.alloc (.cells #[.slice s1 us.length s2, .slice s3 VZ.length s4, .slice s5 0 s6, .int .i64 0] 33)) wz := by rw [Wz.out]; exact (Below.refl _ _).drew
  have hh2 := heap_b7 hh bd
  have ba2 := ba.trans (bd.mono ba.size)
  have bz : Below wz.heap.size wz wz := Below.refl _ _
  refine wp_region_held_drew (S := Below wz.heap.size wz) (by kernel_rfl) (by rw [← Wz.out]; exact bz) (fun hHeld => ?_)
  rw [← Wz.out] at hHeld ⊢
  have A2_8 := hid (A2_7.out.later ba2)
  have F2_8 := hid (F2_7.out.later ba2)
  have SX_8 := hid (SX.out.later ba2)
  have LO_8 := hid (LO_7.out.trans (ba2.mono LO_7.out.size))
  have B11_8 := hid (heap_b7 B11_7.out ba2)
  clear LO_7 B11_7 A2_7 F2_7 SX
  have B12 := hid hh2
  clear ba hh hh2 ba2 bd Wz bz
  refine wpAnyH_take (i := 0) (v := .bool b) rfl (by kernel_rfl) (by kernel_rfl) (by kernel_rfl) (fun _ _ _ => id) (Or.inl ⟨by rfl, ?yz0⟩) hHeld ?_
  case yz0 => intro w hSw; go_simp
  simp only [Act.put, zp]
  refine wpAnyH_take (i := 1) (v := .bool b) rfl (by kernel_rfl) (by kernel_rfl) (by kernel_rfl) (fun _ _ _ => id) (Or.inl ⟨by rfl, ?yz1⟩) hHeld ?_
  case yz1 => intro w hSw; go_simp
  simp only [Act.put, zp]
  refine wpAnyH_take (i := 2) (v := .bool false) rfl (by kernel_rfl) (by kernel_rfl) (by kernel_rfl) (fun _ _ _ => id) (Or.inl ⟨by rfl, ?yz2⟩) hHeld ?_
  case yz2 => intro w hSw; go_simp
  simp only [Act.put, zp]
  refine wpAnyH_take (i := 3) (v := .bool false) rfl (by kernel_rfl) (by kernel_rfl) (by kernel_rfl) (fun _ _ _ => id) (Or.inl ⟨by rfl, ?yz3⟩) hHeld ?_
  case yz3 => intro w hSw; go_simp
  simp only [Act.put, zp]
  refine wpAnyH_take (i := 4) (v := .int .i64 n) rfl (by kernel_rfl) (by kernel_rfl) (by kernel_rfl) (fun _ _ _ => id) (Or.inl ⟨by rfl, ?yz4⟩) hHeld ?_
  case yz4 => intro w hSw; go_simp
  simp only [Act.put, zp]
  refine wpAnyH_take (i := 5) (v := .int .i64 n) rfl (by kernel_rfl) (by kernel_rfl) (by kernel_rfl) (fun _ _ _ => id) (Or.inl ⟨by rfl, ?yz5⟩) hHeld ?_
  case yz5 => intro w hSw; go_simp
  simp only [Act.put, zp]
  refine wpAnyH_take (i := 6) (v := .bool false) rfl (by kernel_rfl) (by kernel_rfl) (by kernel_rfl) (fun _ _ _ => id) (Or.inl ⟨by rfl, ?yz6⟩) hHeld ?_
  case yz6 => intro w hSw; go_simp
  simp only [Act.put, zp]
  refine wpAnyH_take (i := 7) (v := .bool false) rfl (by kernel_rfl) (by kernel_rfl) (by kernel_rfl) (fun _ _ _ => id) (Or.inl ⟨by rfl, ?yz7⟩) hHeld ?_
  case yz7 => intro w hSw; go_simp
  simp only [Act.put, zp]
  refine wpAnyH_take (i := 8) (v := .bool false) rfl (by kernel_rfl) (by kernel_rfl) (by kernel_rfl) (fun _ _ _ => id) (Or.inl ⟨by rfl, ?yz8⟩) hHeld ?_
  case yz8 => intro w hSw; go_simp
  simp only [Act.put, zp]
  refine wpAnyH_take (i := 9) (v := .agg #[.slice s1 us.length s2, .slice s3 VZ.length s4, .slice s5 0 s6, .int .i64 0]) rfl (by kernel_rfl) (by kernel_rfl) (by kernel_rfl) (fun _ _ _ => id) (Or.inl ⟨by rfl, ?yz9⟩) hHeld ?_
  case yz9 => intro w hSw; obtain ⟨⟨j0, j1, j2, j3⟩, _⟩ := blk4 ((hSw.block _ (lt_of_heap7 B12.out)).trans B12.out); go_simp
  simp only [Act.put, zp]
  refine wpAnyH_take (i := 10) (v := .agg #[.slice r1 us.length r2, .slice r3 (slen G) r4]) rfl (by kernel_rfl) (by kernel_rfl) (by kernel_rfl) (fun _ _ _ => id) (Or.inl ⟨by rfl, ?yz10⟩) hHeld ?_
  case yz10 => intro w hSw; obtain ⟨⟨j0, j1⟩, _⟩ := blk2 ((hSw.block _ (lt_of_heap7 B11_8.out)).trans B11_8.out); go_simp
  simp only [Act.put, zp]
  refine wpAnyH_ready (rs := [11]) (by kernel_rfl) (by simp) ?_
  refine AllReadyH.cons rfl (fun K hK => ?_) AllReadyH.nil
  rw [if_pos (by rfl)]
  simp only [zq]
  go_wp2_with fail
  refine (HIN.out.2.1 _ _ _ (A2_8.out.later hHeld).low (F2_8.out.later hHeld).low).mono ?_
  rintro e v1 ⟨ka, kv, ko, rfl, hk7, hb5⟩
  have SX1 := hid (SX_8.out.later (hHeld.trans (hb5.mono hHeld.size)))
  go_wp2_with fail
  refine hK.out _ _ (hHeld.trans (hb5.mono hHeld.size)) (fun hHeld => ?_)
  refine wpAnyH_ready (rs := [12]) (by kernel_rfl) (by simp) ?_
  refine AllReadyH.cons rfl (fun K hK => ?_) AllReadyH.nil
  rw [if_pos (by rfl)]
  simp only [zq]
  go_wp2_with fail
  refine (sameSto_law AZ VZ [] 0 HIN.out.1 _ _ _ _ _ _ _ SX1.out hk7).mono ?_
  rintro e v2 ⟨rfl, hb5⟩
  go_wp2_with fail
  refine hK.out _ _ (hHeld.trans (hb5.mono hHeld.size)) (fun hHeld => ?_)
  refine wpAnyH_take (i := 13) (v := .bool false) rfl (by kernel_rfl) (by kernel_rfl) (by kernel_rfl) (fun _ _ _ => id) (Or.inl ⟨by rfl, ?yz13⟩) hHeld ?_
  case yz13 => intro w hSw; go_simp
  simp only [Act.put, zp]
  refine wpAnyH_take (i := 14) (v := .bool false) rfl (by kernel_rfl) (by kernel_rfl) (by kernel_rfl) (fun _ _ _ => id) (Or.inl ⟨by rfl, ?yz14⟩) hHeld ?_
  case yz14 => intro w hSw; go_simp
  simp only [Act.put, zp]
  refine wpAnyH_take (i := 15) (v := .bool false) rfl (by kernel_rfl) (by kernel_rfl) (by kernel_rfl) (fun _ _ _ => id) (Or.inl ⟨by rfl, ?yz15⟩) hHeld ?_
  case yz15 => intro w hSw; go_simp
  simp only [Act.put, zp]
  refine wpAnyH_take (i := 16) (v := .pointer (some ⟨w5.heap.size, 0, Option.none⟩)) rfl (by kernel_rfl) (by kernel_rfl) (by kernel_rfl) (fun _ _ _ => id) (Or.inl ⟨by rfl, ?yz16⟩) hHeld ?_
  case yz16 => intro w hSw; go_simp
  simp only [Act.put, zp]
  refine wpAnyH_take (i := 17) (v := .slice s1 us.length s2) rfl (by kernel_rfl) (by kernel_rfl) (by kernel_rfl) (fun _ _ _ => id) (Or.inl ⟨by rfl, ?yz17⟩) hHeld ?_
  case yz17 => intro w hSw; obtain ⟨⟨j0, j1, j2, j3⟩, _⟩ := blk4 ((hSw.block _ (lt_of_heap7 B12.out)).trans B12.out); go_simp
  simp only [Act.put, zp]
  refine wpAnyH_take (i := 18) (v := .int .i64 (us.length : Int)) rfl (by kernel_rfl) (by kernel_rfl) (by kernel_rfl) (fun _ _ _ => id) (Or.inl ⟨by rfl, ?yz18⟩) hHeld ?_
  case yz18 => intro w hSw; go_simp
  simp only [Act.put, zp]
  refine wpAnyH_take (i := 19) (v := .pointer (some ⟨w4.heap.size, 0, Option.none⟩)) rfl (by kernel_rfl) (by kernel_rfl) (by kernel_rfl) (fun _ _ _ => id) (Or.inl ⟨by rfl, ?yz19⟩) hHeld ?_
  case yz19 => intro w hSw; go_simp
  simp only [Act.put, zp]
  refine wpAnyH_take (i := 20) (v := .slice r1 us.length r2) rfl (by kernel_rfl) (by kernel_rfl) (by kernel_rfl) (fun _ _ _ => id) (Or.inl ⟨by rfl, ?yz20⟩) hHeld ?_
  case yz20 => intro w hSw; obtain ⟨⟨j0, j1⟩, _⟩ := blk2 ((hSw.block _ (lt_of_heap7 B11_8.out)).trans B11_8.out); go_simp
  simp only [Act.put, zp]
  refine wpAnyH_take (i := 21) (v := .int .i64 (us.length : Int)) rfl (by kernel_rfl) (by kernel_rfl) (by kernel_rfl) (fun _ _ _ => id) (Or.inl ⟨by rfl, ?yz21⟩) hHeld ?_
  case yz21 => intro w hSw; go_simp
  simp only [Act.put, zp]
  refine wpAnyH_take (i := 22) (v := .bool false) rfl (by kernel_rfl) (by kernel_rfl) (by kernel_rfl) (fun _ _ _ => id) (Or.inl ⟨by rfl, ?yz22⟩) hHeld ?_
  case yz22 => intro w hSw; go_simp
  simp only [Act.put, zp]
  refine wpAnyH_take (i := 23) (v := .bool false) rfl (by kernel_rfl) (by kernel_rfl) (by kernel_rfl) (fun _ _ _ => id) (Or.inl ⟨by rfl, ?yz23⟩) hHeld ?_
  case yz23 => intro w hSw; go_simp
  simp only [Act.put, zp]
  refine wpAnyH_take (i := 24) (v := .bool false) rfl (by kernel_rfl) (by kernel_rfl) (by kernel_rfl) (fun _ _ _ => id) (Or.inl ⟨by rfl, ?yz24⟩) hHeld ?_
  case yz24 => intro w hSw; go_simp
  simp only [Act.put, zp]
  refine wpAnyH_take (i := 25) (v := .pointer (some ⟨w5.heap.size, 3, Option.none⟩)) rfl (by kernel_rfl) (by kernel_rfl) (by kernel_rfl) (fun _ _ _ => id) (Or.inl ⟨by rfl, ?yz25⟩) hHeld ?_
  case yz25 => intro w hSw; go_simp
  simp only [Act.put, zp]
  refine wpAnyH_take (i := 26) (v := .int .i64 0) rfl (by kernel_rfl) (by kernel_rfl) (by kernel_rfl) (fun _ _ _ => id) (Or.inl ⟨by rfl, ?yz26⟩) hHeld ?_
  case yz26 => intro w hSw; obtain ⟨⟨j0, j1, j2, j3⟩, _⟩ := blk4 ((hSw.block _ (lt_of_heap7 B12.out)).trans B12.out); go_simp
  simp only [Act.put, zp]
  refine wpAnyH_take (i := 27) (v := .bool false) rfl (by kernel_rfl) (by kernel_rfl) (by kernel_rfl) (fun _ _ _ => id) (Or.inl ⟨by rfl, ?yz27⟩) hHeld ?_
  case yz27 => intro w hSw; go_simp
  simp only [Act.put, zp]
  refine wpAnyH_take (i := 28) (v := .bool false) rfl (by kernel_rfl) (by kernel_rfl) (by kernel_rfl) (fun _ _ _ => id) (Or.inl ⟨by rfl, ?yz28⟩) hHeld ?_
  case yz28 => intro w hSw; go_simp
  simp only [Act.put, zp]
  refine wpAnyH_take (i := 29) (v := .bool false) rfl (by kernel_rfl) (by kernel_rfl) (by kernel_rfl) (fun _ _ _ => id) (Or.inl ⟨by rfl, ?yz29⟩) hHeld ?_
  case yz29 => intro w hSw; go_simp
  simp only [Act.put, zp]
  refine wpAnyH_take (i := 30) (v := .pointer (some ⟨w5.heap.size, 2, Option.none⟩)) rfl (by kernel_rfl) (by kernel_rfl) (by kernel_rfl) (fun _ _ _ => id) (Or.inl ⟨by rfl, ?yz30⟩) hHeld ?_
  case yz30 => intro w hSw; go_simp
  simp only [Act.put, zp]
  refine wpAnyH_take (i := 31) (v := .slice s5 0 s6) rfl (by kernel_rfl) (by kernel_rfl) (by kernel_rfl) (fun _ _ _ => id) (Or.inl ⟨by rfl, ?yz31⟩) hHeld ?_
  case yz31 => intro w hSw; obtain ⟨⟨j0, j1, j2, j3⟩, _⟩ := blk4 ((hSw.block _ (lt_of_heap7 B12.out)).trans B12.out); go_simp
  simp only [Act.put, zp]
  refine wpAnyH_take (i := 32) (v := .int .i64 0) rfl (by kernel_rfl) (by kernel_rfl) (by kernel_rfl) (fun _ _ _ => id) (Or.inl ⟨by rfl, ?yz32⟩) hHeld ?_
  case yz32 => intro w hSw; go_simp
  simp only [Act.put, zp]
  refine wpAnyH_take (i := 33) (v := .bool false) rfl (by kernel_rfl) (by kernel_rfl) (by kernel_rfl) (fun _ _ _ => id) (Or.inl ⟨by rfl, ?yz33⟩) hHeld ?_
  case yz33 => intro w hSw; go_simp
  simp only [Act.put, zp]
  refine wpAnyH_take (i := 34) (v := .bool false) rfl (by kernel_rfl) (by kernel_rfl) (by kernel_rfl) (fun _ _ _ => id) (Or.inl ⟨by rfl, ?yz34⟩) hHeld ?_
  case yz34 => intro w hSw; go_simp
  simp only [Act.put, zp]
  refine wpAnyH_done (by kernel_rfl) ?_ _
  have hbz := hHeld
  have A2_9 := hid (A2_8.out.later hbz)
  have F2_9 := hid (F2_8.out.later hbz)
  have SX_9 := hid (SX_8.out.later hbz)
  have LO_9 := hid (LO_8.out.trans (hbz.mono LO_8.out.size))
  have B11_9 := hid (heap_b7 B11_8.out hbz)
  have B12_9 := hid (heap_b7 B12.out hbz)
  clear LO_8 B11_8 B12 hbz hHeld SX1 hk7 A2_8 F2_8 SX_8
  clear A2_9
  clear F2_9
  clear B11_9
  go_wp2
  go_loopw [13] (fun i wr => ∃ k : Nat, k ≤ VZ.length ∧ i = .int .i64 (k : Int) ∧ Below v2.heap.size v2 wr) (fun i _ => VZ.length - (RowKit.intOf i).toNat)
  case atStart => exact ⟨0, Nat.zero_le _, rfl, Below.refl _ _⟩
  case round =>
    obtain ⟨k, hk, rfl, hbr⟩ := hrel
    have HBR := hid hbr
    have SX_10 := hid (SX_9.out.later hbr)
    have LO_10 := hid (LO_9.out.trans (hbr.mono LO_9.out.size))
    have B12_10 := hid (heap_b7 B12_9.out hbr)
    clear LO_9 B12_9 hbr SX_9
    obtain ⟨⟨y0, y1, y2, y3⟩, _⟩ := blk4 B12_10.out
    by_cases hlt : k < VZ.length
    ·
      have hltI : (k : Int) < (VZ.length : Int) := by omega
      have hvl : Hid (VZ.length ≤ 10000000) := HIN.out.1.v
      have hvn : VZ.length ≤ 10000000 := hvl.out
      obtain ⟨t, ht⟩ : ∃ t, VZ[k]? = some t := ⟨VZ[k], List.getElem?_eq_getElem hlt⟩
      obtain rfl : t = 0 := HV0.out t (List.mem_of_getElem? ht)
      obtain ⟨ao, cv, e, hr⟩ := SX_10.out.v
      injection e with e1 e2 e3
      subst e1; subst e3
      rcases hr with hr | ⟨gg, oo, rfl, _, gl, hc⟩
      · subst hr; simp at hlt
      have q := hc k _ ht
      clear hc ht
      go_wp2
      go_roundw
      case rel => exact ⟨k + 1, by omega, by go_num, HBR.out⟩
      case measure => simp [RowKit.intOf]; omega
    ·
      have hltI : ¬ (k : Int) < (VZ.length : Int) := by omega
      rcases HZ.out with rfl | ⟨rfl, rfl⟩
      ·
        go_wp2
        go_ret
        exact ⟨rfl, LO_10.out⟩
      ·
        go_wp2
        go_ret
        exact ⟨rfl, LO_10.out⟩
end Go.Proofs.YtpinockfakndlaaGreat
