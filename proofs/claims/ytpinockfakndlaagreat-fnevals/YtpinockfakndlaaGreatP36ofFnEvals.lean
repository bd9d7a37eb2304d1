import Derived.Test.YtpinockfakndlaaGreatZp
import Derived.Test.YtpinockfakndlaaGreatP35ofFnEvals
import Derived.Test.YtpinockfakndlaaGreatP18ofFnEvals
import Derived.Test.YtpinockfakndlaaGreatP20ofFnEvals
import Derived.Test.YtpinockfakndlaaGreatP02ofFnEvals
import Derived.Deep.RegionHeld
import Derived.Test.YtpinockfakndlaaGreatP19ofFnEvals
namespace Go.Proofs.YtpinockfakndlaaGreat
open Go.RowKit Go.Lib
set_option maxRecDepth 100000
set_option maxHeartbeats 4000000
set_option linter.unusedSimpArgs false
set_option linter.unusedVariables false
def evX (ts : List AR) (A : List (List Int)) (nm : ByteArray → Int) : Nat → X → Option Int
  | 0, _ => none
  | d + 1, x =>
    if fnum x.h (elen x.l) = 1 then some x.h.n
    else if fnum x.h (elen x.l) = 2 then some (nm x.h.s)
    else if fnum x.h (elen x.l) = 3 then (match x.l with | .node _ _ h l .nil => (evX ts A nm d ⟨h, l⟩).bind (inA ts A x.h.s) | _ => none)
    else if fnum x.h (elen x.l) = 4 then (match x.l with | .node _ _ h l (.node _ _ h' l' .nil) => (evX ts A nm d ⟨h, l⟩).bind fun a => (evX ts A nm d ⟨h', l'⟩).map (opV x.h.k a) | _ => none)
    else none
section
variable {ts : List AR} {A : List (List Int)} {nm : ByteArray → Int}
theorem evX_num {d : Nat} {x : X} (h : fnum x.h (elen x.l) = 1) : evX ts A nm (d + 1) x = some x.h.n := by rw [evX, if_pos h]
theorem evX_var {d : Nat} {x : X} (h : fnum x.h (elen x.l) = 2) : evX ts A nm (d + 1) x = some (nm x.h.s) := by rw [evX, if_neg (by omega), if_pos h]
theorem evX_at {d p q : Nat} {x y : X} (h : fnum x.h (elen x.l) = 3) (e : x.l = .node p q y.h y.l .nil) : evX ts A nm (d + 1) x = (evX ts A nm d y).bind (inA ts A x.h.s) := by
  rw [evX, if_neg (by omega), if_neg (by omega), if_pos h, e]
theorem evX_pair {d p q p' q' : Nat} {x y z : X} (h : fnum x.h (elen x.l) = 4) (e : x.l = .node p q y.h y.l (.node p' q' z.h z.l .nil)) : evX ts A nm (d + 1) x = (evX ts A nm d y).bind fun a => (evX ts A nm d z).map (opV x.h.k a) := by
  rw [evX, if_neg (by omega), if_neg (by omega), if_neg (by omega), if_pos h, e]
end
theorem fnum4 {h : EH} {n : Nat} (e : fnum h n = 4) : 4 ≤ h.k ∧ h.k ≤ 8 := by
  unfold fnum at e
  split at e
  · omega
  · split at e
    · omega
    · split at e
      · omega
      · split at e
        · omega
        · omega
def valR (r : Option Int) : Ending := .returned (.tuple #[.int .i64 (r.getD 0), .bool r.isSome])
structure VB (w w' : World) (N : Nat) (va vb sa sv so : Value) (en : Int) (cs : List Value) : Prop where
  rp : w'.rangeAt N 0 [va, vb]
  rs : w'.rangeAt (N + 1) 0 [sa, sv, so, .int .i64 en]
  re : w'.rangeAt (N + 2) 0 cs
  b : Below w.heap.size w w'
theorem VB.later {w w1 w2 : World} {N : Nat} {va vb sa sv so : Value} {en : Int} {cs : List Value} (h : VB w w1 N va vb sa sv so en cs) (hb : Below w1.heap.size w1 w2) : VB w w2 N va vb sa sv so en cs :=
  ⟨rangeAt_later h.rp hb, rangeAt_later h.rs hb, rangeAt_later h.re hb, h.b.trans (hb.mono h.b.size)⟩
theorem VB.start (w : World) (va vb sa sv so : Value) (en : Int) (ar : Array Value) (t : TypeId) : VB w (((w.alloc (.cells #[va, vb] 27)).alloc (.cells #[sa, sv, so, .int .i64 en] 33)).alloc (.cells ar t)) w.heap.size va vb sa sv so en ar.toList := by
  obtain ⟨h1, h2, h3⟩ := heap3 w (.cells #[va, vb] 27) (.cells #[sa, sv, so, .int .i64 en] 33) (.cells ar t)
  exact ⟨blk_range h1, blk_range h2, blk_range h3, ((aB w _).alloc (by simp) _).alloc (by simp; omega) _⟩
structure Cx (ts : List AR) (A : List (List Int)) (va vb sa sv so fv : Value) (J : World → Prop) (nm : ByteArray → Int) : Prop where
  n : ts.length ≤ 1048576
  a : A.length ≤ 100000000
  b : ∀ xs ∈ A, xs.length ≤ 100000000
  vb : vb.oneCell' = true
  sv : sv.oneCell' = true
  so : so.oneCell' = true
  lk : Lk fv J nm
  on : ∀ w, J w → AV w 0 va ts ∧ IIV w 0 sa A
def ValC (ts : List AR) (A : List (List Int)) (va vb sa sv so fv : Value) (en : Int) (J : World → Prop) (nm : ByteArray → Int) (d : Nat) : Prop :=
  ∀ (x : X) (w : World) (v : Value), toldX d x = true → EV w 0 x.l v → J w → Calls Tryz.prog 42 #[.agg #[va, vb], .agg #[sa, sv, so, .int .i64 en], fv, .agg #[.int .i64 x.h.k, .int .i64 x.h.n, .string x.h.s, v]] w fun e w' => e = valR (evX ts A nm d x) ∧ Below w.heap.size w w'
theorem sizeAtF : (Tryz.prog.info? 125).map (·.size) = some 5 := by kernel_rfl
theorem sizeExp4 : (Tryz.prog.info? 43).map (·.size) = some 4 := by kernel_rfl
theorem rangeSub {w : World} {b o : Nat} {cs ds es : List Value} (h : w.rangeAt b o (cs ++ (ds ++ es))) : w.rangeAt b (o + cs.length) ds := rangeAt_part h rfl
theorem wordAt_of {ts : List AR} {A : List (List Int)} {va vb sa sv so fv : Value} {en : Int} {J : World → Prop} {nm : ByteArray → Int} {d : Nat} (cx : Cx ts A va vb sa sv so fv J nm) (ih : ValC ts A va vb sa sv so fv en J nm d)
    (s : ByteArray) (y : X) (w : World) (u : Value) (ht : toldX d y = true) (hu : EV w 0 y.l u) (hJ : J w) :
    Calls Tryz.prog 81 #[.agg #[va, vb], .agg #[sa, sv, so, .int .i64 en], fv, .agg #[.string s, .int .i64 y.h.k, .int .i64 y.h.n, .string y.h.s, u]] w fun e w' => e = valR ((evX ts A nm d y).bind (inA ts A s)) ∧ Below w.heap.size w w' := by
  have CX := hid cx
  have IH := hid ih
  have HU := hid hu
  have HJ := hid hJ
  have HT := hid ht
  have i1 := (cx.on w hJ).1.shape
  have i2 := (cx.on w hJ).2.shape
  obtain ⟨ua, uc, rfl⟩ := hu.shape
  obtain ⟨a1, b1, e1⟩ := i1
  obtain ⟨a2, b2, e2⟩ := i2
  obtain ⟨kf, caps, e3, hent, _⟩ := cx.lk.is
  have V0 := hid (VB.start w va vb sa sv so en #[.string s, .int .i64 y.h.k, .int .i64 y.h.n, .string y.h.s, .slice ua (elen y.l) uc] 125)
  have R0 : Hid ((((w.alloc (.cells #[va, vb] 27)).alloc (.cells #[sa, sv, so, .int .i64 en] 33)).alloc (.cells #[.string s, .int .i64 y.h.k, .int .i64 y.h.n, .string y.h.s, .slice ua (elen y.l) uc] 125)).rangeAt (w.heap.size + 2) 1 [.int .i64 y.h.k, .int .i64 y.h.n, .string y.h.s, .slice ua (elen y.l) uc]) := rangeSub (cs := [.string s]) (es := []) V0.out.re
  have o1 := cx.vb
  have o2 := cx.sv
  have o3 := cx.so
  have o4 : va.oneCell' = true := by rw [e1]; rfl
  have o5 : sa.oneCell' = true := by rw [e2]; rfl
  have o6 : fv.oneCell' = true := by rw [e3]; rfl
  clear cx ih hu hJ e1 e2 e3 hent ht
  go_enter Tryz.func81, Tryz.ntmps81
  go_wp2_with (first | (refine wpList_load_mid rfl 27 _ rfl w.heap.size 0 rfl _ _ V0.out.rp Tryz.underlying27 rfl sizeProg2 ?_) | (refine wpList_load_mid rfl 33 _ rfl (w.heap.size + 1) 0 rfl _ _ V0.out.rs Tryz.underlying33 rfl sizeSto2 ?_) | (refine wpList_load_mid rfl 43 _ rfl (w.heap.size + 2) 1 rfl _ _ R0.out Tryz.underlying43 rfl sizeExp4 ?_))
  refine (IH.out y _ _ HT.out (HU.out.later V0.out.b) (CX.out.lk.on _ _ HJ.out V0.out.b)).mono ?_
  rintro e w1 ⟨he, hb1⟩
  have V1 := hid (V0.out.later hb1)
  obtain ⟨r, hr⟩ : ∃ r, evX ts A nm d y = r := ⟨_, rfl⟩
  rw [hr] at he
  have HR := hid hr
  clear hb1 V0 R0 hr
  cases r with
  | none =>
    obtain rfl : e = .returned (.tuple #[.int .i64 0, .bool false]) := he
    go_wp2
    exact bodyPost_ret (v := .tuple #[.int .i64 0, .bool false]) (by simp [results, Tryz.results81, go_sem]) rfl ⟨by rw [HR.out]; rfl, V1.out.b⟩
  | some p =>
    obtain rfl : e = .returned (.tuple #[.int .i64 p, .bool true]) := he
    have c0 := V1.out.re 0 _ rfl
    have J1 := hid (CX.out.lk.on _ _ HJ.out V1.out.b)
    go_wp2_with (first | (refine wpList_load_mid rfl 27 _ rfl w.heap.size 0 rfl _ _ V1.out.rp Tryz.underlying27 rfl sizeProg2 ?_) | (refine wpList_load_mid rfl 33 _ rfl (w.heap.size + 1) 0 rfl _ _ V1.out.rs Tryz.underlying33 rfl sizeSto2 ?_))
    refine (spotOf_is ts CX.out.n A CX.out.a CX.out.b s p va vb sa sv so en CX.out.vb CX.out.sv CX.out.so _ (CX.out.on _ J1.out).1 (CX.out.on _ J1.out).2).mono ?_
    rintro e w2 ⟨hsp, hb2⟩
    have B2 := hid (V1.out.b.trans (hb2.mono V1.out.b.size))
    rcases hsp with ⟨hn, rfl⟩ | ⟨x, ad, hx, rfl, hat⟩
    · have hr : Hid ((some p).bind (inA ts A s) = none) := hn
      clear hn hb2 c0
      go_wp2
      exact bodyPost_ret (v := .tuple #[.int .i64 0, .bool false]) (by simp [results, Tryz.results81, go_sem]) rfl ⟨by rw [HR.out, hr.out]; rfl, B2.out⟩
    · have hr : Hid ((some p).bind (inA ts A s) = some x) := hx
      obtain ⟨k, m, go, oo, sl, sc, g, off, len, c, _, _, _, _, had, hcell⟩ := hat
      have hc2 := keeps hb2 hcell
      subst had
      clear hx hb2 c0 hcell
      go_wp2
      exact bodyPost_ret (v := .tuple #[.int .i64 x, .bool true]) (by simp [results, Tryz.results81, go_sem]) rfl ⟨by rw [HR.out, hr.out]; rfl, B2.out⟩
theorem told_at {d p q : Nat} {x y : X} (h : fnum x.h (elen x.l) = 3) (e : x.l = .node p q y.h y.l .nil) (ht : toldX (d + 1) x = true) : toldX d y = true := by
  rw [toldX_at h e] at ht; simp at ht; exact ht.2
theorem told_pair {d p q p' q' : Nat} {x y z : X} (h : fnum x.h (elen x.l) = 4) (e : x.l = .node p q y.h y.l (.node p' q' z.h z.l .nil)) (ht : toldX (d + 1) x = true) : toldX d y = true ∧ toldX d z = true := by
  rw [toldX_pair h e] at ht; simpa using ht
theorem valueOf_step {ts : List AR} {A : List (List Int)} {va vb sa sv so fv : Value} {en : Int} {J : World → Prop} {nm : ByteArray → Int} {d : Nat} (cx : Cx ts A va vb sa sv so fv J nm) (ih : ValC ts A va vb sa sv so fv en J nm d) : ValC ts A va vb sa sv so fv en J nm (d + 1) := fun x w v ht hv hJ => by
  have CX := hid cx
  have IH := hid ih
  have Hv := hid hv
  have HJ := hid hJ
  have HT := hid ht
  obtain ⟨kf, caps, e3, hent, hcall⟩ := cx.lk.is
  have HC := hid hcall
  obtain ⟨a1, b1, e1⟩ := (cx.on w hJ).1.shape
  obtain ⟨a2, b2, e2⟩ := (cx.on w hJ).2.shape
  have V0 := hid (VB.start w va vb sa sv so en #[.int .i64 x.h.k, .int .i64 x.h.n, .string x.h.s, v] 43)
  have Hq : Hid (∀ w, EV w 0 x.l v → Calls Tryz.prog 80 #[.agg #[.int .i64 x.h.k, .int .i64 x.h.n, .string x.h.s, v]] w fun e w' => ∃ fv, e = .returned fv ∧ FormIs w x fv ∧ Below w.heap.size w w') := fun w hv => formOf_is x w v hv
  have o1 := cx.vb
  have o2 := cx.sv
  have o3 := cx.so
  have o4 : va.oneCell' = true := by rw [e1]; rfl
  have o5 : sa.oneCell' = true := by rw [e2]; rfl
  have o6 := hv.isOne
  subst e3
  clear cx ih hv hJ e1 e2 ht hcall
  go_enter Tryz.func42, Tryz.ntmps42
  go_wp2_with (refine wpList_load_mid rfl 43 _ rfl (w.heap.size + 2) 0 rfl _ _ V0.out.re Tryz.underlying43 rfl sizeExp4 ?_)
  refine (Hq.out _ (Hv.out.later V0.out.b)).mono ?_
  rintro e w1 ⟨gv, rfl, hform, hb1⟩
  have V1 := hid (V0.out.later hb1)
  have Hb1 := hid hb1
  clear V0 Hq hb1
  rcases hform with ⟨hf, rfl⟩ | ⟨hf, rfl⟩ | ⟨hf, p, q, y, u, hl, hu, rfl⟩ | ⟨hf, p, q, p', q', y, z, u, u', hl, hu, hu', rfl⟩ | ⟨hf, rfl⟩
  · have hr : Hid (evX ts A nm (d + 1) x = some x.h.n) := evX_num hf
    have q1 := as_nn
    clear hf
    go_wp2
    exact bodyPost_ret (v := .tuple #[.int .i64 x.h.n, .bool true]) (by simp [results, Tryz.results42, go_sem]) rfl ⟨by rw [hr.out]; rfl, V1.out.b.alloc V1.out.b.size _⟩
  · have hr : Hid (evX ts A nm (d + 1) x = some (nm x.h.s)) := evX_var hf
    have q1 := as_vn
    have q2 := as_vv
    have B1 := hid (V1.out.b.alloc V1.out.b.size (.cells #[.string x.h.s] 123))
    clear hf
    go_wp2_with fail
    refine (HC.out _ (CX.out.lk.on _ _ HJ.out B1.out) x.h.s).mono ?_
    rintro e w2 ⟨rfl, hb2⟩
    have B2 := hid (B1.out.trans (hb2.mono B1.out.size))
    clear hb2
    go_wp2
    exact bodyPost_ret (v := .tuple #[.int .i64 (nm x.h.s), .bool true]) (by simp [results, Tryz.results42, go_sem]) rfl ⟨by rw [hr.out]; rfl, B2.out⟩
  · have hr := hid (evX_at (ts := ts) (A := A) (nm := nm) (d := d) hf hl)
    have TY := hid (told_at hf hl HT.out)
    have q1 := as_an
    have q2 := as_av
    have q3 := as_aa
    have HU := hid hu
    obtain ⟨ua, uc, rfl⟩ := hu.shape
    have V2 := hid (V1.out.later (aB w1 (.cells #[.string x.h.s, .int .i64 y.h.k, .int .i64 y.h.n, .string y.h.s, .slice ua (elen y.l) uc] 125)))
    have RF : Hid ((w1.alloc (.cells #[.string x.h.s, .int .i64 y.h.k, .int .i64 y.h.n, .string y.h.s, .slice ua (elen y.l) uc] 125)).rangeAt w1.heap.size 0 [.string x.h.s, .int .i64 y.h.k, .int .i64 y.h.n, .string y.h.s, .slice ua (elen y.l) uc]) := blk_range (blkLast _ _)
    clear hf hu hl
    go_wp2_with (first | (refine wpList_load_mid rfl 27 _ rfl w.heap.size 0 rfl _ _ V2.out.rp Tryz.underlying27 rfl sizeProg2 ?_) | (refine wpList_load_mid rfl 33 _ rfl (w.heap.size + 1) 0 rfl _ _ V2.out.rs Tryz.underlying33 rfl sizeSto2 ?_) | (refine wpList_load_mid rfl 125 _ rfl w1.heap.size 0 rfl _ _ RF.out Tryz.underlying125 rfl sizeAtF ?_))
    refine (wordAt_of CX.out IH.out x.h.s y _ _ TY.out (HU.out.later (Hb1.out.trans ((aB w1 _).mono Hb1.out.size))) (CX.out.lk.on _ _ HJ.out V2.out.b)).mono ?_
    rintro e w3 ⟨he, hb3⟩
    have B3 := hid (V2.out.b.trans (hb3.mono V2.out.b.size))
    obtain ⟨r, hrr⟩ : ∃ r, (evX ts A nm d y).bind (inA ts A x.h.s) = r := ⟨_, rfl⟩
    rw [hrr] at hr he
    obtain rfl : e = .returned (.tuple #[.int .i64 (r.getD 0), .bool r.isSome]) := he
    clear hb3 hrr
    go_wp2
    exact bodyPost_ret (v := .tuple #[.int .i64 (r.getD 0), .bool r.isSome]) (by simp [results, Tryz.results42, go_sem]) rfl ⟨by rw [hr.out]; rfl, B3.out⟩
  · have hr := hid (evX_pair (ts := ts) (A := A) (nm := nm) (d := d) hf hl)
    have TY := hid (told_pair hf hl HT.out)
    have K4 := hid (fnum4 hf)
    have q1 := as_pn
    have q2 := as_pv
    have q3 := as_pa
    have q4 := as_pp
    have HU := hid (And.intro hu hu')
    obtain ⟨ua, uc, rfl⟩ := hu.shape
    obtain ⟨ua', uc', rfl⟩ := hu'.shape
    have V2 := hid (V1.out.later (aB w1 (.cells #[.int .i64 y.h.k, .int .i64 y.h.n, .string y.h.s, .slice ua (elen y.l) uc, .int .i64 z.h.k, .int .i64 z.h.n, .string z.h.s, .slice ua' (elen z.l) uc'] 128)))
    have RF : Hid ((w1.alloc (.cells #[.int .i64 y.h.k, .int .i64 y.h.n, .string y.h.s, .slice ua (elen y.l) uc, .int .i64 z.h.k, .int .i64 z.h.n, .string z.h.s, .slice ua' (elen z.l) uc'] 128)).rangeAt w1.heap.size 0 ([.int .i64 y.h.k, .int .i64 y.h.n, .string y.h.s, .slice ua (elen y.l) uc] ++ ([.int .i64 z.h.k, .int .i64 z.h.n, .string z.h.s, .slice ua' (elen z.l) uc'] ++ []))) := blk_range (blkLast _ _)
    have R1 : Hid ((w1.alloc (.cells #[.int .i64 y.h.k, .int .i64 y.h.n, .string y.h.s, .slice ua (elen y.l) uc, .int .i64 z.h.k, .int .i64 z.h.n, .string z.h.s, .slice ua' (elen z.l) uc'] 128)).rangeAt w1.heap.size 0 [.int .i64 y.h.k, .int .i64 y.h.n, .string y.h.s, .slice ua (elen y.l) uc]) := rangeSub (cs := []) RF.out
    clear hf hu hu' hl
    go_wp2_with (first | (refine wpList_load_mid rfl 27 _ rfl w.heap.size 0 rfl _ _ V2.out.rp Tryz.underlying27 rfl sizeProg2 ?_) | (refine wpList_load_mid rfl 33 _ rfl (w.heap.size + 1) 0 rfl _ _ V2.out.rs Tryz.underlying33 rfl sizeSto2 ?_) | (refine wpList_load_mid rfl 43 _ rfl w1.heap.size 0 rfl _ _ R1.out Tryz.underlying43 rfl sizeExp4 ?_))
    refine (IH.out y _ _ TY.out.1 (HU.out.1.later (Hb1.out.trans ((aB w1 _).mono Hb1.out.size))) (CX.out.lk.on _ _ HJ.out V2.out.b)).mono ?_
    rintro e w3 ⟨he, hb3⟩
    have V3 := hid (V2.out.later hb3)
    have R3 := hid (rangeAt_later (rangeSub RF.out) hb3)
    have HZ := hid (HU.out.2.later ((Hb1.out.trans ((aB w1 (.cells #[.int .i64 y.h.k, .int .i64 y.h.n, .string y.h.s, .slice ua (elen y.l) uc, .int .i64 z.h.k, .int .i64 z.h.n, .string z.h.s, .slice ua' (elen z.l) uc'] 128)).mono Hb1.out.size)).trans (hb3.mono (Hb1.out.trans ((aB w1 (.cells #[.int .i64 y.h.k, .int .i64 y.h.n, .string y.h.s, .slice ua (elen y.l) uc, .int .i64 z.h.k, .int .i64 z.h.n, .string z.h.s, .slice ua' (elen z.l) uc'] 128)).mono Hb1.out.size)).size)))
    obtain ⟨r, hrr⟩ : ∃ r, evX ts A nm d y = r := ⟨_, rfl⟩
    rw [hrr] at hr he
    obtain rfl : e = .returned (.tuple #[.int .i64 (r.getD 0), .bool r.isSome]) := he
    clear hb3 hrr V2 RF R1
    go_wp2_with (first | (refine wpList_load_mid rfl 27 _ rfl w.heap.size 0 rfl _ _ V3.out.rp Tryz.underlying27 rfl sizeProg2 ?_) | (refine wpList_load_mid rfl 33 _ rfl (w.heap.size + 1) 0 rfl _ _ V3.out.rs Tryz.underlying33 rfl sizeSto2 ?_) | (refine wpList_load_mid rfl 43 _ rfl w1.heap.size 4 rfl _ _ R3.out Tryz.underlying43 rfl sizeExp4 ?_))
    refine (IH.out z _ _ TY.out.2 HZ.out (CX.out.lk.on _ _ HJ.out V3.out.b)).mono ?_
    rintro e w4 ⟨he, hb4⟩
    have V4 := hid (V3.out.later hb4)
    obtain ⟨r2, hrr⟩ : ∃ r, evX ts A nm d z = r := ⟨_, rfl⟩
    rw [hrr] at hr he
    obtain rfl : e = .returned (.tuple #[.int .i64 (r2.getD 0), .bool r2.isSome]) := he
    have c0 := V4.out.re 0 _ rfl
    clear hb4 hrr V3 R3
    cases r with
    | none =>
      go_wp2
      exact bodyPost_ret (v := .tuple #[.int .i64 0, .bool false]) (by simp [results, Tryz.results42, go_sem]) rfl ⟨by rw [hr.out]; rfl, V4.out.b⟩
    | some a =>
      cases r2 with
      | none =>
        go_wp2
        exact bodyPost_ret (v := .tuple #[.int .i64 0, .bool false]) (by simp [results, Tryz.results42, go_sem]) rfl ⟨by rw [hr.out]; rfl, V4.out.b⟩
      | some b =>
        go_wp2_with fail
        refine (pairValue_is x.h.k a b K4.out _).mono ?_
        rintro e w5 ⟨rfl, rfl⟩
        go_wp2
        exact bodyPost_ret (v := .tuple #[.int .i64 (opV x.h.k a b), .bool true]) (by simp [results, Tryz.results42, go_sem]) rfl ⟨by rw [hr.out]; rfl, V4.out.b⟩
  · have hr := toldX_none (d := d) hf
    rw [HT.out] at hr
    cases hr
theorem valueOf_all {ts : List AR} {A : List (List Int)} {va vb sa sv so fv : Value} {en : Int} {J : World → Prop} {nm : ByteArray → Int} (cx : Cx ts A va vb sa sv so fv J nm) : ∀ d, ValC ts A va vb sa sv so fv en J nm d
  | 0 => fun x w v ht _ _ => by rw [toldX_zero] at ht; cases ht
  | d + 1 => valueOf_step cx (valueOf_all cx d)
theorem l7At_is (ns : List ByteArray) (hn : ns.length ≤ 100000000) (s : ByteArray) (v : Value) (w : World) (hv : TV w 0 v ns) :
    Calls Tryz.prog 73 #[v, .string s] w fun e w' => e = .returned (.int .i64 (idxGo ns 0 s)) ∧ w' = w := by
  obtain ⟨ao, cap, rfl, hr⟩ := hv
  have Hr := hid hr
  clear hr
  go_enter Tryz.func73, Tryz.ntmps73
  go_wp2
  go_loopw [5] (fun i wr => ∃ k : Nat, k ≤ ns.length ∧ i = .int .i64 k ∧ Hid (idxGo ns 0 s = idxGo (ns.drop k) k s) ∧ wr = w) (fun i _ => ns.length - (RowKit.intOf i).toNat)
  case atStart => exact ⟨0, by omega, rfl, (by show idxGo ns 0 s = idxGo (ns.drop 0) 0 s; rw [List.drop_zero]), rfl⟩
  case round =>
    obtain ⟨k, hk, rfl, hg, rfl⟩ := hrel
    by_cases hlt : k < ns.length
    · have hltI : (k : Int) < (ns.length : Int) := by omega
      obtain ⟨t, ht⟩ : ∃ t, ns[k]? = some t := ⟨ns[k], List.getElem?_eq_getElem hlt⟩
      rcases Hr.out with hr | ⟨g, off, rfl, _, gl, hc⟩
      · subst hr; simp at hlt
      have A0 := hc k t ht
      have hd : Hid (ns.drop k = t :: ns.drop (k + 1)) := by
        show ns.drop k = t :: ns.drop (k + 1)
        rw [List.drop_eq_getElem_cons hlt]; congr 1; rw [List.getElem?_eq_getElem hlt] at ht; injection ht
      clear hc ht Hr
      by_cases he : t = s
      · have he2 : Hid (idxGo ns 0 s = (k : Int)) := by show idxGo ns 0 s = (k : Int); rw [hg.out, hd.out, idxGo, if_pos he]
        subst he
        go_wp2
        go_ret
        exact ⟨(by rw [he2.out]; try rfl), rfl⟩
      · have he2 : Hid (idxGo ns 0 s = idxGo (ns.drop (k + 1)) (k + 1) s) := by show idxGo ns 0 s = _; rw [hg.out, hd.out, idxGo, if_neg he]
        have hne := str_ne he
        go_wp2
        go_roundw
        case rel => exact ⟨k + 1, by omega, by go_num, he2.out, trivial⟩
        case measure => simp [RowKit.intOf]; omega
    · have he2 : Hid (idxGo ns 0 s = -1) := by show idxGo ns 0 s = -1; rw [hg.out, List.drop_of_length_le (by omega)]; rfl
      go_wp2
      go_ret
      exact ⟨(by rw [he2.out]; try rfl), rfl⟩
theorem l7Op_is (k a b : Int) (hk : 4 ≤ k ∧ k ≤ 8) (w : World) :
    Calls Tryz.prog 88 #[.int .i64 k, .int .i64 a, .int .i64 b] w fun e w' => e = .returned (.int .i64 (opV k a b)) ∧ w' = w := by
  have hk' : k = 4 ∨ k = 5 ∨ k = 6 ∨ k = 7 ∨ k = 8 := by omega
  clear hk
  rcases hk' with rfl | rfl | rfl | rfl | rfl
  · go_enter Tryz.func88, Tryz.ntmps88
    go_wp2_with fail
    refine (spec_AddW a b w).mono ?_
    rintro e w1 ⟨rfl, rfl⟩
    go_wp2
    go_ret
    exact ⟨rfl, rfl⟩
  · go_enter Tryz.func88, Tryz.ntmps88
    go_wp2_with fail
    refine (spec_SubW a b w).mono ?_
    rintro e w1 ⟨rfl, rfl⟩
    go_wp2
    go_ret
    exact ⟨rfl, rfl⟩
  · go_enter Tryz.func88, Tryz.ntmps88
    go_wp2_with fail
    refine (spec_MulW a b w).mono ?_
    rintro e w1 ⟨rfl, rfl⟩
    go_wp2
    go_ret
    exact ⟨rfl, rfl⟩
  · by_cases h : a < b
    · have hv : Hid (opV 7 a b = a) := show opV 7 a b = a by simp [opV, h]
      go_enter Tryz.func88, Tryz.ntmps88
      go_wp2
      go_ret
      exact ⟨(by rw [hv.out]; try rfl), rfl⟩
    · have hv : Hid (opV 7 a b = b) := show opV 7 a b = b by simp [opV, h]
      go_enter Tryz.func88, Tryz.ntmps88
      go_wp2
      go_ret
      exact ⟨(by rw [hv.out]; try rfl), rfl⟩
  · by_cases h : a > b
    · have hv : Hid (opV 8 a b = a) := show opV 8 a b = a by simp [opV, h]
      go_enter Tryz.func88, Tryz.ntmps88
      go_wp2
      go_ret
      exact ⟨(by rw [hv.out]; try rfl), rfl⟩
    · have hv : Hid (opV 8 a b = b) := show opV 8 a b = b by simp [opV, h]
      go_enter Tryz.func88, Tryz.ntmps88
      go_wp2
      go_ret
      exact ⟨(by rw [hv.out]; try rfl), rfl⟩
structure RR (w : World) (R : Nat) (ts : List AR) (ns : List ByteArray) (A : List (List Int)) (V : List Int) (bs : List AR) (va vb nv sa sv so : Value) (en : Int) (bv : Value) (fuel : Int) : Prop where
  blk : w.heap[R]? = some (.cells #[va, vb, nv, sa, sv, so, .int .i64 en, bv, .int .i64 fuel] 71 (0, 0))
  p : AV w 0 va ts
  n : TV w 0 nv ns
  a : IIV w 0 sa A
  v : IV w 0 sv V
  b : AV w 0 bv bs
theorem RR.later {w w' : World} {R : Nat} {ts : List AR} {ns : List ByteArray} {A : List (List Int)} {V : List Int} {bs : List AR} {va vb nv sa sv so : Value} {en : Int} {bv : Value} {fuel : Int} (h : RR w R ts ns A V bs va vb nv sa sv so en bv fuel) (hb : Below w.heap.size w w') : RR w' R ts ns A V bs va vb nv sa sv so en bv fuel :=
  ⟨(hb.block _ (lt_heap h.blk)).trans h.blk, h.p.later hb, h.n.later hb, h.a.later hb, h.v.later hb, h.b.later hb⟩
theorem RR.cells {w : World} {R : Nat} {ts : List AR} {ns : List ByteArray} {A : List (List Int)} {V : List Int} {bs : List AR} {va vb nv sa sv so : Value} {en : Int} {bv : Value} {fuel : Int} (h : RR w R ts ns A V bs va vb nv sa sv so en bv fuel) :
    w.cell? ⟨R, 2, Option.none⟩ = some nv ∧ w.cell? ⟨R, 3, Option.none⟩ = some sa ∧ w.cell? ⟨R, 4, Option.none⟩ = some sv ∧ w.cell? ⟨R, 7, Option.none⟩ = some bv ∧ w.cell? ⟨R, 6, Option.none⟩ = some (.int .i64 en) ∧ w.cell? ⟨R, 8, Option.none⟩ = some (.int .i64 fuel) := by
  simp [World.cell?, h.blk]
structure RL (ts : List AR) (ns : List ByteArray) (A : List (List Int)) (V : List Int) (bs : List AR) : Prop where
  t : ts.length ≤ 1048576
  n : ns.length ≤ 100000000
  a : A.length ≤ 100000000
  b : ∀ xs ∈ A, xs.length ≤ 100000000
  v : V.length ≤ 100000000
  w : bs.length ≤ 100000000
theorem bindDrop {bs : List AR} {k : Nat} {b : AR} (hk : k < bs.length) (hb : bs[bs.length - 1 - k]? = some b) : bs.reverse.drop k = b :: bs.reverse.drop (k + 1) := by
  have hkr : k < bs.reverse.length := by simp; omega
  rw [List.drop_eq_getElem_cons hkr]
  congr 1
  rw [List.getElem_reverse]
  rw [List.getElem?_eq_getElem (l := bs) (i := bs.length - 1 - k) (by omega)] at hb
  injection hb
theorem l7Name_is {ts : List AR} {ns : List ByteArray} {A : List (List Int)} {V : List Int} {bs : List AR} {va vb nv sa sv so : Value} {en : Int} {bv : Value} {fuel : Int} (hl : RL ts ns A V bs) (R : Nat) (s : ByteArray) (w : World) (h : RR w R ts ns A V bs va vb nv sa sv so en bv fuel) :
    Calls Tryz.prog 86 #[.pointer (some ⟨R, 0, Option.none⟩), .string s] w fun e w' => e = .returned (.int .i64 (withN bs (varN ns V) s)) ∧ w' = w := by
  have H := hid h
  have HL := hid hl
  obtain ⟨c2, c3, c4, c7, _, _⟩ := h.cells
  obtain ⟨a1, b1, rfl⟩ := h.n.shape
  obtain ⟨a2, b2, rfl⟩ := h.v.shape
  obtain ⟨a3, b3, rfl⟩ := h.b.shape
  have hbl : (bs.length : Int) ≤ 100000000 := by have := hl.w; omega
  have hVl : (V.length : Int) ≤ 100000000 := by have := hl.v; omega
  clear h hl c3
  go_enter Tryz.func86, Tryz.ntmps86
  go_wp2
  go_loopw [5] (fun i wr => ∃ k : Nat, k ≤ bs.length ∧ i = .int .i64 ((bs.length : Int) - 1 - (k : Int)) ∧ Hid (bindOf bs.reverse s = bindOf (bs.reverse.drop k) s) ∧ wr = w) (fun i _ => (RowKit.intOf i + 1).toNat)
  case atStart => exact ⟨0, by omega, by simp, (by show bindOf bs.reverse s = bindOf (bs.reverse.drop 0) s; rw [List.drop_zero]), rfl⟩
  case round =>
    obtain ⟨k, hk, rfl, hg, rfl⟩ := hrel
    by_cases hlt : k < bs.length
    · obtain ⟨b, hb⟩ : ∃ b, bs[bs.length - 1 - k]? = some b := ⟨bs[bs.length - 1 - k], List.getElem?_eq_getElem (by omega)⟩
      obtain ⟨g, off, cap, e, hcc⟩ := arrAt_cells H.out.b (fun e => by subst e; simp at hlt)
      injection e with e
      subst e
      obtain ⟨m, hm⟩ : ∃ m : Nat, m = bs.length - 1 - k := ⟨_, rfl⟩
      have hmI : (bs.length : Int) - 1 - (k : Int) = (m : Int) := by omega
      have hmlt : (m : Int) < (bs.length : Int) := by omega
      have hm0 : ¬ ((m : Int) < 0) := by omega
      have hd := hid (bindDrop hlt hb)
      have h0 := (hcc _ b hb).1
      have h1 := (hcc _ b hb).2
      rw [← hm] at h0 h1
      rw [hmI]
      have HM := hid (And.intro hm hmI)
      clear hcc hb hm hmI
      by_cases he : b.s = s
      · have hv : Hid (withN bs (varN ns V) s = b.n) := show withN bs (varN ns V) s = b.n by rw [withN, hg.out, hd.out, bindOf, if_pos he]; rfl
        rw [he] at h0
        clear he
        go_wp2
        go_ret
        exact ⟨(by rw [hv.out]; try rfl), rfl⟩
      · have he2 : Hid (bindOf bs.reverse s = bindOf (bs.reverse.drop (k + 1)) s) := show bindOf bs.reverse s = _ by rw [hg.out, hd.out, bindOf, if_neg he]
        have hne := str_ne he
        clear he
        go_wp2
        go_roundw
        case rel => exact ⟨k + 1, by omega, val_intA (by have := HM.out.2; omega), he2.out, trivial⟩
        case measure => simp [RowKit.intOf]; try omega
    · obtain rfl : k = bs.length := by omega
      have e1 : (bs.length : Int) - 1 - (bs.length : Int) = -1 := by omega
      rw [e1]
      have hv0 : Hid (withN bs (varN ns V) s = varN ns V s) := show withN bs (varN ns V) s = varN ns V s by rw [withN, hg.out, List.drop_of_length_le (by simp)]; rfl
      obtain ⟨i, hi⟩ : ∃ i, idxGo ns 0 s = i := ⟨_, rfl⟩
      have HI := hid hi
      have hbd := idxGo_bd s ns 0
      rw [hi] at hbd
      clear e1 hg hi
      by_cases hin : 0 ≤ i ∧ i ≤ (V.length : Int) - 1
      · obtain ⟨j, rfl⟩ : ∃ j : Nat, i = (j : Int) := ⟨i.toNat, by omega⟩
        obtain ⟨x, hx⟩ : ∃ x, V[j]? = some x := ⟨V[j]'(by omega), List.getElem?_eq_getElem _⟩
        obtain ⟨g, off, rfl, A0⟩ := H.out.v.at hx
        have hjl : (j : Int) < (V.length : Int) := by omega
        have hv : Hid (withN bs (varN ns V) s = x) := hv0.out.trans (by rw [varN, HI.out, if_neg (by omega), Int.toNat_natCast, hx]; rfl)
        have hdc : (decide (0 ≤ (j : Int)) && decide ((j : Int) ≤ (V.length : Int) - 1)) = true := by simp [hin]
        have HD := hid hdc
        clear hx hin hdc
        go_wp2_with fail
        refine (l7At_is ns HL.out.n s _ _ H.out.n).mono ?_
        rintro e w1 ⟨rfl, rfl⟩
        rw [HI.out]
        go_wp2_with fail
        refine (l1In_is (j : Int) 0 ((V.length : Int) - 1) _).mono ?_
        rintro e w1 ⟨rfl, rfl⟩
        rw [HD.out]
        go_wp2
        go_ret
        exact ⟨(by rw [hv.out]; try rfl), rfl⟩
      · have hv : Hid (withN bs (varN ns V) s = 0) := hv0.out.trans (by
          rw [varN, HI.out]
          split
          · rfl
          · rw [List.getElem?_eq_none (by omega)]; rfl)
        have hdc : (decide (0 ≤ i) && decide (i ≤ (V.length : Int) - 1)) = false := by
          rcases Int.lt_or_le i 0 with h | h
          · rw [decide_eq_false (by omega)]; rfl
          · rw [decide_eq_false (p := i ≤ (V.length : Int) - 1) (by omega)]; simp
        have HD := hid hdc
        clear hin hdc
        go_wp2_with fail
        refine (l7At_is ns HL.out.n s _ _ H.out.n).mono ?_
        rintro e w1 ⟨rfl, rfl⟩
        rw [HI.out]
        go_wp2_with fail
        refine (l1In_is i 0 ((V.length : Int) - 1) _).mono ?_
        rintro e w1 ⟨rfl, rfl⟩
        rw [HD.out]
        go_wp2
        go_ret
        exact ⟨(by rw [hv.out]; try rfl), rfl⟩
theorem fnumK {h : EH} {n : Nat} : (fnum h n = 1 → h.k = 1) ∧ (fnum h n = 2 → h.k = 2) ∧ (fnum h n = 3 → h.k = 3 ∧ n = 1) ∧ (fnum h n = 4 → n = 2) := by
  unfold fnum
  refine ⟨?_, ?_, ?_, ?_⟩
  all_goals (split; (intro; omega); split; (intro; omega); split; (intro; omega); split; (intro; omega); (intro; omega))
theorem rangeX {w : World} {b o : Nat} {k n : Value} {s u : Value} (h0 : w.cell? ⟨b, o, Option.none⟩ = some k) (h1 : w.cell? ⟨b, o + 1, Option.none⟩ = some n) (h2 : w.cell? ⟨b, o + 2, Option.none⟩ = some s) (h3 : w.cell? ⟨b, o + 3, Option.none⟩ = some u) : w.rangeAt b o [k, n, s, u] := fun j v hj => by
  match j, hj with
  | 0, hj => simp at hj; subst hj; exact h0
  | 1, hj => simp at hj; subst hj; exact h1
  | 2, hj => simp at hj; subst hj; exact h2
  | 3, hj => simp at hj; subst hj; exact h3
  | j + 4, hj => simp at hj
theorem evOne {w : World} {p q : Nat} {y : X} {v : Value} (h : EV w 0 (.node p q y.h y.l .nil) v) : ∃ b o c u, v = .slice (some ⟨b, o, Option.none⟩) 1 c ∧ w.rangeAt b o [.int .i64 y.h.k, .int .i64 y.h.n, .string y.h.s, u] ∧ EV w 0 y.l u := by
  obtain ⟨b, o, a, c, e, ha, _, hin⟩ := h
  obtain ⟨⟨h0, h1, h2, u, h3, h4⟩, _⟩ := EIn_node.1 hin
  rcases ha with ha | ha
  · exact ⟨b, o, c, u, by rw [e, ha]; rfl, rangeX h0 h1 h2 h3, h4⟩
  · cases ha
theorem evTwo {w : World} {p q p' q' : Nat} {y z : X} {v : Value} (h : EV w 0 (.node p q y.h y.l (.node p' q' z.h z.l .nil)) v) : ∃ b o c u u', v = .slice (some ⟨b, o, Option.none⟩) 2 c ∧ w.rangeAt b o [.int .i64 y.h.k, .int .i64 y.h.n, .string y.h.s, u] ∧ w.rangeAt b (o + 4) [.int .i64 z.h.k, .int .i64 z.h.n, .string z.h.s, u'] ∧ EV w 0 y.l u ∧ EV w 0 z.l u' := by
  obtain ⟨b, o, a, c, e, ha, _, hin⟩ := h
  obtain ⟨⟨h0, h1, h2, u, h3, h4⟩, hr⟩ := EIn_node.1 hin
  obtain ⟨⟨g0, g1, g2, u', g3, g4⟩, _⟩ := EIn_node.1 hr
  rcases ha with ha | ha
  · exact ⟨b, o, c, u, u', by rw [e, ha]; rfl, rangeX h0 h1 h2 h3, rangeX g0 g1 g2 g3, h4, g4⟩
  · cases ha
theorem rrProg {w : World} {R : Nat} {ts : List AR} {ns : List ByteArray} {A : List (List Int)} {V : List Int} {bs : List AR} {va vb nv sa sv so : Value} {en : Int} {bv : Value} {fuel : Int} (h : RR w R ts ns A V bs va vb nv sa sv so en bv fuel) : w.rangeAt R 0 [va, vb] := rangeSub (cs := []) (es := [nv, sa, sv, so, .int .i64 en, bv, .int .i64 fuel]) (blk_range h.blk)
def SpC (R : Nat) (ts : List AR) (ns : List ByteArray) (A : List (List Int)) (V : List Int) (bs : List AR) (va vb nv sa sv so : Value) (en : Int) (bv : Value) (fuel : Int) (d : Nat) : Prop :=
  ∀ (x : X) (w : World) (v : Value), toldX d x = true → EV w 0 x.l v → RR w R ts ns A V bs va vb nv sa sv so en bv fuel → Calls Tryz.prog 45 #[.pointer (some ⟨R, 0, Option.none⟩), .agg #[.int .i64 x.h.k, .int .i64 x.h.n, .string x.h.s, v]] w fun e w' => e = valR (evX ts A (withN bs (varN ns V)) d x) ∧ Below w.heap.size w w'
theorem inA_none {ts : List AR} {A : List (List Int)} {s : ByteArray} {p k : Int} (hk : arrGo ts 0 s = k) (h : ¬ (0 ≤ k ∧ k ≤ (A.length : Int) - 1)) : inA ts A s p = none := by
  rw [inA, hk]
  split
  · rfl
  · split
    · rfl
    · rw [List.getElem?_eq_none (by omega)]; rfl
theorem decF {i n : Int} (h : ¬ (0 ≤ i ∧ i ≤ n)) : (decide (0 ≤ i) && decide (i ≤ n)) = false := by
  rcases Int.lt_or_le i 0 with h1 | h1
  · rw [decide_eq_false (by omega)]; rfl
  · rw [decide_eq_false (p := i ≤ n) (by omega)]; simp
theorem decT {i n : Int} (h : 0 ≤ i ∧ i ≤ n) : (decide (0 ≤ i) && decide (i ≤ n)) = true := by simp [h]
theorem l7Exp_step {R : Nat} {ts : List AR} {ns : List ByteArray} {A : List (List Int)} {V : List Int} {bs : List AR} {va vb nv sa sv so : Value} {en : Int} {bv : Value} {fuel : Int} {d : Nat} (hl : RL ts ns A V bs) (hvb : vb.oneCell' = true) (ih : SpC R ts ns A V bs va vb nv sa sv so en bv fuel d) : SpC R ts ns A V bs va vb nv sa sv so en bv fuel (d + 1) := fun x w v ht hv hR => by
  have IH := hid ih
  have HL := hid hl
  have HVB := hid hvb
  have HT := hid ht
  have B0 := hid (aB w (.cells #[.int .i64 x.h.k, .int .i64 x.h.n, .string x.h.s, v] 43))
  have R0 := hid (hR.later B0.out)
  obtain ⟨⟨c0, c1, c2, c3⟩, _⟩ := blk4 (blkLast w (.cells #[.int .i64 x.h.k, .int .i64 x.h.n, .string x.h.s, v] 43))
  have HC := hid (And.intro c0 (And.intro c1 (And.intro c2 c3)))
  have HV := hid (hv.later B0.out)
  have hAl : (A.length : Int) ≤ 100000000 := by have := hl.a; omega
  clear ih hl hvb ht hR c0 c1 c2 c3
  obtain ⟨f, hf⟩ : ∃ f, fnum x.h (elen x.l) = f := ⟨_, rfl⟩
  have hf4 : f = 1 ∨ f = 2 ∨ f = 3 ∨ f = 4 := by
    have h5 : f ≤ 4 := by rw [← hf]; unfold fnum; (split; omega; split; omega; split; omega; split; omega; omega)
    have h6 : f ≠ 0 := fun e => by
      have := toldX_none (d := d) (hf.trans e)
      rw [HT.out] at this; cases this
    omega
  rcases hf4 with rfl | rfl | rfl | rfl
  · have hk := fnumK.1 hf
    have n1 : (x.h.k == 1) = true := by simp [hk]
    clear hk
    have hr : Hid (evX ts A (withN bs (varN ns V)) (d + 1) x = some x.h.n) := evX_num hf
    obtain ⟨sa1, sc1, rfl⟩ := hv.shape
    clear hf hv
    go_enter Tryz.func45, Tryz.ntmps45
    go_wp2
    exact bodyPost_ret (v := .tuple #[.int .i64 x.h.n, .bool true]) (by simp [results, Tryz.results45, go_sem]) rfl ⟨by rw [hr.out]; rfl, B0.out⟩
  · have hk := fnumK.2.1 hf
    have n1 : (x.h.k == 1) = false := by simp [hk]
    have n2 : (x.h.k == 2) = true := by simp [hk]
    clear hk
    have hr : Hid (evX ts A (withN bs (varN ns V)) (d + 1) x = some (withN bs (varN ns V) x.h.s)) := evX_var hf
    obtain ⟨sa1, sc1, rfl⟩ := hv.shape
    clear hf hv
    go_enter Tryz.func45, Tryz.ntmps45
    go_wp2_with fail
    refine (l7Name_is HL.out R x.h.s _ R0.out).mono ?_
    rintro e w1 ⟨rfl, rfl⟩
    go_wp2
    exact bodyPost_ret (v := .tuple #[.int .i64 (withN bs (varN ns V) x.h.s), .bool true]) (by simp [results, Tryz.results45, go_sem]) rfl ⟨by rw [hr.out]; rfl, B0.out⟩
  · have hk := (fnumK.2.2.1 hf).1
    have n1 : (x.h.k == 1) = false := by simp [hk]
    have n2 : (x.h.k == 2) = false := by simp [hk]
    have n3 : (x.h.k == 3) = true := by simp [hk]
    clear hk
    have hl1 := (fnumK.2.2.1 hf).2
    obtain ⟨p0, q0, hh, ll, hl⟩ := len1 hl1
    have hr := hid (evX_at (ts := ts) (A := A) (nm := withN bs (varN ns V)) (d := d) (y := ⟨hh, ll⟩) hf hl)
    have TY := hid (told_at (y := ⟨hh, ll⟩) hf hl HT.out)
    rw [hl] at HV
    obtain ⟨b, o, c, u, rfl, hrg, hu⟩ := evOne (y := ⟨hh, ll⟩) HV.out
    have RG := hid hrg
    have HU := hid hu
    obtain ⟨ua, uc, rfl⟩ := hu.shape
    obtain ⟨c0, c1, c2, c3⟩ := HC.out
    obtain ⟨kk, hkk⟩ : ∃ kk, arrGo ts 0 x.h.s = kk := ⟨_, rfl⟩
    have HK := hid hkk
    clear hf hv hrg hu hl hl1 hkk
    go_enter Tryz.func45, Tryz.ntmps45
    go_wp2_with (refine wpList_load_mid rfl 43 _ rfl b o rfl _ _ RG.out Tryz.underlying43 rfl sizeExp4 ?_)
    refine (IH.out ⟨hh, ll⟩ _ _ TY.out HU.out R0.out).mono ?_
    rintro e w2 ⟨he, hb2⟩
    have R2 := hid (R0.out.later hb2)
    have B2 := hid (B0.out.trans (hb2.mono B0.out.size))
    clear c0 c1 c2 c3
    obtain ⟨_, _, c2, _⟩ := HC.out
    replace c2 := keeps hb2 c2
    obtain ⟨r, hrr⟩ : ∃ r, evX ts A (withN bs (varN ns V)) d ⟨hh, ll⟩ = r := ⟨_, rfl⟩
    rw [hrr] at hr he
    clear hb2 hrr RG
    cases r with
    | none =>
      obtain rfl : e = .returned (.tuple #[.int .i64 0, .bool false]) := he
      go_wp2_with fail
      have bd : Below w2.heap.size w2 w2.drew := (Below.refl _ w2).drew
      have R2d := R2.out.later bd
      have c2d := keeps bd c2
      refine wp_region_held_drew (S := fun w' => w'.rangeAt R 0 [va, vb] ∧ w'.cell? ⟨w.heap.size, 2, Option.none⟩ = some (.string x.h.s)) (by kernel_rfl) ⟨rrProg R2d, c2d⟩ (fun hHeld => ?_)
      refine wpAnyH_take (i := 0) (v := .pointer (some ⟨R, 0, Option.none⟩)) rfl (by kernel_rfl) (by kernel_rfl) (by kernel_rfl) (fun _ _ _ => id) (Or.inl ⟨by rfl, ?ra0⟩) hHeld ?_
      case ra0 => intro w hSw; go_simp
      simp only [Act.put, zp]
      refine wpAnyH_take (i := 1) (v := .pointer (some ⟨R, 0, Option.none⟩)) rfl (by kernel_rfl) (by kernel_rfl) (by kernel_rfl) (fun _ _ _ => id) (Or.inl ⟨by rfl, ?ra1⟩) hHeld ?_
      case ra1 => intro w hSw; go_simp
      simp only [Act.put, zp]
      refine wpAnyH_take (i := 2) (v := .pointer (some ⟨R, 0, Option.none⟩)) rfl (by kernel_rfl) (by kernel_rfl) (by kernel_rfl) (fun _ _ _ => id) (Or.inl ⟨by rfl, ?ra2⟩) hHeld ?_
      case ra2 => intro w hSw; go_simp
      simp only [Act.put, zp]
      refine wpAnyH_take (i := 3) (v := .agg #[va, vb]) rfl (by kernel_rfl) (by kernel_rfl) (by kernel_rfl) (fun _ _ _ => id) (yieldsIf_load_mid (by rfl) 27 _ rfl (R) (0) rfl [va, vb] _ (fun w h => h.1) Tryz.underlying27 rfl sizeProg2) hHeld ?_
      simp only [Act.put, zp]
      refine wpAnyH_take (i := 4) (v := .pointer (some ⟨w.heap.size, 2, Option.none⟩)) rfl (by kernel_rfl) (by kernel_rfl) (by kernel_rfl) (fun _ _ _ => id) (Or.inl ⟨by rfl, ?ra4⟩) hHeld ?_
      case ra4 => intro w hSw; go_simp
      simp only [Act.put, zp]
      refine wpAnyH_take (i := 5) (v := .string x.h.s) rfl (by kernel_rfl) (by kernel_rfl) (by kernel_rfl) (fun _ _ _ => id) (Or.inl ⟨by rfl, ?ra5⟩) hHeld ?_
      case ra5 => intro w hSw; have h2 := hSw.2; go_simp
      simp only [Act.put, zp]
      refine wpAnyH_ready (rs := [6]) (by kernel_rfl) (by simp) ?_
      refine AllReadyH.cons rfl (fun K hK => ?_) AllReadyH.nil
      rw [if_pos (by rfl)]
      simp only [zq]
      go_wp2_with fail
      refine (spec_ArrAt ts HL.out.t x.h.s va vb HVB.out _ R2d.p).mono ?_
      rintro e w3 ⟨rfl, hb3⟩
      rw [HK.out]
      go_wp2_with fail
      refine hK.out _ _ (⟨rangeAt_later hHeld.1 hb3, keeps hb3 hHeld.2⟩) (fun hHeld => ?_)
      have R3 := hid (R2d.later hb3)
      have B3 := hid (B2.out.trans ((bd.trans (hb3.mono bd.size)).mono B2.out.size))
      clear R2d c2d bd hb3
      refine wpAnyH_take (i := 7) (v := .int .i64 kk) rfl (by kernel_rfl) (by kernel_rfl) (by kernel_rfl) (fun _ _ _ => id) (Or.inl ⟨by rfl, ?ra7⟩) hHeld ?_
      case ra7 => intro w hSw; go_simp
      simp only [Act.put, zp]
      refine wpAnyH_done (by kernel_rfl) ?_ _
      clear hHeld
      go_wp2
      exact bodyPost_ret (v := .tuple #[.int .i64 0, .bool false]) (by simp [results, Tryz.results45, go_sem]) rfl ⟨by rw [hr.out]; rfl, B3.out⟩
    | some p =>
      obtain rfl : e = .returned (.tuple #[.int .i64 p, .bool true]) := he
      go_wp2_with fail
      have bd : Below w2.heap.size w2 w2.drew := (Below.refl _ w2).drew
      have R2d := R2.out.later bd
      have c2d := keeps bd c2
      refine wp_region_held_drew (S := fun w' => w'.rangeAt R 0 [va, vb] ∧ w'.cell? ⟨w.heap.size, 2, Option.none⟩ = some (.string x.h.s)) (by kernel_rfl) ⟨rrProg R2d, c2d⟩ (fun hHeld => ?_)
      refine wpAnyH_take (i := 0) (v := .pointer (some ⟨R, 0, Option.none⟩)) rfl (by kernel_rfl) (by kernel_rfl) (by kernel_rfl) (fun _ _ _ => id) (Or.inl ⟨by rfl, ?rb0⟩) hHeld ?_
      case rb0 => intro w hSw; go_simp
      simp only [Act.put, zp]
      refine wpAnyH_take (i := 1) (v := .pointer (some ⟨R, 0, Option.none⟩)) rfl (by kernel_rfl) (by kernel_rfl) (by kernel_rfl) (fun _ _ _ => id) (Or.inl ⟨by rfl, ?rb1⟩) hHeld ?_
      case rb1 => intro w hSw; go_simp
      simp only [Act.put, zp]
      refine wpAnyH_take (i := 2) (v := .pointer (some ⟨R, 0, Option.none⟩)) rfl (by kernel_rfl) (by kernel_rfl) (by kernel_rfl) (fun _ _ _ => id) (Or.inl ⟨by rfl, ?rb2⟩) hHeld ?_
      case rb2 => intro w hSw; go_simp
      simp only [Act.put, zp]
      refine wpAnyH_take (i := 3) (v := .agg #[va, vb]) rfl (by kernel_rfl) (by kernel_rfl) (by kernel_rfl) (fun _ _ _ => id) (yieldsIf_load_mid (by rfl) 27 _ rfl (R) (0) rfl [va, vb] _ (fun w h => h.1) Tryz.underlying27 rfl sizeProg2) hHeld ?_
      simp only [Act.put, zp]
      refine wpAnyH_take (i := 4) (v := .pointer (some ⟨w.heap.size, 2, Option.none⟩)) rfl (by kernel_rfl) (by kernel_rfl) (by kernel_rfl) (fun _ _ _ => id) (Or.inl ⟨by rfl, ?rb4⟩) hHeld ?_
      case rb4 => intro w hSw; go_simp
      simp only [Act.put, zp]
      refine wpAnyH_take (i := 5) (v := .string x.h.s) rfl (by kernel_rfl) (by kernel_rfl) (by kernel_rfl) (fun _ _ _ => id) (Or.inl ⟨by rfl, ?rb5⟩) hHeld ?_
      case rb5 => intro w hSw; have h2 := hSw.2; go_simp
      simp only [Act.put, zp]
      refine wpAnyH_ready (rs := [6]) (by kernel_rfl) (by simp) ?_
      refine AllReadyH.cons rfl (fun K hK => ?_) AllReadyH.nil
      rw [if_pos (by rfl)]
      simp only [zq]
      go_wp2_with fail
      refine (spec_ArrAt ts HL.out.t x.h.s va vb HVB.out _ R2d.p).mono ?_
      rintro e w3 ⟨rfl, hb3⟩
      rw [HK.out]
      go_wp2_with fail
      refine hK.out _ _ (⟨rangeAt_later hHeld.1 hb3, keeps hb3 hHeld.2⟩) (fun hHeld => ?_)
      have R3 := hid (R2d.later hb3)
      have B3 := hid (B2.out.trans ((bd.trans (hb3.mono bd.size)).mono B2.out.size))
      clear R2d c2d bd hb3
      refine wpAnyH_take (i := 7) (v := .int .i64 kk) rfl (by kernel_rfl) (by kernel_rfl) (by kernel_rfl) (fun _ _ _ => id) (Or.inl ⟨by rfl, ?rb7⟩) hHeld ?_
      case rb7 => intro w hSw; go_simp
      simp only [Act.put, zp]
      refine wpAnyH_done (by kernel_rfl) ?_ _
      clear hHeld
      obtain ⟨_, d3, _, _, _, _⟩ := R3.out.cells
      obtain ⟨x1, y1, e1⟩ := R3.out.a.shape
      subst e1
      by_cases hin : 0 ≤ kk ∧ kk ≤ (A.length : Int) - 1
      · have D1 := hid (decT hin)
        obtain ⟨k, rfl⟩ : ∃ k : Nat, kk = (k : Int) := ⟨kk.toNat, by omega⟩
        obtain ⟨xs, hxs⟩ : ∃ xs, A[k]? = some xs := ⟨A[k]'(by omega), List.getElem?_eq_getElem _⟩
        have hkl : (k : Int) < (A.length : Int) := by omega
        obtain ⟨g, off, u1, rfl, A0, hu1⟩ := R3.out.a.at hxs
        have hxl := HL.out.b xs (List.mem_of_getElem? hxs)
        have HU1 := hid hu1
        obtain ⟨pa, qa, rfl⟩ := hu1.shape
        by_cases hp : 0 ≤ p ∧ p ≤ (xs.length : Int) - 1
        · have D2 := hid (decT hp)
          obtain ⟨m, rfl⟩ : ∃ m : Nat, p = (m : Int) := ⟨p.toNat, by omega⟩
          obtain ⟨z, hz⟩ : ∃ z, xs[m]? = some z := ⟨xs[m]'(by omega), List.getElem?_eq_getElem _⟩
          obtain ⟨g2, off2, rfl, Z0⟩ := HU1.out.at hz
          have hml : (m : Int) < (xs.length : Int) := by omega
          have hrr : Hid (evX ts A (withN bs (varN ns V)) (d + 1) x = some z) := hr.out.trans (by
            show inA ts A x.h.s (m : Int) = some z
            rw [inA, HK.out, if_neg (by omega), if_neg (by omega), Int.toNat_natCast, Int.toNat_natCast, hxs]; exact hz)
          clear hxs hu1 hz hin hp
          go_wp2_with fail
          refine (l1In_is (k : Int) 0 ((A.length : Int) - 1) _).mono ?_
          rintro e w9 ⟨rfl, rfl⟩
          rw [D1.out]
          go_wp2_with fail
          refine (l1In_is (m : Int) 0 ((xs.length : Int) - 1) _).mono ?_
          rintro e w9 ⟨rfl, rfl⟩
          rw [D2.out]
          go_wp2
          exact bodyPost_ret (v := .tuple #[.int .i64 z, .bool true]) (by simp [results, Tryz.results45, go_sem]) rfl ⟨by rw [hrr.out]; rfl, B3.out⟩
        · have D2 := hid (decF hp)
          have hrr : Hid (evX ts A (withN bs (varN ns V)) (d + 1) x = none) := hr.out.trans (by
            show inA ts A x.h.s p = none
            rw [inA, HK.out, if_neg (by omega)]
            split
            · rfl
            · rw [Int.toNat_natCast, hxs]; exact List.getElem?_eq_none (by omega))
          clear hxs hu1 hin hp
          go_wp2_with fail
          refine (l1In_is (k : Int) 0 ((A.length : Int) - 1) _).mono ?_
          rintro e w9 ⟨rfl, rfl⟩
          rw [D1.out]
          go_wp2_with fail
          refine (l1In_is p 0 ((xs.length : Int) - 1) _).mono ?_
          rintro e w9 ⟨rfl, rfl⟩
          rw [D2.out]
          go_wp2
          exact bodyPost_ret (v := .tuple #[.int .i64 0, .bool false]) (by simp [results, Tryz.results45, go_sem]) rfl ⟨by rw [hrr.out]; rfl, B3.out⟩
      · have D1 := hid (decF hin)
        have hrr : Hid (evX ts A (withN bs (varN ns V)) (d + 1) x = none) := hr.out.trans (inA_none HK.out hin)
        clear hin
        go_wp2_with fail
        refine (l1In_is kk 0 ((A.length : Int) - 1) _).mono ?_
        rintro e w9 ⟨rfl, rfl⟩
        rw [D1.out]
        go_wp2
        exact bodyPost_ret (v := .tuple #[.int .i64 0, .bool false]) (by simp [results, Tryz.results45, go_sem]) rfl ⟨by rw [hrr.out]; rfl, B3.out⟩
  · have hk := fnum4 hf
    have hl2 := fnumK.2.2.2 hf
    obtain ⟨p0, q0, hh, ll, p1, q1, hh', ll', hl⟩ := len2 hl2
    have hr := hid (evX_pair (ts := ts) (A := A) (nm := withN bs (varN ns V)) (d := d) (y := ⟨hh, ll⟩) (z := ⟨hh', ll'⟩) hf hl)
    have TY := hid (told_pair (y := ⟨hh, ll⟩) (z := ⟨hh', ll'⟩) hf hl HT.out)
    rw [hl] at HV
    obtain ⟨b, o, c, u, u', rfl, hrg, hrg', hu, hu'⟩ := evTwo (y := ⟨hh, ll⟩) (z := ⟨hh', ll'⟩) HV.out
    have RG := hid hrg
    have RG' := hid hrg'
    have HU := hid (And.intro hu hu')
    obtain ⟨ua, uc, rfl⟩ := hu.shape
    obtain ⟨ua', uc', rfl⟩ := hu'.shape
    obtain ⟨c0, c1, c2, c3⟩ := HC.out
    have HK4 := hid hk
    have n1 := int_ne (show ¬ x.h.k = 1 by omega)
    have n2 := int_ne (show ¬ x.h.k = 2 by omega)
    have n3 := int_ne (show ¬ x.h.k = 3 by omega)
    clear hf hv hrg hrg' hu hu' hl hl2 hk
    go_enter Tryz.func45, Tryz.ntmps45
    go_wp2_with (refine wpList_load_mid rfl 43 _ rfl b o rfl _ _ RG.out Tryz.underlying43 rfl sizeExp4 ?_)
    refine (IH.out ⟨hh, ll⟩ _ _ TY.out.1 HU.out.1 R0.out).mono ?_
    rintro e w2 ⟨he, hb2⟩
    have R2 := hid (R0.out.later hb2)
    have B2 := hid (B0.out.trans (hb2.mono B0.out.size))
    have RG2 := hid (rangeAt_later RG'.out hb2)
    have HU2 := hid (HU.out.2.later hb2)
    clear c0 c1 c2 c3
    obtain ⟨c0, _, _, c3⟩ := HC.out
    replace c0 := keeps hb2 c0
    replace c3 := keeps hb2 c3
    obtain ⟨r, hrr⟩ : ∃ r, evX ts A (withN bs (varN ns V)) d ⟨hh, ll⟩ = r := ⟨_, rfl⟩
    rw [hrr] at hr he
    clear hb2 hrr RG RG'
    cases r with
    | none =>
      obtain rfl : e = .returned (.tuple #[.int .i64 0, .bool false]) := he
      go_wp2
      exact bodyPost_ret (v := .tuple #[.int .i64 0, .bool false]) (by simp [results, Tryz.results45, go_sem]) rfl ⟨by rw [hr.out]; rfl, B2.out⟩
    | some p =>
      obtain rfl : e = .returned (.tuple #[.int .i64 p, .bool true]) := he
      go_wp2_with (refine wpList_load_mid rfl 43 _ rfl b (o + 4) rfl _ _ RG2.out Tryz.underlying43 rfl sizeExp4 ?_)
      refine (IH.out ⟨hh', ll'⟩ _ _ TY.out.2 HU2.out R2.out).mono ?_
      rintro e w3 ⟨he, hb3⟩
      have B3 := hid (B2.out.trans (hb3.mono B2.out.size))
      replace c0 := keeps hb3 c0
      obtain ⟨r2, hrr⟩ : ∃ r, evX ts A (withN bs (varN ns V)) d ⟨hh', ll'⟩ = r := ⟨_, rfl⟩
      rw [hrr] at hr he
      clear hb3 hrr c3 RG2
      cases r2 with
      | none =>
        obtain rfl : e = .returned (.tuple #[.int .i64 0, .bool false]) := he
        go_wp2
        exact bodyPost_ret (v := .tuple #[.int .i64 0, .bool false]) (by simp [results, Tryz.results45, go_sem]) rfl ⟨by rw [hr.out]; rfl, B3.out⟩
      | some p2 =>
        obtain rfl : e = .returned (.tuple #[.int .i64 p2, .bool true]) := he
        go_wp2_with fail
        refine (l7Op_is x.h.k p p2 HK4.out _).mono ?_
        rintro e w5 ⟨rfl, rfl⟩
        go_wp2
        exact bodyPost_ret (v := .tuple #[.int .i64 (opV x.h.k p p2), .bool true]) (by simp [results, Tryz.results45, go_sem]) rfl ⟨by rw [hr.out]; rfl, B3.out⟩
theorem l7Exp_all {R : Nat} {ts : List AR} {ns : List ByteArray} {A : List (List Int)} {V : List Int} {bs : List AR} {va vb nv sa sv so : Value} {en : Int} {bv : Value} {fuel : Int} (hl : RL ts ns A V bs) (hvb : vb.oneCell' = true) : ∀ d, SpC R ts ns A V bs va vb nv sa sv so en bv fuel d
  | 0 => fun x w v ht _ _ => by rw [toldX_zero] at ht; cases ht
  | d + 1 => l7Exp_step hl hvb (l7Exp_all hl hvb d)
theorem evCall {ts : List AR} {A : List (List Int)} {va vb sa sv so fv : Value} {en : Int} {J : World → Prop} {nm : ByteArray → Int} (h1 : ts.length ≤ 1048576) (h2 : A.length ≤ 100000000) (h3 : ∀ xs ∈ A, xs.length ≤ 100000000) (h4 : vb.oneCell' = true) (h5 : sv.oneCell' = true) (h6 : so.oneCell' = true) (lk : Lk fv J nm) (x : X) (w : World) (v : Value) (ht : toldX 8 x = true) (hv : EV w 0 x.l v) (hJ : J w) (hp : AV w 0 va ts) (hi : IIV w 0 sa A) :
    Calls Tryz.prog 42 #[.agg #[va, vb], .agg #[sa, sv, so, .int .i64 en], fv, .agg #[.int .i64 x.h.k, .int .i64 x.h.n, .string x.h.s, v]] w fun e w' => e = valR (evX ts A nm 8 x) ∧ Below w.heap.size w w' :=
  valueOf_all (J := fun W => J W ∧ AV W 0 va ts ∧ IIV W 0 sa A) ⟨h1, h2, h3, h4, h5, h6, ⟨(by obtain ⟨kf, caps, e1, e2, e3⟩ := lk.is; exact ⟨kf, caps, e1, e2, fun W hW s => e3 W hW.1 s⟩), fun W W' hW hb => ⟨lk.on W W' hW.1 hb, hW.2.1.later hb, hW.2.2.later hb⟩⟩, fun W hW => hW.2⟩ 8 x w v ht hv ⟨hJ, hp, hi⟩
def evalP (ts : List AR) (ns : List ByteArray) (A : List (List Int)) (V : List Int) (bs : List AR) (x : X) : Option Int := if expOk x = true then evX ts A (withN bs (varN ns V)) 8 x else none
theorem impl_Eval (ts : List AR) (F : SF) (ns : List ByteArray) (A : List (List Int)) (V O : List Int) (bs : List AR) (x : X) (hl : RL ts ns A V bs) (hO : O.length ≤ 100000000) (hx : xsize x ≤ 1048576) (va vb sa sv so bv v : Value) (en : Int) (w : World) (ha : AV w 0 va ts) (hb : SV w 0 F vb) (hs : StoV w sa sv so A V O) (hbb : AV w 0 bv bs) (hv : EV w 0 x.l v)
    (hV : ∀ w v, SV w 0 F v → Calls Tryz.prog 26 #[v] w fun e w' => ∃ nv, e = .returned nv ∧ TV w' 0 nv ns ∧ Below w.heap.size w w') :
    Calls Tryz.prog 16 #[.agg #[va, vb], .agg #[sa, sv, so, .int .i64 en], bv, .agg #[.int .i64 x.h.k, .int .i64 x.h.n, .string x.h.s, v]] w fun e w' => e = valR (evalP ts ns A V bs x) ∧ Below w.heap.size w w' := by
  have HA := hid (And.intro ha (And.intro hb (And.intro hs (And.intro hbb hv))))
  have HV := hid hV
  have HL := hid hl
  have HXS := hid hx
  have V0 := hid (VB.start w va vb sa sv so en #[.int .i64 x.h.k, .int .i64 x.h.n, .string x.h.s, v] 43)
  obtain ⟨a1, b1, rfl⟩ := ha.shape
  obtain ⟨a2, b2, rfl⟩ := hb.shape
  obtain ⟨a3, b3, rfl⟩ := hs.a.shape
  obtain ⟨a4, b4, rfl⟩ := hs.v.shape
  obtain ⟨a5, b5, rfl⟩ := hs.o.shape
  obtain ⟨a6, b6, rfl⟩ := hbb.shape
  obtain ⟨a7, b7, rfl⟩ := hv.shape
  clear ha hb hs hbb hv hV hl hx hO
  go_enter Tryz.func16, Tryz.ntmps16
  go_wp2_with (refine wpList_load_mid rfl 43 _ rfl (w.heap.size + 2) 0 rfl _ _ V0.out.re Tryz.underlying43 rfl sizeExp4 ?_)
  refine (impl_ExpOk x (by have := HXS.out; have h := enodes_le x.l; unfold xsize at this; omega) _ _ (HA.out.2.2.2.2.later V0.out.b)).mono ?_
  rintro e w1 ⟨rfl, hb1⟩
  have V1 := hid (V0.out.later hb1)
  clear hb1 V0
  obtain ⟨ok, hok⟩ : ∃ ok, expOk x = ok := ⟨_, rfl⟩
  rw [hok]
  cases ok with
  | false =>
    have hr : Hid (evalP ts ns A V bs x = none) := show evalP ts ns A V bs x = none by rw [evalP, hok]; rfl
    clear hok
    go_wp2
    exact bodyPost_ret (v := .tuple #[.int .i64 0, .bool false]) (by simp [results, Tryz.results16, go_sem]) rfl ⟨by rw [hr.out]; rfl, V1.out.b⟩
  | true =>
  have hr : Hid (evalP ts ns A V bs x = evX ts A (withN bs (varN ns V)) 8 x) := show evalP ts ns A V bs x = _ by rw [evalP, hok]; rfl
  have TX : Hid (toldX 8 x = true) := by unfold expOk at hok; simp at hok; exact hok.1
  clear hok
  go_wp2_with fail
  have bd : Below w1.heap.size w1 w1.drew := (Below.refl _ w1).drew
  have Vd := V1.out.later bd
  refine wp_region_held_drew (S := fun w' => w'.rangeAt w.heap.size 0 [.slice a1 ts.length b1, .slice a2 (slen F) b2] ∧ w'.rangeAt (w.heap.size + 1) 0 [.slice a3 A.length b3, .slice a4 V.length b4, .slice a5 O.length b5, .int .i64 en] ∧ w'.rangeAt (w.heap.size + 2) 0 [.int .i64 x.h.k, .int .i64 x.h.n, .string x.h.s, .slice a7 (elen x.l) b7]) (by kernel_rfl) ⟨Vd.rp, Vd.rs, Vd.re⟩ (fun hHeld => ?_)
  refine wpAnyH_take (i := 0) (v := .agg ([.slice a1 ts.length b1, .slice a2 (slen F) b2] : List Value).toArray) rfl (by kernel_rfl) (by kernel_rfl) (by kernel_rfl) (fun _ _ _ => id) (yieldsIf_load_mid (by rfl) 27 _ rfl (w.heap.size) (0) rfl [.slice a1 ts.length b1, .slice a2 (slen F) b2] _ (fun w h => h.1) Tryz.underlying27 rfl sizeProg2) hHeld ?_
  simp only [Act.put, zp]
  refine wpAnyH_take (i := 1) (v := .agg ([.slice a3 A.length b3, .slice a4 V.length b4, .slice a5 O.length b5, .int .i64 en] : List Value).toArray) rfl (by kernel_rfl) (by kernel_rfl) (by kernel_rfl) (fun _ _ _ => id) (yieldsIf_load_mid (by rfl) 33 _ rfl (w.heap.size + 1) (0) rfl [.slice a3 A.length b3, .slice a4 V.length b4, .slice a5 O.length b5, .int .i64 en] _ (fun w h => h.2.1) Tryz.underlying33 rfl sizeSto2) hHeld ?_
  simp only [Act.put, zp]
  refine wpAnyH_take (i := 2) (v := .pointer (some ⟨w.heap.size, 1, Option.none⟩)) rfl (by kernel_rfl) (by kernel_rfl) (by kernel_rfl) (fun _ _ _ => id) (Or.inl ⟨by rfl, ?ia2⟩) hHeld ?_
  case ia2 => intro w hSw; go_simp
  simp only [Act.put, zp]
  refine wpAnyH_take (i := 3) (v := .slice a2 (slen F) b2) rfl (by kernel_rfl) (by kernel_rfl) (by kernel_rfl) (fun _ _ _ => id) (Or.inl ⟨by rfl, ?ia3⟩) hHeld ?_
  case ia3 => intro w hSw; have h2 := hSw.1 1 _ rfl; go_simp
  simp only [Act.put, zp]
  refine wpAnyH_take (i := 5) (v := .pointer (some ⟨w.heap.size + 1, 1, Option.none⟩)) rfl (by kernel_rfl) (by kernel_rfl) (by kernel_rfl) (fun _ _ _ => id) (Or.inl ⟨by rfl, ?ia5⟩) hHeld ?_
  case ia5 => intro w hSw; go_simp
  simp only [Act.put, zp]
  refine wpAnyH_take (i := 6) (v := .slice a4 V.length b4) rfl (by kernel_rfl) (by kernel_rfl) (by kernel_rfl) (fun _ _ _ => id) (Or.inl ⟨by rfl, ?ia6⟩) hHeld ?_
  case ia6 => intro w hSw; have h2 := hSw.2.1 1 _ rfl; go_simp
  simp only [Act.put, zp]
  refine wpAnyH_take (i := 8) (v := .slice a6 bs.length b6) rfl (by kernel_rfl) (by kernel_rfl) (by kernel_rfl) (fun _ _ _ => id) (Or.inl ⟨by rfl, ?ia8⟩) hHeld ?_
  case ia8 => intro w hSw; go_simp
  simp only [Act.put, zp]
  refine wpAnyH_take (i := 10) (v := .agg ([.int .i64 x.h.k, .int .i64 x.h.n, .string x.h.s, .slice a7 (elen x.l) b7] : List Value).toArray) rfl (by kernel_rfl) (by kernel_rfl) (by kernel_rfl) (fun _ _ _ => id) (yieldsIf_load_mid (by rfl) 43 _ rfl (w.heap.size + 2) (0) rfl [.int .i64 x.h.k, .int .i64 x.h.n, .string x.h.s, .slice a7 (elen x.l) b7] _ (fun w h => h.2.2) Tryz.underlying43 rfl sizeExp4) hHeld ?_
  simp only [Act.put, zp]
  refine wpAnyH_ready (rs := [4]) (by kernel_rfl) (by simp) ?_
  refine AllReadyH.cons rfl (fun K hK => ?_) AllReadyH.nil
  rw [if_pos (by rfl)]
  simp only [zq]
  go_wp2_with fail
  refine (HV.out _ _ (HA.out.2.1.later Vd.b)).mono ?_
  rintro e w2 ⟨nv, rfl, hn2, hb2⟩
  have N2 := hid hn2
  obtain ⟨n1, n2, rfl⟩ := hn2.shape
  have V2 := hid (Vd.later hb2)
  go_wp2_with fail
  refine hK.out _ _ (⟨rangeAt_later hHeld.1 hb2, rangeAt_later hHeld.2.1 hb2, rangeAt_later hHeld.2.2 hb2⟩) (fun hHeld => ?_)
  clear hb2 hn2 Vd bd V1
  refine wpAnyH_ready (rs := [7]) (by kernel_rfl) (by simp) ?_
  refine AllReadyH.cons rfl (fun K hK => ?_) AllReadyH.nil
  rw [if_pos (by rfl)]
  simp only [zq]
  go_wp2_with fail
  refine (varWords_is ns V _ _ ⟨_, _, _, rfl⟩ ⟨_, _, _, rfl⟩ _).mono ?_
  rintro e w3 ⟨rfl, hb3, k1, k2⟩
  have V3 := hid (V2.out.later hb3)
  have JW : Hid (JV ns V (.slice n1 ns.length n2) (.slice a4 V.length b4) w2.heap.size (w2.heap.size + 1) w3) := ⟨N2.out.later hb3, HA.out.2.2.1.v.later V3.out.b, k1, k2⟩
  have LK := hid (lkVars ns HL.out.n V HL.out.v (.slice n1 ns.length n2) (.slice a4 V.length b4) w2.heap.size (w2.heap.size + 1))
  go_wp2_with fail
  refine hK.out _ _ (⟨rangeAt_later hHeld.1 hb3, rangeAt_later hHeld.2.1 hb3, rangeAt_later hHeld.2.2 hb3⟩) (fun hHeld => ?_)
  clear hb3 k1 k2 V2
  refine wpAnyH_ready (rs := [9]) (by kernel_rfl) (by simp) ?_
  refine AllReadyH.cons rfl (fun K hK => ?_) AllReadyH.nil
  rw [if_pos (by rfl)]
  simp only [zq]
  go_wp2_with fail
  refine (with_is bs HL.out.w _ _ _ _ LK.out _ JW.out (HA.out.2.2.2.1.later V3.out.b)).mono ?_
  rintro e w4 ⟨gv, rfl, hb4, pb, po, lk4, k1, k2⟩
  have V4 := hid (V3.out.later hb4)
  have LK4 := hid lk4
  have J4 := hid (And.intro (LK.out.on _ _ JW.out hb4) (And.intro (HA.out.2.2.2.1.later V4.out.b) (And.intro k1 k2)))
  have HE4 := hid (HA.out.2.2.2.2.later V4.out.b)
  have HP4 := hid (HA.out.1.later V4.out.b)
  have HI4 := hid (HA.out.2.2.1.a.later V4.out.b)
  go_wp2_with fail
  refine hK.out _ _ (⟨rangeAt_later hHeld.1 hb4, rangeAt_later hHeld.2.1 hb4, rangeAt_later hHeld.2.2 hb4⟩) (fun hHeld => ?_)
  clear hb4 lk4 k1 k2 V3
  refine wpAnyH_ready (rs := [11]) (by kernel_rfl) (by simp) ?_
  refine AllReadyH.cons rfl (fun K hK => ?_) AllReadyH.nil
  rw [if_pos (by rfl)]
  simp only [zq]
  go_wp2_with fail
  refine (evCall HL.out.t HL.out.a HL.out.b rfl rfl rfl LK4.out x w4 (.slice a7 (elen x.l) b7) TX.out HE4.out J4.out HP4.out HI4.out).mono ?_
  rintro e w5 ⟨he, hb5⟩
  have B5 := hid (V4.out.b.trans (hb5.mono V4.out.b.size))
  obtain ⟨r, hrr⟩ : ∃ r, evX ts A (withN bs (varN ns V)) 8 x = r := ⟨_, rfl⟩
  rw [hrr] at hr he
  obtain rfl : e = .returned (.tuple #[.int .i64 (r.getD 0), .bool r.isSome]) := he
  go_wp2_with fail
  refine hK.out _ _ (⟨rangeAt_later hHeld.1 hb5, rangeAt_later hHeld.2.1 hb5, rangeAt_later hHeld.2.2 hb5⟩) (fun hHeld => ?_)
  clear hb5 hrr
  refine wpAnyH_take (i := 12) (v := .int .i64 (r.getD 0)) rfl (by kernel_rfl) (by kernel_rfl) (by kernel_rfl) (fun _ _ _ => id) (Or.inl ⟨by rfl, ?ib12⟩) hHeld ?_
  case ib12 => intro w hSw; go_simp
  simp only [Act.put, zp]
  refine wpAnyH_take (i := 13) (v := .bool r.isSome) rfl (by kernel_rfl) (by kernel_rfl) (by kernel_rfl) (fun _ _ _ => id) (Or.inl ⟨by rfl, ?ib13⟩) hHeld ?_
  case ib13 => intro w hSw; go_simp
  simp only [Act.put, zp]
  refine wpAnyH_take (i := 14) (v := .int .i64 (r.getD 0)) rfl (by kernel_rfl) (by kernel_rfl) (by kernel_rfl) (fun _ _ _ => id) (Or.inl ⟨by rfl, ?ib14⟩) hHeld ?_
  case ib14 => intro w hSw; go_simp
  simp only [Act.put, zp]
  refine wpAnyH_take (i := 15) (v := .bool r.isSome) rfl (by kernel_rfl) (by kernel_rfl) (by kernel_rfl) (fun _ _ _ => id) (Or.inl ⟨by rfl, ?ib15⟩) hHeld ?_
  case ib15 => intro w hSw; go_simp
  simp only [Act.put, zp]
  refine wpAnyH_done (by kernel_rfl) ?_ _
  clear hHeld
  go_wp2
  exact bodyPost_ret (v := .tuple #[.int .i64 (r.getD 0), .bool r.isSome]) (by simp [results, Tryz.results16, go_sem]) rfl ⟨by rw [hr.out]; rfl, B5.out⟩
end Go.Proofs.YtpinockfakndlaaGreat
