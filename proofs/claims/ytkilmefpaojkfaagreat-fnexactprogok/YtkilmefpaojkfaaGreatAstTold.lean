/-
  What it is that an expression is as told; the contract of the landed code's expAsTold.
-/
import Derived.Test.YtkilmefpaojkfaaGreatAstForm
import Derived.Test.YtkilmefpaojkfaaGreatTokName
namespace Go.Proofs.YtkilmefpaojkfaaGreat
open Go.RowKit Go.Lib
set_option linter.unusedSimpArgs false
set_option linter.unusedVariables false

def here (h : EH) (n : Nat) : Bool :=
  match fnum h n with
  | 1 => decide (0 ≤ h.n) && decide (h.n ≤ 999999)
  | 2 => nameOk h.s.data.toList
  | 3 => nameOk h.s.data.toList
  | 4 => true
  | _ => false
def toldF : Nat → EF → Bool
  | _, .nil => true
  | d, .node _ _ h l r => decide (1 ≤ d) && (here h (elen l) && (toldF (d - 1) l && toldF d r))
def toldX (d : Nat) (x : X) : Bool := decide (1 ≤ d) && (here x.h (elen x.l) && toldF (d - 1) x.l)
theorem toldX_zero (x : X) : toldX 0 x = false := rfl
theorem toldX_num {d : Nat} {x : X} (h : fnum x.h (elen x.l) = 1) : toldX (d + 1) x = (decide (0 ≤ x.h.n) && decide (x.h.n ≤ 999999)) := by
  have hl : elen x.l = 0 := by
    unfold fnum at h
    split at h
    · rename_i e; exact e.2.2
    · split at h
      · cases h
      · split at h
        · cases h
        · split at h <;> cases h
  have hn : x.l = .nil := by
    cases hx : x.l with
    | nil => rfl
    | node _ _ _ _ _ => rw [hx] at hl; simp [elen] at hl
  simp only [toldX, here, h]
  rw [hn]; simp [toldF]
theorem toldX_var {d : Nat} {x : X} (h : fnum x.h (elen x.l) = 2) : toldX (d + 1) x = nameOk x.h.s.data.toList := by
  have hl : elen x.l = 0 := by
    unfold fnum at h
    split at h
    · cases h
    · split at h
      · rename_i e; exact e.2.2
      · split at h
        · cases h
        · split at h <;> cases h
  have hn : x.l = .nil := by
    cases hx : x.l with
    | nil => rfl
    | node _ _ _ _ _ => rw [hx] at hl; simp [elen] at hl
  simp only [toldX, here, h]
  rw [hn]; simp [toldF]
theorem toldX_at {d p q : Nat} {x y : X} (h : fnum x.h (elen x.l) = 3) (e : x.l = .node p q y.h y.l .nil) : toldX (d + 1) x = (nameOk x.h.s.data.toList && toldX d y) := by
  have hh : here x.h (elen x.l) = nameOk x.h.s.data.toList := by simp [here, h]
  unfold toldX
  rw [hh, e]; simp [toldF]
theorem toldX_pair {d p q p' q' : Nat} {x y z : X} (h : fnum x.h (elen x.l) = 4) (e : x.l = .node p q y.h y.l (.node p' q' z.h z.l .nil)) : toldX (d + 1) x = (toldX d y && toldX d z) := by
  have hh : here x.h (elen x.l) = true := by simp [here, h]
  unfold toldX
  rw [hh, e]; simp [toldF, Bool.and_assoc]
theorem toldX_none {d : Nat} {x : X} (h : fnum x.h (elen x.l) = 0) : toldX (d + 1) x = false := by simp [toldX, here, h]
theorem as_nn (v : Value) (w : World) : (Instr.typeAssert (.iface 178 v) 175 178 true).run Tryz.prog w = .ok (.tuple #[v, .bool true]) w := by kernel_rfl
theorem as_nv (v : Value) (w : World) : (Instr.typeAssert (.iface 178 v) 175 180 true).run Tryz.prog w = .ok (.tuple #[.agg #[.string ⟨#[]⟩], .bool false]) w := by kernel_rfl
theorem as_na (v : Value) (w : World) : (Instr.typeAssert (.iface 178 v) 175 182 true).run Tryz.prog w = .ok (.tuple #[.agg #[.string ⟨#[]⟩, .int .i64 0, .int .i64 0, .string ⟨#[]⟩, .slice Option.none 0 0], .bool false]) w := by kernel_rfl
theorem as_np (v : Value) (w : World) : (Instr.typeAssert (.iface 178 v) 175 184 true).run Tryz.prog w = .ok (.tuple #[.agg #[.int .i64 0, .int .i64 0, .string ⟨#[]⟩, .slice Option.none 0 0, .int .i64 0, .int .i64 0, .string ⟨#[]⟩, .slice Option.none 0 0], .bool false]) w := by kernel_rfl
theorem as_vn (v : Value) (w : World) : (Instr.typeAssert (.iface 180 v) 175 178 true).run Tryz.prog w = .ok (.tuple #[.agg #[.int .i64 0], .bool false]) w := by kernel_rfl
theorem as_vv (v : Value) (w : World) : (Instr.typeAssert (.iface 180 v) 175 180 true).run Tryz.prog w = .ok (.tuple #[v, .bool true]) w := by kernel_rfl
theorem as_va (v : Value) (w : World) : (Instr.typeAssert (.iface 180 v) 175 182 true).run Tryz.prog w = .ok (.tuple #[.agg #[.string ⟨#[]⟩, .int .i64 0, .int .i64 0, .string ⟨#[]⟩, .slice Option.none 0 0], .bool false]) w := by kernel_rfl
theorem as_vp (v : Value) (w : World) : (Instr.typeAssert (.iface 180 v) 175 184 true).run Tryz.prog w = .ok (.tuple #[.agg #[.int .i64 0, .int .i64 0, .string ⟨#[]⟩, .slice Option.none 0 0, .int .i64 0, .int .i64 0, .string ⟨#[]⟩, .slice Option.none 0 0], .bool false]) w := by kernel_rfl
theorem as_an (v : Value) (w : World) : (Instr.typeAssert (.iface 182 v) 175 178 true).run Tryz.prog w = .ok (.tuple #[.agg #[.int .i64 0], .bool false]) w := by kernel_rfl
theorem as_av (v : Value) (w : World) : (Instr.typeAssert (.iface 182 v) 175 180 true).run Tryz.prog w = .ok (.tuple #[.agg #[.string ⟨#[]⟩], .bool false]) w := by kernel_rfl
theorem as_aa (v : Value) (w : World) : (Instr.typeAssert (.iface 182 v) 175 182 true).run Tryz.prog w = .ok (.tuple #[v, .bool true]) w := by kernel_rfl
theorem as_ap (v : Value) (w : World) : (Instr.typeAssert (.iface 182 v) 175 184 true).run Tryz.prog w = .ok (.tuple #[.agg #[.int .i64 0, .int .i64 0, .string ⟨#[]⟩, .slice Option.none 0 0, .int .i64 0, .int .i64 0, .string ⟨#[]⟩, .slice Option.none 0 0], .bool false]) w := by kernel_rfl
theorem as_pn (v : Value) (w : World) : (Instr.typeAssert (.iface 184 v) 175 178 true).run Tryz.prog w = .ok (.tuple #[.agg #[.int .i64 0], .bool false]) w := by kernel_rfl
theorem as_pv (v : Value) (w : World) : (Instr.typeAssert (.iface 184 v) 175 180 true).run Tryz.prog w = .ok (.tuple #[.agg #[.string ⟨#[]⟩], .bool false]) w := by kernel_rfl
theorem as_pa (v : Value) (w : World) : (Instr.typeAssert (.iface 184 v) 175 182 true).run Tryz.prog w = .ok (.tuple #[.agg #[.string ⟨#[]⟩, .int .i64 0, .int .i64 0, .string ⟨#[]⟩, .slice Option.none 0 0], .bool false]) w := by kernel_rfl
theorem as_pp (v : Value) (w : World) : (Instr.typeAssert (.iface 184 v) 175 184 true).run Tryz.prog w = .ok (.tuple #[v, .bool true]) w := by kernel_rfl
theorem as_0n (w : World) : (Instr.typeAssert .nilIface 175 178 true).run Tryz.prog w = .ok (.tuple #[.agg #[.int .i64 0], .bool false]) w := by kernel_rfl
theorem as_0v (w : World) : (Instr.typeAssert .nilIface 175 180 true).run Tryz.prog w = .ok (.tuple #[.agg #[.string ⟨#[]⟩], .bool false]) w := by kernel_rfl
theorem as_0a (w : World) : (Instr.typeAssert .nilIface 175 182 true).run Tryz.prog w = .ok (.tuple #[.agg #[.string ⟨#[]⟩, .int .i64 0, .int .i64 0, .string ⟨#[]⟩, .slice Option.none 0 0], .bool false]) w := by kernel_rfl
theorem as_0p (w : World) : (Instr.typeAssert .nilIface 175 184 true).run Tryz.prog w = .ok (.tuple #[.agg #[.int .i64 0, .int .i64 0, .string ⟨#[]⟩, .slice Option.none 0 0, .int .i64 0, .int .i64 0, .string ⟨#[]⟩, .slice Option.none 0 0], .bool false]) w := by kernel_rfl
theorem expAsTold_zero (x : X) (w : World) (v : Value) : Calls Tryz.prog 139 #[.agg #[.int .i64 x.h.k, .int .i64 x.h.n, .string x.h.s, v], .int .i64 0] w fun e w' => e = .returned (.bool false) ∧ Below w.heap.size w w' := by
  go_enter Tryz.func139, Tryz.ntmps139
  go_wp2
  go_ret
  exact ⟨rfl, alloc_below _ _⟩
set_option maxHeartbeats 2000000 in
set_option maxRecDepth 100000 in
theorem expAsTold_step (d : Nat) (hd : d ≤ 100) (ih : ∀ (x : X) (w : World) (v : Value), EV w 0 x.l v → Calls Tryz.prog 139 #[.agg #[.int .i64 x.h.k, .int .i64 x.h.n, .string x.h.s, v], .int .i64 (d : Int)] w fun e w' => e = .returned (.bool (toldX d x)) ∧ Below w.heap.size w w')
    (x : X) (w : World) (v : Value) (hv : EV w 0 x.l v) : Calls Tryz.prog 139 #[.agg #[.int .i64 x.h.k, .int .i64 x.h.n, .string x.h.s, v], .int .i64 ((d : Int) + 1)] w fun e w' => e = .returned (.bool (toldX (d + 1) x)) ∧ Below w.heap.size w w' := by
  have h0 : (((d : Int) + 1) == 0) = false := int_ne (by omega)
  have hdI : (d : Int) ≤ 100 := by omega
  have Hih := Lib.hid ih
  have Hv := Lib.hid hv
  have hb0 : Below w.heap.size w (w.alloc (.cells #[.int .i64 x.h.k, .int .i64 x.h.n, .string x.h.s, v] 55)) := alloc_below _ _
  have Hq : Hid (∀ w, EV w 0 x.l v → Calls Tryz.prog 147 #[.agg #[.int .i64 x.h.k, .int .i64 x.h.n, .string x.h.s, v]] w fun e w' => ∃ fv, e = .returned fv ∧ FormIs w x fv ∧ Below w.heap.size w w') := fun w hv => formOf_is x w v hv
  clear ih hv
  go_enter Tryz.func139, Tryz.ntmps139
  go_wp2_with fail
  refine (Hq.out _ (Hv.out.later hb0)).mono ?_
  rintro e w1 ⟨fv, rfl, hform, hb1⟩
  have B1 := hb0.trans (hb1.mono hb0.size)
  have Hb1 := Lib.hid hb1
  clear hb0 hb1 Hq
  rcases hform with ⟨hf, rfl⟩ | ⟨hf, rfl⟩ | ⟨hf, p, q, y, u, hl, hu, rfl⟩ | ⟨hf, p, q, p', q', y, z, u, u', hl, hu, hu', rfl⟩ | ⟨hf, rfl⟩
  · have ht := Lib.hid (toldX_num (d := d) hf)
    have q1 := as_nn
    clear hf
    by_cases h1 : 0 ≤ x.h.n
    · by_cases h2 : x.h.n ≤ 999999
      · go_wp2
        go_ret
        exact retB (by rw [ht.out, decide_eq_true h1, decide_eq_true h2]; rfl) (B1.alloc B1.size _)
      · have h2' : ¬ x.h.n ≤ 999999 := h2
        go_wp2
        go_ret
        exact retB (by rw [ht.out, decide_eq_true h1]; simp) (B1.alloc B1.size _)
    · have h1' : ¬ 0 ≤ x.h.n := h1
      go_wp2
      go_ret
      exact retB (by rw [ht.out, decide_eq_false (by omega)]; rfl) (B1.alloc B1.size _)
  · have ht := Lib.hid (toldX_var (d := d) hf)
    have q1 := as_vn
    have q2 := as_vv
    obtain ⟨nb, hnb⟩ : ∃ b, nameOk x.h.s.data.toList = b := ⟨_, rfl⟩
    have Hnb := Lib.hid hnb
    clear hf hnb
    go_wp2_with fail
    refine (impl_NameOk x.h.s nb Hnb.out _).mono ?_
    rintro e w2 ⟨rfl, hb2⟩
    have B2 := B1.trans ((below_alloc hb2).mono B1.size)
    clear hb2
    go_wp2
    go_ret
    exact retB (by rw [ht.out, Hnb.out]) B2
  · have ht := Lib.hid (toldX_at (d := d) hf hl)
    have q1 := as_an
    have q2 := as_av
    have q3 := as_aa
    obtain ⟨nb, hnb⟩ : ∃ b, nameOk x.h.s.data.toList = b := ⟨_, rfl⟩
    have Hnb := Lib.hid hnb
    have HU := Lib.hid hu
    obtain ⟨ua, uc, rfl⟩ := hu.shape
    obtain ⟨tv, htv⟩ : ∃ t, toldX d y = t := ⟨_, rfl⟩
    have Htv := Lib.hid htv
    clear hf hnb hu hl htv
    go_wp2_with fail
    refine (impl_NameOk x.h.s nb Hnb.out _).mono ?_
    rintro e w2 ⟨rfl, hb2⟩
    have B2 := B1.trans ((below_alloc hb2).mono B1.size)
    cases nb with
    | false =>
      clear hb2
      go_wp2
      go_ret
      exact retB (by rw [ht.out, Hnb.out]; rfl) B2
    | true =>
      have c1 := box_cell (i := 1) hb2 rfl
      have c2 := box_cell (i := 2) hb2 rfl
      have c3 := box_cell (i := 3) hb2 rfl
      have c4 := box_cell (i := 4) hb2 rfl
      have V2 := Lib.hid (HU.out.later (Hb1.out.trans ((below_alloc hb2).mono Hb1.out.size)))
      clear hb2
      go_wp2_with fail
      refine (Hih.out y _ _ V2.out).mono ?_
      rintro e w3 ⟨rfl, hb3⟩
      rw [Htv.out]
      have B3 := B2.trans (hb3.mono B2.size)
      clear hb3 c1 c2 c3 c4
      go_wp2
      go_ret
      exact retB (by rw [ht.out, Hnb.out, Htv.out]; rfl) B3
  · have ht := Lib.hid (toldX_pair (d := d) hf hl)
    have q1 := as_pn
    have q2 := as_pv
    have q3 := as_pa
    have q4 := as_pp
    have HU := Lib.hid (And.intro hu hu')
    obtain ⟨ua, uc, rfl⟩ := hu.shape
    obtain ⟨ua', uc', rfl⟩ := hu'.shape
    obtain ⟨tv, htv⟩ : ∃ t, toldX d y = t := ⟨_, rfl⟩
    obtain ⟨tz, htz⟩ : ∃ t, toldX d z = t := ⟨_, rfl⟩
    have Htv := Lib.hid (And.intro htv htz)
    clear hf hu hu' hl htv htz
    go_wp2_with fail
    have V1 := HU.out.1.later (Hb1.out.alloc Hb1.out.size (.cells #[.int .i64 y.h.k, .int .i64 y.h.n, .string y.h.s, .slice ua (elen y.l) uc, .int .i64 z.h.k, .int .i64 z.h.n, .string z.h.s, .slice ua' (elen z.l) uc'] 184))
    refine (Hih.out y _ _ V1).mono ?_
    rintro e w2 ⟨rfl, hb2⟩
    rw [Htv.out.1]
    have B2 := B1.trans ((below_alloc hb2).mono B1.size)
    cases tv with
    | false =>
      clear hb2 V1
      go_wp2
      go_ret
      exact retB (by rw [ht.out, Htv.out.1]; rfl) B2
    | true =>
      have c1 := box_cell (i := 4) hb2 rfl
      have c2 := box_cell (i := 5) hb2 rfl
      have c3 := box_cell (i := 6) hb2 rfl
      have c4 := box_cell (i := 7) hb2 rfl
      have V2 := Lib.hid (HU.out.2.later (Hb1.out.trans ((below_alloc hb2).mono Hb1.out.size)))
      clear hb2 V1
      go_wp2_with fail
      refine (Hih.out z _ _ V2.out).mono ?_
      rintro e w3 ⟨rfl, hb3⟩
      rw [Htv.out.2]
      have B3 := B2.trans (hb3.mono B2.size)
      clear hb3 c1 c2 c3 c4
      go_wp2
      go_ret
      exact retB (by rw [ht.out, Htv.out.1, Htv.out.2]; rfl) B3
  · have ht := Lib.hid (toldX_none (d := d) hf)
    have q1 := as_0n
    have q2 := as_0v
    have q3 := as_0a
    have q4 := as_0p
    clear hf
    go_wp2
    go_ret
    exact retB ht.out B1
theorem expAsTold_all : ∀ (d : Nat), d ≤ 100 → ∀ (x : X) (w : World) (v : Value), EV w 0 x.l v → Calls Tryz.prog 139 #[.agg #[.int .i64 x.h.k, .int .i64 x.h.n, .string x.h.s, v], .int .i64 (d : Int)] w fun e w' => e = .returned (.bool (toldX d x)) ∧ Below w.heap.size w w'
  | 0, _, x, w, v, _ => expAsTold_zero x w v
  | d + 1, h, x, w, v, hv => expAsTold_step d (by omega) (fun x w v hv => expAsTold_all d (by omega) x w v hv) x w v hv
end Go.Proofs.YtkilmefpaojkfaaGreat
