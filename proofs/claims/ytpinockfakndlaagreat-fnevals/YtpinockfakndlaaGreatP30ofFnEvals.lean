import Derived.Test.YtpinockfakndlaaGreatZp
import Derived.Test.YtpinockfakndlaaGreatP15ofFnEvals
import Derived.Test.YtpinockfakndlaaGreatP22ofFnEvals
import Derived.Test.YtpinockfakndlaaGreatP20ofFnEvals
import Derived.Test.YtpinockfakndlaaGreatProgSpec
import Derived.Test.YtpinockfakndlaaGreatP21ofFnEvals
import Derived.Test.YtpinockfakndlaaGreatP03ofFnEvals
import Derived.Deep.RegionWith
import Derived.Deep.Cut
import Derived.Deep.CutRange
namespace Go.Proofs.YtpinockfakndlaaGreat
set_option linter.unusedSimpArgs false
set_option linter.unusedVariables false
def kArr : List UInt8 := [97, 114, 114, 97, 121]
def arrP (l : List T) : Option (AR × List T) := match nameT l with
  | none => none
  | some (s, l1) => match numT l1 with
    | none => none
    | some (n, l2) => match eat [59] l2 with
      | none => none
      | some l3 => some (⟨bs s, n⟩, l3)
def arrsL : Nat → List AR → List T → Option (List AR × List T)
  | 0, _, _ => none
  | m + 1, acc, l => match eat kArr l with
    | none => some (acc, l)
    | some l1 => match arrP l1 with
      | none => none
      | some (a, l2) => arrsL m (insA acc a) l2
def allL (st : List T → RestS) : Nat → List T → Option SF
  | 0, _ => none
  | _ + 1, [] => some .nil
  | m + 1, t :: l => match st (t :: l) with
    | none => none
    | some ((h, F), l1) => match allL st m l1 with
      | none => none
      | some G => some (.node 0 0 h F G)
def allP (st : List T → RestS) (l : List T) : Option SF := allL st (l.length + 1) l
def progP (l : List T) : Option (List AR × SF) := match arrsL (l.length + 1) [] l with
  | none => none
  | some (ar, l1) => match allP (stmtP 5) l1 with
    | none => none
    | some F => if progB ar F = true then some (ar, F) else none
def readP (l : List UInt8) : Option (List AR × SF) := (lex l).bind progP
def StM5 (ts : List T) : Option (Int × List T) → Int → Nat → Bool → Prop
  | some (s, l), n, p, bad => bad = false ∧ n = s ∧ ts.drop p = l
  | none, _, _, bad => bad = true
theorem StM5.st {ts : List T} {r : Option (Int × List T)} {n : Int} {p : Nat} {bad : Bool} (h : StM5 ts r n p bad) : St5 ts (r.map Prod.snd) p bad := by
  cases r with
  | none => exact h
  | some y => exact ⟨h.1, h.2.2⟩
theorem St5.num {ts : List T} {g : Option (List T)} {p : Nat} {bad R : Bool} {e : Int} (h : St5 ts g p bad) (hR : kindR bad 2 (ts.drop p) = R) (he : (R = true ∧ ∃ t, ts[p]? = some t ∧ e = t.n) ∨ (R = false ∧ e = 0)) : StM5 ts (g.bind numT) e (p + R.toNat) (bad || !R) := by
  cases g with
  | none =>
    rw [show bad = true from h]
    rfl
  | some l =>
    obtain ⟨rfl, rfl⟩ := h
    show StM5 ts (numT (ts.drop p)) _ _ _
    rcases he with ⟨rfl, t, ht, rfl⟩ | ⟨rfl, rfl⟩
    · have hd := dropT ht
      rw [hd] at hR ⊢
      simp [kindR] at hR
      simp only [numT, hR, if_true]
      exact ⟨rfl, rfl, rfl⟩
    · cases hd : ts.drop p with
      | nil => rfl
      | cons t r =>
        rw [hd] at hR
        simp [kindR] at hR
        simp only [numT, if_neg hR]
        rfl
def BaT (ts : List T) (tot : Option (List AR × List T)) (l : List AR) (p : Nat) : Bool → Prop
  | true => tot = none
  | false => ∃ m, (ts.drop p).length < m ∧ tot = arrsL m l (ts.drop p)
theorem BaT.start (ts : List T) (bad : Bool) : BaT ts (if bad then none else arrsL (ts.length + 1) [] ts) [] 0 bad := by
  cases bad with
  | true => rfl
  | false => exact ⟨ts.length + 1, by simp, rfl⟩
theorem BaT.fin {ts : List T} {tot : Option (List AR × List T)} {l : List AR} {p : Nat} {bad : Bool} (h : BaT ts tot l p bad) (he : bad = false → eat kArr (ts.drop p) = none) : (bad = true ∧ tot = none) ∨ (bad = false ∧ tot = some (l, ts.drop p)) := by
  cases bad with
  | true => exact .inl ⟨rfl, h⟩
  | false =>
    obtain ⟨m, hm, e⟩ := h
    obtain ⟨k, rfl⟩ : ∃ k, m = k + 1 := ⟨m - 1, by omega⟩
    rw [arrsL, he rfl] at e
    exact .inr ⟨rfl, e⟩
theorem BaT.next {ts : List T} {tot : Option (List AR × List T)} {l : List AR} {p p1 p2 p3 : Nat} {b1 b2 b3 : Bool} {nm : ByteArray} {z : Int} (h : BaT ts tot l p false) (he : eat kArr (ts.drop p) = some (ts.drop (p + 1))) (h1 : StN5 ts ((from5 false (ts.drop (p + 1))).bind nameT) nm p1 b1) (h2 : StM5 ts ((((from5 false (ts.drop (p + 1))).bind nameT).map Prod.snd).bind numT) z p2 b2)
    (h3 : St5 ts (((((from5 false (ts.drop (p + 1))).bind nameT).map Prod.snd).bind numT).map Prod.snd |>.bind (eat [59])) p3 b3) (hlt : p < p3) (hp : p3 ≤ ts.length) : BaT ts tot (insA l ⟨nm, z⟩) p3 b3 := by
  obtain ⟨m, hm, e⟩ := h
  obtain ⟨k, rfl⟩ : ∃ k, m = k + 1 := ⟨m - 1, by omega⟩
  rw [arrsL, he] at e
  simp only [] at e
  unfold arrP at e
  have hf : from5 false (ts.drop (p + 1)) = some (ts.drop (p + 1)) := rfl
  rw [hf] at h1 h2 h3
  simp only [Option.bind_some] at h1 h2 h3
  cases e1 : nameT (ts.drop (p + 1)) with
  | none => rw [e1] at h3 e; rw [show b3 = true from h3]; exact e
  | some y =>
    obtain ⟨s, l1⟩ := y
    rw [e1] at h1 h2 h3 e
    obtain ⟨_, rfl, _⟩ := h1
    simp only [Option.map_some, Option.bind_some] at h2 h3 e
    cases e2 : numT l1 with
    | none => rw [e2] at h3 e; rw [show b3 = true from h3]; exact e
    | some y =>
      obtain ⟨n, l2⟩ := y
      rw [e2] at h2 h3 e
      obtain ⟨_, rfl, _⟩ := h2
      simp only [Option.map_some, Option.bind_some] at h3 e
      cases e3 : eat [59] l2 with
      | none => rw [e3] at h3 e; rw [show b3 = true from h3]; exact e
      | some l3 =>
        rw [e3] at h3 e
        obtain ⟨rfl, hd⟩ := h3
        simp only at e
        refine ⟨k, ?_, by rw [e, hd]⟩
        simp only [List.length_drop] at hm ⊢
        omega
def BlT (ts : List T) (st : List T → RestS) (tot : Option SF) (P : SF) (p : Nat) : Bool → Prop
  | true => tot = none
  | false => ∃ m, (ts.drop p).length < m ∧ tot = (allL st m (ts.drop p)).map fun G => sapp P G
theorem BlT.start {ts : List T} {st : List T → RestS} {p : Nat} {bad : Bool} : BlT ts st (if bad then none else allP st (ts.drop p)) .nil p bad := by
  cases bad with
  | true => rfl
  | false =>
    refine ⟨_, Nat.lt_succ_self _, ?_⟩
    show allP st (ts.drop p) = _
    unfold allP
    cases allL st ((ts.drop p).length + 1) (ts.drop p) with
    | none => rfl
    | some y => rfl
theorem BlT.end_ {ts : List T} {st : List T → RestS} {tot : Option SF} {P : SF} {p : Nat} (h : BlT ts st tot P p false) (he : ts.drop p = []) : tot = some P := by
  obtain ⟨m, hm, e⟩ := h
  obtain ⟨k, rfl⟩ : ∃ k, m = k + 1 := ⟨m - 1, by omega⟩
  rw [e, he, allL]
  show some (sapp P .nil) = _
  rw [sapp_nil]
theorem BlT.next {ts : List T} {st : List T → RestS} {tot : Option SF} {P : SF} {p p' : Nat} {bad : Bool} {h' : SH} {F : SF} (h : BlT ts st tot P p false) (hne : p < ts.length) (hs : StS5 ts (st (ts.drop p)) h' F p' bad) (hlt : bad = false → (ts.drop p').length < (ts.drop p).length) : BlT ts st tot (sapp P (.node 0 0 h' F .nil)) p' bad := by
  obtain ⟨m, hm, e⟩ := h
  obtain ⟨k, rfl⟩ : ∃ k, m = k + 1 := ⟨m - 1, by omega⟩
  obtain ⟨t0, r0, hd0⟩ : ∃ t r, ts.drop p = t :: r := by
    cases hd : ts.drop p with
    | nil => have := congrArg List.length hd; simp at this; omega
    | cons t r => exact ⟨t, r, rfl⟩
  rw [hd0, allL] at e
  rw [← hd0] at e
  cases e1 : st (ts.drop p) with
  | none =>
    rw [e1] at hs e
    rw [show bad = true from hs]
    exact e
  | some y =>
    obtain ⟨⟨h2, F2⟩, l⟩ := y
    rw [e1] at hs e
    obtain ⟨rfl, rfl, rfl, hd⟩ := hs
    have hl := hlt rfl
    refine ⟨k, by omega, ?_⟩
    rw [e, hd]
    show (match allL st k l with | none => none | some G => some (.node 0 0 h' F G : SF) : Option SF).map _ = _
    cases allL st k l with
    | none => rfl
    | some G =>
      show some (sapp P (.node 0 0 h' F G)) = some (sapp (sapp P (.node 0 0 h' F .nil)) G)
      rw [sapp_one]
theorem zero_size : xsize zeroX = 0 := rfl
theorem sum_size {l r : List T} {x : X} (hl : P6 l) (h : sumP 30 l = some (x, r)) : xsize x + 20 * r.length ≤ 20 * l.length := by
  obtain ⟨_, _, h3⟩ := sum_ok 30 l x r hl h
  omega
theorem last_size {l r : List T} {x : X} (hl : P6 l) (h : lastP l = some (x, r)) : xsize x + 20 * r.length ≤ 20 * l.length := by
  unfold lastP at h
  split at h
  · cases h
  · rename_i e l1 h1
    have s1 := sum_size hl h1
    split at h
    · cases h
    · rename_i l2 h2
      injection h with h; injection h with h3 h4; subst h4; subst h3
      have := (eat_sh h2).lt
      omega
theorem name_size {l r : List T} {s : List UInt8} (hl : P6 l) (h : nameT l = some (s, r)) : s.length ≤ 6 := by
  cases l with
  | nil => cases h
  | cons t l =>
    simp only [nameT] at h
    split at h
    · injection h with h; injection h with h1 h2; subst h1; exact hl t (by simp)
    · cases h
theorem assign_size {l r : List T} {y : SH × SF} (hl : P6 l) (h : assignP l = some (y, r)) : hsize y.1 + ssize y.2 + 1 + 60 * r.length ≤ 60 * l.length := by
  unfold assignP at h
  split at h
  · cases h
  · rename_i s l1 h1
    have s1 := name_sh h1
    have n1 := name_size hl h1
    have t1 := s1.lt
    split at h
    · unfold setP at h
      split at h
      · cases h
      · rename_i l2 h2
        have s2 := s1.trans (eat_sh h2)
        have t2 := (eat_sh h2).lt
        split at h
        · cases h
        · rename_i e l3 h3
          injection h with h; injection h with h4 h5; subst h5; subst h4
          have z3 := last_size (s2.p6 hl) h3
          have t3 := (last_sh (s2.p6 hl) h3).lt
          simp only [hsize, ssize, zero_size, bs_size]; omega
    · rename_i l2 h2
      have s2 := s1.trans (eat_sh h2)
      have t2 := (eat_sh h2).lt
      unfold putP at h
      split at h
      · cases h
      · rename_i a l3 h3
        have s3 := s2.trans (sum_sh (s2.p6 hl) h3)
        have z3 := sum_size (s2.p6 hl) h3
        have t3 := (sum_sh (s2.p6 hl) h3).lt
        split at h
        · cases h
        · rename_i l4 h4
          have s4 := s3.trans (eat_sh h4)
          have t4 := (eat_sh h4).lt
          split at h
          · cases h
          · rename_i l5 h5
            have s5 := s4.trans (eat_sh h5)
            have t5 := (eat_sh h5).lt
            split at h
            · cases h
            · rename_i e l6 h6
              injection h with h; injection h with h7 h8; subst h8; subst h7
              have z6 := last_size (s5.p6 hl) h6
              have t6 := (last_sh (s5.p6 hl) h6).lt
              simp only [hsize, ssize, zero_size, bs_size]; omega
theorem head_size {l r : List T} {y : List UInt8 × X × X} (hl : P6 l) (h : headP l = some (y, r)) : y.1.length ≤ 6 ∧ xsize y.2.1 + xsize y.2.2 + 20 * r.length + 20 ≤ 20 * l.length := by
  unfold headP at h
  split at h
  · cases h
  · rename_i s l1 h1
    have s1 := name_sh h1
    have n1 := name_size hl h1
    have t1 := s1.lt
    split at h
    · cases h
    · rename_i l2 h2
      have s2 := s1.trans (eat_sh h2)
      have t2 := (eat_sh h2).lt
      split at h
      · cases h
      · rename_i lo l3 h3
        have s3 := s2.trans (sum_sh (s2.p6 hl) h3)
        have z3 := sum_size (s2.p6 hl) h3
        split at h
        · cases h
        · rename_i l4 h4
          have s4 := s3.trans (eat_sh h4)
          have t4 := (eat_sh h4).lt
          split at h
          · cases h
          · rename_i hi l5 h5
            have z5 := sum_size (s4.p6 hl) h5
            split at h
            · cases h
            · rename_i l6 h6
              have t6 := (eat_sh h6).lt
              injection h with h; injection h with h7 h8; subst h8; subst h7
              exact ⟨n1, by simp only; omega⟩
theorem body_size {st : List T → RestS} (hst : ∀ l y r, P6 l → st l = some (y, r) → Sh l r) (hsz : ∀ l y r, P6 l → st l = some (y, r) → hsize y.1 + ssize y.2 + 1 + 60 * r.length ≤ 60 * l.length) : ∀ (m : Nat) (l r : List T) (F : SF), P6 l → bodyL st m l = some (F, r) → ssize F + 60 * r.length ≤ 60 * l.length
  | 0, _, _, _, _, h => by cases h
  | m + 1, l, r, F, hl, h => by
    rw [bodyL] at h
    split at h
    · rename_i l1 h1
      injection h with h; injection h with h7 h8; subst h8; subst h7
      have := (eat_sh h1).lt
      simp only [ssize]; omega
    · split at h
      · cases h
      · rename_i h' F' l1 h1
        have s1 := hst l _ l1 hl h1
        have z1 := hsz l _ l1 hl h1
        split at h
        · cases h
        · rename_i G l2 h2
          injection h with h; injection h with h7 h8; subst h8; subst h7
          have z2 := body_size hst hsz m l1 l2 G (s1.p6 hl) h2
          simp only [ssize] at z1 ⊢; omega
theorem stmt_size : ∀ (d : Nat) (l : List T) (y : SH × SF) (r : List T), P6 l → stmtP d l = some (y, r) → hsize y.1 + ssize y.2 + 1 + 60 * r.length ≤ 60 * l.length
  | 0, _, _, _, _, h => by cases h
  | d + 1, l, y, r, hl, h => by
    rw [stmtP] at h
    split at h
    · rename_i l1 h1
      have s1 := eat_sh h1
      have t1 := s1.lt
      unfold printP at h
      split at h
      · cases h
      · rename_i e l2 h2
        injection h with h; injection h with h7 h8; subst h8; subst h7
        have z2 := last_size (s1.p6 hl) h2
        have t2 := (last_sh (s1.p6 hl) h2).lt
        have z0 : (⟨#[]⟩ : ByteArray).size = 0 := rfl
        simp only [hsize, ssize, zero_size, z0]; omega
    · split at h
      · rename_i l1 h1
        have s1 := eat_sh h1
        have t1 := s1.lt
        unfold loopP at h
        split at h
        · cases h
        · rename_i s lo hi l2 h2
          have s2 := s1.trans (head_sh (s1.p6 hl) h2)
          have t2 := (head_sh (s1.p6 hl) h2).lt
          obtain ⟨n2, z2⟩ := head_size (s1.p6 hl) h2
          split at h
          · cases h
          · rename_i F l3 h3
            injection h with h; injection h with h7 h8; subst h8; subst h7
            have z3 := body_size (fun l y r => stmt_sh d l y r) (fun l y r => stmt_size d l y r) _ _ _ _ (s2.p6 hl) h3
            simp only [hsize, ssize, zero_size, bs_size] at n2 z2 ⊢; omega
      · exact assign_size hl h
theorem all_size {d : Nat} : ∀ (m : Nat) (l : List T) (F : SF), P6 l → allL (stmtP d) m l = some F → ssize F ≤ 60 * l.length
  | 0, _, _, _, h => by cases h
  | _ + 1, [], F, _, h => by rw [allL] at h; injection h with h; subst h; simp [ssize]
  | m + 1, t :: l, F, hl, h => by
    rw [allL] at h
    split at h
    · cases h
    · rename_i h' F' l1 h1
      have s1 := stmt_sh d _ _ _ hl h1
      have z1 := stmt_size d _ _ _ hl h1
      split at h
      · cases h
      · rename_i G h2
        injection h with h; subst h
        have z2 := all_size m l1 G (s1.p6 hl) h2
        simp only [ssize] at z1 ⊢; omega
theorem ins_mem {l : List AR} {a t : AR} (h : t ∈ insA l a) : t = a ∨ t ∈ l := by
  unfold insA at h
  rcases List.mem_append.1 h with h | h
  · exact .inr (List.mem_of_mem_take h)
  · rcases List.mem_cons.1 h with h | h
    · exact .inl h
    · exact .inr (List.mem_of_mem_drop h)
theorem arr_sh {l r : List T} {a : AR} (h : arrP l = some (a, r)) : Sh l r := by
  unfold arrP at h
  split at h
  · cases h
  · rename_i s l1 h1
    split at h
    · cases h
    · rename_i n l2 h2
      split at h
      · cases h
      · rename_i l3 h3
        injection h with h; injection h with h7 h8; subst h8
        exact ((name_sh h1).trans (num_sh h2)).trans (eat_sh h3)
theorem arr_size {l r : List T} {a : AR} (hl : P6 l) (h : arrP l = some (a, r)) : a.s.size ≤ 6 := by
  unfold arrP at h
  split at h
  · cases h
  · rename_i s l1 h1
    have n1 := name_size hl h1
    split at h
    · cases h
    · split at h
      · cases h
      · injection h with h; injection h with h7 h8; subst h7
        simp only [bs_size]; exact n1
theorem arrs_size : ∀ (m : Nat) (acc : List AR) (l : List T) (out : List AR) (r : List T), P6 l → (∀ t ∈ acc, t.s.size ≤ 6) → arrsL m acc l = some (out, r) → (∀ t ∈ out, t.s.size ≤ 6) ∧ out.length + r.length ≤ acc.length + l.length ∧ ∃ c, l = c ++ r
  | 0, _, _, _, _, _, _, h => by cases h
  | m + 1, acc, l, out, r, hl, ha, h => by
    rw [arrsL] at h
    split at h
    · injection h with h; injection h with h7 h8; subst h8; subst h7
      exact ⟨ha, Nat.le_refl _, [], rfl⟩
    · rename_i l1 h1
      have s1 := eat_sh h1
      split at h
      · cases h
      · rename_i a l2 h2
        have s2 := s1.trans (arr_sh h2)
        obtain ⟨a1, a2, c, e⟩ := arrs_size m _ l2 out r (s2.p6 hl) (fun t ht => by rcases ins_mem ht with rfl | ht; exact arr_size (s1.p6 hl) h2; exact ha t ht) h
        have := insA_len acc a
        obtain ⟨hlt, x, hx⟩ := s2
        exact ⟨a1, by omega, x ++ c, by rw [hx, e, List.append_assoc]⟩
end Go.Proofs.YtpinockfakndlaaGreat
namespace Go.Proofs.YtpinockfakndlaaGreat
open Go.RowKit Go.Lib
set_option linter.unusedSimpArgs false
set_option linter.unusedVariables false
theorem wr_cells {b : Nat} {w w' : World} {n k : Nat} (hw : Kp5 b n w w') {N : Nat} (hN : N < w.heap.size) (h1 : N ≠ n) (h2 : N ≠ b) (h : w.there N 0 k) : w'.there N 0 k := by
  intro j hj
  have e := hw.block N hN h1 h2
  have := h j hj
  exact ⟨by rw [World.cell?_of_block (show w'.heap[(⟨N, 0 + j, Option.none⟩ : Addr).block]? = _ from e)]; exact this.1, by rw [World.frozen?_of_block (show w'.heap[(⟨N, 0 + j, Option.none⟩ : Addr).block]? = _ from e)]; exact this.2⟩
theorem below_there {B n k : Nat} {w w' : World} (hb : Below B w w') (hn : n < B) (h : w.there n 0 k) : w'.there n 0 k := by
  intro j hj
  have e := hb.block n hn
  have := h j hj
  exact ⟨by rw [World.cell?_of_block (show w'.heap[(⟨n, 0 + j, Option.none⟩ : Addr).block]? = _ from e)]; exact this.1, by rw [World.frozen?_of_block (show w'.heap[(⟨n, 0 + j, Option.none⟩ : Addr).block]? = _ from e)]; exact this.2⟩
theorem Rd5.below {b B : Nat} {v : Value} {ts : List T} {p : Nat} {deep : Int} {bad : Bool} {w w' : World} (s : Rd5 b v ts p deep bad w) (hb : Below B w w') (h : b < B) : Rd5 b v ts p deep bad w' := by
  refine ⟨fun j z hj => by rw [hb.cell (p := ⟨b, 0 + j, Option.none⟩) h]; exact s.rg j z hj, below_there hb h s.th, ?_, s.hp, s.hts⟩
  obtain ⟨ao, cap, e, hh⟩ := s.row
  refine ⟨ao, cap, e, ?_⟩
  rcases hh with hh | ⟨g', e2, hg', hc⟩
  · exact .inl hh
  · have K : ∀ (k : Nat) (z : Value), w.cell? ⟨g', k, Option.none⟩ = some z → w'.cell? ⟨g', k, Option.none⟩ = some z := fun k z hz => (hb.cell (p := ⟨g', k, Option.none⟩) (show g' < B by omega)).trans hz
    exact .inr ⟨g', e2, hg', fun i t hi => ⟨K _ _ (hc i t hi).1, K _ _ (hc i t hi).2.1, K _ _ (hc i t hi).2.2⟩⟩
theorem range2_set {w : World} {n : Nat} {x y : Value} (r : w.rangeAt n 0 [x, y]) (z : Value) : (w.setCell ⟨n, 0, Option.none⟩ z).rangeAt n 0 [z, y] ∧ (w.setCell ⟨n, 1, Option.none⟩ z).rangeAt n 0 [x, z] := by
  have r0 := r 0 _ rfl
  have r1 := r 1 _ rfl
  rw [Nat.zero_add] at r0 r1
  refine ⟨fun j u hj => ?_, fun j u hj => ?_⟩
  · rw [Nat.zero_add]
    match j, hj with
    | 0, hj => simp at hj; subst hj; exact World.cell?_setCell_same _ _ _ r0
    | 1, hj => simp at hj; subst hj; rw [World.cell?_setCell_other _ _ _ _ (by intro e; injection e with _ e; cases e)]; exact r1
    | j + 2, hj => simp at hj
  · rw [Nat.zero_add]
    match j, hj with
    | 0, hj => simp at hj; subst hj; rw [World.cell?_setCell_other _ _ _ _ (by intro e; injection e with _ e; cases e)]; exact r0
    | 1, hj => simp at hj; subst hj; exact World.cell?_setCell_same _ _ _ r1
    | j + 2, hj => simp at hj
theorem newblk2a {w W : World} {t : TypeId} {x y : Value} (a b : Value) (hW : (w.alloc (.cells #[x, y] t)).setCells w.heap.size 0 [a, b] = W) : W.rangeAt w.heap.size 0 [a, b] ∧ Below w.heap.size w W := newblk (arr := #[x, y]) (Nat.le_refl 2) hW
structure LpA (b : Nat) (v : Value) (ts : List T) (n : Nat) (w1 : World) (t : Value) (l : List AR) (p1 : Nat) (bad1 : Bool) (wr : World) : Prop where
  rg : wr.rangeAt n 0 [t, nilS]
  th : wr.there n 0 2
  rd : Rd5 b v ts p1 0 bad1 wr
  arr : ArrO wr w1.heap.size t l
  kp : Kp5 b n w1 wr
  le : l.length ≤ p1
  hn : b < n ∧ n < w1.heap.size
section
variable {b : Nat} {v : Value} {ts : List T} {n : Nat} {w1 : World} {t : Value} {l : List AR} {p1 : Nat} {bad1 : Bool} {wq : World}
theorem LpA.turn {w' : World} {p' : Nat} {bad' : Bool} (s : LpA b v ts n w1 t l p1 bad1 wq) (hw : Wr b wq w') (rd : Rd5 b v ts p' 0 bad' w') (hle : l.length ≤ p') : LpA b v ts n w1 t l p' bad' w' :=
  ⟨range_wr5 s.rg hw (by have := s.hn; omega), there_wr s.th hw (by have := s.hn; omega), rd, s.arr.wr hw (by have := s.hn; omega), s.kp.wr hw, hle, s.hn⟩
theorem LpA.next {w' : World} {t' : Value} {l' : List AR} (s : LpA b v ts n w1 t l p1 bad1 wq) (hb : Below wq.heap.size wq w') (ha : ArrO w' wq.heap.size t' l') (hle : l'.length ≤ p1) : LpA b v ts n w1 t' l' p1 bad1 (w'.setCell ⟨n, 0, Option.none⟩ t') := by
  have hW := wr_set n 0 t' w'
  refine ⟨(range2_set (rangeAt_later s.rg hb) t').1, World.there_setCells (there_later s.th hb) n 0 [_], (s.rd.later hb).other1 s.hn.1 0 _, ?_, (s.kp.wr (.of_below hb)).wrn hW, hle, s.hn⟩
  exact (ha.lower s.kp.size).wr hW s.hn.2
end
structure LpB (b : Nat) (v : Value) (ts : List T) (n : Nat) (ta : Value) (w1 : World) (P : SF) (xs : List Value) (t : Value) (p1 : Nat) (bad1 : Bool) (wr : World) : Prop where
  rg : wr.rangeAt n 0 [ta, t]
  th : wr.there n 0 2
  rd : Rd5 b v ts p1 0 bad1 wr
  own : wr.ownsRow w1.heap.size 98 19 t (slen P) xs
  row : SRx (gOf t) wr w1.heap.size P xs
  kp : Kp5 b n w1 wr
  le : slen P ≤ p1 + bad1.toNat
  hn : b < n ∧ n < w1.heap.size
section
variable {b : Nat} {v : Value} {ts : List T} {n : Nat} {ta : Value} {w1 : World} {P : SF} {xs : List Value} {t : Value} {p1 : Nat} {bad1 : Bool} {wq : World}
theorem LpB.turn {w' : World} {p' : Nat} {bad' : Bool} (s : LpB b v ts n ta w1 P xs t p1 bad1 wq) (hw : Wr b wq w') (rd : Rd5 b v ts p' 0 bad' w') (hle : slen P ≤ p' + bad'.toNat) : LpB b v ts n ta w1 P xs t p' bad' w' :=
  ⟨range_wr5 s.rg hw (by have := s.hn; omega), there_wr s.th hw (by have := s.hn; omega), rd, own_wr s.own hw (by have := s.hn; omega), s.row.step (fun _ _ e => e.wr hw (by have := s.hn; omega)) (fun _ _ e => e.wr hw (by have := s.hn; omega)), s.kp.wr hw, hle, s.hn⟩
theorem LpB.glt (s : LpB b v ts n ta w1 P xs t p1 bad1 wq) : gOf t < wq.heap.size := by
  unfold gOf
  cases h : t.ownBlock with
  | none => have := s.hn; have := s.kp.size; simp only [Option.getD_none]; omega
  | some g => exact (s.own.lt g h).2
theorem LpB.next {wz w6 : World} {g c : Nat} {h' : SH} {l' : SF} {y1 y2 y3 y4 y5 : Value} (s : LpB b v ts n ta w1 P xs t p1 bad1 wq) (hg0 : gOf t < wz.heap.size) (hwz : w1.heap.size ≤ wz.heap.size) (he : HV wq wz.heap.size h' y1 y2 y3 y4) (hs : SV wq wz.heap.size l' y5)
    (hown : w6.ownsRow w1.heap.size 98 19 (.slice (some ⟨g, 0, Option.none⟩) (slen P + 1) c) (slen P + 1) (xs ++ scells h' y1 y2 y3 y4 y5)) {o : Obj} (hg : (wq.alloc o).grownBy w6 t.ownBlock) (hat : t.ownBlock = some g ∨ wq.heap.size + 1 ≤ g) (hle : slen P + 1 ≤ p1 + bad1.toNat) :
    LpB b v ts n ta w1 (sapp P (.node 0 0 h' l' .nil)) (xs ++ scells h' y1 y2 y3 y4 y5) (.slice (some ⟨g, 0, Option.none⟩) (slen P + 1) c) p1 bad1 (w6.setCell ⟨n, 1, Option.none⟩ (.slice (some ⟨g, 0, Option.none⟩) (slen P + 1) c)) := by
  have hb1 := aB wq o
  have hN1 : w1.heap.size ≤ wq.heap.size := s.kp.size
  have hBel : Below w1.heap.size wq w6 := (hb1.mono hN1).grown hg (by simp; omega) (fun k hk => (s.own.lt k hk).1)
  have hel : slen (sapp P (.node 0 0 h' l' .nil)) = slen P + 1 := by rw [slen_app]; rfl
  have hat' : t.ownBlock = some g ∨ (wq.alloc o).heap.size ≤ g := by rcases hat with e | e; exact .inl e; exact .inr (by simp; exact e)
  have fE : ∀ (F : EF) (z : Value), EVx (gOf t) wq w1.heap.size F z → EVx g w6 w1.heap.size F z := fun F z hz => (hz.later hb1).grow (by have := s.hn; omega) hg hat'
  have fS : ∀ (F : SF) (z : Value), SVx (gOf t) wq w1.heap.size F z → SVx g w6 w1.heap.size F z := fun F z hz => (hz.step (fun a u _ _ hc => keeps hb1 hc)).grow hg hat'
  have hrow : SRx g w6 w1.heap.size (sapp P (.node 0 0 h' l' .nil)) (xs ++ scells h' y1 y2 y3 y4 y5) := (s.row.step fE fS).app ⟨y1, y2, y3, y4, y5, [], by rw [List.append_nil], ⟨fE _ _ (EVx.fresh he.e1 hwz hg0), fE _ _ (EVx.fresh he.e2 hwz hg0), fE _ _ (EVx.fresh he.e3 hwz hg0), fE _ _ (EVx.fresh he.e4 hwz hg0)⟩, fS _ _ (SVx.fresh hs hwz hg0), rfl⟩
  have hW := wr_set n 1 (.slice (some ⟨g, 0, Option.none⟩) (slen P + 1) c) w6
  have hnb := s.hn
  have rg6 : w6.rangeAt n 0 [ta, t] := fun j z hj => by rw [hBel.cell (p := ⟨n, 0 + j, Option.none⟩) hnb.2]; exact s.rg j z hj
  refine ⟨(range2_set rg6 _).2, World.there_setCells (below_there hBel hnb.2 s.th) n 1 [_], (s.rd.below hBel (by omega)).other1 hnb.1 1 _, ?_, ?_, (s.kp.below hBel).wrn hW, by rw [hel]; exact hle, s.hn⟩
  · rw [hel]; exact own_wr hown hW hnb.2
  · exact hrow.step (fun _ _ e => e.wr hW hnb.2) (fun _ _ e => e.wr hW hnb.2)
end
theorem Kp5.low {b n C : Nat} {w w' : World} (h : Kp5 b n w w') (hb : C ≤ b) (hn : C ≤ n) (hw : C ≤ w.heap.size) : Below C w w' := ⟨h.os, h.tape, h.output, h.size, fun k hk => h.block k (by omega) (by omega) (by omega)⟩
theorem ArrO.kp {b n B : Nat} {w w' : World} {v : Value} {l : List AR} (h : ArrO w B v l) (k : Kp5 b n w w') (hB : b < B ∧ n < B) : ArrO w' B v l := by
  obtain ⟨xs, h, e⟩ := h
  refine ⟨xs, ⟨h.1, ?_⟩, e⟩
  rcases h.2 with h0 | ⟨g, cap, cur, h1, h2, h3, h4⟩
  · exact .inl h0
  · exact .inr ⟨g, cap, cur, h1, h2, (k.block g (lt_heap h3) (by omega) (by omega)).trans h3, h4⟩
theorem AV.mono5 {w : World} {lo lo' : Nat} {v : Value} {ts : List AR} (h : AV w lo v ts) (hl : lo' ≤ lo) : AV w lo' v ts := h.same hl (Keeps.refl _ _) (Nat.le_refl _)
theorem SV.low5 {w : World} {lo : Nat} {F : SF} {v : Value} (h : SV w lo F v) : SV w 0 F v := SV.mono h (Nat.zero_le _)
theorem Keeps.up {lo lo' : Nat} {w w' : World} (h : Keeps lo w w') (hl : lo ≤ lo') : Keeps lo' w w' := fun a v h1 h2 => h a v (Nat.le_trans hl h1) h2
theorem sizeProgI : (Tryz.prog.info? 27).map (·.size) = some 2 := by kernel_rfl
def ProgOut (B : Nat) (w' : World) (o : Option (List AR × SF)) (e : Ending) : Prop :=
  ∃ ua ub, e = .returned (.tuple #[.agg #[ua, ub], .bool o.isSome]) ∧ AV w' B ua (o.elim [] (·.1)) ∧ SV w' B (o.elim .nil (·.2)) ub
theorem prog_tot {ol : Option (List T)} {ts : List T} {bad : Bool} (hts : ol.getD [] = ts) (hb : (!ol.isSome) = bad) : ol.bind progP = match (if bad then none else arrsL (ts.length + 1) [] ts) with
  | none => none
  | some (ar, l1) => match allP (stmtP 5) l1 with
    | none => none
    | some F => if progB ar F = true then some (ar, F) else none := by
  cases ol with
  | none => subst hb; rfl
  | some l => subst hts; subst hb; rfl
set_option maxHeartbeats 8000000 in
set_option maxRecDepth 100000 in
theorem spec_Parse (s : ByteArray) (o : Option (List AR × SF)) (ho : readP s.data.toList = o) (w : World) :
    Calls Tryz.prog 48 #[.string s] w fun e w' => ProgOut w.heap.size w' o e ∧ Below w.heap.size w w' := by
  obtain ⟨ol, Hol⟩ : ∃ ol, Hid (lex s.data.toList = ol) := ⟨_, rfl⟩
  have HO : Hid (ol.bind progP = o) := hid (by rw [← Hol.out]; exact ho)
  have b0 := aB w (.cells #[.slice Option.none 0 0, .slice Option.none 0 0] 27)
  have B0 := hid b0
  have T0 := hid (newthere2 w (.slice Option.none 0 0) (.slice Option.none 0 0) 27)
  have CL := hid (spec_Lex s ol Hol.out (w.alloc (.cells #[.slice Option.none 0 0, .slice Option.none 0 0] 27)))
  have hz0 : (w.alloc (.cells #[.slice Option.none 0 0, .slice Option.none 0 0] 27)).heap.size = w.heap.size + 1 := World.size_alloc _ _
  have HZ0 := hid hz0
  have HG : Hid ((∀ t ∈ ol.getD [], Good t) ∧ (ol.getD []).length ≤ 600) := hid (by
    cases ol with
    | none => exact ⟨fun t h => (by cases h), Nat.zero_le _⟩
    | some ts => exact lex_good Hol.out)
  clear ho b0 hz0
  go_enter Tryz.func48, Tryz.ntmps48
  go_wp2_with fail
  refine CL.out.mono ?_
  rintro e w1 ⟨⟨v, rfl, hown⟩, hb1⟩
  have RW := hid (Row.of hown)
  have B1 := hid (B0.out.trans (hb1.mono B0.out.size))
  have HS1 : Hid (w.heap.size + 1 ≤ w1.heap.size) := hid (by rw [← HZ0.out]; exact hb1.size)
  have T1 := hid (there_later T0.out hb1)
  clear hown hb1 CL B0 T0 HZ0
  obtain ⟨ts, hts⟩ : ∃ ts, ol.getD [] = ts := ⟨_, rfl⟩
  obtain ⟨bad, hbad⟩ : ∃ b, (!ol.isSome) = b := ⟨_, rfl⟩
  have HOT : Hid (o = match (if bad then none else arrsL (ts.length + 1) [] ts) with
    | none => none
    | some (ar, l1) => match allP (stmtP 5) l1 with
      | none => none
      | some F => if progB ar F = true then some (ar, F) else none) := show o = _ by rw [← HO.out]; exact prog_tot hts hbad
  have hsome : ol.isSome = !bad := by rw [← hbad, Bool.not_not]
  rw [hsome]
  rw [hts] at RW HG
  obtain ⟨ao, cap, hv, hrow⟩ := RW.out
  subst hv
  clear hrow
  have b1 := aB w1 (.cells #[.slice ao ts.length cap, .int .i64 0, .int .i64 0, .bool bad] 141)
  have b2 := aB (w1.alloc (.cells #[.slice ao ts.length cap, .int .i64 0, .int .i64 0, .bool bad] 141)) (.cells #[.slice Option.none 0 0, .slice Option.none 0 0] 27)
  have S0 := hid ((Rd5.new (bad := bad) (t := 141) RW.out HG.out.2).later b2)
  have R0 : Hid (((w1.alloc (.cells #[.slice ao ts.length cap, .int .i64 0, .int .i64 0, .bool bad] 141)).alloc (.cells #[.slice Option.none 0 0, .slice Option.none 0 0] 27)).rangeAt (w1.alloc (.cells #[.slice ao ts.length cap, .int .i64 0, .int .i64 0, .bool bad] 141)).heap.size 0 [nilS, nilS]) := blk_range (arr := #[nilS, nilS]) (blkLast5 _ _)
  have Q0 := hid (newthere2 (w1.alloc (.cells #[.slice ao ts.length cap, .int .i64 0, .int .i64 0, .bool bad] 141)) (.slice Option.none 0 0) (.slice Option.none 0 0) 27)
  have T3 := hid (there_later (there_later T1.out b1) b2)
  have B3 := hid ((B1.out.trans (b1.mono B1.out.size)).trans (b2.mono (Nat.le_trans B1.out.size b1.size)))
  have hz1 : (w1.alloc (.cells #[.slice ao ts.length cap, .int .i64 0, .int .i64 0, .bool bad] 141)).heap.size = w1.heap.size + 1 := World.size_alloc _ _
  have hz2 : Hid (((w1.alloc (.cells #[.slice ao ts.length cap, .int .i64 0, .int .i64 0, .bool bad] 141)).alloc (.cells #[.slice Option.none 0 0, .slice Option.none 0 0] 27)).heap.size = w1.heap.size + 1 + 1) := by show _ = _; rw [World.size_alloc, hz1]
  rw [hz1] at R0 Q0
  clear hts hbad hsome b1 b2 T1 B1 hz1 RW
  go_wp2_with fail
  obtain ⟨q, hq⟩ : ∃ z, (w1.alloc (.cells #[.slice ao ts.length cap, .int .i64 0, .int .i64 0, .bool bad] 141)).alloc (.cells #[.slice Option.none 0 0, .slice Option.none 0 0] 27) = z := ⟨_, rfl⟩
  rw [hq] at S0 R0 Q0 T3 B3 hz2 ⊢
  clear hq
  obtain ⟨b, hb⟩ : ∃ z, w1.heap.size = z := ⟨_, rfl⟩
  rw [hb] at S0 R0 Q0 hz2 HS1 ⊢
  clear hb w1
  have HNB : Hid (w.heap.size < b ∧ b + 1 < q.heap.size) := ⟨by have := HS1.out; omega, by have := hz2.out; omega⟩
  have L0 : Hid (LpA b (.slice ao ts.length cap) ts (b + 1) q nilS [] 0 bad q) := ⟨R0.out, Q0.out, S0.out, ⟨[], ⟨rfl, .inl ⟨rfl, rfl⟩⟩, rfl⟩, Kp5.refl _ _ _, Nat.zero_le _, by have := HNB.out; omega⟩
  have HSU := hid (l5Stmt_all b (.slice ao ts.length cap) ts HG.out.1 5 (Nat.le_refl _) 0 (by decide))
  have H6 : Hid (∀ t ∈ ts, t.s.length ≤ 6) := fun t ht => good_len5 (HG.out.1 t ht)
  obtain ⟨TA, hTA⟩ : ∃ z, (if bad then none else arrsL (ts.length + 1) [] ts) = z := ⟨_, rfl⟩
  have BA0 : Hid (BaT ts TA [] 0 bad) := by show BaT _ _ _ _ _; rw [← hTA]; exact BaT.start ts bad
  have HTA := hid hTA
  rw [hTA] at HOT
  clear hTA S0 R0 Q0 HS1 hz2
  go_loopw [8] (fun _ wr => ∃ (t : Value) (l : List AR) (p1 : Nat) (bad1 : Bool), Hid (LpA b (.slice ao ts.length cap) ts (b + 1) q t l p1 bad1 wr) ∧ Hid (BaT ts TA l p1 bad1)) (fun _ wr => mesOf b wr)
  case atStart => exact ⟨nilS, [], 0, bad, L0, BA0⟩
  case round =>
    obtain ⟨t, l, p1, bad1, hS1, hB1⟩ := hrel
    clear L0 BA0
    obtain ⟨RR, HRR⟩ : ∃ R, Hid (isR bad1 3 [97, 114, 114, 97, 121] (ts.drop p1) = R) := ⟨_, rfl⟩
    go_wp2_with fail
    refine (l5Kept_is b (.slice ao ts.length cap) ts p1 0 bad1 [97, 114, 114, 97, 121] RR HRR.out _ hS1.out.rd).mono ?_
    rintro e m2 ⟨rfl, s2, h2⟩
    cases RR with
    | true =>
      obtain ⟨rfl, hpe⟩ := kept_yes HG.out.1 (by decide) HRR.out
      have hl1 := hS1.out.le
      have RD1 := hid hS1.out.rd
      have SA := hid (hS1.out.turn h2 (p' := p1 + 1) (bad' := false) s2 (by have := hS1.out.le; omega))
      have GA := hid (St5.start ts (p1 + 1) false)
      have HPE := hid hpe
      clear s2 h2 hS1 HRR hpe
      obtain ⟨R3, HR3⟩ : ∃ R, Hid (kindR false 1 (ts.drop (p1 + 1)) = R) := ⟨_, rfl⟩
      go_wp2_with fail
      refine (l5Name_is b (.slice ao ts.length cap) ts (p1 + 1) 0 false R3 HR3.out _ SA.out.rd).mono ?_
      rintro e m3 ⟨he, s3, h3⟩
      obtain ⟨nm, rfl, hn3⟩ : ∃ nm, e = .returned (.string nm) ∧ ((R3 = true ∧ ∃ t, ts[p1 + 1]? = some t ∧ nm = bs t.s) ∨ (R3 = false ∧ nm = ⟨#[]⟩)) := by
        rcases he with ⟨h1, t, h2, h3⟩ | ⟨h1, h2⟩
        · exact ⟨_, h3, .inl ⟨h1, t, h2, rfl⟩⟩
        · exact ⟨_, h2, .inr ⟨h1, rfl⟩⟩
      have N3 := hid (GA.out.name HR3.out hn3)
      obtain ⟨p3, Hp3⟩ : ∃ n, Hid (p1 + 1 + R3.toNat = n) := ⟨_, rfl⟩
      obtain ⟨b3, Hb3⟩ : ∃ n, Hid ((false || !R3) = n) := ⟨_, rfl⟩
      rw [Hp3.out, Hb3.out] at s3 N3
      have L3 : Hid (p1 + 1 ≤ p3) := hid (by rw [← Hp3.out]; exact le_toNat _ _)
      have S3 := hid (SA.out.turn h3 s3 (by have := SA.out.le; have := L3.out; omega))
      have G3 := hid N3.out.st
      clear he hn3 s3 h3 HR3 Hp3 Hb3 SA GA
      obtain ⟨R4, HR4⟩ : ∃ R, Hid (kindR b3 2 (ts.drop p3) = R) := ⟨_, rfl⟩
      go_wp2_with fail
      refine (l5Num_is b (.slice ao ts.length cap) ts p3 0 b3 R4 HR4.out _ S3.out.rd).mono ?_
      rintro e m4 ⟨he, s4, h4⟩
      obtain ⟨z, rfl, hn4⟩ : ∃ z, e = .returned (.int .i64 z) ∧ ((R4 = true ∧ ∃ t, ts[p3]? = some t ∧ z = t.n) ∨ (R4 = false ∧ z = 0)) := by
        rcases he with ⟨h1, t, h2, h3⟩ | ⟨h1, h2⟩
        · exact ⟨_, h3, .inl ⟨h1, t, h2, rfl⟩⟩
        · exact ⟨_, h2, .inr ⟨h1, rfl⟩⟩
      have M4 := hid (G3.out.num HR4.out hn4)
      obtain ⟨p4, Hp4⟩ : ∃ n, Hid (p3 + R4.toNat = n) := ⟨_, rfl⟩
      obtain ⟨b4, Hb4⟩ : ∃ n, Hid ((b3 || !R4) = n) := ⟨_, rfl⟩
      rw [Hp4.out, Hb4.out] at s4 M4
      have L4 : Hid (p3 ≤ p4) := hid (by rw [← Hp4.out]; exact le_toNat _ _)
      have S4 := hid (S3.out.turn h4 s4 (by have := S3.out.le; have := L4.out; omega))
      have LL4 : Hid (l.length + 1 ≤ p4) := by have h1 := L3.out; have h2 := L4.out; show _ ≤ _; have h3 := hl1; omega
      have G4 := hid M4.out.st
      clear he hn4 s4 h4 HR4 Hp4 Hb4 S3
      obtain ⟨ta, tc, htt, hsrc, hcp⟩ := S4.out.arr.src
      subst htt
      have LM4 : Hid (l.length ≤ 1000) := by have h1 := S4.out.le; have h2 := S4.out.rd.hp; have h3 := S4.out.rd.hts; show _ ≤ _; omega
      clear hsrc hcp
      have c4 : m4.cell? ⟨b + 1, 0, Option.none⟩ = some (.slice ta l.length tc) := by have := S4.out.rg 0 _ rfl; rwa [Nat.zero_add] at this
      go_wp2_with (first | (refine sA rfl 82 _ _ rfl m4.heap.size 0 #[.string nm, .int .i64 z] rfl rfl ?hta sizeIA ?hoa ?_; exact (newthere2 _ _ _ _); exact (all2a _ _ rfl rfl); intro W hW; have HW := hid (newblk2a (.string nm) (.int .i64 z) hW); have RW := hid HW.out.1; have cW := keeps HW.out.2 c4; clear hW) | (refine wpList_load_mid rfl 82 _ rfl m4.heap.size 0 rfl _ _ RW.out Tryz.underlying82 rfl sizeIA ?_))
      have S5 := hid (S4.out.turn (.of_below HW.out.2) (S4.out.rd.later HW.out.2) S4.out.le)
      refine (l5Arr_is l LM4.out ⟨nm, z⟩ q.heap.size (.slice ta l.length tc) W S5.out.kp.size S5.out.arr).mono ?_
      rintro e m6 ⟨t6, rfl, ha6, hb6⟩
      have S6 := hid (S5.out.next hb6 ha6 (by rw [insA_len]; exact LL4.out))
      have c6 := keeps hb6 cW
      have f6 : m6.frozen? ⟨b + 1, 0, Option.none⟩ = false := by have := (there_later S5.out.th hb6 0 (by omega)).2; rwa [Nat.zero_add] at this
      obtain ⟨xa, xc, hx6⟩ := (ha6.av).shape
      subst hx6
      clear hb6 ha6 HW RW cW c4 S4 S5
      obtain ⟨R7, HR7⟩ : ∃ R, Hid (isR b4 4 [59] (ts.drop p4) = R) := ⟨_, rfl⟩
      go_wp2_with fail
      refine (l5Mark_is b (.slice ao ts.length cap) ts p4 0 b4 [59] R7 HR7.out _ S6.out.rd).mono ?_
      rintro e m7 ⟨rfl, s7, h7⟩
      go_wp2_with fail
      refine (l5Must_is b (.slice ao ts.length cap) ts (p4 + R7.toNat) 0 b4 R7 _ s7).mono ?_
      rintro e m8 ⟨rfl, s8, h8⟩
      obtain ⟨p8, Hp8⟩ : ∃ n, Hid (p4 + R7.toNat = n) := ⟨_, rfl⟩
      obtain ⟨b8, Hb8⟩ : ∃ n, Hid ((b4 || !R7) = n) := ⟨_, rfl⟩
      rw [Hp8.out, Hb8.out] at s8
      have L8 : Hid (p4 ≤ p8) := hid (by rw [← Hp8.out]; exact le_toNat _ _)
      have S8 := hid (S6.out.turn (h7.trans h8) s8 (by have := S6.out.le; have := L8.out; omega))
      have G8 := hid (G4.out.mark HG.out.1 (c := 59) (by decide) HR7.out)
      rw [Hp8.out, Hb8.out] at G8
      have hps : p1 < p8 := by have := L3.out; have := L4.out; have := L8.out; omega
      have BN := hid (hB1.out.next HPE.out N3.out M4.out G8.out hps S8.out.rd.hp)
      have ML := hid (mes_less RD1.out S8.out.rd (Nat.le_of_lt hps) (fun _ => hps))
      clear s7 h7 s8 h8 HR7 Hp8 Hb8 S6 hB1 c6 f6 hps
      go_wp2
      go_roundw
      case measure => exact ML.out
      case rel => exact ⟨_, _, p8, b8, S8, BN⟩
    | false =>
      have SA := hid (hS1.out.turn h2 (p' := p1) (bad' := bad1) s2 hS1.out.le)
      have FA := hid (hB1.out.fin fun e => kept_no HG.out.1 (by decide) HRR.out e)
      clear s2 h2 hS1 hB1 HRR
      obtain ⟨xa, xc, htx⟩ := SA.out.arr.av.shape
      subst htx
      have AA := hid SA.out.arr
      have KA := hid SA.out.kp
      have LA : Hid (∀ a ∈ l, a.s.size ≤ 6) → True := fun _ => trivial
      have B4 : Hid (Below w.heap.size w m2) := B3.out.trans (SA.out.kp.low (by have := HNB.out; omega) (by have := HNB.out; omega) B3.out.size)
      have T4 : Hid (m2.there w.heap.size 0 2) := wr_cells SA.out.kp (by have := HNB.out; omega) (by have := HNB.out; omega) (by have := HNB.out; omega) T3.out
      have B0t : Hid (BlT ts (stmtP 5) (if bad1 then none else allP (stmtP 5) (ts.drop p1)) .nil p1 bad1) := BlT.start
      have HOB : Hid ((bad1 = true → o = none) ∧ (bad1 = false → o = match allP (stmtP 5) (ts.drop p1) with
          | none => none
          | some F => if progB l F = true then some (l, F) else none)) := by
        rcases FA.out with ⟨h1, h2⟩ | ⟨h1, h2⟩
        · exact ⟨fun _ => by rw [HOT.out, h2], fun h => by rw [h1] at h; cases h⟩
        · exact ⟨fun h => (by rw [h1] at h; cases h), fun _ => by rw [HOT.out, h2]⟩
      have LSZ : Hid (bad1 = false → (∀ a ∈ l, a.s.size ≤ 6) ∧ P6 (ts.drop p1)) := fun hb => by
        rcases FA.out with ⟨h1, h2⟩ | ⟨h1, h2⟩
        · rw [h1] at hb; cases hb
        · refine ⟨?_, fun t ht => H6.out t (List.mem_of_mem_drop ht)⟩
          rw [← HTA.out] at h2
          split at h2
          · cases h2
          · exact (arrs_size _ _ _ _ _ H6.out (fun t ht => by simp at ht) h2).1
      obtain ⟨TB, hTB⟩ : ∃ z, (if bad1 then none else allP (stmtP 5) (ts.drop p1)) = z := ⟨_, rfl⟩
      rw [hTB] at B0t
      have HTB := hid hTB
      clear hTB FA LA HOT HTA
      have hlq : l.length ≤ 600 := by have h1 := SA.out.le; have h2 := SA.out.rd.hp; have h3 := SA.out.rd.hts; omega
      obtain ⟨q2, hq2⟩ : ∃ z, m2 = z := ⟨_, rfl⟩
      rw [hq2] at SA AA KA B4 T4 ⊢
      have L0 : Hid (LpB b (.slice ao ts.length cap) ts (b + 1) (.slice xa l.length xc) q2 .nil [] nilS p1 bad1 q2) := ⟨SA.out.rg, SA.out.th, SA.out.rd, ⟨rfl, .inl ⟨rfl, rfl⟩⟩, rfl, Kp5.refl _ _ _, Nat.zero_le _, by have h1 := HNB.out; have h2 := KA.out.size; exact ⟨by omega, by omega⟩⟩
      obtain ⟨i0, hi, hz0, hz1, hz2⟩ := info_parts infoIS5
      have HI := hid (And.intro hi (And.intro hz0 (And.intro hz1 hz2)))
      clear hi hz0 hz1 hz2 hq2 SA B3 T3
      go_wp2_with fail
      go_loopw [52] (fun _ wr => ∃ (P : SF) (xs : List Value) (t : Value) (p2 : Nat) (bad2 : Bool), Hid (LpB b (.slice ao ts.length cap) ts (b + 1) (.slice xa l.length xc) q2 P xs t p2 bad2 wr) ∧ Hid (BlT ts (stmtP 5) TB P p2 bad2) ∧ Hid (p1 ≤ p2 ∧ (bad2 = false → bad1 = false))) (fun _ wr => mesOf b wr)
      case atStart => exact ⟨.nil, [], nilS, p1, bad1, L0, B0t, ⟨Nat.le_refl _, fun h => h⟩⟩
      case round =>
        obtain ⟨P, xs, t, p2, bad2, hS2, hB2, hL2⟩ := hrel
        clear L0 B0t
        obtain ⟨ya, yc, rfl⟩ := ownShape' hS2.out.own
        obtain ⟨q0, q1, _, q3⟩ := hS2.out.rd.cells
        cases bad2 with
        | true =>
          have HON : Hid (o = none) := by
            have hB := hB2.out
            show o = none
            cases hb1 : bad1 with
            | true => exact HOB.out.1 hb1
            | false =>
              rw [HOB.out.2 hb1]
              have := HTB.out
              rw [hb1] at this
              have h3 : allP (stmtP 5) (ts.drop p1) = none := by rw [← hB]; exact this
              rw [h3]
          go_wp2_with fail
          go_quiet (fail)
          have SX : Hid (LpB b (.slice ao ts.length cap) ts (b + 1) (.slice xa l.length xc) q2 P xs (.slice ya (slen P) yc) p2 true (wr.drewN nq)) := hid (hS2.out.turn (.of_below (drewN_below5 wr nq)) (hS2.out.rd.later (drewN_below5 wr nq)) hS2.out.le)
          obtain ⟨wx, hwx⟩ : ∃ z, wr.drewN nq = z := ⟨_, rfl⟩
          rw [hwx] at SX ⊢
          have qb := SX.out.rd.cells.2.2.2
          have cx0 := SX.out.rg 0 _ rfl
          have cx1 := SX.out.rg 1 _ rfl
          rw [Nat.zero_add] at cx0 cx1
          have BX : Hid (Below w.heap.size w wx) := B4.out.trans (SX.out.kp.low (by have := HNB.out; omega) (by have := HNB.out; omega) B4.out.size)
          have TR : Hid (wx.there w.heap.size 0 2) := wr_cells SX.out.kp (by have := HNB.out; have := KA.out.size; omega) (by have := HNB.out; omega) (by have := HNB.out; omega) T4.out
          clear hwx hS2 q0 q1 q3
          go_wp2_with (refine sA rfl 27 _ _ rfl w.heap.size 0 #[.slice Option.none 0 0, .slice Option.none 0 0] rfl rfl TR.out sizeProgI (all2a _ _ rfl rfl) ?_; intro Wa hWa)
          have rgN := World.rangeAt_setCells_same wx w.heap.size 0 [.slice Option.none 0 0, .slice Option.none 0 0] TR.out
          rw [show _ = Wa from hWa] at rgN
          have hlv := run_loadVar_mid Wa w.heap.size 0 _ _ _ rgN Tryz.underlying27 rfl sizeProgI
          refine bodyPost_ret (v := .tuple #[.agg #[.slice Option.none 0 0, .slice Option.none 0 0], .bool false]) ?_ rfl ⟨⟨_, _, by rw [HON.out]; rfl, by rw [HON.out]; exact ⟨Option.none, 0, rfl, .inl rfl⟩, by rw [HON.out]; exact SV.nil _ _ _ _⟩, by rw [← hWa]; exact BX.out.trans (below_sets _ _ (Below.refl _ _) (Nat.le_refl _))⟩
          simp [results, Tryz.results48, asAddr, hlv, Act.put]
          try rfl
        | false =>
          obtain rfl : bad1 = false := hL2.out.2 rfl
          by_cases hlt : p2 < ts.length
          · have hltI : (p2 : Int) < (ts.length : Int) := by omega
            have RD1 := hid hS2.out.rd
            go_wp2_with fail
            go_quiet (fail)
            have S1 : Hid (LpB b (.slice ao ts.length cap) ts (b + 1) (.slice xa l.length xc) q2 P xs (.slice ya (slen P) yc) p2 false (wr.drewN nq)) := hid (hS2.out.turn (.of_below (drewN_below5 wr nq)) (hS2.out.rd.later (drewN_below5 wr nq)) hS2.out.le)
            obtain ⟨m5, hm5⟩ : ∃ z, wr.drewN nq = z := ⟨_, rfl⟩
            rw [hm5] at S1 ⊢
            clear hm5 hS2 q0 q1 q3
            go_wp2_with fail
            have bd : Below m5.heap.size m5 m5.drew := (Below.refl _ m5).drew
            have S2 := hid (S1.out.turn (.of_below bd) (S1.out.rd.later bd) S1.out.le)
            obtain ⟨W5, hW5⟩ : ∃ z, m5.drew = z := ⟨_, rfl⟩
            have hS := S2.out.rg 1 _ rfl
            rw [Nat.zero_add] at hS
            refine wp_region_last (fun w' => w'.cell? ⟨b + 1, 1, Option.none⟩ = some (.slice ya (slen P) yc)) 7 (by kernel_rfl) ?_
            rw [hW5] at S2 hS ⊢
            clear bd S1 hW5
            refine wpAnyL_take (i := 0) (v := .pointer (some ⟨b + 1, 1, Option.none⟩)) rfl (by kernel_rfl) (by kernel_rfl) (by kernel_rfl) (by kernel_rfl) (fun _ _ _ => id) (Or.inl ⟨by rfl, ?lb0⟩) hS ?_
            case lb0 => intro w hSw; go_simp
            simp only [Act.put, zp]
            refine wpAnyL_take (i := 1) (v := .slice ya (slen P) yc) rfl (by kernel_rfl) (by kernel_rfl) (by kernel_rfl) (by kernel_rfl) (fun _ _ _ => id) (Or.inl ⟨by rfl, ?lb1⟩) hS ?_
            case lb1 => intro w hSw; go_simp
            simp only [Act.put, zp]
            refine wpAnyL_take (i := 2) (v := .pointer (some ⟨b, 0, Option.none⟩)) rfl (by kernel_rfl) (by kernel_rfl) (by kernel_rfl) (by kernel_rfl) (fun _ _ _ => id) (Or.inl ⟨by rfl, ?lb2⟩) hS ?_
            case lb2 => intro w hSw; go_simp
            simp only [Act.put, zp]
            refine wpAnyL_ready (rs := [3]) (by kernel_rfl) (by simp) ?_
            refine AllReadyL.cons rfl (fun K hK => ?_) AllReadyL.nil
            rw [if_pos (by rfl)]
            simp only [zq]
            go_wp2_with fail
            refine (HSU.out p2 false _ S2.out.rd).mono ?_
            rintro e w6 ⟨h9, F9, y1, y2, y3, y4, y5, p5, b5, rfl, g2⟩
            have g2hv := g2.hv
            have g2sv := g2.sv
            obtain ⟨a1, e1, rfl⟩ := g2hv.e1.shape
            obtain ⟨a2, e2, rfl⟩ := g2hv.e2.shape
            obtain ⟨a3, e3, rfl⟩ := g2hv.e3.shape
            obtain ⟨a4, e4, rfl⟩ := g2hv.e4.shape
            obtain ⟨va, vc, rfl⟩ := g2sv.shape
            have K2 := hid g2
            have hgl := S2.out.glt
            have hkz := S2.out.kp.size
            have hpl := S2.out.rd.hp
            have hptl := S2.out.rd.hts
            have S3 := hid (S2.out.turn K2.out.wr K2.out.rd (by have := S2.out.le; have := K2.out.le; simp only [Bool.toNat_false] at *; omega))
            have RD5 := hid S2.out.rd
            have hS6 := S3.out.rg 1 _ rfl
            rw [Nat.zero_add] at hS6
            have LE6 : Hid (slen P + 1 ≤ p5 + b5.toNat) := by
              have h1 := S2.out.le
              have h2 := K2.out.le
              show _ ≤ _
              cases hb2 : b5 with
              | true => simp only [Bool.toNat_false, Bool.toNat_true] at h1 ⊢; omega
              | false =>
                have h3 := stmt_goes H6.out K2.out.rel hb2
                simp only [List.length_drop] at h3
                simp only [Bool.toNat_false] at h1 ⊢; omega
            clear g2 g2hv g2sv S2 hS
            go_wp2_with fail
            refine hK.out _ _ (fun _ => hS6) ?_
            clear hK
            refine wpAnyL_ready (rs := [4]) (by kernel_rfl) (by simp) ?_
            refine AllReadyL.cons rfl (fun K hK => ?_) AllReadyL.nil
            rw [if_pos (by rfl)]
            simp only [zq]
            go_wp2_with fail
            refine hK.out _ _ (fun _ => keeps (aB _ _) hS6) ?_
            have hS7 := keeps (aB w6 (.cells #[.int .i64 h9.k, .string h9.s, .int .i64 h9.x1.h.k, .int .i64 h9.x1.h.n, .string h9.x1.h.s, (.slice a1 (elen h9.x1.l) e1), .int .i64 h9.x2.h.k, .int .i64 h9.x2.h.n, .string h9.x2.h.s, (.slice a2 (elen h9.x2.l) e2), .int .i64 h9.x3.h.k, .int .i64 h9.x3.h.n, .string h9.x3.h.s, (.slice a3 (elen h9.x3.l) e3), .int .i64 h9.x4.h.k, .int .i64 h9.x4.h.n, .string h9.x4.h.s, (.slice a4 (elen h9.x4.l) e4), (.slice va (slen F9) vc)] 98)) hS6
            clear hK hS6
            try simp only [Act.put, zp]
            refine wpAnyL_ready (rs := [5]) (by kernel_rfl) (by simp) ?_
            refine AllReadyL.cons rfl (fun K hK => ?_) AllReadyL.nil
            rw [if_pos (by rfl)]
            simp only [zq]
            refine wp_append_lies _ _ _ 25 (by rfl) q2.heap.size 98 i0 _ 19 272 Tryz.underlying25 HI.out.1 HI.out.2.1 HI.out.2.2.1 HI.out.2.2.2 rfl (by decide) _ _ _ (by rfl) (S3.out.own.alloc _) ⟨w6.heap.size, 0, Option.none⟩ 1 1 [.int .i64 h9.k, .string h9.s, .int .i64 h9.x1.h.k, .int .i64 h9.x1.h.n, .string h9.x1.h.s, (.slice a1 (elen h9.x1.l) e1), .int .i64 h9.x2.h.k, .int .i64 h9.x2.h.n, .string h9.x2.h.s, (.slice a2 (elen h9.x2.l) e2), .int .i64 h9.x3.h.k, .int .i64 h9.x3.h.n, .string h9.x3.h.s, (.slice a3 (elen h9.x3.l) e3), .int .i64 h9.x4.h.k, .int .i64 h9.x4.h.n, .string h9.x4.h.s, (.slice a4 (elen h9.x4.l) e4), (.slice va (slen F9) vc)] (by rfl) (by rfl) ?k1lb ?k2lb (by decide) ?k3lb ?k4lb ?k5lb (w6.heap.size + 1) (by simp) ?_
            case k1lb => exact newsN5 _ _ _
            case k2lb => exact ones195 K2.out.hv K2.out.sv
            case k3lb => have := S3.out.le; have := S3.out.rd.hp; have := Bool.toNat_le b5; unfold maxLen; omega
            case k4lb => have := S3.out.le; have := S3.out.rd.hp; have := Bool.toNat_le b5; omega
            case k5lb => have := S3.out.kp.size; simp; omega
            intro g c7 w7 hown hgr hat hlt
            have hcs : scells h9 (.slice a1 (elen h9.x1.l) e1) (.slice a2 (elen h9.x2.l) e2) (.slice a3 (elen h9.x3.l) e3) (.slice a4 (elen h9.x4.l) e4) (.slice va (slen F9) vc) = [.int .i64 h9.k, .string h9.s, .int .i64 h9.x1.h.k, .int .i64 h9.x1.h.n, .string h9.x1.h.s, (.slice a1 (elen h9.x1.l) e1), .int .i64 h9.x2.h.k, .int .i64 h9.x2.h.n, .string h9.x2.h.s, (.slice a2 (elen h9.x2.l) e2), .int .i64 h9.x3.h.k, .int .i64 h9.x3.h.n, .string h9.x3.h.s, (.slice a3 (elen h9.x3.l) e3), .int .i64 h9.x4.h.k, .int .i64 h9.x4.h.n, .string h9.x4.h.s, (.slice a4 (elen h9.x4.l) e4), (.slice va (slen F9) vc)] := rfl
            have hown7 := hown
            rw [← hcs] at hown7
            have S7 := hid (S3.out.next (wz := W5) hgl hkz K2.out.hv K2.out.sv hown7 hgr (by rcases hat with e | e; exact .inl e; exact .inr (by omega)) LE6.out)
            have hBel : Below q2.heap.size w6 w7 := ((aB w6 _).mono S3.out.kp.size).grown hgr (by simp; have := S3.out.kp.size; omega) (fun k hk => (S3.out.own.lt k hk).1)
            have hS8 : w7.cell? ⟨b + 1, 1, Option.none⟩ = some (.slice ya (slen P) yc) := by rw [hBel.cell (p := ⟨b + 1, 1, Option.none⟩) S3.out.hn.2]; have := S3.out.rg 1 _ rfl; rwa [Nat.zero_add] at this
            have f18 : w7.frozen? ⟨b + 1, 1, Option.none⟩ = false := by
              have e := hBel.block (b + 1) S3.out.hn.2
              have := (S3.out.th 1 (by omega)).2
              rw [Nat.zero_add] at this
              rw [World.frozen?_of_block (show w7.heap[(⟨b + 1, 1, Option.none⟩ : Addr).block]? = _ from e)]; exact this
            refine hK.out _ _ (fun _ => hS8) ?_
            clear hK hown hown7 hgr hat hlt hcs hBel hS7
            simp only [Act.put, zp]
            refine wpAnyL_take (i := 6) (v := .pointer (some ⟨b + 1, 1, Option.none⟩)) rfl (by kernel_rfl) (by kernel_rfl) (by kernel_rfl) (by kernel_rfl) (fun _ _ _ => id) (Or.inl ⟨by rfl, ?lbz6⟩) hS8 ?_
            case lbz6 => intro w hSw; go_simp
            simp only [Act.put, zp]
            refine wpAnyL_ready (rs := [7]) (by kernel_rfl) (by simp) ?_
            refine AllReadyL.cons rfl (fun K hK => ?_) AllReadyL.nil
            rw [if_pos (by rfl)]
            simp only [zq]
            go_wp2_with fail
            refine hK.out _ _ (fun e => absurd rfl e) ?_
            clear hK hS8 f18
            refine wpAnyL_done (by kernel_rfl) ?_ _
            have BN := hid (hB2.out.next hlt K2.out.rel (stmt_goes H6.out K2.out.rel))
            have ML := hid (mes_less RD1.out S7.out.rd K2.out.le (fun e => by have h3 := stmt_goes H6.out K2.out.rel e; simp only [List.length_drop] at h3; omega))
            have LE7 : Hid (p1 ≤ p5) := Nat.le_trans hL2.out.1 K2.out.le
            clear hB2 K2 S3 RD1 RD5
            go_wp2
            go_roundw
            case measure => exact ML.out
            case rel => exact ⟨_, _, _, p5, b5, S7, BN, ⟨LE7.out, fun _ => by first | rfl | trivial⟩⟩
          · have hltI : ¬ (p2 : Int) < (ts.length : Int) := by omega
            have hdn : ts.drop p2 = [] := List.drop_of_length_le (by omega)
            have HTP : Hid (TB = some P) := hB2.out.end_ hdn
            have HOP : Hid (allP (stmtP 5) (ts.drop p1) = some P) := by show _ = _; rw [← HTP.out, ← HTB.out]; rfl
            go_wp2_with fail
            go_quiet (fail)
            have SX : Hid (LpB b (.slice ao ts.length cap) ts (b + 1) (.slice xa l.length xc) q2 P xs (.slice ya (slen P) yc) p2 false (wr.drewN nq)) := hid (hS2.out.turn (.of_below (drewN_below5 wr nq)) (hS2.out.rd.later (drewN_below5 wr nq)) hS2.out.le)
            obtain ⟨wx, hwx⟩ : ∃ z, wr.drewN nq = z := ⟨_, rfl⟩
            rw [hwx] at SX ⊢
            have qb := SX.out.rd.cells.2.2.2
            have cx0 := SX.out.rg 0 _ rfl
            have cx1 := SX.out.rg 1 _ rfl
            rw [Nat.zero_add] at cx0 cx1
            have BX : Hid (Below w.heap.size w wx) := B4.out.trans (SX.out.kp.low (by have := HNB.out; omega) (by have := HNB.out; omega) B4.out.size)
            have TR : Hid (wx.there w.heap.size 0 2) := wr_cells SX.out.kp (by have := HNB.out; have := KA.out.size; omega) (by have := HNB.out; omega) (by have := HNB.out; omega) T4.out
            clear hwx hS2 q0 q1 q3
            have AV1 : Hid (AV wx 0 (.slice xa l.length xc) l) := (AA.out.kp SX.out.kp (by have := HNB.out; exact ⟨by omega, by omega⟩)).av.low
            have SV1 : Hid (SV wx q2.heap.size P (.slice ya (slen P) yc)) := SO.sv ⟨xs, SX.out.own, SX.out.row⟩
            have PZ : Hid (ssize P ≤ 36000) := by
              have h1 := all_size _ _ _ (LSZ.out (by first | rfl | trivial)).2 HOP.out
              have h2 := SX.out.rd.hts
              simp only [List.length_drop] at h1
              show _ ≤ _; omega
            go_wp2_with fail
            refine (spec_ProgOk l (by omega) (fun a ha => by have := (LSZ.out (by first | rfl | trivial)).1 a ha; omega) P (by have := PZ.out; omega) (by have h1 := sallE_len P; have h2 := PZ.out; omega) (.slice xa l.length xc) (.slice ya (slen P) yc) _ AV1.out SV1.out.low5).mono ?_
            rintro e wy ⟨rfl, hby⟩
            have TRx := TR
            have BXx := BX
            clear TR BX
            have TR : Hid (wy.there w.heap.size 0 2) := there_later TRx.out hby
            have BX : Hid (Below w.heap.size w wy) := BXx.out.trans (hby.mono BXx.out.size)
            have cy0 := keeps hby cx0
            have cy1 := keeps hby cx1
            have AV2 := hid ((AA.out.kp SX.out.kp (by have := HNB.out; exact ⟨by omega, by omega⟩)).later hby)
            have SV2 := hid (SV1.out.later hby)
            have KS := hid SX.out.kp.size
            clear cx0 cx1 qb AV1 SV1 SX hby TRx BXx
            obtain ⟨ok, hok⟩ : ∃ ok, progB l P = ok := ⟨_, rfl⟩
            rw [hok]
            cases ok with
            | false =>
              have HON : Hid (o = none) := by show o = none; rw [HOB.out.2 (by first | rfl | trivial), HOP.out]; simp [hok]
              go_wp2_with (refine sA rfl 27 _ _ rfl w.heap.size 0 #[.slice Option.none 0 0, .slice Option.none 0 0] rfl rfl TR.out sizeProgI (all2a _ _ rfl rfl) ?_; intro Wb hWb)
              have rgN := World.rangeAt_setCells_same wy w.heap.size 0 [.slice Option.none 0 0, .slice Option.none 0 0] TR.out
              rw [show _ = Wb from hWb] at rgN
              have hlv := run_loadVar_mid Wb w.heap.size 0 _ _ _ rgN Tryz.underlying27 rfl sizeProgI
              refine bodyPost_ret (v := .tuple #[.agg #[.slice Option.none 0 0, .slice Option.none 0 0], .bool false]) ?_ rfl ⟨⟨_, _, by rw [HON.out]; rfl, by rw [HON.out]; exact ⟨Option.none, 0, rfl, .inl rfl⟩, by rw [HON.out]; exact SV.nil _ _ _ _⟩, by rw [← hWb]; exact BX.out.trans (below_sets _ _ (Below.refl _ _) (Nat.le_refl _))⟩
              simp [results, Tryz.results48, asAddr, hlv, Act.put]
              try rfl
            | true =>
              have HOS : Hid (o = some (l, P)) := by show o = _; rw [HOB.out.2 (by first | rfl | trivial), HOP.out]; simp [hok]
              go_wp2_with (refine sA rfl 27 _ _ rfl w.heap.size 0 #[.slice xa l.length xc, .slice ya (slen P) yc] rfl rfl TR.out sizeProgI (all2a _ _ rfl rfl) ?_; intro Wc hWc)
              have rgN := World.rangeAt_setCells_same wy w.heap.size 0 [.slice xa l.length xc, .slice ya (slen P) yc] TR.out
              rw [show _ = Wc from hWc] at rgN
              have hlv := run_loadVar_mid Wc w.heap.size 0 _ _ _ rgN Tryz.underlying27 rfl sizeProgI
              have hkk : Keeps (w.heap.size + 1) wy Wc := by rw [← hWc]; exact Keeps.sets _ (by omega) _ _
              have hszW : wy.heap.size ≤ Wc.heap.size := by rw [← hWc, size_sets]; exact Nat.le_refl _
              have AV3 : AV Wc w.heap.size (.slice xa l.length xc) l := (AV2.out.av.same (Nat.le_refl _) (hkk.up (by have := HNB.out; omega)) hszW).mono5 (by have := HNB.out; omega)
              have SV3 : SV Wc w.heap.size P (.slice ya (slen P) yc) := SV2.out.same (by have h1 := HNB.out; have h2 := KA.out.size; omega) (hkk.up (by have h1 := HNB.out; have h2 := KA.out.size; omega))
              refine bodyPost_ret (v := .tuple #[.agg #[.slice xa l.length xc, .slice ya (slen P) yc], .bool true]) ?_ rfl ⟨⟨_, _, by rw [HOS.out]; rfl, by rw [HOS.out]; exact AV3, by rw [HOS.out]; exact SV3⟩, by rw [← hWc]; exact BX.out.trans (below_sets _ _ (Below.refl _ _) (Nat.le_refl _))⟩
              simp [results, Tryz.results48, asAddr, hlv, Act.put]
              try rfl
def ints (xs : List Int) : List Value := xs.map (Value.int .i64)
theorem ints_len (xs : List Int) : (ints xs).length = xs.length := by simp [ints]
theorem ints_get {xs : List Int} {i : Nat} {t : Int} (h : xs[i]? = some t) : (ints xs)[i]? = some (.int .i64 t) := by simp [ints, h]
def IV (w : World) (lo : Nat) (v : Value) (xs : List Int) : Prop :=
  ∃ ao cap, v = .slice ao xs.length cap ∧ (xs = [] ∨ ∃ g off, ao = some ⟨g, off, Option.none⟩ ∧ lo ≤ g ∧ g < w.heap.size ∧ ∀ i t, xs[i]? = some t → w.cell? ⟨g, off + i, Option.none⟩ = some (.int .i64 t))
theorem IV.same {w w' : World} {lo lo' : Nat} {v : Value} {xs : List Int} (hlo : lo' ≤ lo) (h : IV w lo v xs) (hk : Keeps lo w w') (hz : w.heap.size ≤ w'.heap.size) : IV w' lo' v xs := by
  obtain ⟨ao, cap, hv, h⟩ := h
  refine ⟨ao, cap, hv, ?_⟩
  rcases h with h | ⟨g, off, h1, h0, h2, h3⟩
  · exact .inl h
  · exact .inr ⟨g, off, h1, Nat.le_trans hlo h0, Nat.lt_of_lt_of_le h2 hz, fun i t hi => hk _ _ h0 (h3 i t hi)⟩
theorem IV.later {w w' : World} {lo : Nat} {v : Value} {xs : List Int} (h : IV w lo v xs) (hb : Below w.heap.size w w') : IV w' lo v xs := h.same (Nat.le_refl _) (Keeps.later hb) hb.size
theorem IV.lower {w : World} {lo lo' : Nat} {v : Value} {xs : List Int} (h : IV w lo v xs) (hl : lo' ≤ lo) : IV w lo' v xs := h.same hl (Keeps.refl _ _) (Nat.le_refl _)
theorem IV.low {w : World} {lo : Nat} {v : Value} {xs : List Int} (h : IV w lo v xs) : IV w 0 v xs := h.lower (Nat.zero_le _)
theorem IV.shape {w : World} {lo : Nat} {v : Value} {xs : List Int} (h : IV w lo v xs) : ∃ a c, v = .slice a xs.length c := by obtain ⟨a, c, h1, _⟩ := h; exact ⟨a, c, h1⟩
theorem IV.of {w : World} {B n : Nat} {e : TypeId} {v : Value} {xs : List Int} (hn : n = xs.length) (h : w.ownsRow B e 1 v n (ints xs)) : IV w B v xs := by
  subst hn
  rcases h.2 with ⟨h0, h1⟩ | ⟨g, cap, cur, h1, h2, h3, h4⟩
  · exact ⟨Option.none, 0, by rw [h1]; exact h0, .inl (List.length_eq_zero_iff.1 h1)⟩
  · refine ⟨_, cap, h1, .inr ⟨g, 0, rfl, h2, lt_heap h3, fun i t hi => ?_⟩⟩
    have hc := h.cells (g := g) (by rw [h1]; rfl) i (.int .i64 t) (ints_get hi)
    have e : (⟨g, 0, Option.none⟩ : Addr).add i = ⟨g, i, Option.none⟩ := by simp [Addr.add]; omega
    rw [e] at hc
    rw [Nat.zero_add]; exact hc
def IIV (w : World) (lo : Nat) (v : Value) (xss : List (List Int)) : Prop :=
  ∃ ao cap, v = .slice ao xss.length cap ∧ (xss = [] ∨ ∃ g off, ao = some ⟨g, off, Option.none⟩ ∧ lo ≤ g ∧ g < w.heap.size ∧ ∀ i xs, xss[i]? = some xs → ∃ u, w.cell? ⟨g, off + i, Option.none⟩ = some u ∧ IV w lo u xs)
theorem IIV.same {w w' : World} {lo lo' : Nat} {v : Value} {xss : List (List Int)} (hlo : lo' ≤ lo) (h : IIV w lo v xss) (hk : Keeps lo w w') (hz : w.heap.size ≤ w'.heap.size) : IIV w' lo' v xss := by
  obtain ⟨ao, cap, hv, h⟩ := h
  refine ⟨ao, cap, hv, ?_⟩
  rcases h with h | ⟨g, off, h1, h0, h2, h3⟩
  · exact .inl h
  · refine .inr ⟨g, off, h1, Nat.le_trans hlo h0, Nat.lt_of_lt_of_le h2 hz, fun i xs hi => ?_⟩
    obtain ⟨u, h4, h5⟩ := h3 i xs hi
    exact ⟨u, hk _ _ h0 h4, h5.same hlo hk hz⟩
theorem IIV.later {w w' : World} {lo : Nat} {v : Value} {xss : List (List Int)} (h : IIV w lo v xss) (hb : Below w.heap.size w w') : IIV w' lo v xss := h.same (Nat.le_refl _) (Keeps.later hb) hb.size
theorem IIV.shape {w : World} {lo : Nat} {v : Value} {xss : List (List Int)} (h : IIV w lo v xss) : ∃ a c, v = .slice a xss.length c := by obtain ⟨a, c, h1, _⟩ := h; exact ⟨a, c, h1⟩
theorem IIV.get {w : World} {lo : Nat} {v : Value} {xss : List (List Int)} (h : IIV w lo v xss) {k : Nat} {xs : List Int} (hk : xss[k]? = some xs) : ∃ g off c u, v = .slice (some ⟨g, off, Option.none⟩) xss.length c ∧ w.cell? ⟨g, off + k, Option.none⟩ = some u ∧ IV w lo u xs := by
  obtain ⟨ao, cap, rfl, h⟩ := h
  rcases h with h | ⟨g, off, rfl, h0, h2, h3⟩
  · subst h; simp at hk
  · obtain ⟨u, h4, h5⟩ := h3 k xs hk
    exact ⟨g, off, cap, u, rfl, h4, h5⟩
theorem IV.get {w : World} {lo : Nat} {v : Value} {xs : List Int} (h : IV w lo v xs) {k : Nat} {x : Int} (hk : xs[k]? = some x) : ∃ g off c, v = .slice (some ⟨g, off, Option.none⟩) xs.length c ∧ w.cell? ⟨g, off + k, Option.none⟩ = some (.int .i64 x) := by
  obtain ⟨ao, cap, rfl, h⟩ := h
  rcases h with h | ⟨g, off, rfl, h0, h2, h3⟩
  · subst h; simp at hk
  · exact ⟨g, off, cap, rfl, h3 k x hk⟩
theorem IIV.at {w : World} {lo n c : Nat} {a : Option Addr} {xss : List (List Int)} (h : IIV w lo (.slice a n c) xss) {k : Nat} {xs : List Int} (hk : xss[k]? = some xs) : ∃ g off u, a = some ⟨g, off, Option.none⟩ ∧ w.cell? ⟨g, off + k, Option.none⟩ = some u ∧ IV w lo u xs := by
  obtain ⟨g, off, c', u, e, h1, h2⟩ := h.get hk
  injection e with e
  exact ⟨g, off, u, e, h1, h2⟩
theorem IV.at {w : World} {lo n c : Nat} {a : Option Addr} {xs : List Int} (h : IV w lo (.slice a n c) xs) {k : Nat} {x : Int} (hk : xs[k]? = some x) : ∃ g off, a = some ⟨g, off, Option.none⟩ ∧ w.cell? ⟨g, off + k, Option.none⟩ = some (.int .i64 x) := by
  obtain ⟨g, off, c', e, h1⟩ := h.get hk
  injection e with e
  exact ⟨g, off, e, h1⟩
def imarks (m n : Nat) : List Int := (List.range n).map fun i => ((m + i : Nat) : Int)
theorem grownBy_trans {a b c : World} {r : Option Nat} (h : a.grownBy b r) (k : b.grownBy c r) : a.grownBy c r :=
  ⟨k.os.trans h.os, k.tape.trans h.tape, k.output.trans h.output, Nat.le_trans h.size k.size, fun i hi hne => (k.block i (Nat.lt_of_lt_of_le hi h.size) hne).trans (h.block i hi hne)⟩
theorem below_of_grown {B : Nat} {w w' : World} {r : Option Nat} (h : w.grownBy w' r) (hr : ∀ k, r = some k → B ≤ k) (hB : B ≤ w.heap.size) : Below B w w' := ⟨h.os, h.tape, h.output, h.size, fun k hk => h.block k (by omega) (fun e => by have := hr k e.symm; omega)⟩
theorem grownBy_set {w : World} {g : Nat} (p : Addr) (hp : p.block = g) (u : Value) : w.grownBy (w.setCell p u) (some g) := ⟨rfl, rfl, rfl, by simp [World.setCell], fun k _ hk => Below.heap_setCell _ _ _ _ (fun e => hk (by rw [e, hp]))⟩
theorem iown_put {w : World} {B n g cap j : Nat} {e : TypeId} {xs : List Value} (h : w.ownsRow B e 1 (.slice (some ⟨g, 0, Option.none⟩) n cap) n xs) (u : Value) : (w.setCell ⟨g, j, Option.none⟩ u).ownsRow B e 1 (.slice (some ⟨g, 0, Option.none⟩) n cap) n (xs.set j u) := by
  refine ⟨by rw [List.length_set]; exact h.1, ?_⟩
  rcases h.2 with ⟨h0, _⟩ | ⟨g', cap', cur, h1, h2, h3, h4, h5, h6, h7⟩
  · cases h0
  · injection h1 with e1 e2 e3
    injection e1 with e1
    injection e1 with e1
    subst e1; subst e3
    refine .inr ⟨g, cap, cur.setIfInBounds j u, rfl, h2, ?_, h4, h5, by simpa using h6, by rw [Array.toList_setIfInBounds, List.take_set, h7]⟩
    exact Go.heap_setCell_same w g j cur e u h3
theorem iown_cell {w : World} {B n g cap : Nat} {e : TypeId} {xs : List Value} (h : w.ownsRow B e 1 (.slice (some ⟨g, 0, Option.none⟩) n cap) n xs) {j : Nat} {u : Value} (hu : xs[j]? = some u) : w.cell? ⟨g, j, Option.none⟩ = some u ∧ w.frozen? ⟨g, j, Option.none⟩ = false := by
  refine ⟨own_cell h hu, ?_⟩
  rcases h.2 with ⟨h0, _⟩ | ⟨g', cap', cur, h1, h2, h3, _⟩
  · cases h0
  · injection h1 with e1 e2 e3
    injection e1 with e1
    injection e1 with e1
    subst e1
    simp [World.frozen?, h3]
theorem iownShape {w : World} {B sz n : Nat} {e : TypeId} {v : Value} {xs : List Value} (h : w.ownsRow B e sz v n xs) : ∃ a c, v = .slice a n c := by
  rcases h.2 with ⟨h1, h0⟩ | ⟨g, cap, cur, h1, _⟩
  · exact ⟨_, _, by rw [h0]; exact h1⟩
  · exact ⟨_, _, h1⟩
end Go.Proofs.YtpinockfakndlaaGreat
