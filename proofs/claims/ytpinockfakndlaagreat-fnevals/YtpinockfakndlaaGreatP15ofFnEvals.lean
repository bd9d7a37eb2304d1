import Derived.Test.YtpinockfakndlaaGreatP14ofFnEvals
import Derived.Test.YtpinockfakndlaaGreatP05ofFnEvals
import Derived.Deep.AppendLies
namespace Go.Proofs.YtpinockfakndlaaGreat
set_option linter.unusedSimpArgs false
set_option linter.unusedVariables false
abbrev RestS := Option ((SH × SF) × List T)
abbrev RestB := Option (SF × List T)
def nameT : List T → Option (List UInt8 × List T)
  | [] => none
  | t :: r => if t.k = 1 then some (t.s, r) else none
def numT : List T → Option (Int × List T)
  | [] => none
  | t :: r => if t.k = 2 then some (t.n, r) else none
def lastP (l : List T) : Rest := match sumP 30 l with
  | none => none
  | some (e, l1) => match eat [59] l1 with
    | none => none
    | some l2 => some (e, l2)
def printP (l : List T) : RestS := match lastP l with
  | none => none
  | some (e, l1) => some ((⟨4, ⟨#[]⟩, zeroX, e, zeroX, zeroX⟩, .nil), l1)
def setP (s : List UInt8) (l : List T) : RestS := match eat [61] l with
  | none => none
  | some l1 => match lastP l1 with
    | none => none
    | some (e, l2) => some ((⟨1, bs s, zeroX, e, zeroX, zeroX⟩, .nil), l2)
def putP (s : List UInt8) (l : List T) : RestS := match sumP 30 l with
  | none => none
  | some (a, l1) => match eat [93] l1 with
    | none => none
    | some l2 => match eat [61] l2 with
      | none => none
      | some l3 => match lastP l3 with
        | none => none
        | some (e, l4) => some ((⟨2, bs s, a, e, zeroX, zeroX⟩, .nil), l4)
def assignP (l : List T) : RestS := match nameT l with
  | none => none
  | some (s, l1) => match eat [91] l1 with
    | none => setP s l1
    | some l2 => putP s l2
def bodyL (st : List T → RestS) : Nat → List T → RestB
  | 0, _ => none
  | n + 1, l => match eat [125] l with
    | some l1 => some (.nil, l1)
    | none => match st l with
      | none => none
      | some ((h, F), l1) => match bodyL st n l1 with
        | none => none
        | some (G, l2) => some (.node 0 0 h F G, l2)
def bodyP (st : List T → RestS) (l : List T) : RestB := bodyL st (l.length + 1) l
def headP (l : List T) : Option ((List UInt8 × X × X) × List T) := match nameT l with
  | none => none
  | some (s, l1) => match eat [61] l1 with
    | none => none
    | some l2 => match sumP 30 l2 with
      | none => none
      | some (lo, l3) => match eat [116, 111] l3 with
        | none => none
        | some l4 => match sumP 30 l4 with
          | none => none
          | some (hi, l5) => match eat [123] l5 with
            | none => none
            | some l6 => some ((s, lo, hi), l6)
def loopP (st : List T → RestS) (l : List T) : RestS := match headP l with
  | none => none
  | some ((s, lo, hi), l1) => match bodyP st l1 with
    | none => none
    | some (F, l2) => some ((⟨3, bs s, zeroX, zeroX, lo, hi⟩, F), l2)
def stmtP : Nat → List T → RestS
  | 0, _ => none
  | d + 1, l => match eat [112, 114, 105, 110, 116] l with
    | some l1 => printP l1
    | none => match eat [102, 111, 114] l with
      | some l1 => loopP (stmtP d) l1
      | none => assignP l
def StS5 (ts : List T) : RestS → SH → SF → Nat → Bool → Prop
  | some ((h', F'), l), h, F, p, bad => bad = false ∧ h = h' ∧ F = F' ∧ ts.drop p = l
  | none, _, _, _, bad => bad = true
def StN5 (ts : List T) : Option (List UInt8 × List T) → ByteArray → Nat → Bool → Prop
  | some (s, l), n, p, bad => bad = false ∧ n = bs s ∧ ts.drop p = l
  | none, _, _, bad => bad = true
def resS (bad : Bool) (f : List T → RestS) (l : List T) : RestS := if bad then none else f l
theorem StN5.st {ts : List T} {r : Option (List UInt8 × List T)} {n : ByteArray} {p : Nat} {bad : Bool} (h : StN5 ts r n p bad) : St5 ts (r.map Prod.snd) p bad := by
  cases r with
  | none => exact h
  | some y => exact ⟨h.1, h.2.2⟩
theorem St5.name {ts : List T} {g : Option (List T)} {p : Nat} {bad R : Bool} {e : ByteArray} (h : St5 ts g p bad) (hR : kindR bad 1 (ts.drop p) = R) (he : (R = true ∧ ∃ t, ts[p]? = some t ∧ e = bs t.s) ∨ (R = false ∧ e = ⟨#[]⟩)) : StN5 ts (g.bind nameT) e (p + R.toNat) (bad || !R) := by
  cases g with
  | none =>
    rw [show bad = true from h]
    rfl
  | some l =>
    obtain ⟨rfl, rfl⟩ := h
    show StN5 ts (nameT (ts.drop p)) _ _ _
    rcases he with ⟨rfl, t, ht, rfl⟩ | ⟨rfl, rfl⟩
    · have hd := dropT ht
      rw [hd] at hR ⊢
      simp [kindR] at hR
      simp only [nameT, hR, if_true]
      exact ⟨rfl, rfl, rfl⟩
    · cases hd : ts.drop p with
      | nil => rfl
      | cons t r =>
        rw [hd] at hR
        simp [kindR] at hR
        simp only [nameT, if_neg hR]
        rfl
theorem last_st {ts : List T} {g : Option (List T)} {x : X} {p1 p2 : Nat} {b1 b2 : Bool} (h1 : StE5 ts (g.bind (sumP 30)) x p1 b1) (h2 : St5 ts (((g.bind (sumP 30)).map Prod.snd).bind (eat [59])) p2 b2) : StE5 ts (g.bind lastP) x p2 b2 := by
  cases g with
  | none => exact h2
  | some l =>
    show StE5 ts (lastP l) _ _ _
    unfold lastP
    simp only [Option.bind_some] at h1 h2
    cases e1 : sumP 30 l with
    | none => rw [e1] at h2; simp only [e1]; exact h2
    | some y =>
      obtain ⟨e, l1⟩ := y
      rw [e1] at h1 h2
      simp only [Option.map_some, Option.bind_some] at h1 h2
      obtain ⟨_, rfl, _⟩ := h1
      cases e2 : eat [59] l1 with
      | none => rw [e2] at h2; simp only [e1, e2]; exact h2
      | some l2 => rw [e2] at h2; simp only [e1, e2]; exact ⟨h2.1, rfl, h2.2⟩
theorem print_st {ts : List T} {g : Option (List T)} {x : X} {p : Nat} {b : Bool} (h : StE5 ts (g.bind lastP) x p b) : StS5 ts (g.bind printP) ⟨4, ⟨#[]⟩, zeroX, x, zeroX, zeroX⟩ .nil p b := by
  cases g with
  | none => exact h
  | some l =>
    show StS5 ts (printP l) _ _ _ _
    unfold printP
    simp only [Option.bind_some] at h
    cases e1 : lastP l with
    | none => rw [e1] at h; exact h
    | some y => obtain ⟨e, l1⟩ := y; rw [e1] at h; obtain ⟨h1, rfl, h3⟩ := h; exact ⟨h1, rfl, rfl, h3⟩
theorem set_st {ts : List T} {g : Option (List T)} {n : ByteArray} {x : X} {p0 p1 p2 : Nat} {b0 b1 b2 : Bool} (h0 : StN5 ts (g.bind nameT) n p0 b0) (hno : b0 = false → eat [91] (ts.drop p0) = none)
    (h2 : StE5 ts ((((g.bind nameT).map Prod.snd).bind (eat [61])).bind lastP) x p2 b2) : StS5 ts (g.bind assignP) ⟨1, n, zeroX, x, zeroX, zeroX⟩ .nil p2 b2 := by
  cases g with
  | none => exact h2
  | some l =>
    show StS5 ts (assignP l) _ _ _ _
    unfold assignP
    simp only [Option.bind_some] at h0 h2
    cases e1 : nameT l with
    | none => rw [e1] at h2; exact h2
    | some y =>
      obtain ⟨s, l1⟩ := y
      rw [e1] at h0 h2
      obtain ⟨hb, rfl, hd⟩ := h0
      have hn := hno hb
      rw [hd] at hn
      simp only [Option.map_some, Option.bind_some] at h2
      simp only [hn]
      unfold setP
      cases e2 : eat [61] l1 with
      | none => rw [e2] at h2; exact h2
      | some l2 =>
        rw [e2] at h2
        simp only [Option.bind_some] at h2
        cases e3 : lastP l2 with
        | none => rw [e3] at h2; simp only [e2, e3]; exact h2
        | some z => obtain ⟨e, l3⟩ := z; rw [e3] at h2; obtain ⟨a1, rfl, a3⟩ := h2; simp only [e2, e3]; exact ⟨a1, rfl, rfl, a3⟩
theorem put_st {ts : List T} {g : Option (List T)} {n : ByteArray} {a x : X} {p0 p1 p2 : Nat} {b0 b1 b2 : Bool} (h0 : StN5 ts (g.bind nameT) n p0 b0)
    (h1 : StE5 ts ((((g.bind nameT).map Prod.snd).bind (eat [91])).bind (sumP 30)) a p1 b1)
    (h2 : StE5 ts ((((((((g.bind nameT).map Prod.snd).bind (eat [91])).bind (sumP 30)).map Prod.snd).bind (eat [93])).bind (eat [61])).bind lastP) x p2 b2) (hyes : b0 = false → (eat [91] (ts.drop p0)).isSome = true) : StS5 ts (g.bind assignP) ⟨2, n, a, x, zeroX, zeroX⟩ .nil p2 b2 := by
  cases g with
  | none => exact h2
  | some l =>
    show StS5 ts (assignP l) _ _ _ _
    unfold assignP
    simp only [Option.bind_some] at h0 h1 h2
    cases e1 : nameT l with
    | none => rw [e1] at h2; exact h2
    | some y =>
      obtain ⟨s, l1⟩ := y
      rw [e1] at h0 h1 h2
      obtain ⟨hb, rfl, hd⟩ := h0
      have hn := hyes hb
      rw [hd] at hn
      simp only [Option.map_some, Option.bind_some] at h1 h2
      cases e2 : eat [91] l1 with
      | none => rw [e2] at hn; cases hn
      | some l2 =>
        rw [e2] at h1 h2
        simp only [Option.bind_some] at h1 h2
        simp only [e2]
        unfold putP
        cases e3 : sumP 30 l2 with
        | none => rw [e3] at h2; exact h2
        | some z =>
          obtain ⟨e, l3⟩ := z
          rw [e3] at h1 h2
          simp only [Option.map_some, Option.bind_some] at h1 h2
          obtain ⟨_, rfl, _⟩ := h1
          cases e4 : eat [93] l3 with
          | none => rw [e4] at h2; simp only [e3, e4]; exact h2
          | some l4 =>
            rw [e4] at h2
            simp only [Option.bind_some] at h2
            cases e5 : eat [61] l4 with
            | none => rw [e5] at h2; simp only [e3, e4, e5]; exact h2
            | some l5 =>
              rw [e5] at h2
              simp only [Option.bind_some] at h2
              cases e6 : lastP l5 with
              | none => rw [e6] at h2; simp only [e3, e4, e5, e6]; exact h2
              | some y => obtain ⟨e', l6⟩ := y; rw [e6] at h2; obtain ⟨a1, rfl, a3⟩ := h2; simp only [e3, e4, e5, e6]; exact ⟨a1, rfl, rfl, a3⟩
def StH5 (ts : List T) : Option ((List UInt8 × X × X) × List T) → ByteArray → X → X → Nat → Bool → Prop
  | some ((s, lo, hi), l), n, a, b, p, bad => bad = false ∧ n = bs s ∧ a = lo ∧ b = hi ∧ ts.drop p = l
  | none, _, _, _, _, bad => bad = true
theorem head_st {ts : List T} {g : Option (List T)} {n : ByteArray} {a c : X} {p0 p1 p2 p3 : Nat} {b0 b1 b2 b3 : Bool} (h0 : StN5 ts (g.bind nameT) n p0 b0)
    (h1 : StE5 ts ((((g.bind nameT).map Prod.snd).bind (eat [61])).bind (sumP 30)) a p1 b1)
    (h2 : StE5 ts (((((((g.bind nameT).map Prod.snd).bind (eat [61])).bind (sumP 30)).map Prod.snd).bind (eat [116, 111])).bind (sumP 30)) c p2 b2)
    (h3 : St5 ts (((((((((g.bind nameT).map Prod.snd).bind (eat [61])).bind (sumP 30)).map Prod.snd).bind (eat [116, 111])).bind (sumP 30)).map Prod.snd).bind (eat [123])) p3 b3) : StH5 ts (g.bind headP) n a c p3 b3 := by
  cases g with
  | none => exact h3
  | some l =>
    show StH5 ts (headP l) _ _ _ _ _
    unfold headP
    simp only [Option.bind_some] at h0 h1 h2 h3
    cases e1 : nameT l with
    | none => rw [e1] at h3; exact h3
    | some y =>
      obtain ⟨s, l1⟩ := y
      rw [e1] at h0 h1 h2 h3
      obtain ⟨_, rfl, _⟩ := h0
      simp only [Option.map_some, Option.bind_some] at h1 h2 h3
      cases e2 : eat [61] l1 with
      | none => rw [e2] at h3; simp only [e2]; exact h3
      | some l2 =>
        rw [e2] at h1 h2 h3
        simp only [Option.bind_some] at h1 h2 h3
        cases e3 : sumP 30 l2 with
        | none => rw [e3] at h3; simp only [e2, e3]; exact h3
        | some z =>
          obtain ⟨lo, l3⟩ := z
          rw [e3] at h1 h2 h3
          simp only [Option.map_some, Option.bind_some] at h1 h2 h3
          obtain ⟨_, rfl, _⟩ := h1
          cases e4 : eat [116, 111] l3 with
          | none => rw [e4] at h3; simp only [e2, e3, e4]; exact h3
          | some l4 =>
            rw [e4] at h2 h3
            simp only [Option.bind_some] at h2 h3
            cases e5 : sumP 30 l4 with
            | none => rw [e5] at h3; simp only [e2, e3, e4, e5]; exact h3
            | some z =>
              obtain ⟨hi, l5⟩ := z
              rw [e5] at h2 h3
              simp only [Option.map_some, Option.bind_some] at h2 h3
              obtain ⟨_, rfl, _⟩ := h2
              cases e6 : eat [123] l5 with
              | none => rw [e6] at h3; simp only [e2, e3, e4, e5, e6]; exact h3
              | some l6 => rw [e6] at h3; simp only [e2, e3, e4, e5, e6]; exact ⟨h3.1, rfl, rfl, rfl, h3.2⟩
theorem StH5.st {ts : List T} {r : Option ((List UInt8 × X × X) × List T)} {n : ByteArray} {a c : X} {p : Nat} {bad : Bool} (h : StH5 ts r n a c p bad) : St5 ts (r.map Prod.snd) p bad := by
  cases r with
  | none => exact h
  | some y => obtain ⟨⟨s, lo, hi⟩, l⟩ := y; exact ⟨h.1, h.2.2.2.2⟩
def StB5 (ts : List T) : RestB → SF → Nat → Bool → Prop
  | some (F', l), F, p, bad => bad = false ∧ F = F' ∧ ts.drop p = l
  | none, _, _, bad => bad = true
theorem loop_st {ts : List T} {st : List T → RestS} {g : Option (List T)} {n : ByteArray} {a c : X} {F : SF} {p0 p1 : Nat} {b0 b1 : Bool} (h0 : StH5 ts (g.bind headP) n a c p0 b0)
    (h1 : StB5 ts (((g.bind headP).map Prod.snd).bind (bodyP st)) F p1 b1) : StS5 ts (g.bind (loopP st)) ⟨3, n, zeroX, zeroX, a, c⟩ F p1 b1 := by
  cases g with
  | none => exact h1
  | some l =>
    show StS5 ts (loopP st l) _ _ _ _
    unfold loopP
    simp only [Option.bind_some] at h0 h1
    cases e1 : headP l with
    | none => rw [e1] at h1; exact h1
    | some y =>
      obtain ⟨⟨s, lo, hi⟩, l1⟩ := y
      rw [e1] at h0 h1
      obtain ⟨_, rfl, rfl, rfl, _⟩ := h0
      simp only [Option.map_some, Option.bind_some] at h1
      cases e2 : bodyP st l1 with
      | none => rw [e2] at h1; simp only [e2]; exact h1
      | some z => obtain ⟨G, l2⟩ := z; rw [e2] at h1; obtain ⟨a1, rfl, a3⟩ := h1; simp only [e2]; exact ⟨a1, rfl, rfl, a3⟩
def BdT (ts : List T) (st : List T → RestS) (tot : RestB) (P : SF) (p : Nat) : Bool → Prop
  | true => tot = none
  | false => ∃ m, (ts.drop p).length < m ∧ tot = (bodyL st m (ts.drop p)).map fun y => (sapp P y.1, y.2)
theorem BdT.start {ts : List T} {st : List T → RestS} {g : Option (List T)} {p : Nat} {bad : Bool} (h : St5 ts g p bad) : BdT ts st (g.bind (bodyP st)) .nil p bad := by
  cases g with
  | none => rw [show bad = true from h]; rfl
  | some l =>
    obtain ⟨rfl, rfl⟩ := h
    refine ⟨_, Nat.lt_succ_self _, ?_⟩
    show bodyP st (ts.drop p) = _
    unfold bodyP
    cases bodyL st ((ts.drop p).length + 1) (ts.drop p) with
    | none => rfl
    | some y => rfl
theorem BdT.fin {ts : List T} {st : List T → RestS} {tot : RestB} {P : SF} {p : Nat} (h : BdT ts st tot P p true) : StB5 ts tot P p true := by
  rw [show tot = none from h]; rfl
theorem sapp_one : ∀ (P : SF) (h : SH) (F G : SF), sapp P (.node 0 0 h F G) = sapp (sapp P (.node 0 0 h F .nil)) G
  | .nil, _, _, _ => rfl
  | .node p q h l r, h', F, G => by simp only [sapp, sapp_one r h' F G]
theorem BdT.end_ {ts : List T} {st : List T → RestS} {tot : RestB} {P : SF} {p : Nat} (h : BdT ts st tot P p false) (he : eat [125] (ts.drop p) = some (ts.drop (p + 1))) : StB5 ts tot P (p + 1) false := by
  obtain ⟨m, hm, e⟩ := h
  obtain ⟨k, rfl⟩ : ∃ k, m = k + 1 := ⟨m - 1, by omega⟩
  rw [e, bodyL, he]
  exact ⟨rfl, (sapp_nil P).symm, rfl⟩
theorem BdT.next {ts : List T} {st : List T → RestS} {tot : RestB} {P : SF} {p p' : Nat} {bad : Bool} {h' : SH} {F : SF} (h : BdT ts st tot P p false) (he : eat [125] (ts.drop p) = none) (hs : StS5 ts (st (ts.drop p)) h' F p' bad) (hlt : bad = false → (ts.drop p').length < (ts.drop p).length) : BdT ts st tot (sapp P (.node 0 0 h' F .nil)) p' bad := by
  obtain ⟨m, hm, e⟩ := h
  obtain ⟨k, rfl⟩ : ∃ k, m = k + 1 := ⟨m - 1, by omega⟩
  rw [bodyL, he] at e
  cases e1 : st (ts.drop p) with
  | none =>
    rw [e1] at hs e
    rw [show bad = true from hs]
    exact e
  | some y =>
    obtain ⟨⟨h2, F2⟩, l⟩ := y
    rw [e1] at hs e
    obtain ⟨rfl, rfl, rfl, hd⟩ := hs
    have hl := hlt rfl
    refine ⟨k, by omega, ?_⟩
    rw [e, hd]
    show (match bodyL st k l with | none => none | some (G, l2) => some ((.node 0 0 h' F G : SF), l2) : RestB).map _ = _
    cases bodyL st k l with
    | none => rfl
    | some z =>
      obtain ⟨G, l2⟩ := z
      show some (sapp P (.node 0 0 h' F G), l2) = some (sapp (sapp P (.node 0 0 h' F .nil)) G, l2)
      rw [sapp_one]
end Go.Proofs.YtpinockfakndlaaGreat
namespace Go.Proofs.YtpinockfakndlaaGreat
open Go.RowKit Go.Lib
set_option linter.unusedSimpArgs false
set_option linter.unusedVariables false
structure VarT (b : Nat) (w0 : World) (N n : Nat) (h : SH) (l : SF) (v1 v2 v3 v4 v : Value) (w : World) : Prop where
  rg : w.rangeAt n 0 (scells h v1 v2 v3 v4 v)
  th : w.there n 0 19
  ex : HVx n w (N + 1) h v1 v2 v3 v4
  sx : SVx n w (N + 1) l v
  wr : Wr b w0 w
  thN : w.there N 0 19
  hN : w0.heap.size = N
  hn : N < n
  hb : b < N
section
variable {b : Nat} {w0 : World} {N n : Nat} {h : SH} {l : SF} {v1 v2 v3 v4 v : Value} {w : World}
theorem VarT.step {w' : World} (s : VarT b w0 N n h l v1 v2 v3 v4 v w) (hw : Wr b w w') : VarT b w0 N n h l v1 v2 v3 v4 v w' :=
  ⟨range_wr s.rg hw (by have := s.hn; have := s.hb; omega), there_wr s.th hw (by have := s.hn; have := s.hb; omega), s.ex.map (fun _ _ e => e.wr hw (by have := s.hb; omega)), s.sx.wr hw (by have := s.hb; omega), s.wr.trans hw, there_wr s.thN hw (by have := s.hb; omega), s.hN, s.hn, s.hb⟩
theorem VarT.lt (s : VarT b w0 N n h l v1 v2 v3 v4 v w) : n < w.heap.size := lt_of_cellA (s.rg 0 _ rfl)
theorem VarT.put {h' : SH} {l' : SF} {u1 u2 u3 u4 u : Value} (s : VarT b w0 N n h l v1 v2 v3 v4 v w) (i : Nat) (us : List Value) (hi : i + us.length ≤ 19)
    (hc : scells h' u1 u2 u3 u4 u = (scells h v1 v2 v3 v4 v).take i ++ (us ++ (scells h v1 v2 v3 v4 v).drop (i + us.length))) (he : HVx n w (N + 1) h' u1 u2 u3 u4) (hs : SVx n w (N + 1) l' u) :
    VarT b w0 N n h' l' u1 u2 u3 u4 u (w.setCells n i us) := by
  have hB : Below n w (w.setCells n i us) := below_sets _ _ (Below.refl _ _) (Nat.le_refl _)
  have hsz : w.heap.size ≤ (w.setCells n i us).heap.size := by rw [size_sets]; exact Nat.le_refl _
  have hth : w.there n i us.length := by have := there_part s.th i us.length hi; rwa [Nat.zero_add] at this
  have hlen : (scells h v1 v2 v3 v4 v).length = 19 := rfl
  refine ⟨?_, World.there_setCells s.th _ _ _, he.map (fun _ _ e => e.sets _ _), hs.sets _ _, ?_, World.there_setCells s.thN _ _ _, s.hN, s.hn, s.hb⟩
  · rw [hc]
    intro j z hj
    rw [Nat.zero_add]
    by_cases h1 : j < i
    · rw [List.getElem?_append_left (by rw [List.length_take]; omega), List.getElem?_take_of_lt h1] at hj
      rw [World.cell?_setCells_out n us i w ⟨n, j, Option.none⟩ (fun _ _ => by simp only []; omega)]
      have := s.rg j z hj; rwa [Nat.zero_add] at this
    · rw [List.getElem?_append_right (by rw [List.length_take]; omega), List.length_take, show min i (scells h v1 v2 v3 v4 v).length = i by omega] at hj
      by_cases h2 : j - i < us.length
      · rw [List.getElem?_append_left h2] at hj
        have := World.rangeAt_setCells_same w n i us hth (j - i) z hj
        rwa [show i + (j - i) = j by omega] at this
      · rw [List.getElem?_append_right (by omega), List.getElem?_drop, show i + us.length + (j - i - us.length) = j by omega] at hj
        rw [World.cell?_setCells_out n us i w ⟨n, j, Option.none⟩ (fun _ _ => by simp only []; omega)]
        have := s.rg j z hj; rwa [Nat.zero_add] at this
  · exact ⟨hB.os.trans s.wr.os, hB.tape.trans s.wr.tape, hB.output.trans s.wr.output, Nat.le_trans s.wr.size hsz, fun k hk hne => (hB.block k (by have := s.hN; have := s.hn; omega)).trans (s.wr.block k hk hne)⟩
theorem VarT.evx {w2 : World} {F : EF} {u : Value} (s : VarT b w0 N n h l v1 v2 v3 v4 v w) (he : EV w2 w.heap.size F u) : EVx n w2 (N + 1) F u := EVx.fresh he (by have := s.lt; have := s.hn; omega) s.lt
theorem VarT.setS (s : VarT b w0 N n h l v1 v2 v3 v4 v w) (t : ByteArray) : VarT b w0 N n { h with s := t } l v1 v2 v3 v4 v (w.setCell ⟨n, 1, Option.none⟩ (.string t)) :=
  s.put 1 [.string t] (by simp) rfl ⟨s.ex.e1, s.ex.e2, s.ex.e3, s.ex.e4⟩ s.sx
theorem VarT.setK (s : VarT b w0 N n h l v1 v2 v3 v4 v w) (k : Int) : VarT b w0 N n { h with k := k } l v1 v2 v3 v4 v (w.setCell ⟨n, 0, Option.none⟩ (.int .i64 k)) :=
  s.put 0 [.int .i64 k] (by simp) rfl ⟨s.ex.e1, s.ex.e2, s.ex.e3, s.ex.e4⟩ s.sx
theorem VarT.set1 {x : X} {u : Value} (s : VarT b w0 N n h l v1 v2 v3 v4 v w) (he : EVx n w (N + 1) x.l u) : VarT b w0 N n { h with x1 := x } l u v2 v3 v4 v (w.setCells n 2 (xC x u)) :=
  s.put 2 (xC x u) (by simp [xC]) rfl ⟨he, s.ex.e2, s.ex.e3, s.ex.e4⟩ s.sx
theorem VarT.set2 {x : X} {u : Value} (s : VarT b w0 N n h l v1 v2 v3 v4 v w) (he : EVx n w (N + 1) x.l u) : VarT b w0 N n { h with x2 := x } l v1 u v3 v4 v (w.setCells n 6 (xC x u)) :=
  s.put 6 (xC x u) (by simp [xC]) rfl ⟨s.ex.e1, he, s.ex.e3, s.ex.e4⟩ s.sx
theorem VarT.set3 {x : X} {u : Value} (s : VarT b w0 N n h l v1 v2 v3 v4 v w) (he : EVx n w (N + 1) x.l u) : VarT b w0 N n { h with x3 := x } l v1 v2 u v4 v (w.setCells n 10 (xC x u)) :=
  s.put 10 (xC x u) (by simp [xC]) rfl ⟨s.ex.e1, s.ex.e2, he, s.ex.e4⟩ s.sx
theorem VarT.set4 {x : X} {u : Value} (s : VarT b w0 N n h l v1 v2 v3 v4 v w) (he : EVx n w (N + 1) x.l u) : VarT b w0 N n { h with x4 := x } l v1 v2 v3 u v (w.setCells n 14 (xC x u)) :=
  s.put 14 (xC x u) (by simp [xC]) rfl ⟨s.ex.e1, s.ex.e2, s.ex.e3, he⟩ s.sx
theorem VarT.free (s : VarT b w0 N n h l v1 v2 v3 v4 v w) : (w.cell? ⟨n, 0, Option.none⟩ = some (.int .i64 h.k) ∧ w.frozen? ⟨n, 0, Option.none⟩ = false) ∧ (w.cell? ⟨n, 1, Option.none⟩ = some (.string h.s) ∧ w.frozen? ⟨n, 1, Option.none⟩ = false) ∧ (w.cell? ⟨n, 18, Option.none⟩ = some v ∧ w.frozen? ⟨n, 18, Option.none⟩ = false) := by
  have r0 := s.rg 0 _ rfl; have r1 := s.rg 1 _ rfl; have r2 := s.rg 18 _ rfl
  have t0 := (s.th 0 (by omega)).2; have t1 := (s.th 1 (by omega)).2; have t2 := (s.th 18 (by omega)).2
  simp only [Nat.zero_add, Nat.add_zero] at r0 r1 r2 t0 t1 t2
  exact ⟨⟨r0, t0⟩, ⟨r1, t1⟩, r2, t2⟩
theorem VarT.part (s : VarT b w0 N n h l v1 v2 v3 v4 v w) (i : Nat) (hi : i + 4 ≤ 19) : w.there n i 4 := by have := there_part s.th i 4 hi; rwa [Nat.zero_add] at this
theorem VarT.close {W : World} (s : VarT b w0 N n h l v1 v2 v3 v4 v w) (hW : w.setCells N 0 (scells h v1 v2 v3 v4 v) = W) :
    W.rangeAt N 0 (scells h v1 v2 v3 v4 v) ∧ HV W N h v1 v2 v3 v4 ∧ SV W N l v ∧ Below N w W ∧ Wr b w0 W := by
  have hB : Below N w W := by rw [← hW]; exact below_sets _ _ (Below.refl _ _) (Nat.le_refl _)
  have hs : w.heap.size ≤ W.heap.size := by rw [← hW, size_sets]; exact Nat.le_refl _
  have hk : Keeps (N + 1) w W := by rw [← hW]; exact Keeps.sets _ (by omega) _ _
  refine ⟨by rw [← hW]; exact World.rangeAt_setCells_same _ _ _ _ s.thN, s.ex.hv.same (Nat.le_succ _) hk, s.sx.sv.same (Nat.le_succ _) hk, hB, ?_⟩
  exact ⟨hB.os.trans s.wr.os, hB.tape.trans s.wr.tape, hB.output.trans s.wr.output, Nat.le_trans s.wr.size hs, fun k hk hne => (hB.block k (by have := s.hN; omega)).trans (s.wr.block k hk hne)⟩
end
theorem lt_there195 {w : World} {n : Nat} (h : w.there n 0 19) : n + 1 ≤ w.heap.size := by
  obtain ⟨u, hu⟩ := Option.isSome_iff_exists.1 (h 0 (by omega)).1
  exact lt_of_cellA hu
theorem oneZ5 (k : Int) : (scells (zeroS k) nilS nilS nilS nilS nilS).toArray.all (·.oneCell') = true := oneS (zeroS k) nilS nilS nilS nilS nilS rfl rfl rfl rfl rfl
theorem VarT.start {b : Nat} {w0 w1 W : World} {N : Nat} {k : Int} {t : TypeId} (hN : w0.heap.size = N) (hb : b < N) (hw : Wr b w0 w1) (hth : w1.there N 0 19) (hW : (w1.alloc (.cells zero19 t)).setCells w1.heap.size 0 (scells (zeroS k) nilS nilS nilS nilS nilS) = W) :
    VarT b w0 N w1.heap.size (zeroS k) .nil nilS nilS nilS nilS nilS W := by
  have hn := newblkS (zeroS k) nilS nilS nilS nilS nilS hW
  refine ⟨hn.1, by rw [← hW]; exact World.there_setCells (newthere w1 t) _ _ _, ⟨EVx.nil _ _ _ _ _, EVx.nil _ _ _ _ _, EVx.nil _ _ _ _ _, EVx.nil _ _ _ _ _⟩, SVx.nil _ _ _ _ _, hw.trans (.of_below hn.2), there_later hth hn.2, hN, by have := lt_there195 hth; omega, hb⟩
theorem new_rangeS5 (w : World) (arr : Array Value) (t : TypeId) : (w.alloc (.cells arr t)).rangeAt w.heap.size 0 arr.toList := blk_range (t := t) (fr := (0, 0)) (by show (w.heap.push _)[w.heap.size]? = _; simp)
theorem newsN5 (w : World) (cs : List Value) (t : TypeId) : ∀ j u, cs[j]? = some u → (w.alloc (.cells cs.toArray t)).cell? ((⟨w.heap.size, 0, Option.none⟩ : Addr).add j) = some u := fun j u hj => by
  have := new_rangeS5 w cs.toArray t j u (by simpa using hj)
  rw [Nat.zero_add] at this
  rw [Go.WideShapes.add_plain, Nat.zero_add]
  exact this
theorem infoIS5 : (Tryz.prog.info? 98).map (fun i => (i.zero, i.size, i.bytes)) = some (some (.agg zero19), 19, 272) := by kernel_rfl
theorem ones195 {h : SH} {v1 v2 v3 v4 v : Value} {w : World} {lo : Nat} {l : SF} (he : HV w lo h v1 v2 v3 v4) (hs : SV w lo l v) : ∀ u ∈ scells h v1 v2 v3 v4 v, u.oneCell' = true := fun u hu => by
  have := oneS h v1 v2 v3 v4 v he.e1.isOne he.e2.isOne he.e3.isOne he.e4.isOne hs.isOne
  rw [Array.all_eq_true'] at this
  exact this u (by simpa using hu)
end Go.Proofs.YtpinockfakndlaaGreat
namespace Go.Proofs.YtpinockfakndlaaGreat
set_option linter.unusedSimpArgs false
set_option linter.unusedVariables false
structure Sh (l r : List T) : Prop where
  lt : r.length < l.length
  suf : ∃ c, l = c ++ r
def P6 (l : List T) : Prop := ∀ t ∈ l, t.s.length ≤ 6
theorem Sh.trans {a b c : List T} (h : Sh a b) (k : Sh b c) : Sh a c := by
  obtain ⟨h1, x, hx⟩ := h
  obtain ⟨k1, y, hy⟩ := k
  exact ⟨by omega, x ++ y, by rw [hx, hy, List.append_assoc]⟩
theorem Sh.p6 {l r : List T} (h : Sh l r) (hl : P6 l) : P6 r := by obtain ⟨_, c, rfl⟩ := h; exact fun t ht => hl t (List.mem_append_right _ ht)
theorem eat_sh {s : List UInt8} {l r : List T} (h : eat s l = some r) : Sh l r := by
  obtain ⟨t, rfl, _⟩ := eat_some h
  exact ⟨by simp, [t], rfl⟩
theorem name_sh {l r : List T} {s : List UInt8} (h : nameT l = some (s, r)) : Sh l r := by
  cases l with
  | nil => cases h
  | cons t l =>
    simp only [nameT] at h
    split at h
    · injection h with h; injection h with h1 h2; subst h2; exact ⟨by simp, [t], rfl⟩
    · cases h
theorem num_sh {l r : List T} {n : Int} (h : numT l = some (n, r)) : Sh l r := by
  cases l with
  | nil => cases h
  | cons t l =>
    simp only [numT] at h
    split at h
    · injection h with h; injection h with h1 h2; subst h2; exact ⟨by simp, [t], rfl⟩
    · cases h
theorem sum_sh {l r : List T} {x : X} (hl : P6 l) (h : sumP 30 l = some (x, r)) : Sh l r := by
  obtain ⟨h1, h2, _⟩ := sum_ok 30 l x r hl h
  exact ⟨h1, h2⟩
theorem last_sh {l r : List T} {x : X} (hl : P6 l) (h : lastP l = some (x, r)) : Sh l r := by
  unfold lastP at h
  split at h
  · cases h
  · rename_i e l1 h1
    split at h
    · cases h
    · rename_i l2 h2
      injection h with h; injection h with h3 h4; subst h4
      exact (sum_sh hl h1).trans (eat_sh h2)
theorem print_sh {l r : List T} {y : SH × SF} (hl : P6 l) (h : printP l = some (y, r)) : Sh l r := by
  unfold printP at h
  split at h
  · cases h
  · rename_i e l1 h1
    injection h with h; injection h with h3 h4; subst h4
    exact last_sh hl h1
theorem assign_sh {l r : List T} {y : SH × SF} (hl : P6 l) (h : assignP l = some (y, r)) : Sh l r := by
  unfold assignP at h
  split at h
  · cases h
  · rename_i s l1 h1
    have s1 := name_sh h1
    split at h
    · unfold setP at h
      split at h
      · cases h
      · rename_i l2 h2
        have s2 := s1.trans (eat_sh h2)
        split at h
        · cases h
        · rename_i e l3 h3
          injection h with h; injection h with h4 h5; subst h5
          exact s2.trans (last_sh (s2.p6 hl) h3)
    · rename_i l2 h2
      have s2 := s1.trans (eat_sh h2)
      unfold putP at h
      split at h
      · cases h
      · rename_i a l3 h3
        have s3 := s2.trans (sum_sh (s2.p6 hl) h3)
        split at h
        · cases h
        · rename_i l4 h4
          have s4 := s3.trans (eat_sh h4)
          split at h
          · cases h
          · rename_i l5 h5
            have s5 := s4.trans (eat_sh h5)
            split at h
            · cases h
            · rename_i e l6 h6
              injection h with h; injection h with h7 h8; subst h8
              exact s5.trans (last_sh (s5.p6 hl) h6)
theorem head_sh {l r : List T} {y : List UInt8 × X × X} (hl : P6 l) (h : headP l = some (y, r)) : Sh l r := by
  unfold headP at h
  split at h
  · cases h
  · rename_i s l1 h1
    have s1 := name_sh h1
    split at h
    · cases h
    · rename_i l2 h2
      have s2 := s1.trans (eat_sh h2)
      split at h
      · cases h
      · rename_i lo l3 h3
        have s3 := s2.trans (sum_sh (s2.p6 hl) h3)
        split at h
        · cases h
        · rename_i l4 h4
          have s4 := s3.trans (eat_sh h4)
          split at h
          · cases h
          · rename_i hi l5 h5
            have s5 := s4.trans (sum_sh (s4.p6 hl) h5)
            split at h
            · cases h
            · rename_i l6 h6
              injection h with h; injection h with h7 h8; subst h8
              exact s5.trans (eat_sh h6)
theorem body_sh {st : List T → RestS} (hst : ∀ l y r, P6 l → st l = some (y, r) → Sh l r) : ∀ (m : Nat) (l r : List T) (F : SF), P6 l → bodyL st m l = some (F, r) → Sh l r
  | 0, _, _, _, _, h => by cases h
  | m + 1, l, r, F, hl, h => by
    rw [bodyL] at h
    split at h
    · rename_i l1 h1
      injection h with h; injection h with h7 h8; subst h8
      exact eat_sh h1
    · split at h
      · cases h
      · rename_i h' F' l1 h1
        have s1 := hst l _ l1 hl h1
        split at h
        · cases h
        · rename_i G l2 h2
          injection h with h; injection h with h7 h8; subst h8
          exact s1.trans (body_sh hst m l1 l2 G (s1.p6 hl) h2)
theorem stmt_sh : ∀ (d : Nat) (l : List T) (y : SH × SF) (r : List T), P6 l → stmtP d l = some (y, r) → Sh l r
  | 0, _, _, _, _, h => by cases h
  | d + 1, l, y, r, hl, h => by
    rw [stmtP] at h
    split at h
    · rename_i l1 h1
      have s1 := eat_sh h1
      exact s1.trans (print_sh (s1.p6 hl) h)
    · split at h
      · rename_i l1 h1
        have s1 := eat_sh h1
        unfold loopP at h
        split at h
        · cases h
        · rename_i s lo hi l2 h2
          have s2 := s1.trans (head_sh (s1.p6 hl) h2)
          split at h
          · cases h
          · rename_i F l3 h3
            injection h with h; injection h with h7 h8; subst h8
            exact s2.trans (body_sh (fun l y r => stmt_sh d l y r) _ _ _ _ (s2.p6 hl) h3)
      · exact assign_sh hl h
theorem stmt_goes {ts : List T} (hG : ∀ t ∈ ts, t.s.length ≤ 6) {d p p' : Nat} {h : SH} {F : SF} {bad : Bool} (hs : StS5 ts (stmtP d (ts.drop p)) h F p' bad) (hb : bad = false) : (ts.drop p').length < (ts.drop p).length := by
  cases e : stmtP d (ts.drop p) with
  | none => rw [e] at hs; rw [show bad = true from hs] at hb; cases hb
  | some y =>
    obtain ⟨⟨h', F'⟩, l⟩ := y
    rw [e] at hs
    obtain ⟨_, _, _, hd⟩ := hs
    rw [hd]
    exact (stmt_sh d _ _ _ (fun t ht => hG t (List.mem_of_mem_drop ht)) e).lt
end Go.Proofs.YtpinockfakndlaaGreat
namespace Go.Proofs.YtpinockfakndlaaGreat
open Go.RowKit Go.Lib
set_option linter.unusedSimpArgs false
set_option linter.unusedVariables false
theorem atomP_2 {sub : List T → Rest} {t : T} {r : List T} (h : t.k = 2) : atomP sub (t :: r) = some (numX t.n, r) := by show (if _ then _ else _) = _; rw [if_pos h]
theorem atomP_1 {sub : List T → Rest} {t : T} {r : List T} (h : t.k = 1) : atomP sub (t :: r) = nameP sub t.s r := by show (if _ then _ else if _ then _ else _) = _; rw [if_neg (by omega), if_pos h]
theorem kindR_no {k : Int} {ts : List T} {p : Nat} {t : T} (ht : ts[p]? = some t) (h : kindR false k (ts.drop p) = false) : ¬ t.k = k := by
  rw [dropT ht] at h
  simpa [kindR] using h
theorem atomP_g {sub : List T → Rest} {t : T} {r : List T} (h2 : ¬ t.k = 2) (h1 : ¬ t.k = 1) (hs : t.s = [40]) : atomP sub (t :: r) = groupP sub r := by
  show (if _ then _ else if _ then _ else if _ then _ else _) = _; rw [if_neg h2, if_neg h1, if_pos hs]
theorem atomP_m {sub : List T → Rest} {t : T} {r : List T} (h2 : ¬ t.k = 2) (h1 : ¬ t.k = 1) (hs : t.s = [109, 105, 110]) : atomP sub (t :: r) = choiceP sub 7 r := by
  show (if _ then _ else if _ then _ else if _ then _ else if _ then _ else _) = _; rw [if_neg h2, if_neg h1, if_neg (by rw [hs]; decide), if_pos hs]
theorem atomP_x {sub : List T → Rest} {t : T} {r : List T} (h2 : ¬ t.k = 2) (h1 : ¬ t.k = 1) (hs : t.s = [109, 97, 120]) : atomP sub (t :: r) = choiceP sub 8 r := by
  show (if _ then _ else if _ then _ else if _ then _ else if _ then _ else if _ then _ else _) = _; rw [if_neg h2, if_neg h1, if_neg (by rw [hs]; decide), if_neg (by rw [hs]; decide), if_pos hs]
theorem atomP_none {sub : List T → Rest} {t : T} {r : List T} (h2 : ¬ t.k = 2) (h1 : ¬ t.k = 1) (ha : ¬ t.s = [40]) (hm : ¬ t.s = [109, 105, 110]) (hx : ¬ t.s = [109, 97, 120]) : atomP sub (t :: r) = none := by
  show (if _ then _ else if _ then _ else if _ then _ else if _ then _ else if _ then _ else _) = _; rw [if_neg h2, if_neg h1, if_neg ha, if_neg hm, if_neg hx]
theorem isR_true {ts : List T} {p : Nat} {bad : Bool} {k : Int} {s : List UInt8} (h : isR bad k s (ts.drop p) = true) : bad = false ∧ ∃ t, ts[p]? = some t ∧ t.s = s ∧ p < ts.length := by
  unfold isR at h
  rw [Bool.and_eq_true] at h
  obtain ⟨hb, t, ht, _, hlt⟩ := kindR_true h.1
  have h2 := h.2
  rw [dropT ht] at h2
  exact ⟨hb, t, ht, by simpa using h2, hlt⟩
theorem isR_no {ts : List T} (hG : ∀ t ∈ ts, Good t) {p : Nat} {c : UInt8} (hc : kind c = 3) {t : T} (ht : ts[p]? = some t) (h : isR false 4 [c] (ts.drop p) = false) : ¬ t.s = [c] := by
  rw [mark_eat hc false _ (drop_good hG p), dropT ht] at h
  intro e
  simp [eat, e] at h
theorem isK_no {ts : List T} (hG : ∀ t ∈ ts, Good t) {p : Nat} {s : List UInt8} (hs : s ∈ keptL) {t : T} (ht : ts[p]? = some t) (h : isR false 3 s (ts.drop p) = false) : ¬ t.s = s := by
  rw [kept_eat hs false _ (drop_good hG p), dropT ht] at h
  intro e
  simp [eat, e] at h
theorem ev_nil (w : World) (lo : Nat) : EV w lo .nil (.slice Option.none 0 0) := EV.nil w lo _ _
set_option maxHeartbeats 4000000 in
set_option maxRecDepth 100000 in
theorem l5Atom_of (b : Nat) (v : Value) (ts : List T) (hG : ∀ t ∈ ts, Good t) (d : Nat) (deep : Int) (p : Nat) (bad : Bool) (ih : bad = false → ∀ (p : Nat) (bad : Bool) (w : World), Rd5 b v ts p deep bad w → Calls Tryz.prog 135 #[.pointer (some ⟨b, 0, none⟩)] w (PostE b v ts deep (resB bad (sumP d) (ts.drop p)) p w)) (w : World) (st : Rd5 b v ts p deep bad w) :
    Calls Tryz.prog 169 #[.pointer (some ⟨b, 0, none⟩)] w (PostE b v ts deep (resB bad (atomP (sumP d)) (ts.drop p)) p w) := by
  have Hih := hid ih
  have Hpair := hid (fun h => l5Pair_of b v ts hG d deep (ih h))
  have hbN := st.lt
  have b0 := aB w (.cells zero4 43)
  have S0 := hid (st.later b0)
  have T0 := hid (newthere4 w 43)
  have W0 := hid (Wr.of_below (b := b) b0)
  clear ih st b0
  obtain ⟨K2, HK2⟩ : ∃ R, Hid (kindR bad 2 (ts.drop p) = R) := ⟨_, rfl⟩
  go_enter Tryz.func169, Tryz.ntmps169
  go_wp2_with fail
  refine (l5Kind_is b v ts p deep bad 2 K2 HK2.out _ S0.out).mono ?_
  rintro e w1 ⟨rfl, hb1⟩
  have S1 := hid (S0.out.later hb1)
  have V1 := hid (Wr.of_below (b := b) hb1)
  have W1 := hid (W0.out.trans (.of_below hb1))
  have T1 := hid (there_later T0.out hb1)
  have Z1 := hb1.size
  rw [World.size_alloc] at Z1
  clear hb1 S0 W0 T0
  cases K2 with
  | true =>
    obtain ⟨rfl, t, ht, hk, hlt⟩ := kindR_true HK2.out
    go_wp2_with fail
    refine (l5Num_is b v ts p deep false true HK2.out _ S1.out).mono ?_
    rintro e w2 ⟨ho, s2, h2⟩
    obtain ⟨t', ht', rfl⟩ : ∃ t', ts[p]? = some t' ∧ e = .returned (.int .i64 t'.n) := by
      rcases ho with ⟨_, h⟩ | ⟨h, _⟩
      · exact h
      · cases h
    obtain rfl : t' = t := by rw [ht] at ht'; exact (Option.some.inj ht').symm
    go_wp2_with fail
    refine (l3Num_is t'.n _).mono ?_
    rintro e w3 ⟨rfl, hb3⟩
    have HT := there_later (there_wr T1.out h2 (by omega)) hb3
    have HS := hid (s2.later hb3)
    have HWr := hid ((W1.out.trans h2).trans (.of_below hb3))
    have HRel := hid (show StE5 ts (resB false (atomP (sumP d)) (ts.drop p)) (numX t'.n) (p + true.toNat) (false || !true) by
      show StE5 ts (atomP (sumP d) (ts.drop p)) _ _ _
      rw [dropT ht, atomP_2 hk]; exact ⟨rfl, rfl, rfl⟩)
    have HE := hid (ev_nil w3 (w.heap.size + 1))
    clear s2 h2 hb3 ho ht ht'
    have oF := oneX (numX t'.n) (.slice Option.none 0 0) HE.out.isOne
    go_wp2_with (refine sA rfl 43 _ _ rfl w.heap.size 0 (xC (numX t'.n) (.slice Option.none 0 0)).toArray rfl rfl HT sizeIE2 oF ?_; intro W hW)
    have HW := Got5.close (p := p) (res := resB false (atomP (sumP d)) (ts.drop p)) hbN HT HE.out HS.out HWr.out (Nat.le_add_right _ _) HRel.out hW
    have hlv := run_loadVar_mid W w.heap.size 0 _ _ _ HW.2 Tryz.underlying43 rfl sizeIE2
    refine bodyPost_ret (v := .agg (xC (numX t'.n) (.slice Option.none 0 0)).toArray) ?_ rfl ⟨numX t'.n, .slice Option.none 0 0, _, _, rfl, HW.1⟩
    simp [results, Tryz.results169, asAddr, hlv, Act.put]
    try rfl
  | false =>
    obtain ⟨K1, HK1⟩ : ∃ R, Hid (kindR bad 1 (ts.drop p) = R) := ⟨_, rfl⟩
    go_wp2_with fail
    refine (l5Kind_is b v ts p deep bad 1 K1 HK1.out _ S1.out).mono ?_
    rintro e w2 ⟨rfl, hb2⟩
    have S2 := hid (S1.out.later hb2)
    have W2 := hid (W1.out.trans (.of_below hb2))
    have T2 := hid (there_later T1.out hb2)
    have Z2 := hb2.size
    clear hb2 S1 W1 T1 V1
    cases K1 with
    | true =>
      obtain ⟨rfl, t, ht, hk, hlt⟩ := kindR_true HK1.out
      go_wp2_with fail
      refine (l5Name_is b v ts p deep false true HK1.out _ S2.out).mono ?_
      rintro e w3 ⟨ho, s3, h3⟩
      obtain ⟨t', ht', rfl⟩ : ∃ t', ts[p]? = some t' ∧ e = .returned (.string (bs t'.s)) := by
        rcases ho with ⟨_, h⟩ | ⟨h, _⟩
        · exact h
        · cases h
      obtain rfl : t' = t := by rw [ht] at ht'; exact (Option.some.inj ht').symm
      have S3 : Hid (Rd5 b v ts (p + 1) deep false w3) := hid s3
      have W3 := hid (W2.out.trans h3)
      have T3 := hid (there_wr T2.out h3 (by omega))
      have Z3 := h3.size
      have HA := hid (show atomP (sumP d) (ts.drop p) = nameP (sumP d) t'.s (ts.drop (p + 1)) by rw [dropT ht, atomP_1 hk])
      clear s3 h3 ho ht ht' S2 W2 T2
      obtain ⟨R4, HR4⟩ : ∃ R, Hid (isR false 4 [91] (ts.drop (p + 1)) = R) := ⟨_, rfl⟩
      go_wp2_with fail
      refine (l5Mark_is b v ts (p + 1) deep false [91] R4 HR4.out _ S3.out).mono ?_
      rintro e w4 ⟨rfl, s4, h4⟩
      have S4 := hid s4
      have W4 := hid (W3.out.trans h4)
      have T4 := hid (there_wr T3.out h4 (by omega))
      have Z4 := h4.size
      have G4 := hid ((St5.start ts (p + 1) false).mark hG (c := 91) (by decide) HR4.out)
      clear s4 h4 S3 W3 T3
      cases R4 with
      | false =>
        go_wp2_with fail
        refine (l3Var_is (bs t'.s) _).mono ?_
        rintro e w5 ⟨rfl, hb5⟩
        have HT := there_later T4.out hb5
        have HS := hid (S4.out.later hb5)
        have HWr := hid (W4.out.trans (.of_below hb5))
        have he0 : eat [91] (ts.drop (p + 1)) = none := by
          cases h : eat [91] (ts.drop (p + 1)) with
          | none => rfl
          | some l => have := HR4.out; rw [mark_eat (by decide) false _ (drop_good hG _), h] at this; cases this
        have HRel := hid (show StE5 ts (resB false (atomP (sumP d)) (ts.drop p)) (varX t'.s) (p + 1 + false.toNat) false by
          show StE5 ts (atomP (sumP d) (ts.drop p)) _ _ _
          rw [HA.out]; unfold nameP; rw [he0]; exact ⟨rfl, rfl, rfl⟩)
        have HE := hid (ev_nil w5 (w.heap.size + 1))
        clear hb5
        have oF := oneX (varX t'.s) (.slice Option.none 0 0) HE.out.isOne
        go_wp2_with (refine sA rfl 43 _ _ rfl w.heap.size 0 (xC (varX t'.s) (.slice Option.none 0 0)).toArray rfl rfl HT sizeIE2 oF ?_; intro W hW)
        have HW := Got5.close (p := p) (res := resB false (atomP (sumP d)) (ts.drop p)) hbN HT HE.out HS.out HWr.out (by first | (simp; done) | (simp; omega)) HRel.out hW
        have hlv := run_loadVar_mid W w.heap.size 0 _ _ _ HW.2 Tryz.underlying43 rfl sizeIE2
        refine bodyPost_ret (v := .agg (xC (varX t'.s) (.slice Option.none 0 0)).toArray) ?_ rfl ⟨varX t'.s, .slice Option.none 0 0, _, _, rfl, HW.1⟩
        simp [results, Tryz.results169, asAddr, hlv, Act.put]
        try rfl
      | true =>
        obtain ⟨l4, hl4⟩ : ∃ l, eat [91] (ts.drop (p + 1)) = some l := by
          cases h : eat [91] (ts.drop (p + 1)) with
          | none => have := HR4.out; rw [mark_eat (by decide) false _ (drop_good hG _), h] at this; cases this
          | some l => exact ⟨l, rfl⟩
        have hl5 := (eat_drop hl4).1
        go_wp2_with fail
        refine (Hih.out (by first | exact rfl | exact trivial) (p + 1 + 1) false _ S4.out).mono ?_
        rintro e n5 ⟨x5, u5, p5, b5, rfl, g5⟩
        have o5 := oneX x5 u5 g5.ev.isOne
        have K5 := hid g5
        clear g5
        go_wp2_with (refine sA rfl 43 _ _ rfl n5.heap.size 0 (xC x5 u5).toArray rfl rfl (newthere4 n5 _) sizeIE2 o5 ?_; intro W hW; have HW5 := hid (newblk4 x5 u5 hW); clear hW)
        obtain ⟨w5, hw5⟩ : ∃ z, W = z := ⟨_, rfl⟩
        rw [hw5] at HW5 ⊢
        clear hw5 W
        have hs5 := K5.out.wr.size
        have S5 := hid (K5.out.rd.later HW5.out.2)
        have V5 := hid (K5.out.wr.trans (.of_below (b := b) HW5.out.2))
        have W5 := hid (W4.out.trans V5.out)
        have T5 := hid (there_wr T4.out V5.out (by omega))
        have G5 : Hid (StE5 ts (sumP d l4) x5 p5 b5) := hid (by rw [hl5]; exact K5.out.rel)
        have E5 := hid ((K5.out.ev.lower (lo' := w.heap.size + 1) (by omega)).later HW5.out.2)
        have L5 := hid K5.out.le
        have H5 := hid G5.out.st
        have Z5 := HW5.out.2.size
        obtain ⟨R6, HR6⟩ : ∃ R, Hid (isR b5 4 [93] (ts.drop p5) = R) := ⟨_, rfl⟩
        go_wp2_with fail
        refine (l5Mark_is b v ts p5 deep b5 [93] R6 HR6.out _ S5.out).mono ?_
        rintro e m6 ⟨rfl, s6, h6⟩
        go_wp2_with fail
        refine (l5Must_is b v ts (p5 + R6.toNat) deep b5 R6 _ s6).mono ?_
        rintro e q6 ⟨rfl, s6', h6'⟩
        obtain ⟨p6, Hp6⟩ : ∃ n, Hid (p5 + R6.toNat = n) := ⟨_, rfl⟩
        obtain ⟨b6, Hb6⟩ : ∃ n, Hid ((b5 || !R6) = n) := ⟨_, rfl⟩
        rw [Hp6.out, Hb6.out] at s6'
        have S6 := hid s6'
        have V6 := hid (h6.trans h6')
        have W6 := hid (W5.out.trans (h6.trans h6'))
        have L6 : Hid (p5 ≤ p6) := hid (by rw [← Hp6.out]; exact le_toNat _ _)
        have G6 := hid (H5.out.mark hG (c := 93) (by decide) HR6.out)
        rw [Hp6.out, Hb6.out] at G6
        clear s6 s6' h6 h6' HR6 Hp6 Hb6
        have E6 := hid (E5.out.wr5 V6.out (by omega))
        have R6 := hid (range_wr5 HW5.out.1 V6.out (by omega))
        have T6 := hid (there_wr T5.out V6.out (by omega))
        have Z6 := V6.out.size
        go_wp2_with (refine wpList_load_mid rfl 43 _ rfl n5.heap.size 0 rfl _ _ R6.out Tryz.underlying43 rfl sizeIE2 ?_)
        refine (l3At_is (bs t'.s) x5 (w.heap.size + 1) _ u5 E6.out (by omega)).mono ?_
        rintro e w7 ⟨z, rfl, e7, hb7⟩
        have HT := there_later T6.out hb7
        have HS := hid (S6.out.later hb7)
        have HWr := hid (W6.out.trans (.of_below hb7))
        have HRel := hid (show StE5 ts (resB false (atomP (sumP d)) (ts.drop p)) (atX t'.s x5) p6 b6 by
          show StE5 ts (atomP (sumP d) (ts.drop p)) _ _ _
          rw [HA.out]; exact place_st hl4 G5.out G6.out)
        have HE := hid e7
        have HL : p ≤ p6 := by have := L5.out; have := L6.out; omega
        clear hb7 e7
        have oF := oneX (atX t'.s x5) (z) HE.out.isOne
        go_wp2_with (refine sA rfl 43 _ _ rfl w.heap.size 0 (xC (atX t'.s x5) (z)).toArray rfl rfl HT sizeIE2 oF ?_; intro W hW)
        have HW := Got5.close (p := p) (res := resB false (atomP (sumP d)) (ts.drop p)) hbN HT HE.out HS.out HWr.out HL HRel.out hW
        have hlv := run_loadVar_mid W w.heap.size 0 _ _ _ HW.2 Tryz.underlying43 rfl sizeIE2
        refine bodyPost_ret (v := .agg (xC (atX t'.s x5) (z)).toArray) ?_ rfl ⟨atX t'.s x5, z, _, _, rfl, HW.1⟩
        simp [results, Tryz.results169, asAddr, hlv, Act.put]
        try rfl
    | false =>
      obtain ⟨R3, HR3⟩ : ∃ R, Hid (isR bad 4 [40] (ts.drop p) = R) := ⟨_, rfl⟩
      go_wp2_with fail
      refine (l5Mark_is b v ts p deep bad [40] R3 HR3.out _ S2.out).mono ?_
      rintro e w3 ⟨rfl, s3, h3⟩
      have S3 := hid s3
      have W3 := hid (W2.out.trans h3)
      have T3 := hid (there_wr T2.out h3 (by omega))
      have Z3 := h3.size
      clear s3 h3 S2 W2 T2
      cases R3 with
      | true =>
        obtain ⟨rfl, t, ht, hts', hlt⟩ := isR_true HR3.out
        have HA := hid (show atomP (sumP d) (ts.drop p) = groupP (sumP d) (ts.drop (p + 1)) by rw [dropT ht, atomP_g (kindR_no ht HK2.out) (kindR_no ht HK1.out) hts'])
        have G3 := hid (St5.start ts (p + 1) false)
        go_wp2_with fail
        refine (Hih.out (by first | exact rfl | exact trivial) (p + 1) false _ S3.out).mono ?_
        rintro e n5 ⟨x5, u5, p5, b5, rfl, g5⟩
        have o5 := oneX x5 u5 g5.ev.isOne
        have K5 := hid g5
        clear g5
        go_wp2_with (refine sA rfl 43 _ _ rfl n5.heap.size 0 (xC x5 u5).toArray rfl rfl (newthere4 n5 _) sizeIE2 o5 ?_; intro W hW; have HW5 := hid (newblk4 x5 u5 hW); clear hW)
        obtain ⟨w5, hw5⟩ : ∃ z, W = z := ⟨_, rfl⟩
        rw [hw5] at HW5 ⊢
        clear hw5 W
        have hs5 := K5.out.wr.size
        have S5 := hid (K5.out.rd.later HW5.out.2)
        have V5 := hid (K5.out.wr.trans (.of_below (b := b) HW5.out.2))
        have W5 := hid (W3.out.trans V5.out)
        have T5 := hid (there_wr T3.out V5.out (by omega))
        have G5 := hid (G3.out.sub K5.out.rel)
        have E5 := hid ((K5.out.ev.lower (lo' := w.heap.size + 1) (by omega)).later HW5.out.2)
        have L5 := hid K5.out.le
        have H5 := hid G5.out.st
        have Z5 := HW5.out.2.size
        obtain ⟨R6, HR6⟩ : ∃ R, Hid (isR b5 4 [41] (ts.drop p5) = R) := ⟨_, rfl⟩
        go_wp2_with fail
        refine (l5Mark_is b v ts p5 deep b5 [41] R6 HR6.out _ S5.out).mono ?_
        rintro e m6 ⟨rfl, s6, h6⟩
        go_wp2_with fail
        refine (l5Must_is b v ts (p5 + R6.toNat) deep b5 R6 _ s6).mono ?_
        rintro e q6 ⟨rfl, s6', h6'⟩
        obtain ⟨p6, Hp6⟩ : ∃ n, Hid (p5 + R6.toNat = n) := ⟨_, rfl⟩
        obtain ⟨b6, Hb6⟩ : ∃ n, Hid ((b5 || !R6) = n) := ⟨_, rfl⟩
        rw [Hp6.out, Hb6.out] at s6'
        have S6 := hid s6'
        have V6 := hid (h6.trans h6')
        have W6 := hid (W5.out.trans (h6.trans h6'))
        have L6 : Hid (p5 ≤ p6) := hid (by rw [← Hp6.out]; exact le_toNat _ _)
        have G6 := hid (H5.out.mark hG (c := 41) (by decide) HR6.out)
        rw [Hp6.out, Hb6.out] at G6
        clear s6 s6' h6 h6' HR6 Hp6 Hb6
        have E6 := hid (E5.out.wr5 V6.out (by omega))
        have R6 := hid (range_wr5 HW5.out.1 V6.out (by omega))
        have T6 := T5.out
        have HT := there_wr T6 V6.out (by omega)
        have HRel := hid (show StE5 ts (resB false (atomP (sumP d)) (ts.drop p)) x5 p6 b6 by
          show StE5 ts (atomP (sumP d) (ts.drop p)) _ _ _
          rw [HA.out]; exact group_st (g := some (ts.drop (p + 1))) G5.out G6.out)
        have HL : p ≤ p6 := by have := L5.out; have := L6.out; omega
        have oF := oneX x5 u5 E6.out.isOne
        go_wp2_with (first | (refine wpList_load_mid rfl 43 _ rfl n5.heap.size 0 rfl _ _ R6.out Tryz.underlying43 rfl sizeIE2 ?_) | (refine sA rfl 43 _ _ rfl w.heap.size 0 (xC x5 u5).toArray rfl rfl HT sizeIE2 oF ?_; intro W hW))
        have HW := Got5.close (p := p) (res := resB false (atomP (sumP d)) (ts.drop p)) hbN HT E6.out S6.out W6.out HL HRel.out hW
        have hlv := run_loadVar_mid W w.heap.size 0 _ _ _ HW.2 Tryz.underlying43 rfl sizeIE2
        refine bodyPost_ret (v := .agg (xC x5 u5).toArray) ?_ rfl ⟨x5, u5, _, _, rfl, HW.1⟩
        simp [results, Tryz.results169, asAddr, hlv, Act.put]
        try rfl
      | false =>
        obtain ⟨R4, HR4⟩ : ∃ R, Hid (isR bad 3 [109, 105, 110] (ts.drop p) = R) := ⟨_, rfl⟩
        go_wp2_with fail
        refine (l5Kept_is b v ts p deep bad [109, 105, 110] R4 HR4.out _ S3.out).mono ?_
        rintro e w4 ⟨rfl, s4, h4⟩
        have S4 := hid s4
        have W4 := hid (W3.out.trans h4)
        have T4 := hid (there_wr T3.out h4 (by omega))
        have Z4 := h4.size
        clear s4 h4 S3 W3 T3
        cases R4 with
        | true =>
          obtain ⟨rfl, t, ht, hts', hlt⟩ := isR_true HR4.out
          have HA := hid (show atomP (sumP d) (ts.drop p) = choiceP (sumP d) 7 (ts.drop (p + 1)) by rw [dropT ht, atomP_m (kindR_no ht HK2.out) (kindR_no ht HK1.out) hts'])
          go_wp2_with fail
          refine (Hpair.out (by first | exact rfl | exact trivial) 7 (p + 1) false _ S4.out).mono ?_
          rintro e w7 ⟨x7, u7, p7, b7, rfl, g7⟩
          have HT := there_wr T4.out g7.wr (by omega)
          have HS := hid g7.rd
          have HWr := hid (W4.out.trans g7.wr)
          have HE := hid (g7.ev.lower (lo' := w.heap.size + 1) (by omega))
          have HRel := hid (show StE5 ts (resB false (atomP (sumP d)) (ts.drop p)) x7 p7 b7 by
            show StE5 ts (atomP (sumP d) (ts.drop p)) _ _ _
            rw [HA.out]; exact g7.rel)
          have HL : p ≤ p7 := by have := g7.le; omega
          clear g7
          have oF := oneX (x7) (u7) HE.out.isOne
          go_wp2_with (refine sA rfl 43 _ _ rfl w.heap.size 0 (xC (x7) (u7)).toArray rfl rfl HT sizeIE2 oF ?_; intro W hW)
          have HW := Got5.close (p := p) (res := resB false (atomP (sumP d)) (ts.drop p)) hbN HT HE.out HS.out HWr.out HL HRel.out hW
          have hlv := run_loadVar_mid W w.heap.size 0 _ _ _ HW.2 Tryz.underlying43 rfl sizeIE2
          refine bodyPost_ret (v := .agg (xC (x7) (u7)).toArray) ?_ rfl ⟨x7, u7, _, _, rfl, HW.1⟩
          simp [results, Tryz.results169, asAddr, hlv, Act.put]
          try rfl
        | false =>
          obtain ⟨R5, HR5⟩ : ∃ R, Hid (isR bad 3 [109, 97, 120] (ts.drop p) = R) := ⟨_, rfl⟩
          go_wp2_with fail
          refine (l5Kept_is b v ts p deep bad [109, 97, 120] R5 HR5.out _ S4.out).mono ?_
          rintro e w5 ⟨rfl, s5, h5⟩
          have S5 := hid s5
          have W5 := hid (W4.out.trans h5)
          have T5 := hid (there_wr T4.out h5 (by omega))
          have Z5 := h5.size
          clear s5 h5 S4 W4 T4
          cases R5 with
          | true =>
            obtain ⟨rfl, t, ht, hts', hlt⟩ := isR_true HR5.out
            have HA := hid (show atomP (sumP d) (ts.drop p) = choiceP (sumP d) 8 (ts.drop (p + 1)) by rw [dropT ht, atomP_x (kindR_no ht HK2.out) (kindR_no ht HK1.out) hts'])
            go_wp2_with fail
            refine (Hpair.out (by first | exact rfl | exact trivial) 8 (p + 1) false _ S5.out).mono ?_
            rintro e w7 ⟨x7, u7, p7, b7, rfl, g7⟩
            have HT := there_wr T5.out g7.wr (by omega)
            have HS := hid g7.rd
            have HWr := hid (W5.out.trans g7.wr)
            have HE := hid (g7.ev.lower (lo' := w.heap.size + 1) (by omega))
            have HRel := hid (show StE5 ts (resB false (atomP (sumP d)) (ts.drop p)) x7 p7 b7 by
              show StE5 ts (atomP (sumP d) (ts.drop p)) _ _ _
              rw [HA.out]; exact g7.rel)
            have HL : p ≤ p7 := by have := g7.le; omega
            clear g7
            have oF := oneX (x7) (u7) HE.out.isOne
            go_wp2_with (refine sA rfl 43 _ _ rfl w.heap.size 0 (xC (x7) (u7)).toArray rfl rfl HT sizeIE2 oF ?_; intro W hW)
            have HW := Got5.close (p := p) (res := resB false (atomP (sumP d)) (ts.drop p)) hbN HT HE.out HS.out HWr.out HL HRel.out hW
            have hlv := run_loadVar_mid W w.heap.size 0 _ _ _ HW.2 Tryz.underlying43 rfl sizeIE2
            refine bodyPost_ret (v := .agg (xC (x7) (u7)).toArray) ?_ rfl ⟨x7, u7, _, _, rfl, HW.1⟩
            simp [results, Tryz.results169, asAddr, hlv, Act.put]
            try rfl
          | false =>
            have q3 := S5.out.cells.2.2.2
            have q3f := S5.out.free 3 (by omega)
            have S6 : Hid (Rd5 b v ts p deep true (w5.setCell ⟨b, 3, Option.none⟩ (.bool true))) := hid (S5.out.setBad true)
            have V6 := hid (S5.out.wset 3 (.bool true))
            have HT := there_wr T5.out V6.out (by omega)
            have HE := hid (ev_nil (w5.setCell ⟨b, 3, Option.none⟩ (.bool true)) (w.heap.size + 1))
            have HRel : Hid (StE5 ts (resB bad (atomP (sumP d)) (ts.drop p)) ⟨⟨0, 0, ⟨#[]⟩⟩, .nil⟩ p true) := hid (by
              cases bad with
              | true => rfl
              | false =>
                show StE5 ts (atomP (sumP d) (ts.drop p)) _ _ _
                by_cases hlt : p < ts.length
                · have ht : ts[p]? = some ts[p] := List.getElem?_eq_getElem hlt
                  rw [dropT ht, atomP_none (kindR_no ht HK2.out) (kindR_no ht HK1.out) (isR_no hG (by decide) ht HR3.out) (isK_no hG (by decide) ht HR4.out) (isK_no hG (by decide) ht HR5.out)]
                  rfl
                · rw [List.drop_of_length_le (by omega)]
                  rfl)
            have oF := oneX ⟨⟨0, 0, ⟨#[]⟩⟩, .nil⟩ (.slice Option.none 0 0) rfl
            have WF := hid (W5.out.trans V6.out)
            go_wp2_with (refine sA rfl 43 _ _ rfl w.heap.size 0 (xC ⟨⟨0, 0, ⟨#[]⟩⟩, .nil⟩ (.slice Option.none 0 0)).toArray rfl rfl HT sizeIE2 oF ?_; intro W hW)
            have HW := Got5.close (x := ⟨⟨0, 0, ⟨#[]⟩⟩, .nil⟩) (u := .slice Option.none 0 0) (p := p) (res := resB bad (atomP (sumP d)) (ts.drop p)) hbN HT HE.out S6.out WF.out (Nat.le_refl _) HRel.out hW
            have hlv := run_loadVar_mid W w.heap.size 0 _ _ _ HW.2 Tryz.underlying43 rfl sizeIE2
            refine bodyPost_ret (v := .agg (xC ⟨⟨0, 0, ⟨#[]⟩⟩, .nil⟩ (.slice Option.none 0 0)).toArray) ?_ rfl ⟨_, _, _, _, rfl, HW.1⟩
            simp [results, Tryz.results169, asAddr, hlv, Act.put]
            try rfl
end Go.Proofs.YtpinockfakndlaaGreat
