import Derived.Test.YtpinockfakndlaaGreatZp
import Derived.Test.YtpinockfakndlaaGreatP30ofFnEvals
import Derived.Test.YtpinockfakndlaaGreatP01ofFnEvals
import Derived.Test.YtpinockfakndlaaGreatP07ofFnEvals
import Derived.Test.YtpinockfakndlaaGreatP06ofFnEvals
import Derived.Deep.AppendLies
namespace Go.Proofs.YtpinockfakndlaaGreat
open Go.RowKit Go.Lib
set_option maxHeartbeats 2000000
set_option linter.unusedSimpArgs false
set_option linter.unusedVariables false
abbrev VR := Value × List Int
def apartV (a b : VR) : Prop := ∀ k, a.1.ownBlock = some k → b.1.ownBlock ≠ some k
structure Owns (w : World) (B : Nat) (rs : List VR) : Prop where
  own : ∀ r ∈ rs, w.ownsRow B 3 1 r.1 r.2.length (ints r.2)
  apart : rs.Pairwise apartV
theorem ownG {w w' : World} {B sz n : Nat} {e : TypeId} {v : Value} {xs : List Value} {r : Option Nat} (h : w.ownsRow B e sz v n xs) (hg : w.grownBy w' r) (hne : ∀ k, v.ownBlock = some k → r ≠ some k) : w'.ownsRow B e sz v n xs := by
  refine ⟨h.1, ?_⟩
  rcases h.2 with h0 | ⟨g, cap, cur, h1, h2, h3, h4⟩
  · exact .inl h0
  · exact .inr ⟨g, cap, cur, h1, h2, (hg.block g (lt_heap h3) (fun e => hne g (by rw [h1]; rfl) e.symm)).trans h3, h4⟩
theorem Owns.later {w w' : World} {B : Nat} {rs : List VR} (h : Owns w B rs) (hb : Below w.heap.size w w') : Owns w' B rs := ⟨fun r hr => ownB (h.own r hr) hb, h.apart⟩
theorem Owns.nil (w : World) (B : Nat) : Owns w B [] := ⟨fun r h => by simp at h, List.Pairwise.nil⟩
theorem apart_same {P Q : List VR} {r r' : VR} (h : (P ++ r :: Q).Pairwise apartV) (e : r'.1 = r.1) : (P ++ r' :: Q).Pairwise apartV := by
  have e1 : ∀ a, apartV r' a ↔ apartV r a := fun a => by unfold apartV; rw [e]
  have e2 : ∀ a, apartV a r' ↔ apartV a r := fun a => by unfold apartV; rw [e]
  rw [List.pairwise_append] at h ⊢
  refine ⟨h.1, ?_, fun a ha b hb => ?_⟩
  · rw [List.pairwise_cons] at h ⊢
    exact ⟨fun b hb => (e1 b).2 (h.2.1.1 b hb), h.2.1.2⟩
  · rcases List.mem_cons.1 hb with rfl | hb
    · exact (e2 a).2 (h.2.2 a ha r (by simp))
    · exact h.2.2 a ha b (List.mem_cons_of_mem _ hb)
theorem Owns.put {w w' : World} {B : Nat} {P Q : List VR} {r r' : VR} (h : Owns w B (P ++ r :: Q)) (e : r'.1 = r.1) (hg : w.grownBy w' r.1.ownBlock) (hn : w'.ownsRow B 3 1 r'.1 r'.2.length (ints r'.2)) : Owns w' B (P ++ r' :: Q) := by
  refine ⟨fun q hq => ?_, apart_same h.apart e⟩
  have hp := h.apart
  rw [List.pairwise_append, List.pairwise_cons] at hp
  rcases List.mem_append.1 hq with hq | hq
  · exact ownG (h.own q (List.mem_append_left _ hq)) hg (fun k hk ek => hp.2.2 q hq r (by simp) k hk ek)
  · rcases List.mem_cons.1 hq with rfl | hq
    · exact hn
    · exact ownG (h.own q (List.mem_append_right _ (List.mem_cons_of_mem _ hq))) hg (fun k hk ek => hp.2.1.1 q hq k ek hk)
def mkRows : Nat → List VR → List VR
  | _, [] => []
  | m, r :: rs => (r.1, imarks m r.2.length) :: mkRows (m + r.2.length) rs
def tot : List VR → Nat
  | [] => 0
  | r :: rs => r.2.length + tot rs
def totA : List (List Int) → Nat
  | [] => 0
  | xs :: A => xs.length + totA A
theorem drop_step {rs : List VR} {k : Nat} {r : VR} (h : rs[k]? = some r) : rs.drop k = r :: rs.drop (k + 1) := by
  obtain ⟨hk, e⟩ := List.getElem?_eq_some_iff.1 h
  rw [List.drop_eq_getElem_cons hk, e]
theorem Owns.row {w : World} {B : Nat} {rs : List VR} (h : Owns w B rs) {r : VR} (hr : r ∈ rs) : IV w B r.1 r.2 := IV.of rfl (h.own r hr)
theorem iivOf {w : World} {B C : Nat} {e : TypeId} {rs : List VR} {v : Value} (hout : w.ownsRow C e 1 v rs.length (rs.map (·.1))) (h : ∀ r ∈ rs, IV w B r.1 r.2) : IIV w 0 v (rs.map (·.2)) := by
  rcases hout.2 with ⟨h0, h1⟩ | ⟨g, cap, cur, h1, h2, h3, h4⟩
  · exact ⟨Option.none, 0, by rw [List.length_map, h1]; exact h0, .inl (by rw [List.length_eq_zero_iff.1 h1]; rfl)⟩
  · refine ⟨_, cap, by rw [List.length_map]; exact h1, .inr ⟨g, 0, rfl, Nat.zero_le _, lt_heap h3, fun i xs hi => ?_⟩⟩
    rw [List.getElem?_map] at hi
    cases hr : rs[i]? with
    | none => rw [hr] at hi; simp at hi
    | some r =>
      rw [hr] at hi
      simp at hi
      subst hi
      subst h1
      have := own_cell hout (j := i) (u := r.1) (by rw [List.getElem?_map, hr]; rfl)
      exact ⟨r.1, by rw [Nat.zero_add]; exact this, (h r (List.mem_of_getElem? hr)).low⟩
structure StoV (w : World) (va vv vo : Value) (A : List (List Int)) (V O : List Int) : Prop where
  a : IIV w 0 va A
  v : IV w 0 vv V
  o : IV w 0 vo O
theorem StoV.later {w w' : World} {va vv vo : Value} {A : List (List Int)} {V O : List Int} (h : StoV w va vv vo A V O) (hb : Below w.heap.size w w') : StoV w' va vv vo A V O := ⟨h.a.later hb, h.v.later hb, h.o.later hb⟩
structure StoL (A : List (List Int)) (V O : List Int) : Prop where
  a : A.length ≤ 10000000
  b : ∀ xs ∈ A, xs.length ≤ 10000000
  v : V.length ≤ 10000000
  o : O.length ≤ 10000000
theorem blkLast (v : World) (o : Obj) : (v.alloc o).heap[v.heap.size]? = some o := by show (v.heap.push o)[v.heap.size]? = _; simp
structure Bx2 (w w' : World) (N : Nat) (x0 x1 x2 x3 y0 y1 y2 y3 : Value) (t : TypeId) : Prop where
  p : w'.heap[N]? = some (.cells #[x0, x1, x2, x3] t (0, 0))
  q : w'.heap[N + 1]? = some (.cells #[y0, y1, y2, y3] t (0, 0))
  b : Below w.heap.size w w'
theorem Bx2.start (w : World) (x0 x1 x2 x3 y0 y1 y2 y3 : Value) (t : TypeId) : Bx2 w ((w.alloc (.cells #[x0, x1, x2, x3] t)).alloc (.cells #[y0, y1, y2, y3] t)) w.heap.size x0 x1 x2 x3 y0 y1 y2 y3 t :=
  ⟨by rw [Below.heap_alloc _ _ _ (by simp)]; exact blkLast _ _,
   (congrArg (fun n => ((w.alloc (.cells #[x0, x1, x2, x3] t)).alloc (.cells #[y0, y1, y2, y3] t)).heap[n]?) (show w.heap.size + 1 = (w.alloc (.cells #[x0, x1, x2, x3] t)).heap.size by simp)).trans (blkLast _ _),
   (aB w _).alloc (by simp) _⟩
theorem Bx2.later {w w1 w2 : World} {N : Nat} {x0 x1 x2 x3 y0 y1 y2 y3 : Value} {t : TypeId} (h : Bx2 w w1 N x0 x1 x2 x3 y0 y1 y2 y3 t) (hb : Below w1.heap.size w1 w2) : Bx2 w w2 N x0 x1 x2 x3 y0 y1 y2 y3 t :=
  ⟨(hb.block _ (lt_heap h.p)).trans h.p, (hb.block _ (lt_heap h.q)).trans h.q, h.b.trans (hb.mono h.b.size)⟩
structure StoO (w : World) (B : Nat) (va : Value) (rs : List VR) (v o : VR) : Prop where
  out : w.ownsRow B 31 1 va rs.length (rs.map (·.1))
  own : Owns w B (rs ++ [v, o])
theorem StoO.later {w w' : World} {B : Nat} {va : Value} {rs : List VR} {v o : VR} (h : StoO w B va rs v o) (hb : Below w.heap.size w w') : StoO w' B va rs v o := ⟨ownB h.out hb, h.own.later hb⟩
theorem StoO.stoV {w : World} {B : Nat} {va : Value} {rs : List VR} {v o : VR} (h : StoO w B va rs v o) : StoV w va v.1 o.1 (rs.map (·.2)) v.2 o.2 :=
  ⟨iivOf h.out (fun r hr => h.own.row (List.mem_append_left _ hr)), (h.own.row (by simp)).low, (h.own.row (by simp)).low⟩
theorem one4 {a b c d : Value} (ha : a.oneCell' = true) (hb : b.oneCell' = true) (hc : c.oneCell' = true) (hd : d.oneCell' = true) : (#[a, b, c, d] : Array Value).all (·.oneCell') = true :=
  all_oneCell_toArray (cs := [a, b, c, d]) (fun v hv => by
    simp only [List.mem_cons, List.not_mem_nil, or_false] at hv
    rcases hv with rfl | rfl | rfl | rfl <;> assumption)
def nz (n : Int) : List Int := if n < 0 ∨ 16 < n then [] else List.replicate n.toNat 0
theorem nz_len (n : Int) : (nz n).length ≤ 16 := by
  unfold nz
  split
  · simp
  · rw [List.length_replicate]; omega
theorem made0 (n : Nat) : (madeCells #[Value.int .i64 0] n).toList = ints (List.replicate n 0) := by
  apply List.ext_getElem?
  intro i
  by_cases h : i < n
  · simp [madeCells, ints, h, Value.cells, List.getElem?_replicate, Nat.mod_one]
  · simp [madeCells, ints, h, Value.cells, List.getElem?_replicate, Nat.mod_one]
theorem infoI8 : (Tryz.prog.info? 3).map (fun i => (i.zero, i.size, i.bytes)) = some (some (.int .i64 0), 1, 8) := by kernel_rfl
theorem infoIS8 : (Tryz.prog.info? 31).map (fun i => (i.zero, i.size, i.bytes)) = some (some (.slice Option.none 0 0), 1, 24) := by kernel_rfl
theorem sizeSto : (Tryz.prog.info? 33).map (·.size) = some 4 := by kernel_rfl
def Fresh (w w' : World) (v : Value) (xs : List Int) : Prop := w'.ownsRow w.heap.size 3 1 v xs.length (ints xs) ∧ Below w.heap.size w w'
theorem fresh_made {w w1 : World} {n : Nat} (hown : w1.ownsRow w.heap.size 3 1 (.slice (some ⟨w.heap.size, 0, Option.none⟩) n n) n (madeCells #[Value.int .i64 0] n).toList) (hgrow : w.grownBy w1 Option.none) : Fresh w w1 (.slice (some ⟨w.heap.size, 0, Option.none⟩) n n) (List.replicate n 0) := by
  rw [made0] at hown
  exact ⟨by rw [List.length_replicate]; exact hown, (Below.refl _ w).grown hgrow (Nat.le_refl _) (fun k hk => by cases hk)⟩
theorem noughts_is (n : Int) (w : World) :
    Calls Tryz.prog 46 #[.int .i64 n] w fun e w' => ∃ v, e = .returned v ∧ Fresh w w' v (nz n) := by
  obtain ⟨i0, hi, hz0, hz1, hz2⟩ := info_parts infoI8
  by_cases h1 : n < 0
  · go_enter Tryz.func46, Tryz.ntmps46
    go_wp2
    go_ret
    exact ⟨_, rfl, by rw [nz, if_pos (.inl h1)]; exact ⟨World.ownsRow_nil _ _ _ _, Below.refl _ _⟩⟩
  by_cases h2 : n > 16
  · go_enter Tryz.func46, Tryz.ntmps46
    go_wp2
    go_ret
    exact ⟨_, rfl, by rw [nz, if_pos (.inr h2)]; exact ⟨World.ownsRow_nil _ _ _ _, Below.refl _ _⟩⟩
  obtain ⟨k, rfl⟩ : ∃ k : Nat, n = (k : Int) := ⟨n.toNat, by omega⟩
  have hk : k ≤ 16 := by omega
  go_enter Tryz.func46, Tryz.ntmps46
  go_wp2_with (refine wpList_make_full _ rfl _ _ 31 rfl w.heap.size 3 i0 _ 1 Tryz.underlying31 hi hz0 hz1 .i64 .i64 _ _ k rfl rfl rfl rfl ?c1 ?c2 ?c3 ?_)
  case c1 => first | omega | (rw [hz2]; omega)
  case c2 => unfold maxLen; omega
  try (case c3 => exact Nat.le_refl _)
  intro w1 hown hgrow
  have HF := hid (fresh_made hown hgrow)
  clear hown hgrow
  go_wp2
  go_ret
  exact ⟨_, rfl, by rw [nz, if_neg (by omega)]; exact HF.out⟩
theorem own_ne {w : World} {B sz n N : Nat} {e t : TypeId} {v : Value} {xs : List Value} {ar : Array Value} {fr : Nat × Nat} (h : w.ownsRow B e sz v n xs) (hN : w.heap[N]? = some (.cells ar t fr)) (ht : t ≠ e) : v.ownBlock ≠ some N := by
  intro ek
  rcases h.2 with ⟨e0, _⟩ | ⟨g', cap', cur', e1, e2, e3, e4⟩
  · rw [e0] at ek; cases ek
  · rw [e1] at ek
    injection ek with ek
    rw [show g' = N from ek] at e3
    rw [hN] at e3
    injection e3 with e3
    injection e3 with _ e3 _
    exact ht e3
theorem own_own {w : World} {B C sz sz' n n' : Nat} {e e' : TypeId} {v v' : Value} {xs xs' : List Value} (h : w.ownsRow B e sz v n xs) (h' : w.ownsRow C e' sz' v' n' xs') (he : e' ≠ e) : ∀ k, v.ownBlock = some k → v'.ownBlock ≠ some k := by
  intro k hk
  rcases h'.2 with ⟨e0, _⟩ | ⟨g', cap', cur', e1, e2, e3, e4⟩
  · rw [e0]; intro h; cases h
  · rw [e1]
    intro hk2
    injection hk2 with hk2
    exact own_ne h e3 he (by rw [hk, ← hk2])
theorem own_lower {w : World} {B C sz n : Nat} {e : TypeId} {v : Value} {xs : List Value} (h : w.ownsRow B e sz v n xs) (hc : C ≤ B) : w.ownsRow C e sz v n xs := by
  refine ⟨h.1, ?_⟩
  rcases h.2 with h0 | ⟨g, cap, cur, h1, h2, h3⟩
  · exact .inl h0
  · exact .inr ⟨g, cap, cur, h1, Nat.le_trans hc h2, h3⟩
theorem Owns.insert {w w' : World} {B : Nat} {P Q : List VR} (h : Owns w B (P ++ Q)) (hB : B ≤ w.heap.size) {v : Value} {xs : List Int} (hf : Fresh w w' v xs) : Owns w' B (P ++ (v, xs) :: Q) := by
  have old := h.later hf.2
  have hlt : ∀ r ∈ P ++ Q, ∀ k, r.1.ownBlock = some k → k < w.heap.size := fun r hr k hk => ((h.own r hr).lt k hk).2
  have hge : ∀ k, v.ownBlock = some k → w.heap.size ≤ k := fun k hk => (hf.1.lt k hk).1
  have hp := h.apart
  rw [List.pairwise_append] at hp
  refine ⟨fun r hr => ?_, ?_⟩
  · rcases List.mem_append.1 hr with hr | hr
    · exact old.own r (List.mem_append_left _ hr)
    · rcases List.mem_cons.1 hr with rfl | hr
      · exact own_lower hf.1 hB
      · exact old.own r (List.mem_append_right _ hr)
  · rw [List.pairwise_append, List.pairwise_cons]
    refine ⟨hp.1, ⟨fun r hr k hk ek => ?_, hp.2.1⟩, fun a ha b hb => ?_⟩
    · have h1 := hlt r (List.mem_append_right _ hr) k ek
      have h2 := hge k hk
      omega
    · rcases List.mem_cons.1 hb with rfl | hb
      · intro k hk ek
        have h1 := hlt a (List.mem_append_left _ ha) k hk
        have h2 := hge k ek
        omega
      · exact hp.2.2 a ha b hb
structure StB (w0 w : World) (B N : Nat) (ua : Value) (rs : List VR) (v : VR) : Prop where
  blk : w.heap[N]? = some (.cells #[ua, v.1, .slice Option.none 0 0, .int .i64 0] 33 (0, 0))
  out : w.ownsRow B 31 1 ua rs.length (rs.map (·.1))
  own : Owns w B (rs ++ [v, (.slice Option.none 0 0, [])])
  low : Below B w0 w
  ge : B ≤ N ∧ B ≤ w.heap.size
theorem StB.later {w0 w w' : World} {B N : Nat} {ua : Value} {rs : List VR} {v : VR} (h : StB w0 w B N ua rs v) (hb : Below w.heap.size w w') : StB w0 w' B N ua rs v :=
  ⟨(hb.block _ (lt_heap h.blk)).trans h.blk, ownB h.out hb, h.own.later hb, h.low.trans (hb.mono h.ge.2), h.ge.1, Nat.le_trans h.ge.2 hb.size⟩
theorem StB.next {w0 w w3 w4 w6 : World} {B N g c : Nat} {ua v3 : Value} {rs : List VR} {v : VR} {xs : List Int} {o : Obj} (h : StB w0 w B N ua rs v) (hf : Fresh w w3 v3 xs) (hw4 : w4 = w3.alloc o)
    (hown : w6.ownsRow B 31 1 (.slice (some ⟨g, 0, Option.none⟩) (rs.length + 1) c) (rs.length + 1) (rs.map (·.1) ++ [v3])) (hg : w4.grownBy w6 ua.ownBlock) :
    StB w0 (w6.setCell ⟨N, 0, Option.none⟩ (.slice (some ⟨g, 0, Option.none⟩) (rs.length + 1) c)) B N (.slice (some ⟨g, 0, Option.none⟩) (rs.length + 1) c) (rs ++ [(v3, xs)]) v := by
  have hb4 : Below w3.heap.size w3 w4 := by rw [hw4]; exact aB _ _
  have h3 := h.later hf.2
  have h4 := h3.later hb4
  have o4 : Owns w4 B (rs ++ (v3, xs) :: [v, (.slice Option.none 0 0, [])]) := (h.own.insert h.ge.2 hf).later hb4
  have b6 : w6.heap[N]? = some (.cells #[ua, v.1, .slice Option.none 0 0, .int .i64 0] 33 (0, 0)) := (hg.block N (lt_heap h4.blk) (fun e => own_ne h4.out h4.blk (by decide) e.symm)).trans h4.blk
  have o6 : Owns w6 B (rs ++ (v3, xs) :: [v, (.slice Option.none 0 0, [])]) := ⟨fun r hr => ownG (o4.own r hr) hg (fun k hk => own_own (o4.own r hr) h4.out (by decide) k hk), o4.apart⟩
  have l6 : Below B w0 w6 := h4.low.trans ⟨hg.os, hg.tape, hg.output, hg.size, fun k hk => hg.block k (by have := h4.ge.2; omega) (fun e => by have := (h4.out.lt k e.symm).1; omega)⟩
  have hs := grownBy_set (w := w6) (g := N) ⟨N, 0, Option.none⟩ rfl (.slice (some ⟨g, 0, Option.none⟩) (rs.length + 1) c)
  refine ⟨?_, ?_, ?_, ?_, h.ge.1, ?_⟩
  · have := Go.heap_setCell_same w6 N 0 _ _ (.slice (some ⟨g, 0, Option.none⟩) (rs.length + 1) c) b6
    rw [this]; rfl
  · refine ownG (r := some N) ?_ hs (fun k hk ek => by injection ek with ek; subst ek; exact own_ne hown b6 (by decide) hk)
    rw [List.length_append, List.map_append]; exact hown
  · rw [List.append_assoc]
    exact ⟨fun r hr => ownG (o6.own r hr) hs (fun k hk ek => by injection ek with ek; subst ek; exact own_ne (o6.own r hr) b6 (by decide) hk), o6.apart⟩
  · exact l6.setCell (p := ⟨N, 0, Option.none⟩) h.ge.1 _
  · rw [World.size_setCell]; exact Nat.le_trans h4.ge.2 hg.size
theorem StB.start {w0 w w' : World} {B N : Nat} {v : Value} {xs : List Int} (hf : Fresh w w' v xs) (hlow : Below B w0 w) (hB : B ≤ w.heap.size) {w2 : World} (h2 : Below w'.heap.size w' w2) (hN : w2.heap[N]? = some (.cells #[.slice Option.none 0 0, v, .slice Option.none 0 0, .int .i64 0] 33 (0, 0))) (hBN : B ≤ N) : StB w0 w2 B N (.slice Option.none 0 0) [] (v, xs) := by
  have e1 := (Owns.insert (P := []) (Q := []) (Owns.nil w B) hB hf)
  have e2 : Owns w2 B [(v, xs)] := Owns.later e1 h2
  refine ⟨hN, World.ownsRow_nil _ _ _ _, ?_, hlow.trans ((hf.2.mono hB).trans (h2.mono (Nat.le_trans hB hf.2.size))), hBN, Nat.le_trans hB (Nat.le_trans hf.2.size h2.size)⟩
  refine ⟨fun r hr => ?_, ?_⟩
  · rcases List.mem_cons.1 hr with rfl | hr
    · exact e2.own _ (by simp)
    · simp at hr; subst hr; exact World.ownsRow_nil _ _ _ _
  · simp only [List.nil_append, List.pairwise_cons, List.mem_cons, List.not_mem_nil, or_false, false_implies, implies_true, List.Pairwise.nil, and_true, forall_eq]
    intro k _ h; cases h
def zrows (ts : List AR) : List (List Int) := ts.map fun t => nz t.n
theorem zrows_take {ts : List AR} {k : Nat} {t : AR} (h : ts[k]? = some t) : zrows (ts.take (k + 1)) = zrows (ts.take k) ++ [nz t.n] := by
  rw [List.take_add_one, h]; simp [zrows]
def NewSto (w : World) (ts : List AR) (n : Nat) (e : Ending) (w' : World) : Prop :=
  ∃ ua v rs, e = .returned (.agg #[ua, v, .slice Option.none 0 0, .int .i64 0]) ∧ rs.map (·.2) = zrows ts ∧ StoO w' w.heap.size ua rs (v, List.replicate n 0) (.slice Option.none 0 0, []) ∧ Below w.heap.size w w'
theorem newSto4 {w2 W : World} {x0 x1 x2 x3 y0 y1 y2 y3 : Value} {t : TypeId} (hW : (w2.alloc (.cells #[x0, x1, x2, x3] t)).setCells w2.heap.size 0 [y0, y1, y2, y3] = W) : W.heap[w2.heap.size]? = some (.cells #[y0, y1, y2, y3] t (0, 0)) ∧ Below w2.heap.size w2 W := by
  subst hW
  refine ⟨?_, below_sets _ _ (aB _ _) (Nat.le_refl _)⟩
  have h0 := blkLast w2 (.cells #[x0, x1, x2, x3] t)
  have h1 := Go.heap_setCell_same _ _ 0 _ _ y0 h0
  have h2 := Go.heap_setCell_same _ _ 1 _ _ y1 h1
  have h3 := Go.heap_setCell_same _ _ 2 _ _ y2 h2
  have h4 := Go.heap_setCell_same _ _ 3 _ _ y3 h3
  exact h4
theorem setSto4 {w2 W : World} {N : Nat} {x0 x1 x2 x3 y0 y1 y2 y3 : Value} {t : TypeId} (hN : w2.heap[N]? = some (.cells #[x0, x1, x2, x3] t (0, 0))) (hW : w2.setCells N 0 [y0, y1, y2, y3] = W) : W.heap[N]? = some (.cells #[y0, y1, y2, y3] t (0, 0)) ∧ w2.grownBy W (some N) := by
  subst hW
  have h1 := Go.heap_setCell_same _ _ 0 _ _ y0 hN
  have h2 := Go.heap_setCell_same _ _ 1 _ _ y1 h1
  have h3 := Go.heap_setCell_same _ _ 2 _ _ y2 h2
  have h4 := Go.heap_setCell_same _ _ 3 _ _ y3 h3
  exact ⟨h4, grownBy_trans (grownBy_trans (grownBy_trans (grownBy_set ⟨N, 0, Option.none⟩ rfl y0) (grownBy_set ⟨N, 1, Option.none⟩ rfl y1)) (grownBy_set ⟨N, 2, Option.none⟩ rfl y2)) (grownBy_set ⟨N, 3, Option.none⟩ rfl y3)⟩
theorem newArr2 {w2 W : World} {x0 x1 y0 y1 : Value} {t : TypeId} (hW : (w2.alloc (.cells #[x0, x1] t)).setCells w2.heap.size 0 [y0, y1] = W) : W.heap[w2.heap.size]? = some (.cells #[y0, y1] t (0, 0)) ∧ Below w2.heap.size w2 W := by
  subst hW
  refine ⟨?_, below_sets _ _ (aB _ _) (Nat.le_refl _)⟩
  have h0 := blkLast w2 (.cells #[x0, x1] t)
  have h1 := Go.heap_setCell_same _ _ 0 _ _ y0 h0
  have h2 := Go.heap_setCell_same _ _ 1 _ _ y1 h1
  exact h2
theorem thSto4 (w : World) (x0 x1 x2 x3 : Value) (t : TypeId) : (w.alloc (.cells #[x0, x1, x2, x3] t)).there w.heap.size 0 4 := blk_there (arr := #[x0, x1, x2, x3]) (t := t) (blkLast _ _) (Nat.le_refl 4)
theorem thArr2 (w : World) (x0 x1 : Value) (t : TypeId) : (w.alloc (.cells #[x0, x1] t)).there w.heap.size 0 2 := blk_there (arr := #[x0, x1]) (t := t) (blkLast _ _) (Nat.le_refl 2)
theorem blkNone {w : World} {N : Nat} {ar : Array Value} {t : TypeId} (h : w.heap[N]? = some (.cells ar t (0, 0))) : w.there N 0 ar.size := blk_there h (Nat.le_refl _)
theorem StB.close {w0 w W : World} {B N R : Nat} {ua : Value} {rs : List VR} {v : VR} {x0 x1 x2 x3 : Value} (h : StB w0 w B N ua rs v) (hR : w.heap[R]? = some (.cells #[x0, x1, x2, x3] 33 (0, 0))) (hBR : B ≤ R)
    (hW : w.setCells R 0 [ua, v.1, .slice Option.none 0 0, .int .i64 0] = W) : StoO W B ua rs v (.slice Option.none 0 0, []) ∧ Below B w0 W ∧ W.heap[R]? = some (.cells #[ua, v.1, .slice Option.none 0 0, .int .i64 0] 33 (0, 0)) := by
  obtain ⟨h1, h2⟩ := setSto4 hR hW
  refine ⟨⟨ownG h.out h2 (fun k hk ek => by injection ek with ek; subst ek; exact own_ne h.out hR (by decide) hk), ⟨fun r hr => ownG (h.own.own r hr) h2 (fun k hk ek => by injection ek with ek; subst ek; exact own_ne (h.own.own r hr) hR (by decide) hk), h.own.apart⟩⟩, h.low.trans ?_, h1⟩
  exact below_of_grown h2 (fun k hk => by injection hk with hk; omega) h.ge.2
set_option maxRecDepth 100000 in
theorem impl_StoNew (ts : List AR) (F : SF) (n : Nat) (hn : n ≤ 10000000) (hl : ts.length ≤ 1048576) (va vb : Value) (w : World) (ha : AV w 0 va ts) (hb : SV w 0 F vb)
    (hV : ∀ w v, SV w 0 F v → Calls Tryz.prog 26 #[v] w fun e w' => ∃ a c, e = .returned (.slice a n c) ∧ Below w.heap.size w w') :
    Calls Tryz.prog 19 #[.agg #[va, vb]] w (NewSto w ts n) := by
  have HA := hid (And.intro ha hb)
  have HV := hid hV
  obtain ⟨a1, c1, rfl⟩ := ha.shape
  obtain ⟨a2, c2, rfl⟩ := hb.shape
  obtain ⟨i0, hi, hz0, hz1, hz2⟩ := info_parts infoI8
  obtain ⟨j0, hj, hy0, hy1, hy2⟩ := info_parts infoIS8
  have HI := hid (And.intro hi (And.intro hz0 (And.intro hz1 hz2)))
  have HJ := hid (And.intro hj (And.intro hy0 (And.intro hy1 hy2)))
  clear ha hb hV hi hz0 hz1 hz2 hj hy0 hy1 hy2
  have b2 : Hid (Below w.heap.size w ((w.alloc (.cells #[.slice a1 ts.length c1, .slice a2 (slen F) c2] 27)).alloc (.cells #[.slice Option.none 0 0, .slice Option.none 0 0, .slice Option.none 0 0, .int .i64 0] 33))) := (aB w _).alloc (by simp) _
  have p0 : Hid (((w.alloc (.cells #[.slice a1 ts.length c1, .slice a2 (slen F) c2] 27)).alloc (.cells #[.slice Option.none 0 0, .slice Option.none 0 0, .slice Option.none 0 0, .int .i64 0] 33)).heap[w.heap.size]? = some (.cells #[.slice a1 ts.length c1, .slice a2 (slen F) c2] 27 (0, 0))) := by
    show _ = _
    rw [Below.heap_alloc _ _ _ (by simp)]; exact blkLast _ _
  have p1 : Hid (((w.alloc (.cells #[.slice a1 ts.length c1, .slice a2 (slen F) c2] 27)).alloc (.cells #[.slice Option.none 0 0, .slice Option.none 0 0, .slice Option.none 0 0, .int .i64 0] 33)).heap[w.heap.size + 1]? = some (.cells #[.slice Option.none 0 0, .slice Option.none 0 0, .slice Option.none 0 0, .int .i64 0] 33 (0, 0))) :=
    (congrArg (fun n => ((w.alloc (.cells #[.slice a1 ts.length c1, .slice a2 (slen F) c2] 27)).alloc (.cells #[.slice Option.none 0 0, .slice Option.none 0 0, .slice Option.none 0 0, .int .i64 0] 33)).heap[n]?) (show w.heap.size + 1 = (w.alloc (.cells #[.slice a1 ts.length c1, .slice a2 (slen F) c2] 27)).heap.size by simp)).trans (blkLast _ _)
  go_enter Tryz.func19, Tryz.ntmps19
  go_wp2_with fail
  refine (HV.out _ _ (HA.out.2.later b2.out)).mono ?_
  rintro e w1 ⟨av, cv, rfl, hb1⟩
  have B1 := hid (b2.out.trans (hb1.mono b2.out.size))
  have q0 := hid ((hb1.block _ (lt_heap p0.out)).trans p0.out)
  have q1 := hid ((hb1.block _ (lt_heap p1.out)).trans p1.out)
  clear hb1 b2 p0 p1
  go_wp2_with (refine wpList_make_full _ rfl _ _ 31 rfl w1.heap.size 3 i0 _ 1 Tryz.underlying31 HI.out.1 HI.out.2.1 HI.out.2.2.1 .i64 .i64 _ _ n rfl rfl rfl rfl ?c1 ?c2 ?c3 ?_)
  case c1 => have := HI.out.2.2.2; first | omega | (rw [this]; omega)
  case c2 => unfold maxLen; omega
  try (case c3 => exact Nat.le_refl _)
  intro w2 hown hgrow
  have HF := hid (fresh_made hown hgrow)
  have r0 := hid ((HF.out.2.block _ (lt_heap q0.out)).trans q0.out)
  have r1 := hid ((HF.out.2.block _ (lt_heap q1.out)).trans q1.out)
  clear hown hgrow q0 q1
  go_wp2_with (refine sA rfl 33 _ _ rfl w2.heap.size 0 #[.slice Option.none 0 0, .slice (some ⟨w1.heap.size, 0, Option.none⟩) n n, .slice Option.none 0 0, .int .i64 0] rfl rfl ?ht0 sizeSto ?ho0 ?_; exact (thSto4 _ _ _ _ _ _); exact (one4 rfl rfl rfl rfl); intro W hW; have HW := hid (newSto4 hW); have y0 : W.cell? ⟨w.heap.size, 0, Option.none⟩ = some (.slice a1 ts.length c1) := (blk2 ((HW.out.2.block _ (lt_heap r0.out)).trans r0.out)).1.1; clear hW)
  obtain ⟨N, hN⟩ : ∃ N, N = w2.heap.size := ⟨_, rfl⟩
  have S0 := hid (StB.start (w0 := w) (B := w.heap.size) HF.out B1.out B1.out.size HW.out.2 HW.out.1 (Nat.le_trans B1.out.size HF.out.2.size))
  have z0 := hid ((HW.out.2.block _ (lt_heap r0.out)).trans r0.out)
  have z1 := hid ((HW.out.2.block _ (lt_heap r1.out)).trans r1.out)
  rw [← hN] at S0
  rw [← hN]
  obtain ⟨V, hVv⟩ : ∃ V : Value, V = .slice (some ⟨w1.heap.size, 0, Option.none⟩) n n := ⟨_, rfl⟩
  rw [← hVv] at S0
  rw [← hVv]
  have V1 : V.oneCell' = true := by rw [hVv]; rfl
  have Nlt : w.heap.size + 1 < N := by have := lt_heap r1.out; omega
  clear HW r0 r1 hN hVv HF
  go_loopw [15] (fun i wr => ∃ k : Nat, k ≤ ts.length ∧ i = .int .i64 k ∧ Hid (∃ ua rs, StB w wr w.heap.size N ua rs (V, List.replicate n 0) ∧ rs.map (·.2) = zrows (ts.take k) ∧ rs.length = k ∧ wr.heap[w.heap.size + 1]? = some (.cells #[.slice Option.none 0 0, .slice Option.none 0 0, .slice Option.none 0 0, .int .i64 0] 33 (0, 0)) ∧ wr.heap[w.heap.size]? = some (.cells #[.slice a1 ts.length c1, .slice a2 (slen F) c2] 27 (0, 0)) ∧ w.heap.size + 1 < N)) (fun i _ => ts.length - (RowKit.intOf i).toNat)
  case atStart => exact ⟨0, by omega, rfl, ⟨_, [], S0.out, by simp [zrows], rfl, z1.out, z0.out, Nlt⟩⟩
  case round =>
    obtain ⟨k, hk, rfl, hin⟩ := hrel
    by_cases hlt : k < ts.length
    · have hltI : (k : Int) < (ts.length : Int) := by omega
      obtain ⟨t, ht⟩ : ∃ t, ts[k]? = some t := ⟨ts[k], List.getElem?_eq_getElem hlt⟩
      obtain ⟨ua, rs, hs, hz, hlen, hR, hP, hlt2⟩ := hin.out
      obtain ⟨g1, o1, rfl, hc0, hc1⟩ : ∃ g off, a1 = some ⟨g, off, Option.none⟩ ∧ wr.cell? ⟨g, off + k * 2, Option.none⟩ = some (.string t.s) ∧ wr.cell? ⟨g, off + k * 2 + 1, Option.none⟩ = some (.int .i64 t.n) := by
        obtain ⟨g, off, cc, e, hcc⟩ := arrAt_cells (HA.out.1.later hs.low) (fun e => by subst e; simp at ht)
        injection e with e
        exact ⟨g, off, e, hcc k t ht⟩
      have HS := hid hs
      have HR := hid (And.intro hR hP)
      have HZ : Hid (rs.map (·.2) ++ [nz t.n] = zrows (ts.take (k + 1))) := show rs.map (·.2) ++ [nz t.n] = zrows (ts.take (k + 1)) by rw [zrows_take ht, hz]
      subst hlen
      clear hs hR hP hz hin ht
      go_wp2_with (refine sA rfl 82 _ _ rfl wr.heap.size 0 #[.string t.s, .int .i64 t.n] rfl rfl ?ht1 sizeIA ?ho1 ?_; exact (thArr2 _ _ _ _); exact (all2 _ _); intro W hW; have HW := hid (newArr2 hW); clear hW)
      have hbA := HW.out.2
      have HS1 := hid (HS.out.later hbA)
      obtain ⟨⟨ar0, ar1⟩, _⟩ := blk2 HW.out.1
      have HR1 := hid (And.intro ((hbA.block _ (lt_heap HR.out.1)).trans HR.out.1) ((hbA.block _ (lt_heap HR.out.2)).trans HR.out.2))
      obtain ⟨A, hA⟩ : ∃ A, A = wr.heap.size := ⟨_, rfl⟩
      have hAs : Hid (W.cell? ⟨A, 1, Option.none⟩ = some (.int .i64 t.n)) := show W.cell? ⟨A, 1, Option.none⟩ = some (.int .i64 t.n) by rw [hA]; exact ar1
      rw [← hA]
      clear hbA HS HR ar0 ar1 HW hc0 hc1 hA
      go_wp2_with fail
      refine region_drew (by kernel_rfl) (fun wd hwd => ?_)
      have bd : Below W.heap.size W wd := by rw [hwd]; exact (Below.refl _ W).drew
      clear hwd
      have HS2 := hid (HS1.out.later bd)
      have HR2 := hid (And.intro ((bd.block _ (lt_heap HR1.out.1)).trans HR1.out.1) ((bd.block _ (lt_heap HR1.out.2)).trans HR1.out.2))
      have hA2 := keeps bd hAs.out
      obtain ⟨⟨s0, _, _, _⟩, _⟩ := blk4 HS2.out.blk
      clear HS1 HR1 bd hAs
      refine wpAny_take (i := 0) (v := .pointer (some ⟨N, 0, Option.none⟩)) rfl (by kernel_rfl) (by kernel_rfl) (by kernel_rfl) (fun _ _ _ => id) (Or.inl ⟨by rfl, ?b0⟩) ?_
      case b0 => intro w; go_simp
      simp only [Act.put, zp]
      refine wpAny_take (i := 2) (v := .pointer (some ⟨A, 1, Option.none⟩)) rfl (by kernel_rfl) (by kernel_rfl) (by kernel_rfl) (fun _ _ _ => id) (Or.inl ⟨by rfl, ?b2⟩) ?_
      case b2 => intro w; go_simp
      simp only [Act.put, zp]
      refine wpAny_till (i := 1) (v := ua) (fun w' => w'.cell? ⟨N, 0, Option.none⟩ = some ua) rfl (by kernel_rfl) (by kernel_rfl) (by kernel_rfl) (fun _ _ _ => id) (Or.inl ⟨by rfl, ?b1⟩) s0 (fun hHeld => ?_)
      case b1 => intro w hSw; go_simp
      simp only [Act.put, zp]
      refine wpAnyD_ready (rs := [3]) (by kernel_rfl) (by simp) ?_
      refine AllReadyD.cons rfl (fun K hK => ?_) AllReadyD.nil
      rw [if_pos (by rfl)]
      simp only [zq]
      go_wp2_with fail
      refine hK.out _ _ (fun _ => s0) ?_
      try simp only [Act.put, zp]
      refine wpAnyD_ready (rs := [4]) (by kernel_rfl) (by simp) ?_
      refine AllReadyD.cons rfl (fun K hK => ?_) AllReadyD.nil
      rw [if_pos (by rfl)]
      simp only [zq]
      go_wp2_with fail
      refine (noughts_is t.n wd).mono ?_
      rintro e w3 ⟨v3, rfl, hf3⟩
      have HF3 := hid hf3
      obtain ⟨x3, y3, rfl⟩ := iownShape hf3.1
      obtain ⟨m3, hm3⟩ : ∃ m3, m3 = (nz t.n).length := ⟨_, rfl⟩
      rw [← hm3] at HF3 hf3
      rw [← hm3]
      have s3 := keeps hf3.2 s0
      have HS3 := hid (HS2.out.later hf3.2)
      have HR3 := hid (And.intro ((hf3.2.block _ (lt_heap HR2.out.1)).trans HR2.out.1) ((hf3.2.block _ (lt_heap HR2.out.2)).trans HR2.out.2))
      clear hf3 hm3 hA2 HR2
      go_wp2_with fail
      refine hK.out _ _ (fun _ => s3) ?_
      try simp only [Act.put, zp]
      refine wpAnyD_ready (rs := [5]) (by kernel_rfl) (by simp) ?_
      refine AllReadyD.cons rfl (fun K hK => ?_) AllReadyD.nil
      rw [if_pos (by rfl)]
      simp only [zq]
      go_wp2_with fail
      refine hK.out _ _ (fun _ => keeps (aB _ _) s3) ?_
      try simp only [Act.put, zp]
      refine wpAnyD_ready (rs := [6]) (by kernel_rfl) (by simp) ?_
      refine AllReadyD.cons rfl (fun K hK => ?_) AllReadyD.nil
      rw [if_pos (by rfl)]
      simp only [zq]
      refine wp_append_lies _ _ _ 30 (by rfl) w.heap.size 31 j0 _ 1 24 Tryz.underlying30 HJ.out.1 HJ.out.2.1 HJ.out.2.2.1 HJ.out.2.2.2 rfl (by decide) ua rs.length (rs.map (·.1)) (by rfl) (ownB HS3.out.out (aB _ _)) ⟨w3.heap.size, 0, Option.none⟩ 1 1 [.slice x3 m3 y3] (by rfl) (by rfl) ?k1 ?k2 (by decide) ?k3 ?k4 ?k5 (w3.heap.size + 1) (by simp) ?_
      case k1 => exact new1 _ _ _
      case k2 => intro u hu; simp at hu; subst hu; rfl
      case k3 => unfold maxLen; omega
      case k4 => omega
      case k5 => have := HS3.out.ge.2; simp; omega
      intro g c6 w6 hown6 hgrow6 hat6 hlt6
      have N6 := hid (HS2.out.next HF3.out rfl hown6 hgrow6)
      have nR : Hid (w6.heap[w.heap.size + 1]? = some (.cells #[.slice Option.none 0 0, .slice Option.none 0 0, .slice Option.none 0 0, .int .i64 0] 33 (0, 0))) := by
        have h0 := (Below.heap_alloc w3 (.cells #[.slice x3 m3 y3] 31) _ (lt_heap HR3.out.1)).trans HR3.out.1
        exact (hgrow6.block _ (by have := lt_heap h0; exact this) (fun e => own_ne (ownB HS3.out.out (aB w3 (.cells #[.slice x3 m3 y3] 31))) h0 (by decide) e.symm)).trans h0
      have nP : Hid (w6.heap[w.heap.size]? = some (.cells #[.slice (some ⟨g1, o1, Option.none⟩) ts.length c1, .slice a2 (slen F) c2] 27 (0, 0))) := by
        have h0 := (Below.heap_alloc w3 (.cells #[.slice x3 m3 y3] 31) _ (lt_heap HR3.out.2)).trans HR3.out.2
        exact (hgrow6.block _ (by have := lt_heap h0; exact this) (fun e => own_ne (ownB HS3.out.out (aB w3 (.cells #[.slice x3 m3 y3] 31))) h0 (by decide) e.symm)).trans h0
      have nN : Hid (w6.heap[N]? = some (.cells #[ua, V, .slice Option.none 0 0, .int .i64 0] 33 (0, 0))) := by
        have h0 := (Below.heap_alloc w3 (.cells #[.slice x3 m3 y3] 31) _ (lt_heap HS3.out.blk)).trans HS3.out.blk
        exact (hgrow6.block _ (by have := lt_heap h0; exact this) (fun e => own_ne (ownB HS3.out.out (aB w3 (.cells #[.slice x3 m3 y3] 31))) h0 (by decide) e.symm)).trans h0
      obtain ⟨⟨d0, _, _, _⟩, f0, _⟩ := blk4 nN.out
      clear hown6 hgrow6 hat6 hlt6 HS2 HS3 HR3 HF3
      refine hK.out _ _ (fun e => absurd e (waitsN (by kernel_rfl))) ?_
      try simp only [Act.put, zp]
      refine wpAnyD_ready (rs := [7]) (by kernel_rfl) (by simp) ?_
      refine AllReadyD.cons rfl (fun K hK => ?_) AllReadyD.nil
      rw [if_pos (by rfl)]
      simp only [zq]
      go_wp2_with fail
      refine hK.out _ _ (fun e => absurd e (waitsN (by kernel_rfl))) ?_
      try simp only [Act.put, zp]
      refine wpAnyD_ready (rs := [8]) (by kernel_rfl) (by simp) ?_
      refine AllReadyD.cons rfl (fun K hK => ?_) AllReadyD.nil
      rw [if_pos (by rfl)]
      simp only [zq]
      go_wp2_with fail
      refine hK.out _ _ (fun e => absurd e (waitsN (by kernel_rfl))) ?_
      try simp only [Act.put, zp]
      refine wpAnyD_done (by kernel_rfl) ?_ _
      have M1 : Hid ((w6.setCell ⟨N, 0, Option.none⟩ (.slice (some ⟨g, 0, Option.none⟩) (rs.length + 1) c6)).heap[w.heap.size + 1]? = some (.cells #[.slice Option.none 0 0, .slice Option.none 0 0, .slice Option.none 0 0, .int .i64 0] 33 (0, 0))) := (Below.heap_setCell _ _ _ _ (by show w.heap.size + 1 ≠ N; omega)).trans nR.out
      have M2 : Hid ((w6.setCell ⟨N, 0, Option.none⟩ (.slice (some ⟨g, 0, Option.none⟩) (rs.length + 1) c6)).heap[w.heap.size]? = some (.cells #[.slice (some ⟨g1, o1, Option.none⟩) ts.length c1, .slice a2 (slen F) c2] 27 (0, 0))) := (Below.heap_setCell _ _ _ _ (by show w.heap.size ≠ N; omega)).trans nP.out
      clear nR nP nN d0 f0
      go_wp2
      go_roundw
      case rel => exact ⟨rs.length + 1, by omega, by go_num, ⟨_, _, N6.out, by rw [List.map_append]; exact HZ.out, by simp, M1.out, M2.out, hlt2⟩⟩
      case measure => simp [RowKit.intOf]; omega
    · obtain rfl : k = ts.length := by omega
      rw [List.take_length] at hin
      have hin' := hin.out
      obtain ⟨ua, rs, hs, hz, hlen, hR, hP, hlt2⟩ := hin'
      have HS := hid hs
      have HR := hid hR
      have HZ := hid hz
      have ha1 : ua.oneCell' = true := by obtain ⟨p, q, e⟩ := iownShape hs.out; rw [e]; rfl
      obtain ⟨⟨t0, t1, t2, t3⟩, _⟩ := blk4 hs.blk
      have RG : Hid (wr.rangeAt N 0 [ua, V, .slice Option.none 0 0, .int .i64 0]) := blk_range hs.blk
      obtain ⟨⟨x0, x1⟩, _⟩ := blk2 hP
      have TR : Hid (wr.there (w.heap.size + 1) 0 4) := blkNone HR.out
      clear hs hR hz hin hP hlt2 hlen t0 t1 t2 t3
      go_wp2_with (first | (refine wpList_load_mid rfl 33 _ rfl N 0 rfl _ _ RG.out Tryz.underlying33 rfl sizeSto ?_) | (refine sA rfl 33 _ _ rfl (w.heap.size + 1) 0 #[ua, V, .slice Option.none 0 0, .int .i64 0] rfl rfl TR.out sizeSto (one4 ha1 V1 rfl rfl) ?_; intro W2 hW2))
      obtain ⟨e1, e2, e3⟩ := HS.out.close HR.out (by omega) hW2
      have hlv := run_loadVar_mid W2 (w.heap.size + 1) 0 _ _ _ (blk_range e3) Tryz.underlying33 rfl sizeSto
      refine bodyPost_ret (v := .agg #[ua, V, .slice Option.none 0 0, .int .i64 0]) ?_ rfl ⟨ua, V, rs, rfl, HZ.out, e1, e2⟩
      simp [results, Tryz.results19, asAddr, hlv, Act.put]
      try rfl
end Go.Proofs.YtpinockfakndlaaGreat
