/-
  The contract of the landed code's Asked.
-/
import Derived.Test.YtlepidbgebfglabNameAskW
import Derived.Test.YtlepidbgebfglabAstVisK
namespace Go.Proofs.Ytlepidbgebfglab
open Go.RowKit Go.Lib Go.Maps Go.Sort Go.WideMaps
set_option linter.unusedSimpArgs false
set_option linter.unusedVariables false

set_option maxHeartbeats 2000000 in
set_option maxRecDepth 100000 in
theorem askHit (x : X) (v : Value) (w : World) (nb mb n : Nat) (D : DataW Unit) (hk : x.h.k = 2) (hn : MapAt w nb mb) (hown : OwnM w mb n D) (hnn : n < 9000000000000000000) (hs : x.h.s.size ≤ 10000000) :
    Calls Try.prog 33 #[xagg x v, .pointer (some ⟨nb, 0, Option.none⟩)] w fun e w' => e = .returned (.tuple #[]) ∧ (∃ d, OwnM w' mb (n + 1) (D.put (.string x.h.s.data.toList) d)) ∧ Gap mb (mb + 1) w w' := by
  have c2 : ∀ o, (w.alloc o).cell? ⟨nb, 0, Option.none⟩ = some (.map (some mb)) := fun o => cell_of_one ((Below.heap_alloc _ _ nb (lt_of_block hn)).trans hn)
  have hlt := hown.lt
  have hkey : keyOf Try.prog 9 (.string x.h.s) = some (.string x.h.s.data.toList) := keyOf_string_mk Try.underlying9 (by unfold maxLen; omega)
  have hown1 := hown.alloc (.cells #[.int .i64 x.h.k, .int .i64 x.h.n, .string x.h.s, v] 42)
  rw [hk] at hown1
  obtain ⟨c, hrun, hat, _⟩ := hown1.lookup_int keyLaw Try.underlying50 Try.underlying3 (zeroInt _) hkey
  have HO := Lib.hid hown1
  have Hlt := Lib.hid hlt
  clear hn hown hat hown1 hlt
  show Calls Try.prog 33 #[.agg #[.int .i64 x.h.k, .int .i64 x.h.n, .string x.h.s, v], .pointer (some ⟨nb, 0, Option.none⟩)] w _
  rw [hk]
  go_enter Try.func33, Try.ntmps33
  go_wp2_with (first
    | (at_mapUpdate; refine wpList_mapUpdate_own _ rfl _ _ _ 50 rfl 9 3 keyLaw Try.underlying50 _ mb n _ rfl HO.out (by unfold maxLen; omega) _ _ _ rfl rfl hkey _ [] (plainElem_int Try.underlying3 (wrap64_wf _)) ?_)
    | go_in)
  intro w1 ho1 hg1
  have G := Lib.hid (And.intro (Exists.intro (p := fun d => OwnM w1 mb (n + 1) (D.put (.string x.h.s.data.toList) d)) _ ho1) (gap_map Hlt.out hg1))
  clear ho1 hg1 hrun c2
  go_wp2
  go_end0
  exact ⟨rfl, G.out.1, G.out.2⟩
set_option maxRecDepth 100000 in
theorem askMiss (x : X) (v : Value) (w : World) (nb : Nat) (hne : ¬ x.h.k = 2) :
    Calls Try.prog 33 #[xagg x v, .pointer (some ⟨nb, 0, Option.none⟩)] w fun e w' => e = .returned (.tuple #[]) ∧ Below w.heap.size w w' := by
  have h1 := int_ne hne
  have B := Lib.hid (fun o => alloc_below w o)
  go_enter Try.func33, Try.ntmps33
  go_wp2
  go_end0
  exact ⟨rfl, B.out _⟩
/-- The four expressions of a statement, in a row. -/
def four (h : SH) : EF := .node 0 0 h.x1.h h.x1.l (.node 0 0 h.x2.h h.x2.l (.node 0 0 h.x3.h h.x3.l (.node 0 0 h.x4.h h.x4.l .nil)))
theorem four_all (h : SH) : enall (four h) = hall h := by simp [four, enall, hall, xall]
theorem four_nodes (h : SH) : enodes (four h) = (hall h).length := by rw [← four_all, enall_len]
def fcells (h : SH) (v1 v2 v3 v4 : Value) : List Value := xcells h.x1 v1 ++ (xcells h.x2 v2 ++ (xcells h.x3 v3 ++ xcells h.x4 v4))
theorem EV.laidN {w : World} {g : Nat} {F : EF} {xs : List Value} (h : ERow w 0 F xs) (hr : w.rangeAt g 0 xs) (c : Nat) : EV w 0 F (.slice (some ⟨g, 0, Option.none⟩) (elen F) c) :=
  ⟨g, 0, _, c, rfl, .inl rfl, Nat.zero_le _, ERow.laid 0 h (by simpa [World.rangeAt] using hr)⟩
theorem laid_four {w : World} {h : SH} {v1 v2 v3 v4 : Value} {g : Nat} (hv : HV w 0 h v1 v2 v3 v4) (hr : w.rangeAt g 0 (fcells h v1 v2 v3 v4)) : EV w 0 (four h) (.slice (some ⟨g, 0, Option.none⟩) 4 4) :=
  EV.laidN (F := four h) ((ERow.one hv.e1).app (P := .node 0 0 h.x1.h h.x1.l .nil) ((ERow.one hv.e2).app (P := .node 0 0 h.x2.h h.x2.l .nil) ((ERow.one hv.e3).app (P := .node 0 0 h.x3.h h.x3.l .nil) (ERow.one hv.e4)))) hr 4
set_option maxHeartbeats 2000000 in
set_option maxRecDepth 100000 in
theorem expsOf_is (h : SH) (v1 v2 v3 v4 v : Value) (w : World) (o1 : ∃ a n c, v1 = .slice a n c) (o2 : ∃ a n c, v2 = .slice a n c) (o3 : ∃ a n c, v3 = .slice a n c) (o4 : ∃ a n c, v4 = .slice a n c) :
    Calls Try.prog 31 #[sagg h v1 v2 v3 v4 v] w fun e w' => ∃ g, e = .returned (.slice (some ⟨g, 0, Option.none⟩) 4 4) ∧ w'.rangeAt g 0 (fcells h v1 v2 v3 v4) ∧ w.heap.size ≤ g ∧ Below w.heap.size w w' := by
  have B := Lib.hid (alloc_below w (.cells (sarr h v1 v2 v3 v4 v) 44))
  have L : Hid (((w.alloc (.cells (sarr h v1 v2 v3 v4 v) 44)).alloc (.cells (fcells h v1 v2 v3 v4).toArray 42)).rangeAt (w.heap.size + 1) 0 (fcells h v1 v2 v3 v4)) := by
    have := blk_range (w := (w.alloc (.cells (sarr h v1 v2 v3 v4 v) 44)).alloc (.cells (fcells h v1 v2 v3 v4).toArray 42)) (b := w.heap.size + 1) (arr := (fcells h v1 v2 v3 v4).toArray) (t := 42) (fr := (0, 0)) (by
      exact (congrArg (fun n => ((w.alloc (.cells (sarr h v1 v2 v3 v4 v) 44)).alloc (.cells (fcells h v1 v2 v3 v4).toArray 42)).heap[n]?) (show w.heap.size + 1 = (w.alloc (.cells (sarr h v1 v2 v3 v4 v) 44)).heap.size by simp)).trans (by show ((w.alloc _).heap.push _)[(w.alloc _).heap.size]? = _; rw [Array.getElem?_push_size]))
    exact Lib.hid (by simpa using this)
  obtain ⟨a1, n1, c1, rfl⟩ := o1
  obtain ⟨a2, n2, c2, rfl⟩ := o2
  obtain ⟨a3, n3, c3, rfl⟩ := o3
  obtain ⟨a4, n4, c4, rfl⟩ := o4
  go_enter Try.func31, Try.ntmps31
  go_wp2
  go_ret
  exact ⟨w.heap.size + 1, rfl, L.out, Nat.le_succ _, B.out.alloc B.out.size _⟩
/-- The world without two of its blocks. -/
def cleared (w : World) (N : Nat) : World := { w with heap := (w.heap.setIfInBounds N (.map #[] 0)).setIfInBounds (N + 1) (.map #[] 0) }
theorem cleared_heap (w : World) (N k : Nat) (h1 : k ≠ N) (h2 : k ≠ N + 1) : (cleared w N).heap[k]? = w.heap[k]? := by
  show ((w.heap.setIfInBounds N (.map #[] 0)).setIfInBounds (N + 1) (.map #[] 0))[k]? = _
  rw [Array.getElem?_setIfInBounds_ne (fun e => h2 e.symm), Array.getElem?_setIfInBounds_ne (fun e => h1 e.symm)]
theorem cleared_in {w : World} {N : Nat} {a : Addr} {v : Value} (h1 : a.block ≠ N) (h2 : a.block ≠ N + 1) (h : w.cell? a = some v) : (cleared w N).cell? a = some v := by
  unfold World.cell? at h ⊢; rw [cleared_heap w N _ h1 h2]; exact h
theorem cleared_out {w : World} {N : Nat} (hN : N + 2 ≤ w.heap.size) {a : Addr} {v : Value} (h : (cleared w N).cell? a = some v) : a.block ≠ N ∧ a.block ≠ N + 1 ∧ w.cell? a = some v := by
  have e1 : (cleared w N).heap[N + 1]? = some (.map #[] 0) := by
    show ((w.heap.setIfInBounds N (.map #[] 0)).setIfInBounds (N + 1) (.map #[] 0))[N + 1]? = _
    rw [Array.getElem?_setIfInBounds_self_of_lt (by simp; omega)]
  have e0 : (cleared w N).heap[N]? = some (.map #[] 0) := by
    show ((w.heap.setIfInBounds N (.map #[] 0)).setIfInBounds (N + 1) (.map #[] 0))[N]? = _
    rw [Array.getElem?_setIfInBounds_ne (by omega), Array.getElem?_setIfInBounds_self_of_lt (by omega)]
  have n0 : a.block ≠ N := fun e => by unfold World.cell? at h; rw [e, e0] at h; cases h
  have n1 : a.block ≠ N + 1 := fun e => by unfold World.cell? at h; rw [e, e1] at h; cases h
  refine ⟨n0, n1, ?_⟩
  unfold World.cell? at h ⊢; rw [cleared_heap w N _ n0 n1] at h; exact h
/-- What the map holds when so many expressions have been gone to, behind those of earlier statements. -/
def AJ (nb mb n0 : Nat) (pre : List EN) (vs : List EN) (w' : World) : Prop := ∃ D, OwnM w' mb (n0 + vs.length) D ∧ KM (ofKindE 2) (pre ++ vs) D ∧ MapAt w' nb mb
theorem AJ.quiet (lo hi nb mb n0 : Nat) (pre : List EN) (h1 : lo ≤ nb ∧ nb < hi) (h2 : lo ≤ mb ∧ mb < hi) : Quiet lo hi (AJ nb mb n0 pre) := fun vs w1 w2 ⟨D, k1, k2, k3⟩ _ hk => ⟨D, k1.block (hk _ h2.1 h2.2), k2, (hk _ h1.1 h1.2).trans k3⟩
theorem AJ.step (lo hi nb mb n0 : Nat) (pre vs : List EN) (h : EH) (l : EF) (u : Value) (w : World) (hb1 : lo ≤ nb ∧ nb < hi) (hb2 : lo ≤ mb ∧ mb < hi) (hne : nb ≠ mb) (hj : AJ nb mb n0 pre vs w) (hl : n0 + vs.length < 9000000000000000000) (hs : h.s.size ≤ 10000000) :
    Calls Try.prog 33 (#[.agg (xcells ⟨h, l⟩ u).toArray] ++ #[.pointer (some ⟨nb, 0, Option.none⟩)]) w fun e w' => e = .returned (.tuple #[]) ∧ AJ nb mb n0 pre (vs ++ [(h, l)]) w' ∧ Gap lo hi w w' := by
  obtain ⟨D, h1, h2, h3⟩ := hj
  by_cases hk : h.k = 2
  · refine (askHit ⟨h, l⟩ u w nb mb (n0 + vs.length) D hk h3 h1 hl hs).mono ?_
    rintro e w' ⟨rfl, ⟨d, ho⟩, hg⟩
    refine ⟨rfl, ⟨D.put (.string h.s.data.toList) d, ?_, ?_, ?_⟩, hg.wider hb2.1 hb2.2⟩
    · rw [List.length_append]; exact ho
    · rw [← List.append_assoc]; exact h2.hit (d := d) (s := h.s) (h1.tidy keyLaw).isMap (by simp [ofKindE, hk])
    · exact (hg.block _ (lt_of_block h3) (by omega)).trans h3
  · refine (askMiss ⟨h, l⟩ u w nb hk).mono ?_
    rintro e w' ⟨rfl, hb⟩
    refine ⟨rfl, ⟨D, ?_, ?_, ?_⟩, Gap.of _ _ hb⟩
    · rw [List.length_append]; exact OwnM.block (World.ownsMap.mono h1 (Nat.le_succ _)) (hb.block _ h1.lt)
    · rw [← List.append_assoc]; exact h2.miss (by simp [ofKindE, hk])
    · exact (hb.block _ (lt_of_block h3)).trans h3
/-- What it holds when so many statements have been gone to. -/
def AS (N : Nat) (vs : List SN) (w' : World) : Prop := ∃ D n, n ≤ vs.length * 10000000 ∧ OwnM w' N n D ∧ KM (ofKindE 2) (vs.flatMap fun a => hall a.1) D ∧ MapAt w' (N + 1) N
theorem AS.quiet (N : Nat) : Quiet N (N + 2) (AS N) := fun vs w1 w2 ⟨D, n, h0, h1, h2, h3⟩ _ hk => ⟨D, n, h0, h1.block (hk _ (by omega) (by omega)), h2, (hk _ (by omega) (by omega)).trans h3⟩
theorem KM.mem {α : Type} {P : α → Option ByteArray} {vs ws : List α} {D : DataW Unit} (h : KM P vs D) (e : ∀ a, a ∈ vs ↔ a ∈ ws) : KM P ws D := fun x => (h x).trans ⟨fun ⟨n, h1, h2⟩ => ⟨n, (e n).1 h1, h2⟩, fun ⟨n, h1, h2⟩ => ⟨n, (e n).2 h1, h2⟩⟩
set_option maxHeartbeats 2000000 in
set_option maxRecDepth 100000 in
theorem AS.step (N : Nat) (vs : List SN) (h : SH) (l : SF) (v1 v2 v3 v4 u : Value) (w : World) (hN : N + 2 ≤ w.heap.size) (hj : AS N vs w) (hl : vs.length < 10000000) (hh : (hall h).length ≤ 10000000) (hs : ∀ a ∈ hall h, a.1.s.size ≤ 10000000)
    (w0 : World) (hw0 : w0.heap.size = N) (hb0 : Below w0.heap.size w0 w) (hv0 : HV w0 0 h v1 v2 v3 v4) :
    Calls Try.prog 29 #[sagg h v1 v2 v3 v4 u, .pointer (some ⟨N + 1, 0, Option.none⟩)] w fun e w' => e = .returned (.tuple #[]) ∧ AS N (vs ++ [(h, l)]) w' ∧ Gap N (N + 2) w w' := by
  have hmf : ∀ (fn : Fn) (first cap : Array Value) (w : World), (Instr.makeFunc fn first cap).run Try.prog w = .ok (.func fn first cap) w := fun _ _ _ _ => rfl
  obtain ⟨D, n, d0, d1, d2, d3⟩ := hj
  have hB := alloc_below w (.cells (sarr h v1 v2 v3 v4 u) 44)
  have RG : Hid ((w.alloc (.cells (sarr h v1 v2 v3 v4 u) 44)).rangeAt w.heap.size 0 (scells h v1 v2 v3 v4 u)) := blk_range (arr := sarr h v1 v2 v3 v4 u) (t := 44) (fr := (0, 0)) (by show (w.heap.push _)[w.heap.size]? = _; simp)
  have s1 := hv0.e1.shape; have s2 := hv0.e2.shape; have s3 := hv0.e3.shape; have s4 := hv0.e4.shape
  have EX := Lib.hid (expsOf_is h v1 v2 v3 v4 u (w.alloc (.cells (sarr h v1 v2 v3 v4 u) 44)) (by obtain ⟨a, c, e⟩ := s1; exact ⟨a, _, c, e⟩) (by obtain ⟨a, c, e⟩ := s2; exact ⟨a, _, c, e⟩) (by obtain ⟨a, c, e⟩ := s3; exact ⟨a, _, c, e⟩) (by obtain ⟨a, c, e⟩ := s4; exact ⟨a, _, c, e⟩))
  -- what the inner visit does, from whatever world expsOf leaves
  have VI : Hid (∀ (w2 : World) (g : Nat), Below w.heap.size w w2 → w.heap.size ≤ g → w2.rangeAt g 0 (fcells h v1 v2 v3 v4) →
      Calls Try.prog 30 #[.slice (some ⟨g, 0, Option.none⟩) 4 4, .func (.func 32) #[] #[], .func (.func 33) #[] #[.pointer (some ⟨N + 1, 0, Option.none⟩)]] w2 fun e w' => e = .returned (.tuple #[]) ∧ AS N (vs ++ [(h, l)]) w' ∧ Gap N (N + 2) w w') := by
    intro w2 g hb2 hg hr
    have hs2 := hb2.size
    have hlow : ∀ (a : Addr) v, w0.cell? a = some v → (cleared w2 N).cell? a = some v := fun a v hc => by
      have hlt := lt_of_cellA hc
      exact cleared_in (by omega) (by omega) (keeps (hb0.trans (hb2.mono hb0.size)) hc)
    have hrc : (cleared w2 N).rangeAt g 0 (fcells h v1 v2 v3 v4) := fun j v hv => cleared_in (by show g ≠ N; omega) (by show g ≠ N + 1; omega) (hr j v hv)
    have hv2 : HV (cleared w2 N) 0 h v1 v2 v3 v4 := ⟨hv0.e1.same (Nat.le_refl _) (fun a v _ hc => hlow a v hc), hv0.e2.same (Nat.le_refl _) (fun a v _ hc => hlow a v hc), hv0.e3.same (Nat.le_refl _) (fun a v _ hc => hlow a v hc), hv0.e4.same (Nat.le_refl _) (fun a v _ hc => hlow a v hc)⟩
    refine (visitAllEK_is (four h) (by rw [four_nodes]; exact hh) (cleared w2 N) w2 N (N + 2) (fun w' hgap a v hc => ?_) (by omega) _ (laid_four hv2 hrc) 33 (fun _ _ => rfl) #[.pointer (some ⟨N + 1, 0, Option.none⟩)] (AJ (N + 1) N n (vs.flatMap fun a => hall a.1)) (AJ.quiet _ _ _ _ _ _ (by omega) (by omega)) ?_ ?_).mono ?_
    · obtain ⟨n0, n1, hc2⟩ := cleared_out (by omega) hc
      have := hgap.block a.block (lt_of_cellA hc2) (by omega)
      unfold World.cell? at hc2 ⊢; rw [this]; exact hc2
    · exact ⟨D, d1.block (hb2.block _ d1.lt), by simpa using d2, (hb2.block _ (lt_of_block d3)).trans d3⟩
    · intro ws eh el eu w1 hj1 _ _ _ hm hln
      rw [four_all] at hm
      rw [four_nodes] at hln
      refine AJ.step N (N + 2) (N + 1) N n _ ws eh el eu w1 (by omega) (by omega) (by omega) hj1 (by omega) (hs _ hm)
    · rintro e w3 ⟨rfl, ⟨ws, ⟨D', k1, k2, k3⟩, hp⟩, hgap⟩
      refine ⟨rfl, ⟨D', n + ws.length, ?_, k1, ?_, k3⟩, (Gap.of _ _ hb2).trans hgap⟩
      · have : ws.length ≤ 10000000 := by rw [hp.length_eq, four_all]; exact hh
        rw [List.length_append, List.length_singleton]; omega
      · rw [List.flatMap_append]
        refine k2.mem (fun a => ?_)
        simp only [List.mem_append, List.flatMap_cons, List.flatMap_nil, List.append_nil]
        rw [hp.mem_iff, four_all]
  have HB := Lib.hid hB
  clear d0 d1 d2 d3 s1 s2 s3 s4 hB hb0 hv0 hs hh
  go_enter Try.func29, Try.ntmps29
  go_wp2_with (refine wpList_load_mid rfl 44 _ rfl w.heap.size 0 rfl _ _ RG.out Try.underlying44 rfl sizeIS ?_)
  refine EX.out.mono ?_
  rintro e w2 ⟨g, rfl, hr, hg, hb2⟩
  have B2 := Lib.hid (And.intro (below_alloc hb2) (And.intro (show w.heap.size ≤ g by simp at hg; omega) hr))
  clear hr hg hb2
  go_wp2_with fail
  refine (VI.out w2 g B2.out.1 B2.out.2.1 B2.out.2.2).mono ?_
  rintro e w3 ⟨rfl, ha, hgp⟩
  have R := Lib.hid (And.intro ha hgp)
  clear ha hgp
  go_wp2
  go_end0
  exact ⟨rfl, R.out.1, R.out.2⟩
theorem nodup_len {α : Type} [DecidableEq α] : ∀ (l m : List α), l.Nodup → (∀ x ∈ l, x ∈ m) → l.length ≤ m.length
  | [], _, _, _ => Nat.zero_le _
  | x :: l, m, h, hs => by
    obtain ⟨h1, h2⟩ := List.nodup_cons.1 h
    have hx := hs x (by simp)
    have := nodup_len l (m.erase x) h2 (fun y hy => (List.mem_erase_of_ne (fun e => h1 (by rw [← e]; exact hy))).2 (hs y (by simp [hy])))
    rw [List.length_erase_of_mem hx] at this
    have := List.length_pos_of_mem hx
    simp only [List.length_cons]; omega
theorem own_nodup {D : DataW Unit} {w : World} {b n : Nat} (ho : OwnM w b n D) : (strKeys D).Nodup ∧ (strKeys D).length = Maps.size D := by
  obtain ⟨es, rfl, hpw⟩ := ho.tidy keyLaw
  obtain ⟨es', e, hko⟩ := ho.keysOf
  injection e with e
  subst e
  refine ⟨?_, by simp [strKeys, Maps.size]⟩
  show (es.map fun p => strOf p.1).Nodup
  refine List.pairwise_map.2 (hpw.imp_of_mem fun {p q} hp' hq' hne e => hne ?_)
  obtain ⟨key, hk⟩ := hko p hp'
  obtain ⟨x, _, hx, _⟩ := Maps.keyOf_str Try.underlying9 hk
  obtain ⟨key', hk'⟩ := hko q hq'
  obtain ⟨y, _, hy, _⟩ := Maps.keyOf_str Try.underlying9 hk'
  rw [hx, hy] at e ⊢
  exact congrArg _ e
theorem asked_start (w : World) : AS w.heap.size [] ((w.alloc (.map #[] 0)).alloc (.cells #[.map (some w.heap.size)] 50)) ∧ Below w.heap.size w ((w.alloc (.map #[] 0)).alloc (.cells #[.map (some w.heap.size)] 50)) := by
  have hb := (alloc_below w (.map #[] 0)).alloc (by simp) (.cells #[.map (some w.heap.size)] 50)
  refine ⟨⟨.map [], 0, Nat.zero_le _, ?_, fun x => by simp [has], ?_⟩, hb⟩
  · have h := World.ownsMap_made (H := Unit) w Try.prog 9 (plainElem Try.prog 3)
    exact h.alloc _
  · exact (congrArg (fun n => ((w.alloc (.map #[] 0)).alloc (.cells #[.map (some w.heap.size)] 50)).heap[n]?) (show w.heap.size + 1 = (w.alloc (.map #[] 0)).heap.size by simp)).trans (by show ((w.alloc _).heap.push _)[(w.alloc _).heap.size]? = _; rw [Array.getElem?_push_size])
set_option maxHeartbeats 2000000 in
set_option maxRecDepth 100000 in
theorem impl_AskedE (F : SF) (hF : snodes F ≤ 10000000) (hE : (sallE F).length ≤ 10000000) (hs : ∀ n ∈ sallE F, n.1.s.size ≤ 10000000) (w : World) (v : Value) (hv : SV w 0 F v) : Calls Try.prog 18 #[v] w (GoodNames w (nmA 2 F [])) := by
  have hmf : ∀ (fn : Fn) (first cap : Array Value) (w : World), (Instr.makeFunc fn first cap).run Try.prog w = .ok (.func fn first cap) w := fun _ _ _ _ => rfl
  have hmm := @run_makeMap Try.prog
  obtain ⟨j0, b0⟩ := asked_start w
  have N0 := Lib.hid (And.intro j0 b0)
  have hlenh : ∀ (h : SH) (l : SF), (h, l) ∈ sall F → (hall h).length ≤ 10000000 := fun h l hm => by
    have key : ∀ (G : SF), (h, l) ∈ sall G → (hall h).length ≤ (sallE G).length := fun G => by
      induction G with
      | nil => intro hx; simp [sall] at hx
      | node _ _ h' l' r' ih1 ih2 =>
        intro hx
        simp only [sall, List.mem_cons, List.mem_append] at hx
        simp only [sallE, List.length_append]
        rcases hx with e | hx | hx
        · injection e with e1 e2; subst e1; omega
        · have := ih1 hx; omega
        · have := ih2 hx; omega
    exact Nat.le_trans (key F hm) hE
  have Hs := Lib.hid hs
  have Hv := Lib.hid (fun (W : World) (hJ : AS w.heap.size [] W) (hb : Below w.heap.size w W) (hW : w.heap.size + 2 ≤ W.heap.size) =>
    visitAllS_is F hF w W hb w.heap.size (w.heap.size + 2) (Nat.le_refl _) hW v hv 29 (fun _ _ => rfl) #[.pointer (some ⟨w.heap.size + 1, 0, Option.none⟩)] (AS w.heap.size)
      (AS.quiet _) hJ (fun vs h l v1 v2 v3 v4 u w1 hj hbb hsz hvv _ hm hl => AS.step w.heap.size vs h l v1 v2 v3 v4 u w1 (by omega) hj (by omega) (hlenh h l hm) (fun a ha => Hs.out a ((sallE_mem F a).2 ⟨_, hm, ha⟩)) w rfl hbb hvv))
  clear hs j0 b0
  go_enter Try.func18, Try.ntmps18
  go_wp2_with fail
  refine (Hv.out _ N0.out.1 N0.out.2 (by simp)).mono ?_
  rintro e w1 ⟨rfl, ⟨vs, ⟨D, n, _, ho, hk0, hm⟩, hp⟩, hg⟩
  have hk : KM (ofKindE 2) (sallE F) D := hk0.mem (fun a => by
    rw [sallE_mem, List.mem_flatMap]
    exact ⟨fun ⟨x, h1, h2⟩ => ⟨x, hp.subset h1, h2⟩, fun ⟨x, h1, h2⟩ => ⟨x, hp.symm.subset h1, h2⟩⟩)
  have hB1 := Lib.hid (N0.out.2.trans (hg.below (Nat.le_refl _) N0.out.2.size))
  have hcell := cell_of_one hm
  have hfrom : ∀ x ∈ strKeys D, ∃ a ∈ sallE F, a.1.s.data.toList = x := fun x hx => by
    obtain ⟨a, ha, s, h1, h2⟩ := (hk x).1 ((own_keys ho x).1 hx)
    unfold ofKindE at h1
    split at h1
    · injection h1 with h1; subst h1; exact ⟨a, ha, h2⟩
    · cases h1
  have hsz : Maps.size D ≤ 10000000 := by
    obtain ⟨q1, q2⟩ := own_nodup ho
    rw [← q2]
    refine Nat.le_trans (nodup_len _ ((sallE F).map fun a => a.1.s.data.toList) q1 (fun x hx => ?_)) (by rw [List.length_map]; exact hE)
    obtain ⟨a, ha, e⟩ := hfrom x hx
    exact List.mem_map.2 ⟨a, ha, e⟩
  have hsm : ∀ x ∈ strKeys D, x.length ≤ 10000000 := fun x hx => by
    obtain ⟨a, ha, e⟩ := hfrom x hx
    subst e
    exact Hs.out a ha
  have HD := Lib.hid (And.intro ho hk)
  have HS := Lib.hid (And.intro hsz hsm)
  clear ho hk hk0 hm hp hg N0 Hv Hs hsz hsm hfrom hlenh
  go_wp2_with fail
  refine (ascending_is _ _ D w1 HD.out.1 HS.out.1 HS.out.2).mono ?_
  rintro e w2 ⟨v', ss, rfl, hperm, hrow, hb2⟩
  have hB2 := hB1.out.trans (hb2.mono hB1.out.size)
  obtain ⟨a1, a2⟩ := HD.out.2.names HD.out.1 hperm
  obtain ⟨n1, n2⟩ := nmA_names 2 F [] List.Pairwise.nil
  have hns : mapNames ss = nmA 2 F [] := asc_ext a1 n1 (fun s => by rw [a2 s, n2 s]; simp)
  have R := Lib.hid (And.intro hns (And.intro (ownsRow_base_a hrow hB1.out.size) hB2))
  clear a1 a2 n1 n2 hrow hb2 hB2 hperm hcell hns
  go_wp2
  go_ret
  exact ⟨_, rfl, by rw [← R.out.1]; exact R.out.2.1, R.out.2.2⟩
end Go.Proofs.Ytlepidbgebfglab
