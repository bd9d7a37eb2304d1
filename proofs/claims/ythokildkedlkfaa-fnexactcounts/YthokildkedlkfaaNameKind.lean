/-
  The contract of the landed code's namesOfKind, VarsOf, LoopVars.
-/
import Derived.Test.YthokildkedlkfaaNameAsc
import Derived.OneCell
namespace Go.Proofs.Ythokildkedlkfaa
open Go.RowKit Go.Lib Go.Maps Go.Sort Go.WideMaps
set_option linter.unusedSimpArgs false
set_option linter.unusedVariables false

theorem keyLaw : Keyed Try.prog 9 := string_keyed Try.underlying9
theorem zeroInt (w : World) : (zeroValue 3).run Try.prog w = .ok (.int .i64 0) w := by kernel_rfl
/-- A map of the call's own. -/
abbrev OwnM (w : World) (b n : Nat) (D : DataW Unit) : Prop := w.ownsMap Try.prog 9 (plainElem Try.prog 3) b n D
/-- A variable that holds it. -/
abbrev MapAt (w : World) (b mb : Nat) : Prop := w.heap[b]? = some (.cells #[.map (some mb)] 112 (0, 0))
theorem OwnM.block {w w' : World} {b n : Nat} {D : DataW Unit} (h : OwnM w b n D) (e : w'.heap[b]? = w.heap[b]?) : OwnM w' b n D := by
  obtain ⟨es, clock, hb, F, hs, hD⟩ := h
  exact ⟨es, clock, e.trans hb, F, hs, hD⟩
/-- A variable that holds a number. -/
abbrev NumIn (w : World) (b : Nat) (c : Int) : Prop := w.heap[b]? = some (.cells #[.int .i64 c] 3 (0, 0))
theorem gap_map {w w1 : World} {o : Obj} {mb : Nat} (hm : mb < w.heap.size) (hg : (w.alloc o).grownBy w1 (some mb)) : Gap mb (mb + 1) w w1 := by
  obtain ⟨h1, h2, h3, h4, h5⟩ := hg
  refine ⟨h1, h2, h3, Nat.le_trans (by simp) h4, fun k hk hc => ?_⟩
  rw [h5 k (by simp; omega) (by simp; omega), Below.heap_alloc _ _ _ hk]
set_option maxHeartbeats 2000000 in
set_option maxRecDepth 100000 in
/-- At a statement of that kind its name is counted. -/
theorem kindHit (h : SH) (v1 v2 v3 v4 v : Value) (w : World) (kb nb mb n : Nat) (D : DataW Unit) (hk : NumIn w kb h.k) (hn : MapAt w nb mb) (hown : OwnM w mb n D) (hnn : n < 10000000) (hs : h.s.size ≤ 10000000) :
    Calls Try.prog 86 #[sagg h v1 v2 v3 v4 v, .pointer (some ⟨kb, 0, Option.none⟩), .pointer (some ⟨nb, 0, Option.none⟩)] w fun e w' => e = .returned (.tuple #[]) ∧ (∃ d, OwnM w' mb (n + 1) (D.put (.string h.s.data.toList) d)) ∧ Gap mb (mb + 1) w w' := by
  have c1 : ∀ o, (w.alloc o).cell? ⟨kb, 0, Option.none⟩ = some (.int .i64 h.k) := fun o => cell_of_one ((Below.heap_alloc _ _ kb (lt_of_block hk)).trans hk)
  have c2 : ∀ o, (w.alloc o).cell? ⟨nb, 0, Option.none⟩ = some (.map (some mb)) := fun o => cell_of_one ((Below.heap_alloc _ _ nb (lt_of_block hn)).trans hn)
  have hlt := hown.lt
  have hkey : keyOf Try.prog 9 (.string h.s) = some (.string h.s.data.toList) := keyOf_string_mk Try.underlying9 (by unfold maxLen; omega)
  have hown1 := hown.alloc (.cells (sarr h v1 v2 v3 v4 v) 29)
  obtain ⟨c, hrun, hat, _⟩ := hown1.lookup_int keyLaw Try.underlying112 Try.underlying3 (zeroInt _) hkey
  have HO := Lib.hid hown1
  have Hlt := Lib.hid hlt
  clear hk hn hown hat hown1 hlt
  go_enter Try.func86, Try.ntmps86
  go_wp2_with (first
    | (at_mapUpdate; refine wpList_mapUpdate_own _ rfl _ _ _ 112 rfl 9 3 keyLaw Try.underlying112 _ mb n _ rfl HO.out (by unfold maxLen; omega) _ _ _ rfl rfl hkey _ [] (plainElem_int Try.underlying3 (wrap64_wf _)) ?_)
    | go_in)
  intro w1 ho1 hg1
  have G := Lib.hid (And.intro (Exists.intro (p := fun d => OwnM w1 mb (n + 1) (D.put (.string h.s.data.toList) d)) _ ho1) (gap_map Hlt.out hg1))
  clear ho1 hg1 hrun c1 c2
  go_wp2
  go_end0
  exact ⟨rfl, G.out.1, G.out.2⟩
set_option maxHeartbeats 2000000 in
set_option maxRecDepth 100000 in
theorem kindMiss (h : SH) (v1 v2 v3 v4 v : Value) (w : World) (kb : Nat) (nb : Nat) (k : Int) (hk : NumIn w kb k) (hne : ¬ h.k = k) :
    Calls Try.prog 86 #[sagg h v1 v2 v3 v4 v, .pointer (some ⟨kb, 0, Option.none⟩), .pointer (some ⟨nb, 0, Option.none⟩)] w fun e w' => e = .returned (.tuple #[]) ∧ Below w.heap.size w w' := by
  have c1 : ∀ o, (w.alloc o).cell? ⟨kb, 0, Option.none⟩ = some (.int .i64 k) := fun o => cell_of_one ((Below.heap_alloc _ _ kb (lt_of_block hk)).trans hk)
  have h1 := int_ne hne
  have B := Lib.hid (fun o => alloc_below w o)
  clear hk
  go_enter Try.func86, Try.ntmps86
  go_wp2
  go_end0
  exact ⟨rfl, B.out _⟩
/-- What of the names is in the map when so many have been gone to. -/
def KM {α : Type} (P : α → Option ByteArray) (vs : List α) (D : DataW Unit) : Prop := ∀ x : List UInt8, has D (.string x) = true ↔ ∃ n ∈ vs, ∃ s, P n = some s ∧ s.data.toList = x
theorem KM.hit {α : Type} {P : α → Option ByteArray} {vs : List α} {D : DataW Unit} {d : DataW Unit} {a : α} {s : ByteArray} (h : KM P vs D) (hD : IsMap D) (ha : P a = some s) : KM P (vs ++ [a]) (D.put (.string s.data.toList) d) := fun x => by
  by_cases hx : x = s.data.toList
  · subst hx
    rw [has_put_same hD (by exact ⟨⟩)]
    simp only [true_iff]
    exact ⟨a, by simp, s, ha, rfl⟩
  · rw [has_put_other (by intro e; injection e with e; exact hx e), h x]
    constructor
    · rintro ⟨n, hn, s', h1, h2⟩; exact ⟨n, by simp [hn], s', h1, h2⟩
    · rintro ⟨n, hn, s', h1, h2⟩
      rcases List.mem_append.1 hn with hn | hn
      · exact ⟨n, hn, s', h1, h2⟩
      · simp only [List.mem_cons, List.not_mem_nil, or_false] at hn
        subst hn
        rw [ha] at h1; injection h1 with h1; subst h1
        exact absurd h2.symm hx
theorem KM.miss {α : Type} {P : α → Option ByteArray} {vs : List α} {D : DataW Unit} {a : α} (h : KM P vs D) (ha : P a = Option.none) : KM P (vs ++ [a]) D := fun x => by
  rw [h x]
  constructor
  · rintro ⟨n, hn, s', h1, h2⟩; exact ⟨n, by simp [hn], s', h1, h2⟩
  · rintro ⟨n, hn, s', h1, h2⟩
    rcases List.mem_append.1 hn with hn | hn
    · exact ⟨n, hn, s', h1, h2⟩
    · simp only [List.mem_cons, List.not_mem_nil, or_false] at hn
      subst hn; rw [ha] at h1; cases h1
theorem own_keys {D : DataW Unit} {w : World} {b n : Nat} (ho : OwnM w b n D) : ∀ x, x ∈ strKeys D ↔ has D (.string x) = true := by
  obtain ⟨es, rfl, hpw⟩ := ho.tidy keyLaw
  obtain ⟨es', e, hko⟩ := ho.keysOf
  injection e with e
  subst e
  have hstr : ∀ p ∈ es, ∃ x, p.1 = Lit.string x := fun p hpm => by
    obtain ⟨key, hk⟩ := hko p hpm
    obtain ⟨x, _, hx, _⟩ := Maps.keyOf_str Try.underlying9 hk
    exact ⟨x, hx⟩
  intro x
  rw [has_eq, List.any_eq_true]
  show x ∈ es.map (fun p => strOf p.1) ↔ _
  rw [List.mem_map]
  constructor
  · rintro ⟨p, hp1, hp2⟩
    obtain ⟨y, hy⟩ := hstr p hp1
    refine ⟨p, hp1, ?_⟩
    rw [hy] at hp2 ⊢
    have : y = x := hp2
    subst this
    exact WideAt.sameKey_self (by exact ⟨⟩)
  · rintro ⟨p, hp1, hp2⟩
    exact ⟨p, hp1, by rw [WideAt.sameKey_eq hp2]; rfl⟩
/-- The names of a map in order are just those that were counted. -/
theorem KM.names {α : Type} {P : α → Option ByteArray} {vs : List α} {D : DataW Unit} {w : World} {b n : Nat} {ss : List (List UInt8)} (h : KM P vs D) (ho : OwnM w b n D) (hp : ss.Perm (strKeys D)) : Asc (mapNames ss) ∧ ∀ s, s ∈ mapNames ss ↔ ∃ a ∈ vs, P a = some s := by
  obtain ⟨es, rfl, hpw⟩ := ho.tidy keyLaw
  obtain ⟨es', e, hko⟩ := ho.keysOf
  injection e with e
  subst e
  have hstr : ∀ p ∈ es, ∃ x, p.1 = Lit.string x := fun p hpm => by
    obtain ⟨key, hk⟩ := hko p hpm
    obtain ⟨x, _, hx, _⟩ := Maps.keyOf_str Try.underlying9 hk
    exact ⟨x, hx⟩
  have hmem : ∀ x, x ∈ strKeys (.map es : DataW Unit) ↔ has (.map es) (.string x) = true := fun x => by
    rw [has_eq, List.any_eq_true]
    show x ∈ es.map (fun p => strOf p.1) ↔ _
    rw [List.mem_map]
    constructor
    · rintro ⟨p, hp1, hp2⟩
      obtain ⟨y, hy⟩ := hstr p hp1
      refine ⟨p, hp1, ?_⟩
      rw [hy] at hp2 ⊢
      have : y = x := hp2
      subst this
      exact WideAt.sameKey_self (by exact ⟨⟩)
    · rintro ⟨p, hp1, hp2⟩
      exact ⟨p, hp1, by rw [WideAt.sameKey_eq hp2]; rfl⟩
  have hnd : ss.Nodup := hp.symm.nodup (by
    show (es.map fun p => strOf p.1).Nodup
    refine List.pairwise_map.2 (hpw.imp_of_mem fun {p q} hp' hq' hne e => hne ?_)
    obtain ⟨a, ha⟩ := hstr p hp'
    obtain ⟨b, hb⟩ := hstr q hq'
    rw [ha, hb] at e ⊢
    exact congrArg _ e)
  have tr : ∀ a b c : List UInt8, leB a b = true → leB b c = true → leB a c = true := fun a b c h1 h2 => by simp only [leB, decide_eq_true_eq] at *; exact List.le_trans h1 h2
  have tot : ∀ a b : List UInt8, (leB a b || leB b a) = true := fun a b => by simp only [leB, Bool.or_eq_true, decide_eq_true_eq]; exact List.le_total a b
  have hsorted := List.pairwise_mergeSort tr tot ss
  have hnd2 : (ss.mergeSort leB).Nodup := (List.mergeSort_perm ss leB).symm.nodup hnd
  constructor
  · show ((ss.mergeSort leB).map fun l => (⟨l.toArray⟩ : ByteArray)).Pairwise _
    refine List.pairwise_map.2 ((hsorted.and hnd2).imp fun {a b} ⟨h1, h2⟩ => ?_)
    rw [blt_iff]
    simp only [leB, decide_eq_true_eq] at h1
    rcases List.le_iff_lt_or_eq.1 h1 with h3 | h3
    · simpa using h3
    · exact absurd h3 h2
  · intro s
    show s ∈ ((ss.mergeSort leB).map fun l => (⟨l.toArray⟩ : ByteArray)) ↔ _
    rw [List.mem_map]
    constructor
    · rintro ⟨l, hl, rfl⟩
      have := (hmem l).1 (hp.subset ((List.mergeSort_perm ss leB).subset hl))
      obtain ⟨a, ha, s', h1, h2⟩ := (h l).1 this
      refine ⟨a, ha, ?_⟩
      rw [h1]; congr 1
      exact ba_ext (by simpa using h2)
    · rintro ⟨a, ha, h1⟩
      refine ⟨s.data.toList, ?_, by simp⟩
      exact (List.mergeSort_perm ss leB).symm.subset (hp.symm.subset ((hmem _).2 ((h _).2 ⟨a, ha, s, h1, rfl⟩)))
/-- The name of a statement of that kind. -/
def ofKind (k : Int) (n : SN) : Option ByteArray := if n.1.k = k then some n.1.s else Option.none
/-- What the map holds when so many statements have been gone to. -/
def KJ (N : Nat) (k : Int) (vs : List SN) (w' : World) : Prop := ∃ D, OwnM w' (N + 1) vs.length D ∧ KM (ofKind k) vs D ∧ NumIn w' N k ∧ MapAt w' (N + 2) (N + 1)
theorem KJ.quiet (N : Nat) (k : Int) : Quiet N (N + 3) (KJ N k) := fun vs w1 w2 ⟨D, h1, h2, h3, h4⟩ _ hk => ⟨D, h1.block (hk _ (by omega) (by omega)), h2, (hk _ (by omega) (by omega)).trans h3, (hk _ (by omega) (by omega)).trans h4⟩
theorem KJ.step (N : Nat) (k : Int) (vs : List SN) (h : SH) (l : SF) (v1 v2 v3 v4 u : Value) (w : World) (hj : KJ N k vs w) (hl : vs.length < 10000000) (hs : h.s.size ≤ 10000000) :
    Calls Try.prog 86 (#[sagg h v1 v2 v3 v4 u] ++ #[.pointer (some ⟨N, 0, Option.none⟩), .pointer (some ⟨N + 2, 0, Option.none⟩)]) w fun e w' => e = .returned (.tuple #[]) ∧ KJ N k (vs ++ [(h, l)]) w' ∧ Gap N (N + 3) w w' := by
  obtain ⟨D, h1, h2, h3, h4⟩ := hj
  by_cases hk : h.k = k
  · subst hk
    refine (kindHit h v1 v2 v3 v4 u w N (N + 2) (N + 1) vs.length D h3 h4 h1 hl hs).mono ?_
    rintro e w' ⟨rfl, ⟨d, ho⟩, hg⟩
    refine ⟨rfl, ⟨_, ?_, h2.hit (d := d) (s := h.s) (h1.tidy keyLaw).isMap (by simp [ofKind]), ?_, ?_⟩, hg.wider (by omega) (by omega)⟩
    · rw [List.length_append]; exact ho
    · exact (hg.block _ (lt_of_block h3) (by omega)).trans h3
    · exact (hg.block _ (lt_of_block h4) (by omega)).trans h4
  · refine (kindMiss h v1 v2 v3 v4 u w N (N + 2) k h3 hk).mono ?_
    rintro e w' ⟨rfl, hb⟩
    refine ⟨rfl, ⟨D, ?_, h2.miss (by simp [ofKind, hk]), ?_, ?_⟩, Gap.of _ _ hb⟩
    · rw [List.length_append]; exact OwnM.block (World.ownsMap.mono h1 (Nat.le_succ _)) (hb.block _ h1.lt)
    · exact (hb.block _ (lt_of_block h3)).trans h3
    · exact (hb.block _ (lt_of_block h4)).trans h4
theorem names_start (w : World) (k : Int) : KJ w.heap.size k [] (((w.alloc (.cells #[.int .i64 k] 3)).alloc (.map #[] 0)).alloc (.cells #[.map (some (w.heap.size + 1))] 112)) ∧
    Below w.heap.size w (((w.alloc (.cells #[.int .i64 k] 3)).alloc (.map #[] 0)).alloc (.cells #[.map (some (w.heap.size + 1))] 112)) := by
  obtain ⟨q0, q1, q2⟩ := heap3 w (.cells #[.int .i64 k] 3) (.map #[] 0) (.cells #[.map (some (w.heap.size + 1))] 112)
  have hb := ((alloc_below w (.cells #[.int .i64 k] 3)).alloc (by simp) (.map #[] 0)).alloc (by simp; omega) (.cells #[.map (some (w.heap.size + 1))] 112)
  refine ⟨⟨.map [], ?_, fun x => by simp [has], q0, q2⟩, hb⟩
  have h := World.ownsMap_made (H := Unit) (w.alloc (.cells #[.int .i64 k] 3)) Try.prog 9 (plainElem Try.prog 3)
  rw [World.size_alloc] at h
  exact h.alloc _
set_option maxHeartbeats 2000000 in
set_option maxRecDepth 100000 in
theorem namesOfKind_is (F : SF) (hF : snodes F ≤ 10000000) (hs : ∀ n ∈ sall F, n.1.s.size ≤ 10000000) (k : Int) (w : World) (v : Value) (hv : SV w 0 F v) :
    Calls Try.prog 77 #[v, .int .i64 k] w fun e w' => ∃ v' ns, e = .returned v' ∧ Asc ns ∧ (∀ s, s ∈ ns ↔ ∃ a ∈ sall F, ofKind k a = some s) ∧ ns.length ≤ 10000000 ∧ w'.ownsRow w.heap.size 9 1 v' ns.length (ns.map Value.string) ∧ Below w.heap.size w w' := by
  have hmf : ∀ (fn : Fn) (first cap : Array Value) (w : World), (Instr.makeFunc fn first cap).run Try.prog w = .ok (.func fn first cap) w := fun _ _ _ _ => rfl
  have hmm := @run_makeMap Try.prog
  obtain ⟨j0, b0⟩ := names_start w k
  have N0 := Lib.hid (And.intro j0 b0)
  clear j0 b0
  have Hs := Lib.hid hs
  have Hv := Lib.hid (fun (W : World) (hJ : KJ w.heap.size k [] W) (hb : Below w.heap.size w W) (hW : w.heap.size + 3 ≤ W.heap.size) =>
    visitAllS_is F hF w W hb w.heap.size (w.heap.size + 3) (Nat.le_refl _) hW v hv 86 (fun _ _ => rfl) #[.pointer (some ⟨w.heap.size, 0, Option.none⟩), .pointer (some ⟨w.heap.size + 2, 0, Option.none⟩)] (KJ w.heap.size k)
      (KJ.quiet _ _) hJ (fun vs h l v1 v2 v3 v4 u w1 hj _ _ _ _ hm hl => KJ.step _ _ vs h l v1 v2 v3 v4 u w1 hj (by omega) (Hs.out _ hm)))
  clear hs
  go_enter Try.func77, Try.ntmps77
  go_wp2_with fail
  refine (Hv.out _ N0.out.1 N0.out.2 (by simp)).mono ?_
  rintro e w1 ⟨rfl, ⟨vs, ⟨D, ho, hk, _, hm⟩, hp⟩, hg⟩
  have hB1 := Lib.hid (N0.out.2.trans (hg.below (Nat.le_refl _) N0.out.2.size))
  have hcell := cell_of_one hm
  have hvl : vs.length ≤ 10000000 := by rw [hp.length_eq, sall_len]; exact hF
  have HD := Lib.hid (And.intro ho (And.intro hk hp))
  have hsz : Maps.size D ≤ 10000000 := Nat.le_trans ho.size_le hvl
  have hsm : ∀ x ∈ strKeys D, x.length ≤ 10000000 := fun x hx => by
    obtain ⟨n, hn, s, h1, h2⟩ := (hk x).1 ((own_keys ho x).1 hx)
    have h3 := Hs.out n (hp.subset hn)
    unfold ofKind at h1
    split at h1
    · injection h1 with h1; subst h1; subst h2; exact h3
    · cases h1
  have HS := Lib.hid (And.intro hsz hsm)
  clear ho hk hm hp hg N0 Hv Hs hsz hsm
  go_wp2_with fail
  refine (ascending_is _ _ D w1 HD.out.1 HS.out.1 HS.out.2).mono ?_
  rintro e w2 ⟨v', ss, rfl, hperm, hrow, hb2⟩
  have hB2 := hB1.out.trans (hb2.mono hB1.out.size)
  obtain ⟨a1, a2⟩ := HD.out.2.1.names HD.out.1 hperm
  have hlen : (mapNames ss).length ≤ 10000000 := by rw [mapNames_len, hperm.length_eq]; refine Nat.le_trans ?_ HS.out.1; cases D <;> simp [strKeys, Maps.size]
  have R := Lib.hid (And.intro a1 (And.intro (show ∀ s, s ∈ mapNames ss ↔ ∃ a ∈ sall F, ofKind k a = some s from fun s => (a2 s).trans ⟨fun ⟨a, h1, h2⟩ => ⟨a, HD.out.2.2.subset h1, h2⟩, fun ⟨a, h1, h2⟩ => ⟨a, HD.out.2.2.symm.subset h1, h2⟩⟩) (And.intro hlen (And.intro (ownsRow_base_a hrow hB1.out.size) hB2))))
  clear a1 a2 hlen hrow hb2 hB2 hperm hcell
  go_wp2
  go_ret
  exact ⟨_, mapNames ss, rfl, R.out.1, R.out.2.1, R.out.2.2.1, R.out.2.2.2.1, R.out.2.2.2.2⟩
end Go.Proofs.Ythokildkedlkfaa
