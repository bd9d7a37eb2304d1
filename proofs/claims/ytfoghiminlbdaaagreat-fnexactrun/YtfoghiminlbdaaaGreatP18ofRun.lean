/-
  Texts in one: NameKind, NameSpec, NameVars, NameAskS, NameAskW.
-/
import Derived.Test.YtfoghiminlbdaaaGreatP17ofRun
import Derived.OneCell
import Derived.Test.YtfoghiminlbdaaaGreatP07ofRun
import Derived.Test.YtfoghiminlbdaaaGreatP10ofRun
namespace Go.Proofs.YtfoghiminlbdaaaGreat
open Go.RowKit Go.Lib Go.Maps Go.Sort Go.WideMaps
set_option linter.unusedSimpArgs false
set_option linter.unusedVariables false
theorem keyLaw : Keyed Tryz.prog 9 := string_keyed Tryz.underlying9
theorem zeroInt (w : World) : (zeroValue 3).run Tryz.prog w = .ok (.int .i64 0) w := by kernel_rfl
abbrev OwnM (w : World) (b n : Nat) (D : DataW Unit) : Prop := w.ownsMap Tryz.prog 9 (plainElem Tryz.prog 3) b n D
abbrev MapAt (w : World) (b mb : Nat) : Prop := w.heap[b]? = some (.cells #[.map (some mb)] 113 (0, 0))
theorem OwnM.block {w w' : World} {b n : Nat} {D : DataW Unit} (h : OwnM w b n D) (e : w'.heap[b]? = w.heap[b]?) : OwnM w' b n D := by
  obtain ⟨es, clock, hb, F, hs, hD⟩ := h
  exact ⟨es, clock, e.trans hb, F, hs, hD⟩
abbrev NumIn (w : World) (b : Nat) (c : Int) : Prop := w.heap[b]? = some (.cells #[.int .i64 c] 3 (0, 0))
theorem gap_map {w w1 : World} {o : Obj} {mb : Nat} (hm : mb < w.heap.size) (hg : (w.alloc o).grownBy w1 (some mb)) : Gap mb (mb + 1) w w1 := by
  obtain ⟨h1, h2, h3, h4, h5⟩ := hg
  refine ⟨h1, h2, h3, Nat.le_trans (by simp) h4, fun k hk hc => ?_⟩
  rw [h5 k (by simp; omega) (by simp; omega), Below.heap_alloc _ _ _ hk]
set_option maxHeartbeats 2000000 in
set_option maxRecDepth 100000 in
theorem kindHit (h : SH) (v1 v2 v3 v4 v : Value) (w : World) (kb nb mb n : Nat) (D : DataW Unit) (hk : NumIn w kb h.k) (hn : MapAt w nb mb) (hown : OwnM w mb n D) (hnn : n < 10000000) (hs : h.s.size ≤ 10000000) :
    Calls Tryz.prog 135 #[sagg h v1 v2 v3 v4 v, .pointer (some ⟨kb, 0, Option.none⟩), .pointer (some ⟨nb, 0, Option.none⟩)] w fun e w' => e = .returned (.tuple #[]) ∧ (∃ d, OwnM w' mb (n + 1) (D.put (.string h.s.data.toList) d)) ∧ Gap mb (mb + 1) w w' := by
  have c1 : ∀ o, (w.alloc o).cell? ⟨kb, 0, Option.none⟩ = some (.int .i64 h.k) := fun o => cell_of_one ((Below.heap_alloc _ _ kb (lt_of_block hk)).trans hk)
  have c2 : ∀ o, (w.alloc o).cell? ⟨nb, 0, Option.none⟩ = some (.map (some mb)) := fun o => cell_of_one ((Below.heap_alloc _ _ nb (lt_of_block hn)).trans hn)
  have hlt := hown.lt
  have hkey : keyOf Tryz.prog 9 (.string h.s) = some (.string h.s.data.toList) := keyOf_string_mk Tryz.underlying9 (by unfold maxLen; omega)
  have hown1 := hown.alloc (.cells (sarr h v1 v2 v3 v4 v) 119)
  obtain ⟨c, hrun, hat, _⟩ := hown1.lookup_int keyLaw Tryz.underlying113 Tryz.underlying3 (zeroInt _) hkey
  have HO := hid hown1
  have Hlt := hid hlt
  clear hk hn hown hat hown1 hlt
  go_enter Tryz.func135, Tryz.ntmps135
  go_wp2_with (first
    | (at_mapUpdate; refine wpList_mapUpdate_own _ rfl _ _ _ 113 rfl 9 3 keyLaw Tryz.underlying113 _ mb n _ rfl HO.out (by unfold maxLen; omega) _ _ _ rfl rfl hkey _ [] (plainElem_int Tryz.underlying3 (wrap64_wf _)) ?_)
    | go_in)
  intro w1 ho1 hg1
  have G := hid (And.intro (Exists.intro (p := fun d => OwnM w1 mb (n + 1) (D.put (.string h.s.data.toList) d)) _ ho1) (gap_map Hlt.out hg1))
  clear ho1 hg1 hrun c1 c2
  go_wp2
  go_end0
  exact ⟨rfl, G.out.1, G.out.2⟩
set_option maxHeartbeats 2000000 in
set_option maxRecDepth 100000 in
theorem kindMiss (h : SH) (v1 v2 v3 v4 v : Value) (w : World) (kb : Nat) (nb : Nat) (k : Int) (hk : NumIn w kb k) (hne : ¬ h.k = k) :
    Calls Tryz.prog 135 #[sagg h v1 v2 v3 v4 v, .pointer (some ⟨kb, 0, Option.none⟩), .pointer (some ⟨nb, 0, Option.none⟩)] w fun e w' => e = .returned (.tuple #[]) ∧ Below w.heap.size w w' := by
  have c1 : ∀ o, (w.alloc o).cell? ⟨kb, 0, Option.none⟩ = some (.int .i64 k) := fun o => cell_of_one ((Below.heap_alloc _ _ kb (lt_of_block hk)).trans hk)
  have h1 := int_ne hne
  have B := hid (fun o => alloc_below w o)
  clear hk
  go_enter Tryz.func135, Tryz.ntmps135
  go_wp2
  go_end0
  exact ⟨rfl, B.out _⟩
def KM {α : Type} (P : α → Option ByteArray) (vs : List α) (D : DataW Unit) : Prop := ∀ x : List UInt8, has D (.string x) = true ↔ ∃ n ∈ vs, ∃ s, P n = some s ∧ s.data.toList = x
theorem KM.hit {α : Type} {P : α → Option ByteArray} {vs : List α} {D : DataW Unit} {d : DataW Unit} {a : α} {s : ByteArray} (h : KM P vs D) (hD : IsMap D) (ha : P a = some s) : KM P (vs ++ [a]) (D.put (.string s.data.toList) d) := fun x => by
  by_cases hx : x = s.data.toList
  · subst hx
    rw [has_put_same hD (by exact ⟨⟩)]
    simp only [true_iff]
    exact ⟨a, by simp, s, ha, rfl⟩
  · rw [has_put_other (by intro e; injection e with e; exact hx e), h x]
    constructor
    · rintro ⟨n, hn, s', h1, h2⟩; exact ⟨n, by simp [hn], s', h1, h2⟩
    · rintro ⟨n, hn, s', h1, h2⟩
      rcases List.mem_append.1 hn with hn | hn
      · exact ⟨n, hn, s', h1, h2⟩
      · simp only [List.mem_cons, List.not_mem_nil, or_false] at hn
        subst hn
        rw [ha] at h1; injection h1 with h1; subst h1
        exact absurd h2.symm hx
theorem KM.miss {α : Type} {P : α → Option ByteArray} {vs : List α} {D : DataW Unit} {a : α} (h : KM P vs D) (ha : P a = Option.none) : KM P (vs ++ [a]) D := fun x => by
  rw [h x]
  constructor
  · rintro ⟨n, hn, s', h1, h2⟩; exact ⟨n, by simp [hn], s', h1, h2⟩
  · rintro ⟨n, hn, s', h1, h2⟩
    rcases List.mem_append.1 hn with hn | hn
    · exact ⟨n, hn, s', h1, h2⟩
    · simp only [List.mem_cons, List.not_mem_nil, or_false] at hn
      subst hn; rw [ha] at h1; cases h1
theorem own_keys {D : DataW Unit} {w : World} {b n : Nat} (ho : OwnM w b n D) : ∀ x, x ∈ strKeys D ↔ has D (.string x) = true := by
  obtain ⟨es, rfl, hpw⟩ := ho.tidy keyLaw
  obtain ⟨es', e, hko⟩ := ho.keysOf
  injection e with e
  subst e
  have hstr : ∀ p ∈ es, ∃ x, p.1 = Lit.string x := fun p hpm => by
    obtain ⟨key, hk⟩ := hko p hpm
    obtain ⟨x, _, hx, _⟩ := Maps.keyOf_str Tryz.underlying9 hk
    exact ⟨x, hx⟩
  intro x
  rw [has_eq, List.any_eq_true]
  show x ∈ es.map (fun p => strOf p.1) ↔ _
  rw [List.mem_map]
  constructor
  · rintro ⟨p, hp1, hp2⟩
    obtain ⟨y, hy⟩ := hstr p hp1
    refine ⟨p, hp1, ?_⟩
    rw [hy] at hp2 ⊢
    have : y = x := hp2
    subst this
    exact WideAt.sameKey_self (by exact ⟨⟩)
  · rintro ⟨p, hp1, hp2⟩
    exact ⟨p, hp1, by rw [WideAt.sameKey_eq hp2]; rfl⟩
theorem KM.names {α : Type} {P : α → Option ByteArray} {vs : List α} {D : DataW Unit} {w : World} {b n : Nat} {ss : List (List UInt8)} (h : KM P vs D) (ho : OwnM w b n D) (hp : ss.Perm (strKeys D)) : Asc (mapNames ss) ∧ ∀ s, s ∈ mapNames ss ↔ ∃ a ∈ vs, P a = some s := by
  obtain ⟨es, rfl, hpw⟩ := ho.tidy keyLaw
  obtain ⟨es', e, hko⟩ := ho.keysOf
  injection e with e
  subst e
  have hstr : ∀ p ∈ es, ∃ x, p.1 = Lit.string x := fun p hpm => by
    obtain ⟨key, hk⟩ := hko p hpm
    obtain ⟨x, _, hx, _⟩ := Maps.keyOf_str Tryz.underlying9 hk
    exact ⟨x, hx⟩
  have hmem : ∀ x, x ∈ strKeys (.map es : DataW Unit) ↔ has (.map es) (.string x) = true := fun x => by
    rw [has_eq, List.any_eq_true]
    show x ∈ es.map (fun p => strOf p.1) ↔ _
    rw [List.mem_map]
    constructor
    · rintro ⟨p, hp1, hp2⟩
      obtain ⟨y, hy⟩ := hstr p hp1
      refine ⟨p, hp1, ?_⟩
      rw [hy] at hp2 ⊢
      have : y = x := hp2
      subst this
      exact WideAt.sameKey_self (by exact ⟨⟩)
    · rintro ⟨p, hp1, hp2⟩
      exact ⟨p, hp1, by rw [WideAt.sameKey_eq hp2]; rfl⟩
  have hnd : ss.Nodup := hp.symm.nodup (by
    show (es.map fun p => strOf p.1).Nodup
    refine List.pairwise_map.2 (hpw.imp_of_mem fun {p q} hp' hq' hne e => hne ?_)
    obtain ⟨a, ha⟩ := hstr p hp'
    obtain ⟨b, hb⟩ := hstr q hq'
    rw [ha, hb] at e ⊢
    exact congrArg _ e)
  have tr : ∀ a b c : List UInt8, leB a b = true → leB b c = true → leB a c = true := fun a b c h1 h2 => by simp only [leB, decide_eq_true_eq] at *; exact List.le_trans h1 h2
  have tot : ∀ a b : List UInt8, (leB a b || leB b a) = true := fun a b => by simp only [leB, Bool.or_eq_true, decide_eq_true_eq]; exact List.le_total a b
  have hsorted := List.pairwise_mergeSort tr tot ss
  have hnd2 : (ss.mergeSort leB).Nodup := (List.mergeSort_perm ss leB).symm.nodup hnd
  constructor
  · show ((ss.mergeSort leB).map fun l => (⟨l.toArray⟩ : ByteArray)).Pairwise _
    refine List.pairwise_map.2 ((hsorted.and hnd2).imp fun {a b} ⟨h1, h2⟩ => ?_)
    rw [blt_iff]
    simp only [leB, decide_eq_true_eq] at h1
    rcases List.le_iff_lt_or_eq.1 h1 with h3 | h3
    · simpa using h3
    · exact absurd h3 h2
  · intro s
    show s ∈ ((ss.mergeSort leB).map fun l => (⟨l.toArray⟩ : ByteArray)) ↔ _
    rw [List.mem_map]
    constructor
    · rintro ⟨l, hl, rfl⟩
      have := (hmem l).1 (hp.subset ((List.mergeSort_perm ss leB).subset hl))
      obtain ⟨a, ha, s', h1, h2⟩ := (h l).1 this
      refine ⟨a, ha, ?_⟩
      rw [h1]; congr 1
      exact ba_ext (by simpa using h2)
    · rintro ⟨a, ha, h1⟩
      refine ⟨s.data.toList, ?_, by simp⟩
      exact (List.mergeSort_perm ss leB).symm.subset (hp.symm.subset ((hmem _).2 ((h _).2 ⟨a, ha, s, h1, rfl⟩)))
def ofKind (k : Int) (n : SN) : Option ByteArray := if n.1.k = k then some n.1.s else Option.none
def KJ (N : Nat) (k : Int) (vs : List SN) (w' : World) : Prop := ∃ D, OwnM w' (N + 1) vs.length D ∧ KM (ofKind k) vs D ∧ NumIn w' N k ∧ MapAt w' (N + 2) (N + 1)
theorem KJ.quiet (N : Nat) (k : Int) : Quiet N (N + 3) (KJ N k) := fun vs w1 w2 ⟨D, h1, h2, h3, h4⟩ _ hk => ⟨D, h1.block (hk _ (by omega) (by omega)), h2, (hk _ (by omega) (by omega)).trans h3, (hk _ (by omega) (by omega)).trans h4⟩
theorem KJ.step (N : Nat) (k : Int) (vs : List SN) (h : SH) (l : SF) (v1 v2 v3 v4 u : Value) (w : World) (hj : KJ N k vs w) (hl : vs.length < 10000000) (hs : h.s.size ≤ 10000000) :
    Calls Tryz.prog 135 (#[sagg h v1 v2 v3 v4 u] ++ #[.pointer (some ⟨N, 0, Option.none⟩), .pointer (some ⟨N + 2, 0, Option.none⟩)]) w fun e w' => e = .returned (.tuple #[]) ∧ KJ N k (vs ++ [(h, l)]) w' ∧ Gap N (N + 3) w w' := by
  obtain ⟨D, h1, h2, h3, h4⟩ := hj
  by_cases hk : h.k = k
  · subst hk
    refine (kindHit h v1 v2 v3 v4 u w N (N + 2) (N + 1) vs.length D h3 h4 h1 hl hs).mono ?_
    rintro e w' ⟨rfl, ⟨d, ho⟩, hg⟩
    refine ⟨rfl, ⟨_, ?_, h2.hit (d := d) (s := h.s) (h1.tidy keyLaw).isMap (by simp [ofKind]), ?_, ?_⟩, hg.wider (by omega) (by omega)⟩
    · rw [List.length_append]; exact ho
    · exact (hg.block _ (lt_of_block h3) (by omega)).trans h3
    · exact (hg.block _ (lt_of_block h4) (by omega)).trans h4
  · refine (kindMiss h v1 v2 v3 v4 u w N (N + 2) k h3 hk).mono ?_
    rintro e w' ⟨rfl, hb⟩
    refine ⟨rfl, ⟨D, ?_, h2.miss (by simp [ofKind, hk]), ?_, ?_⟩, Gap.of _ _ hb⟩
    · rw [List.length_append]; exact OwnM.block (World.ownsMap.mono h1 (Nat.le_succ _)) (hb.block _ h1.lt)
    · exact (hb.block _ (lt_of_block h3)).trans h3
    · exact (hb.block _ (lt_of_block h4)).trans h4
theorem names_start (w : World) (k : Int) : KJ w.heap.size k [] (((w.alloc (.cells #[.int .i64 k] 3)).alloc (.map #[] 0)).alloc (.cells #[.map (some (w.heap.size + 1))] 113)) ∧
    Below w.heap.size w (((w.alloc (.cells #[.int .i64 k] 3)).alloc (.map #[] 0)).alloc (.cells #[.map (some (w.heap.size + 1))] 113)) := by
  obtain ⟨q0, q1, q2⟩ := heap3 w (.cells #[.int .i64 k] 3) (.map #[] 0) (.cells #[.map (some (w.heap.size + 1))] 113)
  have hb := ((alloc_below w (.cells #[.int .i64 k] 3)).alloc (by simp) (.map #[] 0)).alloc (by simp; omega) (.cells #[.map (some (w.heap.size + 1))] 113)
  refine ⟨⟨.map [], ?_, fun x => by simp [has], q0, q2⟩, hb⟩
  have h := World.ownsMap_made (H := Unit) (w.alloc (.cells #[.int .i64 k] 3)) Tryz.prog 9 (plainElem Tryz.prog 3)
  rw [World.size_alloc] at h
  exact h.alloc _
set_option maxHeartbeats 2000000 in
set_option maxRecDepth 100000 in
theorem namesOfKind_is (F : SF) (hF : snodes F ≤ 10000000) (hs : ∀ n ∈ sall F, n.1.s.size ≤ 10000000) (k : Int) (w : World) (v : Value) (hv : SV w 0 F v) :
    Calls Tryz.prog 76 #[v, .int .i64 k] w fun e w' => ∃ v' ns, e = .returned v' ∧ Asc ns ∧ (∀ s, s ∈ ns ↔ ∃ a ∈ sall F, ofKind k a = some s) ∧ ns.length ≤ 10000000 ∧ w'.ownsRow w.heap.size 9 1 v' ns.length (ns.map Value.string) ∧ Below w.heap.size w w' := by
  have hmf : ∀ (fn : Fn) (first cap : Array Value) (w : World), (Instr.makeFunc fn first cap).run Tryz.prog w = .ok (.func fn first cap) w := fun _ _ _ _ => rfl
  have hmm := @run_makeMap Tryz.prog
  obtain ⟨j0, b0⟩ := names_start w k
  have N0 := hid (And.intro j0 b0)
  clear j0 b0
  have Hs := hid hs
  have Hv := hid (fun (W : World) (hJ : KJ w.heap.size k [] W) (hb : Below w.heap.size w W) (hW : w.heap.size + 3 ≤ W.heap.size) =>
    visitAllS_is F hF w W hb w.heap.size (w.heap.size + 3) (Nat.le_refl _) hW v hv 135 (fun _ _ => rfl) #[.pointer (some ⟨w.heap.size, 0, Option.none⟩), .pointer (some ⟨w.heap.size + 2, 0, Option.none⟩)] (KJ w.heap.size k)
      (KJ.quiet _ _) hJ (fun vs h l v1 v2 v3 v4 u w1 hj _ _ _ _ hm hl => KJ.step _ _ vs h l v1 v2 v3 v4 u w1 hj (by omega) (Hs.out _ hm)))
  clear hs
  go_enter Tryz.func76, Tryz.ntmps76
  go_wp2_with fail
  refine (Hv.out _ N0.out.1 N0.out.2 (by simp)).mono ?_
  rintro e w1 ⟨rfl, ⟨vs, ⟨D, ho, hk, _, hm⟩, hp⟩, hg⟩
  have hB1 := hid (N0.out.2.trans (hg.below (Nat.le_refl _) N0.out.2.size))
  have hcell := cell_of_one hm
  have hvl : vs.length ≤ 10000000 := by rw [hp.length_eq, sall_len]; exact hF
  have HD := hid (And.intro ho (And.intro hk hp))
  have hsz : Maps.size D ≤ 10000000 := Nat.le_trans ho.size_le hvl
  have hsm : ∀ x ∈ strKeys D, x.length ≤ 10000000 := fun x hx => by
    obtain ⟨n, hn, s, h1, h2⟩ := (hk x).1 ((own_keys ho x).1 hx)
    have h3 := Hs.out n (hp.subset hn)
    unfold ofKind at h1
    split at h1
    · injection h1 with h1; subst h1; subst h2; exact h3
    · cases h1
  have HS := hid (And.intro hsz hsm)
  clear ho hk hm hp hg N0 Hv Hs hsz hsm
  go_wp2_with fail
  refine (ascending_is _ _ D w1 HD.out.1 HS.out.1 HS.out.2).mono ?_
  rintro e w2 ⟨v', ss, rfl, hperm, hrow, hb2⟩
  have hB2 := hB1.out.trans (hb2.mono hB1.out.size)
  obtain ⟨a1, a2⟩ := HD.out.2.1.names HD.out.1 hperm
  have hlen : (mapNames ss).length ≤ 10000000 := by rw [mapNames_len, hperm.length_eq]; refine Nat.le_trans ?_ HS.out.1; cases D <;> simp [strKeys, Maps.size]
  have R := hid (And.intro a1 (And.intro (show ∀ s, s ∈ mapNames ss ↔ ∃ a ∈ sall F, ofKind k a = some s from fun s => (a2 s).trans ⟨fun ⟨a, h1, h2⟩ => ⟨a, HD.out.2.2.subset h1, h2⟩, fun ⟨a, h1, h2⟩ => ⟨a, HD.out.2.2.symm.subset h1, h2⟩⟩) (And.intro hlen (And.intro (ownsRow_base_a hrow hB1.out.size) hB2))))
  clear a1 a2 hlen hrow hb2 hB2 hperm hcell
  go_wp2
  go_ret
  exact ⟨_, mapNames ss, rfl, R.out.1, R.out.2.1, R.out.2.2.1, R.out.2.2.2.1, R.out.2.2.2.2⟩
end Go.Proofs.YtfoghiminlbdaaaGreat
namespace Go.Proofs.YtfoghiminlbdaaaGreat
open Go.RowKit Go.Lib
set_option linter.unusedSimpArgs false
set_option linter.unusedVariables false
theorem nmS_names (k : Int) : ∀ (F : SF) (out : List ByteArray), Asc out → Asc (nmS k F out) ∧ ∀ s, s ∈ nmS k F out ↔ (s ∈ out ∨ ∃ a ∈ sall F, ofKind k a = some s)
  | .nil, out, h => ⟨h, fun s => by simp [nmS, sall]⟩
  | .node p q h l r, out, ho => by
    have hput : Asc (if h.k = k then putR h.s false out else out) ∧ ∀ s, s ∈ (if h.k = k then putR h.s false out else out) ↔ (s ∈ out ∨ ofKind k (h, l) = some s) := by
      by_cases hk : h.k = k
      · rw [if_pos hk]
        obtain ⟨i1, i2⟩ := asc_put h.s out ho
        refine ⟨i1, fun s => ?_⟩
        rw [i2 s]
        simp only [ofKind, if_pos hk, Option.some.injEq]
        constructor
        · rintro (e | e)
          · exact .inr e.symm
          · exact .inl e
        · rintro (e | e)
          · exact .inr e
          · exact .inl e.symm
      · rw [if_neg hk]
        refine ⟨ho, fun s => ?_⟩
        simp [ofKind, if_neg hk]
    obtain ⟨l1, l2⟩ := nmS_names k l _ hput.1
    obtain ⟨r1, r2⟩ := nmS_names k r _ l1
    refine ⟨r1, fun s => ?_⟩
    show s ∈ nmS k r (nmS k l _) ↔ _
    rw [r2 s, l2 s, hput.2 s]
    simp only [sall, List.mem_cons, List.mem_append]
    constructor
    · rintro (((e | e) | ⟨a, h1, h2⟩) | ⟨a, h1, h2⟩)
      · exact .inl e
      · exact .inr ⟨_, .inl rfl, e⟩
      · exact .inr ⟨a, .inr (.inl h1), h2⟩
      · exact .inr ⟨a, .inr (.inr h1), h2⟩
    · rintro (e | ⟨a, (rfl | h1 | h1), h2⟩)
      · exact .inl (.inl (.inl e))
      · exact .inl (.inl (.inr h2))
      · exact .inl (.inr ⟨a, h1, h2⟩)
      · exact .inr ⟨a, h1, h2⟩
theorem nmS_len (k : Int) : ∀ (F : SF) (out : List ByteArray), (nmS k F out).length ≤ out.length + snodes F
  | .nil, out => by simp [nmS, snodes]
  | .node p q h l r, out => by
    have h0 : (if h.k = k then putR h.s false out else out).length ≤ out.length + 1 := by split; exact putR_len _ _ _; omega
    have h1 := nmS_len k l (if h.k = k then putR h.s false out else out)
    have h2 := nmS_len k r (nmS k l (if h.k = k then putR h.s false out else out))
    simp only [nmS, snodes]; omega
set_option maxHeartbeats 2000000 in
set_option maxRecDepth 100000 in
theorem l4Names_step (k : Int) (F : SF)
    (ih : ∀ l : SF, snodes l < snodes F → ∀ (out : List ByteArray) (w : World) (vo v : Value), out.length + snodes l ≤ 10000000 → TV w 0 vo out → SV w 0 l v → Calls Tryz.prog 86 #[vo, v, .int .i64 k] w fun e w' => ∃ v', e = .returned v' ∧ TV w' 0 v' (nmS k l out) ∧ Below w.heap.size w w')
    (out : List ByteArray) (w : World) (vo v : Value) (hN : out.length + snodes F ≤ 10000000) (ho : TV w 0 vo out) (hv : SV w 0 F v) :
    Calls Tryz.prog 86 #[vo, v, .int .i64 k] w fun e w' => ∃ v', e = .returned v' ∧ TV w' 0 v' (nmS k F out) ∧ Below w.heap.size w w' := by
  obtain ⟨b, o, ao, cap, rfl, hao, _, hin⟩ := hv
  have Hih := hid ih
  have hlenF := slen_le F
  clear ih
  go_enter Tryz.func86, Tryz.ntmps86
  go_wp2
  go_loopw [0, 7] (fun x i wr => ∃ (R : SF) (j : Nat) (os : List ByteArray), i = .int .i64 (j : Int) ∧ TV wr 0 x os ∧ Hid (j + slen R = slen F ∧ os.length + snodes R ≤ out.length + snodes F ∧ snodes R ≤ snodes F ∧ nmS k R os = nmS k F out ∧ SIn w 0 R b (o + j * 19)) ∧ Below w.heap.size w wr) (fun _ i _ => slen F - (RowKit.intOf i).toNat)
  case atStart => exact ⟨F, 0, out, rfl, ho, ⟨by omega, by omega, by omega, rfl, by simpa using hin⟩, Below.refl _ _⟩
  case round =>
    obtain ⟨R, j, os, rfl, hos, hr, hbw⟩ := hrel
    obtain ⟨e1, e2, e3, e4, e5⟩ := hr.out
    obtain ⟨oa, oc, rfl⟩ := hos.shape
    clear ho
    cases R with
    | nil =>
      have hk : ¬ (j : Int) < (slen F : Int) := by simp only [slen] at e1; omega
      have E := hid (show os = nmS k F out from e4)
      clear hr e4
      go_wp2
      go_ret
      exact ⟨_, rfl, by rw [← E.out]; exact hos, hbw⟩
    | node p q h l r =>
      have hlt : (j : Int) < (slen F : Int) := by simp only [slen] at e1; omega
      have hne : ¬ F = .nil := by intro e; subst e; simp only [slen] at e1; omega
      obtain rfl : ao = some ⟨b, o, Option.none⟩ := hao.resolve_right hne
      have hsc0 := (SIn_node.1 e5).1
      have hr0 := (SIn_node.1 e5).2
      obtain ⟨c0, c1, _, _, _, _, u, c18, hu⟩ := SC.later hsc0 hbw
      simp only [snodes] at e2 e3
      have Hl := hid (Hih.out l (by omega))
      have HU := hid (And.intro hu hos)
      have Hsc := hid hsc0
      have He : Hid (j + 1 + slen r = slen F ∧ snodes r ≤ snodes F ∧ SIn w 0 r b (o + (j + 1) * 19) ∧ os.length + (snodes l + snodes r + 1) ≤ out.length + snodes F ∧ nmS k r (nmS k l (if h.k = k then putR h.s false os else os)) = nmS k F out) :=
        ⟨by simp only [slen] at e1; omega, by omega, by rw [show o + (j + 1) * 19 = o + j * 19 + 19 by omega]; exact hr0, by omega, e4⟩
      clear hr e1 e2 e3 e4 e5 hin hne hao hu hos hr0 hsc0
      by_cases hk : h.k = k
      · have Hk : Hid ((if h.k = k then putR h.s false os else os) = putR h.s false os) := if_pos hk
        subst hk
        go_wp2_with fail
        refine (l4Put_is os (by have := He.out; omega) h.s _ _ HU.out.2).mono ?_
        rintro e w1 ⟨v1, rfl, hv1, hb1⟩
        have hbw1 := hbw.trans (hb1.mono hbw.size)
        obtain ⟨_, _, _, _, _, _, u', c18', hu'⟩ := SC.later Hsc.out hbw1
        have hl1 := putR_len h.s false os
        have HV1 := hid (And.intro hv1.low hu')
        obtain ⟨x1, y1, rfl⟩ := hv1.shape
        clear hv1 hb1 hu' c0 c1 c18 hbw
        go_wp2_with fail
        refine (Hl.out (putR h.s false os) _ _ _ (by have := He.out; omega) HV1.out.1 HV1.out.2).mono ?_
        rintro e w2 ⟨v2, rfl, hv2, hb2⟩
        have hbw2 := hbw1.trans (hb2.mono hbw1.size)
        have hl2 := nmS_len h.k l (putR h.s false os)
        have HV2 := hid hv2
        clear hv2 hb2 c18' hbw1
        go_wp2
        go_roundw
        case rel =>
          have E := He.out
          rw [Hk.out] at E
          exact ⟨r, j + 1, nmS h.k l (putR h.s false os), by go_num, HV2.out, ⟨E.1, by omega, E.2.1, E.2.2.2.2, E.2.2.1⟩, hbw2⟩
        case measure => simp [RowKit.intOf]; omega
      · have Hk : Hid ((if h.k = k then putR h.s false os else os) = os) := if_neg hk
        have hne := int_ne hk
        go_wp2_with fail
        refine (Hl.out os _ _ _ (by have := He.out; omega) HU.out.2 HU.out.1).mono ?_
        rintro e w2 ⟨v2, rfl, hv2, hb2⟩
        have hbw2 := hbw.trans (hb2.mono hbw.size)
        have hl2 := nmS_len k l os
        have HV2 := hid hv2
        clear hv2 hb2 c0 c1 c18 hbw
        go_wp2
        go_roundw
        case rel =>
          have E := He.out
          rw [Hk.out] at E
          exact ⟨r, j + 1, nmS k l os, by go_num, HV2.out, ⟨E.1, by omega, E.2.1, E.2.2.2.2, E.2.2.1⟩, hbw2⟩
        case measure => simp [RowKit.intOf]; omega
theorem l4Names_all (k : Int) : ∀ (n : Nat) (F : SF), snodes F < n → ∀ (out : List ByteArray) (w : World) (vo v : Value), out.length + snodes F ≤ 10000000 → TV w 0 vo out → SV w 0 F v → Calls Tryz.prog 86 #[vo, v, .int .i64 k] w fun e w' => ∃ v', e = .returned v' ∧ TV w' 0 v' (nmS k F out) ∧ Below w.heap.size w w'
  | 0, _, h, _, _, _, _, _, _, _ => absurd h (by omega)
  | n + 1, F, h, out, w, vo, v, hN, ho, hv => l4Names_step k F (fun l hl out w vo v hN ho hv => l4Names_all k n l (by omega) out w vo v hN ho hv) out w vo v hN ho hv
theorem l4Names_is (k : Int) (F : SF) (out : List ByteArray) (w : World) (vo v : Value) (hN : out.length + snodes F ≤ 10000000) (ho : TV w 0 vo out) (hv : SV w 0 F v) :
    Calls Tryz.prog 86 #[vo, v, .int .i64 k] w fun e w' => ∃ v', e = .returned v' ∧ TV w' 0 v' (nmS k F out) ∧ Below w.heap.size w w' := l4Names_all k _ F (Nat.lt_succ_self _) out w vo v hN ho hv
theorem sall_small : ∀ (F : SF) (n : SN), n ∈ sall F → n.1.s.size ≤ ssize F
  | .nil, n, h => by simp [sall] at h
  | .node _ _ h l r, n, hn => by
    simp only [sall, List.mem_cons, List.mem_append] at hn
    simp only [ssize, hsize]
    rcases hn with rfl | hn | hn
    · show h.s.size ≤ _; omega
    · have := sall_small l n hn; omega
    · have := sall_small r n hn; omega
theorem empty_row (w : World) : TV (w.alloc (.cells #[] 9)) 0 (.slice (some ⟨w.heap.size, 0, Option.none⟩) 0 0) [] := ⟨_, _, rfl, .inl rfl⟩
def GoodNames (w : World) (ns : List ByteArray) (e : Ending) (w' : World) : Prop := ∃ v', e = .returned v' ∧ w'.ownsRow w.heap.size 9 1 v' ns.length (ns.map Value.string) ∧ Below w.heap.size w w'
def SpecNames (w : World) (ns : List ByteArray) (e : Ending) (w' : World) : Prop := ∃ v', e = .returned v' ∧ TV w' 0 v' ns ∧ Below w.heap.size w w'
theorem names_same (k : Int) (F : SF) (ns : List ByteArray) (h1 : Asc ns) (h2 : ∀ s, s ∈ ns ↔ ∃ a ∈ sall F, ofKind k a = some s) : ns = nmS k F [] := by
  obtain ⟨a1, a2⟩ := nmS_names k F [] List.Pairwise.nil
  exact asc_ext h1 a1 (fun s => by rw [h2 s, a2 s]; simp)
set_option maxRecDepth 100000 in
theorem spec_VarsOf (F : SF) (hF : snodes F ≤ 10000000) (w : World) (v : Value) (hv : SV w 0 F v) : Calls Tryz.prog 43 #[v] w (SpecNames w (nmS 1 F [])) := by
  have C := hid (l4Names_is 1 F [] (w.alloc (.cells #[] 9)) _ v (by simpa using hF) (empty_row w) (hv.later (alloc_below _ _)))
  go_enter Tryz.func43, Tryz.ntmps43
  go_wp2_with fail
  refine C.out.mono ?_
  rintro e w1 ⟨v1, rfl, hv1, hb1⟩
  have B := hid (And.intro hv1 (below_alloc hb1))
  clear hv1 hb1
  go_wp2
  go_ret
  exact ⟨_, rfl, B.out.1, B.out.2⟩
set_option maxRecDepth 100000 in
theorem impl_VarsOf (F : SF) (hF : snodes F ≤ 10000000) (hs : ∀ n ∈ sall F, n.1.s.size ≤ 10000000) (w : World) (v : Value) (hv : SV w 0 F v) : Calls Tryz.prog 34 #[v] w (GoodNames w (nmS 1 F [])) := by
  have C := hid (namesOfKind_is F hF hs 1 w v hv)
  go_enter Tryz.func34, Tryz.ntmps34
  go_wp2_with fail
  refine C.out.mono ?_
  rintro e w1 ⟨v1, ns, rfl, h1, h2, h3, h4, h5⟩
  have B := hid (And.intro (names_same 1 F ns h1 h2) (And.intro h4 h5))
  clear h1 h2 h3 h4 h5
  go_wp2
  go_ret
  exact ⟨_, rfl, by rw [← B.out.1]; exact B.out.2.1, B.out.2.2⟩
set_option maxRecDepth 100000 in
theorem spec_LoopVars (F : SF) (hF : snodes F ≤ 10000000) (w : World) (v : Value) (hv : SV w 0 F v) : Calls Tryz.prog 85 #[v] w (SpecNames w (nmS 3 F [])) := by
  have C := hid (l4Names_is 3 F [] (w.alloc (.cells #[] 9)) _ v (by simpa using hF) (empty_row w) (hv.later (alloc_below _ _)))
  go_enter Tryz.func85, Tryz.ntmps85
  go_wp2_with fail
  refine C.out.mono ?_
  rintro e w1 ⟨v1, rfl, hv1, hb1⟩
  have B := hid (And.intro hv1 (below_alloc hb1))
  clear hv1 hb1
  go_wp2
  go_ret
  exact ⟨_, rfl, B.out.1, B.out.2⟩
def xall (x : X) : List EN := (x.h, x.l) :: enall x.l
def hall (h : SH) : List EN := xall h.x1 ++ (xall h.x2 ++ (xall h.x3 ++ xall h.x4))
def sallE : SF → List EN
  | .nil => []
  | .node _ _ h l r => hall h ++ (sallE l ++ sallE r)
theorem sallE_mem : ∀ (F : SF) (a : EN), a ∈ sallE F ↔ ∃ n ∈ sall F, a ∈ hall n.1
  | .nil, a => by simp [sallE, sall]
  | .node _ _ h l r, a => by
    simp only [sallE, sall, List.mem_append, List.mem_cons, sallE_mem l a, sallE_mem r a]
    constructor
    · rintro (e | ⟨n, h1, h2⟩ | ⟨n, h1, h2⟩)
      · exact ⟨_, .inl rfl, e⟩
      · exact ⟨n, .inr (.inl h1), h2⟩
      · exact ⟨n, .inr (.inr h1), h2⟩
    · rintro ⟨n, (rfl | h1 | h1), h2⟩
      · exact .inl h2
      · exact .inr (.inl ⟨n, h1, h2⟩)
      · exact .inr (.inr ⟨n, h1, h2⟩)
theorem enall_small : ∀ (F : EF) (n : EN), n ∈ enall F → n.1.s.size ≤ esize F
  | .nil, n, h => by simp [enall] at h
  | .node _ _ h l r, n, hn => by
    simp only [enall, List.mem_cons, List.mem_append] at hn
    simp only [esize]
    rcases hn with rfl | hn | hn
    · show h.s.size ≤ _; omega
    · have := enall_small l n hn; omega
    · have := enall_small r n hn; omega
theorem xall_small (x : X) (n : EN) (h : n ∈ xall x) : n.1.s.size ≤ xsize x := by
  simp only [xall, List.mem_cons] at h
  unfold xsize
  rcases h with rfl | h
  · show x.h.s.size ≤ _; omega
  · have := enall_small x.l n h; omega
theorem hall_small (h : SH) (n : EN) (hn : n ∈ hall h) : n.1.s.size ≤ hsize h := by
  simp only [hall, List.mem_append] at hn
  unfold hsize
  rcases hn with hn | hn | hn | hn
  · have := xall_small _ n hn; omega
  · have := xall_small _ n hn; omega
  · have := xall_small _ n hn; omega
  · have := xall_small _ n hn; omega
theorem xall_len (x : X) : (xall x).length = enodes x.l + 1 := by simp [xall, enall_len]
theorem hall_len (h : SH) : (hall h).length = enodes h.x1.l + enodes h.x2.l + enodes h.x3.l + enodes h.x4.l + 4 := by
  simp only [hall, List.length_append, xall_len]; omega
theorem sallE_len : ∀ (F : SF), (sallE F).length ≤ 5 * ssize F
  | .nil => by simp [sallE, ssize]
  | .node _ _ h l r => by
    have := sallE_len l; have := sallE_len r
    have := enodes_le h.x1.l; have := enodes_le h.x2.l; have := enodes_le h.x3.l; have := enodes_le h.x4.l
    simp only [sallE, List.length_append, hall_len, ssize, hsize, xsize]; omega
def ofKindE (k : Int) (n : EN) : Option ByteArray := if n.1.k = k then some n.1.s else Option.none
theorem put_names (k : Int) (h : EH) (l : EF) (out : List ByteArray) (ho : Asc out) : Asc (if h.k = k then putR h.s false out else out) ∧ ∀ s, s ∈ (if h.k = k then putR h.s false out else out) ↔ (s ∈ out ∨ ofKindE k (h, l) = some s) := by
  by_cases hk : h.k = k
  · rw [if_pos hk]
    obtain ⟨i1, i2⟩ := asc_put h.s out ho
    refine ⟨i1, fun s => ?_⟩
    rw [i2 s]
    simp only [ofKindE, if_pos hk, Option.some.injEq]
    constructor
    · rintro (e | e)
      · exact .inr e.symm
      · exact .inl e
    · rintro (e | e)
      · exact .inr e
      · exact .inl e.symm
  · rw [if_neg hk]
    refine ⟨ho, fun s => ?_⟩
    simp [ofKindE, if_neg hk]
theorem nmE_names (k : Int) : ∀ (F : EF) (out : List ByteArray), Asc out → Asc (nmE k F out) ∧ ∀ s, s ∈ nmE k F out ↔ (s ∈ out ∨ ∃ a ∈ enall F, ofKindE k a = some s)
  | .nil, out, h => ⟨h, fun s => by simp [nmE, enall]⟩
  | .node p q h l r, out, ho => by
    have hput := put_names k h l out ho
    obtain ⟨l1, l2⟩ := nmE_names k l _ hput.1
    obtain ⟨r1, r2⟩ := nmE_names k r _ l1
    refine ⟨r1, fun s => ?_⟩
    show s ∈ nmE k r (nmE k l _) ↔ _
    rw [r2 s, l2 s, hput.2 s]
    simp only [enall, List.mem_cons, List.mem_append]
    constructor
    · rintro (((e | e) | ⟨a, h1, h2⟩) | ⟨a, h1, h2⟩)
      · exact .inl e
      · exact .inr ⟨_, .inl rfl, e⟩
      · exact .inr ⟨a, .inr (.inl h1), h2⟩
      · exact .inr ⟨a, .inr (.inr h1), h2⟩
    · rintro (e | ⟨a, (rfl | h1 | h1), h2⟩)
      · exact .inl (.inl (.inl e))
      · exact .inl (.inl (.inr h2))
      · exact .inl (.inr ⟨a, h1, h2⟩)
      · exact .inr ⟨a, h1, h2⟩
theorem nmX_names (k : Int) (x : X) (out : List ByteArray) (ho : Asc out) : Asc (nmX k x out) ∧ ∀ s, s ∈ nmX k x out ↔ (s ∈ out ∨ ∃ a ∈ xall x, ofKindE k a = some s) := by
  have hput := put_names k x.h x.l out ho
  obtain ⟨l1, l2⟩ := nmE_names k x.l _ hput.1
  refine ⟨l1, fun s => ?_⟩
  show s ∈ nmE k x.l _ ↔ _
  rw [l2 s, hput.2 s]
  simp only [xall, List.mem_cons]
  constructor
  · rintro ((e | e) | ⟨a, h1, h2⟩)
    · exact .inl e
    · exact .inr ⟨_, .inl rfl, e⟩
    · exact .inr ⟨a, .inr h1, h2⟩
  · rintro (e | ⟨a, (rfl | h1), h2⟩)
    · exact .inl (.inl e)
    · exact .inl (.inr h2)
    · exact .inr ⟨a, h1, h2⟩
theorem nmA_names (k : Int) : ∀ (F : SF) (out : List ByteArray), Asc out → Asc (nmA k F out) ∧ ∀ s, s ∈ nmA k F out ↔ (s ∈ out ∨ ∃ a ∈ sallE F, ofKindE k a = some s)
  | .nil, out, h => ⟨h, fun s => by simp [nmA, sallE]⟩
  | .node p q h l r, out, ho => by
    obtain ⟨a1, b1⟩ := nmX_names k h.x1 out ho
    obtain ⟨a2, b2⟩ := nmX_names k h.x2 _ a1
    obtain ⟨a3, b3⟩ := nmX_names k h.x3 _ a2
    obtain ⟨a4, b4⟩ := nmX_names k h.x4 _ a3
    obtain ⟨l1, l2⟩ := nmA_names k l _ a4
    obtain ⟨r1, r2⟩ := nmA_names k r _ l1
    refine ⟨r1, fun s => ?_⟩
    show s ∈ nmA k r (nmA k l _) ↔ _
    rw [r2 s, l2 s, b4 s, b3 s, b2 s, b1 s]
    simp only [sallE, hall, List.mem_append]
    constructor
    · rintro ((((((e | ⟨a, h1, h2⟩) | ⟨a, h1, h2⟩) | ⟨a, h1, h2⟩) | ⟨a, h1, h2⟩) | ⟨a, h1, h2⟩) | ⟨a, h1, h2⟩)
      · exact .inl e
      · exact .inr ⟨a, .inl (.inl h1), h2⟩
      · exact .inr ⟨a, .inl (.inr (.inl h1)), h2⟩
      · exact .inr ⟨a, .inl (.inr (.inr (.inl h1))), h2⟩
      · exact .inr ⟨a, .inl (.inr (.inr (.inr h1))), h2⟩
      · exact .inr ⟨a, .inr (.inl h1), h2⟩
      · exact .inr ⟨a, .inr (.inr h1), h2⟩
    · rintro (e | ⟨a, ((h1 | h1 | h1 | h1) | h1 | h1), h2⟩)
      · exact .inl (.inl (.inl (.inl (.inl (.inl e)))))
      · exact .inl (.inl (.inl (.inl (.inl (.inr ⟨a, h1, h2⟩)))))
      · exact .inl (.inl (.inl (.inl (.inr ⟨a, h1, h2⟩))))
      · exact .inl (.inl (.inl (.inr ⟨a, h1, h2⟩)))
      · exact .inl (.inl (.inr ⟨a, h1, h2⟩))
      · exact .inl (.inr ⟨a, h1, h2⟩)
      · exact .inr ⟨a, h1, h2⟩
theorem put_len (k : Int) (h : EH) (out : List ByteArray) : (if h.k = k then putR h.s false out else out).length ≤ out.length + 1 := by split; exact putR_len _ _ _; omega
theorem nmE_len (k : Int) : ∀ (F : EF) (out : List ByteArray), (nmE k F out).length ≤ out.length + enodes F
  | .nil, out => by simp [nmE, enodes]
  | .node p q h l r, out => by
    have h0 := put_len k h out
    have h1 := nmE_len k l (if h.k = k then putR h.s false out else out)
    have h2 := nmE_len k r (nmE k l (if h.k = k then putR h.s false out else out))
    simp only [nmE, enodes]; omega
theorem nmX_len (k : Int) (x : X) (out : List ByteArray) : (nmX k x out).length ≤ out.length + enodes x.l + 1 := by
  have h0 := put_len k x.h out
  have h1 := nmE_len k x.l (if x.h.k = k then putR x.h.s false out else out)
  unfold nmX; omega
theorem nmA_lenE (k : Int) : ∀ (F : SF) (out : List ByteArray), (nmA k F out).length ≤ out.length + (sallE F).length
  | .nil, out => by simp [nmA, sallE]
  | .node p q h l r, out => by
    have h1 := nmX_len k h.x1 out
    have h2 := nmX_len k h.x2 (nmX k h.x1 out)
    have h3 := nmX_len k h.x3 (nmX k h.x2 (nmX k h.x1 out))
    have h4 := nmX_len k h.x4 (nmX k h.x3 (nmX k h.x2 (nmX k h.x1 out)))
    have h5 := nmA_lenE k l (nmX k h.x4 (nmX k h.x3 (nmX k h.x2 (nmX k h.x1 out))))
    have h6 := nmA_lenE k r (nmA k l (nmX k h.x4 (nmX k h.x3 (nmX k h.x2 (nmX k h.x1 out)))))
    have h7 := hall_len h
    simp only [nmA, sallE, List.length_append]; omega
abbrev xagg (x : X) (v : Value) : Value := .agg #[.int .i64 x.h.k, .int .i64 x.h.n, .string x.h.s, v]
set_option maxHeartbeats 2000000 in
set_option maxRecDepth 100000 in
theorem l4Exp_step (k : Int) (x : X)
    (ih : ∀ y : X, enodes y.l < enodes x.l → ∀ (out : List ByteArray) (w : World) (vo v : Value), out.length + enodes y.l + 1 ≤ 10000000 → TV w 0 vo out → EV w 0 y.l v → Calls Tryz.prog 147 #[vo, xagg y v, .int .i64 k] w fun e w' => ∃ v', e = .returned v' ∧ TV w' 0 v' (nmX k y out) ∧ Below w.heap.size w w')
    (out : List ByteArray) (w : World) (vo v : Value) (hN : out.length + enodes x.l + 1 ≤ 10000000) (ho : TV w 0 vo out) (hv : EV w 0 x.l v) :
    Calls Tryz.prog 147 #[vo, xagg x v, .int .i64 k] w fun e w' => ∃ v', e = .returned v' ∧ TV w' 0 v' (nmX k x out) ∧ Below w.heap.size w w' := by
  obtain ⟨b, o, ao, cap, rfl, hao, _, hin⟩ := hv
  have Hih := hid ih
  have hlenF := elen_le x.l
  have hB0 := alloc_below w (.cells #[.int .i64 x.h.k, .int .i64 x.h.n, .string x.h.s, .slice ao (elen x.l) cap] 43)
  have ho1 := hid (ho.later hB0)
  have hin1 := hid (EIn_later hB0 _ _ _ hin)
  obtain ⟨oa, oc, rfl⟩ := ho.shape
  obtain ⟨W1, hW1⟩ : ∃ W1, W1 = w.alloc (.cells #[.int .i64 x.h.k, .int .i64 x.h.n, .string x.h.s, .slice ao (elen x.l) cap] 43) := ⟨_, rfl⟩
  have hcl : ∀ (w' : World), Below W1.heap.size W1 w' → w'.cell? ⟨w.heap.size, 3, Option.none⟩ = some (.slice ao (elen x.l) cap) := fun w' hb => by rw [hW1] at hb; exact box_cell (i := 3) hb rfl
  have Hcl := hid hcl
  have HB0 : Hid (Below w.heap.size w W1) := by rw [hW1]; exact hB0
  rw [← hW1] at ho1 hin1
  clear ih ho hin hcl hB0
  by_cases hk : x.h.k = k
  · have Hnm : Hid (nmX k x out = nmE k x.l (putR x.h.s false out)) := show nmX k x out = _ by unfold nmX; rw [if_pos hk]
    subst hk
    go_enter Tryz.func147, Tryz.ntmps147
    go_wp2_with fail
    rw [← hW1]
    refine (l4Put_is out (by omega) x.h.s _ _ ho1.out).mono ?_
    rintro e w2 ⟨v1, rfl, hv1, hb1⟩
    have hl1 := putR_len x.h.s false out
    have HV1 := hid hv1.low
    clear hv1 hW1
    go_wp2
    go_loopw [0, 7] (fun y i wr => ∃ (R : EF) (j : Nat) (os : List ByteArray), i = .int .i64 (j : Int) ∧ TV wr 0 y os ∧ Hid (j + elen R = elen x.l ∧ os.length + enodes R ≤ out.length + 1 + enodes x.l ∧ enodes R ≤ enodes x.l ∧ nmE x.h.k R os = nmE x.h.k x.l (putR x.h.s false out) ∧ EIn W1 0 R b (o + j * 4)) ∧ Below W1.heap.size W1 wr) (fun _ i _ => elen x.l - (RowKit.intOf i).toNat)
    case atStart => exact ⟨x.l, 0, putR x.h.s false out, rfl, HV1.out, ⟨by omega, by omega, by omega, rfl, by simpa using hin1.out⟩, hb1⟩
    case round =>
      obtain ⟨R, j, os, rfl, hos, hr, hbw⟩ := hrel
      obtain ⟨e1, e2, e3, e4, e5⟩ := hr.out
      obtain ⟨ya, yc, rfl⟩ := hos.shape
      have hcl := Hcl.out _ hbw
      cases R with
      | nil =>
        have hk : ¬ (j : Int) < (elen x.l : Int) := by simp only [elen] at e1; omega
        have E := hid (show os = nmX x.h.k x out by rw [Hnm.out]; exact e4)
        have HBW := hid (HB0.out.trans (hbw.mono HB0.out.size))
        have HO := hid hos
        clear hr e4 hbw hos
        go_wp2
        go_ret
        exact ⟨_, rfl, by rw [← E.out]; exact HO.out, HBW.out⟩
      | node p q h l r =>
        have hlt : (j : Int) < (elen x.l : Int) := by simp only [elen] at e1; omega
        have hne2 : ¬ x.l = .nil := by intro e; rw [e] at e1; simp only [elen] at e1; omega
        obtain rfl : ao = some ⟨b, o, Option.none⟩ := hao.resolve_right hne2
        obtain ⟨hxc, hrr⟩ := EIn_node.1 e5
        obtain ⟨c0, c1, c2, u, c3, hu⟩ := XC.later hxc hbw
        simp only [enodes] at e2 e3
        have Hl := hid (Hih.out ⟨h, l⟩ (show enodes l < _ by omega))
        have HU := hid (And.intro hu hos)
        have He : Hid (j + 1 + elen r = elen x.l ∧ enodes r ≤ enodes x.l ∧ EIn W1 0 r b (o + (j + 1) * 4) ∧ os.length + (enodes l + enodes r + 1) ≤ out.length + 1 + enodes x.l ∧ nmE x.h.k r (nmX x.h.k ⟨h, l⟩ os) = nmE x.h.k x.l (putR x.h.s false out)) :=
          ⟨by simp only [elen] at e1; omega, by omega, by rw [show o + (j + 1) * 4 = o + j * 4 + 4 by omega]; exact hrr, by omega, e4⟩
        clear hr e1 e2 e3 e4 e5 hne2 hao hu hos hrr hxc
        go_wp2_with fail
        refine (Hl.out os _ _ u (show os.length + enodes l + 1 ≤ 10000000 by have := He.out; omega) HU.out.2 HU.out.1).mono ?_
        rintro e w3 ⟨v3, rfl, hv3, hb3⟩
        have hbw3 := hbw.trans (hb3.mono hbw.size)
        have hl3 : (nmX x.h.k ⟨h, l⟩ os).length ≤ os.length + enodes l + 1 := nmX_len x.h.k ⟨h, l⟩ os
        have HV3 := hid hv3
        clear hv3 hb3 c0 c1 c2 c3 hbw hcl
        go_wp2
        go_roundw
        case rel =>
          have E := He.out
          exact ⟨r, j + 1, nmX x.h.k ⟨h, l⟩ os, by go_num, HV3.out, ⟨E.1, by omega, E.2.1, E.2.2.2.2, E.2.2.1⟩, hbw3⟩
        case measure => simp [RowKit.intOf]; omega
  · have Hnm : Hid (nmX k x out = nmE k x.l out) := show nmX k x out = _ by unfold nmX; rw [if_neg hk]
    have hne := int_ne hk
    go_enter Tryz.func147, Tryz.ntmps147
    go_wp2
    rw [← hW1]
    go_loopw [0, 7] (fun y i wr => ∃ (R : EF) (j : Nat) (os : List ByteArray), i = .int .i64 (j : Int) ∧ TV wr 0 y os ∧ Hid (j + elen R = elen x.l ∧ os.length + enodes R ≤ out.length + 1 + enodes x.l ∧ enodes R ≤ enodes x.l ∧ nmE k R os = nmE k x.l out ∧ EIn W1 0 R b (o + j * 4)) ∧ Below W1.heap.size W1 wr) (fun _ i _ => elen x.l - (RowKit.intOf i).toNat)
    case atStart => exact ⟨x.l, 0, out, rfl, ho1.out, ⟨by omega, by omega, by omega, rfl, by simpa using hin1.out⟩, Below.refl _ _⟩
    case round =>
      obtain ⟨R, j, os, rfl, hos, hr, hbw⟩ := hrel
      obtain ⟨e1, e2, e3, e4, e5⟩ := hr.out
      obtain ⟨ya, yc, rfl⟩ := hos.shape
      have hcl := Hcl.out _ hbw
      cases R with
      | nil =>
        have hk : ¬ (j : Int) < (elen x.l : Int) := by simp only [elen] at e1; omega
        have E := hid (show os = nmX k x out by rw [Hnm.out]; exact e4)
        have HBW := hid (HB0.out.trans (hbw.mono HB0.out.size))
        have HO := hid hos
        clear hr e4 hbw hos
        go_wp2
        go_ret
        exact ⟨_, rfl, by rw [← E.out]; exact HO.out, HBW.out⟩
      | node p q h l r =>
        have hlt : (j : Int) < (elen x.l : Int) := by simp only [elen] at e1; omega
        have hne2 : ¬ x.l = .nil := by intro e; rw [e] at e1; simp only [elen] at e1; omega
        obtain rfl : ao = some ⟨b, o, Option.none⟩ := hao.resolve_right hne2
        obtain ⟨hxc, hrr⟩ := EIn_node.1 e5
        obtain ⟨c0, c1, c2, u, c3, hu⟩ := XC.later hxc hbw
        simp only [enodes] at e2 e3
        have Hl := hid (Hih.out ⟨h, l⟩ (show enodes l < _ by omega))
        have HU := hid (And.intro hu hos)
        have He : Hid (j + 1 + elen r = elen x.l ∧ enodes r ≤ enodes x.l ∧ EIn W1 0 r b (o + (j + 1) * 4) ∧ os.length + (enodes l + enodes r + 1) ≤ out.length + 1 + enodes x.l ∧ nmE k r (nmX k ⟨h, l⟩ os) = nmE k x.l out) :=
          ⟨by simp only [elen] at e1; omega, by omega, by rw [show o + (j + 1) * 4 = o + j * 4 + 4 by omega]; exact hrr, by omega, e4⟩
        clear hr e1 e2 e3 e4 e5 hne2 hao hu hos hrr hxc
        go_wp2_with fail
        refine (Hl.out os _ _ u (show os.length + enodes l + 1 ≤ 10000000 by have := He.out; omega) HU.out.2 HU.out.1).mono ?_
        rintro e w3 ⟨v3, rfl, hv3, hb3⟩
        have hbw3 := hbw.trans (hb3.mono hbw.size)
        have hl3 : (nmX k ⟨h, l⟩ os).length ≤ os.length + enodes l + 1 := nmX_len k ⟨h, l⟩ os
        have HV3 := hid hv3
        clear hv3 hb3 c0 c1 c2 c3 hbw hcl
        go_wp2
        go_roundw
        case rel =>
          have E := He.out
          exact ⟨r, j + 1, nmX k ⟨h, l⟩ os, by go_num, HV3.out, ⟨E.1, by omega, E.2.1, E.2.2.2.2, E.2.2.1⟩, hbw3⟩
        case measure => simp [RowKit.intOf]; omega
theorem l4Exp_all (k : Int) : ∀ (n : Nat) (x : X), enodes x.l < n → ∀ (out : List ByteArray) (w : World) (vo v : Value), out.length + enodes x.l + 1 ≤ 10000000 → TV w 0 vo out → EV w 0 x.l v → Calls Tryz.prog 147 #[vo, xagg x v, .int .i64 k] w fun e w' => ∃ v', e = .returned v' ∧ TV w' 0 v' (nmX k x out) ∧ Below w.heap.size w w'
  | 0, _, h, _, _, _, _, _, _, _ => absurd h (by omega)
  | n + 1, x, h, out, w, vo, v, hN, ho, hv => l4Exp_step k x (fun l hl out w vo v hN ho hv => l4Exp_all k n l (by omega) out w vo v hN ho hv) out w vo v hN ho hv
theorem l4Exp_is (k : Int) (x : X) (out : List ByteArray) (w : World) (vo v : Value) (hN : out.length + enodes x.l + 1 ≤ 10000000) (ho : TV w 0 vo out) (hv : EV w 0 x.l v) :
    Calls Tryz.prog 147 #[vo, xagg x v, .int .i64 k] w fun e w' => ∃ v', e = .returned v' ∧ TV w' 0 v' (nmX k x out) ∧ Below w.heap.size w w' := l4Exp_all k _ x (Nat.lt_succ_self _) out w vo v hN ho hv
set_option maxHeartbeats 4000000 in
set_option maxRecDepth 100000 in
theorem l4Exps_step (k : Int) (F : SF)
    (ih : ∀ l : SF, snodes l < snodes F → ∀ (out : List ByteArray) (w : World) (vo v : Value), out.length + (sallE l).length ≤ 10000000 → snodes l ≤ 10000000 → TV w 0 vo out → SV w 0 l v → Calls Tryz.prog 88 #[vo, v, .int .i64 k] w fun e w' => ∃ v', e = .returned v' ∧ TV w' 0 v' (nmA k l out) ∧ Below w.heap.size w w')
    (out : List ByteArray) (w : World) (vo v : Value) (hN : out.length + (sallE F).length ≤ 10000000) (hM : snodes F ≤ 10000000) (ho : TV w 0 vo out) (hv : SV w 0 F v) :
    Calls Tryz.prog 88 #[vo, v, .int .i64 k] w fun e w' => ∃ v', e = .returned v' ∧ TV w' 0 v' (nmA k F out) ∧ Below w.heap.size w w' := by
  obtain ⟨b, o, ao, cap, rfl, hao, _, hin⟩ := hv
  have Hih := hid ih
  have hlenF := slen_le F
  clear ih
  go_enter Tryz.func88, Tryz.ntmps88
  go_wp2
  go_loopw [0, 7] (fun x i wr => ∃ (R : SF) (j : Nat) (os : List ByteArray), i = .int .i64 (j : Int) ∧ TV wr 0 x os ∧ Hid (j + slen R = slen F ∧ os.length + (sallE R).length ≤ out.length + (sallE F).length ∧ snodes R ≤ snodes F ∧ nmA k R os = nmA k F out ∧ SIn w 0 R b (o + j * 19)) ∧ Below w.heap.size w wr) (fun _ i _ => slen F - (RowKit.intOf i).toNat)
  case atStart => exact ⟨F, 0, out, rfl, ho, ⟨by omega, by omega, by omega, rfl, by simpa using hin⟩, Below.refl _ _⟩
  case round =>
    obtain ⟨R, j, os, rfl, hos, hr, hbw⟩ := hrel
    obtain ⟨e1, e2, e3, e4, e5⟩ := hr.out
    obtain ⟨oa, oc, rfl⟩ := hos.shape
    clear ho
    cases R with
    | nil =>
      have hk : ¬ (j : Int) < (slen F : Int) := by simp only [slen] at e1; omega
      have E := hid (show os = nmA k F out from e4)
      clear hr e4
      go_wp2
      go_ret
      exact ⟨_, rfl, by rw [← E.out]; exact hos, hbw⟩
    | node p q h l r =>
      have hlt : (j : Int) < (slen F : Int) := by simp only [slen] at e1; omega
      have hne : ¬ F = .nil := by intro e; subst e; simp only [slen] at e1; omega
      obtain rfl : ao = some ⟨b, o, Option.none⟩ := hao.resolve_right hne
      have hsc0 := (SIn_node.1 e5).1
      have hr0 := (SIn_node.1 e5).2
      simp only [snodes] at e3
      simp only [sallE, List.length_append, hall_len] at e2
      have Hl := hid (Hih.out l (by omega))
      have HOS := hid hos
      have Hsc := hid hsc0
      have He : Hid (j + 1 + slen r = slen F ∧ snodes r ≤ snodes F ∧ SIn w 0 r b (o + (j + 1) * 19) ∧ os.length + (enodes h.x1.l + enodes h.x2.l + enodes h.x3.l + enodes h.x4.l + 4 + ((sallE l).length + (sallE r).length)) ≤ 10000000 ∧ os.length + (enodes h.x1.l + enodes h.x2.l + enodes h.x3.l + enodes h.x4.l + 4 + ((sallE l).length + (sallE r).length)) ≤ out.length + (sallE F).length ∧ snodes l ≤ 10000000 ∧ nmA k r (nmA k l (nmX k h.x4 (nmX k h.x3 (nmX k h.x2 (nmX k h.x1 os))))) = nmA k F out) :=
        ⟨by simp only [slen] at e1; omega, by omega, by rw [show o + (j + 1) * 19 = o + j * 19 + 19 by omega]; exact hr0, by omega, by omega, by omega, e4⟩
      clear hr e1 e2 e3 e4 e5 hin hne hao hos hr0 hsc0
      obtain ⟨a10, a11, a12, u1, a13, hu1⟩ := (XC.later (Hsc.out.2.2.1) hbw)
      have HU1 := hid hu1
      clear hu1
      go_wp2_with fail
      refine (l4Exp_is k h.x1 os _ _ u1 (by have := He.out.2.2.2.1; omega) HOS.out HU1.out).mono ?_
      rintro e wz1 ⟨z1, rfl, hz1, hb1⟩
      have bw1 := hbw.trans (hb1.mono hbw.size)
      have ln1 := nmX_len k h.x1 os
      have HZ1 := hid hz1
      obtain ⟨za1, zc1, rfl⟩ := hz1.shape
      clear hz1 hb1 a10 a11 a12 a13 hbw
      obtain ⟨a20, a21, a22, u2, a23, hu2⟩ := (XC.later (Hsc.out.2.2.2.1) bw1)
      have HU2 := hid hu2
      clear hu2
      go_wp2_with fail
      refine (l4Exp_is k h.x2 (nmX k h.x1 os) _ _ u2 (by have := He.out.2.2.2.1; omega) HZ1.out HU2.out).mono ?_
      rintro e wz2 ⟨z2, rfl, hz2, hb2⟩
      have bw2 := bw1.trans (hb2.mono bw1.size)
      have ln2 := nmX_len k h.x2 (nmX k h.x1 os)
      have HZ2 := hid hz2
      obtain ⟨za2, zc2, rfl⟩ := hz2.shape
      clear hz2 hb2 a20 a21 a22 a23 bw1
      obtain ⟨a30, a31, a32, u3, a33, hu3⟩ := (XC.later (Hsc.out.2.2.2.2.1) bw2)
      have HU3 := hid hu3
      clear hu3
      go_wp2_with fail
      refine (l4Exp_is k h.x3 (nmX k h.x2 (nmX k h.x1 os)) _ _ u3 (by have := He.out.2.2.2.1; omega) HZ2.out HU3.out).mono ?_
      rintro e wz3 ⟨z3, rfl, hz3, hb3⟩
      have bw3 := bw2.trans (hb3.mono bw2.size)
      have ln3 := nmX_len k h.x3 (nmX k h.x2 (nmX k h.x1 os))
      have HZ3 := hid hz3
      obtain ⟨za3, zc3, rfl⟩ := hz3.shape
      clear hz3 hb3 a30 a31 a32 a33 bw2
      obtain ⟨a40, a41, a42, u4, a43, hu4⟩ := (XC.later (Hsc.out.2.2.2.2.2.1) bw3)
      have HU4 := hid hu4
      clear hu4
      go_wp2_with fail
      refine (l4Exp_is k h.x4 (nmX k h.x3 (nmX k h.x2 (nmX k h.x1 os))) _ _ u4 (by have := He.out.2.2.2.1; omega) HZ3.out HU4.out).mono ?_
      rintro e wz4 ⟨z4, rfl, hz4, hb4⟩
      have bw4 := bw3.trans (hb4.mono bw3.size)
      have ln4 := nmX_len k h.x4 (nmX k h.x3 (nmX k h.x2 (nmX k h.x1 os)))
      have HZ4 := hid hz4
      obtain ⟨za4, zc4, rfl⟩ := hz4.shape
      clear hz4 hb4 a40 a41 a42 a43 bw3
      obtain ⟨_, _, _, _, _, _, u5, c18, hu5⟩ := SC.later Hsc.out bw4
      have HU5 := hid hu5
      clear hu5
      go_wp2_with fail
      refine (Hl.out (nmX k h.x4 (nmX k h.x3 (nmX k h.x2 (nmX k h.x1 os)))) _ _ u5 (by have := He.out.2.2.2.1; omega) He.out.2.2.2.2.2.1 HZ4.out HU5.out).mono ?_
      rintro e w2 ⟨v2, rfl, hv2, hb2⟩
      have hbw2 := bw4.trans (hb2.mono bw4.size)
      have hl2 := nmA_lenE k l (nmX k h.x4 (nmX k h.x3 (nmX k h.x2 (nmX k h.x1 os))))
      have HV2 := hid hv2
      clear hv2 hb2 c18 bw4
      go_wp2
      go_roundw
      case rel =>
        have E := He.out
        exact ⟨r, j + 1, _, by go_num, HV2.out, ⟨E.1, by omega, E.2.1, E.2.2.2.2.2.2, E.2.2.1⟩, hbw2⟩
      case measure => simp [RowKit.intOf]; omega
theorem l4Exps_all (k : Int) : ∀ (n : Nat) (F : SF), snodes F < n → ∀ (out : List ByteArray) (w : World) (vo v : Value), out.length + (sallE F).length ≤ 10000000 → snodes F ≤ 10000000 → TV w 0 vo out → SV w 0 F v → Calls Tryz.prog 88 #[vo, v, .int .i64 k] w fun e w' => ∃ v', e = .returned v' ∧ TV w' 0 v' (nmA k F out) ∧ Below w.heap.size w w'
  | 0, _, h, _, _, _, _, _, _, _, _ => absurd h (by omega)
  | n + 1, F, h, out, w, vo, v, hN, hM, ho, hv => l4Exps_step k F (fun l hl out w vo v hN hM ho hv => l4Exps_all k n l (by omega) out w vo v hN hM ho hv) out w vo v hN hM ho hv
set_option maxRecDepth 100000 in
theorem spec_AskedE (F : SF) (hE : (sallE F).length ≤ 10000000) (hF : snodes F ≤ 10000000) (w : World) (v : Value) (hv : SV w 0 F v) : Calls Tryz.prog 90 #[v] w (SpecNames w (nmA 2 F [])) := by
  have C := hid (l4Exps_all 2 _ F (Nat.lt_succ_self _) [] (w.alloc (.cells #[] 9)) _ v (by simpa using hE) hF (empty_row w) (hv.later (alloc_below _ _)))
  go_enter Tryz.func90, Tryz.ntmps90
  go_wp2_with fail
  refine C.out.mono ?_
  rintro e w1 ⟨v1, rfl, hv1, hb1⟩
  have B := hid (And.intro hv1 (below_alloc hb1))
  clear hv1 hb1
  go_wp2
  go_ret
  exact ⟨_, rfl, B.out.1, B.out.2⟩
end Go.Proofs.YtfoghiminlbdaaaGreat
