import Derived.Test.YtpinockfakndlaaGreatP26ofFnEvals
import Derived.OneCell
import Derived.Test.YtpinockfakndlaaGreatP22ofFnEvals
import Derived.Test.YtpinockfakndlaaGreatP19ofFnEvals
set_option maxHeartbeats 2000000
set_option maxRecDepth 100000
namespace Go.Proofs.YtpinockfakndlaaGreat
open Go.RowKit Go.Lib Go.Maps Go.Sort Go.WideMaps
set_option linter.unusedSimpArgs false
set_option linter.unusedVariables false
theorem keyLaw : Keyed Tryz.prog 9 := string_keyed Tryz.underlying9
theorem zeroInt (w : World) : (zeroValue 3).run Tryz.prog w = .ok (.int .i64 0) w := by kernel_rfl
abbrev OwnM (w : World) (b n : Nat) (D : DataW Unit) : Prop := w.ownsMap Tryz.prog 9 (plainElem Tryz.prog 3) b n D
abbrev MapAt (w : World) (b mb : Nat) : Prop := w.heap[b]? = some (.cells #[.map (some mb)] 92 (0, 0))
theorem OwnM.block {w w' : World} {b n : Nat} {D : DataW Unit} (h : OwnM w b n D) (e : w'.heap[b]? = w.heap[b]?) : OwnM w' b n D := by
  obtain ⟨es, clock, hb, F, hs, hD⟩ := h
  exact ⟨es, clock, e.trans hb, F, hs, hD⟩
abbrev NumIn (w : World) (b : Nat) (c : Int) : Prop := w.heap[b]? = some (.cells #[.int .i64 c] 3 (0, 0))
theorem gap_map {w w1 : World} {o : Obj} {mb : Nat} (hm : mb < w.heap.size) (hg : (w.alloc o).grownBy w1 (some mb)) : Gap mb (mb + 1) w w1 := by
  obtain ⟨h1, h2, h3, h4, h5⟩ := hg
  refine ⟨h1, h2, h3, Nat.le_trans (by simp) h4, fun k hk hc => ?_⟩
  rw [h5 k (by simp; omega) (by simp; omega), Below.heap_alloc _ _ _ hk]
theorem kindHit (h : SH) (v1 v2 v3 v4 v : Value) (w : World) (kb nb mb n : Nat) (D : DataW Unit) (hk : NumIn w kb h.k) (hn : MapAt w nb mb) (hown : OwnM w mb n D) (hnn : n < 10000000) (hs : h.s.size ≤ 10000000) :
    Calls Tryz.prog 105 #[sagg h v1 v2 v3 v4 v, .pointer (some ⟨kb, 0, Option.none⟩), .pointer (some ⟨nb, 0, Option.none⟩)] w fun e w' => e = .returned (.tuple #[]) ∧ (∃ d, OwnM w' mb (n + 1) (D.put (.string h.s.data.toList) d)) ∧ Gap mb (mb + 1) w w' := by
  have c1 : ∀ o, (w.alloc o).cell? ⟨kb, 0, Option.none⟩ = some (.int .i64 h.k) := fun o => cell_of_one ((Below.heap_alloc _ _ kb (lt_of_block hk)).trans hk)
  have c2 : ∀ o, (w.alloc o).cell? ⟨nb, 0, Option.none⟩ = some (.map (some mb)) := fun o => cell_of_one ((Below.heap_alloc _ _ nb (lt_of_block hn)).trans hn)
  have hlt := hown.lt
  have hkey : keyOf Tryz.prog 9 (.string h.s) = some (.string h.s.data.toList) := keyOf_string_mk Tryz.underlying9 (by unfold maxLen; omega)
  have hown1 := hown.alloc (.cells (sarr h v1 v2 v3 v4 v) 98)
  obtain ⟨c, hrun, hat, _⟩ := hown1.lookup_int keyLaw Tryz.underlying92 Tryz.underlying3 (zeroInt _) hkey
  have HO := hid hown1
  have Hlt := hid hlt
  clear hk hn hown hat hown1 hlt
  go_enter Tryz.func105, Tryz.ntmps105
  go_wp2_with (first
    | (at_mapUpdate; refine wpList_mapUpdate_own _ rfl _ _ _ 92 rfl 9 3 keyLaw Tryz.underlying92 _ mb n _ rfl HO.out (by unfold maxLen; omega) _ _ _ rfl rfl hkey _ [] (plainElem_int Tryz.underlying3 (wrap64_wf _)) ?_)
    | go_in)
  intro w1 ho1 hg1
  have G := hid (And.intro (Exists.intro (p := fun d => OwnM w1 mb (n + 1) (D.put (.string h.s.data.toList) d)) _ ho1) (gap_map Hlt.out hg1))
  clear ho1 hg1 hrun c1 c2
  go_wp2
  go_end0
  exact ⟨rfl, G.out.1, G.out.2⟩
theorem kindMiss (h : SH) (v1 v2 v3 v4 v : Value) (w : World) (kb : Nat) (nb : Nat) (k : Int) (hk : NumIn w kb k) (hne : ¬ h.k = k) :
    Calls Tryz.prog 105 #[sagg h v1 v2 v3 v4 v, .pointer (some ⟨kb, 0, Option.none⟩), .pointer (some ⟨nb, 0, Option.none⟩)] w fun e w' => e = .returned (.tuple #[]) ∧ Below w.heap.size w w' := by
  have c1 : ∀ o, (w.alloc o).cell? ⟨kb, 0, Option.none⟩ = some (.int .i64 k) := fun o => cell_of_one ((Below.heap_alloc _ _ kb (lt_of_block hk)).trans hk)
  have h1 := int_ne hne
  have B := hid (fun o => aB w o)
  clear hk
  go_enter Tryz.func105, Tryz.ntmps105
  go_wp2
  go_end0
  exact ⟨rfl, B.out _⟩
def KM {α : Type} (P : α → Option ByteArray) (vs : List α) (D : DataW Unit) : Prop := ∀ x : List UInt8, has D (.string x) = true ↔ ∃ n ∈ vs, ∃ s, P n = some s ∧ s.data.toList = x
theorem KM.hit {α : Type} {P : α → Option ByteArray} {vs : List α} {D : DataW Unit} {d : DataW Unit} {a : α} {s : ByteArray} (h : KM P vs D) (hD : IsMap D) (ha : P a = some s) : KM P (vs ++ [a]) (D.put (.string s.data.toList) d) := fun x => by
  by_cases hx : x = s.data.toList
  · subst hx
    rw [has_put_same hD (by exact ⟨⟩)]
    simp only [true_iff]
    exact ⟨a, by simp, s, ha, rfl⟩
  · rw [has_put_other (by intro e; injection e with e; exact hx e), h x]
    constructor
    · rintro ⟨n, hn, s', h1, h2⟩; exact ⟨n, by simp [hn], s', h1, h2⟩
    · rintro ⟨n, hn, s', h1, h2⟩
      rcases List.mem_append.1 hn with hn | hn
      · exact ⟨n, hn, s', h1, h2⟩
      · simp only [List.mem_cons, List.not_mem_nil, or_false] at hn
        subst hn
        rw [ha] at h1; injection h1 with h1; subst h1
        exact absurd h2.symm hx
theorem KM.miss {α : Type} {P : α → Option ByteArray} {vs : List α} {D : DataW Unit} {a : α} (h : KM P vs D) (ha : P a = Option.none) : KM P (vs ++ [a]) D := fun x => by
  rw [h x]
  constructor
  · rintro ⟨n, hn, s', h1, h2⟩; exact ⟨n, by simp [hn], s', h1, h2⟩
  · rintro ⟨n, hn, s', h1, h2⟩
    rcases List.mem_append.1 hn with hn | hn
    · exact ⟨n, hn, s', h1, h2⟩
    · simp only [List.mem_cons, List.not_mem_nil, or_false] at hn
      subst hn; rw [ha] at h1; cases h1
theorem own_keys {D : DataW Unit} {w : World} {b n : Nat} (ho : OwnM w b n D) : ∀ x, x ∈ strKeys D ↔ has D (.string x) = true := by
  obtain ⟨es, rfl, hpw⟩ := ho.tidy keyLaw
  obtain ⟨es', e, hko⟩ := ho.keysOf
  injection e with e
  subst e
  have hstr : ∀ p ∈ es, ∃ x, p.1 = Lit.string x := fun p hpm => by
    obtain ⟨key, hk⟩ := hko p hpm
    obtain ⟨x, _, hx, _⟩ := Maps.keyOf_str Tryz.underlying9 hk
    exact ⟨x, hx⟩
  intro x
  rw [has_eq, List.any_eq_true]
  show x ∈ es.map (fun p => strOf p.1) ↔ _
  rw [List.mem_map]
  constructor
  · rintro ⟨p, hp1, hp2⟩
    obtain ⟨y, hy⟩ := hstr p hp1
    refine ⟨p, hp1, ?_⟩
    rw [hy] at hp2 ⊢
    have : y = x := hp2
    subst this
    exact WideAt.sameKey_self (by exact ⟨⟩)
  · rintro ⟨p, hp1, hp2⟩
    exact ⟨p, hp1, by rw [WideAt.sameKey_eq hp2]; rfl⟩
theorem KM.names {α : Type} {P : α → Option ByteArray} {vs : List α} {D : DataW Unit} {w : World} {b n : Nat} {ss : List (List UInt8)} (h : KM P vs D) (ho : OwnM w b n D) (hp : ss.Perm (strKeys D)) : Asc (mapNames ss) ∧ ∀ s, s ∈ mapNames ss ↔ ∃ a ∈ vs, P a = some s := by
  obtain ⟨es, rfl, hpw⟩ := ho.tidy keyLaw
  obtain ⟨es', e, hko⟩ := ho.keysOf
  injection e with e
  subst e
  have hstr : ∀ p ∈ es, ∃ x, p.1 = Lit.string x := fun p hpm => by
    obtain ⟨key, hk⟩ := hko p hpm
    obtain ⟨x, _, hx, _⟩ := Maps.keyOf_str Tryz.underlying9 hk
    exact ⟨x, hx⟩
  have hmem : ∀ x, x ∈ strKeys (.map es : DataW Unit) ↔ has (.map es) (.string x) = true := fun x => by
    rw [has_eq, List.any_eq_true]
    show x ∈ es.map (fun p => strOf p.1) ↔ _
    rw [List.mem_map]
    constructor
    · rintro ⟨p, hp1, hp2⟩
      obtain ⟨y, hy⟩ := hstr p hp1
      refine ⟨p, hp1, ?_⟩
      rw [hy] at hp2 ⊢
      have : y = x := hp2
      subst this
      exact WideAt.sameKey_self (by exact ⟨⟩)
    · rintro ⟨p, hp1, hp2⟩
      exact ⟨p, hp1, by rw [WideAt.sameKey_eq hp2]; rfl⟩
  have hnd : ss.Nodup := hp.symm.nodup (by
    show (es.map fun p => strOf p.1).Nodup
    refine List.pairwise_map.2 (hpw.imp_of_mem fun {p q} hp' hq' hne e => hne ?_)
    obtain ⟨a, ha⟩ := hstr p hp'
    obtain ⟨b, hb⟩ := hstr q hq'
    rw [ha, hb] at e ⊢
    exact congrArg _ e)
  have tr : ∀ a b c : List UInt8, leB a b = true → leB b c = true → leB a c = true := fun a b c h1 h2 => by simp only [leB, decide_eq_true_eq] at *; exact List.le_trans h1 h2
  have tot : ∀ a b : List UInt8, (leB a b || leB b a) = true := fun a b => by simp only [leB, Bool.or_eq_true, decide_eq_true_eq]; exact List.le_total a b
  have hsorted := List.pairwise_mergeSort tr tot ss
  have hnd2 : (ss.mergeSort leB).Nodup := (List.mergeSort_perm ss leB).symm.nodup hnd
  constructor
  · show ((ss.mergeSort leB).map fun l => (⟨l.toArray⟩ : ByteArray)).Pairwise _
    refine List.pairwise_map.2 ((hsorted.and hnd2).imp fun {a b} ⟨h1, h2⟩ => ?_)
    rw [blt_iff]
    simp only [leB, decide_eq_true_eq] at h1
    rcases List.le_iff_lt_or_eq.1 h1 with h3 | h3
    · simpa using h3
    · exact absurd h3 h2
  · intro s
    show s ∈ ((ss.mergeSort leB).map fun l => (⟨l.toArray⟩ : ByteArray)) ↔ _
    rw [List.mem_map]
    constructor
    · rintro ⟨l, hl, rfl⟩
      have := (hmem l).1 (hp.subset ((List.mergeSort_perm ss leB).subset hl))
      obtain ⟨a, ha, s', h1, h2⟩ := (h l).1 this
      refine ⟨a, ha, ?_⟩
      rw [h1]; congr 1
      exact ba_ext (by simpa using h2)
    · rintro ⟨a, ha, h1⟩
      refine ⟨s.data.toList, ?_, by simp⟩
      exact (List.mergeSort_perm ss leB).symm.subset (hp.symm.subset ((hmem _).2 ((h _).2 ⟨a, ha, s, h1, rfl⟩)))
def ofKind (k : Int) (n : SN) : Option ByteArray := if n.1.k = k then some n.1.s else Option.none
def KJ (N : Nat) (k : Int) (vs : List SN) (w' : World) : Prop := ∃ D, OwnM w' (N + 1) vs.length D ∧ KM (ofKind k) vs D ∧ NumIn w' N k ∧ MapAt w' (N + 2) (N + 1)
theorem KJ.quiet (N : Nat) (k : Int) : Quiet N (N + 3) (KJ N k) := fun vs w1 w2 ⟨D, h1, h2, h3, h4⟩ _ hk => ⟨D, h1.block (hk _ (by omega) (by omega)), h2, (hk _ (by omega) (by omega)).trans h3, (hk _ (by omega) (by omega)).trans h4⟩
theorem KJ.step (N : Nat) (k : Int) (vs : List SN) (h : SH) (l : SF) (v1 v2 v3 v4 u : Value) (w : World) (hj : KJ N k vs w) (hl : vs.length < 10000000) (hs : h.s.size ≤ 10000000) :
    Calls Tryz.prog 105 (#[sagg h v1 v2 v3 v4 u] ++ #[.pointer (some ⟨N, 0, Option.none⟩), .pointer (some ⟨N + 2, 0, Option.none⟩)]) w fun e w' => e = .returned (.tuple #[]) ∧ KJ N k (vs ++ [(h, l)]) w' ∧ Gap N (N + 3) w w' := by
  obtain ⟨D, h1, h2, h3, h4⟩ := hj
  by_cases hk : h.k = k
  · subst hk
    refine (kindHit h v1 v2 v3 v4 u w N (N + 2) (N + 1) vs.length D h3 h4 h1 hl hs).mono ?_
    rintro e w' ⟨rfl, ⟨d, ho⟩, hg⟩
    refine ⟨rfl, ⟨_, ?_, h2.hit (d := d) (s := h.s) (h1.tidy keyLaw).isMap (by simp [ofKind]), ?_, ?_⟩, hg.wider (by omega) (by omega)⟩
    · rw [List.length_append]; exact ho
    · exact (hg.block _ (lt_of_block h3) (by omega)).trans h3
    · exact (hg.block _ (lt_of_block h4) (by omega)).trans h4
  · refine (kindMiss h v1 v2 v3 v4 u w N (N + 2) k h3 hk).mono ?_
    rintro e w' ⟨rfl, hb⟩
    refine ⟨rfl, ⟨D, ?_, h2.miss (by simp [ofKind, hk]), ?_, ?_⟩, Gap.of _ _ hb⟩
    · rw [List.length_append]; exact OwnM.block (World.ownsMap.mono h1 (Nat.le_succ _)) (hb.block _ h1.lt)
    · exact (hb.block _ (lt_of_block h3)).trans h3
    · exact (hb.block _ (lt_of_block h4)).trans h4
theorem names_start (w : World) (k : Int) : KJ w.heap.size k [] (((w.alloc (.cells #[.int .i64 k] 3)).alloc (.map #[] 0)).alloc (.cells #[.map (some (w.heap.size + 1))] 92)) ∧
    Below w.heap.size w (((w.alloc (.cells #[.int .i64 k] 3)).alloc (.map #[] 0)).alloc (.cells #[.map (some (w.heap.size + 1))] 92)) := by
  obtain ⟨q0, q1, q2⟩ := heap3 w (.cells #[.int .i64 k] 3) (.map #[] 0) (.cells #[.map (some (w.heap.size + 1))] 92)
  have hb := ((aB w (.cells #[.int .i64 k] 3)).alloc (by simp) (.map #[] 0)).alloc (by simp; omega) (.cells #[.map (some (w.heap.size + 1))] 92)
  refine ⟨⟨.map [], ?_, fun x => by simp [has], q0, q2⟩, hb⟩
  have h := World.ownsMap_made (H := Unit) (w.alloc (.cells #[.int .i64 k] 3)) Tryz.prog 9 (plainElem Tryz.prog 3)
  rw [World.size_alloc] at h
  exact h.alloc _
theorem namesOfKind_is (F : SF) (hF : snodes F ≤ 10000000) (hs : ∀ n ∈ sall F, n.1.s.size ≤ 10000000) (k : Int) (w : World) (v : Value) (hv : SV w 0 F v) :
    Calls Tryz.prog 54 #[v, .int .i64 k] w fun e w' => ∃ v' ns, e = .returned v' ∧ Asc ns ∧ (∀ s, s ∈ ns ↔ ∃ a ∈ sall F, ofKind k a = some s) ∧ ns.length ≤ 10000000 ∧ w'.ownsRow w.heap.size 9 1 v' ns.length (ns.map Value.string) ∧ Below w.heap.size w w' := by
  have hmf : ∀ (fn : Fn) (first cap : Array Value) (w : World), (Instr.makeFunc fn first cap).run Tryz.prog w = .ok (.func fn first cap) w := fun _ _ _ _ => rfl
  have hmm := @run_makeMap Tryz.prog
  obtain ⟨j0, b0⟩ := names_start w k
  have N0 := hid (And.intro j0 b0)
  clear j0 b0
  have Hs := hid hs
  have Hv := hid (fun (W : World) (hJ : KJ w.heap.size k [] W) (hb : Below w.heap.size w W) (hW : w.heap.size + 3 ≤ W.heap.size) =>
    visitAllS_is F hF w W hb w.heap.size (w.heap.size + 3) (Nat.le_refl _) hW v hv 105 (fun _ _ => rfl) #[.pointer (some ⟨w.heap.size, 0, Option.none⟩), .pointer (some ⟨w.heap.size + 2, 0, Option.none⟩)] (KJ w.heap.size k)
      (KJ.quiet _ _) hJ (fun vs h l v1 v2 v3 v4 u w1 hj _ _ _ _ hm hl => KJ.step _ _ vs h l v1 v2 v3 v4 u w1 hj (by omega) (Hs.out _ hm)))
  clear hs
  go_enter Tryz.func54, Tryz.ntmps54
  go_wp2_with fail
  refine (Hv.out _ N0.out.1 N0.out.2 (by simp)).mono ?_
  rintro e w1 ⟨rfl, ⟨vs, ⟨D, ho, hk, _, hm⟩, hp⟩, hg⟩
  have hB1 := hid (N0.out.2.trans (hg.below (Nat.le_refl _) N0.out.2.size))
  have hcell := cell_of_one hm
  have hvl : vs.length ≤ 10000000 := by rw [hp.length_eq, sall_len]; exact hF
  have HD := hid (And.intro ho (And.intro hk hp))
  have hsz : Maps.size D ≤ 10000000 := Nat.le_trans ho.size_le hvl
  have hsm : ∀ x ∈ strKeys D, x.length ≤ 10000000 := fun x hx => by
    obtain ⟨n, hn, s, h1, h2⟩ := (hk x).1 ((own_keys ho x).1 hx)
    have h3 := Hs.out n (hp.subset hn)
    unfold ofKind at h1
    split at h1
    · injection h1 with h1; subst h1; subst h2; exact h3
    · cases h1
  have HS := hid (And.intro hsz hsm)
  clear ho hk hm hp hg N0 Hv Hs hsz hsm
  go_wp2_with fail
  refine (ascending_is _ _ D w1 HD.out.1 HS.out.1 HS.out.2).mono ?_
  rintro e w2 ⟨v', ss, rfl, hperm, hrow, hb2⟩
  have hB2 := hB1.out.trans (hb2.mono hB1.out.size)
  obtain ⟨a1, a2⟩ := HD.out.2.1.names HD.out.1 hperm
  have hlen : (mapNames ss).length ≤ 10000000 := by rw [mapNames_len, hperm.length_eq]; refine Nat.le_trans ?_ HS.out.1; cases D <;> simp [strKeys, Maps.size]
  have R := hid (And.intro a1 (And.intro (show ∀ s, s ∈ mapNames ss ↔ ∃ a ∈ sall F, ofKind k a = some s from fun s => (a2 s).trans ⟨fun ⟨a, h1, h2⟩ => ⟨a, HD.out.2.2.subset h1, h2⟩, fun ⟨a, h1, h2⟩ => ⟨a, HD.out.2.2.symm.subset h1, h2⟩⟩) (And.intro hlen (And.intro (ownsRow_base_a hrow hB1.out.size) hB2))))
  clear a1 a2 hlen hrow hb2 hB2 hperm hcell
  go_wp2
  go_ret
  exact ⟨_, mapNames ss, rfl, R.out.1, R.out.2.1, R.out.2.2.1, R.out.2.2.2.1, R.out.2.2.2.2⟩
end Go.Proofs.YtpinockfakndlaaGreat
namespace Go.Proofs.YtpinockfakndlaaGreat
open Go.RowKit Go.Lib
set_option linter.unusedSimpArgs false
set_option linter.unusedVariables false
theorem nmS_names (k : Int) : ∀ (F : SF) (out : List ByteArray), Asc out → Asc (nmS k F out) ∧ ∀ s, s ∈ nmS k F out ↔ (s ∈ out ∨ ∃ a ∈ sall F, ofKind k a = some s)
  | .nil, out, h => ⟨h, fun s => by simp [nmS, sall]⟩
  | .node p q h l r, out, ho => by
    have hput : Asc (if h.k = k then putR h.s false out else out) ∧ ∀ s, s ∈ (if h.k = k then putR h.s false out else out) ↔ (s ∈ out ∨ ofKind k (h, l) = some s) := by
      by_cases hk : h.k = k
      · rw [if_pos hk]
        obtain ⟨i1, i2⟩ := asc_put h.s out ho
        refine ⟨i1, fun s => ?_⟩
        rw [i2 s]
        simp only [ofKind, if_pos hk, Option.some.injEq]
        constructor
        · rintro (e | e)
          · exact .inr e.symm
          · exact .inl e
        · rintro (e | e)
          · exact .inr e
          · exact .inl e.symm
      · rw [if_neg hk]
        refine ⟨ho, fun s => ?_⟩
        simp [ofKind, if_neg hk]
    obtain ⟨l1, l2⟩ := nmS_names k l _ hput.1
    obtain ⟨r1, r2⟩ := nmS_names k r _ l1
    refine ⟨r1, fun s => ?_⟩
    show s ∈ nmS k r (nmS k l _) ↔ _
    rw [r2 s, l2 s, hput.2 s]
    simp only [sall, List.mem_cons, List.mem_append]
    constructor
    · rintro (((e | e) | ⟨a, h1, h2⟩) | ⟨a, h1, h2⟩)
      · exact .inl e
      · exact .inr ⟨_, .inl rfl, e⟩
      · exact .inr ⟨a, .inr (.inl h1), h2⟩
      · exact .inr ⟨a, .inr (.inr h1), h2⟩
    · rintro (e | ⟨a, (rfl | h1 | h1), h2⟩)
      · exact .inl (.inl (.inl e))
      · exact .inl (.inl (.inr h2))
      · exact .inl (.inr ⟨a, h1, h2⟩)
      · exact .inr ⟨a, h1, h2⟩
theorem nmS_len (k : Int) : ∀ (F : SF) (out : List ByteArray), (nmS k F out).length ≤ out.length + snodes F
  | .nil, out => by simp [nmS, snodes]
  | .node p q h l r, out => by
    have h0 : (if h.k = k then putR h.s false out else out).length ≤ out.length + 1 := by split; exact putR_len _ _ _; omega
    have h1 := nmS_len k l (if h.k = k then putR h.s false out else out)
    have h2 := nmS_len k r (nmS k l (if h.k = k then putR h.s false out else out))
    simp only [nmS, snodes]; omega
theorem l4Names_step (k : Int) (F : SF)
    (ih : ∀ l : SF, snodes l < snodes F → ∀ (out : List ByteArray) (w : World) (vo v : Value), out.length + snodes l ≤ 10000000 → TV w 0 vo out → SV w 0 l v → Calls Tryz.prog 64 #[vo, v, .int .i64 k] w fun e w' => ∃ v', e = .returned v' ∧ TV w' 0 v' (nmS k l out) ∧ Below w.heap.size w w')
    (out : List ByteArray) (w : World) (vo v : Value) (hN : out.length + snodes F ≤ 10000000) (ho : TV w 0 vo out) (hv : SV w 0 F v) :
    Calls Tryz.prog 64 #[vo, v, .int .i64 k] w fun e w' => ∃ v', e = .returned v' ∧ TV w' 0 v' (nmS k F out) ∧ Below w.heap.size w w' := by
  obtain ⟨b, o, ao, cap, rfl, hao, _, hin⟩ := hv
  have Hih := hid ih
  have hlenF := slen_le F
  clear ih
  go_enter Tryz.func64, Tryz.ntmps64
  go_wp2
  go_loopw [0, 7] (fun x i wr => ∃ (R : SF) (j : Nat) (os : List ByteArray), i = .int .i64 (j : Int) ∧ TV wr 0 x os ∧ Hid (j + slen R = slen F ∧ os.length + snodes R ≤ out.length + snodes F ∧ snodes R ≤ snodes F ∧ nmS k R os = nmS k F out ∧ SIn w 0 R b (o + j * 19)) ∧ Below w.heap.size w wr) (fun _ i _ => slen F - (RowKit.intOf i).toNat)
  case atStart => exact ⟨F, 0, out, rfl, ho, ⟨by omega, by omega, by omega, rfl, by simpa using hin⟩, Below.refl _ _⟩
  case round =>
    obtain ⟨R, j, os, rfl, hos, hr, hbw⟩ := hrel
    obtain ⟨e1, e2, e3, e4, e5⟩ := hr.out
    obtain ⟨oa, oc, rfl⟩ := hos.shape
    clear ho
    cases R with
    | nil =>
      have hk : ¬ (j : Int) < (slen F : Int) := by simp only [slen] at e1; omega
      have E := hid (show os = nmS k F out from e4)
      clear hr e4
      go_wp2
      go_ret
      exact ⟨_, rfl, by rw [← E.out]; exact hos, hbw⟩
    | node p q h l r =>
      have hlt : (j : Int) < (slen F : Int) := by simp only [slen] at e1; omega
      have hne : ¬ F = .nil := by intro e; subst e; simp only [slen] at e1; omega
      obtain rfl : ao = some ⟨b, o, Option.none⟩ := hao.resolve_right hne
      have hsc0 := (SIn_node.1 e5).1
      have hr0 := (SIn_node.1 e5).2
      obtain ⟨c0, c1, _, _, _, _, u, c18, hu⟩ := SC.later hsc0 hbw
      simp only [snodes] at e2 e3
      have Hl := hid (Hih.out l (by omega))
      have HU := hid (And.intro hu hos)
      have Hsc := hid hsc0
      have He : Hid (j + 1 + slen r = slen F ∧ snodes r ≤ snodes F ∧ SIn w 0 r b (o + (j + 1) * 19) ∧ os.length + (snodes l + snodes r + 1) ≤ out.length + snodes F ∧ nmS k r (nmS k l (if h.k = k then putR h.s false os else os)) = nmS k F out) :=
        ⟨by simp only [slen] at e1; omega, by omega, by rw [show o + (j + 1) * 19 = o + j * 19 + 19 by omega]; exact hr0, by omega, e4⟩
      clear hr e1 e2 e3 e4 e5 hin hne hao hu hos hr0 hsc0
      by_cases hk : h.k = k
      · have Hk : Hid ((if h.k = k then putR h.s false os else os) = putR h.s false os) := if_pos hk
        subst hk
        go_wp2_with fail
        refine (l4Put_is os (by have := He.out; omega) h.s _ _ HU.out.2).mono ?_
        rintro e w1 ⟨v1, rfl, hv1, hb1⟩
        have hbw1 := hbw.trans (hb1.mono hbw.size)
        obtain ⟨_, _, _, _, _, _, u', c18', hu'⟩ := SC.later Hsc.out hbw1
        have hl1 := putR_len h.s false os
        have HV1 := hid (And.intro hv1.low hu')
        obtain ⟨x1, y1, rfl⟩ := hv1.shape
        clear hv1 hb1 hu' c0 c1 c18 hbw
        go_wp2_with fail
        refine (Hl.out (putR h.s false os) _ _ _ (by have := He.out; omega) HV1.out.1 HV1.out.2).mono ?_
        rintro e w2 ⟨v2, rfl, hv2, hb2⟩
        have hbw2 := hbw1.trans (hb2.mono hbw1.size)
        have hl2 := nmS_len h.k l (putR h.s false os)
        have HV2 := hid hv2
        clear hv2 hb2 c18' hbw1
        go_wp2
        go_roundw
        case rel =>
          have E := He.out
          rw [Hk.out] at E
          exact ⟨r, j + 1, nmS h.k l (putR h.s false os), by go_num, HV2.out, ⟨E.1, by omega, E.2.1, E.2.2.2.2, E.2.2.1⟩, hbw2⟩
        case measure => simp [RowKit.intOf]; omega
      · have Hk : Hid ((if h.k = k then putR h.s false os else os) = os) := if_neg hk
        have hne := int_ne hk
        go_wp2_with fail
        refine (Hl.out os _ _ _ (by have := He.out; omega) HU.out.2 HU.out.1).mono ?_
        rintro e w2 ⟨v2, rfl, hv2, hb2⟩
        have hbw2 := hbw.trans (hb2.mono hbw.size)
        have hl2 := nmS_len k l os
        have HV2 := hid hv2
        clear hv2 hb2 c0 c1 c18 hbw
        go_wp2
        go_roundw
        case rel =>
          have E := He.out
          rw [Hk.out] at E
          exact ⟨r, j + 1, nmS k l os, by go_num, HV2.out, ⟨E.1, by omega, E.2.1, E.2.2.2.2, E.2.2.1⟩, hbw2⟩
        case measure => simp [RowKit.intOf]; omega
theorem l4Names_all (k : Int) : ∀ (n : Nat) (F : SF), snodes F < n → ∀ (out : List ByteArray) (w : World) (vo v : Value), out.length + snodes F ≤ 10000000 → TV w 0 vo out → SV w 0 F v → Calls Tryz.prog 64 #[vo, v, .int .i64 k] w fun e w' => ∃ v', e = .returned v' ∧ TV w' 0 v' (nmS k F out) ∧ Below w.heap.size w w'
  | 0, _, h, _, _, _, _, _, _, _ => absurd h (by omega)
  | n + 1, F, h, out, w, vo, v, hN, ho, hv => l4Names_step k F (fun l hl out w vo v hN ho hv => l4Names_all k n l (by omega) out w vo v hN ho hv) out w vo v hN ho hv
theorem l4Names_is (k : Int) (F : SF) (out : List ByteArray) (w : World) (vo v : Value) (hN : out.length + snodes F ≤ 10000000) (ho : TV w 0 vo out) (hv : SV w 0 F v) :
    Calls Tryz.prog 64 #[vo, v, .int .i64 k] w fun e w' => ∃ v', e = .returned v' ∧ TV w' 0 v' (nmS k F out) ∧ Below w.heap.size w w' := l4Names_all k _ F (Nat.lt_succ_self _) out w vo v hN ho hv
theorem sall_small : ∀ (F : SF) (n : SN), n ∈ sall F → n.1.s.size ≤ ssize F
  | .nil, n, h => by simp [sall] at h
  | .node _ _ h l r, n, hn => by
    simp only [sall, List.mem_cons, List.mem_append] at hn
    simp only [ssize, hsize]
    rcases hn with rfl | hn | hn
    · show h.s.size ≤ _; omega
    · have := sall_small l n hn; omega
    · have := sall_small r n hn; omega
theorem empty_row (w : World) : TV (w.alloc (.cells #[] 9)) 0 (.slice (some ⟨w.heap.size, 0, Option.none⟩) 0 0) [] := ⟨_, _, rfl, .inl rfl⟩
def GoodNames (w : World) (ns : List ByteArray) (e : Ending) (w' : World) : Prop := ∃ v', e = .returned v' ∧ w'.ownsRow w.heap.size 9 1 v' ns.length (ns.map Value.string) ∧ Below w.heap.size w w'
def SpecNames (w : World) (ns : List ByteArray) (e : Ending) (w' : World) : Prop := ∃ v', e = .returned v' ∧ TV w' 0 v' ns ∧ Below w.heap.size w w'
theorem names_same (k : Int) (F : SF) (ns : List ByteArray) (h1 : Asc ns) (h2 : ∀ s, s ∈ ns ↔ ∃ a ∈ sall F, ofKind k a = some s) : ns = nmS k F [] := by
  obtain ⟨a1, a2⟩ := nmS_names k F [] List.Pairwise.nil
  exact asc_ext h1 a1 (fun s => by rw [h2 s, a2 s]; simp)
theorem spec_VarsOf (F : SF) (hF : snodes F ≤ 10000000) (w : World) (v : Value) (hv : SV w 0 F v) : Calls Tryz.prog 35 #[v] w (SpecNames w (nmS 1 F [])) := by
  have C := hid (l4Names_is 1 F [] (w.alloc (.cells #[] 9)) _ v (by simpa using hF) (empty_row w) (hv.later (aB _ _)))
  go_enter Tryz.func35, Tryz.ntmps35
  go_wp2_with fail
  refine C.out.mono ?_
  rintro e w1 ⟨v1, rfl, hv1, hb1⟩
  have B := hid (And.intro hv1 (below_alloc hb1))
  clear hv1 hb1
  go_wp2
  go_ret
  exact ⟨_, rfl, B.out.1, B.out.2⟩
theorem impl_VarsOf (F : SF) (hF : snodes F ≤ 10000000) (hs : ∀ n ∈ sall F, n.1.s.size ≤ 10000000) (w : World) (v : Value) (hv : SV w 0 F v) : Calls Tryz.prog 26 #[v] w (GoodNames w (nmS 1 F [])) := by
  have C := hid (namesOfKind_is F hF hs 1 w v hv)
  go_enter Tryz.func26, Tryz.ntmps26
  go_wp2_with fail
  refine C.out.mono ?_
  rintro e w1 ⟨v1, ns, rfl, h1, h2, h3, h4, h5⟩
  have B := hid (And.intro (names_same 1 F ns h1 h2) (And.intro h4 h5))
  clear h1 h2 h3 h4 h5
  go_wp2
  go_ret
  exact ⟨_, rfl, by rw [← B.out.1]; exact B.out.2.1, B.out.2.2⟩
theorem spec_LoopVars (F : SF) (hF : snodes F ≤ 10000000) (w : World) (v : Value) (hv : SV w 0 F v) : Calls Tryz.prog 63 #[v] w (SpecNames w (nmS 3 F [])) := by
  have C := hid (l4Names_is 3 F [] (w.alloc (.cells #[] 9)) _ v (by simpa using hF) (empty_row w) (hv.later (aB _ _)))
  go_enter Tryz.func63, Tryz.ntmps63
  go_wp2_with fail
  refine C.out.mono ?_
  rintro e w1 ⟨v1, rfl, hv1, hb1⟩
  have B := hid (And.intro hv1 (below_alloc hb1))
  clear hv1 hb1
  go_wp2
  go_ret
  exact ⟨_, rfl, B.out.1, B.out.2⟩
def xall (x : X) : List EN := (x.h, x.l) :: enall x.l
def hall (h : SH) : List EN := xall h.x1 ++ (xall h.x2 ++ (xall h.x3 ++ xall h.x4))
def sallE : SF → List EN
  | .nil => []
  | .node _ _ h l r => hall h ++ (sallE l ++ sallE r)
theorem xall_len (x : X) : (xall x).length = enodes x.l + 1 := by simp [xall, enall_len]
theorem hall_len (h : SH) : (hall h).length = enodes h.x1.l + enodes h.x2.l + enodes h.x3.l + enodes h.x4.l + 4 := by
  simp only [hall, List.length_append, xall_len]; omega
theorem sallE_len : ∀ (F : SF), (sallE F).length ≤ 5 * ssize F
  | .nil => by simp [sallE, ssize]
  | .node _ _ h l r => by
    have := sallE_len l; have := sallE_len r
    have := enodes_le h.x1.l; have := enodes_le h.x2.l; have := enodes_le h.x3.l; have := enodes_le h.x4.l
    simp only [sallE, List.length_append, hall_len, ssize, hsize, xsize]; omega
theorem put_len (k : Int) (h : EH) (out : List ByteArray) : (if h.k = k then putR h.s false out else out).length ≤ out.length + 1 := by split; exact putR_len _ _ _; omega
theorem nmE_len (k : Int) : ∀ (F : EF) (out : List ByteArray), (nmE k F out).length ≤ out.length + enodes F
  | .nil, out => by simp [nmE, enodes]
  | .node p q h l r, out => by
    have h0 := put_len k h out
    have h1 := nmE_len k l (if h.k = k then putR h.s false out else out)
    have h2 := nmE_len k r (nmE k l (if h.k = k then putR h.s false out else out))
    simp only [nmE, enodes]; omega
theorem nmX_len (k : Int) (x : X) (out : List ByteArray) : (nmX k x out).length ≤ out.length + enodes x.l + 1 := by
  have h0 := put_len k x.h out
  have h1 := nmE_len k x.l (if x.h.k = k then putR x.h.s false out else out)
  unfold nmX; omega
theorem nmA_lenE (k : Int) : ∀ (F : SF) (out : List ByteArray), (nmA k F out).length ≤ out.length + (sallE F).length
  | .nil, out => by simp [nmA, sallE]
  | .node p q h l r, out => by
    have h1 := nmX_len k h.x1 out
    have h2 := nmX_len k h.x2 (nmX k h.x1 out)
    have h3 := nmX_len k h.x3 (nmX k h.x2 (nmX k h.x1 out))
    have h4 := nmX_len k h.x4 (nmX k h.x3 (nmX k h.x2 (nmX k h.x1 out)))
    have h5 := nmA_lenE k l (nmX k h.x4 (nmX k h.x3 (nmX k h.x2 (nmX k h.x1 out))))
    have h6 := nmA_lenE k r (nmA k l (nmX k h.x4 (nmX k h.x3 (nmX k h.x2 (nmX k h.x1 out)))))
    have h7 := hall_len h
    simp only [nmA, sallE, List.length_append]; omega
end Go.Proofs.YtpinockfakndlaaGreat
