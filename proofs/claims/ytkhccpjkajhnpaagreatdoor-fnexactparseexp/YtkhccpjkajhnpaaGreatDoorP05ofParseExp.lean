/-
  Texts in one: TokLex, TokLaws, AstEq, AstEqS, AstSameP.
-/
import Derived.Test.YtkhccpjkajhnpaaGreatDoorP04ofParseExp
import Derived.OwnWalk
import Derived.Deep.RegionWith
import Derived.Deep.Cut
import Derived.Deep.CutRange
import Derived.Test.YtkhccpjkajhnpaaGreatDoorP02ofParseExp
import Derived.Deep.RegionHeld
/-
  The contract of the landed code's Lex.
-/
namespace Go.Proofs.YtkhccpjkajhnpaaGreatDoor
open Go.RowKit Go.Lib
set_option linter.unusedSimpArgs false

def cells3 (t : T) : List Value := [.int .i64 t.k, .string ⟨t.s.toArray⟩, .int .i64 t.n]
def cellsOf (ts : List T) : List Value := ts.flatMap cells3
theorem cellsOf_snoc (ts : List T) (t : T) : cellsOf (ts ++ [t]) = cellsOf ts ++ cells3 t := by simp [cellsOf]
theorem cellsOf_length (ts : List T) : (cellsOf ts).length = ts.length * 3 := by
  induction ts with
  | nil => rfl
  | cons t ts ih => simp only [cellsOf, List.flatMap_cons, List.length_append, List.length_cons] at ih ⊢; rw [ih]; simp [cells3]; omega
/-- A row that the call owns stands while nothing turns its block. -/
theorem own_later {w w' : World} {B sz n : Nat} {e : TypeId} {v : Value} {xs : List Value} (h : w.ownsRow B e sz v n xs) (hk : ∀ g c, B ≤ g → w.heap[g]? = some (.cells c e (0, 0)) → w'.heap[g]? = w.heap[g]?) : w'.ownsRow B e sz v n xs := by
  refine ⟨h.1, ?_⟩
  rcases h.2 with h0 | ⟨g, cap, cur, h1, h2, h3, h4⟩
  · exact .inl h0
  · exact .inr ⟨g, cap, cur, h1, h2, (hk g cur h2 h3).trans h3, h4⟩
theorem lt_of_heap {w : World} {g : Nat} {o : Obj} (h : w.heap[g]? = some o) : g < w.heap.size := (Array.getElem?_eq_some_iff.1 h).1
theorem own_below {w w' : World} {B sz n : Nat} {e : TypeId} {v : Value} {xs : List Value} (h : w.ownsRow B e sz v n xs) (hb : Below w.heap.size w w') : w'.ownsRow B e sz v n xs :=
  own_later h fun g _ _ hg => hb.block g (lt_of_heap hg)
theorem own_iter {w : World} {B sz n I p q : Nat} {s : ByteArray} {e : TypeId} {v : Value} {xs : List Value} (h : w.ownsRow B e sz v n xs) (hit : w.heap[I]? = some (.stringIter s p)) : (w.iterAt I s q).ownsRow B e sz v n xs :=
  own_later h fun g c _ hg => by
    have hne : g ≠ I := by intro e; subst e; rw [hit] at hg; cases hg
    exact Lib.iterAt_other w I g s q hne
theorem own_shape {w : World} {B sz n : Nat} {e : TypeId} {v : Value} {xs : List Value} (h : w.ownsRow B e sz v n xs) : ∃ ao cap, v = .slice ao n cap := by
  rcases h.2 with ⟨h0, rfl⟩ | ⟨g, cap, cur, h1, _⟩
  · exact ⟨_, _, h0⟩
  · exact ⟨_, _, h1⟩
theorem own_apart {w : World} {B sz n I p : Nat} {s : ByteArray} {e : TypeId} {v : Value} {xs : List Value} (h : w.ownsRow B e sz v n xs) (hit : w.heap[I]? = some (.stringIter s p)) : some I ≠ v.ownBlock := by
  rcases h.2 with ⟨h0, rfl⟩ | ⟨g, cap, cur, h1, _, h3, _⟩
  · subst h0; intro e; cases e
  · subst h1; intro e; injection e with e; subst e; rw [hit] at h3; cases h3
theorem below_keeps {w w' : World} {I : Nat} {o : Obj} (hb : Below w.heap.size w w') (h : w.heap[I]? = some o) : w'.heap[I]? = some o := (hb.block I (lt_of_heap h)).trans h
/-- What Lex answers: the signs in a row that the call has laid, and whether there are any to answer. -/
def LexOut (B : Nat) (w' : World) (o : Option (List T)) (e : Ending) : Prop :=
  ∃ v, e = .returned (.tuple #[v, .bool o.isSome]) ∧ w'.ownsRow B 86 3 v (o.getD []).length (cellsOf (o.getD []))
theorem infoTok : (Tryz.prog.info? 86).map (fun i => (i.zero, i.size, i.bytes)) = some (some (.agg #[.int .i64 0, .string ⟨#[]⟩, .int .i64 0]), 3, 32) := by kernel_rfl
theorem iterPos_of {w : World} {I p : Nat} {s : ByteArray} (h : w.heap[I]? = some (.stringIter s p)) : w.iterPos I = p := by simp only [World.iterPos, h]
theorem laid3L (w : World) (t : T) (N : Nat) (hN : w.heap.size = N) : ∀ j u, (cells3 t)[j]? = some u → (w.alloc (.cells #[.int .i64 t.k, .string ⟨t.s.toArray⟩, .int .i64 t.n] 86)).cell? ((⟨N, 0, Option.none⟩ : Addr).add j) = some u := by
  subst hN
  intro j u h
  have e : (w.alloc (.cells #[.int .i64 t.k, .string ⟨t.s.toArray⟩, .int .i64 t.n] 86)).heap[w.heap.size]? = some (.cells #[.int .i64 t.k, .string ⟨t.s.toArray⟩, .int .i64 t.n] 86 (0, 0)) := by
    show (w.heap.push _)[w.heap.size]? = _
    simp
  have e2 : ((⟨w.heap.size, 0, Option.none⟩ : Addr).add j) = ⟨w.heap.size, j, Option.none⟩ := by simp [Addr.add]; omega
  rw [e2]
  simp only [World.cell?, e]
  match j, h with
  | 0, h => simpa [cells3] using h
  | 1, h => simpa [cells3] using h
  | 2, h => simpa [cells3] using h
  | j + 3, h => simp [cells3] at h
theorem one3 (t : T) : ∀ u ∈ cells3 t, u.oneCell' = true := by
  intro u hu
  simp only [cells3, List.mem_cons, List.not_mem_nil, or_false] at hu
  rcases hu with rfl | rfl | rfl <;> rfl
/-- What an append of one sign leaves. -/
theorem snoc_own {w3 : World} {B : Nat} {done : List T} {t : T} {v : Value} (h : w3.ownsRow B 86 3 v (done.length + 1) (cellsOf done ++ cells3 t)) : w3.ownsRow B 86 3 v (done ++ [t]).length (cellsOf (done ++ [t])) := by
  rw [cellsOf_snoc, List.length_append]; exact h
theorem snoc_iter {w2 w3 : World} {B I p n : Nat} {s : ByteArray} {v : Value} {xs : List Value} {o1 o2 : Obj} (hown : w2.ownsRow B 86 3 v n xs) (hit : w2.heap[I]? = some (.stringIter s p)) (hg : ((w2.alloc o1).alloc o2).grownBy w3 v.ownBlock) : w3.heap[I]? = some (.stringIter s p) := by
  have h1 := lt_of_heap hit
  rw [hg.block I (by simp; omega) (own_apart hown hit), Below.heap_alloc _ _ _ (by simp; omega), Below.heap_alloc _ _ _ h1]
  exact hit
theorem snoc_below {w w2 w3 : World} {n : Nat} {v : Value} {xs : List Value} {o1 o2 : Obj} (hown : w2.ownsRow w.heap.size 86 3 v n xs) (hb : Below w.heap.size w w2) (hg : ((w2.alloc o1).alloc o2).grownBy w3 v.ownBlock) : Below w.heap.size w w3 :=
  ((hb.alloc hb.size o1).alloc (by have := hb.size; simp; omega) o2).grown hg (by have := hb.size; simp; omega) (fun k hk => (hown.lt k hk).1)
set_option maxHeartbeats 4000000 in
set_option maxRecDepth 100000 in
theorem impl_Lex_text (s tx : ByteArray) (htx : s ++ ⟨#[32]⟩ = tx) (R : Option (List T)) (hR : cut [] (pend 0 [] tx.data.toList) = R) (w : World) (hE : Env w) (hlim : s.size ≤ 3000) (hsz : tx.size = s.size + 1) (hlast : ∀ k, k + 1 = tx.size → tx.get! k = 32) :
    Calls Tryz.prog 17 #[.string s] w fun e w' => LexOut w.heap.size w' R e ∧ Below w.heap.size w w' := by
  have hl : ¬ (3000 : Int) < (s.size : Int) := by omega
  have hlen : tx.data.toList.length = tx.size := by simp
  have HR := Lib.hid hR
  have Hlast := Lib.hid hlast
  have Hsz : Hid (tx.size ≤ 3001) := show tx.size ≤ 3001 by omega
  obtain ⟨i0, hi, hz0, hz1, hz2⟩ := info_parts infoTok
  clear hR hlast hsz hlim
  go_enter Tryz.func17, Tryz.ntmps17
  go_wp2
  clear htx
  go_loopw [5, 6, 7] (fun v f k wr => ∃ (done : List T) (kk ff pos : Nat), f = .int .i64 ff ∧ k = .int .i64 kk ∧ wr.ownsRow w.heap.size 86 3 v done.length (cellsOf done) ∧ wr.heap[w.heap.size + 1]? = some (.stringIter tx pos) ∧ Below w.heap.size w wr ∧ Hid (St tx.data.toList R done kk ff pos)) (fun _ _ _ wr => tx.size - wr.iterPos (w.heap.size + 1))
  case atStart =>
    refine ⟨[], 0, 0, 0, rfl, rfl, ?_, ?_, ((Below.refl _ w).alloc (Nat.le_refl _) _).alloc (by simp) _, ?_⟩
    · refine ⟨rfl, .inr ⟨w.heap.size, 0, #[], rfl, Nat.le_refl _, ?_, Nat.le_refl _, by unfold maxLen; omega, rfl, rfl⟩⟩
      rw [show (w.alloc (Obj.cells #[] 86)).iter tx 0 = (w.alloc (Obj.cells #[] 86)).alloc (.stringIter tx 0) from rfl, Below.heap_alloc _ _ _ (by simp)]
      show (w.heap.push (Obj.cells #[] 86 (0, 0)))[w.heap.size]? = _
      simp
    · have := World.iter_heap (w.alloc (Obj.cells #[] 86)) tx 0
      simpa using this
    · show St tx.data.toList R [] 0 0 0
      rw [← HR.out]; exact St.start _
  case round =>
    obtain ⟨done, kk, ff, pos, rfl, rfl, hown, hit, hbw, hst⟩ := hrel
    obtain ⟨ao, cap, rfl⟩ := own_shape hown
    have hI : w.heap.size + 1 < wr.heap.size := lt_of_heap hit
    by_cases hp : pos < tx.size
    · have hnx : ∀ ty, (Instr.next (.pointer (some ⟨w.heap.size + 1, 0, Option.none⟩)) true ty).run Tryz.prog wr = _ := fun ty => Lib.run_next_any_at wr (w.heap.size + 1) tx pos ty hit hp
      have hit1 := Lib.iterAt_heap wr (w.heap.size + 1) tx pos (pos + (Utf8.decode tx pos).2) hit
      have hown1 := own_iter (q := pos + (Utf8.decode tx pos).2) hown hit
      have hbw1 := Lib.below_iterAt hbw (k := w.heap.size + 1) (by omega) tx (pos + (Utf8.decode tx pos).2)
      have hpl : pos < tx.data.toList.length := by simpa using hp
      have hb : tx.data.toList[pos]'hpl = tx[pos]'hp := by rw [Array.getElem_toList]; rfl
      obtain ⟨wd, hwdE⟩ : ∃ wd, (Utf8.decode tx pos).2 = wd := ⟨_, rfl⟩
      have hwd1 : 1 ≤ wd := by rw [← hwdE]; exact decode_width_pos tx pos hp
      have hwd : kind (tx.data.toList[pos]'hpl) ≠ 4 → wd = 1 := fun h => by rw [hb] at h; rw [← hwdE, decode_ascii tx pos hp (kind_low h)]
      have hwd4 : kind (tx.data.toList[pos]'hpl) = 4 → pos + wd < tx.data.toList.length := by
        intro h4
        rw [hb] at h4
        rw [hlen, ← hwdE]
        by_cases ha : (tx[pos]'hp).toNat < 128
        · rw [decode_ascii tx pos hp ha]
          rcases Nat.lt_or_ge (pos + 1) tx.size with h1 | h1
          · exact h1
          · have := Hlast.out pos (by omega)
            rw [get_bang tx pos hp] at this
            rw [this] at h4
            exact absurd h4 (by decide)
        · exact decode_inside tx pos hp (fun k hk => by rw [Hlast.out k hk]; decide) (by rw [get_bang tx pos hp]; omega)
      obtain ⟨n, hn⟩ : ∃ n, kind (tx[pos]'hp) = n := ⟨_, rfl⟩
      rw [hb, hn] at hwd hwd4
      have Hon : Hid (n = kk → goes kk = true → St tx.data.toList R done kk ff (pos + 1)) := fun h1 h2 => hst.out.on hpl (by rw [hb, hn]; exact h1) h2
      have Hgap : Hid (kk = 0 → St tx.data.toList R done n pos (pos + wd)) := fun h1 => by
        subst h1; have := hst.out.gap (wd := wd) hpl hwd1 (by rw [hb, hn]; exact hwd) (by rw [hb, hn]; exact hwd4); rw [hb, hn] at this; exact this
      have Htok : Hid (∀ t, kk ≠ 0 → ¬ (n = kk ∧ goes kk = true) → tok kk (piece tx.data.toList ff pos) = some t → done.length ≠ 600 → St tx.data.toList R (done ++ [t]) n pos (pos + wd)) := fun t h1 h2 h3 h4 => by
        have := hst.out.tok (wd := wd) hpl h1 (by rw [hb, hn]; exact h2) h3 h4 hwd1 (by rw [hb, hn]; exact hwd) (by rw [hb, hn]; exact hwd4); rw [hb, hn] at this; exact this
      have Hbad : Hid (kk ≠ 0 → ¬ (n = kk ∧ goes kk = true) → tok kk (piece tx.data.toList ff pos) = Option.none → R = Option.none) := fun h1 h2 h3 => hst.out.bad hpl h1 (by rw [hb, hn]; exact h2) h3
      have Hfull : Hid (∀ t, kk ≠ 0 → ¬ (n = kk ∧ goes kk = true) → tok kk (piece tx.data.toList ff pos) = some t → done.length = 600 → R = Option.none) := fun t h1 h2 h3 h4 => hst.out.full hpl h1 (by rw [hb, hn]; exact h2) h3 h4
      have Hn := Lib.hid hn
      have Hon1 : Hid (n = kk → goes kk = true → wd = 1) := fun h1 h2 => hwd (by rw [h1]; intro e; rw [e] at h2; cases h2)
      clear hwd hwd4 hb hpl hn
      rw [hwdE] at hit1 hown1 hbw1
      have Hw := Lib.hid hwdE
      have hsI : w.heap.size + 1 < (wr.iterAt (w.heap.size + 1) tx (pos + wd)).heap.size := by rw [Lib.iterAt_size]; exact hI
      have Hpos := Lib.hid (iterPos_of hit)
      clear hit hown hbw
      go_wp2_with fail
      clear hwdE hnx
      generalize wr.iterAt (w.heap.size + 1) tx (pos + wd) = w0 at *
      refine (runeKind_at tx pos hp w0).mono ?_
      rintro e w1 ⟨rfl, hb1⟩
      rw [Hn.out]
      have hit2 := below_keeps hb1 hit1
      have hown2 := own_below hown1 hb1
      have hbw2 := hbw1.trans (hb1.mono hbw1.size)
      clear hit1 hown1 hbw1 hsI
      by_cases hgo : n = kk ∧ goes kk = true
      · obtain ⟨rfl, hg⟩ := hgo
        have Hg := Lib.hid hg
        have hm := Hon1.out rfl hg
        have hS := Lib.hid (Hon.out rfl hg)
        subst hm
        clear hg Hon Hgap Htok Hbad Hfull hb1
        go_wp2_with fail
        refine (goesOn_is n true Hg.out _).mono ?_
        rintro e w' ⟨rfl, rfl⟩
        go_wp2
        go_roundw
        case rel => exact ⟨done, n, ff, pos + 1, rfl, rfl, hown2, hit2, hbw2, hS⟩
        case measure => rw [iterPos_of hit2, Hpos.out]; omega
      · have hle := hst.out.le
        have hne0 := hst.out.ne
        have hk4 := hst.out.k4
        have hn600 := hst.out.n600
        have hlet := Lib.hid (fun h => hst.out.letters h)
        have Hgo := Lib.hid hgo
        by_cases hk0 : kk = 0
        · subst hk0
          have hS := Lib.hid (Hgap.out rfl)
          clear hgo Hon Hgap Htok Hbad Hfull hb1 hne0 hlet
          by_cases h0 : n = 0
          · subst h0
            go_wp2_with (go_at_call 58; refine (goesOn_is 0 false rfl _).mono ?_; rintro e w' ⟨rfl, rfl⟩)
            go_roundw
            case rel => exact ⟨done, 0, pos, pos + wd, rfl, rfl, hown2, hit2, hbw2, hS⟩
            case measure => rw [iterPos_of hit2, Hpos.out]; omega
          · have h0' : ((n : Int) == 0) = false := by rw [beq_eq_false_iff_ne]; omega
            clear h0
            go_wp2
            go_roundw
            case rel => exact ⟨done, n, pos, pos + wd, rfl, rfl, hown2, hit2, hbw2, hS⟩
            case measure => rw [iterPos_of hit2, Hpos.out]; omega
        · have hk0' : ((kk : Int) == 0) = false := by rw [beq_eq_false_iff_ne]; omega
          have hlt := hne0 hk0
          have hfI : (ff : Int) ≤ (pos : Int) := by omega
          have hpI : (pos : Int) ≤ (tx.size : Int) := by omega
          have hf0 : (0 : Int) ≤ (ff : Int) := by omega
          have Hpc : Hid ((tx.extract ff pos).data.toList = piece tx.data.toList ff pos) := extract_piece tx ff pos
          have hE1 : Env w1 := hE.later hbw2 (Nat.le_refl _)
          have Hk0 := Lib.hid hk0
          have hxs : (tx.extract ff pos).size = pos - ff := by simp [ByteArray.size_extract]; omega
          have Hxs := Lib.hid hxs
          clear hgo Hon Hgap hb1 hne0 hk0 hxs
          rcases (by omega : n = kk ∨ n ≠ kk) with hnk | hnk
          · have hnk' : ((n : Int) == (kk : Int)) = true := by rw [beq_iff_eq]; omega
            have hgf : Hid (goes kk = false) := show goes kk = false by
              cases hg : goes kk with
              | false => rfl
              | true => exact absurd ⟨hnk, hg⟩ Hgo.out
            clear hnk
            go_wp2_with fail
            refine (goesOn_is kk false hgf.out _).mono ?_
            rintro e w' ⟨rfl, rfl⟩
            go_wp2_with fail
            refine (tokOf_is kk (by have := Hk0.out; omega) hk4 (tx.extract ff pos) w1 (by rw [Hxs.out]; omega) (by rw [Hxs.out]; have := Hsz.out; omega) hE1 (fun h => by rw [Hpc.out]; exact hlet.out h)).mono ?_
            rintro e w2 ⟨⟨tk, ts, tn, tb, rfl, hres⟩, hb2⟩
            rw [Hpc.out] at hres
            have hit3 := below_keeps hb2 hit2
            have hown3 := own_below hown2 hb2
            have hbw3 := hbw2.trans (hb2.mono hbw2.size)
            clear hit2 hown2 hbw2 hb2 hE1
            cases htk : tok kk (piece tx.data.toList ff pos) with
            | none =>
              rw [htk] at hres
              obtain ⟨rfl, rfl, rfl, rfl⟩ := hres
              have HR2 := Lib.hid (Hbad.out Hk0.out Hgo.out htk)
              clear htk
              go_wp2
              go_ret2
              exact ⟨⟨_, by rw [HR2.out]; rfl, by rw [HR2.out]; exact World.ownsRow_nil _ _ _ _⟩, hbw3.alloc hbw3.size _⟩
            | some t =>
              rw [htk] at hres
              obtain ⟨rfl, rfl, rfl, rfl⟩ := hres
              by_cases h6 : done.length = 600
              · have HR2 := Lib.hid (Hfull.out t Hk0.out Hgo.out htk h6)
                have h6' : ((done.length : Int) == 600) = true := by rw [beq_iff_eq]; omega
                clear htk h6
                go_wp2
                go_ret2
                exact ⟨⟨_, by rw [HR2.out]; rfl, by rw [HR2.out]; exact World.ownsRow_nil _ _ _ _⟩, hbw3.alloc hbw3.size _⟩
              · have hS := Lib.hid (Htok.out t Hk0.out Hgo.out htk h6)
                have h6' : ((done.length : Int) == 600) = false := by rw [beq_eq_false_iff_ne]; omega
                clear htk h6
                go_wp2_with (at_builtin; refine wpList_append_own _ rfl _ _ 39 rfl w.heap.size 86 i0 _ 3 32 Tryz.underlying39 hi hz0 hz1 hz2 rfl (by decide) _ _ _ rfl ((hown3.alloc _).alloc _) ⟨w2.heap.size + 1, 0, Option.none⟩ 1 1 (cells3 t) rfl rfl ?c1 ?c2 ?c3 ?c4 ?c5 ?_)
                case c1 => exact laid3L _ t _ (by simp)
                case c2 => exact one3 t
                case c3 => unfold maxLen; omega
                case c4 => omega
                case c5 => have := hbw3.size; simp; omega
                intro v' w3 hown' hgrow _
                have hit4 := snoc_iter hown3 hit3 hgrow
                have hbw4 := snoc_below hown3 hbw3 hgrow
                have hown4 := snoc_own hown'
                clear hown' hgrow hown3 hit3 hbw3
                go_wp2
                go_roundw
                case rel => exact ⟨done ++ [t], n, pos, pos + wd, rfl, rfl, hown4, hit4, hbw4, hS⟩
                case measure => rw [iterPos_of hit4, Hpos.out]; omega
          · have hnk' : ((n : Int) == (kk : Int)) = false := by rw [beq_eq_false_iff_ne]; omega
            clear hnk
            go_wp2_with fail
            refine (tokOf_is kk (by have := Hk0.out; omega) hk4 (tx.extract ff pos) w1 (by rw [Hxs.out]; omega) (by rw [Hxs.out]; have := Hsz.out; omega) hE1 (fun h => by rw [Hpc.out]; exact hlet.out h)).mono ?_
            rintro e w2 ⟨⟨tk, ts, tn, tb, rfl, hres⟩, hb2⟩
            rw [Hpc.out] at hres
            have hit3 := below_keeps hb2 hit2
            have hown3 := own_below hown2 hb2
            have hbw3 := hbw2.trans (hb2.mono hbw2.size)
            clear hit2 hown2 hbw2 hb2 hE1
            cases htk : tok kk (piece tx.data.toList ff pos) with
            | none =>
              rw [htk] at hres
              obtain ⟨rfl, rfl, rfl, rfl⟩ := hres
              have HR2 := Lib.hid (Hbad.out Hk0.out Hgo.out htk)
              clear htk
              go_wp2
              go_ret2
              exact ⟨⟨_, by rw [HR2.out]; rfl, by rw [HR2.out]; exact World.ownsRow_nil _ _ _ _⟩, hbw3.alloc hbw3.size _⟩
            | some t =>
              rw [htk] at hres
              obtain ⟨rfl, rfl, rfl, rfl⟩ := hres
              by_cases h6 : done.length = 600
              · have HR2 := Lib.hid (Hfull.out t Hk0.out Hgo.out htk h6)
                have h6' : ((done.length : Int) == 600) = true := by rw [beq_iff_eq]; omega
                clear htk h6
                go_wp2
                go_ret2
                exact ⟨⟨_, by rw [HR2.out]; rfl, by rw [HR2.out]; exact World.ownsRow_nil _ _ _ _⟩, hbw3.alloc hbw3.size _⟩
              · have hS := Lib.hid (Htok.out t Hk0.out Hgo.out htk h6)
                have h6' : ((done.length : Int) == 600) = false := by rw [beq_eq_false_iff_ne]; omega
                clear htk h6
                go_wp2_with (at_builtin; refine wpList_append_own _ rfl _ _ 39 rfl w.heap.size 86 i0 _ 3 32 Tryz.underlying39 hi hz0 hz1 hz2 rfl (by decide) _ _ _ rfl ((hown3.alloc _).alloc _) ⟨w2.heap.size + 1, 0, Option.none⟩ 1 1 (cells3 t) rfl rfl ?c1 ?c2 ?c3 ?c4 ?c5 ?_)
                case c1 => exact laid3L _ t _ (by simp)
                case c2 => exact one3 t
                case c3 => unfold maxLen; omega
                case c4 => omega
                case c5 => have := hbw3.size; simp; omega
                intro v' w3 hown' hgrow _
                have hit4 := snoc_iter hown3 hit3 hgrow
                have hbw4 := snoc_below hown3 hbw3 hgrow
                have hown4 := snoc_own hown'
                clear hown' hgrow hown3 hit3 hbw3
                go_wp2
                go_roundw
                case rel => exact ⟨done ++ [t], n, pos, pos + wd, rfl, rfl, hown4, hit4, hbw4, hS⟩
                case measure => rw [iterPos_of hit4, Hpos.out]; omega
    · have hR := hst.out.done (by rw [hlen]; exact hp)
      have hnx : ∀ ty, (Instr.next (.pointer (some ⟨w.heap.size + 1, 0, Option.none⟩)) true ty).run Tryz.prog wr = _ := fun ty => Lib.run_next_end_at wr (w.heap.size + 1) tx pos ty hit hp
      go_wp2
      go_ret2
      exact ⟨⟨_, by rw [hR]; rfl, by rw [hR]; exact hown⟩, hbw⟩
set_option maxRecDepth 100000 in
/-- The landed code's Lex, at every text. -/
theorem impl_Lex (s : ByteArray) (o : Option (List T)) (ho : lex s.data.toList = o) (w : World) (hE : Env w) :
    Calls Tryz.prog 17 #[.string s] w fun e w' => LexOut w.heap.size w' o e ∧ Below w.heap.size w w' := by
  have hlen : s.data.toList.length = s.size := by simp
  by_cases hg : 3000 < s.size
  · have hO : Hid (o = Option.none) := show o = Option.none by rw [← ho, lex, if_pos (by omega)]
    have hg' : (3000 : Int) < (s.size : Int) := by omega
    clear hg ho hlen hE
    go_enter Tryz.func17, Tryz.ntmps17
    go_wp2
    go_ret2
    exact ⟨⟨_, by rw [hO.out]; rfl, by rw [hO.out]; exact World.ownsRow_nil _ _ _ _⟩, Below.refl _ _⟩
  · have hd : (s ++ (⟨#[32]⟩ : ByteArray)).data.toList = s.data.toList ++ [32] := by simp
    have hz : (s ++ (⟨#[32]⟩ : ByteArray)).size = s.size + 1 := by simp [ByteArray.size_append]; rfl
    refine impl_Lex_text s _ rfl o ?_ w hE (by omega) hz ?_
    · rw [hd, ← ho, lex, if_neg (by omega)]
    · intro k hk
      have hlt : k < (s ++ (⟨#[32]⟩ : ByteArray)).size := by omega
      rw [get_bang _ k hlt]
      have e : (s ++ (⟨#[32]⟩ : ByteArray)).data.toList[k]? = some ((s ++ (⟨#[32]⟩ : ByteArray))[k]'hlt) := by
        rw [List.getElem?_eq_getElem (by rw [hd]; simp; omega), Array.getElem_toList]; rfl
      rw [hd, List.getElem?_append_right (by omega), show k - s.data.toList.length = 0 by omega] at e
      exact (Option.some.inj e).symm
end Go.Proofs.YtkhccpjkajhnpaaGreatDoor
/-
  The contracts of what the laws on signs call: eqTokS, markTokS, heldTokS, markText.
-/
namespace Go.Proofs.YtkhccpjkajhnpaaGreatDoor
open Go.RowKit Go.Lib
set_option linter.unusedSimpArgs false

/-- A slice that holds these signs. -/
def Row (w : World) (v : Value) (ts : List T) : Prop :=
  ∃ ao cap, v = .slice ao ts.length cap ∧ (ts = [] ∨ ∃ g, ao = some ⟨g, 0, Option.none⟩ ∧ g < w.heap.size ∧ ∀ i t, ts[i]? = some t →
    w.cell? ⟨g, i * 3, Option.none⟩ = some (.int .i64 t.k) ∧ w.cell? ⟨g, i * 3 + 1, Option.none⟩ = some (.string ⟨t.s.toArray⟩) ∧ w.cell? ⟨g, i * 3 + 2, Option.none⟩ = some (.int .i64 t.n))
theorem cellsOf_get (ts : List T) : ∀ i t, ts[i]? = some t → (cellsOf ts)[i * 3]? = some (.int .i64 t.k) ∧ (cellsOf ts)[i * 3 + 1]? = some (.string ⟨t.s.toArray⟩) ∧ (cellsOf ts)[i * 3 + 2]? = some (.int .i64 t.n) := by
  induction ts with
  | nil => intro i t h; simp at h
  | cons u us ih =>
    intro i t h
    have e : cellsOf (u :: us) = .int .i64 u.k :: .string ⟨u.s.toArray⟩ :: .int .i64 u.n :: cellsOf us := rfl
    cases i with
    | zero => simp at h; subst h; exact ⟨rfl, rfl, rfl⟩
    | succ i =>
      have := ih i t (by simpa using h)
      rw [e, show (i + 1) * 3 = i * 3 + 3 by omega]
      simpa using this
theorem Row.of {w : World} {B : Nat} {v : Value} {ts : List T} (h : w.ownsRow B 86 3 v ts.length (cellsOf ts)) : Row w v ts := by
  rcases h.2 with ⟨h0, h1⟩ | ⟨g, cap, cur, h1, h2, h3, h4⟩
  · exact ⟨Option.none, 0, by rw [h1]; exact h0, .inl (List.length_eq_zero_iff.1 h1)⟩
  · refine ⟨_, cap, h1, .inr ⟨g, rfl, lt_of_heap h3, fun i t hi => ?_⟩⟩
    have hc := h.cells (g := g) (by rw [h1]; rfl)
    have e : ∀ j, (⟨g, 0, Option.none⟩ : Addr).add j = ⟨g, j, Option.none⟩ := fun j => by simp [Addr.add]; omega
    have hg := cellsOf_get ts i t hi
    have a := hc _ _ hg.1; have b := hc _ _ hg.2.1; have c := hc _ _ hg.2.2
    rw [e] at a b c
    exact ⟨a, b, c⟩
theorem Row.later {w w' : World} {v : Value} {ts : List T} (h : Row w v ts) (hb : Below w.heap.size w w') : Row w' v ts := by
  obtain ⟨ao, cap, hv, h⟩ := h
  refine ⟨ao, cap, hv, ?_⟩
  rcases h with h | ⟨g, h1, h2, h3⟩
  · exact .inl h
  · refine .inr ⟨g, h1, Nat.lt_of_lt_of_le h2 hb.size, fun i t hi => ?_⟩
    obtain ⟨a, b, c⟩ := h3 i t hi
    exact ⟨(hb.cell (p := ⟨g, i * 3, Option.none⟩) h2).trans a, (hb.cell (p := ⟨g, i * 3 + 1, Option.none⟩) h2).trans b, (hb.cell (p := ⟨g, i * 3 + 2, Option.none⟩) h2).trans c⟩
end Go.Proofs.YtkhccpjkajhnpaaGreatDoor
/-
  The contracts of eqExp, eqExpS where both are the same.
-/
namespace Go.Proofs.YtkhccpjkajhnpaaGreatDoor
open Go.RowKit Go.Lib
set_option linter.unusedSimpArgs false
set_option linter.unusedVariables false

theorem EV.drew {w : World} {lo : Nat} {F : EF} {v : Value} (h : EV w lo F v) : EV w.drew lo F v := h.same (Nat.le_refl _) (fun a v _ hc => hc)
theorem SV.drew {w : World} {lo : Nat} {F : SF} {v : Value} (h : SV w lo F v) : SV w.drew lo F v := h.same (Nat.le_refl _) (fun a v _ hc => hc)
set_option maxHeartbeats 1000000 in
theorem eqExp_of (x : X)
    (ih : ∀ (w : World) (va vb : Value), EV w 0 x.l va → EV w 0 x.l vb → Calls Tryz.prog 86 #[va, vb] w fun e w' => e = .returned (.bool true) ∧ Below w.heap.size w w')
    (w : World) (va vb : Value) (ha : EV w 0 x.l va) (hb : EV w 0 x.l vb) :
    Calls Tryz.prog 29 #[.agg #[.int .i64 x.h.k, .int .i64 x.h.n, .string x.h.s, va], .agg #[.int .i64 x.h.k, .int .i64 x.h.n, .string x.h.s, vb]] w fun e w' => e = .returned (.bool true) ∧ Below w.heap.size w w' := by
  have Hih := Lib.hid ih
  have Ha := Lib.hid ha
  have Hb := Lib.hid hb
  clear ih ha hb
  go_enter Tryz.func29, Tryz.ntmps29
  go_wp2_with fail
  have hb2 := (alloc_below w (.cells #[.int .i64 x.h.k, .int .i64 x.h.n, .string x.h.s, va] 33)).alloc (by simp) (.cells #[.int .i64 x.h.k, .int .i64 x.h.n, .string x.h.s, vb] 33)
  refine (Hih.out _ _ _ (Ha.out.later hb2) (Hb.out.later hb2)).mono ?_
  rintro e w1 ⟨rfl, hb1⟩
  have hB := hb2.trans (hb1.mono hb2.size)
  clear hb1 hb2
  go_wp2
  go_ret
  exact ⟨rfl, hB⟩
set_option maxHeartbeats 2000000 in
theorem eqExpS_step (F : EF) (hn : elen F ≤ 100000000)
    (ih : ∀ l : EF, enodes l < enodes F → ∀ (w : World) (va vb : Value), EV w 0 l va → EV w 0 l vb → Calls Tryz.prog 86 #[va, vb] w fun e w' => e = .returned (.bool true) ∧ Below w.heap.size w w')
    (w : World) (va vb : Value) (ha : EV w 0 F va) (hb : EV w 0 F vb) :
    Calls Tryz.prog 86 #[va, vb] w fun e w' => e = .returned (.bool true) ∧ Below w.heap.size w w' := by
  obtain ⟨b1, o1, ao1, cap1, rfl, hao1, _, hin1⟩ := ha
  obtain ⟨b2, o2, ao2, cap2, rfl, hao2, _, hin2⟩ := hb
  have Hih := Lib.hid ih
  clear ih
  go_enter Tryz.func86, Tryz.ntmps86
  go_wp2
  go_loopw [5] (fun i wr => ∃ (R : EF) (k : Nat), i = .int .i64 (k : Int) ∧ Hid (k + elen R = elen F ∧ enodes R ≤ enodes F ∧ EIn w 0 R b1 (o1 + k * 4) ∧ EIn w 0 R b2 (o2 + k * 4)) ∧ Below w.heap.size w wr) (fun i _ => elen F - (RowKit.intOf i).toNat)
  case atStart => exact ⟨F, 0, rfl, ⟨by omega, Nat.le_refl _, by simpa using hin1, by simpa using hin2⟩, Below.refl _ _⟩
  case round =>
    obtain ⟨R, k, rfl, hr, hbw⟩ := hrel
    obtain ⟨e1, e2, e3, e4⟩ := hr.out
    cases R with
    | nil =>
      have hk : ¬ (k : Int) < (elen F : Int) := by simp only [elen] at e1; omega
      go_wp2
      go_ret
      exact ⟨rfl, hbw⟩
    | node p q h l r =>
      have hlt : (k : Int) < (elen F : Int) := by simp only [elen] at e1; omega
      have hne : ¬ F = .nil := by intro e; subst e; simp only [elen] at e1; omega
      obtain rfl : ao1 = some ⟨b1, o1, Option.none⟩ := hao1.resolve_right hne
      obtain rfl : ao2 = some ⟨b2, o2, Option.none⟩ := hao2.resolve_right hne
      obtain ⟨⟨a0, a1, a2, u1, a3, hu1⟩, _⟩ := EIn_node.1 (EIn_later hbw _ _ _ e3)
      obtain ⟨⟨c0, c1, c2, u2, c3, hu2⟩, _⟩ := EIn_node.1 (EIn_later hbw _ _ _ e4)
      simp only [enodes] at e2
      have Hl := Lib.hid (fun w va vb => Hih.out l (by omega) w va vb)
      have He : Hid (k + 1 + elen r = elen F ∧ enodes r ≤ enodes F ∧ EIn w 0 r b1 (o1 + (k + 1) * 4) ∧ EIn w 0 r b2 (o2 + (k + 1) * 4)) := ⟨by simp only [elen] at e1; omega, by omega, by rw [show o1 + (k + 1) * 4 = o1 + k * 4 + 4 by omega]; exact (EIn_node.1 e3).2, by rw [show o2 + (k + 1) * 4 = o2 + k * 4 + 4 by omega]; exact (EIn_node.1 e4).2⟩
      have HU := Lib.hid (And.intro hu1 hu2)
      clear hr e1 e2 e3 e4 hin1 hin2 hne hao1 hao2 hu1 hu2
      go_wp2_with fail
      go_cut [26] from 11 to 26 (fun v wx => v = .bool false ∧ Below wr.heap.size wr wx)
      case first =>
        go_region_with (go_at_call 29; refine (eqExp_of ⟨h, l⟩ Hl.out _ _ _ HU.out.1.drew HU.out.2.drew).mono ?_; rintro e w1 ⟨rfl, hb1⟩)
        all_goals (try go_wp2_with fail)
        all_goals go_meet
        all_goals exact ⟨rfl, ⟨hb1.os, hb1.tape, hb1.output, hb1.size, hb1.block⟩⟩
      case rest =>
        obtain ⟨rfl, hb1⟩ := hcut
        have hbw2 := hbw.trans (hb1.mono hbw.size)
        clear a0 a1 a2 a3 c0 c1 c2 c3 hb1
        go_wp2
        go_roundw
        case rel => exact ⟨r, k + 1, by go_num, He.out, hbw2⟩
        case measure => simp [RowKit.intOf]; omega
theorem eqExpS_all : ∀ (n : Nat) (F : EF), enodes F < n → enodes F ≤ 100000000 → ∀ (w : World) (va vb : Value), EV w 0 F va → EV w 0 F vb → Calls Tryz.prog 86 #[va, vb] w fun e w' => e = .returned (.bool true) ∧ Below w.heap.size w w'
  | 0, _, h, _, _, _, _, _, _ => absurd h (by omega)
  | n + 1, F, h, hn, w, va, vb, ha, hb => eqExpS_step F (Nat.le_trans (elen_le F) hn) (fun l hl w va vb a b => eqExpS_all n l (by omega) (by omega) w va vb a b) w va vb ha hb
theorem eqExpS_is (F : EF) (hF : esize F ≤ 1048576) (w : World) (va vb : Value) (ha : EV w 0 F va) (hb : EV w 0 F vb) :
    Calls Tryz.prog 86 #[va, vb] w fun e w' => e = .returned (.bool true) ∧ Below w.heap.size w w' := eqExpS_all _ F (Nat.lt_succ_self _) (by have := enodes_le F; omega) w va vb ha hb
theorem eqExp_is (x : X) (hx : xsize x ≤ 1048576) (w : World) (va vb : Value) (ha : EV w 0 x.l va) (hb : EV w 0 x.l vb) :
    Calls Tryz.prog 29 #[.agg #[.int .i64 x.h.k, .int .i64 x.h.n, .string x.h.s, va], .agg #[.int .i64 x.h.k, .int .i64 x.h.n, .string x.h.s, vb]] w fun e w' => e = .returned (.bool true) ∧ Below w.heap.size w w' :=
  eqExp_of x (fun w va vb a b => eqExpS_is x.l (by unfold xsize at hx; omega) w va vb a b) w va vb ha hb
end Go.Proofs.YtkhccpjkajhnpaaGreatDoor
/-
  The contracts of eqStmt, eqStmtS where both are the same.
-/
namespace Go.Proofs.YtkhccpjkajhnpaaGreatDoor
open Go.RowKit Go.Lib
set_option linter.unusedSimpArgs false
set_option linter.unusedVariables false

theorem sizeIE2 : (Tryz.prog.info? 33).map (·.size) = some 4 := by kernel_rfl
section
variable {w : World} {b : Nat} {h : SH} {v1 v2 v3 v4 v : Value}
theorem part1 (r : w.rangeAt b 0 (scells h v1 v2 v3 v4 v)) : w.rangeAt b 2 (xcells h.x1 v1) := by
  have := rangeAt_part (ds := [.int .i64 h.k, .string h.s]) (es := xcells h.x1 v1) r rfl; rwa [Nat.zero_add] at this
theorem part2 (r : w.rangeAt b 0 (scells h v1 v2 v3 v4 v)) : w.rangeAt b 6 (xcells h.x2 v2) := by
  have := rangeAt_part (ds := [.int .i64 h.k, .string h.s] ++ xcells h.x1 v1) (es := xcells h.x2 v2) r rfl; rwa [Nat.zero_add] at this
theorem part3 (r : w.rangeAt b 0 (scells h v1 v2 v3 v4 v)) : w.rangeAt b 10 (xcells h.x3 v3) := by
  have := rangeAt_part (ds := [.int .i64 h.k, .string h.s] ++ xcells h.x1 v1 ++ xcells h.x2 v2) (es := xcells h.x3 v3) r rfl; rwa [Nat.zero_add] at this
theorem part4 (r : w.rangeAt b 0 (scells h v1 v2 v3 v4 v)) : w.rangeAt b 14 (xcells h.x4 v4) := by
  have := rangeAt_part (ds := [.int .i64 h.k, .string h.s] ++ xcells h.x1 v1 ++ xcells h.x2 v2 ++ xcells h.x3 v3) (es := xcells h.x4 v4) r rfl; rwa [Nat.zero_add] at this
theorem part5 (r : w.rangeAt b 0 (scells h v1 v2 v3 v4 v)) : w.cell? ⟨b, 18, Option.none⟩ = some v := by
  have := r 18 v rfl; rwa [Nat.zero_add] at this
end
/-- Two statements that came in, each in a block of its own. -/
structure Two (w0 w : World) (N : Nat) (g h : SH) (a1 a2 a3 a4 a b1 b2 b3 b4 b : Value) : Prop where
  r1 : w.rangeAt N 0 (scells g a1 a2 a3 a4 a)
  r2 : w.rangeAt (N + 1) 0 (scells h b1 b2 b3 b4 b)
  low : Below w0.heap.size w0 w
theorem Two.later {w0 w w' : World} {N : Nat} {g h : SH} {a1 a2 a3 a4 a b1 b2 b3 b4 b : Value} (t : Two w0 w N g h a1 a2 a3 a4 a b1 b2 b3 b4 b) (hb : Below w.heap.size w w') : Two w0 w' N g h a1 a2 a3 a4 a b1 b2 b3 b4 b :=
  ⟨rangeAt_later t.r1 hb, rangeAt_later t.r2 hb, t.low.trans (hb.mono t.low.size)⟩
theorem Two.start (w : World) (g h : SH) (a1 a2 a3 a4 a b1 b2 b3 b4 b : Value) (s t : TypeId) : Two w ((w.alloc (.cells (sarr g a1 a2 a3 a4 a) s)).alloc (.cells (sarr h b1 b2 b3 b4 b) t)) w.heap.size g h a1 a2 a3 a4 a b1 b2 b3 b4 b := by
  have e : ∀ (v : World) (o : Obj), (v.alloc o).heap = v.heap.push o := fun _ _ => rfl
  have q0 : ((w.alloc (.cells (sarr g a1 a2 a3 a4 a) s)).alloc (.cells (sarr h b1 b2 b3 b4 b) t)).heap[w.heap.size]? = some (.cells (sarr g a1 a2 a3 a4 a) s) := by rw [Below.heap_alloc _ _ _ (by simp), e]; simp
  have q1 : ((w.alloc (.cells (sarr g a1 a2 a3 a4 a) s)).alloc (.cells (sarr h b1 b2 b3 b4 b) t)).heap[(w.alloc (.cells (sarr g a1 a2 a3 a4 a) s)).heap.size]? = some (.cells (sarr h b1 b2 b3 b4 b) t) := (fun (v : World) (o : Obj) => (by rw [e]; simp : (v.alloc o).heap[v.heap.size]? = some o)) _ _
  have q2 : (w.alloc (.cells (sarr g a1 a2 a3 a4 a) s)).heap.size = w.heap.size + 1 := by simp
  rw [q2] at q1
  exact ⟨blk_range q0, blk_range q1, (alloc_below w _).alloc (by simp) _⟩
set_option maxHeartbeats 2000000 in
set_option maxRecDepth 100000 in
theorem eqStmt_of (h : SH) (l : SF) (k1 : xsize h.x1 ≤ 1048576) (k2 : xsize h.x2 ≤ 1048576) (k3 : xsize h.x3 ≤ 1048576) (k4 : xsize h.x4 ≤ 1048576)
    (ih : ∀ (w : World) (va vb : Value), SV w 0 l va → SV w 0 l vb → Calls Tryz.prog 81 #[va, vb] w fun e w' => e = .returned (.bool true) ∧ Below w.heap.size w w')
    (w : World) (a1 a2 a3 a4 a b1 b2 b3 b4 b : Value) (ha : HV w 0 h a1 a2 a3 a4) (hal : SV w 0 l a) (hb : HV w 0 h b1 b2 b3 b4) (hbl : SV w 0 l b) :
    Calls Tryz.prog 144 #[sagg h a1 a2 a3 a4 a, sagg h b1 b2 b3 b4 b] w fun e w' => e = .returned (.bool true) ∧ Below w.heap.size w w' := by
  have Hih := Lib.hid ih
  have HA := Lib.hid (And.intro ha hal)
  have HB := Lib.hid (And.intro hb hbl)
  have T0 := Lib.hid (Two.start w h h a1 a2 a3 a4 a b1 b2 b3 b4 b 72 72)
  clear ih ha hal hb hbl
  go_enter Tryz.func144, Tryz.ntmps144
  go_wp2_with fail
  refine (eqExp_is h.x1 k1 _ a1 b1 (HA.out.1.e1.later T0.out.low) (HB.out.1.e1.later T0.out.low)).mono ?_
  rintro e w1 ⟨rfl, hb1⟩
  have T1 := Lib.hid (T0.out.later hb1)
  clear hb1 T0
  go_wp2_with (first | (refine wpList_load_mid rfl 33 _ rfl w.heap.size 6 rfl _ _ (part2 T1.out.r1) Tryz.underlying33 rfl sizeIE2 ?_) | (refine wpList_load_mid rfl 33 _ rfl (w.heap.size + 1) 6 rfl _ _ (part2 T1.out.r2) Tryz.underlying33 rfl sizeIE2 ?_))
  refine (eqExp_is h.x2 k2 _ a2 b2 (HA.out.1.e2.later T1.out.low) (HB.out.1.e2.later T1.out.low)).mono ?_
  rintro e w2 ⟨rfl, hb2⟩
  have T2 := Lib.hid (T1.out.later hb2)
  clear hb2 T1
  go_wp2_with (first | (refine wpList_load_mid rfl 33 _ rfl w.heap.size 10 rfl _ _ (part3 T2.out.r1) Tryz.underlying33 rfl sizeIE2 ?_) | (refine wpList_load_mid rfl 33 _ rfl (w.heap.size + 1) 10 rfl _ _ (part3 T2.out.r2) Tryz.underlying33 rfl sizeIE2 ?_))
  refine (eqExp_is h.x3 k3 _ a3 b3 (HA.out.1.e3.later T2.out.low) (HB.out.1.e3.later T2.out.low)).mono ?_
  rintro e w3 ⟨rfl, hb3⟩
  have T3 := Lib.hid (T2.out.later hb3)
  clear hb3 T2
  go_wp2_with (first | (refine wpList_load_mid rfl 33 _ rfl w.heap.size 14 rfl _ _ (part4 T3.out.r1) Tryz.underlying33 rfl sizeIE2 ?_) | (refine wpList_load_mid rfl 33 _ rfl (w.heap.size + 1) 14 rfl _ _ (part4 T3.out.r2) Tryz.underlying33 rfl sizeIE2 ?_))
  refine (eqExp_is h.x4 k4 _ a4 b4 (HA.out.1.e4.later T3.out.low) (HB.out.1.e4.later T3.out.low)).mono ?_
  rintro e w4 ⟨rfl, hb4⟩
  have T4 := Lib.hid (T3.out.later hb4)
  clear hb4 T3
  have c1 := part5 T4.out.r1
  have c2 := part5 T4.out.r2
  go_wp2_with fail
  refine (Hih.out _ a b (HA.out.2.later T4.out.low) (HB.out.2.later T4.out.low)).mono ?_
  rintro e w5 ⟨rfl, hb5⟩
  have hB := (T4.out.later hb5).low
  clear hb5 T4 c1 c2
  go_wp2
  go_ret
  exact ⟨rfl, hB⟩
theorem HV.drew {w : World} {lo : Nat} {h : SH} {v1 v2 v3 v4 : Value} (hv : HV w lo h v1 v2 v3 v4) : HV w.drew lo h v1 v2 v3 v4 := ⟨hv.e1.drew, hv.e2.drew, hv.e3.drew, hv.e4.drew⟩
theorem eqStmt_any (h : SH) (l : SF) (A C : List Value) (a1 a2 a3 a4 a b1 b2 b3 b4 b : Value) (hA : A = scells h a1 a2 a3 a4 a) (hC : C = scells h b1 b2 b3 b4 b) (hk : xsize h.x1 ≤ 1048576 ∧ xsize h.x2 ≤ 1048576 ∧ xsize h.x3 ≤ 1048576 ∧ xsize h.x4 ≤ 1048576)
    (ih : ∀ (w : World) (va vb : Value), SV w 0 l va → SV w 0 l vb → Calls Tryz.prog 81 #[va, vb] w fun e w' => e = .returned (.bool true) ∧ Below w.heap.size w w')
    (w : World) (ha : HV w 0 h a1 a2 a3 a4) (hal : SV w 0 l a) (hb : HV w 0 h b1 b2 b3 b4) (hbl : SV w 0 l b) :
    Calls Tryz.prog 144 #[.agg A.toArray, .agg C.toArray] w fun e w' => e = .returned (.bool true) ∧ Below w.heap.size w w' := by
  subst hA hC
  exact eqStmt_of h l hk.1 hk.2.1 hk.2.2.1 hk.2.2.2 ih w a1 a2 a3 a4 a b1 b2 b3 b4 b ha hal hb hbl
set_option maxHeartbeats 2000000 in
set_option maxRecDepth 100000 in
theorem eqStmtS_step (F : SF) (hF : ssize F ≤ 1048576)
    (ih : ∀ l : SF, snodes l < snodes F → ssize l ≤ 1048576 → ∀ (w : World) (va vb : Value), SV w 0 l va → SV w 0 l vb → Calls Tryz.prog 81 #[va, vb] w fun e w' => e = .returned (.bool true) ∧ Below w.heap.size w w')
    (w : World) (va vb : Value) (ha : SV w 0 F va) (hb : SV w 0 F vb) :
    Calls Tryz.prog 81 #[va, vb] w fun e w' => e = .returned (.bool true) ∧ Below w.heap.size w w' := by
  have hn : slen F ≤ 1048576 := Nat.le_trans (Nat.le_trans (slen_le F) (snodes_le F)) hF
  obtain ⟨b1, o1, ao1, cap1, rfl, hao1, _, hin1⟩ := ha
  obtain ⟨b2, o2, ao2, cap2, rfl, hao2, _, hin2⟩ := hb
  have Hih := Lib.hid ih
  clear ih
  go_enter Tryz.func81, Tryz.ntmps81
  go_wp2
  go_loopw [5] (fun i wr => ∃ (R : SF) (k : Nat), i = .int .i64 (k : Int) ∧ Hid (k + slen R = slen F ∧ snodes R ≤ snodes F ∧ ssize R ≤ 1048576 ∧ SIn w 0 R b1 (o1 + k * 19) ∧ SIn w 0 R b2 (o2 + k * 19)) ∧ Below w.heap.size w wr) (fun i _ => slen F - (RowKit.intOf i).toNat)
  case atStart => exact ⟨F, 0, rfl, ⟨by omega, Nat.le_refl _, hF, by simpa using hin1, by simpa using hin2⟩, Below.refl _ _⟩
  case round =>
    obtain ⟨R, k, rfl, hr, hbw⟩ := hrel
    obtain ⟨e1, e2, e5, e3, e4⟩ := hr.out
    cases R with
    | nil =>
      have hk : ¬ (k : Int) < (slen F : Int) := by simp only [slen] at e1; omega
      go_wp2
      go_ret
      exact ⟨rfl, hbw⟩
    | node p q h l r =>
      have hlt : (k : Int) < (slen F : Int) := by simp only [slen] at e1; omega
      have hk0 : (0 : Int) ≤ (k : Int) := by omega
      have hne : ¬ F = .nil := by intro e; subst e; simp only [slen] at e1; omega
      obtain rfl : ao1 = some ⟨b1, o1, Option.none⟩ := hao1.resolve_right hne
      obtain rfl : ao2 = some ⟨b2, o2, Option.none⟩ := hao2.resolve_right hne
      obtain ⟨a1, a2, a3, a4, a, hva, hal, ra⟩ := (SIn_node.1 (SIn_later hbw _ _ _ e3)).1.range
      obtain ⟨c1, c2, c3, c4, c, hvc, hcl, rc⟩ := (SIn_node.1 (SIn_later hbw _ _ _ e4)).1.range
      simp only [snodes] at e2
      simp only [ssize, hsize] at e5
      have Hl := Lib.hid (fun w va vb => Hih.out l (by omega) (by omega) w va vb)
      have He : Hid (k + 1 + slen r = slen F ∧ snodes r ≤ snodes F ∧ ssize r ≤ 1048576 ∧ SIn w 0 r b1 (o1 + (k + 1) * 19) ∧ SIn w 0 r b2 (o2 + (k + 1) * 19)) := ⟨by simp only [slen] at e1; omega, by omega, by omega, by rw [show o1 + (k + 1) * 19 = o1 + k * 19 + 19 by omega]; exact (SIn_node.1 e3).2, by rw [show o2 + (k + 1) * 19 = o2 + k * 19 + 19 by omega]; exact (SIn_node.1 e4).2⟩
      have HU : Hid ((HV wr 0 h a1 a2 a3 a4 ∧ SV wr 0 l a) ∧ (HV wr 0 h c1 c2 c3 c4 ∧ SV wr 0 l c)) := ⟨⟨hva, hal⟩, ⟨hvc, hcl⟩⟩
      have HK : Hid (xsize h.x1 ≤ 1048576 ∧ xsize h.x2 ≤ 1048576 ∧ xsize h.x3 ≤ 1048576 ∧ xsize h.x4 ≤ 1048576) := ⟨by omega, by omega, by omega, by omega⟩
      obtain ⟨A, hA⟩ : ∃ A, A = scells h a1 a2 a3 a4 a := ⟨_, rfl⟩
      obtain ⟨C, hC⟩ : ∃ C, C = scells h c1 c2 c3 c4 c := ⟨_, rfl⟩
      rw [← hA] at ra
      rw [← hC] at rc
      have lA : A.length = 19 := by rw [hA]; rfl
      have lC : C.length = 19 := by rw [hC]; rfl
      have hu := Tryz.underlying72
      have hiA : (Tryz.prog.info? 72).map (·.size) = some A.length := by rw [lA]; exact sizeIS
      have hiC : (Tryz.prog.info? 72).map (·.size) = some C.length := by rw [lC]; exact sizeIS
      have HAC : Hid (A = scells h a1 a2 a3 a4 a ∧ C = scells h c1 c2 c3 c4 c) := ⟨hA, hC⟩
      clear hr e1 e2 e3 e4 e5 hin1 hin2 hne hao1 hao2 hva hal hvc hcl hA hC
      go_wp2_with fail
      go_cut [26] from 11 to 26 (fun v wx => v = .bool false ∧ Below wr.heap.size wr wx)
      case first =>
        refine wp_region_held_drew (S := fun w' => w'.rangeAt b1 (o1 + k * 19) A ∧ w'.rangeAt b2 (o2 + k * 19) C) (by kernel_rfl) ⟨(World.rangeAt_drew _ _ _ _).2 ra, (World.rangeAt_drew _ _ _ _).2 rc⟩ (fun hHeld => ?_)
        refine wpAnyH_take (i := 0) (v := .slice (some ⟨b1, o1, Option.none⟩) (slen F) cap1) rfl (by kernel_rfl) (by kernel_rfl) (by kernel_rfl) (fun _ _ _ h => h) (Or.inl ⟨by rfl, ?y0⟩) hHeld ?_
        case y0 => intro w hSw; go_simp
        simp only [Act.put, List.getElem_toArray, List.getElem_cons_succ, List.getElem_cons_zero, List.setIfInBounds_toArray, List.set_cons_zero, List.set_cons_succ]
        refine wpAnyH_take (i := 1) (v := .int .i64 (k : Int)) rfl (by kernel_rfl) (by kernel_rfl) (by kernel_rfl) (fun _ _ _ h => h) (Or.inl ⟨by rfl, ?y1⟩) hHeld ?_
        case y1 => intro w hSw; go_simp
        simp only [Act.put, List.getElem_toArray, List.getElem_cons_succ, List.getElem_cons_zero, List.setIfInBounds_toArray, List.set_cons_zero, List.set_cons_succ]
        refine wpAnyH_take (i := 2) (v := .pointer (some ⟨b1, o1 + k * 19, Option.none⟩)) rfl (by kernel_rfl) (by kernel_rfl) (by kernel_rfl) (fun _ _ _ h => h) (Or.inl ⟨by rfl, ?y2⟩) hHeld ?_
        case y2 => intro w hSw; go_simp
        simp only [Act.put, List.getElem_toArray, List.getElem_cons_succ, List.getElem_cons_zero, List.setIfInBounds_toArray, List.set_cons_zero, List.set_cons_succ]
        refine wpAnyH_take (i := 3) (v := .agg A.toArray) rfl (by kernel_rfl) (by kernel_rfl) (by kernel_rfl) (fun _ _ _ h => h) (yieldsIf_load_mid (by rfl) 72 _ rfl b1 (o1 + k * 19) rfl A _ (fun w h => h.1) Tryz.underlying72 rfl hiA) hHeld ?_
        simp only [Act.put, List.getElem_toArray, List.getElem_cons_succ, List.getElem_cons_zero, List.setIfInBounds_toArray, List.set_cons_zero, List.set_cons_succ]
        refine wpAnyH_take (i := 4) (v := .slice (some ⟨b2, o2, Option.none⟩) (slen F) cap2) rfl (by kernel_rfl) (by kernel_rfl) (by kernel_rfl) (fun _ _ _ h => h) (Or.inl ⟨by rfl, ?y4⟩) hHeld ?_
        case y4 => intro w hSw; go_simp
        simp only [Act.put, List.getElem_toArray, List.getElem_cons_succ, List.getElem_cons_zero, List.setIfInBounds_toArray, List.set_cons_zero, List.set_cons_succ]
        refine wpAnyH_take (i := 5) (v := .int .i64 (k : Int)) rfl (by kernel_rfl) (by kernel_rfl) (by kernel_rfl) (fun _ _ _ h => h) (Or.inl ⟨by rfl, ?y5⟩) hHeld ?_
        case y5 => intro w hSw; go_simp
        simp only [Act.put, List.getElem_toArray, List.getElem_cons_succ, List.getElem_cons_zero, List.setIfInBounds_toArray, List.set_cons_zero, List.set_cons_succ]
        refine wpAnyH_take (i := 6) (v := .pointer (some ⟨b2, o2 + k * 19, Option.none⟩)) rfl (by kernel_rfl) (by kernel_rfl) (by kernel_rfl) (fun _ _ _ h => h) (Or.inl ⟨by rfl, ?y6⟩) hHeld ?_
        case y6 => intro w hSw; go_simp
        simp only [Act.put, List.getElem_toArray, List.getElem_cons_succ, List.getElem_cons_zero, List.setIfInBounds_toArray, List.set_cons_zero, List.set_cons_succ]
        refine wpAnyH_take (i := 7) (v := .agg C.toArray) rfl (by kernel_rfl) (by kernel_rfl) (by kernel_rfl) (fun _ _ _ h => h) (yieldsIf_load_mid (by rfl) 72 _ rfl b2 (o2 + k * 19) rfl C _ (fun w h => h.2) Tryz.underlying72 rfl hiC) hHeld ?_
        simp only [Act.put, List.getElem_toArray, List.getElem_cons_succ, List.getElem_cons_zero, List.setIfInBounds_toArray, List.set_cons_zero, List.set_cons_succ]
        refine wpAnyH_ready (rs := [8]) (by kernel_rfl) (by simp) ?_
        refine AllReadyH.cons rfl (fun K hK => ?_) AllReadyH.nil
        rw [if_pos (by rfl)]
        simp only [List.getElem_toArray, List.getElem_cons_succ, List.getElem_cons_zero]
        go_wp2_with fail
        have hq := eqStmt_any h l A C a1 a2 a3 a4 a c1 c2 c3 c4 c HAC.out.1 HAC.out.2 HK.out Hl.out _ HU.out.1.1.drew HU.out.1.2.drew HU.out.2.1.drew HU.out.2.2.drew
        refine hq.mono ?_
        rintro e w1 ⟨rfl, hb1⟩
        go_wp2_with fail
        refine hK.out _ _ ⟨rangeAt_later hHeld.1 hb1, rangeAt_later hHeld.2 hb1⟩ (fun hHeld => ?_)
        clear hq
        refine wpAnyH_take (i := 9) (v := .bool false) rfl (by kernel_rfl) (by kernel_rfl) (by kernel_rfl) (fun _ _ _ h => h) (Or.inl ⟨by rfl, ?y9⟩) hHeld ?_
        case y9 => intro w hSw; go_simp
        simp only [Act.put, List.getElem_toArray, List.getElem_cons_succ, List.getElem_cons_zero, List.setIfInBounds_toArray, List.set_cons_zero, List.set_cons_succ]
        refine wpAnyH_done (by kernel_rfl) ?_ _
        all_goals (try go_wp2_with fail)
        all_goals go_meet
        all_goals exact ⟨rfl, ⟨hb1.os, hb1.tape, hb1.output, hb1.size, hb1.block⟩⟩
      case rest =>
        obtain ⟨rfl, hb1⟩ := hcut
        have hbw2 := hbw.trans (hb1.mono hbw.size)
        clear ra rc hb1 hu hiA hiC lA lC
        go_wp2
        go_roundw
        case rel => exact ⟨r, k + 1, by go_num, He.out, hbw2⟩
        case measure => simp [RowKit.intOf]; omega
theorem eqStmtS_all : ∀ (n : Nat) (F : SF), snodes F < n → ssize F ≤ 1048576 → ∀ (w : World) (va vb : Value), SV w 0 F va → SV w 0 F vb → Calls Tryz.prog 81 #[va, vb] w fun e w' => e = .returned (.bool true) ∧ Below w.heap.size w w'
  | 0, _, h, _, _, _, _, _, _ => absurd h (by omega)
  | n + 1, F, h, hF, w, va, vb, ha, hb => eqStmtS_step F hF (fun l hl hk w va vb a b => eqStmtS_all n l (by omega) hk w va vb a b) w va vb ha hb
theorem eqStmtS_is (F : SF) (hF : ssize F ≤ 1048576) (w : World) (va vb : Value) (ha : SV w 0 F va) (hb : SV w 0 F vb) :
    Calls Tryz.prog 81 #[va, vb] w fun e w' => e = .returned (.bool true) ∧ Below w.heap.size w w' := eqStmtS_all _ F (Nat.lt_succ_self _) hF w va vb ha hb
end Go.Proofs.YtkhccpjkajhnpaaGreatDoor
/-
  What it is that two expressions are the same.
-/
namespace Go.Proofs.YtkhccpjkajhnpaaGreatDoor
open Go.RowKit Go.Lib
set_option linter.unusedSimpArgs false
set_option linter.unusedVariables false

def hsame (a b : EH) : Bool := decide (a.k = b.k) && decide (a.n = b.n) && decide (a.s = b.s)
def esame : EF → EF → Bool
  | .nil, .nil => true
  | .node _ _ h l r, .node _ _ h' l' r' => hsame h h' && (esame l l' && esame r r')
  | _, _ => false
def xsame (a b : X) : Bool := hsame a.h b.h && esame a.l b.l
theorem esame_len : ∀ F G : EF, esame F G = true → elen F = elen G
  | .nil, .nil, _ => rfl
  | .node _ _ h l r, .node _ _ h' l' r', e => by
    simp only [esame, Bool.and_eq_true] at e
    have := esame_len r r' e.2.2
    simp only [elen]; omega
  | .nil, .node _ _ _ _ _, e => by simp [esame] at e
  | .node _ _ _ _ _, .nil, e => by simp [esame] at e
theorem esame_node (p q p' q' : Nat) (h h' : EH) (l r l' r' : EF) : esame (.node p q h l r) (.node p' q' h' l' r') = (xsame ⟨h, l⟩ ⟨h', l'⟩ && esame r r') := by simp only [esame, xsame, Bool.and_assoc]
theorem esame_diff {F G : EF} (h : ¬ elen F = elen G) : esame F G = false := by
  cases e : esame F G with
  | false => rfl
  | true => exact absurd (esame_len F G e) h
end Go.Proofs.YtkhccpjkajhnpaaGreatDoor
