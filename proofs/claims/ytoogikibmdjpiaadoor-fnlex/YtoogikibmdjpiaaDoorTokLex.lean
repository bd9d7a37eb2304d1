/-
  The contract of the landed code's Lex.
-/
import Derived.Test.YtoogikibmdjpiaaDoorTokImpl
import Derived.Test.YtoogikibmdjpiaaDoorTokStep
import Derived.OwnWalk
namespace Go.Proofs.YtoogikibmdjpiaaDoor
open Go.RowKit Go.Lib
set_option linter.unusedSimpArgs false

def cells3 (t : T) : List Value := [.int .i64 t.k, .string ⟨t.s.toArray⟩, .int .i64 t.n]
def cellsOf (ts : List T) : List Value := ts.flatMap cells3
theorem cellsOf_snoc (ts : List T) (t : T) : cellsOf (ts ++ [t]) = cellsOf ts ++ cells3 t := by simp [cellsOf]
theorem cellsOf_length (ts : List T) : (cellsOf ts).length = ts.length * 3 := by
  induction ts with
  | nil => rfl
  | cons t ts ih => simp only [cellsOf, List.flatMap_cons, List.length_append, List.length_cons] at ih ⊢; rw [ih]; simp [cells3]; omega
/-- A row that the call owns stands while nothing turns its block. -/
theorem own_later {w w' : World} {B sz n : Nat} {e : TypeId} {v : Value} {xs : List Value} (h : w.ownsRow B e sz v n xs) (hk : ∀ g c, B ≤ g → w.heap[g]? = some (.cells c e (0, 0)) → w'.heap[g]? = w.heap[g]?) : w'.ownsRow B e sz v n xs := by
  refine ⟨h.1, ?_⟩
  rcases h.2 with h0 | ⟨g, cap, cur, h1, h2, h3, h4⟩
  · exact .inl h0
  · exact .inr ⟨g, cap, cur, h1, h2, (hk g cur h2 h3).trans h3, h4⟩
theorem lt_of_heap {w : World} {g : Nat} {o : Obj} (h : w.heap[g]? = some o) : g < w.heap.size := (Array.getElem?_eq_some_iff.1 h).1
theorem own_below {w w' : World} {B sz n : Nat} {e : TypeId} {v : Value} {xs : List Value} (h : w.ownsRow B e sz v n xs) (hb : Below w.heap.size w w') : w'.ownsRow B e sz v n xs :=
  own_later h fun g _ _ hg => hb.block g (lt_of_heap hg)
theorem own_iter {w : World} {B sz n I p q : Nat} {s : ByteArray} {e : TypeId} {v : Value} {xs : List Value} (h : w.ownsRow B e sz v n xs) (hit : w.heap[I]? = some (.stringIter s p)) : (w.iterAt I s q).ownsRow B e sz v n xs :=
  own_later h fun g c _ hg => by
    have hne : g ≠ I := by intro e; subst e; rw [hit] at hg; cases hg
    exact Lib.iterAt_other w I g s q hne
theorem own_shape {w : World} {B sz n : Nat} {e : TypeId} {v : Value} {xs : List Value} (h : w.ownsRow B e sz v n xs) : ∃ ao cap, v = .slice ao n cap := by
  rcases h.2 with ⟨h0, rfl⟩ | ⟨g, cap, cur, h1, _⟩
  · exact ⟨_, _, h0⟩
  · exact ⟨_, _, h1⟩
theorem own_apart {w : World} {B sz n I p : Nat} {s : ByteArray} {e : TypeId} {v : Value} {xs : List Value} (h : w.ownsRow B e sz v n xs) (hit : w.heap[I]? = some (.stringIter s p)) : some I ≠ v.ownBlock := by
  rcases h.2 with ⟨h0, rfl⟩ | ⟨g, cap, cur, h1, _, h3, _⟩
  · subst h0; intro e; cases e
  · subst h1; intro e; injection e with e; subst e; rw [hit] at h3; cases h3
theorem below_keeps {w w' : World} {I : Nat} {o : Obj} (hb : Below w.heap.size w w') (h : w.heap[I]? = some o) : w'.heap[I]? = some o := (hb.block I (lt_of_heap h)).trans h
/-- What Lex answers: the signs in a row that the call has laid, and whether there are any to answer. -/
def LexOut (B : Nat) (w' : World) (o : Option (List T)) (e : Ending) : Prop :=
  ∃ v, e = .returned (.tuple #[v, .bool o.isSome]) ∧ w'.ownsRow B 47 3 v (o.getD []).length (cellsOf (o.getD []))
theorem infoTok : (Tryd.prog.info? 47).map (fun i => (i.zero, i.size, i.bytes)) = some (some (.agg #[.int .i64 0, .string ⟨#[]⟩, .int .i64 0]), 3, 32) := by kernel_rfl
theorem iterPos_of {w : World} {I p : Nat} {s : ByteArray} (h : w.heap[I]? = some (.stringIter s p)) : w.iterPos I = p := by simp only [World.iterPos, h]
theorem laid3 (w : World) (t : T) (N : Nat) (hN : w.heap.size = N) : ∀ j u, (cells3 t)[j]? = some u → (w.alloc (.cells #[.int .i64 t.k, .string ⟨t.s.toArray⟩, .int .i64 t.n] 47)).cell? ((⟨N, 0, Option.none⟩ : Addr).add j) = some u := by
  subst hN
  intro j u h
  have e : (w.alloc (.cells #[.int .i64 t.k, .string ⟨t.s.toArray⟩, .int .i64 t.n] 47)).heap[w.heap.size]? = some (.cells #[.int .i64 t.k, .string ⟨t.s.toArray⟩, .int .i64 t.n] 47 (0, 0)) := by
    show (w.heap.push _)[w.heap.size]? = _
    simp
  have e2 : ((⟨w.heap.size, 0, Option.none⟩ : Addr).add j) = ⟨w.heap.size, j, Option.none⟩ := by simp [Addr.add]; omega
  rw [e2]
  simp only [World.cell?, e]
  match j, h with
  | 0, h => simpa [cells3] using h
  | 1, h => simpa [cells3] using h
  | 2, h => simpa [cells3] using h
  | j + 3, h => simp [cells3] at h
theorem one3 (t : T) : ∀ u ∈ cells3 t, u.oneCell' = true := by
  intro u hu
  simp only [cells3, List.mem_cons, List.not_mem_nil, or_false] at hu
  rcases hu with rfl | rfl | rfl <;> rfl
/-- What an append of one sign leaves. -/
theorem snoc_own {w3 : World} {B : Nat} {done : List T} {t : T} {v : Value} (h : w3.ownsRow B 47 3 v (done.length + 1) (cellsOf done ++ cells3 t)) : w3.ownsRow B 47 3 v (done ++ [t]).length (cellsOf (done ++ [t])) := by
  rw [cellsOf_snoc, List.length_append]; exact h
theorem snoc_iter {w2 w3 : World} {B I p n : Nat} {s : ByteArray} {v : Value} {xs : List Value} {o1 o2 : Obj} (hown : w2.ownsRow B 47 3 v n xs) (hit : w2.heap[I]? = some (.stringIter s p)) (hg : ((w2.alloc o1).alloc o2).grownBy w3 v.ownBlock) : w3.heap[I]? = some (.stringIter s p) := by
  have h1 := lt_of_heap hit
  rw [hg.block I (by simp; omega) (own_apart hown hit), Below.heap_alloc _ _ _ (by simp; omega), Below.heap_alloc _ _ _ h1]
  exact hit
theorem snoc_below {w w2 w3 : World} {n : Nat} {v : Value} {xs : List Value} {o1 o2 : Obj} (hown : w2.ownsRow w.heap.size 47 3 v n xs) (hb : Below w.heap.size w w2) (hg : ((w2.alloc o1).alloc o2).grownBy w3 v.ownBlock) : Below w.heap.size w w3 :=
  ((hb.alloc hb.size o1).alloc (by have := hb.size; simp; omega) o2).grown hg (by have := hb.size; simp; omega) (fun k hk => (hown.lt k hk).1)
set_option maxHeartbeats 4000000 in
set_option maxRecDepth 100000 in
theorem impl_Lex_text (s tx : ByteArray) (htx : s ++ ⟨#[32]⟩ = tx) (R : Option (List T)) (hR : cut [] (pend 0 [] tx.data.toList) = R) (w : World) (hE : Env w) (hlim : s.size ≤ 3000) (hsz : tx.size = s.size + 1) (hlast : ∀ k, k + 1 = tx.size → tx.get! k = 32) :
    Calls Tryd.prog 8 #[.string s] w fun e w' => LexOut w.heap.size w' R e ∧ Below w.heap.size w w' := by
  have hl : ¬ (3000 : Int) < (s.size : Int) := by omega
  have hlen : tx.data.toList.length = tx.size := by simp
  have HR := Lib.hid hR
  have Hlast := Lib.hid hlast
  have Hsz : Hid (tx.size ≤ 3001) := show tx.size ≤ 3001 by omega
  obtain ⟨i0, hi, hz0, hz1, hz2⟩ := info_parts infoTok
  clear hR hlast hsz hlim
  go_enter Tryd.func8, Tryd.ntmps8
  go_wp2
  clear htx
  go_loopw [5, 6, 7] (fun v f k wr => ∃ (done : List T) (kk ff pos : Nat), f = .int .i64 ff ∧ k = .int .i64 kk ∧ wr.ownsRow w.heap.size 47 3 v done.length (cellsOf done) ∧ wr.heap[w.heap.size + 1]? = some (.stringIter tx pos) ∧ Below w.heap.size w wr ∧ Hid (St tx.data.toList R done kk ff pos)) (fun _ _ _ wr => tx.size - wr.iterPos (w.heap.size + 1))
  case atStart =>
    refine ⟨[], 0, 0, 0, rfl, rfl, ?_, ?_, ((Below.refl _ w).alloc (Nat.le_refl _) _).alloc (by simp) _, ?_⟩
    · refine ⟨rfl, .inr ⟨w.heap.size, 0, #[], rfl, Nat.le_refl _, ?_, Nat.le_refl _, by unfold maxLen; omega, rfl, rfl⟩⟩
      rw [show (w.alloc (Obj.cells #[] 47)).iter tx 0 = (w.alloc (Obj.cells #[] 47)).alloc (.stringIter tx 0) from rfl, Below.heap_alloc _ _ _ (by simp)]
      show (w.heap.push (Obj.cells #[] 47 (0, 0)))[w.heap.size]? = _
      simp
    · have := World.iter_heap (w.alloc (Obj.cells #[] 47)) tx 0
      simpa using this
    · show St tx.data.toList R [] 0 0 0
      rw [← HR.out]; exact St.start _
  case round =>
    obtain ⟨done, kk, ff, pos, rfl, rfl, hown, hit, hbw, hst⟩ := hrel
    obtain ⟨ao, cap, rfl⟩ := own_shape hown
    have hI : w.heap.size + 1 < wr.heap.size := lt_of_heap hit
    by_cases hp : pos < tx.size
    · have hnx : ∀ ty, (Instr.next (.pointer (some ⟨w.heap.size + 1, 0, Option.none⟩)) true ty).run Tryd.prog wr = _ := fun ty => Lib.run_next_any_at wr (w.heap.size + 1) tx pos ty hit hp
      have hit1 := Lib.iterAt_heap wr (w.heap.size + 1) tx pos (pos + (Utf8.decode tx pos).2) hit
      have hown1 := own_iter (q := pos + (Utf8.decode tx pos).2) hown hit
      have hbw1 := Lib.below_iterAt hbw (k := w.heap.size + 1) (by omega) tx (pos + (Utf8.decode tx pos).2)
      have hpl : pos < tx.data.toList.length := by simpa using hp
      have hb : tx.data.toList[pos]'hpl = tx[pos]'hp := by rw [Array.getElem_toList]; rfl
      obtain ⟨wd, hwdE⟩ : ∃ wd, (Utf8.decode tx pos).2 = wd := ⟨_, rfl⟩
      have hwd1 : 1 ≤ wd := by rw [← hwdE]; exact decode_width_pos tx pos hp
      have hwd : kind (tx.data.toList[pos]'hpl) ≠ 4 → wd = 1 := fun h => by rw [hb] at h; rw [← hwdE, decode_ascii tx pos hp (kind_low h)]
      have hwd4 : kind (tx.data.toList[pos]'hpl) = 4 → pos + wd < tx.data.toList.length := by
        intro h4
        rw [hb] at h4
        rw [hlen, ← hwdE]
        by_cases ha : (tx[pos]'hp).toNat < 128
        · rw [decode_ascii tx pos hp ha]
          rcases Nat.lt_or_ge (pos + 1) tx.size with h1 | h1
          · exact h1
          · have := Hlast.out pos (by omega)
            rw [get_bang tx pos hp] at this
            rw [this] at h4
            exact absurd h4 (by decide)
        · exact decode_inside tx pos hp (fun k hk => by rw [Hlast.out k hk]; decide) (by rw [get_bang tx pos hp]; omega)
      obtain ⟨n, hn⟩ : ∃ n, kind (tx[pos]'hp) = n := ⟨_, rfl⟩
      rw [hb, hn] at hwd hwd4
      have Hon : Hid (n = kk → goes kk = true → St tx.data.toList R done kk ff (pos + 1)) := fun h1 h2 => hst.out.on hpl (by rw [hb, hn]; exact h1) h2
      have Hgap : Hid (kk = 0 → St tx.data.toList R done n pos (pos + wd)) := fun h1 => by
        subst h1; have := hst.out.gap (wd := wd) hpl hwd1 (by rw [hb, hn]; exact hwd) (by rw [hb, hn]; exact hwd4); rw [hb, hn] at this; exact this
      have Htok : Hid (∀ t, kk ≠ 0 → ¬ (n = kk ∧ goes kk = true) → tok kk (piece tx.data.toList ff pos) = some t → done.length ≠ 600 → St tx.data.toList R (done ++ [t]) n pos (pos + wd)) := fun t h1 h2 h3 h4 => by
        have := hst.out.tok (wd := wd) hpl h1 (by rw [hb, hn]; exact h2) h3 h4 hwd1 (by rw [hb, hn]; exact hwd) (by rw [hb, hn]; exact hwd4); rw [hb, hn] at this; exact this
      have Hbad : Hid (kk ≠ 0 → ¬ (n = kk ∧ goes kk = true) → tok kk (piece tx.data.toList ff pos) = Option.none → R = Option.none) := fun h1 h2 h3 => hst.out.bad hpl h1 (by rw [hb, hn]; exact h2) h3
      have Hfull : Hid (∀ t, kk ≠ 0 → ¬ (n = kk ∧ goes kk = true) → tok kk (piece tx.data.toList ff pos) = some t → done.length = 600 → R = Option.none) := fun t h1 h2 h3 h4 => hst.out.full hpl h1 (by rw [hb, hn]; exact h2) h3 h4
      have Hn := Lib.hid hn
      have Hon1 : Hid (n = kk → goes kk = true → wd = 1) := fun h1 h2 => hwd (by rw [h1]; intro e; rw [e] at h2; cases h2)
      clear hwd hwd4 hb hpl hn
      rw [hwdE] at hit1 hown1 hbw1
      have Hw := Lib.hid hwdE
      have hsI : w.heap.size + 1 < (wr.iterAt (w.heap.size + 1) tx (pos + wd)).heap.size := by rw [Lib.iterAt_size]; exact hI
      have Hpos := Lib.hid (iterPos_of hit)
      clear hit hown hbw
      go_wp2_with fail
      clear hwdE hnx
      generalize wr.iterAt (w.heap.size + 1) tx (pos + wd) = w0 at *
      refine (runeKind_at tx pos hp w0).mono ?_
      rintro e w1 ⟨rfl, hb1⟩
      rw [Hn.out]
      have hit2 := below_keeps hb1 hit1
      have hown2 := own_below hown1 hb1
      have hbw2 := hbw1.trans (hb1.mono hbw1.size)
      clear hit1 hown1 hbw1 hsI
      by_cases hgo : n = kk ∧ goes kk = true
      · obtain ⟨rfl, hg⟩ := hgo
        have Hg := Lib.hid hg
        have hm := Hon1.out rfl hg
        have hS := Lib.hid (Hon.out rfl hg)
        subst hm
        clear hg Hon Hgap Htok Hbad Hfull hb1
        go_wp2_with fail
        refine (goesOn_is n true Hg.out _).mono ?_
        rintro e w' ⟨rfl, rfl⟩
        go_wp2
        go_roundw
        case rel => exact ⟨done, n, ff, pos + 1, rfl, rfl, hown2, hit2, hbw2, hS⟩
        case measure => rw [iterPos_of hit2, Hpos.out]; omega
      · have hle := hst.out.le
        have hne0 := hst.out.ne
        have hk4 := hst.out.k4
        have hn600 := hst.out.n600
        have hlet := Lib.hid (fun h => hst.out.letters h)
        have Hgo := Lib.hid hgo
        by_cases hk0 : kk = 0
        · subst hk0
          have hS := Lib.hid (Hgap.out rfl)
          clear hgo Hon Hgap Htok Hbad Hfull hb1 hne0 hlet
          by_cases h0 : n = 0
          · subst h0
            go_wp2_with (go_at_call 29; refine (goesOn_is 0 false rfl _).mono ?_; rintro e w' ⟨rfl, rfl⟩)
            go_roundw
            case rel => exact ⟨done, 0, pos, pos + wd, rfl, rfl, hown2, hit2, hbw2, hS⟩
            case measure => rw [iterPos_of hit2, Hpos.out]; omega
          · have h0' : ((n : Int) == 0) = false := by rw [beq_eq_false_iff_ne]; omega
            clear h0
            go_wp2
            go_roundw
            case rel => exact ⟨done, n, pos, pos + wd, rfl, rfl, hown2, hit2, hbw2, hS⟩
            case measure => rw [iterPos_of hit2, Hpos.out]; omega
        · have hk0' : ((kk : Int) == 0) = false := by rw [beq_eq_false_iff_ne]; omega
          have hlt := hne0 hk0
          have hfI : (ff : Int) ≤ (pos : Int) := by omega
          have hpI : (pos : Int) ≤ (tx.size : Int) := by omega
          have hf0 : (0 : Int) ≤ (ff : Int) := by omega
          have Hpc : Hid ((tx.extract ff pos).data.toList = piece tx.data.toList ff pos) := extract_piece tx ff pos
          have hE1 : Env w1 := hE.later hbw2 (Nat.le_refl _)
          have Hk0 := Lib.hid hk0
          have hxs : (tx.extract ff pos).size = pos - ff := by simp [ByteArray.size_extract]; omega
          have Hxs := Lib.hid hxs
          clear hgo Hon Hgap hb1 hne0 hk0 hxs
          rcases (by omega : n = kk ∨ n ≠ kk) with hnk | hnk
          · have hnk' : ((n : Int) == (kk : Int)) = true := by rw [beq_iff_eq]; omega
            have hgf : Hid (goes kk = false) := show goes kk = false by
              cases hg : goes kk with
              | false => rfl
              | true => exact absurd ⟨hnk, hg⟩ Hgo.out
            clear hnk
            go_wp2_with fail
            refine (goesOn_is kk false hgf.out _).mono ?_
            rintro e w' ⟨rfl, rfl⟩
            go_wp2_with fail
            refine (tokOf_is kk (by have := Hk0.out; omega) hk4 (tx.extract ff pos) w1 (by rw [Hxs.out]; omega) (by rw [Hxs.out]; have := Hsz.out; omega) hE1 (fun h => by rw [Hpc.out]; exact hlet.out h)).mono ?_
            rintro e w2 ⟨⟨tk, ts, tn, tb, rfl, hres⟩, hb2⟩
            rw [Hpc.out] at hres
            have hit3 := below_keeps hb2 hit2
            have hown3 := own_below hown2 hb2
            have hbw3 := hbw2.trans (hb2.mono hbw2.size)
            clear hit2 hown2 hbw2 hb2 hE1
            cases htk : tok kk (piece tx.data.toList ff pos) with
            | none =>
              rw [htk] at hres
              obtain ⟨rfl, rfl, rfl, rfl⟩ := hres
              have HR2 := Lib.hid (Hbad.out Hk0.out Hgo.out htk)
              clear htk
              go_wp2
              go_ret2
              exact ⟨⟨_, by rw [HR2.out]; rfl, by rw [HR2.out]; exact World.ownsRow_nil _ _ _ _⟩, hbw3.alloc hbw3.size _⟩
            | some t =>
              rw [htk] at hres
              obtain ⟨rfl, rfl, rfl, rfl⟩ := hres
              by_cases h6 : done.length = 600
              · have HR2 := Lib.hid (Hfull.out t Hk0.out Hgo.out htk h6)
                have h6' : ((done.length : Int) == 600) = true := by rw [beq_iff_eq]; omega
                clear htk h6
                go_wp2
                go_ret2
                exact ⟨⟨_, by rw [HR2.out]; rfl, by rw [HR2.out]; exact World.ownsRow_nil _ _ _ _⟩, hbw3.alloc hbw3.size _⟩
              · have hS := Lib.hid (Htok.out t Hk0.out Hgo.out htk h6)
                have h6' : ((done.length : Int) == 600) = false := by rw [beq_eq_false_iff_ne]; omega
                clear htk h6
                go_wp2_with (at_builtin; refine wpList_append_own _ rfl _ _ 25 rfl w.heap.size 47 i0 _ 3 32 Tryd.underlying25 hi hz0 hz1 hz2 rfl (by decide) _ _ _ rfl ((hown3.alloc _).alloc _) ⟨w2.heap.size + 1, 0, Option.none⟩ 1 1 (cells3 t) rfl rfl ?c1 ?c2 ?c3 ?c4 ?c5 ?_)
                case c1 => exact laid3 _ t _ (by simp)
                case c2 => exact one3 t
                case c3 => unfold maxLen; omega
                case c4 => omega
                case c5 => have := hbw3.size; simp; omega
                intro v' w3 hown' hgrow _
                have hit4 := snoc_iter hown3 hit3 hgrow
                have hbw4 := snoc_below hown3 hbw3 hgrow
                have hown4 := snoc_own hown'
                clear hown' hgrow hown3 hit3 hbw3
                go_wp2
                go_roundw
                case rel => exact ⟨done ++ [t], n, pos, pos + wd, rfl, rfl, hown4, hit4, hbw4, hS⟩
                case measure => rw [iterPos_of hit4, Hpos.out]; omega
          · have hnk' : ((n : Int) == (kk : Int)) = false := by rw [beq_eq_false_iff_ne]; omega
            clear hnk
            go_wp2_with fail
            refine (tokOf_is kk (by have := Hk0.out; omega) hk4 (tx.extract ff pos) w1 (by rw [Hxs.out]; omega) (by rw [Hxs.out]; have := Hsz.out; omega) hE1 (fun h => by rw [Hpc.out]; exact hlet.out h)).mono ?_
            rintro e w2 ⟨⟨tk, ts, tn, tb, rfl, hres⟩, hb2⟩
            rw [Hpc.out] at hres
            have hit3 := below_keeps hb2 hit2
            have hown3 := own_below hown2 hb2
            have hbw3 := hbw2.trans (hb2.mono hbw2.size)
            clear hit2 hown2 hbw2 hb2 hE1
            cases htk : tok kk (piece tx.data.toList ff pos) with
            | none =>
              rw [htk] at hres
              obtain ⟨rfl, rfl, rfl, rfl⟩ := hres
              have HR2 := Lib.hid (Hbad.out Hk0.out Hgo.out htk)
              clear htk
              go_wp2
              go_ret2
              exact ⟨⟨_, by rw [HR2.out]; rfl, by rw [HR2.out]; exact World.ownsRow_nil _ _ _ _⟩, hbw3.alloc hbw3.size _⟩
            | some t =>
              rw [htk] at hres
              obtain ⟨rfl, rfl, rfl, rfl⟩ := hres
              by_cases h6 : done.length = 600
              · have HR2 := Lib.hid (Hfull.out t Hk0.out Hgo.out htk h6)
                have h6' : ((done.length : Int) == 600) = true := by rw [beq_iff_eq]; omega
                clear htk h6
                go_wp2
                go_ret2
                exact ⟨⟨_, by rw [HR2.out]; rfl, by rw [HR2.out]; exact World.ownsRow_nil _ _ _ _⟩, hbw3.alloc hbw3.size _⟩
              · have hS := Lib.hid (Htok.out t Hk0.out Hgo.out htk h6)
                have h6' : ((done.length : Int) == 600) = false := by rw [beq_eq_false_iff_ne]; omega
                clear htk h6
                go_wp2_with (at_builtin; refine wpList_append_own _ rfl _ _ 25 rfl w.heap.size 47 i0 _ 3 32 Tryd.underlying25 hi hz0 hz1 hz2 rfl (by decide) _ _ _ rfl ((hown3.alloc _).alloc _) ⟨w2.heap.size + 1, 0, Option.none⟩ 1 1 (cells3 t) rfl rfl ?c1 ?c2 ?c3 ?c4 ?c5 ?_)
                case c1 => exact laid3 _ t _ (by simp)
                case c2 => exact one3 t
                case c3 => unfold maxLen; omega
                case c4 => omega
                case c5 => have := hbw3.size; simp; omega
                intro v' w3 hown' hgrow _
                have hit4 := snoc_iter hown3 hit3 hgrow
                have hbw4 := snoc_below hown3 hbw3 hgrow
                have hown4 := snoc_own hown'
                clear hown' hgrow hown3 hit3 hbw3
                go_wp2
                go_roundw
                case rel => exact ⟨done ++ [t], n, pos, pos + wd, rfl, rfl, hown4, hit4, hbw4, hS⟩
                case measure => rw [iterPos_of hit4, Hpos.out]; omega
    · have hR := hst.out.done (by rw [hlen]; exact hp)
      have hnx : ∀ ty, (Instr.next (.pointer (some ⟨w.heap.size + 1, 0, Option.none⟩)) true ty).run Tryd.prog wr = _ := fun ty => Lib.run_next_end_at wr (w.heap.size + 1) tx pos ty hit hp
      go_wp2
      go_ret2
      exact ⟨⟨_, by rw [hR]; rfl, by rw [hR]; exact hown⟩, hbw⟩
set_option maxRecDepth 100000 in
/-- The landed code's Lex, at every text. -/
theorem impl_Lex (s : ByteArray) (o : Option (List T)) (ho : lex s.data.toList = o) (w : World) (hE : Env w) :
    Calls Tryd.prog 8 #[.string s] w fun e w' => LexOut w.heap.size w' o e ∧ Below w.heap.size w w' := by
  have hlen : s.data.toList.length = s.size := by simp
  by_cases hg : 3000 < s.size
  · have hO : Hid (o = Option.none) := show o = Option.none by rw [← ho, lex, if_pos (by omega)]
    have hg' : (3000 : Int) < (s.size : Int) := by omega
    clear hg ho hlen hE
    go_enter Tryd.func8, Tryd.ntmps8
    go_wp2
    go_ret2
    exact ⟨⟨_, by rw [hO.out]; rfl, by rw [hO.out]; exact World.ownsRow_nil _ _ _ _⟩, Below.refl _ _⟩
  · have hd : (s ++ (⟨#[32]⟩ : ByteArray)).data.toList = s.data.toList ++ [32] := by simp
    have hz : (s ++ (⟨#[32]⟩ : ByteArray)).size = s.size + 1 := by simp [ByteArray.size_append]; rfl
    refine impl_Lex_text s _ rfl o ?_ w hE (by omega) hz ?_
    · rw [hd, ← ho, lex, if_neg (by omega)]
    · intro k hk
      have hlt : k < (s ++ (⟨#[32]⟩ : ByteArray)).size := by omega
      rw [get_bang _ k hlt]
      have e : (s ++ (⟨#[32]⟩ : ByteArray)).data.toList[k]? = some ((s ++ (⟨#[32]⟩ : ByteArray))[k]'hlt) := by
        rw [List.getElem?_eq_getElem (by rw [hd]; simp; omega), Array.getElem_toList]; rfl
      rw [hd, List.getElem?_append_right (by omega), show k - s.data.toList.length = 0 by omega] at e
      exact (Option.some.inj e).symm
end Go.Proofs.YtoogikibmdjpiaaDoor
