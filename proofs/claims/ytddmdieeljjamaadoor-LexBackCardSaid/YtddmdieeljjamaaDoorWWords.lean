/-
  ANY WORD LAID BEHIND THE OTHERS: the closure of lex.Words, by contract.
-/
import Derived.Test.YtddmdieeljjamaaDoorWWord
namespace Go.Proofs.YtddmdieeljjamaaDoor
open Go.ChangeShapes Go.WideShapes Go.ChangeAt Go.RowKit

theorem hiddenW {p : Prop} (h : p) : Hid p := h
theorem infoWord : (Tryd.prog.info? 35).map (fun i => (i.zero, i.size, i.bytes)) = some (some (.agg #[.int .i64 0, .string ⟨#[]⟩, .int .i64 0, .int .i64 0, .string ⟨#[]⟩, .int .i64 0]), 6, 64) := by kernel_rfl
theorem cell_six_new (w : World) (a b c d e f : Value) (t : TypeId) : ∀ j u, [a, b, c, d, e, f][j]? = some u → (w.alloc (.cells #[a, b, c, d, e, f] t)).cell? ((⟨w.heap.size, 0, none⟩ : Addr).add j) = some u := by
  intro j u hj
  have h : (w.alloc (.cells #[a, b, c, d, e, f] t)).heap[w.heap.size]? = some (.cells #[a, b, c, d, e, f] t) := by show (w.heap.push _)[w.heap.size]? = _; simp
  have e1 : (⟨w.heap.size, 0, none⟩ : Addr).add j = ⟨w.heap.size, j, none⟩ := by
    by_cases hj : j = 0
    · subst hj; simp [Addr.add]
    · simp [Addr.add, hj]
  rw [e1]
  unfold World.cell?
  simp only [h]
  match j, hj with
  | 0, hj | 1, hj | 2, hj | 3, hj | 4, hj | 5, hj => exact hj
  | j + 6, hj => simp at hj
theorem one_cell {w : World} {b : Nat} {v : Value} {t : TypeId} (h : w.heap[b]? = some (.cells #[v] t)) : w.cell? ⟨b, 0, none⟩ = some v ∧ w.frozen? ⟨b, 0, none⟩ = false := by
  simp [World.cell?, World.frozen?, h]
theorem one_set {w : World} {b : Nat} {v : Value} {t : TypeId} (h : w.heap[b]? = some (.cells #[v] t)) (u : Value) : (w.setCell ⟨b, 0, none⟩ u).heap[b]? = some (.cells #[u] t) := by
  simp [World.setCell, Array.getElem?_modify, h]
theorem set_oth {w : World} {g b : Nat} {o : Obj} (h : w.heap[b]? = some o) (hne : g ≠ b) (j : Nat) (u : Value) : (w.setCell ⟨g, j, none⟩ u).heap[b]? = some o := by
  simp [World.setCell, Array.getElem?_modify, hne, h]
theorem alloc_oth {w : World} {b : Nat} {o : Obj} (h : w.heap[b]? = some o) (o' : Obj) : (w.alloc o').heap[b]? = some o := by
  show (w.heap.push _)[b]? = _
  rw [Array.getElem?_push, if_neg (by have := (Array.getElem?_eq_some_iff.1 h).1; omega)]
  exact h
theorem ne_types {w : World} {b c : Nat} {x y : Array Value} {t u : TypeId} (h1 : w.heap[b]? = some (.cells x t)) (h2 : w.heap[c]? = some (.cells y u)) (ht : t ≠ u) : b ≠ c := fun e => by
  subst e
  rw [h1] at h2
  injection h2 with h2
  injection h2 with _ h2 _
  exact ht h2
theorem own_apart {w : World} {B te s n b : Nat} {v : Value} {xs : List Value} {cs : Array Value} {tb : TypeId} (h : w.ownsRow B te s v n xs) (hb : w.heap[b]? = some (.cells cs tb)) (ht : te ≠ tb) : v.ownBlock ≠ some b := by
  rcases h.2 with ⟨rfl, _⟩ | ⟨g, cap, cur, rfl, _, hg, _⟩
  · intro e; cases e
  · intro e
    have : g = b := by simpa [Value.ownBlock] using e
    subst this
    exact ne_types hg hb ht rfl
theorem own_set {w : World} {B te s n b : Nat} {v : Value} {xs : List Value} {cs : Array Value} {tb : TypeId} (h : w.ownsRow B te s v n xs) (hb : w.heap[b]? = some (.cells cs tb)) (ht : te ≠ tb) (j : Nat) (u : Value) : (w.setCell ⟨b, j, none⟩ u).ownsRow B te s v n xs := by
  obtain ⟨hl, h⟩ := h
  refine ⟨hl, ?_⟩
  rcases h with h | ⟨g, cap, cur, h1, h2, h3, h4⟩
  · exact .inl h
  · exact .inr ⟨g, cap, cur, h1, h2, set_oth h3 (ne_types hb h3 (Ne.symm ht)) j u, h4⟩

/-- Where words are put: the place, and the words so far. -/
structure Put (base : Nat) (w : World) (A L k m : Nat) (v : Value) (xs : List Value) : Prop where
  a : w.heap[A]? = some (.cells #[.int .i64 (k : Int)] 3)
  l : w.heap[L]? = some (.cells #[v] 23)
  own : w.ownsRow base 35 6 v m xs
  la : base ≤ A
  ll : base ≤ L
theorem Put.below {base : Nat} {w w' : World} {A L k m : Nat} {v : Value} {xs : List Value} (h : Put base w A L k m v xs) (hB : Below w.heap.size w w') : Put base w' A L k m v xs :=
  ⟨(hB.block _ (Array.getElem?_eq_some_iff.1 h.a).1).trans h.a, (hB.block _ (Array.getElem?_eq_some_iff.1 h.l).1).trans h.l, by
    obtain ⟨hl, hh⟩ := h.own
    refine ⟨hl, ?_⟩
    rcases hh with hh | ⟨g, cap, cur, h1, h2, h3, h4⟩
    · exact .inl hh
    · exact .inr ⟨g, cap, cur, h1, h2, (hB.block _ (Array.getElem?_eq_some_iff.1 h3).1).trans h3, h4⟩, h.la, h.ll⟩

set_option maxHeartbeats 3200000 in
set_option maxRecDepth 100000 in
theorem put_c (qk : Int) (qt : ByteArray) (qa qn : Int) (qv : ByteArray) (sz base A L k m : Nat) (v : Value) (xs : List Value) (w : World) (h : Put base w A L k m v xs) (hb : base ≤ w.heap.size) (hm : m ≤ 5000) (hk : k ≤ 5000) (hsz : sz ≤ 5000) :
    Calls Tryd.prog 15 #[.agg #[.int .i64 qk, .string qt, .int .i64 qa, .int .i64 qn, .string qv, .int .i64 0], .int .i64 (sz : Int), .pointer (some ⟨A, 0, none⟩), .pointer (some ⟨L, 0, none⟩)] w fun e w' => e = .returned (.tuple #[]) ∧ Below base w w' ∧ ∃ v', Put base w' A L (k + sz) (m + 1) v' (xs ++ [.int .i64 qk, .string qt, .int .i64 qa, .int .i64 qn, .string qv, .int .i64 (k : Int)]) := by
  obtain ⟨i0, hi, hz0, hz1, hz2⟩ := info_parts infoWord
  obtain ⟨a0, n0, c0, rfl⟩ : ∃ a n c, v = .slice a n c := by
    rcases h.own.2 with ⟨rfl, _⟩ | ⟨g, cap, cur, rfl, _⟩
    · exact ⟨_, _, _, rfl⟩
    · exact ⟨_, _, _, rfl⟩
  have hnb : A ≠ w.heap.size := by have := (Array.getElem?_eq_some_iff.1 h.a).1; omega
  have hnl : L ≠ w.heap.size := by have := (Array.getElem?_eq_some_iff.1 h.l).1; omega
  have hB1 : Below w.heap.size w (w.alloc (.cells #[.int .i64 qk, .string qt, .int .i64 qa, .int .i64 qn, .string qv, .int .i64 (k : Int)] 35)) := (Below.refl _ _).alloc (Nat.le_refl _) _
  have hP1 := hiddenW (h.below hB1)
  obtain ⟨p0, p1⟩ := one_cell (alloc_oth h.a (.cells #[.int .i64 qk, .string qt, .int .i64 qa, .int .i64 qn, .string qv, .int .i64 0] 35))
  obtain ⟨q0, q1⟩ := one_cell (alloc_oth h.l (.cells #[.int .i64 qk, .string qt, .int .i64 qa, .int .i64 qn, .string qv, .int .i64 (k : Int)] 35))
  go_enter Tryd.func15, Tryd.ntmps15
  have hle : Hid (base ≤ (w.alloc (.cells #[.int .i64 qk, .string qt, .int .i64 qa, .int .i64 qn, .string qv, .int .i64 (k : Int)] 35)).heap.size) := by show base ≤ (w.heap.push _).size; simp; omega
  have hown := hP1.out.own
  have hBb := hiddenW (hB1.mono hb)
  have hALn : Hid (L ≠ A) := by show _ ≠ _; exact ne_types h.l h.a (by decide)
  clear h hB1 hnb hnl
  go_wp2_with (at_builtin; refine wpList_append_own _ rfl _ _ 23 rfl base 35 i0 (.agg #[.int .i64 0, .string ⟨#[]⟩, .int .i64 0, .int .i64 0, .string ⟨#[]⟩, .int .i64 0]) 6 64 Tryd.underlying23 hi hz0 hz1 hz2 rfl (by decide) _ _ _ rfl (hown.alloc _) ⟨w.heap.size + 1, 0, none⟩ 1 1 [.int .i64 qk, .string qt, .int .i64 qa, .int .i64 qn, .string qv, .int .i64 (k : Int)] rfl rfl ?c1 ?c2 ?c3 ?c4 ?c5 ?_)
  case c1 =>
    have h := cell_six_new (w.alloc (.cells #[.int .i64 qk, .string qt, .int .i64 qa, .int .i64 qn, .string qv, .int .i64 (k : Int)] 35)) (.int .i64 qk) (.string qt) (.int .i64 qa) (.int .i64 qn) (.string qv) (.int .i64 (k : Int)) 35
    have e : (w.alloc (.cells #[.int .i64 qk, .string qt, .int .i64 qa, .int .i64 qn, .string qv, .int .i64 (k : Int)] 35)).heap.size = w.heap.size + 1 := by show (w.heap.push _).size = _; simp
    rw [e] at h
    exact h
  case c2 => intro u hu; simp at hu; rcases hu with rfl | rfl | rfl | rfl | rfl | rfl <;> rfl
  case c3 => unfold maxLen; omega
  case c4 => omega
  case c5 => have := hle.out; show base ≤ ((w.heap.push _).push _).size; simp; omega
  intro v' w2 hown2 hgrow _
  have hA2 := (hgrow.block A (Array.getElem?_eq_some_iff.1 (alloc_oth hP1.out.a _)).1 (fun e => own_apart hown hP1.out.a (by decide) e.symm)).trans (alloc_oth hP1.out.a _)
  have hL2 := (hgrow.block L (Array.getElem?_eq_some_iff.1 (alloc_oth hP1.out.l _)).1 (fun e => own_apart hown hP1.out.l (by decide) e.symm)).trans (alloc_oth hP1.out.l _)
  have hB2 : Below base w w2 := (hBb.out.alloc hle.out _).grown hgrow (by have := hle.out; show base ≤ ((w.heap.push _).push _).size; simp; omega) (fun j hj => by have := (hown.lt j hj).1; omega)
  obtain ⟨a1, n1, c1, rfl⟩ : ∃ a n c, v' = .slice a n c := by
    rcases hown2.2 with ⟨rfl, _⟩ | ⟨g, cap, cur, rfl, _⟩
    · exact ⟨_, _, _, rfl⟩
    · exact ⟨_, _, _, rfl⟩
  have hA3 := set_oth hA2 hALn.out 0 (.slice a1 n1 c1)
  have hL3 := one_set hL2 (.slice a1 n1 c1)
  have hown3 := own_set hown2 hL2 (by decide) 0 (.slice a1 n1 c1)
  have hB3 := hB2.setCell (p := ⟨L, 0, none⟩) hP1.out.ll (.slice a1 n1 c1)
  have hA4 := one_set hA3 (.int .i64 ((k : Int) + (sz : Int)))
  have hL4 := set_oth hL3 (Ne.symm hALn.out) 0 (.int .i64 ((k : Int) + (sz : Int)))
  have hown4 := own_set hown3 hA3 (by decide) 0 (.int .i64 ((k : Int) + (sz : Int)))
  have hB4 := hB3.setCell (p := ⟨A, 0, none⟩) hP1.out.la (.int .i64 ((k : Int) + (sz : Int)))
  have hfin : Hid (Below base w ((w2.setCell ⟨L, 0, none⟩ (.slice a1 n1 c1)).setCell ⟨A, 0, none⟩ (.int .i64 ((k : Int) + (sz : Int)))) ∧ Put base ((w2.setCell ⟨L, 0, none⟩ (.slice a1 n1 c1)).setCell ⟨A, 0, none⟩ (.int .i64 ((k : Int) + (sz : Int)))) A L (k + sz) (m + 1) (.slice a1 n1 c1) _) :=
    ⟨hB4, by have := hA4; rwa [show ((k : Int) + (sz : Int)) = ((k + sz : Nat) : Int) by simp] at this, hL4, hown4, hP1.out.la, hP1.out.ll⟩
  obtain ⟨l0, l1⟩ := one_cell hL2
  obtain ⟨b0, b1⟩ := one_cell hA3
  clear hA2 hL2 hB2 hA3 hL3 hown3 hB3 hA4 hL4 hown4 hB4 hown2 hgrow hown p0 p1 q0 q1
  go_wp2
  exact bodyPost_end (results_none rfl _ _ _) rfl ⟨rfl, hfin.out.1, _, hfin.out.2⟩
end Go.Proofs.YtddmdieeljjamaaDoor
/-
  THE WORDS OF ANY TEXT: lex.Words, by contract.
-/
namespace Go.Proofs.YtddmdieeljjamaaDoor
open Go.ChangeShapes Go.WideShapes Go.ChangeAt Go.RowKit

theorem two_newW (w : World) : (((w.alloc (.cells #[.slice none 0 0] 23)).alloc (.cells #[.int .i64 0] 3)).heap[w.heap.size]? = some (.cells #[.slice none 0 0] 23)) ∧
    (((w.alloc (.cells #[.slice none 0 0] 23)).alloc (.cells #[.int .i64 0] 3)).heap[w.heap.size + 1]? = some (.cells #[.int .i64 0] 3)) ∧
    Below w.heap.size w ((w.alloc (.cells #[.slice none 0 0] 23)).alloc (.cells #[.int .i64 0] 3)) := by
  have hs1 : (w.alloc (.cells #[.slice none 0 0] 23)).heap.size = w.heap.size + 1 := by show (w.heap.push _).size = _; simp
  refine ⟨alloc_oth (by show (w.heap.push _)[w.heap.size]? = _; simp) _, ?_, ((Below.refl _ _).alloc (Nat.le_refl _) _).alloc (by rw [hs1]; omega) _⟩
  have h : ∀ (x : World) (o : Obj), (x.alloc o).heap[x.heap.size]? = some o := fun x o => by show (x.heap.push _)[x.heap.size]? = _; simp
  have := h (w.alloc (.cells #[.slice none 0 0] 23)) (.cells #[.int .i64 0] 3)
  rwa [hs1] at this
/-- The number that lies at an address. -/
def numAt (w : World) (b : Nat) : Nat := (intOf ((w.cell? ⟨b, 0, none⟩).getD undef)).toNat
theorem numAt_of {w : World} {b k : Nat} {t : TypeId} (h : w.heap[b]? = some (.cells #[.int .i64 (k : Int)] t)) : numAt w b = k := by
  unfold numAt
  rw [(one_cell h).1]
  simp [intOf]
theorem own_len {w : World} {B te s n : Nat} {v : Value} {xs : List Value} (h : w.ownsRow B te s v n xs) : ∃ a c, v = .slice a n c := by
  rcases h.2 with ⟨rfl, h0⟩ | ⟨g, cap, cur, rfl, _⟩
  · exact ⟨none, 0, by rw [h0]⟩
  · exact ⟨_, _, rfl⟩
theorem Put.blank {base : Nat} {w : World} {A L k m : Nat} {v : Value} {xs : List Value} (h : Put base w A L k m v xs) : Put base (w.setCell ⟨A, 0, none⟩ (.int .i64 ((k : Int) + 1))) A L (k + 1) m v xs := by
  have hne : L ≠ A := ne_types h.l h.a (by decide)
  exact ⟨by have := one_set h.a (.int .i64 ((k : Int) + 1)); rwa [show ((k : Int) + 1) = ((k + 1 : Nat) : Int) by simp] at this, set_oth h.l (Ne.symm hne) 0 _, own_set h.own h.a (by decide) 0 _, h.la, h.ll⟩
set_option maxHeartbeats 6400000 in
set_option maxRecDepth 100000 in
theorem words_c (s : ByteArray) (w : World) (hn : s.size ≤ 1000) (hsig : ∀ k, k < 22 → w.cell? ⟨0, k, none⟩ = some (.string (siL.getD k ⟨#[]⟩))) :
    Calls Tryd.prog 8 #[.string s] w fun e w' => ∃ v, e = .returned (.tuple #[v, .int .i64 ((allWords s).2.1 : Int), .int .i64 (allWords s).2.2]) ∧ SlR wordR w' v (allWords s).1 ∧ Below w.heap.size w w' := by
  have hg : 0 < w.heap.size := World.block_lt_of_cell? w ⟨0, 0, none⟩ (hsig 0 (by omega))
  have hsg := hidden (fun (x : World) (hB : Below w.heap.size w x) k (hk : k < 22) => (hB.cell (p := ⟨0, k, none⟩) hg).trans (hsig k hk))
  clear hsig hg
  have hsz : (s.size : Int) ≤ 1000 := by omega
  obtain ⟨hL, hA, hB⟩ := two_newW w
  have hP : Hid (Put w.heap.size ((w.alloc (.cells #[.slice none 0 0] 23)).alloc (.cells #[.int .i64 0] 3)) (w.heap.size + 1) w.heap.size 0 0 (.slice none 0 0) (wordR.flat [])) :=
    ⟨hA, hL, ⟨rfl, .inl ⟨rfl, rfl⟩⟩, Nat.le_succ _, Nat.le_refl _⟩
  obtain ⟨b0, b1⟩ := one_cell hA
  clear hL hA
  replace hB := hidden hB
  obtain ⟨R, hR⟩ : ∃ R, Hid (wordsS s s.size 0 [] = R) := ⟨_, (rfl : wordsS s s.size 0 [] = _)⟩
  have hRR : Hid (allWords s = R) := hR.out
  rw [hRR.out]
  clear hRR
  go_enter Tryd.func8, Tryd.ntmps8
  go_wp2_with fail
  go_loopw [15] (fun _ x => ∃ (k f : Nat) (v : Value) (l : List Wd), k ≤ s.size ∧ s.size ≤ k + f ∧ l.length ≤ k ∧ Hid (Put w.heap.size x (w.heap.size + 1) w.heap.size k l.length v (wordR.flat l)) ∧ Hid (Below w.heap.size w x) ∧ Hid (wordsS s f k l = R))
    (fun _ x => s.size - numAt x (w.heap.size + 1))
  case atStart => exact ⟨0, s.size, _, [], Nat.zero_le _, by omega, Nat.le_refl _, hP, hB, hR⟩
  case round =>
    clear hP hB hR
    obtain ⟨k, f, v, l, hk, hf, hlk, hP, hB, hR⟩ := hrel
    clear b0 b1
    obtain ⟨b0, b1⟩ := one_cell hP.out.a
    have hnum := hidden (numAt_of hP.out.a)
    by_cases hlt : k < s.size
    · have hk2 : (k : Int) < (s.size : Int) := by omega
      have hbk := byteAt_eq (s := s) (k := k) hlt
      have hbl := fun w => lxblank_c (byteAt s k) w
      cases hb : isBl (byteAt s k) with
      | true =>
        rw [hb] at hbl
        obtain ⟨g, hg, hst⟩ := words_blankS (l := l) hf hlt hb
        rw [hR.out] at hst
        replace hst := hidden hst
        have hP2 := hidden hP.out.blank
        have hB2 := hidden (hB.out.setCell (p := ⟨w.heap.size + 1, 0, none⟩) (Nat.le_succ _) (.int .i64 ((k : Int) + 1)))
        generalize byteAt s k = b at *
        clear hP hB hR hb
        go_wp2_with fail
        refine (hbl _).mono ?_
        rintro e w' ⟨rfl, rfl⟩
        go_wp2
        go_roundw
        case rel => exact ⟨k + 1, g, v, l, by omega, hg, by omega, hP2, hB2, hst.out.symm⟩
        case measure => rw [hnum.out, numAt_of (k := k + 1) hP2.out.a]; omega
      | false =>
        rw [hb] at hbl
        have hw := word_c (s.extract k s.size) wr (by simp; omega) (by simp; omega) (hsg.out wr hB.out)
        have herr := hidden (fun h => words_err (l := l) hf hlt hb h)
        have hokk := hidden (fun h => words_word (l := l) hf hlt hb h)
        rw [hR.out] at herr hokk
        generalize byteAt s k = b at *
        generalize wordS (s.extract k s.size) = X at *
        simp only [WR.v] at hw
        replace hb := hidden hb
        go_wp2_with fail
        refine (hbl _).mono ?_
        rintro e w' ⟨rfl, rfl⟩
        go_wp2_with fail
        refine hw.mono ?_
        rintro e w1 ⟨⟨qk, qt, qa, qn, qv, m, er⟩, rfl, hxe, hx0, hB1⟩
        simp only at hxe hx0
        have hP1 := hidden (hP.out.below hB1)
        have hBB := hidden (hB.out.trans (hB1.mono hB.out.size))
        clear hP hB hB1 hw b0 b1 hbl
        obtain ⟨b0, b1⟩ := one_cell hP1.out.a
        by_cases he : er = 0
        · have hxx := hx0 he
          subst hxx
          obtain ⟨g, hg1, hg2, hg3, hst⟩ := hokk.out he
          replace hst := hidden (show R = wordsS s g (k + m) (l ++ [(⟨qk, qt, qa, qn, qv, (k : Int)⟩ : Wd)]) from hst)
          clear herr hokk hR hx0 hxe
          simp only at hg1 hg2 hg3
          subst he
          have hal := (Below.refl w1.heap.size w1).alloc (Nat.le_refl _) (.cells #[.int .i64 qk, .string qt, .int .i64 qa, .int .i64 qn, .string qv, .int .i64 0] 35)
          have hP2 := hP1.out.below hal
          have hB2 := hidden (hBB.out.trans (hal.mono hBB.out.size))
          have hput := put_c qk qt qa qn qv m w.heap.size (w.heap.size + 1) w.heap.size k l.length v (wordR.flat l) _ hP2 hB2.out.size (by omega) (by omega) (by omega)
          have hfl : Hid (wordR.flat l ++ [.int .i64 qk, .string qt, .int .i64 qa, .int .i64 qn, .string qv, .int .i64 (k : Int)] = wordR.flat (l ++ [⟨qk, qt, qa, qn, qv, k⟩])) := by
            show _ = _
            rw [Rec.flat_app, Rec.flat_one]; rfl
          clear hal hP2
          go_wp2_with fail
          refine hput.mono ?_
          rintro e w3 ⟨rfl, hB3, v', hP3⟩
          have hB4 := hidden (hB2.out.trans hB3)
          rw [hfl.out] at hP3
          replace hP3 := hidden hP3
          clear hput hB3 hB2 hP1 hBB b0 b1
          go_wp2
          go_roundw
          case rel => exact ⟨k + m, g, v', l ++ [(⟨qk, qt, qa, qn, qv, (k : Int)⟩ : Wd)], hg2, hg1, by simp; omega, by rw [List.length_append]; exact hP3, hB4, hst.out.symm⟩
          case measure => rw [hnum.out, numAt_of (k := k + m) hP3.out.a]; omega
        · have hfin := hidden (herr.out (by rw [← hxe]; exact he))
          have he2 : (er != 0) = true := by simp [he]
          rw [← hxe] at hfin
          replace hxe := hidden hxe
          replace hx0 := hidden hx0
          clear herr hokk hR
          have hdr := hP1.out.below ((Below.refl _ _).alloc (Nat.le_refl _) (.cells #[.int .i64 qk, .string qt, .int .i64 qa, .int .i64 qn, .string qv, .int .i64 0] 35)).drew
          obtain ⟨z0, z1⟩ := one_cell hdr.a
          clear hdr
          go_wp2
          go_region
          all_goals
            go_wp2
            go_ret3
            exact ⟨.slice none 0 0, by rw [hfin.out]; rfl, by rw [hfin.out]; exact ⟨none, 0, rfl, Nat.le_refl _, fun _ => rfl, fun _ h => (by cases h), .inl rfl⟩, (hBB.out.alloc hBB.out.size _).drew⟩
    · have hfin := hidden (words_done (f := f) (l := l) hlt)
      rw [hR.out] at hfin
      obtain ⟨a, c, rfl⟩ := own_len hP.out.own
      obtain ⟨l0, l1⟩ := one_cell hP.out.l
      have hkk : ¬ (k : Int) < (s.size : Int) := by omega
      have h2 : ¬ (1000 : Int) < (l.length : Int) := by omega
      have hS := hidden (slR_of_owns hP.out.own)
      generalize hLL : l.length = LL at *
      replace hLL := hidden hLL
      clear hR
      go_wp2
      go_ret3
      exact ⟨.slice a LL c, by rw [hfin.out]; rfl, by rw [hfin.out]; exact hS.out, hB.out⟩
end Go.Proofs.YtddmdieeljjamaaDoor
