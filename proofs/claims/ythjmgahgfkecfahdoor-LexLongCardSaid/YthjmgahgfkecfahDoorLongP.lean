/-
  A WORD LAID BEHIND THE OTHERS: the closure of lex.Words, by contract.
-/
import Derived.Test.YthjmgahgfkecfahDoorLongW
namespace Go.Proofs.YthjmgahgfkecfahDoor
open Go.ChangeShapes Go.WideShapes Go.ChangeAt Go.RowKit

theorem infoWord : (Tryd.prog.info? 32).map (fun i => (i.zero, i.size, i.bytes)) = some (some (.agg #[.int .i64 0, .string ⟨#[]⟩, .int .i64 0, .int .i64 0, .string ⟨#[]⟩, .int .i64 0]), 6, 64) := by kernel_rfl
theorem cell_six_new (w : World) (a b c d e f : Value) (t : TypeId) : ∀ j u, [a, b, c, d, e, f][j]? = some u → (w.alloc (.cells #[a, b, c, d, e, f] t)).cell? ((⟨w.heap.size, 0, none⟩ : Addr).add j) = some u := by
  intro j u hj
  have h : (w.alloc (.cells #[a, b, c, d, e, f] t)).heap[w.heap.size]? = some (.cells #[a, b, c, d, e, f] t) := by show (w.heap.push _)[w.heap.size]? = _; simp
  have e1 : (⟨w.heap.size, 0, none⟩ : Addr).add j = ⟨w.heap.size, j, none⟩ := by
    by_cases hj : j = 0
    · subst hj; simp [Addr.add]
    · simp [Addr.add, hj]
  rw [e1]
  unfold World.cell?
  simp only [h]
  match j, hj with
  | 0, hj | 1, hj | 2, hj | 3, hj | 4, hj | 5, hj => exact hj
  | j + 6, hj => simp at hj
theorem one_cell {w : World} {b : Nat} {v : Value} {t : TypeId} (h : w.heap[b]? = some (.cells #[v] t)) : w.cell? ⟨b, 0, none⟩ = some v ∧ w.frozen? ⟨b, 0, none⟩ = false := by
  simp [World.cell?, World.frozen?, h]
theorem one_set {w : World} {b : Nat} {v : Value} {t : TypeId} (h : w.heap[b]? = some (.cells #[v] t)) (u : Value) : (w.setCell ⟨b, 0, none⟩ u).heap[b]? = some (.cells #[u] t) := by
  simp [World.setCell, Array.getElem?_modify, h]
theorem set_oth {w : World} {g b : Nat} {o : Obj} (h : w.heap[b]? = some o) (hne : g ≠ b) (j : Nat) (u : Value) : (w.setCell ⟨g, j, none⟩ u).heap[b]? = some o := by
  simp [World.setCell, Array.getElem?_modify, hne, h]
theorem alloc_oth {w : World} {b : Nat} {o : Obj} (h : w.heap[b]? = some o) (o' : Obj) : (w.alloc o').heap[b]? = some o := by
  show (w.heap.push _)[b]? = _
  rw [Array.getElem?_push, if_neg (by have := (Array.getElem?_eq_some_iff.1 h).1; omega)]
  exact h
theorem ne_types {w : World} {b c : Nat} {x y : Array Value} {t u : TypeId} (h1 : w.heap[b]? = some (.cells x t)) (h2 : w.heap[c]? = some (.cells y u)) (ht : t ≠ u) : b ≠ c := fun e => by
  subst e
  rw [h1] at h2
  injection h2 with h2
  injection h2 with _ h2 _
  exact ht h2
theorem own_apart {w : World} {B te s n b : Nat} {v : Value} {xs : List Value} {cs : Array Value} {tb : TypeId} (h : w.ownsRow B te s v n xs) (hb : w.heap[b]? = some (.cells cs tb)) (ht : te ≠ tb) : v.ownBlock ≠ some b := by
  rcases h.2 with ⟨rfl, _⟩ | ⟨g, cap, cur, rfl, _, hg, _⟩
  · intro e; cases e
  · intro e
    have : g = b := by simpa [Value.ownBlock] using e
    subst this
    exact ne_types hg hb ht rfl
theorem own_set {w : World} {B te s n b : Nat} {v : Value} {xs : List Value} {cs : Array Value} {tb : TypeId} (h : w.ownsRow B te s v n xs) (hb : w.heap[b]? = some (.cells cs tb)) (ht : te ≠ tb) (j : Nat) (u : Value) : (w.setCell ⟨b, j, none⟩ u).ownsRow B te s v n xs := by
  obtain ⟨hl, h⟩ := h
  refine ⟨hl, ?_⟩
  rcases h with h | ⟨g, cap, cur, h1, h2, h3, h4⟩
  · exact .inl h
  · exact .inr ⟨g, cap, cur, h1, h2, set_oth h3 (ne_types hb h3 (Ne.symm ht)) j u, h4⟩

/-- Where words are put: the place, and the words so far. -/
structure Put (base : Nat) (w : World) (A L k m : Nat) (v : Value) (xs : List Value) : Prop where
  a : w.heap[A]? = some (.cells #[.int .i64 (k : Int)] 3)
  l : w.heap[L]? = some (.cells #[v] 23)
  own : w.ownsRow base 32 6 v m xs
  la : base ≤ A
  ll : base ≤ L
theorem Put.below {base : Nat} {w w' : World} {A L k m : Nat} {v : Value} {xs : List Value} (h : Put base w A L k m v xs) (hB : Below w.heap.size w w') : Put base w' A L k m v xs :=
  ⟨(hB.block _ (Array.getElem?_eq_some_iff.1 h.a).1).trans h.a, (hB.block _ (Array.getElem?_eq_some_iff.1 h.l).1).trans h.l, by
    obtain ⟨hl, hh⟩ := h.own
    refine ⟨hl, ?_⟩
    rcases hh with hh | ⟨g, cap, cur, h1, h2, h3, h4⟩
    · exact .inl hh
    · exact .inr ⟨g, cap, cur, h1, h2, (hB.block _ (Array.getElem?_eq_some_iff.1 h3).1).trans h3, h4⟩, h.la, h.ll⟩

set_option maxHeartbeats 3200000 in
set_option maxRecDepth 100000 in
theorem put_c (base A L k m : Nat) (v : Value) (xs : List Value) (w : World) (h : Put base w A L k m v xs) (hb : base ≤ w.heap.size) (hm : m ≤ 5000) (hk : k ≤ 5000) :
    Calls Tryd.prog 6 #[comma, .int .i64 1, .pointer (some ⟨A, 0, none⟩), .pointer (some ⟨L, 0, none⟩)] w fun e w' => e = .returned (.tuple #[]) ∧ Below base w w' ∧ ∃ v' xs', Put base w' A L (k + 1) (m + 1) v' xs' := by
  obtain ⟨i0, hi, hz0, hz1, hz2⟩ := info_parts infoWord
  obtain ⟨a0, n0, c0, rfl⟩ : ∃ a n c, v = .slice a n c := by
    rcases h.own.2 with ⟨rfl, _⟩ | ⟨g, cap, cur, rfl, _⟩
    · exact ⟨_, _, _, rfl⟩
    · exact ⟨_, _, _, rfl⟩
  have hnb : A ≠ w.heap.size := by have := (Array.getElem?_eq_some_iff.1 h.a).1; omega
  have hnl : L ≠ w.heap.size := by have := (Array.getElem?_eq_some_iff.1 h.l).1; omega
  have hB1 : Below w.heap.size w (w.alloc (.cells #[.int .i64 4, .string ⟨#[44]⟩, .int .i64 0, .int .i64 0, .string ⟨#[]⟩, .int .i64 (k : Int)] 32)) := (Below.refl _ _).alloc (Nat.le_refl _) _
  have hP1 := hiddenW (h.below hB1)
  obtain ⟨p0, p1⟩ := one_cell (alloc_oth h.a (.cells #[.int .i64 4, .string ⟨#[44]⟩, .int .i64 0, .int .i64 0, .string ⟨#[]⟩, .int .i64 0] 32))
  obtain ⟨q0, q1⟩ := one_cell (alloc_oth h.l (.cells #[.int .i64 4, .string ⟨#[44]⟩, .int .i64 0, .int .i64 0, .string ⟨#[]⟩, .int .i64 (k : Int)] 32))
  unfold comma
  go_enter Tryd.func6, Tryd.ntmps6
  have hle : Hid (base ≤ (w.alloc (.cells #[.int .i64 4, .string ⟨#[44]⟩, .int .i64 0, .int .i64 0, .string ⟨#[]⟩, .int .i64 (k : Int)] 32)).heap.size) := by show base ≤ (w.heap.push _).size; simp; omega
  have hown := hP1.out.own
  have hBb := hiddenW (hB1.mono hb)
  have hALn : Hid (L ≠ A) := by show _ ≠ _; exact ne_types h.l h.a (by decide)
  clear h hB1 hnb hnl
  go_wp2_with (at_builtin; refine wpList_append_own _ rfl _ _ 23 rfl base 32 i0 (.agg #[.int .i64 0, .string ⟨#[]⟩, .int .i64 0, .int .i64 0, .string ⟨#[]⟩, .int .i64 0]) 6 64 Tryd.underlying23 hi hz0 hz1 hz2 rfl (by decide) _ _ _ rfl (hown.alloc _) ⟨w.heap.size + 1, 0, none⟩ 1 1 [.int .i64 4, .string ⟨#[44]⟩, .int .i64 0, .int .i64 0, .string ⟨#[]⟩, .int .i64 (k : Int)] rfl rfl ?c1 ?c2 ?c3 ?c4 ?c5 ?_)
  case c1 =>
    have h := cell_six_new (w.alloc (.cells #[.int .i64 4, .string ⟨#[44]⟩, .int .i64 0, .int .i64 0, .string ⟨#[]⟩, .int .i64 (k : Int)] 32)) (.int .i64 4) (.string ⟨#[44]⟩) (.int .i64 0) (.int .i64 0) (.string ⟨#[]⟩) (.int .i64 (k : Int)) 32
    have e : (w.alloc (.cells #[.int .i64 4, .string ⟨#[44]⟩, .int .i64 0, .int .i64 0, .string ⟨#[]⟩, .int .i64 (k : Int)] 32)).heap.size = w.heap.size + 1 := by show (w.heap.push _).size = _; simp
    rw [e] at h
    exact h
  case c2 => intro u hu; simp at hu; rcases hu with rfl | rfl | rfl | rfl | rfl | rfl <;> rfl
  case c3 => unfold maxLen; omega
  case c4 => omega
  case c5 => have := hle.out; show base ≤ ((w.heap.push _).push _).size; simp; omega
  intro v' w2 hown2 hgrow _
  have hA2 := (hgrow.block A (Array.getElem?_eq_some_iff.1 (alloc_oth hP1.out.a _)).1 (fun e => own_apart hown hP1.out.a (by decide) e.symm)).trans (alloc_oth hP1.out.a _)
  have hL2 := (hgrow.block L (Array.getElem?_eq_some_iff.1 (alloc_oth hP1.out.l _)).1 (fun e => own_apart hown hP1.out.l (by decide) e.symm)).trans (alloc_oth hP1.out.l _)
  have hB2 : Below base w w2 := (hBb.out.alloc hle.out _).grown hgrow (by have := hle.out; show base ≤ ((w.heap.push _).push _).size; simp; omega) (fun j hj => by have := (hown.lt j hj).1; omega)
  obtain ⟨a1, n1, c1, rfl⟩ : ∃ a n c, v' = .slice a n c := by
    rcases hown2.2 with ⟨rfl, _⟩ | ⟨g, cap, cur, rfl, _⟩
    · exact ⟨_, _, _, rfl⟩
    · exact ⟨_, _, _, rfl⟩
  have hA3 := set_oth hA2 hALn.out 0 (.slice a1 n1 c1)
  have hL3 := one_set hL2 (.slice a1 n1 c1)
  have hown3 := own_set hown2 hL2 (by decide) 0 (.slice a1 n1 c1)
  have hB3 := hB2.setCell (p := ⟨L, 0, none⟩) hP1.out.ll (.slice a1 n1 c1)
  have hA4 := one_set hA3 (.int .i64 ((k : Int) + 1))
  have hL4 := set_oth hL3 (Ne.symm hALn.out) 0 (.int .i64 ((k : Int) + 1))
  have hown4 := own_set hown3 hA3 (by decide) 0 (.int .i64 ((k : Int) + 1))
  have hB4 := hB3.setCell (p := ⟨A, 0, none⟩) hP1.out.la (.int .i64 ((k : Int) + 1))
  have hfin : Hid (Below base w ((w2.setCell ⟨L, 0, none⟩ (.slice a1 n1 c1)).setCell ⟨A, 0, none⟩ (.int .i64 ((k : Int) + 1))) ∧ Put base ((w2.setCell ⟨L, 0, none⟩ (.slice a1 n1 c1)).setCell ⟨A, 0, none⟩ (.int .i64 ((k : Int) + 1))) A L (k + 1) (m + 1) (.slice a1 n1 c1) _) :=
    ⟨hB4, hA4, hL4, hown4, hP1.out.la, hP1.out.ll⟩
  obtain ⟨l0, l1⟩ := one_cell hL2
  obtain ⟨b0, b1⟩ := one_cell hA3
  clear hA2 hL2 hB2 hA3 hL3 hown3 hB3 hA4 hL4 hown4 hB4 hown2 hgrow hown p0 p1 q0 q1
  go_wp2
  exact bodyPost_end (results_none rfl _ _ _) rfl ⟨rfl, hfin.out.1, _, _, hfin.out.2⟩
end Go.Proofs.YthjmgahgfkecfahDoor
