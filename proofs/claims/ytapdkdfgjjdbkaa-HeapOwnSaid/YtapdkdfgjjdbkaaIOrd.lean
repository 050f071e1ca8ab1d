/-
  ROWS OF NUMBERS HELD AGAINST EACH OTHER: by contract.
-/
import Derived.Test.YtapdkdfgjjdbkaaSl
import Derived.Laws.Cover1
import Derived.StillTailTactics
import Derived.Test.YtapdkdfgjjdbkaaItems
import Derived.Shelf.SlSortCmp.Insertion
namespace Go.Proofs.Ytapdkdfgjjdbkaa
open Go.ChangeShapes Go.WideShapes Go.ChangeAt Go.RowKit

/-- Which of two rows stands first. -/
def lcmp : List Int → List Int → Int
  | [], [] => 0
  | [], _ :: _ => -1
  | _ :: _, [] => 1
  | a :: x, b :: y => if a < b then -1 else if b < a then 1 else lcmp x y
theorem lcmp_skip : ∀ (k : Nat) (xs ys : List Int), xs.take k = ys.take k → k ≤ xs.length → k ≤ ys.length → lcmp xs ys = lcmp (xs.drop k) (ys.drop k)
  | 0, _, _, _, _, _ => rfl
  | k + 1, [], _, _, h, _ => by simp at h
  | k + 1, _ :: _, [], _, _, h => by simp at h
  | k + 1, a :: x, b :: y, ht, h1, h2 => by
    simp only [List.take_succ_cons, List.cons.injEq] at ht
    obtain ⟨rfl, ht⟩ := ht
    simp only [List.length_cons, Nat.add_le_add_iff_right] at h1 h2
    simp only [lcmp, Int.lt_irrefl, if_false, List.drop_succ_cons]
    exact lcmp_skip k x y ht h1 h2
theorem drop_headL (xs : List Int) (k : Nat) (h : k < xs.length) : xs.drop k = xs.getD k 0 :: xs.drop (k + 1) := by
  rw [List.drop_eq_getElem_cons h]; simp [List.getD, h]
theorem lcmp_less {xs ys : List Int} (k : Nat) (ht : xs.take k = ys.take k) (h1 : k < xs.length) (h2 : k < ys.length) (h : xs.getD k 0 < ys.getD k 0) : lcmp xs ys = -1 := by
  rw [lcmp_skip k xs ys ht (by omega) (by omega), drop_headL xs k h1, drop_headL ys k h2]; simp only [lcmp, h, if_true]
theorem lcmp_more {xs ys : List Int} (k : Nat) (ht : xs.take k = ys.take k) (h1 : k < xs.length) (h2 : k < ys.length) (h : ys.getD k 0 < xs.getD k 0) : lcmp xs ys = 1 := by
  rw [lcmp_skip k xs ys ht (by omega) (by omega), drop_headL xs k h1, drop_headL ys k h2]; simp only [lcmp, h, if_true, show ¬ xs.getD k 0 < ys.getD k 0 by omega, if_false]
theorem lcmp_step {xs ys : List Int} (k : Nat) (ht : xs.take k = ys.take k) (h1 : k < xs.length) (h2 : k < ys.length) (h : xs.getD k 0 = ys.getD k 0) : xs.take (k + 1) = ys.take (k + 1) := by
  rw [List.take_add_one, List.take_add_one, ht, List.getElem?_eq_getElem h1, List.getElem?_eq_getElem h2]
  simp [List.getD, h1, h2] at h
  simp [h]
theorem lcmp_end {xs ys : List Int} (k : Nat) (ht : xs.take k = ys.take k) (h1 : k ≤ xs.length) (h2 : k ≤ ys.length) (h : ¬ (k < xs.length ∧ k < ys.length)) :
    lcmp xs ys = if xs.length < ys.length then -1 else if ys.length < xs.length then 1 else 0 := by
  rw [lcmp_skip k xs ys ht h1 h2]
  by_cases hx : k < xs.length
  · rw [drop_headL xs k hx, List.drop_of_length_le (show ys.length ≤ k by omega)]
    rw [if_neg (by omega), if_pos (by omega)]
    rfl
  · rw [List.drop_of_length_le (show xs.length ≤ k by omega)]
    by_cases hy : k < ys.length
    · rw [drop_headL ys k hy, if_pos (by omega)]
      rfl
    · rw [List.drop_of_length_le (show ys.length ≤ k by omega), if_neg (by omega), if_neg (by omega)]
      rfl
theorem hiddenL {p : Prop} (h : p) : Hid p := h
set_option maxHeartbeats 1600000 in
set_option maxRecDepth 1000000 in
theorem rlist_c (va vb : Value) (xs ys : List Int) (w : World) (hva : Holds w va (xs.map (Value.int .i64))) (hvb : Holds w vb (ys.map (Value.int .i64))) (hx : xs.length ≤ 17592186044416) (hy : ys.length ≤ 17592186044416) :
    Calls Try.prog 27 #[va, vb] w fun e w' => e = .returned (.int .i64 (lcmp xs ys)) ∧ Below w.heap.size w w' := by
  obtain ⟨a, cap, rfl, hra⟩ := hva
  obtain ⟨b, cap', rfl, hrb⟩ := hvb
  rw [List.length_map, List.length_map]
  go_enter Try.func27, Try.ntmps27
  go_wp2
  go_loopw [5] (fun i wr => ∃ k : Nat, k ≤ xs.length ∧ k ≤ ys.length ∧ i = .int .i64 k ∧ Hid (xs.take k = ys.take k) ∧ Below w.heap.size w wr)
    (fun i _ => xs.length - (intOf i).toNat)
  case atStart => exact ⟨0, Nat.zero_le _, Nat.zero_le _, rfl, rfl, Below.refl _ _⟩
  case round =>
    obtain ⟨k, hk, hk', rfl, ht, hnx⟩ := hrel
    by_cases hlt : k < xs.length ∧ k < ys.length
    · obtain ⟨hk1, hk2⟩ := hlt
      rcases hra with h0 | ⟨b1, o1, rfl, hb1, hc1⟩
      · simp only [List.map_eq_nil_iff] at h0; subst h0; simp at hk1
      rcases hrb with h0 | ⟨b2, o2, rfl, hb2, hc2⟩
      · simp only [List.map_eq_nil_iff] at h0; subst h0; simp at hk2
      have hx1 : wr.cell? ⟨b1, o1 + k, none⟩ = some (.int .i64 (xs.getD k 0)) := (hnx.cell (by exact hb1)).trans (hc1 k _ (by simp [hk1]))
      have hx2 : wr.cell? ⟨b2, o2 + k, none⟩ = some (.int .i64 (ys.getD k 0)) := (hnx.cell (by exact hb2)).trans (hc2 k _ (by simp [hk2]))
      have f1 := hiddenL fun h => lcmp_less k ht.out hk1 hk2 h
      have f2 := hiddenL fun h => lcmp_more k ht.out hk1 hk2 h
      have f3 := hiddenL fun h => lcmp_step k ht.out hk1 hk2 h
      clear hc1 hc2
      generalize xs.getD k 0 = x at *
      generalize ys.getD k 0 = y at *
      rcases Int.lt_trichotomy x y with h | h | h
      · have f := hiddenL (f1.out h)
        clear f1 f2 f3
        go_wp2
        go_region
        all_goals
          go_wp2
          go_ret
          exact ⟨by rw [f.out]; first | done | rfl, hnx.drew⟩
      · have f := hiddenL (f3.out h)
        subst h
        clear f1 f2 f3
        go_wp2
        go_region
        all_goals (try go_wp2)
        all_goals (try go_region)
        all_goals
          go_wp2
          go_roundw
          case rel => exact ⟨k + 1, by omega, by omega, by go_num, f.out, hnx.drew.drew⟩
          case measure => simp [intOf]; omega
      · have f := hiddenL (f2.out h)
        have hnl : ¬ x < y := by omega
        clear f1 f2 f3
        go_wp2
        go_region
        all_goals (try go_wp2)
        all_goals (try go_region)
        all_goals
          go_wp2
          go_ret
          exact ⟨by rw [f.out]; first | done | rfl, hnx.drew.drew⟩
    · have f := hiddenL (lcmp_end k ht.out hk hk' hlt)
      by_cases h1 : xs.length < ys.length
      · have f : Hid (lcmp xs ys = -1) := by show _ = _; rw [f.out, if_pos h1]
        have g1 : ¬ k < xs.length := by omega
        clear hlt
        go_wp2
        go_ret
        exact ⟨by rw [f.out]; first | done | rfl, hnx⟩
      · by_cases h2 : ys.length < xs.length
        · have f : Hid (lcmp xs ys = 1) := by show _ = _; rw [f.out, if_neg h1, if_pos h2]
          have g1 : k < xs.length := by omega
          have g2 : ¬ k < ys.length := by omega
          clear hlt
          go_wp2
          go_ret
          exact ⟨by rw [f.out]; first | done | rfl, hnx⟩
        · have f : Hid (lcmp xs ys = 0) := by show _ = _; rw [f.out, if_neg h1, if_neg h2]
          have g1 : ¬ k < xs.length := by omega
          clear hlt
          go_wp2
          go_ret
          exact ⟨by rw [f.out]; first | done | rfl, hnx⟩
end Go.Proofs.Ytapdkdfgjjdbkaa
/-
  ROWS OF NUMBERS AND ITEMS HELD AGAINST EACH OTHER: the program's own, by contract.
-/
namespace Go.Proofs.Ytapdkdfgjjdbkaa
open Go.ChangeShapes Go.WideShapes Go.ChangeAt Go.RowKit

def cmpI (a b : Int) : Int := if a < b then -1 else if b < a then 1 else 0
theorem nani_c (a : Int) (w : World) : Calls Try.prog 44 #[.int .i64 a] w fun e w' => e = .returned (.bool false) ∧ w' = w := by
  go_enter Try.func44, Try.ntmps44
  go_wp2
  go_ret
  exact ⟨rfl, rfl⟩
theorem cmpi_c (a b : Int) (w : World) : Calls Try.prog 30 #[.int .i64 a, .int .i64 b] w fun e w' => e = .returned (.int .i64 (cmpI a b)) ∧ w' = w := by
  have h := fun a w => nani_c a w
  have key : (a < b ∧ Hid (cmpI a b = -1)) ∨ (¬ a < b ∧ b < a ∧ Hid (cmpI a b = 1)) ∨ (¬ a < b ∧ ¬ b < a ∧ Hid (cmpI a b = 0)) := by
    by_cases h1 : a < b
    · exact .inl ⟨h1, by show _ = _; simp [cmpI, h1]⟩
    · by_cases h2 : b < a
      · exact .inr (.inl ⟨h1, h2, by show _ = _; simp [cmpI, h1, h2]⟩)
      · exact .inr (.inr ⟨h1, h2, by show _ = _; simp [cmpI, h1, h2]⟩)
  rcases key with ⟨h1, e⟩ | ⟨h1, h2, e⟩ | ⟨h1, h2, e⟩ <;> rw [e.out] <;> clear e <;>
  · go_enter Try.func30, Try.ntmps30
    go_wp2_with fail
    refine (h a w).mono ?_
    rintro e w ⟨rfl, rfl⟩
    go_wp2_with fail
    refine (h b _).mono ?_
    rintro e w ⟨rfl, rfl⟩
    go_wp2
    go_ret
    exact ⟨rfl, rfl⟩
/-- The first that is not 0. -/
def orS (x y z : Int) : Int := if x = 0 then (if y = 0 then z else y) else x
theorem or_c (x y z : Int) (b : Nat) (w : World) (h0 : w.cell? ⟨b, 0, none⟩ = some (.int .i64 x)) (h1 : w.cell? ⟨b, 1, none⟩ = some (.int .i64 y)) (h2 : w.cell? ⟨b, 2, none⟩ = some (.int .i64 z)) :
    Calls Try.prog 31 #[.slice (some ⟨b, 0, none⟩) 3 3] w fun e w' => e = .returned (.int .i64 (orS x y z)) ∧ w' = w := by
  have key : (x ≠ 0 ∧ Hid (orS x y z = x)) ∨ (x = 0 ∧ y ≠ 0 ∧ Hid (orS x y z = y)) ∨ (x = 0 ∧ y = 0 ∧ z ≠ 0 ∧ Hid (orS x y z = z)) ∨ (x = 0 ∧ y = 0 ∧ z = 0 ∧ Hid (orS x y z = 0)) := by
    by_cases a : x = 0
    · by_cases b : y = 0
      · by_cases c : z = 0
        · exact .inr (.inr (.inr ⟨a, b, c, by show _ = _; simp [orS, a, b, c]⟩))
        · exact .inr (.inr (.inl ⟨a, b, c, by show _ = _; simp [orS, a, b]⟩))
      · exact .inr (.inl ⟨a, b, by show _ = _; simp [orS, a, b]⟩)
    · exact .inl ⟨a, by show _ = _; simp [orS, a]⟩
  generalize orS x y z = r at *
  have key0 : x ≠ 0 → Hid (r = x) := fun h => by rcases key with ⟨_, e⟩ | ⟨h', _⟩ | ⟨h', _⟩ | ⟨h', _⟩ <;> first | exact e | exact absurd h' h
  have key1 : x = 0 → y ≠ 0 → Hid (r = y) := fun h g => by rcases key with ⟨h', _⟩ | ⟨_, _, e⟩ | ⟨_, h', _⟩ | ⟨_, h', _⟩ <;> first | exact e | exact absurd h h' | exact absurd h' g
  have key2 : x = 0 → y = 0 → z ≠ 0 → Hid (r = z) := fun h g f => by rcases key with ⟨h', _⟩ | ⟨_, h', _⟩ | ⟨_, _, _, e⟩ | ⟨_, _, h', _⟩ <;> first | exact e | exact absurd h h' | exact absurd g h' | exact absurd h' f
  have key3 : x = 0 → y = 0 → z = 0 → Hid (r = 0) := fun h g f => by rcases key with ⟨h', _⟩ | ⟨_, h', _⟩ | ⟨_, _, h', _⟩ | ⟨_, _, _, e⟩ <;> first | exact e | exact absurd h h' | exact absurd g h' | exact absurd f h'
  clear key
  go_enter Try.func31, Try.ntmps31
  go_wp2_with fail
  go_loop [8] (fun i => ∃ k : Nat, i = .int .i64 k ∧ k ≤ 3 ∧ Hid (0 < k → x = 0) ∧ Hid (1 < k → y = 0) ∧ Hid (2 < k → z = 0)) (fun i => 3 - (intOf i).toNat)
  case atStart => exact ⟨0, rfl, Nat.zero_le _, fun h => by omega, fun h => by omega, fun h => by omega⟩
  case round =>
    obtain ⟨k, rfl, hk, f0, f1, f2⟩ := hrel
    rcases (by omega : k = 0 ∨ k = 1 ∨ k = 2 ∨ k = 3) with rfl | rfl | rfl | rfl
    · by_cases hx : x = 0
      · clear key0 key1 key2 key3 f0 f1 f2
        have hx' : Hid (x = 0) := hx
        subst hx
        go_wp2
        go_round
        case rel => exact ⟨1, rfl, by omega, fun _ => by first | rfl | trivial, fun h => by omega, fun h => by omega⟩
        case measure => simp [intOf]
      · have e := key0 hx
        clear key0 key1 key2 key3 f0 f1 f2
        go_wp2
        go_ret
        exact ⟨by rw [e.out]; rfl, rfl⟩
    · have hx := f0.out (by omega)
      subst hx
      by_cases hy : y = 0
      · clear key0 key1 key2 key3 f0 f1 f2
        subst hy
        go_wp2
        go_round
        case rel => exact ⟨2, rfl, by omega, fun _ => by first | rfl | trivial, fun _ => by first | rfl | trivial, fun h => by omega⟩
        case measure => simp [intOf]
      · have e := key1 rfl hy
        clear key0 key1 key2 key3 f0 f1 f2
        go_wp2
        go_ret
        exact ⟨by rw [e.out]; rfl, rfl⟩
    · have hx := f0.out (by omega)
      subst hx
      have hy := f1.out (by omega)
      subst hy
      by_cases hz : z = 0
      · clear key0 key1 key2 key3 f0 f1 f2
        subst hz
        go_wp2
        go_round
        case rel => exact ⟨3, rfl, by omega, fun _ => by first | rfl | trivial, fun _ => by first | rfl | trivial, fun _ => by first | rfl | trivial⟩
        case measure => simp [intOf]
      · have e := key2 rfl rfl hz
        clear key0 key1 key2 key3 f0 f1 f2
        go_wp2
        go_ret
        exact ⟨by rw [e.out]; rfl, rfl⟩
    · have e := key3 (f0.out (by omega)) (f1.out (by omega)) (f2.out (by omega))
      clear key0 key1 key2 key3 f0 f1 f2
      go_wp2
      go_ret
      exact ⟨by rw [e.out]; rfl, rfl⟩

theorem still_tail2 {P : Program} {id : Nat} {Q : Exit → Act → World → Prop} {a : Act} {w : World} {l : List Oper} (n : Nat) (hm : P.follows .mixedOrders = true) (hB : Region.lexTailB .any l.toArray n = true) (w2 : World) (hw : w2 = w.drew)
    (h : wpStill P l.toArray w2 (fun a' => wpList P l.toArray Q (l.drop n) a' w2) (l.take n) a) : (Code.region id l.toArray true).wp P Q a w := by
  subst hw; exact wp_region_still_tail n hm hB h
/-- Two boxes, and a draw. -/
theorem boxes2 (w : World) (a b : Array Value) (t u : TypeId) : Below w.heap.size w ((w.alloc (.cells a t)).alloc (.cells b u)).drew ∧
    (∀ j x, a[j]? = some x → ((w.alloc (.cells a t)).alloc (.cells b u)).drew.cell? ⟨w.heap.size, j, none⟩ = some x) ∧
    (∀ j x, b[j]? = some x → ((w.alloc (.cells a t)).alloc (.cells b u)).drew.cell? ⟨w.heap.size + 1, j, none⟩ = some x) := by
  have e1 : ((w.alloc (.cells a t)).alloc (.cells b u)).drew.heap[w.heap.size]? = some (.cells a t) := by
    show ((w.heap.push (Obj.cells a t)).push (Obj.cells b u))[w.heap.size]? = _
    simp [Array.getElem?_push]
  have e2 : ((w.alloc (.cells a t)).alloc (.cells b u)).drew.heap[w.heap.size + 1]? = some (.cells b u) := by
    show ((w.heap.push (Obj.cells a t)).push (Obj.cells b u))[w.heap.size + 1]? = _
    rw [show w.heap.size + 1 = (w.heap.push (Obj.cells a t)).size by simp]
    exact Array.getElem?_push_size
  refine ⟨(((Below.refl _ _).alloc (Nat.le_refl _) _).alloc (by show _ ≤ (w.heap.push (Obj.cells a t)).size; simp) _).drew, fun j x h => ?_, fun j x h => ?_⟩
  · simp only [World.cell?, e1]; simpa using h
  · simp only [World.cell?, e2]; simpa using h
set_option maxHeartbeats 1600000 in
set_option maxRecDepth 1000000 in
theorem scmp_c (va vb : Value) (xs ys : List Int) (w : World) (hva : Holds w va (xs.map (Value.int .i64))) (hvb : Holds w vb (ys.map (Value.int .i64))) (hx : xs.length ≤ 17592186044416) (hy : ys.length ≤ 17592186044416) :
    Calls Try.prog 32 #[va, vb] w fun e w' => e = .returned (.int .i64 (lcmp xs ys)) ∧ w' = w := by
  obtain ⟨a, cap, rfl, hra⟩ := hva
  obtain ⟨b, cap', rfl, hrb⟩ := hvb
  rw [List.length_map, List.length_map]
  go_enter Try.func32, Try.ntmps32
  go_wp2
  go_loop [11] (fun i => ∃ k : Nat, k ≤ xs.length ∧ k ≤ ys.length ∧ i = .int .i64 k ∧ Hid (xs.take k = ys.take k))
    (fun i => xs.length - (intOf i).toNat)
  case atStart => exact ⟨0, Nat.zero_le _, Nat.zero_le _, rfl, rfl⟩
  case round =>
    obtain ⟨k, hk, hk', rfl, ht⟩ := hrel
    by_cases hlt : k < xs.length ∧ k < ys.length
    · obtain ⟨hk1, hk2⟩ := hlt
      rcases hra with h0 | ⟨b1, o1, rfl, hb1, hc1⟩
      · simp only [List.map_eq_nil_iff] at h0; subst h0; simp at hk1
      rcases hrb with h0 | ⟨b2, o2, rfl, hb2, hc2⟩
      · simp only [List.map_eq_nil_iff] at h0; subst h0; simp at hk2
      have hx1 : w.cell? ⟨b1, o1 + k, none⟩ = some (.int .i64 (xs.getD k 0)) := hc1 k _ (by simp [hk1])
      have hx2 : w.cell? ⟨b2, o2 + k, none⟩ = some (.int .i64 (ys.getD k 0)) := hc2 k _ (by simp [hk2])
      have f1 := hiddenL fun h => lcmp_less k ht.out hk1 hk2 h
      have f2 := hiddenL fun h => lcmp_more k ht.out hk1 hk2 h
      have f3 := hiddenL fun h => lcmp_step k ht.out hk1 hk2 h
      clear hc1 hc2
      generalize xs.getD k 0 = x at *
      generalize ys.getD k 0 = y at *
      have hcall := cmpi_c x y w
      rcases Int.lt_trichotomy x y with h | h | h
      · have f := hiddenL (f1.out h)
        rw [show cmpI x y = -1 by simp [cmpI, h]] at hcall
        clear f1 f2 f3 h
        go_wp2_with fail
        refine hcall.mono ?_
        rintro e w' ⟨rfl, rfl⟩
        go_wp2
        go_ret
        exact ⟨by rw [f.out]; first | done | rfl, rfl⟩
      · have f := hiddenL (f3.out h)
        subst h
        rw [show cmpI x x = 0 by simp [cmpI]] at hcall
        clear f1 f2 f3
        go_wp2_with fail
        refine hcall.mono ?_
        rintro e w' ⟨rfl, rfl⟩
        go_wp2
        go_round
        case rel => exact ⟨k + 1, by omega, by omega, by go_num, f.out⟩
        case measure => simp [intOf]; omega
      · have f := hiddenL (f2.out h)
        rw [show cmpI x y = 1 by simp [cmpI, h, show ¬ x < y by omega]] at hcall
        clear f1 f2 f3 h
        go_wp2_with fail
        refine hcall.mono ?_
        rintro e w' ⟨rfl, rfl⟩
        go_wp2
        go_ret
        exact ⟨by rw [f.out]; first | done | rfl, rfl⟩
    · have f := hiddenL (lcmp_end k ht.out hk hk' hlt)
      by_cases h1 : xs.length < ys.length
      · have f : Hid (lcmp xs ys = -1) := by show _ = _; rw [f.out, if_pos h1]
        have g1 : ¬ k < xs.length := by omega
        clear hlt
        go_wp2
        go_ret
        exact ⟨by rw [f.out]; first | done | rfl, rfl⟩
      · by_cases h2 : ys.length < xs.length
        · have f : Hid (lcmp xs ys = 1) := by show _ = _; rw [f.out, if_neg h1, if_pos h2]
          have g1 : k < xs.length := by omega
          have g2 : ¬ k < ys.length := by omega
          rcases hra with h0 | ⟨b1, o1, rfl, hb1, hc1⟩
          · simp only [List.map_eq_nil_iff] at h0; subst h0; simp at g1
          have hx1 : w.cell? ⟨b1, o1 + k, none⟩ = some (.int .i64 (xs.getD k 0)) := hc1 k _ (by simp [g1])
          clear hlt hc1
          go_wp2
          go_ret
          exact ⟨by rw [f.out]; first | done | rfl, rfl⟩
        · have f : Hid (lcmp xs ys = 0) := by show _ = _; rw [f.out, if_neg h1, if_neg h2]
          have g1 : ¬ k < xs.length := by omega
          clear hlt
          go_wp2
          go_ret
          exact ⟨by rw [f.out]; first | done | rfl, rfl⟩
end Go.Proofs.Ytapdkdfgjjdbkaa
/-
  ITEMS HELD AGAINST EACH OTHER: the program's order, by contract.
-/
namespace Go.Proofs.Ytapdkdfgjjdbkaa
open Go.ChangeShapes Go.WideShapes Go.ChangeAt Go.RowKit

/-- Which of two items stands first. -/
def icmp (x y : It) : Int := if cmpI x.c y.c = 0 then orS (lcmp x.l y.l) (cmpI x.p y.p) (cmpI x.r y.r) else cmpI x.c y.c
/-- Two boxes. -/
theorem boxes2n (w : World) (a b : Array Value) (t u : TypeId) : Below w.heap.size w ((w.alloc (.cells a t)).alloc (.cells b u)) ∧
    (∀ j x, a[j]? = some x → ((w.alloc (.cells a t)).alloc (.cells b u)).cell? ⟨w.heap.size, j, none⟩ = some x) ∧
    (∀ j x, b[j]? = some x → ((w.alloc (.cells a t)).alloc (.cells b u)).cell? ⟨w.heap.size + 1, j, none⟩ = some x) :=
  ⟨((Below.refl _ _).alloc (Nat.le_refl _) _).alloc (by show _ ≤ (w.heap.push (Obj.cells a t)).size; simp) _, (boxes2 w a b t u).2.1, (boxes2 w a b t u).2.2⟩
set_option maxHeartbeats 1600000 in
set_option maxRecDepth 1000000 in
theorem horder_c (x y : It) (nx ny : Value) (w : World) (hx : Holds w nx (x.l.map (Value.int .i64))) (hy : Holds w ny (y.l.map (Value.int .i64))) (hxl : x.l.length ≤ 17592186044416) (hyl : y.l.length ≤ 17592186044416) :
    Calls Try.prog 22 #[itV x nx, itV y ny] w fun e w' => e = .returned (.int .i64 (icmp x y)) ∧ Below w.heap.size w w' := by
  obtain ⟨c, l, p, r⟩ := x
  obtain ⟨c', l', p', r'⟩ := y
  simp only [itV, icmp] at hx hy hxl hyl ⊢
  have hl : ∀ w2, Below w.heap.size w w2 → Calls Try.prog 32 #[nx, ny] w2 fun e w' => e = .returned (.int .i64 (lcmp l l')) ∧ w' = w2 :=
    fun w2 h => scmp_c nx ny l l' w2 (hx.below h) (hy.below h) hxl hyl
  have hk := fun w => cmpi_c c c' w
  have hp := fun w => cmpi_c p p' w
  have hr := fun w => cmpi_c r r' w
  generalize lcmp l l' = L at *
  generalize cmpI c c' = C at *
  generalize cmpI p p' = P at *
  generalize cmpI r r' = R at *
  have ho := fun b w h0 h1 h2 => or_c L P R b w h0 h1 h2
  generalize orS L P R = O at *
  have hZ : Hid ((C = 0 → (if C = 0 then O else C) = O) ∧ (C ≠ 0 → (if C = 0 then O else C) = C)) := ⟨fun h => if_pos h, fun h => if_neg h⟩
  generalize (if C = 0 then O else C) = Z at *
  obtain ⟨hB, hc1, hc2⟩ := boxes2n w #[.int .i64 c, nx, .int .i64 p, .int .i64 r] #[.int .i64 c', ny, .int .i64 p', .int .i64 r'] 24 24
  obtain ⟨w2, hw2⟩ : ∃ w2, w2 = (w.alloc (.cells #[.int .i64 c, nx, .int .i64 p, .int .i64 r] 24)).alloc (.cells #[.int .i64 c', ny, .int .i64 p', .int .i64 r'] 24) := ⟨_, rfl⟩
  rw [← hw2] at hB hc1 hc2
  have f0 := hc1 0 _ rfl
  have f1 := hc1 1 _ rfl
  have f2 := hc1 2 _ rfl
  have f3 := hc1 3 _ rfl
  have g0 := hc2 0 _ rfl
  have g1 := hc2 1 _ rfl
  have g2 := hc2 2 _ rfl
  have g3 := hc2 3 _ rfl
  clear hc1 hc2 hx hy hxl hyl
  replace hw2 := hiddenI hw2
  replace hB := hiddenI hB
  go_enter Try.func22, Try.ntmps22
  go_wp2_with fail
  rw [← hw2.out]
  refine (hk w2).mono ?_
  rintro e w3 ⟨rfl, rfl⟩
  clear hw2 hk
  by_cases hC : C = 0
  · replace hZ := hiddenI (hZ.out.1 hC)
    subst hC
    go_wp2_with fail
    have f1 : w3.drew.cell? ⟨w.heap.size, 1, none⟩ = some nx := f1
    have f2 : w3.drew.cell? ⟨w.heap.size, 2, none⟩ = some (.int .i64 p) := f2
    have f3 : w3.drew.cell? ⟨w.heap.size, 3, none⟩ = some (.int .i64 r) := f3
    have g1 : w3.drew.cell? ⟨w.heap.size + 1, 1, none⟩ = some ny := g1
    have g2 : w3.drew.cell? ⟨w.heap.size + 1, 2, none⟩ = some (.int .i64 p') := g2
    have g3 : w3.drew.cell? ⟨w.heap.size + 1, 3, none⟩ = some (.int .i64 r') := g3
    have hB : Hid (Below w.heap.size w w3.drew) := hB.out.drew
    obtain ⟨wd, hwd⟩ : ∃ wd, wd = w3.drew := ⟨_, rfl⟩
    rw [← hwd] at f1 f2 f3 g1 g2 g3 hB
    have hl := hl wd hB.out
    refine still_tail2 15 (by kernel_rfl) (by kernel_rfl) wd hwd ?_
    clear hwd f0 g0
    simp only [List.take_succ_cons, List.take_zero, List.drop_succ_cons, List.drop_zero]
    repeat still_step
    still_call hl
    repeat still_step
    still_call (hp _)
    repeat still_step
    still_call (hr _)
    refine wpStill_nil ?_
    clear hp hr hl f1 f2 f3 g1 g2 g3
    have hsz := hB.out.size
    go_wp2_with fail
    refine (ho wd.heap.size _ (by rw [World.cell?_alloc_new]; rfl) (by rw [World.cell?_alloc_new]; rfl) (by rw [World.cell?_alloc_new]; rfl)).mono ?_
    rintro e w4 ⟨rfl, rfl⟩
    go_wp2
    go_ret
    exact ⟨by rw [hZ.out]; first | done | rfl, hB.out.alloc hsz _⟩
  · replace hZ := hiddenI (hZ.out.2 hC)
    clear hl hp hr ho
    go_wp2
    go_ret
    exact ⟨by rw [hZ.out]; first | done | rfl, hB.out⟩
end Go.Proofs.Ytapdkdfgjjdbkaa
/-
  ITEMS HELD AGAINST EACH OTHER: their order is total.
-/
namespace Go.Proofs.Ytapdkdfgjjdbkaa
open Go.ChangeShapes Go.WideShapes Go.ChangeAt Go.RowKit

theorem cmpI_anti (a b : Int) : cmpI b a = -cmpI a b := by
  unfold cmpI
  by_cases h1 : a < b
  · rw [if_pos h1, if_neg (by omega), if_pos h1]; rfl
  · by_cases h2 : b < a
    · rw [if_pos h2, if_neg h1, if_pos h2]
    · rw [if_neg h2, if_neg h1, if_neg h1, if_neg h2]; rfl
theorem cmpI_self (a : Int) : cmpI a a = 0 := by simp [cmpI]
theorem lcmp_anti : ∀ xs ys : List Int, lcmp ys xs = -lcmp xs ys
  | [], [] => rfl
  | [], _ :: _ => rfl
  | _ :: _, [] => rfl
  | a :: x, b :: y => by
    simp only [lcmp]
    by_cases h1 : a < b
    · rw [if_pos h1, if_neg (by omega), if_pos h1]; rfl
    · by_cases h2 : b < a
      · rw [if_pos h2, if_neg h1, if_pos h2]
      · rw [if_neg h2, if_neg h1, if_neg h1, if_neg h2]; exact lcmp_anti x y
theorem lcmp_self : ∀ xs : List Int, lcmp xs xs = 0
  | [] => rfl
  | a :: x => by simp [lcmp, lcmp_self x]
theorem orS_anti (x y z : Int) : orS (-x) (-y) (-z) = -orS x y z := by
  unfold orS
  by_cases h1 : x = 0
  · subst h1
    by_cases h2 : y = 0
    · subst h2; simp
    · rw [if_pos (by rfl), if_neg (by omega), if_pos rfl, if_neg h2]
  · rw [if_neg (by omega), if_neg h1]
/-- Which of two items stands first, the other way round. -/
theorem icmp_anti (x y : It) : icmp y x = -icmp x y := by
  unfold icmp
  rw [cmpI_anti x.c y.c, cmpI_anti x.p y.p, cmpI_anti x.r y.r, lcmp_anti x.l y.l, orS_anti]
  by_cases h : cmpI x.c y.c = 0
  · rw [if_pos (by rw [h]; rfl), if_pos h]
  · rw [if_neg (by omega), if_neg h]
theorem icmp_self (x : It) : icmp x x = 0 := by
  simp [icmp, cmpI_self, lcmp_self, orS]
/-- Three answers of an order. -/
def T3 (p q r : Int) : Prop := p ≤ 0 → q ≤ 0 → r ≤ 0 ∧ (r = 0 → p = 0 ∧ q = 0)
theorem T3.cmp (a b c : Int) : T3 (cmpI a b) (cmpI b c) (cmpI a c) := by
  unfold T3 cmpI
  by_cases h1 : a < b <;> by_cases h2 : b < c <;> by_cases h3 : a < c <;> by_cases h4 : b < a <;> by_cases h5 : c < b <;> by_cases h6 : c < a <;> simp [h1, h2, h3, h4, h5, h6] <;> omega
theorem T3.next {p q r p2 q2 r2 : Int} (h : T3 p q r) (h2 : T3 p2 q2 r2) : T3 (if p = 0 then p2 else p) (if q = 0 then q2 else q) (if r = 0 then r2 else r) := by
  unfold T3 at *
  intro hp hq
  have hp' : p ≤ 0 := by by_cases e : p = 0; · omega
                         · rw [if_neg e] at hp; exact hp
  have hq' : q ≤ 0 := by by_cases e : q = 0; · omega
                         · rw [if_neg e] at hq; exact hq
  obtain ⟨hr, h0⟩ := h hp' hq'
  by_cases e : r = 0
  · obtain ⟨rfl, rfl⟩ := h0 e
    rw [if_pos rfl] at hp hq
    rw [if_pos e, if_pos rfl, if_pos rfl]
    exact h2 hp hq
  · rw [if_neg e]
    exact ⟨hr, fun e' => absurd e' e⟩
theorem T3.list : ∀ x y z : List Int, T3 (lcmp x y) (lcmp y z) (lcmp x z)
  | [], [], [] => by simp [T3, lcmp]
  | [], [], _ :: _ => by simp [T3, lcmp]
  | [], _ :: _, [] => by simp [T3, lcmp]
  | [], _ :: _, _ :: _ => by simp [T3, lcmp]
  | _ :: _, [], _ => by simp [T3, lcmp]
  | _ :: _, _ :: _, [] => by simp [T3, lcmp]
  | a :: x, b :: y, c :: z => by
    have h := T3.next (T3.cmp a b c) (T3.list x y z)
    have e : ∀ (a b : Int) (x y : List Int), lcmp (a :: x) (b :: y) = if cmpI a b = 0 then lcmp x y else cmpI a b := fun a b x y => by
      simp only [lcmp, cmpI]
      by_cases h1 : a < b
      · simp [h1]
      · by_cases h2 : b < a <;> simp [h1, h2]
    rw [e, e, e]
    exact h
theorem T3.item (x y z : It) : T3 (icmp x y) (icmp y z) (icmp x z) :=
  T3.next (T3.cmp x.c y.c z.c) (T3.next (T3.list x.l y.l z.l) (T3.next (T3.cmp x.p y.p z.p) (T3.cmp x.r y.r z.r)))
/-- Their order is one that slices.SortFunc takes. -/
theorem swo_icmp {α : Type} (f : α → It) : Go.Sort.SWO (Go.Proofs.ltOf fun x y => icmp (f x) (f y)) := by
  refine ⟨fun x => ?_, fun x y z h1 h2 => ?_, fun x y z h1 h2 => ?_⟩
  · simp [Go.Proofs.ltOf, icmp_self]
  · simp only [Go.Proofs.ltOf, decide_eq_true_eq] at *
    obtain ⟨h3, h4⟩ := T3.item (f x) (f y) (f z) (by omega) (by omega)
    by_cases e : icmp (f x) (f z) = 0
    · obtain ⟨h5, _⟩ := h4 e; omega
    · omega
  · simp only [Go.Proofs.ltOf, decide_eq_false_iff_not] at *
    have a1 := icmp_anti (f x) (f y)
    have a2 := icmp_anti (f y) (f z)
    have a3 := icmp_anti (f x) (f z)
    have h3 := (T3.item (f z) (f y) (f x) (by omega) (by omega)).1
    omega
end Go.Proofs.Ytapdkdfgjjdbkaa
