/-
  ROWS OF NUMBERS AND ITEMS HELD AGAINST EACH OTHER: the program's own, by contract.
-/
import Derived.Test.YthjmgahgfkecfacLists
import Derived.StillTailTactics
namespace Go.Proofs.Ythjmgahgfkecfac
open Go.ChangeShapes Go.WideShapes Go.ChangeAt Go.RowKit

def cmpI (a b : Int) : Int := if a < b then -1 else if b < a then 1 else 0
theorem nani_c (a : Int) (w : World) : Calls Try.prog 22 #[.int .i64 a] w fun e w' => e = .returned (.bool false) ∧ w' = w := by
  go_enter Try.func22, Try.ntmps22
  go_wp2
  go_ret
  exact ⟨rfl, rfl⟩
theorem cmpi_c (a b : Int) (w : World) : Calls Try.prog 12 #[.int .i64 a, .int .i64 b] w fun e w' => e = .returned (.int .i64 (cmpI a b)) ∧ w' = w := by
  have h := fun a w => nani_c a w
  have key : (a < b ∧ Hid (cmpI a b = -1)) ∨ (¬ a < b ∧ b < a ∧ Hid (cmpI a b = 1)) ∨ (¬ a < b ∧ ¬ b < a ∧ Hid (cmpI a b = 0)) := by
    by_cases h1 : a < b
    · exact .inl ⟨h1, by show _ = _; simp [cmpI, h1]⟩
    · by_cases h2 : b < a
      · exact .inr (.inl ⟨h1, h2, by show _ = _; simp [cmpI, h1, h2]⟩)
      · exact .inr (.inr ⟨h1, h2, by show _ = _; simp [cmpI, h1, h2]⟩)
  rcases key with ⟨h1, e⟩ | ⟨h1, h2, e⟩ | ⟨h1, h2, e⟩ <;> rw [e.out] <;> clear e <;>
  · go_enter Try.func12, Try.ntmps12
    go_wp2_with fail
    refine (h a w).mono ?_
    rintro e w ⟨rfl, rfl⟩
    go_wp2_with fail
    refine (h b _).mono ?_
    rintro e w ⟨rfl, rfl⟩
    go_wp2
    go_ret
    exact ⟨rfl, rfl⟩
/-- The first that is not 0. -/
def orS (x y z : Int) : Int := if x = 0 then (if y = 0 then z else y) else x
theorem or_c (x y z : Int) (b : Nat) (w : World) (h0 : w.cell? ⟨b, 0, none⟩ = some (.int .i64 x)) (h1 : w.cell? ⟨b, 1, none⟩ = some (.int .i64 y)) (h2 : w.cell? ⟨b, 2, none⟩ = some (.int .i64 z)) :
    Calls Try.prog 13 #[.slice (some ⟨b, 0, none⟩) 3 3] w fun e w' => e = .returned (.int .i64 (orS x y z)) ∧ w' = w := by
  have key : (x ≠ 0 ∧ Hid (orS x y z = x)) ∨ (x = 0 ∧ y ≠ 0 ∧ Hid (orS x y z = y)) ∨ (x = 0 ∧ y = 0 ∧ z ≠ 0 ∧ Hid (orS x y z = z)) ∨ (x = 0 ∧ y = 0 ∧ z = 0 ∧ Hid (orS x y z = 0)) := by
    by_cases a : x = 0
    · by_cases b : y = 0
      · by_cases c : z = 0
        · exact .inr (.inr (.inr ⟨a, b, c, by show _ = _; simp [orS, a, b, c]⟩))
        · exact .inr (.inr (.inl ⟨a, b, c, by show _ = _; simp [orS, a, b]⟩))
      · exact .inr (.inl ⟨a, b, by show _ = _; simp [orS, a, b]⟩)
    · exact .inl ⟨a, by show _ = _; simp [orS, a]⟩
  generalize orS x y z = r at *
  have key0 : x ≠ 0 → Hid (r = x) := fun h => by rcases key with ⟨_, e⟩ | ⟨h', _⟩ | ⟨h', _⟩ | ⟨h', _⟩ <;> first | exact e | exact absurd h' h
  have key1 : x = 0 → y ≠ 0 → Hid (r = y) := fun h g => by rcases key with ⟨h', _⟩ | ⟨_, _, e⟩ | ⟨_, h', _⟩ | ⟨_, h', _⟩ <;> first | exact e | exact absurd h h' | exact absurd h' g
  have key2 : x = 0 → y = 0 → z ≠ 0 → Hid (r = z) := fun h g f => by rcases key with ⟨h', _⟩ | ⟨_, h', _⟩ | ⟨_, _, _, e⟩ | ⟨_, _, h', _⟩ <;> first | exact e | exact absurd h h' | exact absurd g h' | exact absurd h' f
  have key3 : x = 0 → y = 0 → z = 0 → Hid (r = 0) := fun h g f => by rcases key with ⟨h', _⟩ | ⟨_, h', _⟩ | ⟨_, _, h', _⟩ | ⟨_, _, _, e⟩ <;> first | exact e | exact absurd h h' | exact absurd g h' | exact absurd f h'
  clear key
  go_enter Try.func13, Try.ntmps13
  go_wp2_with fail
  go_loop [8] (fun i => ∃ k : Nat, i = .int .i64 k ∧ k ≤ 3 ∧ Hid (0 < k → x = 0) ∧ Hid (1 < k → y = 0) ∧ Hid (2 < k → z = 0)) (fun i => 3 - (intOf i).toNat)
  case atStart => exact ⟨0, rfl, Nat.zero_le _, fun h => by omega, fun h => by omega, fun h => by omega⟩
  case round =>
    obtain ⟨k, rfl, hk, f0, f1, f2⟩ := hrel
    rcases (by omega : k = 0 ∨ k = 1 ∨ k = 2 ∨ k = 3) with rfl | rfl | rfl | rfl
    · by_cases hx : x = 0
      · clear key0 key1 key2 key3 f0 f1 f2
        have hx' : Hid (x = 0) := hx
        subst hx
        go_wp2
        go_round
        case rel => exact ⟨1, rfl, by omega, fun _ => by first | rfl | trivial, fun h => by omega, fun h => by omega⟩
        case measure => simp [intOf]
      · have e := key0 hx
        clear key0 key1 key2 key3 f0 f1 f2
        go_wp2
        go_ret
        exact ⟨by rw [e.out]; rfl, rfl⟩
    · have hx := f0.out (by omega)
      subst hx
      by_cases hy : y = 0
      · clear key0 key1 key2 key3 f0 f1 f2
        subst hy
        go_wp2
        go_round
        case rel => exact ⟨2, rfl, by omega, fun _ => by first | rfl | trivial, fun _ => by first | rfl | trivial, fun h => by omega⟩
        case measure => simp [intOf]
      · have e := key1 rfl hy
        clear key0 key1 key2 key3 f0 f1 f2
        go_wp2
        go_ret
        exact ⟨by rw [e.out]; rfl, rfl⟩
    · have hx := f0.out (by omega)
      subst hx
      have hy := f1.out (by omega)
      subst hy
      by_cases hz : z = 0
      · clear key0 key1 key2 key3 f0 f1 f2
        subst hz
        go_wp2
        go_round
        case rel => exact ⟨3, rfl, by omega, fun _ => by first | rfl | trivial, fun _ => by first | rfl | trivial, fun _ => by first | rfl | trivial⟩
        case measure => simp [intOf]
      · have e := key2 rfl rfl hz
        clear key0 key1 key2 key3 f0 f1 f2
        go_wp2
        go_ret
        exact ⟨by rw [e.out]; rfl, rfl⟩
    · have e := key3 (f0.out (by omega)) (f1.out (by omega)) (f2.out (by omega))
      clear key0 key1 key2 key3 f0 f1 f2
      go_wp2
      go_ret
      exact ⟨by rw [e.out]; rfl, rfl⟩

theorem still_tail2 {P : Program} {id : Nat} {Q : Exit → Act → World → Prop} {a : Act} {w : World} {l : List Oper} (n : Nat) (hm : P.follows .mixedOrders = true) (hB : Region.lexTailB .any l.toArray n = true) (w2 : World) (hw : w2 = w.drew)
    (h : wpStill P l.toArray w2 (fun a' => wpList P l.toArray Q (l.drop n) a' w2) (l.take n) a) : (Code.region id l.toArray true).wp P Q a w := by
  subst hw; exact wp_region_still_tail n hm hB h
/-- Two boxes, and a draw. -/
theorem boxes2 (w : World) (a b : Array Value) (t u : TypeId) : Below w.heap.size w ((w.alloc (.cells a t)).alloc (.cells b u)).drew ∧
    (∀ j x, a[j]? = some x → ((w.alloc (.cells a t)).alloc (.cells b u)).drew.cell? ⟨w.heap.size, j, none⟩ = some x) ∧
    (∀ j x, b[j]? = some x → ((w.alloc (.cells a t)).alloc (.cells b u)).drew.cell? ⟨w.heap.size + 1, j, none⟩ = some x) := by
  have e1 : ((w.alloc (.cells a t)).alloc (.cells b u)).drew.heap[w.heap.size]? = some (.cells a t) := by
    show ((w.heap.push (Obj.cells a t)).push (Obj.cells b u))[w.heap.size]? = _
    simp [Array.getElem?_push]
  have e2 : ((w.alloc (.cells a t)).alloc (.cells b u)).drew.heap[w.heap.size + 1]? = some (.cells b u) := by
    show ((w.heap.push (Obj.cells a t)).push (Obj.cells b u))[w.heap.size + 1]? = _
    rw [show w.heap.size + 1 = (w.heap.push (Obj.cells a t)).size by simp]
    exact Array.getElem?_push_size
  refine ⟨(((Below.refl _ _).alloc (Nat.le_refl _) _).alloc (by show _ ≤ (w.heap.push (Obj.cells a t)).size; simp) _).drew, fun j x h => ?_, fun j x h => ?_⟩
  · simp only [World.cell?, e1]; simpa using h
  · simp only [World.cell?, e2]; simpa using h
set_option maxHeartbeats 1600000 in
set_option maxRecDepth 1000000 in
theorem scmp_c (va vb : Value) (xs ys : List Int) (w : World) (hva : Holds w va (xs.map (Value.int .i64))) (hvb : Holds w vb (ys.map (Value.int .i64))) (hx : xs.length ≤ 17592186044416) (hy : ys.length ≤ 17592186044416) :
    Calls Try.prog 14 #[va, vb] w fun e w' => e = .returned (.int .i64 (lcmp xs ys)) ∧ w' = w := by
  obtain ⟨a, cap, rfl, hra⟩ := hva
  obtain ⟨b, cap', rfl, hrb⟩ := hvb
  rw [List.length_map, List.length_map]
  go_enter Try.func14, Try.ntmps14
  go_wp2
  go_loop [11] (fun i => ∃ k : Nat, k ≤ xs.length ∧ k ≤ ys.length ∧ i = .int .i64 k ∧ Hid (xs.take k = ys.take k))
    (fun i => xs.length - (intOf i).toNat)
  case atStart => exact ⟨0, Nat.zero_le _, Nat.zero_le _, rfl, rfl⟩
  case round =>
    obtain ⟨k, hk, hk', rfl, ht⟩ := hrel
    by_cases hlt : k < xs.length ∧ k < ys.length
    · obtain ⟨hk1, hk2⟩ := hlt
      rcases hra with h0 | ⟨b1, o1, rfl, hb1, hc1⟩
      · simp only [List.map_eq_nil_iff] at h0; subst h0; simp at hk1
      rcases hrb with h0 | ⟨b2, o2, rfl, hb2, hc2⟩
      · simp only [List.map_eq_nil_iff] at h0; subst h0; simp at hk2
      have hx1 : w.cell? ⟨b1, o1 + k, none⟩ = some (.int .i64 (xs.getD k 0)) := hc1 k _ (by simp [hk1])
      have hx2 : w.cell? ⟨b2, o2 + k, none⟩ = some (.int .i64 (ys.getD k 0)) := hc2 k _ (by simp [hk2])
      have f1 := hiddenL fun h => lcmp_less k ht.out hk1 hk2 h
      have f2 := hiddenL fun h => lcmp_more k ht.out hk1 hk2 h
      have f3 := hiddenL fun h => lcmp_step k ht.out hk1 hk2 h
      clear hc1 hc2
      generalize xs.getD k 0 = x at *
      generalize ys.getD k 0 = y at *
      have hcall := cmpi_c x y w
      rcases Int.lt_trichotomy x y with h | h | h
      · have f := hiddenL (f1.out h)
        rw [show cmpI x y = -1 by simp [cmpI, h]] at hcall
        clear f1 f2 f3 h
        go_wp2_with fail
        refine hcall.mono ?_
        rintro e w' ⟨rfl, rfl⟩
        go_wp2
        go_ret
        exact ⟨by rw [f.out]; first | done | rfl, rfl⟩
      · have f := hiddenL (f3.out h)
        subst h
        rw [show cmpI x x = 0 by simp [cmpI]] at hcall
        clear f1 f2 f3
        go_wp2_with fail
        refine hcall.mono ?_
        rintro e w' ⟨rfl, rfl⟩
        go_wp2
        go_round
        case rel => exact ⟨k + 1, by omega, by omega, by go_num, f.out⟩
        case measure => simp [intOf]; omega
      · have f := hiddenL (f2.out h)
        rw [show cmpI x y = 1 by simp [cmpI, h, show ¬ x < y by omega]] at hcall
        clear f1 f2 f3 h
        go_wp2_with fail
        refine hcall.mono ?_
        rintro e w' ⟨rfl, rfl⟩
        go_wp2
        go_ret
        exact ⟨by rw [f.out]; first | done | rfl, rfl⟩
    · have f := hiddenL (lcmp_end k ht.out hk hk' hlt)
      by_cases h1 : xs.length < ys.length
      · have f : Hid (lcmp xs ys = -1) := by show _ = _; rw [f.out, if_pos h1]
        have g1 : ¬ k < xs.length := by omega
        clear hlt
        go_wp2
        go_ret
        exact ⟨by rw [f.out]; first | done | rfl, rfl⟩
      · by_cases h2 : ys.length < xs.length
        · have f : Hid (lcmp xs ys = 1) := by show _ = _; rw [f.out, if_neg h1, if_pos h2]
          have g1 : k < xs.length := by omega
          have g2 : ¬ k < ys.length := by omega
          rcases hra with h0 | ⟨b1, o1, rfl, hb1, hc1⟩
          · simp only [List.map_eq_nil_iff] at h0; subst h0; simp at g1
          have hx1 : w.cell? ⟨b1, o1 + k, none⟩ = some (.int .i64 (xs.getD k 0)) := hc1 k _ (by simp [g1])
          clear hlt hc1
          go_wp2
          go_ret
          exact ⟨by rw [f.out]; first | done | rfl, rfl⟩
        · have f : Hid (lcmp xs ys = 0) := by show _ = _; rw [f.out, if_neg h1, if_neg h2]
          have g1 : ¬ k < xs.length := by omega
          clear hlt
          go_wp2
          go_ret
          exact ⟨by rw [f.out]; first | done | rfl, rfl⟩
end Go.Proofs.Ythjmgahgfkecfac
