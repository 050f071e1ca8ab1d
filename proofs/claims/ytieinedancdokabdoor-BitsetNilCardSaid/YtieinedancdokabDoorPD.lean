/-
  WHAT COMES OF TWO SETS, WORD BY WORD: by contract. A set may be none.
-/
import Derived.Test.YtieinedancdokabDoorPB
namespace Go.Proofs.YtieinedancdokabDoor
open Go.ChangeShapes Go.WideShapes Go.ChangeAt Go.RowKit

/-- A set, or none. -/
def SetV (w : World) (v : Value) (ws : List Nat) : Prop := (v = .pointer none ∧ ws = []) ∨ ∃ b g, v = .pointer (some ⟨b, 0, none⟩) ∧ SetAt w b g ws
theorem SetV.below {w w' : World} {v : Value} {ws : List Nat} (h : SetV w v ws) (hB : Below w.heap.size w w') : SetV w' v ws := by
  rcases h with h | ⟨b, g, h1, h2⟩
  · exact .inl h
  · exact .inr ⟨b, g, h1, h2.below hB⟩
set_option maxHeartbeats 800000 in
theorem wideV_c (v : Value) (ws : List Nat) (w : World) (h : SetV w v ws) : Calls Tryd.prog 24 #[v] w fun e w' => e = .returned (.int .i64 ws.length) ∧ w' = w := by
  rcases h with ⟨rfl, rfl⟩ | ⟨b, g, rfl, h⟩
  · go_enter Tryd.func24, Tryd.ntmps24
    go_wp2
    go_ret
    exact ⟨rfl, rfl⟩
  · exact wide_c b g ws w h
set_option maxHeartbeats 800000 in
theorem wordV_c (v : Value) (ws : List Nat) (i : Nat) (w : World) (h : SetV w v ws) : Calls Tryd.prog 27 #[v, .int .i64 i] w fun e w' => e = .returned (.int .u64 (ws.getD i 0 : Nat)) ∧ w' = w := by
  rcases h with ⟨rfl, rfl⟩ | ⟨b, g, rfl, h⟩
  · have hw := wideV_c (.pointer none) [] w (.inl ⟨rfl, rfl⟩)
    have hi : (0 : Int) ≤ (i : Int) := by omega
    simp only [List.length_nil] at hw
    go_enter Tryd.func27, Tryd.ntmps27
    go_wp2_with fail
    refine hw.mono ?_
    rintro e w' ⟨rfl, rfl⟩
    clear hw
    go_wp2
    go_ret
    exact ⟨rfl, rfl⟩
  · exact word_c b g ws i w h
/-- The first words, joined. -/
def joined (f : Nat → Nat → Nat) (xs ys : List Nat) (N k : Nat) : List Nat := (List.range N).map fun i => if i < k then f (xs.getD i 0) (ys.getD i 0) else 0
theorem joined_len (f : Nat → Nat → Nat) (xs ys : List Nat) (N k : Nat) : (joined f xs ys N k).length = N := by simp [joined]
theorem joined_zero (f : Nat → Nat → Nat) (xs ys : List Nat) (N : Nat) : joined f xs ys N 0 = List.replicate N 0 := by
  apply List.ext_getElem <;> simp [joined]
theorem joined_set (f : Nat → Nat → Nat) (xs ys : List Nat) (N k : Nat) : (joined f xs ys N k).set k (f (xs.getD k 0) (ys.getD k 0)) = joined f xs ys N (k + 1) := by
  apply List.ext_getElem?
  intro j
  rw [List.getElem?_set]
  by_cases hj : k = j
  · subst hj
    by_cases hk : k < N
    · simp [joined, hk]
    · simp [joined, hk]
  · rw [if_neg hj]
    by_cases hN : j < N
    · simp only [joined, List.getElem?_map, List.getElem?_range hN, Option.map_some]
      congr 1
      by_cases h1 : j < k
      · rw [if_pos h1, if_pos (by omega)]
      · rw [if_neg h1, if_neg (by omega)]
    · simp [joined, hN]
theorem joined_at (f : Nat → Nat → Nat) (xs ys : List Nat) (N i : Nat) (hi : i < N) : (joined f xs ys N N).getD i 0 = f (xs.getD i 0) (ys.getD i 0) := by
  rw [List.getD_eq_getElem?_getD, joined, List.getElem?_map, List.getElem?_range hi]
  simp [hi]
theorem joined_fit {f : Nat → Nat → Nat} {xs ys : List Nat} {N k : Nat} (hx : Fit xs) (hy : Fit ys) (hN : N ≤ 1024) (hf : ∀ x y, x < 18446744073709551616 → y < 18446744073709551616 → f x y < 18446744073709551616) : Fit (joined f xs ys N k) :=
  ⟨fun z hz => by
    simp only [joined, List.mem_map] at hz
    obtain ⟨i, _, rfl⟩ := hz
    split
    · exact hf _ _ (hx.at i) (hy.at i)
    · omega, by rw [joined_len]; exact hN⟩
set_option maxHeartbeats 1600000 in
theorem join_c (F : Nat) (hE : ∀ args w, (callFunc F args).run Tryd.prog w = .ok (.enter F args) w) (f : Nat → Nat → Nat) (v1 v2 : Value) (xs ys : List Nat) (w : World) (hx : Fit xs) (hy : Fit ys) (h1 : SetV w v1 xs) (h2 : SetV w v2 ys)
    (hF : ∀ x y w, x < 18446744073709551616 → y < 18446744073709551616 → Calls Tryd.prog F #[.int .u64 (x : Nat), .int .u64 (y : Nat)] w fun e w' => e = .returned (.int .u64 (f x y : Nat)) ∧ w' = w)
    (hf : ∀ x y, x < 18446744073709551616 → y < 18446744073709551616 → f x y < 18446744073709551616) :
    Calls Tryd.prog 31 #[v1, v2, .func (.func F) #[] #[]] w fun e w' => ∃ b, e = .returned (.pointer (some ⟨b, 0, none⟩)) ∧ ∃ g, SetAt w' b g (joined f xs ys (max xs.length ys.length) (max xs.length ys.length)) ∧ Below w.heap.size w w' := by
  have hw1 := wideV_c v1 xs w h1
  have hw2 := wideV_c v2 ys w h2
  have hN : max xs.length ys.length ≤ 1024 := by have := hx.short; have := hy.short; omega
  have hmax : (if (xs.length : Int) < (ys.length : Int) then (ys.length : Int) else (xs.length : Int)) = ((max xs.length ys.length : Nat) : Int) := by split <;> omega
  have hmk := fun w => makeW (max xs.length ys.length) w hN
  have hcmp : ((xs.length : Int) < (ys.length : Int) ∧ Hid (((max xs.length ys.length : Nat) : Int) = (ys.length : Int))) ∨ ((¬ (xs.length : Int) < (ys.length : Int)) ∧ Hid (((max xs.length ys.length : Nat) : Int) = (xs.length : Int))) := by
    by_cases h : (xs.length : Int) < (ys.length : Int)
    · exact .inl ⟨h, by show _ = _; omega⟩
    · exact .inr ⟨h, by show _ = _; omega⟩
  generalize max xs.length ys.length = N at *
  have h1 := hidden h1
  have h2 := hidden h2
  have hx := hidden hx
  have hy := hidden hy
  have hf := hidden hf
  have hF := hidden hF
  rcases hcmp with ⟨hc, hNe⟩ | ⟨hc, hNe⟩
  all_goals
    rw [hNe.out] at hmk
    clear hmax
    go_enter Tryd.func31, Tryd.ntmps31
    go_wp2_with fail
    refine hw1.mono ?_
    rintro e w' ⟨rfl, rfl⟩
    clear hw1
    go_wp2_with fail
    refine hw2.mono ?_
    rintro e w' ⟨rfl, rfl⟩
    clear hw2
    go_wp2_with fail
    clear hmk hNe hc
    go_loopw [22] (fun i wr => ∃ k : Nat, k ≤ N ∧ i = .int .i64 (k : Int) ∧ Hid (SetAt wr (w'.heap.size + 1) (some w'.heap.size) (joined f xs ys N k)) ∧ Hid (Below w'.heap.size w' wr)) (fun i _ => N - (intOf i).toNat)
    case atStart =>
      refine ⟨0, Nat.zero_le _, rfl, ?_, ((Below.refl _ _).alloc (Nat.le_refl _) _).alloc (by show _ ≤ (w'.heap.push _).size; simp) _⟩
      show SetAt _ _ _ _
      refine ⟨?_, (fun e => by cases e), fun x hx => ?_⟩
      · rw [joined_len]; exact heap_alloc2_new _ _ _
      · cases hx
        rw [joined_zero]
        refine (heap_alloc_old _ _ ?_).trans (heap_alloc_new _ _)
        show _ < (w'.heap.push _).size; simp
    case round =>
      obtain ⟨k, hk, rfl, hS, hB⟩ := hrel
      by_cases hlt : k < N
      · have hk1 : (k : Int) < (N : Int) := by omega
        have e3 : IntKind.i64.wrap (k : Int) = k := IntWalk.i64_in _ (by omega)
        have hk0 : (0 : Int) ≤ (k : Int) := by omega
        have hS2 := hS.out.drew
        have hBd := hB.out.drew
        have c0 := hS2.cell0
        simp only [rowV, joined_len] at c0
        have c1 := hS2.cell k (by rw [joined_len]; exact hlt)
        have z1 := hS2.frozen k
        have hput := hidden (hS2.put k (f (xs.getD k 0) (ys.getD k 0)))
        rw [joined_set] at hput
        have hwd1 := wordV_c v1 xs k _ (h1.out.below hBd)
        have hwd2 := wordV_c v2 ys k _ (h2.out.below hBd)
        have hcF := hF.out _ _ wr.drew (hx.out.at k) (hy.out.at k)
        generalize (joined f xs ys N k).getD k 0 = z0 at *
        generalize f (xs.getD k 0) (ys.getD k 0) = z at *
        generalize xs.getD k 0 = x at *
        generalize ys.getD k 0 = y at *
        replace hBd := hidden hBd
        clear hS hB
        go_wp2_with fail
        obtain ⟨w2, hw2⟩ : ∃ w2, w2 = wr.drew := ⟨_, rfl⟩
        rw [← hw2] at c0 c1 z1 hput hwd1 hwd2 hcF hBd
        clear hS2
        refine still_tail2 14 (by kernel_rfl) (by kernel_rfl) w2 hw2 ?_
        clear hw2
        simp only [List.take_succ_cons, List.take_zero, List.drop_succ_cons, List.drop_zero]
        repeat still_step
        still_call hwd1
        repeat still_step
        still_call hwd2
        repeat still_step
        still_call hcF
        repeat still_step
        refine wpStill_nil ?_
        have hBn : Hid (Below w'.heap.size w' (w2.setCell ⟨w'.heap.size, k, none⟩ (.int .u64 (z : Int)))) := hBd.out.setCell (Nat.le_refl _) _
        clear hwd1 hwd2 hcF hBd
        go_wp2
        go_roundw
        case rel => exact ⟨k + 1, by omega, by go_num, hput.out.1, hBn⟩
        case measure => simp [intOf]; omega
      · have hk1 : ¬ (k : Int) < (N : Int) := by omega
        obtain rfl : k = N := by omega
        go_wp2
        go_ret
        exact ⟨_, rfl, ⟨_, hS.out⟩, hB.out⟩
end Go.Proofs.YtieinedancdokabDoor
/-
  WHAT IS ASKED OF TWO SETS, WORD BY WORD: by contract. A set may be none.
-/
namespace Go.Proofs.YtieinedancdokabDoor
open Go.ChangeShapes Go.WideShapes Go.ChangeAt Go.RowKit

/-- Whether all of the first words say so. -/
def every (f : Nat → Nat → Bool) (xs ys : List Nat) (N : Nat) : Bool := (List.range N).all fun i => f (xs.getD i 0) (ys.getD i 0)
theorem every_end {f : Nat → Nat → Bool} {xs ys : List Nat} {N : Nat} (h : ∀ i, i < N → f (xs.getD i 0) (ys.getD i 0) = true) : every f xs ys N = true :=
  List.all_eq_true.2 fun i hi => h i (List.mem_range.1 hi)
theorem every_not {f : Nat → Nat → Bool} {xs ys : List Nat} {N k : Nat} (hk : k < N) (h : f (xs.getD k 0) (ys.getD k 0) = false) : every f xs ys N = false := by
  cases he : every f xs ys N with
  | false => rfl
  | true =>
    have := List.all_eq_true.1 he k (List.mem_range.2 hk)
    rw [h] at this
    cases this
set_option maxHeartbeats 1600000 in
theorem all_c (F : Nat) (hE : ∀ args w, (callFunc F args).run Tryd.prog w = .ok (.enter F args) w) (f : Nat → Nat → Bool) (v1 v2 : Value) (xs ys : List Nat) (w : World) (hx : Fit xs) (hy : Fit ys) (h1 : SetV w v1 xs) (h2 : SetV w v2 ys)
    (hF : ∀ x y w, x < 18446744073709551616 → y < 18446744073709551616 → Calls Tryd.prog F #[.int .u64 (x : Nat), .int .u64 (y : Nat)] w fun e w' => e = .returned (.bool (f x y)) ∧ w' = w) :
    Calls Tryd.prog 35 #[v1, v2, .func (.func F) #[] #[]] w fun e w' => e = .returned (.bool (every f xs ys (max xs.length ys.length))) ∧ w' = w := by
  have hw1 := wideV_c v1 xs w h1
  have hw2 := wideV_c v2 ys w h2
  have hN : max xs.length ys.length ≤ 1024 := by have := hx.short; have := hy.short; omega
  have hcmp : ((xs.length : Int) < (ys.length : Int) ∧ Hid ((ys.length : Int) = ((max xs.length ys.length : Nat) : Int))) ∨ ((¬ (xs.length : Int) < (ys.length : Int)) ∧ Hid ((xs.length : Int) = ((max xs.length ys.length : Nat) : Int))) := by
    by_cases h : (xs.length : Int) < (ys.length : Int)
    · exact .inl ⟨h, by show _ = _; omega⟩
    · exact .inr ⟨h, by show _ = _; omega⟩
  generalize max xs.length ys.length = N at *
  have h1 := hidden h1
  have h2 := hidden h2
  have hx := hidden hx
  have hy := hidden hy
  have hF := hidden hF
  rcases hcmp with ⟨hc, hNe⟩ | ⟨hc, hNe⟩
  all_goals
    go_enter Tryd.func35, Tryd.ntmps35
    go_wp2_with fail
    refine hw1.mono ?_
    rintro e w' ⟨rfl, rfl⟩
    clear hw1
    go_wp2_with fail
    refine hw2.mono ?_
    rintro e w' ⟨rfl, rfl⟩
    clear hw2
    go_wp2_with fail
    go_loop [13] (fun i => ∃ k : Nat, k ≤ N ∧ i = .int .i64 (k : Int) ∧ Hid (∀ i, i < k → f (xs.getD i 0) (ys.getD i 0) = true)) (fun i => N - (intOf i).toNat)
    case atStart => exact ⟨0, Nat.zero_le _, rfl, (fun i hi => absurd hi (Nat.not_lt_zero i) : ∀ i, i < 0 → f (xs.getD i 0) (ys.getD i 0) = true)⟩
    case round =>
      obtain ⟨k, hk, rfl, hall⟩ := hrel
      by_cases hlt : k < N
      · have hwd1 := wordV_c v1 xs k w' h1.out
        have hwd2 := wordV_c v2 ys k w' h2.out
        have hcF := hF.out _ _ w' (hx.out.at k) (hy.out.at k)
        have hk1 := hNe.out
        have hk2 : (k : Int) < (N : Int) := by omega
        rw [← hk1] at hk2
        clear hk1
        have hyes : f (xs.getD k 0) (ys.getD k 0) = true → Hid (∀ i, i < k + 1 → f (xs.getD i 0) (ys.getD i 0) = true) := fun h i hi => by
          rcases Nat.lt_or_ge i k with h3 | h3
          · exact hall.out i h3
          · obtain rfl : i = k := by omega
            exact h
        have hno : f (xs.getD k 0) (ys.getD k 0) = false → Hid (every f xs ys N = false) := fun h => every_not hlt h
        generalize f (xs.getD k 0) (ys.getD k 0) = t at *
        generalize xs.getD k 0 = x at *
        generalize ys.getD k 0 = y at *
        clear hall
        go_wp2_with fail
        refine hwd1.mono ?_
        rintro e w' ⟨rfl, rfl⟩
        clear hwd1
        go_wp2_with fail
        refine hwd2.mono ?_
        rintro e w' ⟨rfl, rfl⟩
        clear hwd2
        go_wp2_with fail
        refine hcF.mono ?_
        rintro e w' ⟨rfl, rfl⟩
        clear hcF
        cases t with
        | true =>
          replace hyes := hyes rfl
          clear hno
          go_wp2
          go_round
          case rel => exact ⟨k + 1, by omega, by go_num, hyes⟩
          case measure => simp [intOf]; omega
        | false =>
          replace hno := hno rfl
          clear hyes
          go_wp2
          go_ret
          exact ⟨by rw [hno.out]; rfl, rfl⟩
      · have hk1 := hNe.out
        have hk2 : ¬ (k : Int) < (N : Int) := by omega
        rw [← hk1] at hk2
        clear hk1
        obtain rfl : k = N := by omega
        have hfin : Hid (every f xs ys k = true) := every_end hall.out
        clear hall
        go_wp2
        go_ret
        exact ⟨by rw [hfin.out]; rfl, rfl⟩
end Go.Proofs.YtieinedancdokabDoor
/-
  BOTH SETS TOGETHER, WHAT BOTH HAVE, WHAT ONE HAS AND THE OTHER LACKS: by contract. A set may be none.
-/
namespace Go.Proofs.YtieinedancdokabDoor
open Go.ChangeShapes Go.WideShapes Go.ChangeAt Go.RowKit

theorem enterAny (F : Nat) (h : ∀ args w, (callFunc F args).run Tryd.prog w = .ok (.enter F args) w) : ∀ args w, (callFunc F args).run Tryd.prog w = .ok (.enter F args) w := h
set_option maxHeartbeats 800000 in
theorem orW_c (x y : Nat) (w : World) (hx : x < 18446744073709551616) (hy : y < 18446744073709551616) : Calls Tryd.prog 32 #[.int .u64 (x : Nat), .int .u64 (y : Nat)] w fun e w' => e = .returned (.int .u64 (x ||| y : Nat)) ∧ w' = w := by
  have h := u64_or_nat x y hx hy
  generalize x ||| y = z at *
  go_enter Tryd.func32, Tryd.ntmps32
  go_wp2
  go_ret
  exact ⟨rfl, rfl⟩
set_option maxHeartbeats 800000 in
theorem andW_c (x y : Nat) (w : World) (hx : x < 18446744073709551616) (hy : y < 18446744073709551616) : Calls Tryd.prog 33 #[.int .u64 (x : Nat), .int .u64 (y : Nat)] w fun e w' => e = .returned (.int .u64 (x &&& y : Nat)) ∧ w' = w := by
  have h := u64_and_nat x y hx hy
  generalize x &&& y = z at *
  go_enter Tryd.func33, Tryd.ntmps33
  go_wp2
  go_ret
  exact ⟨rfl, rfl⟩
def minusN (x y : Nat) : Nat := x &&& (18446744073709551615 - y)
set_option maxHeartbeats 800000 in
theorem minusW_c (x y : Nat) (w : World) (hx : x < 18446744073709551616) (hy : y < 18446744073709551616) : Calls Tryd.prog 34 #[.int .u64 (x : Nat), .int .u64 (y : Nat)] w fun e w' => e = .returned (.int .u64 (minusN x y : Nat)) ∧ w' = w := by
  have h := u64_andNot_nat x y hx hy
  unfold minusN
  generalize x &&& (18446744073709551615 - y) = z at *
  go_enter Tryd.func34, Tryd.ntmps34
  go_wp2
  go_ret
  exact ⟨rfl, rfl⟩
theorem has_joined (f : Nat → Nat → Nat) (g : Bool → Bool → Bool) (xs ys : List Nat) (hx : Fit xs) (hy : Fit ys) (h0 : g false false = false) (hg : ∀ x y j, x < 18446744073709551616 → y < 18446744073709551616 → j < 64 → (f x y).testBit j = g (x.testBit j) (y.testBit j)) (k : Nat) :
    has (joined f xs ys (max xs.length ys.length) (max xs.length ys.length)) k = g (has xs k) (has ys k) := by
  by_cases hk : k / 64 < max xs.length ys.length
  · unfold has
    rw [joined_at f xs ys _ _ hk, hg _ _ _ (hx.at _) (hy.at _) (by omega)]
  · rw [has_end (by rw [joined_len]; omega), has_end (by omega), has_end (by omega), h0]
theorem testBit_minus (x y j : Nat) (hy : y < 18446744073709551616) (hj : j < 64) : (minusN x y).testBit j = (x.testBit j && !(y.testBit j)) := by
  unfold minusN
  rw [Nat.testBit_and]
  congr 1
  have e : (18446744073709551615 : Nat) - y = 2 ^ 64 - (y + 1) := by omega
  rw [e, Nat.testBit_two_pow_sub_succ hy]
  simp [hj]
/-- What lies behind a join. -/
structure Joined (w w' : World) (b : Nat) (g : Option Nat) (us : List Nat) (p : Nat → Bool) : Prop where
  lies : SetAt w' b g us
  fit : Fit us
  is : ∀ k, has us k = p k
  below : Below w.heap.size w w'
set_option maxHeartbeats 800000 in
theorem or_c (v1 v2 : Value) (xs ys : List Nat) (w : World) (hx : Fit xs) (hy : Fit ys) (h1 : SetV w v1 xs) (h2 : SetV w v2 ys) : Calls Tryd.prog 15 #[v1, v2] w fun e w' =>
    ∃ b, e = .returned (.pointer (some ⟨b, 0, none⟩)) ∧ ∃ g us, Joined w w' b g us (fun k => has xs k || has ys k) := by
  have hj := join_c 32 (fun args w => by rfl) (· ||| ·) v1 v2 xs ys w hx hy h1 h2 (fun x y w hx hy => orW_c x y w hx hy) (fun x y hx hy => Nat.or_lt_two_pow (n := 64) hx hy)
  go_enter Tryd.func15, Tryd.ntmps15
  go_wp2_with fail
  refine hj.mono ?_
  rintro e w' ⟨b, rfl, g, hS, hB⟩
  have hJ : Hid (Joined w w' b g _ (fun k => has xs k || has ys k)) := ⟨hS, joined_fit hx hy (by have := hx.short; have := hy.short; omega) (fun x y hx hy => Nat.or_lt_two_pow (n := 64) hx hy), has_joined (· ||| ·) (· || ·) xs ys hx hy rfl (fun x y j _ _ _ => Nat.testBit_or x y j), hB⟩
  clear hj hS hB
  go_wp2
  go_ret
  exact ⟨b, rfl, g, _, hJ.out⟩
set_option maxHeartbeats 800000 in
theorem and_c (v1 v2 : Value) (xs ys : List Nat) (w : World) (hx : Fit xs) (hy : Fit ys) (h1 : SetV w v1 xs) (h2 : SetV w v2 ys) : Calls Tryd.prog 16 #[v1, v2] w fun e w' =>
    ∃ b, e = .returned (.pointer (some ⟨b, 0, none⟩)) ∧ ∃ g us, Joined w w' b g us (fun k => has xs k && has ys k) := by
  have hj := join_c 33 (fun args w => by rfl) (· &&& ·) v1 v2 xs ys w hx hy h1 h2 (fun x y w hx hy => andW_c x y w hx hy) (fun x y hx hy => Nat.lt_of_le_of_lt Nat.and_le_left hx)
  go_enter Tryd.func16, Tryd.ntmps16
  go_wp2_with fail
  refine hj.mono ?_
  rintro e w' ⟨b, rfl, g, hS, hB⟩
  have hJ : Hid (Joined w w' b g _ (fun k => has xs k && has ys k)) := ⟨hS, joined_fit hx hy (by have := hx.short; have := hy.short; omega) (fun x y hx hy => Nat.lt_of_le_of_lt Nat.and_le_left hx), has_joined (· &&& ·) (· && ·) xs ys hx hy rfl (fun x y j _ _ _ => Nat.testBit_and x y j), hB⟩
  clear hj hS hB
  go_wp2
  go_ret
  exact ⟨b, rfl, g, _, hJ.out⟩
set_option maxHeartbeats 800000 in
theorem minus_c (v1 v2 : Value) (xs ys : List Nat) (w : World) (hx : Fit xs) (hy : Fit ys) (h1 : SetV w v1 xs) (h2 : SetV w v2 ys) : Calls Tryd.prog 17 #[v1, v2] w fun e w' =>
    ∃ b, e = .returned (.pointer (some ⟨b, 0, none⟩)) ∧ ∃ g us, Joined w w' b g us (fun k => has xs k && !(has ys k)) := by
  have hj := join_c 34 (fun args w => by rfl) minusN v1 v2 xs ys w hx hy h1 h2 (fun x y w hx hy => minusW_c x y w hx hy) (fun x y hx hy => Nat.lt_of_le_of_lt Nat.and_le_left hx)
  go_enter Tryd.func17, Tryd.ntmps17
  go_wp2_with fail
  refine hj.mono ?_
  rintro e w' ⟨b, rfl, g, hS, hB⟩
  have hJ : Hid (Joined w w' b g _ (fun k => has xs k && !(has ys k))) := ⟨hS, joined_fit hx hy (by have := hx.short; have := hy.short; omega) (fun x y hx hy => Nat.lt_of_le_of_lt Nat.and_le_left hx), has_joined minusN (fun a b => a && !b) xs ys hx hy rfl (fun x y j _ hy hj => testBit_minus x y j hy hj), hB⟩
  clear hj hS hB
  go_wp2
  go_ret
  exact ⟨b, rfl, g, _, hJ.out⟩
end Go.Proofs.YtieinedancdokabDoor
/-
  WHETHER TWO SETS ARE THE SAME, ONE WITHIN THE OTHER, OR MEET: by contract. A set may be none.
-/
namespace Go.Proofs.YtieinedancdokabDoor
open Go.ChangeShapes Go.WideShapes Go.ChangeAt Go.RowKit

set_option maxHeartbeats 800000 in
theorem sameW_c (x y : Nat) (w : World) : Calls Tryd.prog 38 #[.int .u64 (x : Nat), .int .u64 (y : Nat)] w fun e w' => e = .returned (.bool (x == y)) ∧ w' = w := by
  have h : ((x : Int) == (y : Int)) = (x == y) := by rw [Bool.eq_iff_iff, beq_iff_eq, beq_iff_eq]; omega
  generalize (x == y) = t at *
  go_enter Tryd.func38, Tryd.ntmps38
  go_wp2
  go_ret
  exact ⟨by first | rfl | rw [← h] | simp [h], rfl⟩
set_option maxHeartbeats 800000 in
theorem withinW_c (x y : Nat) (w : World) (hx : x < 18446744073709551616) (hy : y < 18446744073709551616) : Calls Tryd.prog 36 #[.int .u64 (x : Nat), .int .u64 (y : Nat)] w fun e w' => e = .returned (.bool (minusN x y == 0)) ∧ w' = w := by
  have h := u64_andNot_nat x y hx hy
  have h2 : (((minusN x y : Nat) : Int) == 0) = (minusN x y == 0) := by rw [Bool.eq_iff_iff]; simp
  unfold minusN at *
  generalize x &&& (18446744073709551615 - y) = z at *
  generalize (z == 0) = t at *
  go_enter Tryd.func36, Tryd.ntmps36
  go_wp2
  go_ret
  exact ⟨by first | rfl | rw [← h2] | simp [h2], rfl⟩
set_option maxHeartbeats 800000 in
theorem meetsW_c (x y : Nat) (w : World) (hx : x < 18446744073709551616) (hy : y < 18446744073709551616) : Calls Tryd.prog 37 #[.int .u64 (x : Nat), .int .u64 (y : Nat)] w fun e w' => e = .returned (.bool (x &&& y == 0)) ∧ w' = w := by
  have h := u64_and_nat x y hx hy
  have h2 : (((x &&& y : Nat) : Int) == 0) = (x &&& y == 0) := by rw [Bool.eq_iff_iff]; simp
  generalize x &&& y = z at *
  generalize (z == 0) = t at *
  go_enter Tryd.func37, Tryd.ntmps37
  go_wp2
  go_ret
  exact ⟨by first | rfl | rw [← h2] | simp [h2], rfl⟩
/-- A question of words, as one of numbers. -/
theorem every_iff (f : Nat → Nat → Bool) (q : Bool → Bool → Prop) (xs ys : List Nat) (hx : Fit xs) (hy : Fit ys) (h0 : q false false) (hf : ∀ x y, x < 18446744073709551616 → y < 18446744073709551616 → (f x y = true ↔ ∀ j, j < 64 → q (x.testBit j) (y.testBit j))) :
    every f xs ys (max xs.length ys.length) = true ↔ ∀ k, q (has xs k) (has ys k) := by
  unfold every
  rw [List.all_eq_true]
  constructor
  · intro h k
    by_cases hk : k / 64 < max xs.length ys.length
    · exact (hf _ _ (hx.at _) (hy.at _)).1 (h (k / 64) (List.mem_range.2 hk)) (k % 64) (by omega)
    · rw [has_end (by omega), has_end (by omega)]; exact h0
  · intro h i hi
    refine (hf _ _ (hx.at _) (hy.at _)).2 fun j hj => ?_
    have := h (64 * i + j)
    unfold has at this
    rwa [show (64 * i + j) / 64 = i by omega, show (64 * i + j) % 64 = j by omega] at this
theorem eq_bits {x y : Nat} (hx : x < 18446744073709551616) (hy : y < 18446744073709551616) (h : ∀ j, j < 64 → x.testBit j = y.testBit j) : x = y := by
  apply Nat.eq_of_testBit_eq
  intro j
  by_cases hj : j < 64
  · exact h j hj
  · rw [Nat.testBit_lt_two_pow (Nat.lt_of_lt_of_le hx (by rw [show (18446744073709551616 : Nat) = 2 ^ 64 by decide]; exact Nat.pow_le_pow_right (by omega) (by omega))),
      Nat.testBit_lt_two_pow (Nat.lt_of_lt_of_le hy (by rw [show (18446744073709551616 : Nat) = 2 ^ 64 by decide]; exact Nat.pow_le_pow_right (by omega) (by omega)))]
theorem zero_bits {x : Nat} (hx : x < 18446744073709551616) : (x == 0) = true ↔ ∀ j, j < 64 → x.testBit j = false := by
  rw [beq_iff_eq]
  constructor
  · rintro rfl j _; simp
  · intro h
    exact eq_bits hx (by omega) fun j hj => by rw [h j hj]; simp
set_option maxHeartbeats 800000 in
theorem same_s (v1 v2 : Value) (xs ys : List Nat) (w : World) (hx : Fit xs) (hy : Fit ys) (h1 : SetV w v1 xs) (h2 : SetV w v2 ys) : Calls Tryd.prog 20 #[v1, v2] w fun e w' =>
    ∃ t, e = .returned (.bool t) ∧ (t = true ↔ ∀ k, has xs k = has ys k) ∧ w' = w := by
  have hj := all_c 38 (fun args w => by rfl) (· == ·) v1 v2 xs ys w hx hy h1 h2 (fun x y w _ _ => sameW_c x y w)
  have hi := every_iff (· == ·) (fun a b => a = b) xs ys hx hy rfl (fun x y hx hy => ⟨fun h j _ => by rw [eq_of_beq h], fun h => beq_iff_eq.2 (eq_bits hx hy h)⟩)
  generalize every (· == ·) xs ys (max xs.length ys.length) = t at *
  replace hi := (show Hid _ from hi)
  go_enter Tryd.func20, Tryd.ntmps20
  go_wp2_with fail
  refine hj.mono ?_
  rintro e w' ⟨rfl, rfl⟩
  clear hj
  go_wp2
  go_ret
  exact ⟨t, rfl, hi.out, rfl⟩
set_option maxHeartbeats 800000 in
theorem within_s (v1 v2 : Value) (xs ys : List Nat) (w : World) (hx : Fit xs) (hy : Fit ys) (h1 : SetV w v1 xs) (h2 : SetV w v2 ys) : Calls Tryd.prog 18 #[v1, v2] w fun e w' =>
    ∃ t, e = .returned (.bool t) ∧ (t = true ↔ ∀ k, (has xs k && !(has ys k)) = false) ∧ w' = w := by
  have hj := all_c 36 (fun args w => by rfl) (fun x y => minusN x y == 0) v1 v2 xs ys w hx hy h1 h2 (fun x y w hx hy => withinW_c x y w hx hy)
  have hi := every_iff (fun x y => minusN x y == 0) (fun a b => (a && !b) = false) xs ys hx hy rfl (fun x y hx hy => (zero_bits (x := minusN x y) (Nat.lt_of_le_of_lt Nat.and_le_left hx)).trans
    ⟨fun h j hj => by rw [← testBit_minus x y j hy hj]; exact h j hj, fun h j hj => by rw [testBit_minus x y j hy hj]; exact h j hj⟩)
  generalize every (fun x y => minusN x y == 0) xs ys (max xs.length ys.length) = t at *
  replace hi := (show Hid _ from hi)
  go_enter Tryd.func18, Tryd.ntmps18
  go_wp2_with fail
  refine hj.mono ?_
  rintro e w' ⟨rfl, rfl⟩
  clear hj
  go_wp2
  go_ret
  exact ⟨t, rfl, hi.out, rfl⟩
set_option maxHeartbeats 800000 in
theorem meets_s (v1 v2 : Value) (xs ys : List Nat) (w : World) (hx : Fit xs) (hy : Fit ys) (h1 : SetV w v1 xs) (h2 : SetV w v2 ys) : Calls Tryd.prog 19 #[v1, v2] w fun e w' =>
    ∃ t, e = .returned (.bool (!t)) ∧ (t = true ↔ ∀ k, (has xs k && has ys k) = false) ∧ w' = w := by
  have hj := all_c 37 (fun args w => by rfl) (fun x y => x &&& y == 0) v1 v2 xs ys w hx hy h1 h2 (fun x y w hx hy => meetsW_c x y w hx hy)
  have hi := every_iff (fun x y => x &&& y == 0) (fun a b => (a && b) = false) xs ys hx hy rfl (fun x y hx hy => (zero_bits (Nat.lt_of_le_of_lt Nat.and_le_left hx)).trans
    ⟨fun h j hj => by rw [← Nat.testBit_and]; exact h j hj, fun h j hj => by rw [Nat.testBit_and]; exact h j hj⟩)
  generalize every (fun x y => x &&& y == 0) xs ys (max xs.length ys.length) = t at *
  replace hi := (show Hid _ from hi)
  go_enter Tryd.func19, Tryd.ntmps19
  go_wp2_with fail
  refine hj.mono ?_
  rintro e w' ⟨rfl, rfl⟩
  clear hj
  go_wp2
  go_ret
  exact ⟨t, rfl, hi.out, rfl⟩
end Go.Proofs.YtieinedancdokabDoor
