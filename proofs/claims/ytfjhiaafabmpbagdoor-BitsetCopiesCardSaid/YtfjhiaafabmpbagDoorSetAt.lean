/-
  SETS, as they lie; one bit, moved; what a set tells of a number: by contract; bits of words.
-/
import Derived.Test.YtfjhiaafabmpbagDoorSl
import Derived.Laws.BitsAllLaws
import Derived.Laws.BitsLemmas
import Derived.Laws.Rows
import Derived.Laws.MakeOwn
import Derived.Laws.OwnMore
import Derived.Laws.CopyOwn
namespace Go.Proofs.YtfjhiaafabmpbagDoor
open Go.ChangeShapes Go.WideShapes Go.ChangeAt Go.RowKit

set_option maxHeartbeats 800000 in
theorem shift_c (k : Nat) (w : World) (hk : k < 64) : Calls Tryd.prog 18 #[.int .u64 1, .int .i64 k] w fun e w' => e = .returned (.int .u64 ((2 ^ k : Nat) : Int)) ∧ w' = w := by
  have h1 : ¬ (64 : Int) ≤ (k : Int) := by omega
  have h2 : ¬ (k : Int) ≤ -64 := by omega
  have h3 : (0 : Int) ≤ (k : Int) := by omega
  have hp : 2 ^ k < 2 ^ 64 := Nat.pow_lt_pow_right (by omega) hk
  have key : ∀ y : Nat, y < 2 ^ 64 → IntKind.u64.wrap (y : Int) = y := fun y hy => IntWalk.u64_in _ ⟨by omega, by omega⟩
  have hw : IntKind.u64.wrap ((2 : Int) ^ k) = (2 : Int) ^ k := by simpa using key _ hp
  clear key hp
  go_enter Tryd.func18, Tryd.ntmps18
  go_wp2
  go_ret
  refine ⟨?_, rfl⟩
  show Ending.returned (Value.int IntKind.u64 ((2 : Int) ^ k)) = _
  simp

/-! ### How a set lies -/
def rowV (n : Nat) : Option Nat → Value
  | none => .slice none 0 0
  | some g => .slice (some ⟨g, 0, none⟩) n n
def wv (ws : List Nat) : Array Value := (ws.map fun (x : Nat) => Value.int .u64 (x : Int)).toArray
structure SetAt (w : World) (b : Nat) (g : Option Nat) (ws : List Nat) : Prop where
  head : w.heap[b]? = some (.cells #[rowV ws.length g] 37)
  empty : g = none → ws = []
  row : ∀ x, g = some x → w.heap[x]? = some (.cells (wv ws) 31)
structure Fit (ws : List Nat) : Prop where
  small : ∀ x ∈ ws, x < 18446744073709551616
  short : ws.length ≤ 1024
theorem Fit.at {ws : List Nat} (h : Fit ws) (j : Nat) : ws.getD j 0 < 18446744073709551616 := by
  rcases Nat.lt_or_ge j ws.length with hj | hj
  · have : ws.getD j 0 = ws[j] := by simp [List.getD, hj]
    rw [this]; exact h.small _ (List.getElem_mem hj)
  · have : ws.getD j 0 = 0 := by rw [List.getD_eq_getElem?_getD, List.getElem?_eq_none hj]; rfl
    rw [this]; omega
theorem SetAt.lt {w : World} {b : Nat} {g : Option Nat} {ws : List Nat} (h : SetAt w b g ws) : b < w.heap.size := (Array.getElem?_eq_some_iff.1 h.head).1
theorem SetAt.glt {w : World} {b g : Nat} {ws : List Nat} (h : SetAt w b (some g) ws) : g < w.heap.size := (Array.getElem?_eq_some_iff.1 (h.row g rfl)).1
theorem SetAt.ne {w : World} {b g : Nat} {ws : List Nat} (h : SetAt w b (some g) ws) : b ≠ g := fun e => by
  have h1 := h.head
  have h2 := h.row g rfl
  rw [e, h2] at h1
  simp at h1
theorem SetAt.cell0 {w : World} {b : Nat} {g : Option Nat} {ws : List Nat} (h : SetAt w b g ws) : w.cell? ⟨b, 0, Option.none⟩ = some (rowV ws.length g) := by
  simp [World.cell?, h.head]
theorem SetAt.frozen0 {w : World} {b : Nat} {g : Option Nat} {ws : List Nat} (h : SetAt w b g ws) : w.frozen? ⟨b, 0, Option.none⟩ = false := by
  simp [World.frozen?, h.head]
theorem SetAt.cell {w : World} {b g : Nat} {ws : List Nat} (h : SetAt w b (some g) ws) (j : Nat) (hj : j < ws.length) : w.cell? ⟨g, j, Option.none⟩ = some (.int .u64 (ws.getD j 0 : Nat)) := by
  simp [World.cell?, h.row g rfl, wv, hj, List.getD]
theorem SetAt.frozen {w : World} {b g : Nat} {ws : List Nat} (h : SetAt w b (some g) ws) (j : Nat) : w.frozen? ⟨g, j, Option.none⟩ = false := by
  simp [World.frozen?, h.row g rfl]
/-- Whether a number is in a set. -/
def has (ws : List Nat) (n : Nat) : Bool := (ws.getD (n / 64) 0).testBit (n % 64)
theorem has_end {ws : List Nat} {n : Nat} (h : ws.length ≤ n / 64) : has ws n = false := by
  have : ws.getD (n / 64) 0 = 0 := by rw [List.getD_eq_getElem?_getD, List.getElem?_eq_none h]; rfl
  rw [has, this]; simp

/-- All blocks but these lie as they lay. -/
structure Save (S : List Nat) (w w' : World) : Prop where
  os : w'.os = w.os
  tape : w'.tape = w.tape
  output : w'.output = w.output
  size : w.heap.size ≤ w'.heap.size
  block : ∀ k, k < w.heap.size → k ∉ S → w'.heap[k]? = w.heap[k]?
theorem Save.refl (S : List Nat) (w : World) : Save S w w := ⟨rfl, rfl, rfl, Nat.le_refl _, fun _ _ _ => rfl⟩
theorem Save.trans {S : List Nat} {a b c : World} (h : Save S a b) (h' : Save S b c) : Save S a c :=
  ⟨h'.os.trans h.os, h'.tape.trans h.tape, h'.output.trans h.output, Nat.le_trans h.size h'.size, fun k hk hS => (h'.block k (Nat.lt_of_lt_of_le hk h.size) hS).trans (h.block k hk hS)⟩
theorem Save.of_below {S : List Nat} {w w' : World} (h : Below w.heap.size w w') : Save S w w' := ⟨h.os, h.tape, h.output, h.size, fun k hk _ => h.block k hk⟩
theorem Save.below {S : List Nat} {B : Nat} {w w' : World} (h : Save S w w') (hB : B ≤ w.heap.size) (hS : ∀ k ∈ S, B ≤ k) : Below B w w' :=
  ⟨h.os, h.tape, h.output, h.size, fun k hk => h.block k (by omega) fun hm => by have := hS k hm; omega⟩
theorem Save.mono {S S' : List Nat} {w w' : World} (h : Save S w w') (hS : ∀ k ∈ S, k ∈ S') : Save S' w w' := ⟨h.os, h.tape, h.output, h.size, fun k hk hn => h.block k hk fun hm => hn (hS k hm)⟩
theorem SetAt.save {S : List Nat} {w w' : World} {b : Nat} {g : Option Nat} {ws : List Nat} (h : SetAt w b g ws) (hs : Save S w w') (hb : b ∉ S) (hg : ∀ x, g = some x → x ∉ S) : SetAt w' b g ws :=
  ⟨(hs.block b h.lt hb).trans h.head, h.empty, fun x hx => (hs.block x (by subst hx; exact h.glt) (hg x hx)).trans (h.row x hx)⟩
theorem SetAt.below {w w' : World} {b : Nat} {g : Option Nat} {ws : List Nat} (h : SetAt w b g ws) (hB : Below w.heap.size w w') : SetAt w' b g ws :=
  h.save (S := []) (Save.of_below hB) (by simp) (by simp)

/-! ### What it tells -/
set_option maxHeartbeats 800000 in
theorem wide_c (b : Nat) (g : Option Nat) (ws : List Nat) (w : World) (h : SetAt w b g ws) : Calls Tryd.prog 16 #[.pointer (some ⟨b, 0, none⟩)] w fun e w' => e = .returned (.int .i64 ws.length) ∧ w' = w := by
  have h0 := h.cell0
  cases g with
  | none =>
    have hn := h.empty rfl
    subst hn
    simp only [rowV] at h0
    go_enter Tryd.func16, Tryd.ntmps16
    go_wp2
    go_ret
    exact ⟨rfl, rfl⟩
  | some g =>
    simp only [rowV] at h0
    go_enter Tryd.func16, Tryd.ntmps16
    go_wp2
    go_ret
    exact ⟨rfl, rfl⟩
set_option maxHeartbeats 800000 in
theorem word_c (b : Nat) (g : Option Nat) (ws : List Nat) (i : Nat) (w : World) (h : SetAt w b g ws) :
    Calls Tryd.prog 24 #[.pointer (some ⟨b, 0, none⟩), .int .i64 i] w fun e w' => e = .returned (.int .u64 (ws.getD i 0 : Nat)) ∧ w' = w := by
  have hw := wide_c b g ws w h
  have h0 := h.cell0
  by_cases hi : i < ws.length
  · cases g with
    | none => have hn := h.empty rfl; subst hn; simp at hi
    | some g =>
      have h1 := h.cell i hi
      simp only [rowV] at h0
      generalize ws.getD i 0 = x at *
      have hi1 : (i : Int) < (ws.length : Int) := by omega
      have hi2 : ¬ (ws.length : Int) ≤ (i : Int) := by omega
      clear h
      go_enter Tryd.func24, Tryd.ntmps24
      go_wp2_with fail
      refine hw.mono ?_
      rintro e w' ⟨rfl, rfl⟩
      clear hw
      go_wp2
      go_ret
      exact ⟨rfl, rfl⟩
  · have hx : ws.getD i 0 = 0 := by rw [List.getD_eq_getElem?_getD, List.getElem?_eq_none (by omega)]; rfl
    rw [hx]
    have hi2 : (ws.length : Int) ≤ (i : Int) := by omega
    clear h h0 hx
    go_enter Tryd.func24, Tryd.ntmps24
    go_wp2_with fail
    refine hw.mono ?_
    rintro e w' ⟨rfl, rfl⟩
    clear hw
    go_wp2
    go_ret
    exact ⟨rfl, rfl⟩
theorem and_pow (x k : Nat) : (x &&& 2 ^ k == 0) = !(x.testBit k) := by
  cases h : x.testBit k
  · have : x &&& 2 ^ k = 0 := Nat.eq_of_testBit_eq fun i => by
      rw [Nat.testBit_and, Nat.testBit_two_pow, Nat.zero_testBit]
      by_cases hi : k = i
      · subst hi; simp [h]
      · simp [hi]
    simp [this]
  · have : x &&& 2 ^ k ≠ 0 := fun e => by
      have := congrArg (Nat.testBit · k) e
      simp [Nat.testBit_and, h] at this
    simpa using this
set_option maxHeartbeats 800000 in
theorem has_c (b : Nat) (g : Option Nat) (ws : List Nat) (n : Int) (w : World) (hf : Fit ws) (h : SetAt w b g ws) (hlo : n ≤ 9223372036854775807) :
    Calls Tryd.prog 17 #[.pointer (some ⟨b, 0, none⟩), .int .i64 n] w fun e w' => e = .returned (.bool (decide (0 ≤ n) && has ws n.toNat)) ∧ w' = w := by
  by_cases hn : 0 ≤ n
  · obtain ⟨m, rfl⟩ := Int.eq_ofNat_of_zero_le hn
    have hx := hf.at (m / 64)
    have hw := fun (w : World) h => word_c b g ws (m / 64) w h
    have hs : ∀ w, Calls Tryd.prog 18 #[.int .u64 1, .int .i64 ((m : Int) % 64)] w fun e w' => e = .returned (.int .u64 ((2 ^ (m % 64) : Nat) : Int)) ∧ w' = w := fun w => shift_c (m % 64) w (by omega)
    have hb : has ws m = !((ws.getD (m / 64) 0) &&& 2 ^ (m % 64) == 0) := by rw [and_pow]; simp [has]
    have hp : 2 ^ (m % 64) < 18446744073709551616 := Nat.pow_lt_pow_right (n := 64) (by omega) (by omega)
    have hand := u64_and_nat _ _ hx hp
    generalize ws.getD (m / 64) 0 = x at *
    simp only [Int.toNat_natCast, hb]
    clear hb
    generalize 2 ^ (m % 64) = y at *
    have hm : (0 : Int) ≤ (m : Int) := hn
    have e1 : wrap64 ((m : Int) / 64) = ((m / 64 : Nat) : Int) := by rw [IntWalk.wrap64_in] <;> omega
    go_enter Tryd.func17, Tryd.ntmps17
    go_wp2_with fail
    refine (hw _ h).mono ?_
    rintro e w' ⟨rfl, rfl⟩
    go_wp2_with fail
    refine (hs _).mono ?_
    rintro e w' ⟨rfl, rfl⟩
    clear hs hw
    go_wp2
    go_ret
    have hz : (((x &&& y : Nat) : Int) != 0) = !(x &&& y == 0) := by rw [Bool.eq_iff_iff]; simp
    exact ⟨by simp [hz], rfl⟩
  · have hm : ¬ (0 : Int) ≤ n := hn
    go_enter Tryd.func17, Tryd.ntmps17
    go_wp2
    go_ret
    exact ⟨by simp; intro h0; omega, rfl⟩

theorem hidden {p : Prop} (h : p) : Hid p := h
theorem getD_set (ws : List Nat) (i j x : Nat) (hi : i < ws.length) : (ws.set i x).getD j 0 = if i = j then x else ws.getD j 0 := by
  rw [List.getD_eq_getElem?_getD, List.getD_eq_getElem?_getD, List.getElem?_set]
  by_cases h : i = j
  · subst h; simp [hi]
  · simp [h]
theorem has_set_or (ws : List Nat) (m k : Nat) (hm : m / 64 < ws.length) : has (ws.set (m / 64) (ws.getD (m / 64) 0 ||| 2 ^ (m % 64))) k = (has ws k || k == m) := by
  unfold has
  rw [getD_set _ _ _ _ hm]
  by_cases h : m / 64 = k / 64
  · rw [if_pos h, ← h, Nat.testBit_or, Nat.testBit_two_pow]
    congr 1
    rw [Bool.eq_iff_iff]; simp; omega
  · rw [if_neg h]
    have : (k == m) = false := by simp; intro e; subst e; exact h rfl
    rw [this, Bool.or_false]
theorem testBit_all (i : Nat) (hi : i < 64) : Nat.testBit 18446744073709551615 i = true := by
  have : (18446744073709551615 : Nat) = 2 ^ 64 - 1 := by decide
  rw [this, Nat.testBit_two_pow_sub_one]; simpa using hi
theorem testBit_not (j i : Nat) (hj : j < 64) (hi : i < 64) : Nat.testBit (18446744073709551615 - 2 ^ j) i = !decide (j = i) := by
  have e : (18446744073709551615 : Nat) - 2 ^ j = 2 ^ 64 - (2 ^ j + 1) := by omega
  rw [e, Nat.testBit_two_pow_sub_succ (Nat.pow_lt_pow_right (by omega) hj), Nat.testBit_two_pow]
  simp [hi]
theorem has_set_not (ws : List Nat) (m k : Nat) (hm : m / 64 < ws.length) : has (ws.set (m / 64) (ws.getD (m / 64) 0 &&& (18446744073709551615 - 2 ^ (m % 64)))) k = (has ws k && !(k == m)) := by
  unfold has
  rw [getD_set _ _ _ _ hm]
  by_cases h : m / 64 = k / 64
  · rw [if_pos h, ← h, Nat.testBit_and, testBit_not _ _ (by omega) (by omega)]
    congr 2
    rw [Bool.eq_iff_iff]; simp; omega
  · rw [if_neg h]
    have : (k == m) = false := by simp; intro e; subst e; exact h rfl
    rw [this]; simp
theorem has_zeros (ws : List Nat) (c k : Nat) : has (ws ++ List.replicate c 0) k = has ws k := by
  unfold has
  congr 1
  rw [List.getD_eq_getElem?_getD, List.getD_eq_getElem?_getD]
  rcases Nat.lt_or_ge (k / 64) ws.length with h | h
  · rw [List.getElem?_append_left h]
  · rw [List.getElem?_append_right h, List.getElem?_eq_none h, List.getElem?_replicate]
    split <;> rfl
theorem Fit.set {ws : List Nat} (h : Fit ws) (i x : Nat) (hx : x < 18446744073709551616) : Fit (ws.set i x) :=
  ⟨fun y hy => by rcases List.mem_or_eq_of_mem_set hy with h1 | h1
                  · exact h.small y h1
                  · omega, by rw [List.length_set]; exact h.short⟩
theorem Fit.zeros {ws : List Nat} (h : Fit ws) (c : Nat) (hc : ws.length + c ≤ 1024) : Fit (ws ++ List.replicate c 0) :=
  ⟨fun y hy => by rcases List.mem_append.1 hy with h1 | h1
                  · exact h.small y h1
                  · rw [(List.mem_replicate.1 h1).2]; omega, by simp; omega⟩
theorem or_lt (x k : Nat) (hx : x < 18446744073709551616) (hk : k < 64) : x ||| 2 ^ k < 18446744073709551616 :=
  Nat.or_lt_two_pow (n := 64) hx (Nat.pow_lt_pow_right (n := 64) (by omega) hk)
theorem wv_set (ws : List Nat) (i x : Nat) : (wv ws).setIfInBounds i (.int .u64 (x : Int)) = wv (ws.set i x) := by
  apply Array.ext'
  simp [wv, List.map_set]
theorem wv_size (ws : List Nat) : (wv ws).size = ws.length := by simp [wv]
/-- A word of a set, put. -/
theorem SetAt.put {w : World} {b g : Nat} {ws : List Nat} (h : SetAt w b (some g) ws) (i x : Nat) : SetAt (w.setCell ⟨g, i, none⟩ (.int .u64 (x : Int))) b (some g) (ws.set i x) ∧ Save [b, g] w (w.setCell ⟨g, i, none⟩ (.int .u64 (x : Int))) := by
  have hne := h.ne
  refine ⟨⟨?_, (fun e => by cases e), fun y hy => ?_⟩, ⟨rfl, rfl, rfl, by simp [World.setCell], fun k hk hS => ?_⟩⟩
  · rw [List.length_set]
    simp only [World.setCell, Array.getElem?_modify]
    rw [if_neg (fun e => hne e.symm)]
    exact h.head
  · cases hy
    simp [World.setCell, Array.getElem?_modify, h.row g rfl, ← wv_set]
  · simp only [World.setCell, Array.getElem?_modify]
    rw [if_neg (fun e => hS (by simp [e]))]
/-! ### Words made, and copied -/
theorem infoU64 : (Tryd.prog.info? 31).map (fun i => (i.zero, i.size, i.bytes)) = some (some (.int .u64 0), 1, 8) := by kernel_rfl
theorem makeW (c : Nat) (w : World) (hc : c ≤ 1024) : (Instr.makeSlice 29 (.int .i64 (c : Int)) (.int .i64 (c : Int))).run Tryd.prog w =
    .ok (.slice (some ⟨w.heap.size, 0, none⟩) c c) (w.alloc (.cells (wv (List.replicate c 0)) 31)) := by
  obtain ⟨i, hi, hz0, hz1, hz2⟩ := info_parts infoU64
  rw [run_makeSlice w 29 31 i (.int .u64 0) Tryd.underlying29 hi hz0 .i64 .i64 c c (by omega) (Int.le_refl _) (by rw [hz1]; simp; omega) (by rw [hz2]; omega) (by omega)]
  have e : madeCells (Value.int .u64 0).cells ((c : Int).toNat * i.size) = wv (List.replicate c 0) := by
    apply Array.ext'
    rw [hz1, Int.toNat_natCast, Nat.mul_one]
    show (madeCells #[Value.int .u64 0] c).toList = _
    rw [toList_madeCells_one]
    simp [wv]
  rw [e]
  simp
theorem splice_wv (ws : List Nat) (c : Nat) : (splice (wv (List.replicate c 0)).toList 0 (wv ws).toList).toArray = wv (ws ++ List.replicate (c - ws.length) 0) := by
  apply Array.ext'
  simp [splice, wv, List.drop_replicate]
/-- A set's words laid anew, longer. -/
theorem SetAt.moved {w w3 w4 : World} {b c : Nat} {g : Option Nat} {ws : List Nat} (h : SetAt w b g ws) (hc : ws.length ≤ c) (e3 : w3 = w.alloc (.cells (wv (List.replicate c 0)) 31))
    (h4 : w4.heap[w.heap.size]? = some (.cells (splice (wv (List.replicate c 0)).toList 0 (wv ws).toList).toArray 31 (0, 0))) (hB : Below w.heap.size w3 w4) :
    SetAt (w4.setCell ⟨b, 0, none⟩ (.slice (some ⟨w.heap.size, 0, none⟩) c c)) b (some w.heap.size) (ws ++ List.replicate (c - ws.length) 0) ∧ Save [b] w (w4.setCell ⟨b, 0, none⟩ (.slice (some ⟨w.heap.size, 0, none⟩) c c)) ∧ w4.frozen? ⟨b, 0, none⟩ = false := by
  have hlt := h.lt
  have hb4 : w4.heap[b]? = some (.cells #[rowV ws.length g] 37) := (hB.block b hlt).trans (by rw [e3]; exact (heap_alloc_old _ _ hlt).trans h.head)
  have hlen : (ws ++ List.replicate (c - ws.length) 0).length = c := by simp; omega
  rw [splice_wv] at h4
  refine ⟨⟨?_, fun e => (by cases e), fun x hx => ?_⟩, ⟨?_, ?_, ?_, ?_, fun k hk hS => ?_⟩, ?_⟩
  · rw [hlen]
    simp [World.setCell, Array.getElem?_modify, hb4, rowV]
  · cases hx
    simp only [World.setCell, Array.getElem?_modify]
    rw [if_neg (by show b ≠ w.heap.size; omega)]
    exact h4
  · exact hB.os.trans (by rw [e3]; rfl)
  · exact hB.tape.trans (by rw [e3]; rfl)
  · exact hB.output.trans (by rw [e3]; rfl)
  · have := hB.size
    rw [e3] at this
    simp [World.setCell] at this ⊢
    omega
  · simp only [World.setCell, Array.getElem?_modify]
    rw [if_neg (fun e => hS (by simp; exact e.symm))]
    exact (hB.block k hk).trans (by rw [e3]; exact heap_alloc_old _ _ hk)
  · simp [World.frozen?, hb4]
end Go.Proofs.YtfjhiaafabmpbagDoor
