/-
  SETS, as they lie; one bit, moved; what a set tells of a number: by contract; bits of words.
-/
import Derived.Test.YtieinedancdokacDoorPA
import Derived.Laws.BitsAllLaws
import Derived.Laws.BitsLemmas
import Derived.Laws.Rows
import Derived.Laws.MakeOwn
import Derived.Laws.OwnMore
import Derived.Laws.CopyOwn
import Derived.StillTailTactics
import Derived.WalkSmall
namespace Go.Proofs.YtieinedancdokacDoor
open Go.ChangeShapes Go.WideShapes Go.ChangeAt Go.RowKit

set_option maxHeartbeats 800000 in
theorem shift_c (k : Nat) (w : World) (hk : k < 64) : Calls Tryd.prog 20 #[.int .u64 1, .int .i64 k] w fun e w' => e = .returned (.int .u64 ((2 ^ k : Nat) : Int)) ∧ w' = w := by
  have h1 : ¬ (64 : Int) ≤ (k : Int) := by omega
  have h2 : ¬ (k : Int) ≤ -64 := by omega
  have h3 : (0 : Int) ≤ (k : Int) := by omega
  have hp : 2 ^ k < 2 ^ 64 := Nat.pow_lt_pow_right (by omega) hk
  have key : ∀ y : Nat, y < 2 ^ 64 → IntKind.u64.wrap (y : Int) = y := fun y hy => IntWalk.u64_in _ ⟨by omega, by omega⟩
  have hw : IntKind.u64.wrap ((2 : Int) ^ k) = (2 : Int) ^ k := by simpa using key _ hp
  clear key hp
  go_enter Tryd.func20, Tryd.ntmps20
  go_wp2
  go_ret
  refine ⟨?_, rfl⟩
  show Ending.returned (Value.int IntKind.u64 ((2 : Int) ^ k)) = _
  simp

/-! ### How a set lies -/
def rowV (n : Nat) : Option Nat → Value
  | none => .slice none 0 0
  | some g => .slice (some ⟨g, 0, none⟩) n n
def wv (ws : List Nat) : Array Value := (ws.map fun (x : Nat) => Value.int .u64 (x : Int)).toArray
structure SetAt (w : World) (b : Nat) (g : Option Nat) (ws : List Nat) : Prop where
  head : w.heap[b]? = some (.cells #[rowV ws.length g] 43)
  empty : g = none → ws = []
  row : ∀ x, g = some x → w.heap[x]? = some (.cells (wv ws) 44)
structure Fit (ws : List Nat) : Prop where
  small : ∀ x ∈ ws, x < 18446744073709551616
  short : ws.length ≤ 1024
theorem Fit.at {ws : List Nat} (h : Fit ws) (j : Nat) : ws.getD j 0 < 18446744073709551616 := by
  rcases Nat.lt_or_ge j ws.length with hj | hj
  · have : ws.getD j 0 = ws[j] := by simp [List.getD, hj]
    rw [this]; exact h.small _ (List.getElem_mem hj)
  · have : ws.getD j 0 = 0 := by rw [List.getD_eq_getElem?_getD, List.getElem?_eq_none hj]; rfl
    rw [this]; omega
theorem SetAt.lt {w : World} {b : Nat} {g : Option Nat} {ws : List Nat} (h : SetAt w b g ws) : b < w.heap.size := (Array.getElem?_eq_some_iff.1 h.head).1
theorem SetAt.glt {w : World} {b g : Nat} {ws : List Nat} (h : SetAt w b (some g) ws) : g < w.heap.size := (Array.getElem?_eq_some_iff.1 (h.row g rfl)).1
theorem SetAt.ne {w : World} {b g : Nat} {ws : List Nat} (h : SetAt w b (some g) ws) : b ≠ g := fun e => by
  have h1 := h.head
  have h2 := h.row g rfl
  rw [e, h2] at h1
  simp at h1
theorem SetAt.cell0 {w : World} {b : Nat} {g : Option Nat} {ws : List Nat} (h : SetAt w b g ws) : w.cell? ⟨b, 0, Option.none⟩ = some (rowV ws.length g) := by
  simp [World.cell?, h.head]
theorem SetAt.frozen0 {w : World} {b : Nat} {g : Option Nat} {ws : List Nat} (h : SetAt w b g ws) : w.frozen? ⟨b, 0, Option.none⟩ = false := by
  simp [World.frozen?, h.head]
theorem SetAt.cell {w : World} {b g : Nat} {ws : List Nat} (h : SetAt w b (some g) ws) (j : Nat) (hj : j < ws.length) : w.cell? ⟨g, j, Option.none⟩ = some (.int .u64 (ws.getD j 0 : Nat)) := by
  simp [World.cell?, h.row g rfl, wv, hj, List.getD]
theorem SetAt.frozen {w : World} {b g : Nat} {ws : List Nat} (h : SetAt w b (some g) ws) (j : Nat) : w.frozen? ⟨g, j, Option.none⟩ = false := by
  simp [World.frozen?, h.row g rfl]
/-- Whether a number is in a set. -/
def has (ws : List Nat) (n : Nat) : Bool := (ws.getD (n / 64) 0).testBit (n % 64)
theorem has_end {ws : List Nat} {n : Nat} (h : ws.length ≤ n / 64) : has ws n = false := by
  have : ws.getD (n / 64) 0 = 0 := by rw [List.getD_eq_getElem?_getD, List.getElem?_eq_none h]; rfl
  rw [has, this]; simp

/-- All blocks but these lie as they lay. -/
structure Save (S : List Nat) (w w' : World) : Prop where
  os : w'.os = w.os
  tape : w'.tape = w.tape
  output : w'.output = w.output
  size : w.heap.size ≤ w'.heap.size
  block : ∀ k, k < w.heap.size → k ∉ S → w'.heap[k]? = w.heap[k]?
theorem Save.refl (S : List Nat) (w : World) : Save S w w := ⟨rfl, rfl, rfl, Nat.le_refl _, fun _ _ _ => rfl⟩
theorem Save.trans {S : List Nat} {a b c : World} (h : Save S a b) (h' : Save S b c) : Save S a c :=
  ⟨h'.os.trans h.os, h'.tape.trans h.tape, h'.output.trans h.output, Nat.le_trans h.size h'.size, fun k hk hS => (h'.block k (Nat.lt_of_lt_of_le hk h.size) hS).trans (h.block k hk hS)⟩
theorem Save.of_below {S : List Nat} {w w' : World} (h : Below w.heap.size w w') : Save S w w' := ⟨h.os, h.tape, h.output, h.size, fun k hk _ => h.block k hk⟩
theorem Save.below {S : List Nat} {B : Nat} {w w' : World} (h : Save S w w') (hB : B ≤ w.heap.size) (hS : ∀ k ∈ S, B ≤ k) : Below B w w' :=
  ⟨h.os, h.tape, h.output, h.size, fun k hk => h.block k (by omega) fun hm => by have := hS k hm; omega⟩
theorem Save.mono {S S' : List Nat} {w w' : World} (h : Save S w w') (hS : ∀ k ∈ S, k ∈ S') : Save S' w w' := ⟨h.os, h.tape, h.output, h.size, fun k hk hn => h.block k hk fun hm => hn (hS k hm)⟩
theorem SetAt.save {S : List Nat} {w w' : World} {b : Nat} {g : Option Nat} {ws : List Nat} (h : SetAt w b g ws) (hs : Save S w w') (hb : b ∉ S) (hg : ∀ x, g = some x → x ∉ S) : SetAt w' b g ws :=
  ⟨(hs.block b h.lt hb).trans h.head, h.empty, fun x hx => (hs.block x (by subst hx; exact h.glt) (hg x hx)).trans (h.row x hx)⟩
theorem SetAt.below {w w' : World} {b : Nat} {g : Option Nat} {ws : List Nat} (h : SetAt w b g ws) (hB : Below w.heap.size w w') : SetAt w' b g ws :=
  h.save (S := []) (Save.of_below hB) (by simp) (by simp)

/-! ### What it tells -/
set_option maxHeartbeats 800000 in
theorem wide_c (b : Nat) (g : Option Nat) (ws : List Nat) (w : World) (h : SetAt w b g ws) : Calls Tryd.prog 21 #[.pointer (some ⟨b, 0, none⟩)] w fun e w' => e = .returned (.int .i64 ws.length) ∧ w' = w := by
  have h0 := h.cell0
  cases g with
  | none =>
    have hn := h.empty rfl
    subst hn
    simp only [rowV] at h0
    go_enter Tryd.func21, Tryd.ntmps21
    go_wp2
    go_ret
    exact ⟨rfl, rfl⟩
  | some g =>
    simp only [rowV] at h0
    go_enter Tryd.func21, Tryd.ntmps21
    go_wp2
    go_ret
    exact ⟨rfl, rfl⟩
set_option maxHeartbeats 800000 in
theorem word_c (b : Nat) (g : Option Nat) (ws : List Nat) (i : Nat) (w : World) (h : SetAt w b g ws) :
    Calls Tryd.prog 23 #[.pointer (some ⟨b, 0, none⟩), .int .i64 i] w fun e w' => e = .returned (.int .u64 (ws.getD i 0 : Nat)) ∧ w' = w := by
  have hw := wide_c b g ws w h
  have h0 := h.cell0
  by_cases hi : i < ws.length
  · cases g with
    | none => have hn := h.empty rfl; subst hn; simp at hi
    | some g =>
      have h1 := h.cell i hi
      simp only [rowV] at h0
      generalize ws.getD i 0 = x at *
      have hi1 : (i : Int) < (ws.length : Int) := by omega
      have hi2 : ¬ (ws.length : Int) ≤ (i : Int) := by omega
      clear h
      go_enter Tryd.func23, Tryd.ntmps23
      go_wp2_with fail
      refine hw.mono ?_
      rintro e w' ⟨rfl, rfl⟩
      clear hw
      go_wp2
      go_ret
      exact ⟨rfl, rfl⟩
  · have hx : ws.getD i 0 = 0 := by rw [List.getD_eq_getElem?_getD, List.getElem?_eq_none (by omega)]; rfl
    rw [hx]
    have hi2 : (ws.length : Int) ≤ (i : Int) := by omega
    clear h h0 hx
    go_enter Tryd.func23, Tryd.ntmps23
    go_wp2_with fail
    refine hw.mono ?_
    rintro e w' ⟨rfl, rfl⟩
    clear hw
    go_wp2
    go_ret
    exact ⟨rfl, rfl⟩
theorem and_pow (x k : Nat) : (x &&& 2 ^ k == 0) = !(x.testBit k) := by
  cases h : x.testBit k
  · have : x &&& 2 ^ k = 0 := Nat.eq_of_testBit_eq fun i => by
      rw [Nat.testBit_and, Nat.testBit_two_pow, Nat.zero_testBit]
      by_cases hi : k = i
      · subst hi; simp [h]
      · simp [hi]
    simp [this]
  · have : x &&& 2 ^ k ≠ 0 := fun e => by
      have := congrArg (Nat.testBit · k) e
      simp [Nat.testBit_and, h] at this
    simpa using this
set_option maxHeartbeats 800000 in
theorem has_c (b : Nat) (g : Option Nat) (ws : List Nat) (n : Int) (w : World) (hf : Fit ws) (h : SetAt w b g ws) (hlo : n ≤ 9223372036854775807) :
    Calls Tryd.prog 12 #[.pointer (some ⟨b, 0, none⟩), .int .i64 n] w fun e w' => e = .returned (.bool (decide (0 ≤ n) && has ws n.toNat)) ∧ w' = w := by
  by_cases hn : 0 ≤ n
  · obtain ⟨m, rfl⟩ := Int.eq_ofNat_of_zero_le hn
    have hx := hf.at (m / 64)
    have hw := fun (w : World) h => word_c b g ws (m / 64) w h
    have hs : ∀ w, Calls Tryd.prog 20 #[.int .u64 1, .int .i64 ((m : Int) % 64)] w fun e w' => e = .returned (.int .u64 ((2 ^ (m % 64) : Nat) : Int)) ∧ w' = w := fun w => shift_c (m % 64) w (by omega)
    have hb : has ws m = !((ws.getD (m / 64) 0) &&& 2 ^ (m % 64) == 0) := by rw [and_pow]; simp [has]
    have hp : 2 ^ (m % 64) < 18446744073709551616 := Nat.pow_lt_pow_right (n := 64) (by omega) (by omega)
    have hand := u64_and_nat _ _ hx hp
    generalize ws.getD (m / 64) 0 = x at *
    simp only [Int.toNat_natCast, hb]
    clear hb
    generalize 2 ^ (m % 64) = y at *
    have hm : (0 : Int) ≤ (m : Int) := hn
    have e1 : wrap64 ((m : Int) / 64) = ((m / 64 : Nat) : Int) := by rw [IntWalk.wrap64_in] <;> omega
    go_enter Tryd.func12, Tryd.ntmps12
    go_wp2_with fail
    refine (hw _ h).mono ?_
    rintro e w' ⟨rfl, rfl⟩
    go_wp2_with fail
    refine (hs _).mono ?_
    rintro e w' ⟨rfl, rfl⟩
    clear hs hw
    go_wp2
    go_ret
    have hz : (((x &&& y : Nat) : Int) != 0) = !(x &&& y == 0) := by rw [Bool.eq_iff_iff]; simp
    exact ⟨by simp [hz], rfl⟩
  · have hm : ¬ (0 : Int) ≤ n := hn
    go_enter Tryd.func12, Tryd.ntmps12
    go_wp2
    go_ret
    exact ⟨by simp; intro h0; omega, rfl⟩

theorem hidden {p : Prop} (h : p) : Hid p := h
theorem getD_set (ws : List Nat) (i j x : Nat) (hi : i < ws.length) : (ws.set i x).getD j 0 = if i = j then x else ws.getD j 0 := by
  rw [List.getD_eq_getElem?_getD, List.getD_eq_getElem?_getD, List.getElem?_set]
  by_cases h : i = j
  · subst h; simp [hi]
  · simp [h]
theorem has_set_or (ws : List Nat) (m k : Nat) (hm : m / 64 < ws.length) : has (ws.set (m / 64) (ws.getD (m / 64) 0 ||| 2 ^ (m % 64))) k = (has ws k || k == m) := by
  unfold has
  rw [getD_set _ _ _ _ hm]
  by_cases h : m / 64 = k / 64
  · rw [if_pos h, ← h, Nat.testBit_or, Nat.testBit_two_pow]
    congr 1
    rw [Bool.eq_iff_iff]; simp; omega
  · rw [if_neg h]
    have : (k == m) = false := by simp; intro e; subst e; exact h rfl
    rw [this, Bool.or_false]
theorem testBit_all (i : Nat) (hi : i < 64) : Nat.testBit 18446744073709551615 i = true := by
  have : (18446744073709551615 : Nat) = 2 ^ 64 - 1 := by decide
  rw [this, Nat.testBit_two_pow_sub_one]; simpa using hi
theorem testBit_not (j i : Nat) (hj : j < 64) (hi : i < 64) : Nat.testBit (18446744073709551615 - 2 ^ j) i = !decide (j = i) := by
  have e : (18446744073709551615 : Nat) - 2 ^ j = 2 ^ 64 - (2 ^ j + 1) := by omega
  rw [e, Nat.testBit_two_pow_sub_succ (Nat.pow_lt_pow_right (by omega) hj), Nat.testBit_two_pow]
  simp [hi]
theorem has_set_not (ws : List Nat) (m k : Nat) (hm : m / 64 < ws.length) : has (ws.set (m / 64) (ws.getD (m / 64) 0 &&& (18446744073709551615 - 2 ^ (m % 64)))) k = (has ws k && !(k == m)) := by
  unfold has
  rw [getD_set _ _ _ _ hm]
  by_cases h : m / 64 = k / 64
  · rw [if_pos h, ← h, Nat.testBit_and, testBit_not _ _ (by omega) (by omega)]
    congr 2
    rw [Bool.eq_iff_iff]; simp; omega
  · rw [if_neg h]
    have : (k == m) = false := by simp; intro e; subst e; exact h rfl
    rw [this]; simp
theorem has_zeros (ws : List Nat) (c k : Nat) : has (ws ++ List.replicate c 0) k = has ws k := by
  unfold has
  congr 1
  rw [List.getD_eq_getElem?_getD, List.getD_eq_getElem?_getD]
  rcases Nat.lt_or_ge (k / 64) ws.length with h | h
  · rw [List.getElem?_append_left h]
  · rw [List.getElem?_append_right h, List.getElem?_eq_none h, List.getElem?_replicate]
    split <;> rfl
theorem Fit.set {ws : List Nat} (h : Fit ws) (i x : Nat) (hx : x < 18446744073709551616) : Fit (ws.set i x) :=
  ⟨fun y hy => by rcases List.mem_or_eq_of_mem_set hy with h1 | h1
                  · exact h.small y h1
                  · omega, by rw [List.length_set]; exact h.short⟩
theorem Fit.zeros {ws : List Nat} (h : Fit ws) (c : Nat) (hc : ws.length + c ≤ 1024) : Fit (ws ++ List.replicate c 0) :=
  ⟨fun y hy => by rcases List.mem_append.1 hy with h1 | h1
                  · exact h.small y h1
                  · rw [(List.mem_replicate.1 h1).2]; omega, by simp; omega⟩
theorem or_lt (x k : Nat) (hx : x < 18446744073709551616) (hk : k < 64) : x ||| 2 ^ k < 18446744073709551616 :=
  Nat.or_lt_two_pow (n := 64) hx (Nat.pow_lt_pow_right (n := 64) (by omega) hk)
theorem wv_set (ws : List Nat) (i x : Nat) : (wv ws).setIfInBounds i (.int .u64 (x : Int)) = wv (ws.set i x) := by
  apply Array.ext'
  simp [wv, List.map_set]
theorem wv_size (ws : List Nat) : (wv ws).size = ws.length := by simp [wv]
/-- A word of a set, put. -/
theorem SetAt.put {w : World} {b g : Nat} {ws : List Nat} (h : SetAt w b (some g) ws) (i x : Nat) : SetAt (w.setCell ⟨g, i, none⟩ (.int .u64 (x : Int))) b (some g) (ws.set i x) ∧ Save [b, g] w (w.setCell ⟨g, i, none⟩ (.int .u64 (x : Int))) := by
  have hne := h.ne
  refine ⟨⟨?_, (fun e => by cases e), fun y hy => ?_⟩, ⟨rfl, rfl, rfl, by simp [World.setCell], fun k hk hS => ?_⟩⟩
  · rw [List.length_set]
    simp only [World.setCell, Array.getElem?_modify]
    rw [if_neg (fun e => hne e.symm)]
    exact h.head
  · cases hy
    simp [World.setCell, Array.getElem?_modify, h.row g rfl, ← wv_set]
  · simp only [World.setCell, Array.getElem?_modify]
    rw [if_neg (fun e => hS (by simp [e]))]
/-! ### Words made, and copied -/
theorem infoU64 : (Tryd.prog.info? 44).map (fun i => (i.zero, i.size, i.bytes)) = some (some (.int .u64 0), 1, 8) := by kernel_rfl
theorem makeW (c : Nat) (w : World) (hc : c ≤ 1024) : (Instr.makeSlice 37 (.int .i64 (c : Int)) (.int .i64 (c : Int))).run Tryd.prog w =
    .ok (.slice (some ⟨w.heap.size, 0, none⟩) c c) (w.alloc (.cells (wv (List.replicate c 0)) 44)) := by
  obtain ⟨i, hi, hz0, hz1, hz2⟩ := info_parts infoU64
  rw [run_makeSlice w 37 44 i (.int .u64 0) Tryd.underlying37 hi hz0 .i64 .i64 c c (by omega) (Int.le_refl _) (by rw [hz1]; simp; omega) (by rw [hz2]; omega) (by omega)]
  have e : madeCells (Value.int .u64 0).cells ((c : Int).toNat * i.size) = wv (List.replicate c 0) := by
    apply Array.ext'
    rw [hz1, Int.toNat_natCast, Nat.mul_one]
    show (madeCells #[Value.int .u64 0] c).toList = _
    rw [toList_madeCells_one]
    simp [wv]
  rw [e]
  simp
theorem splice_wv (ws : List Nat) (c : Nat) : (splice (wv (List.replicate c 0)).toList 0 (wv ws).toList).toArray = wv (ws ++ List.replicate (c - ws.length) 0) := by
  apply Array.ext'
  simp [splice, wv, List.drop_replicate]
/-- A set's words laid anew, longer. -/
theorem SetAt.moved {w w3 w4 : World} {b c : Nat} {g : Option Nat} {ws : List Nat} (h : SetAt w b g ws) (hc : ws.length ≤ c) (e3 : w3 = w.alloc (.cells (wv (List.replicate c 0)) 44))
    (h4 : w4.heap[w.heap.size]? = some (.cells (splice (wv (List.replicate c 0)).toList 0 (wv ws).toList).toArray 44 (0, 0))) (hB : Below w.heap.size w3 w4) :
    SetAt (w4.setCell ⟨b, 0, none⟩ (.slice (some ⟨w.heap.size, 0, none⟩) c c)) b (some w.heap.size) (ws ++ List.replicate (c - ws.length) 0) ∧ Save [b] w (w4.setCell ⟨b, 0, none⟩ (.slice (some ⟨w.heap.size, 0, none⟩) c c)) ∧ w4.frozen? ⟨b, 0, none⟩ = false := by
  have hlt := h.lt
  have hb4 : w4.heap[b]? = some (.cells #[rowV ws.length g] 43) := (hB.block b hlt).trans (by rw [e3]; exact (heap_alloc_old _ _ hlt).trans h.head)
  have hlen : (ws ++ List.replicate (c - ws.length) 0).length = c := by simp; omega
  rw [splice_wv] at h4
  refine ⟨⟨?_, fun e => (by cases e), fun x hx => ?_⟩, ⟨?_, ?_, ?_, ?_, fun k hk hS => ?_⟩, ?_⟩
  · rw [hlen]
    simp [World.setCell, Array.getElem?_modify, hb4, rowV]
  · cases hx
    simp only [World.setCell, Array.getElem?_modify]
    rw [if_neg (by show b ≠ w.heap.size; omega)]
    exact h4
  · exact hB.os.trans (by rw [e3]; rfl)
  · exact hB.tape.trans (by rw [e3]; rfl)
  · exact hB.output.trans (by rw [e3]; rfl)
  · have := hB.size
    rw [e3] at this
    simp [World.setCell] at this ⊢
    omega
  · simp only [World.setCell, Array.getElem?_modify]
    rw [if_neg (fun e => hS (by simp; exact e.symm))]
    exact (hB.block k hk).trans (by rw [e3]; exact heap_alloc_old _ _ hk)
  · simp [World.frozen?, hb4]
end Go.Proofs.YtieinedancdokacDoor
/-
  A NUMBER PUT INTO A SET, by contract.
-/
namespace Go.Proofs.YtieinedancdokacDoor
open Go.ChangeShapes Go.WideShapes Go.ChangeAt Go.RowKit

theorem still_tail2 {P : Program} {id : Nat} {Q : Exit → Act → World → Prop} {a : Act} {w : World} {l : List Oper} (n : Nat) (hm : P.follows .mixedOrders = true) (hB : Region.lexTailB .any l.toArray n = true) (w2 : World) (hw : w2 = w.drew)
    (h : wpStill P l.toArray w2 (fun a' => wpList P l.toArray Q (l.drop n) a' w2) (l.take n) a) : (Code.region id l.toArray true).wp P Q a w := by
  subst hw; exact wp_region_still_tail n hm hB h
def good (n : Int) : Bool := decide (0 ≤ n) && decide (n < 65536)
/-- What lies behind an addition. -/
structure Added (S : List Nat) (w w' : World) (b : Nat) (g g' : Option Nat) (ws ws' : List Nat) (p : Nat → Bool) : Prop where
  lies : SetAt w' b g' ws'
  fit : Fit ws'
  is : ∀ k, has ws' k = p k
  save : Save S w w'
  fresh : ∀ x, g' = some x → g = some x ∨ w.heap.size ≤ x
theorem SetAt.drew {w : World} {b : Nat} {g : Option Nat} {ws : List Nat} (h : SetAt w b g ws) : SetAt w.drew b g ws := ⟨h.head, h.empty, h.row⟩
set_option maxHeartbeats 1600000 in
set_option maxRecDepth 100000 in
theorem add_c (b : Nat) (g : Option Nat) (ws : List Nat) (n : Int) (w : World) (hf : Fit ws) (h : SetAt w b g ws) (hi : n ≤ 9223372036854775807) :
    Calls Tryd.prog 8 #[.pointer (some ⟨b, 0, none⟩), .int .i64 n] w fun e w' =>
      e = .returned (.bool (good n && !has ws n.toNat)) ∧ ∃ g' ws', Added (b :: g.toList) w w' b g g' ws ws' (fun k => has ws k || (good n && k == n.toNat)) := by
  have hh := fun w h => has_c b g ws n w hf h hi
  by_cases h0 : n < 0
  · have hg : good n = false := by simp [good]; omega
    clear hh
    rw [hg]
    go_enter Tryd.func8, Tryd.ntmps8
    go_wp2
    go_ret
    exact ⟨rfl, g, ws, h, hf, by simp, Save.refl _ _, fun x hx => .inl hx⟩
  obtain ⟨m, rfl⟩ := Int.eq_ofNat_of_zero_le (by omega : 0 ≤ n)
  have h0' : ¬ (m : Int) < 0 := h0
  by_cases h1 : (65536 : Int) ≤ (m : Int)
  · have hg : good m = false := by simp [good]; omega
    clear hh
    rw [hg]
    go_enter Tryd.func8, Tryd.ntmps8
    go_wp2
    go_ret
    exact ⟨rfl, g, ws, h, hf, by simp, Save.refl _ _, fun x hx => .inl hx⟩
  have hg : good m = true := by simp [good]; omega
  have hd : decide ((0 : Int) ≤ (m : Int)) = true := by simp
  simp only [hd, Bool.true_and, Int.toNat_natCast] at hh
  rw [hg]
  simp only [Bool.true_and, Int.toNat_natCast]
  cases hc : has ws m with
  | true =>
    rw [hc] at hh
    have hc := hidden hc
    go_enter Tryd.func8, Tryd.ntmps8
    go_wp2_with fail
    refine (hh _ h).mono ?_
    rintro e w' ⟨rfl, rfl⟩
    clear hh
    go_wp2
    go_ret
    refine ⟨rfl, g, ws, h, hf, fun k => ?_, Save.refl _ _, fun x hx => .inl hx⟩
    by_cases hk : k = m
    · subst hk; simp [hc.out]
    · simp [hk]
  | false =>
    rw [hc] at hh
    clear hc hg hd
    have hlen := hf.short
    have hnewA := fun (us : List Nat) h k => has_set_or us m k h
    have hp : 2 ^ (m % 64) < 18446744073709551616 := Nat.pow_lt_pow_right (n := 64) (by omega) (by omega)
    have hs : ∀ w, Calls Tryd.prog 20 #[.int .u64 1, .int .i64 ((m % 64 : Nat) : Int)] w fun e w' => e = .returned (.int .u64 ((2 ^ (m % 64) : Nat) : Int)) ∧ w' = w := fun w => shift_c (m % 64) w (by omega)
    have hol : ∀ x, x < 18446744073709551616 → x ||| 2 ^ (m % 64) < 18446744073709551616 := fun x hx => or_lt x _ hx (by omega)
    have q1 : (m : Int) / 64 = ((m / 64 : Nat) : Int) := by omega
    have q2 : (m : Int) % 64 = ((m % 64 : Nat) : Int) := by omega
    have q3 : (m : Int).tmod 64 = ((m % 64 : Nat) : Int) := by rw [Int.tmod_eq_emod_of_nonneg (by omega)]; omega
    have q4 : (m : Int).tdiv 64 = ((m / 64 : Nat) : Int) := by rw [Int.tdiv_eq_ediv_of_nonneg (by omega)]; omega
    have hi1 : m / 64 < 1024 := by omega
    clear h0
    generalize m / 64 = i at *
    generalize 2 ^ (m % 64) = y at *
    generalize m % 64 = r at *
    have e1 : wrap64 (i : Int) = i := IntWalk.wrap64_in _ (by omega)
    have e2 : wrap64 ((i : Int) + 1) = i + 1 := IntWalk.wrap64_in _ (by omega)
    have e3 : IntKind.i64.wrap (i : Int) = i := IntWalk.i64_in _ (by omega)
    have hi0 : (0 : Int) ≤ (i : Int) := by omega
    by_cases hroom : i < ws.length
    · cases g with
      | none => have := h.empty rfl; subst this; simp at hroom
      | some g =>
        have hr1 : ¬ (ws.length : Int) < (i : Int) + 1 := by omega
        have hr2 : (i : Int) < (ws.length : Int) := by omega
        have hx := hf.at i
        have c0 := h.cell0
        simp only [rowV] at c0
        have c1 := h.cell i hroom
        have z1 := h.frozen i
        have hor := u64_or_nat _ _ hx hp
        have hnew := hidden (hnewA ws hroom)
        have hput := hidden (h.drew.put i (ws.getD i 0 ||| y))
        have hfit := hidden (hf.set i _ (hol _ hx))
        generalize ws.getD i 0 ||| y = z at *
        generalize ws.getD i 0 = x at *
        clear hx hp hlen hi hi1 hol hnewA
        go_enter Tryd.func8, Tryd.ntmps8
        go_wp2_with fail
        refine (hh _ h).mono ?_
        rintro e w' ⟨rfl, rfl⟩
        clear hh h0' h1
        go_wp2_with fail
        obtain ⟨w2, hw2⟩ : ∃ w2, w2 = w'.drew := ⟨_, rfl⟩
        rw [← hw2] at hput
        have c0 : w2.cell? ⟨b, 0, none⟩ = some (.slice (some ⟨g, 0, none⟩) ws.length ws.length) := by rw [hw2]; exact c0
        have c1 : w2.cell? ⟨g, i, none⟩ = some (.int .u64 (x : Int)) := by rw [hw2]; exact c1
        have z1 : w2.frozen? ⟨g, i, none⟩ = false := by rw [hw2]; exact z1
        have hsv : Save (b :: [g]) w' w2 := by rw [hw2]; exact ⟨rfl, rfl, rfl, Nat.le_refl _, fun _ _ _ => rfl⟩
        refine still_tail2 13 (by kernel_rfl) (by kernel_rfl) w2 hw2 ?_
        clear hw2
        simp only [List.take_succ_cons, List.take_zero, List.drop_succ_cons, List.drop_zero]
        repeat still_step
        still_call (hs _)
        repeat still_step
        refine wpStill_nil ?_
        clear hs
        go_wp2
        go_ret
        refine ⟨rfl, some g, ws.set i z, hput.out.1, hfit.out, hnew.out, hsv.trans hput.out.2, fun x hx => .inl hx⟩
    · have hr1 : (ws.length : Int) < (i : Int) + 1 := by omega
      have e5 : wrap64 (2 * (ws.length : Int)) = 2 * ws.length := IntWalk.wrap64_in _ (by omega)
      obtain ⟨c, hc1, hc2, hcase⟩ : ∃ c : Nat, i < c ∧ c ≤ 1024 ∧ ((((i : Int) + 1 < 2 * (ws.length : Int)) ∧ (1024 : Int) ≤ 2 * (ws.length : Int) ∧ (c : Int) = 1024) ∨
          (((i : Int) + 1 < 2 * (ws.length : Int)) ∧ ¬ (1024 : Int) ≤ 2 * (ws.length : Int) ∧ (c : Int) = 2 * ws.length) ∨
          ((¬ (i : Int) + 1 < 2 * (ws.length : Int)) ∧ (1024 : Int) ≤ (i : Int) + 1 ∧ (c : Int) = 1024) ∨ ((¬ (i : Int) + 1 < 2 * (ws.length : Int)) ∧ ¬ (1024 : Int) ≤ (i : Int) + 1 ∧ (c : Int) = (i : Int) + 1)) := by
        by_cases a : (i : Int) + 1 < 2 * (ws.length : Int)
        · by_cases a2 : (1024 : Int) ≤ 2 * (ws.length : Int)
          · exact ⟨1024, by omega, by omega, .inl ⟨a, a2, rfl⟩⟩
          · exact ⟨2 * ws.length, by omega, by omega, .inr (.inl ⟨a, a2, by omega⟩)⟩
        · by_cases a2 : (1024 : Int) ≤ (i : Int) + 1
          · exact ⟨1024, by omega, by omega, .inr (.inr (.inl ⟨a, a2, rfl⟩))⟩
          · exact ⟨i + 1, by omega, by omega, .inr (.inr (.inr ⟨a, a2, by omega⟩))⟩
      have c0 := h.cell0
      have hmk := fun w => makeW c w hc2
      -- the words, longer
      have hzs : ∀ k, has (ws ++ List.replicate (c - ws.length) 0) k = has ws k := fun k => has_zeros ws _ k
      have hfz := hf.zeros (c - ws.length) (by omega)
      have hlz : (ws ++ List.replicate (c - ws.length) 0).length = c := by simp; omega
      have hmv := fun w3 w4 e3 h4 hB => SetAt.moved (w3 := w3) (w4 := w4) h (by omega : ws.length ≤ c) e3 h4 hB
      have hx := hfz.at i
      have hor := u64_or_nat _ _ hx hp
      have hnew := hidden fun k => (hnewA (ws ++ List.replicate (c - ws.length) 0) (by omega) k).trans (by rw [hzs k])
      have hfit := hidden (hfz.set i _ (hol _ hx))
      have hcl : (wv ws).toList.length = ws.length := by simp [wv]
      have hzl : (wv (List.replicate c 0)).toList.length = c := by simp [wv]
      have hone : ∀ v ∈ (wv ws).toList, v.oneCell' = true := fun v hv => by simp [wv] at hv; obtain ⟨x, _, rfl⟩ := hv; rfl
      have hcells : ∀ x, g = some x → ∀ j v, (wv ws).toList[j]? = some v → w.cell? ((⟨x, 0, none⟩ : Addr).add j) = some v := fun x hx j v hv => by
        rw [add_plain, Nat.zero_add]
        simp only [World.cell?, h.row x hx]
        simpa using hv
      generalize hus : ws ++ List.replicate (c - ws.length) 0 = us at *
      have hus := hidden hus
      clear hzs hfz hol hnewA hp
      generalize us.getD i 0 ||| y = z at *
      have hxe := hidden (rfl : us.getD i 0 = us.getD i 0)
      generalize hxd : us.getD i 0 = x at *
      have hxd := hidden hxd
      have hic : (i : Int) < (c : Int) := by omega
      clear hx hxe
      rcases hcase with ⟨a1, a2, a3⟩ | ⟨a1, a2, a3⟩ | ⟨a1, a2, a3⟩ | ⟨a1, a2, a3⟩
      all_goals
        rw [a3] at hmk
        replace a3 := hidden a3
        obtain ⟨sp, sl, sc, hrv, hrl, hsp⟩ : ∃ sp sl sc, Hid (rowV ws.length g = .slice sp sl sc) ∧ Hid (sl = ws.length) ∧ (0 < ws.length → ∃ x, g = some x ∧ sp = some ⟨x, 0, none⟩) := by
          cases g with
          | none => have hn := h.empty rfl; subst hn; exact ⟨_, _, _, (rfl : _ = _), (rfl : _ = _), fun e => by simp at e⟩
          | some x => exact ⟨_, _, _, (rfl : _ = _), (rfl : _ = _), fun _ => ⟨x, rfl, rfl⟩⟩
        rw [hrv.out] at c0
        have c0a : ∀ O, (w.alloc O).cell? ⟨b, 0, none⟩ = some (.slice sp sl sc) := fun O => (((Below.refl w.heap.size w).alloc (Nat.le_refl _) O).cell (p := ⟨b, 0, none⟩) h.lt).trans c0
        have hcells2 : ∀ O, ∀ x, g = some x → ∀ j v, (wv ws).toList[j]? = some v → (w.alloc O).cell? ((⟨x, 0, none⟩ : Addr).add j) = some v := fun O x hx j v hv => by
          have h1 := hcells x hx j v hv
          exact (((Below.refl w.heap.size w).alloc (Nat.le_refl _) O).cell (p := (⟨x, 0, none⟩ : Addr).add j) (World.block_lt_of_cell? w _ h1)).trans h1
        have hblt := h.lt
        have hrl' := hrl.out
        rw [← hrl'] at hr1 e5 a1
        try rw [← hrl'] at a2
        try rw [← hrl'] at hmk
        clear hrl' hcells
        go_enter Tryd.func8, Tryd.ntmps8
        go_wp2_with fail
        refine (hh _ h).mono ?_
        rintro e w' ⟨rfl, rfl⟩
        clear hh h0' h1
        go_wp2_with (with_reducible refine wpList_copy_splice rfl (.tmp 42) (.tmp 46) 37 37 rfl 44 ?a1 ?a2 (some ⟨w'.heap.size, 0, none⟩) sp c c sl sc ?d ?e w'.heap.size 0 (wv (List.replicate c 0)).toList 44 ?c1 (wv ws).toList ?c2 ?c3 ?c4 hone w'.heap.size (w'.alloc (.cells (wv (List.replicate c 0)) 44)) ?c6 (Nat.le_refl _) ?_)
        case a1 => exact Tryd.underlying37
        case a2 => kernel_rfl
        case d => rfl
        case e => rfl
        case c1 => exact heap_alloc_new _ _
        case c2 => rw [hcl, hrl.out]; exact (Nat.min_eq_left (by omega)).symm
        case c3 =>
          intro hp
          obtain ⟨x, hg, hx⟩ := hsp (by first | exact hp | (rw [hcl] at hp; exact hp))
          first | exact ⟨_, hx, fun j v hv => hcells2 _ x hg j v (by simpa using hv)⟩ | exact ⟨rfl, _, hx, fun j v hv => hcells2 _ x hg j v (by simpa using hv)⟩
        case c4 => rw [hcl, hzl]; omega
        case c6 => exact Below.refl _ _
        intro w4 hg4 hB4
        obtain ⟨hset, hsave, hfr⟩ := hmv _ w4 rfl hg4.out hB4
        have c4 : w4.cell? ⟨b, 0, none⟩ = some (.slice sp sl sc) := (hB4.cell (p := ⟨b, 0, none⟩) hblt).trans (c0a _)
        have hset := hidden hset
        have hsave := hidden hsave
        clear hB4 hg4 hmv hmk hcells2 hone hcl hzl c0a c0
        go_wp2_with fail
        obtain ⟨w5, hw5⟩ : ∃ w5, w5 = w4.setCell ⟨b, 0, none⟩ (.slice (some ⟨w'.heap.size, 0, none⟩) c c) := ⟨_, rfl⟩
        rw [← hw5] at hset hsave ⊢
        clear hw5
        obtain ⟨w2, hw2⟩ : ∃ w2, w2 = w5.drew := ⟨_, rfl⟩
        have hset2 : SetAt w2 b (some w'.heap.size) us := by rw [hw2]; exact hset.out.drew
        have hgl := hset.out.glt
        have d0 := hset2.cell0
        rw [hlz] at d0
        simp only [rowV] at d0
        have d1 := hset2.cell i (by omega)
        rw [hxd.out] at d1
        have d2 := hset2.frozen i
        have hput := hidden (hset2.put i z)
        have hsv : Save (b :: g.toList) w' w2 := (hsave.out.mono (by simp)).trans (by rw [hw2]; exact ⟨rfl, rfl, rfl, Nat.le_refl _, fun _ _ _ => rfl⟩)
        refine still_tail2 13 (by kernel_rfl) (by kernel_rfl) w2 hw2 ?_
        clear hw2 c4 hfr hset hsave hset2
        generalize hgs : w'.heap.size = G at *
        simp only [List.take_succ_cons, List.take_zero, List.drop_succ_cons, List.drop_zero]
        repeat still_step
        still_call (hs _)
        repeat still_step
        refine wpStill_nil ?_
        clear hs
        go_wp2
        go_ret
        refine ⟨rfl, some G, us.set i z, hput.out.1, hfit.out, hnew.out, ?_, fun x hx => .inr (by cases hx; omega)⟩
        have h9 := hput.out.2
        exact ⟨h9.os.trans hsv.os, h9.tape.trans hsv.tape, h9.output.trans hsv.output, Nat.le_trans hsv.size h9.size, fun k hk hS => (h9.block k (Nat.lt_of_lt_of_le hk hsv.size) (by
          intro hm
          simp only [List.mem_cons, List.not_mem_nil, or_false] at hm
          rcases hm with rfl | rfl
          · exact hS (by simp)
          · omega)).trans (hsv.block k hk hS)⟩
end Go.Proofs.YtieinedancdokacDoor
/-
  A SET MADE OF NUMBERS, by contract.
-/
namespace Go.Proofs.YtieinedancdokacDoor
open Go.ChangeShapes Go.WideShapes Go.ChangeAt Go.RowKit

theorem Added.mono {S S' : List Nat} {w w' : World} {b : Nat} {g g' : Option Nat} {ws ws' : List Nat} {p : Nat → Bool} (h : Added S w w' b g g' ws ws' p) (hS : ∀ k ∈ S, k ∈ S') : Added S' w w' b g g' ws ws' p :=
  ⟨h.lies, h.fit, h.is, h.save.mono hS, h.fresh⟩
/-- A set that was made just now. -/
structure Made (w w' : World) (b : Nat) (g : Option Nat) (ws : List Nat) (p : Nat → Bool) : Prop where
  lies : SetAt w' b g ws
  fit : Fit ws
  is : ∀ k, has ws k = p k
  below : Below w.heap.size w w'
  fresh : w.heap.size ≤ b ∧ ∀ x, g = some x → w.heap.size ≤ x
theorem take_snocI (zs : List Int) (k : Nat) (hk : k < zs.length) : zs.take (k + 1) = zs.take k ++ [zs.getD k 0] := by
  rw [List.take_add_one, List.getElem?_eq_getElem hk]; simp [List.getD, hk]
def inL (zs : List Int) (k : Nat) : Bool := zs.any fun z => good z && k == z.toNat
set_option maxHeartbeats 1600000 in
theorem new_c (v : Value) (zs : List Int) (w : World) (hv : Holds w v (zs.map (Value.int .i64))) (hz : zs.length ≤ 1000) (hw : ∀ z ∈ zs, z ≤ 9223372036854775807) :
    Calls Tryd.prog 4 #[v] w fun e w' => ∃ b, e = .returned (.pointer (some ⟨b, 0, none⟩)) ∧ ∃ g ws, Made w w' b g ws (inL zs) := by
  obtain ⟨a, cap, rfl, hrow⟩ := hv
  simp only [List.length_map]
  have hset : SetAt (w.alloc (.cells #[.slice none 0 0] 43)) w.heap.size none [] := ⟨heap_alloc_new _ _, fun _ => rfl, fun x hx => by cases hx⟩
  have hB0 : Below w.heap.size w (w.alloc (.cells #[.slice none 0 0] 43)) := (Below.refl _ _).alloc (Nat.le_refl _) _
  have hnone : ∀ k, has [] k = false := fun k => has_end (by simp)
  obtain ⟨qf, hqf⟩ : ∃ qf : Nat → Nat → Bool, Hid (∀ j, qf j = inL (zs.take j)) := ⟨fun j => inL (zs.take j), (fun _ => rfl : ∀ _, _ = _)⟩
  have hw := hidden hw
  go_enter Tryd.func4, Tryd.ntmps4
  go_wp2_with fail
  go_loopw [10] (fun i wr => ∃ (j : Nat) (g : Option Nat) (ws : List Nat), j ≤ zs.length ∧ i = .int .i64 j ∧ Made w wr w.heap.size g ws (qf j)) (fun i _ => zs.length - (intOf i).toNat)
  case atStart => exact ⟨0, none, [], Nat.zero_le _, rfl, ⟨hset, ⟨by simp, by simp⟩, fun k => by rw [hqf.out, hnone]; rfl, hB0, Nat.le_refl _, by simp⟩⟩
  case round =>
    obtain ⟨j, g, ws, hj, rfl, hM⟩ := hrel
    by_cases hlt : j < zs.length
    · rcases hrow with h0 | ⟨b, off, rfl, hb, hc⟩
      · simp only [List.map_eq_nil_iff] at h0; subst h0; simp at hlt
      have hcx : wr.cell? ⟨b, off + j, none⟩ = some (.int .i64 (zs.getD j 0)) := (hM.below.cell (by exact hb)).trans (hc j _ (by simp [hlt]))
      have hzw : zs.getD j 0 ≤ 9223372036854775807 := by
        have : zs.getD j 0 = zs[j] := by simp [hlt]
        rw [this]; exact hw.out _ (List.getElem_mem hlt)
      have hq : Hid (∀ k, qf (j + 1) k = (qf j k || (good (zs.getD j 0) && k == (zs.getD j 0).toNat))) := fun k => by
        rw [hqf.out, hqf.out, take_snocI zs j hlt]
        simp [inL]
      have hj1 : (j : Int) < (zs.length : Int) := by omega
      clear hc hset hB0
      generalize zs.getD j 0 = z at *
      have hadd := add_c w.heap.size g ws z wr hM.fit hM.lies hzw
      go_wp2_with fail
      refine hadd.mono ?_
      rintro e w2 ⟨rfl, g', ws', hA⟩
      clear hadd hcx
      have hM2 : Made w w2 w.heap.size g' ws' (qf (j + 1)) := by
        refine ⟨hA.lies, hA.fit, fun k => by rw [hA.is, hM.is, hq.out], hM.below.trans (hA.save.below hM.below.size fun k hk => ?_), Nat.le_refl _, fun x hx => ?_⟩
        · rcases List.mem_cons.1 hk with rfl | hk
          · exact Nat.le_refl _
          · exact hM.fresh.2 k (by cases g <;> simp_all)
        · rcases hA.fresh x hx with h1 | h1
          · exact hM.fresh.2 x h1
          · exact Nat.le_trans hM.below.size h1
      clear hA hM hq
      go_wp2
      go_roundw
      case rel => exact ⟨j + 1, g', ws', by omega, by go_num, hM2⟩
      case measure => simp [intOf]; omega
    · have hj1 : ¬ (j : Int) < (zs.length : Int) := by omega
      obtain rfl : j = zs.length := by omega
      clear hset hB0
      go_wp2
      go_ret
      refine ⟨_, rfl, g, ws, hM.lies, hM.fit, fun k => ?_, hM.below, hM.fresh⟩
      rw [hM.is, hqf.out, List.take_length]
end Go.Proofs.YtieinedancdokacDoor
/-
  A NUMBER TAKEN OUT OF A SET; A SET MADE OF NUMBERS: by contract.
-/
namespace Go.Proofs.YtieinedancdokacDoor
open Go.ChangeShapes Go.WideShapes Go.ChangeAt Go.RowKit

set_option maxRecDepth 100000 in
set_option maxHeartbeats 1600000 in
theorem setcut_c (b : Nat) (g : Option Nat) (ws : List Nat) (n : Int) (w : World) (hf : Fit ws) (h : SetAt w b g ws) (hi : n ≤ 9223372036854775807) :
    Calls Tryd.prog 6 #[.pointer (some ⟨b, 0, none⟩), .int .i64 n] w fun e w' =>
      e = .returned (.bool (decide (0 ≤ n) && has ws n.toNat)) ∧ ∃ ws', Added (b :: g.toList) w w' b g g ws ws' (fun k => has ws k && !(decide (0 ≤ n) && k == n.toNat)) := by
  have hh := fun w h => has_c b g ws n w hf h hi
  cases hc : (decide (0 ≤ n) && has ws n.toNat) with
  | false =>
    rw [hc] at hh
    have hc := hidden hc
    go_enter Tryd.func6, Tryd.ntmps6
    go_wp2_with fail
    refine (hh _ h).mono ?_
    rintro e w' ⟨rfl, rfl⟩
    clear hh
    go_wp2
    go_ret
    refine ⟨rfl, ws, h, hf, fun k => ?_, Save.refl _ _, fun x hx => .inl hx⟩
    by_cases hk : k = n.toNat
    · subst hk
      have := hc.out
      cases h1 : decide (0 ≤ n) <;> rw [h1] at this <;> simp_all
    · simp [hk]
  | true =>
    rw [hc] at hh
    simp only [Bool.and_eq_true, decide_eq_true_eq] at hc
    obtain ⟨h0, hc⟩ := hc
    obtain ⟨m, rfl⟩ := Int.eq_ofNat_of_zero_le h0
    simp only [Int.toNat_natCast] at hc ⊢
    have hroom : m / 64 < ws.length := by
      rcases Nat.lt_or_ge (m / 64) ws.length with h1 | h1
      · exact h1
      · rw [has_end h1] at hc; cases hc
    have hlen := hf.short
    have hp : 2 ^ (m % 64) < 18446744073709551616 := Nat.pow_lt_pow_right (n := 64) (by omega) (by omega)
    have hs : ∀ w, Calls Tryd.prog 20 #[.int .u64 1, .int .i64 ((m % 64 : Nat) : Int)] w fun e w' => e = .returned (.int .u64 ((2 ^ (m % 64) : Nat) : Int)) ∧ w' = w := fun w => shift_c (m % 64) w (by omega)
    have q1 : (m : Int) / 64 = ((m / 64 : Nat) : Int) := by omega
    have q2 : (m : Int) % 64 = ((m % 64 : Nat) : Int) := by omega
    have q3 : (m : Int).tmod 64 = ((m % 64 : Nat) : Int) := by rw [Int.tmod_eq_emod_of_nonneg (by omega)]; omega
    have q4 : (m : Int).tdiv 64 = ((m / 64 : Nat) : Int) := by rw [Int.tdiv_eq_ediv_of_nonneg (by omega)]; omega
    have hnew := hidden fun k => has_set_not ws m k hroom
    have hd : decide ((0 : Int) ≤ (m : Int)) = true := by simp
    simp only [hd, Bool.true_and]
    clear hc h0 hd
    generalize m / 64 = i at *
    generalize 2 ^ (m % 64) = y at *
    generalize m % 64 = r at *
    have e1 : wrap64 (i : Int) = i := IntWalk.wrap64_in _ (by omega)
    have e3 : IntKind.i64.wrap (i : Int) = i := IntWalk.i64_in _ (by omega)
    have hi0 : (0 : Int) ≤ (i : Int) := by omega
    cases g with
    | none => have := h.empty rfl; subst this; simp at hroom
    | some g =>
      have hr2 : (i : Int) < (ws.length : Int) := by omega
      have hx := hf.at i
      have c0 := h.cell0
      simp only [rowV] at c0
      have c1 := h.cell i hroom
      have z1 := h.frozen i
      have hor := u64_andNot_nat _ _ hx hp
      have hput := hidden (h.drew.put i (ws.getD i 0 &&& (18446744073709551615 - y)))
      have hfit := hidden (hf.set i (ws.getD i 0 &&& (18446744073709551615 - y)) (Nat.lt_of_le_of_lt Nat.and_le_left hx))
      generalize ws.getD i 0 &&& (18446744073709551615 - y) = z at *
      generalize ws.getD i 0 = x at *
      clear hx hp hlen hi
      go_enter Tryd.func6, Tryd.ntmps6
      go_wp2_with fail
      refine (hh _ h).mono ?_
      rintro e w' ⟨rfl, rfl⟩
      clear hh
      go_wp2_with fail
      obtain ⟨w2, hw2⟩ : ∃ w2, w2 = w'.drew := ⟨_, rfl⟩
      rw [← hw2] at hput
      have c0 : w2.cell? ⟨b, 0, none⟩ = some (.slice (some ⟨g, 0, none⟩) ws.length ws.length) := by rw [hw2]; exact c0
      have c1 : w2.cell? ⟨g, i, none⟩ = some (.int .u64 (x : Int)) := by rw [hw2]; exact c1
      have z1 : w2.frozen? ⟨g, i, none⟩ = false := by rw [hw2]; exact z1
      have hsv : Save (b :: [g]) w' w2 := by rw [hw2]; exact ⟨rfl, rfl, rfl, Nat.le_refl _, fun _ _ _ => rfl⟩
      refine still_tail2 13 (by kernel_rfl) (by kernel_rfl) w2 hw2 ?_
      clear hw2
      simp only [List.take_succ_cons, List.take_zero, List.drop_succ_cons, List.drop_zero]
      repeat still_step
      still_call (hs _)
      repeat still_step
      refine wpStill_nil ?_
      clear hs
      go_wp2
      go_ret
      exact ⟨rfl, ws.set i z, hput.out.1, hfit.out, hnew.out, hsv.trans hput.out.2, fun x hx => .inl hx⟩

end Go.Proofs.YtieinedancdokacDoor
