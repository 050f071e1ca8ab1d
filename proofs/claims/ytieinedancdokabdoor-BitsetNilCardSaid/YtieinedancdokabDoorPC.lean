/-
  A COPY OF SOME NUMBERS: Few, by its contract.
-/
import Derived.Test.YtieinedancdokabDoorPA
import Derived.Deep.QuietTactic
import Derived.BigQuiet
import Derived.Test.YtieinedancdokabDoorPE
namespace Go.Proofs.YtieinedancdokabDoor
open Go.ChangeShapes Go.WideShapes Go.ChangeAt Go.RowKit

theorem infoInt : (Tryd.prog.info? 3).map (fun i => (i.zero, i.size, i.bytes)) = some (some (.int .i64 0), 1, 8) := by kernel_rfl
theorem take_snoc (zs : List Int) (k : Nat) (hk : k < zs.length) : zs.take (k + 1) = zs.take k ++ [zs.getD k 0] := by
  rw [List.take_add_one, List.getElem?_eq_getElem hk]; simp [List.getD, hk]

set_option maxHeartbeats 800000 in
set_option maxRecDepth 1000000 in
theorem few_c (v : Value) (zs : List Int) (m : Nat) (w : World) (hv : Holds w v (zs.map (Value.int .i64))) (hz : zs.length ≤ 9223372036854775807) (hm : m ≤ 1000) :
    Calls Tryd.prog 5 #[v, .int .i64 m] w fun e w' =>
      ∃ v', e = .returned v' ∧ w'.ownsRow w.heap.size 3 1 v' (zs.take m).length ((zs.take m).map (Value.int .i64)) ∧ Below w.heap.size w w' := by
  obtain ⟨a, cap, rfl, hrow⟩ := hv
  rw [List.length_map]
  obtain ⟨i0, hi, hz0, hz1, hz2⟩ := info_parts infoInt
  go_enter Tryd.func5, Tryd.ntmps5
  go_wp2
  go_loopw [5, 6] (fun u i wr => ∃ k : Nat, k ≤ zs.length ∧ k ≤ m ∧ i = .int .i64 k ∧ wr.ownsRow w.heap.size 3 1 u (zs.take k).length ((zs.take k).map (Value.int .i64)) ∧ Below w.heap.size w wr)
    (fun _ i _ => zs.length - (intOf i).toNat)
  case atStart => exact ⟨0, Nat.zero_le _, Nat.zero_le _, rfl, World.ownsRow_made w #[] 0 (Nat.le_refl _) (by unfold maxLen; omega) rfl, (Below.refl _ _).alloc (Nat.le_refl _) _⟩
  case round =>
    obtain ⟨k, hk, hkm, rfl, hown, hnx⟩ := hrel
    by_cases hlt : k < zs.length ∧ k < m
    · obtain ⟨hk1, hk2⟩ := hlt
      rcases hrow with h0 | ⟨b, off, rfl, hb, hc⟩
      · simp only [List.map_eq_nil_iff] at h0; subst h0; simp at hk1
      have hcx : wr.cell? ⟨b, off + k, none⟩ = some (.int .i64 (zs.getD k 0)) := (hnx.cell (by exact hb)).trans (hc k _ (by simp [hk1]))
      have hsz := hnx.size
      have htk : (zs.take k).length = k := by rw [List.length_take]; omega
      have hts := take_snoc zs k hk1
      clear hc
      generalize zs.getD k 0 = z at *
      go_wp2_with (at_builtin; refine wpList_append_own _ rfl _ _ 22 rfl w.heap.size 3 i0 (.int .i64 0) 1 8 Tryd.underlying22 hi hz0 hz1 hz2 rfl (by decide) _ _ _ rfl (hown.alloc _) ⟨wr.heap.size, 0, none⟩ 1 1 [.int .i64 z] rfl rfl (cell_one_new _ _ _) ?c2 ?c3 ?c4 ?c5 ?_)
      case c2 => intro u hu; simp at hu; subst hu; rfl
      case c3 => rw [htk]; unfold maxLen; omega
      case c4 => rw [htk]; omega
      case c5 => simp; omega
      · intro v' w1 hown' hgrow _
        have hlt2 : (zs.take (k + 1)).length = k + 1 := by rw [List.length_take]; omega
        have hB : Below w.heap.size w w1 := (hnx.alloc (by omega) _).grown hgrow (by simp; omega) (fun j hj => by have := (hown.lt j hj).1; omega)
        clear hgrow hown hcx hnx
        go_wp2
        go_roundw
        case rel => exact ⟨k + 1, by omega, by omega, by go_num, by rw [hlt2, hts]; simpa [htk] using hown', hB⟩
        case measure => simp [intOf]; omega
    · have e : zs.take m = zs.take k := by
        rcases Nat.lt_or_ge k zs.length with h | h
        · obtain rfl : k = m := by omega
          rfl
        · rw [List.take_of_length_le h, List.take_of_length_le (by omega)]
      by_cases hk1 : k < zs.length
      · have hk2 : ¬ k < m := fun h => hlt ⟨hk1, h⟩
        clear hlt
        go_wp2
        go_ret
        exact ⟨_, rfl, by rw [e]; exact hown, hnx⟩
      · clear hlt
        go_wp2
        go_ret
        exact ⟨_, rfl, by rw [e]; exact hown, hnx⟩
end Go.Proofs.YtieinedancdokabDoor
/-
  WHETHER TWO LISTS OF NUMBERS ARE THE SAME, by its contract.
-/
namespace Go.Proofs.YtieinedancdokabDoor
open Go.ChangeShapes Go.WideShapes Go.ChangeAt Go.RowKit

theorem same_ends {xs ys : List Int} (k : Nat) (hl : xs.length = ys.length) (ht : xs.take k = ys.take k) (hk : xs.length ≤ k) : decide (xs = ys) = true := by
  rw [List.take_of_length_le hk, List.take_of_length_le (by omega)] at ht
  exact decide_eq_true ht
theorem same_parts {xs ys : List Int} (k : Nat) (h : xs.getD k 0 ≠ ys.getD k 0) : decide (xs = ys) = false := by
  refine decide_eq_false fun e => h (by rw [e])

set_option maxHeartbeats 800000 in
set_option maxRecDepth 1000000 in
theorem same_c (va vb : Value) (xs ys : List Int) (w : World) (hva : Holds w va (xs.map (Value.int .i64))) (hvb : Holds w vb (ys.map (Value.int .i64))) (hx : xs.length ≤ 17592186044416) (hy : ys.length ≤ 17592186044416) :
    Calls Tryd.prog 14 #[va, vb] w fun e w' => e = .returned (.bool (decide (xs = ys))) ∧ Below w.heap.size w w' := by
  obtain ⟨a, cap, rfl, hra⟩ := hva
  obtain ⟨b, cap', rfl, hrb⟩ := hvb
  rw [List.length_map, List.length_map]
  by_cases hl : xs.length = ys.length
  · go_enter Tryd.func14, Tryd.ntmps14
    go_wp2
    go_loopw [5] (fun i wr => ∃ k : Nat, k ≤ xs.length ∧ i = .int .i64 k ∧ xs.take k = ys.take k ∧ Below w.heap.size w wr)
      (fun i _ => xs.length - (intOf i).toNat)
    case atStart => exact ⟨0, Nat.zero_le _, rfl, rfl, Below.refl _ _⟩
    case round =>
      obtain ⟨k, hk, rfl, ht, hnx⟩ := hrel
      by_cases hlt : k < xs.length
      · rcases hra with h0 | ⟨b1, o1, rfl, hb1, hc1⟩
        · simp only [List.map_eq_nil_iff] at h0; subst h0; simp at hlt
        rcases hrb with h0 | ⟨b2, o2, rfl, hb2, hc2⟩
        · simp only [List.map_eq_nil_iff] at h0; subst h0; simp at hl; rw [hl] at hlt; simp at hlt
        have hx1 : wr.cell? ⟨b1, o1 + k, none⟩ = some (.int .i64 (xs.getD k 0)) := (hnx.cell (by exact hb1)).trans (hc1 k _ (by simp [hlt]))
        have hx2 : wr.cell? ⟨b2, o2 + k, none⟩ = some (.int .i64 (ys.getD k 0)) := (hnx.cell (by exact hb2)).trans (hc2 k _ (by simp [show k < ys.length by omega]))
        have hlt2 : k < ys.length := by omega
        have hts : xs.getD k 0 = ys.getD k 0 → xs.take (k + 1) = ys.take (k + 1) := fun e => by
          rw [List.take_add_one, List.take_add_one, ht, List.getElem?_eq_getElem hlt, List.getElem?_eq_getElem hlt2]
          simp [List.getD, hlt, hlt2] at e
          simp [e]
        have hne := same_parts (xs := xs) (ys := ys) k
        clear hc1 hc2
        generalize xs.getD k 0 = x at *
        generalize ys.getD k 0 = y at *
        go_wp2
        go_region
        all_goals (try go_wp2)
        · have h : (x != y) = true := by assumption
          go_ret
          exact ⟨ret_bool (hne (by simpa using h)).symm, hnx.drew⟩
        · have h : (x != y) = false := by assumption
          go_roundw
          case rel => exact ⟨k + 1, by omega, by go_num, hts (by simpa using h), hnx.drew⟩
          case measure => simp [intOf]; omega
      · go_wp2
        go_ret
        exact ⟨ret_bool (same_ends k hl ht (by omega)).symm, hnx⟩
  · have e : decide (xs = ys) = false := decide_eq_false fun e => hl (by rw [e])
    have hl' : ((xs.length : Int) == (ys.length : Int)) = false := by simp; omega
    go_enter Tryd.func14, Tryd.ntmps14
    go_wp2
    go_ret
    exact ⟨ret_bool e.symm, Below.refl _ _⟩
end Go.Proofs.YtieinedancdokabDoor
/-
  SETS AND RISING LISTS, each call in one form: what it returns holds a rising list, and all that lay there lies there.
-/
namespace Go.Proofs.YtieinedancdokabDoor
open Go.ChangeShapes Go.WideShapes Go.ChangeAt Go.RowKit

theorem ints_map (xs : List Nat) : ints xs = (xs.map Int.ofNat).map (Value.int .i64) := by simp [ints]
theorem map_nat_eq (xs ys : List Nat) : xs.map Int.ofNat = ys.map Int.ofNat ↔ xs = ys :=
  ⟨fun h => (List.map_inj_right (fun _ _ h => Int.ofNat.inj h)).1 h, fun h => by rw [h]⟩
theorem same_nat_c (va vb : Value) (xs ys : List Nat) (w : World) (ha : Holds w va (ints xs)) (hb : Holds w vb (ints ys)) (l1 : xs.length ≤ 65536) (l2 : ys.length ≤ 65536) :
    Calls Tryd.prog 14 #[va, vb] w fun e w' => e = .returned (.bool (decide (xs = ys))) ∧ Below w.heap.size w w' := by
  rw [ints_map] at ha hb
  have := same_c va vb _ _ w ha hb (by simp; omega) (by simp; omega)
  rwa [show decide (xs.map Int.ofNat = ys.map Int.ofNat) = decide (xs = ys) by rw [Bool.eq_iff_iff, decide_eq_true_eq, decide_eq_true_eq, map_nat_eq]] at this
theorem sameT_c (va vb : Value) (xs : List Nat) (w : World) (ha : Holds w va (ints xs)) (hb : Holds w vb (ints xs)) (l1 : xs.length ≤ 65536) :
    Calls Tryd.prog 14 #[va, vb] w fun e w' => e = .returned (.bool true) ∧ Below w.heap.size w w' := by
  have := same_nat_c va vb xs xs w ha hb l1 l1
  simpa using this
theorem fewH_c (v : Value) (zs : List Int) (m : Nat) (w : World) (hv : Holds w v (zs.map (Value.int .i64))) (hz : zs.length ≤ 9223372036854775807) (hm : m ≤ 1000) :
    Calls Tryd.prog 5 #[v, .int .i64 m] w fun e w' => ∃ v', e = .returned v' ∧ Holds w' v' ((zs.take m).map (Value.int .i64)) ∧ Below w.heap.size w w' :=
  (few_c v zs m w hv hz hm).mono fun _ _ ⟨v', he, ho, hB⟩ => ⟨v', he, holds_of_owns ho, hB⟩
theorem listL_c (b : Nat) (g : Option Nat) (ws : List Nat) (p : Nat → Bool) (w : World) (hf : Fit ws) (hp : ∀ k, has ws k = p k) (h : SetAt w b g ws) (hT : TabAt 0 Lib.deBruijn64tab w) :
    Calls Tryd.prog 12 #[.pointer (some ⟨b, 0, none⟩)] w fun e w' => ∃ v, e = .returned v ∧ Holds w' v (ints (L p)) ∧ Below w.heap.size w w' := by
  have := list_c b g ws w hf h hT
  rwa [told_L ws hf, L_congr hp] at this
theorem slS_mono {B B' : Nat} {w : World} {v : Value} {xs : List Nat} (h : SlS B w v xs) (hB : B' ≤ B) : SlS B' w v xs := by
  obtain ⟨g, og, cap, h1, h0, h2⟩ := h
  exact ⟨g, og, cap, h1, Nat.le_trans hB h0, h2⟩
theorem sl_holds {f B : Nat} {args : Array Value} {w : World} {xs : List Nat} (h : Calls Tryd.prog f args w fun e w' => ∃ v', e = .returned v' ∧ SlS B w' v' xs ∧ Below w.heap.size w w') :
    Calls Tryd.prog f args w fun e w' => ∃ v', e = .returned v' ∧ Holds w' v' (ints xs) ∧ Below w.heap.size w w' :=
  h.mono fun _ _ ⟨v, he, hs, hB⟩ => ⟨v, he, hs.holds, hB⟩
/-- A call that leaves the world leaves all that lay there. -/
theorem stays {f : Nat} {args : Array Value} {w : World} {r : Value} (h : Calls Tryd.prog f args w fun e w' => e = .returned r ∧ w' = w) : Calls Tryd.prog f args w fun e w' => e = .returned r ∧ Below w.heap.size w w' :=
  h.mono fun _ _ ⟨he, hw⟩ => ⟨he, by rw [hw]; exact Below.refl _ _⟩
end Go.Proofs.YtieinedancdokabDoor
