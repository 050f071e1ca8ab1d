/-
  MARKS OF NO COSTS: mark.Get of nil, by contract.
-/
import Derived.Test.YtnecfgmbfkocnaeGreatMItem
import Derived.BigGuard
import Derived.Deep.RegionHeld3
namespace Go.Proofs.YtnecfgmbfkocnaeGreat
open Go.ChangeShapes Go.WideShapes Go.ChangeAt Go.RowKit

def noMark : Value := .agg #[.int .i64 0, .bool false, .slice none 0 0, .int .u64 0, .slice none 0 0]
/-- The ways that end ahead of the items. -/
theorem u_cell {w : World} {B n b : Nat} {c : Nat} {us : List Nat} (h : w.ownsRow B 23 1 (.slice (some ⟨b, 0, none⟩) n c) us.length (us.map u64v)) {j : Nat} (hj : j < us.length) : w.cell? ⟨b, j, none⟩ = some (.int .u64 ((us.getD j 0 : Nat) : Int)) := by
  obtain ⟨a, cap, e, hr⟩ := holds_of_owns h
  injection e with e1 _ _
  rcases hr with h0 | ⟨b', o, rfl, _, hc⟩
  · simp only [List.map_eq_nil_iff] at h0; subst h0; simp at hj
  · injection e1 with e1
    injection e1 with e2 e3 _
    subst e2
    subst e3
    have := hc j (.int .u64 ((us.getD j 0 : Nat) : Int)) (by simp [u64v, List.getD, hj])
    simpa using this
theorem mget_bad (L : List UInt8) (w : World) (hL : L.length ≤ 1000) (hec : (allS L).2 ≠ 0) :
    Calls Tryz.prog 7 #[.pointer none, .string (bytesOf L)] w fun e w' => e = .returned (.tuple #[noMark, .int .i64 12]) ∧ Below w.heap.size w w' := by
  have hX := hidden (heap_alloc_new w (.cells #[.int .i64 0, .bool false, .slice none 0 0, .int .u64 0, .slice none 0 0] 26))
  have hB0 : Hid (Below w.heap.size w (w.alloc (.cells #[.int .i64 0, .bool false, .slice none 0 0, .int .u64 0, .slice none 0 0] 26))) := (Below.refl _ _).alloc (Nat.le_refl _) _
  have hall := fun x => all_g L x hL
  have hsz : ¬ (65536 : Int) < ((bytesOf L).size : Int) := by rw [bytesOf_size]; omega
  have he : ((allS L).2 : Int) ≠ 0 := by omega
  have he2 : (((allS L).2 : Int) != 0) = true := bne_iff_ne.2 he
  generalize (allS L).2 = ec at *
  generalize (allS L).1 = us at *
  generalize bytesOf L = s at *
  replace hec := hidden hec
  replace he := hidden he
  go_enter Tryz.func7, Tryz.ntmps7
  go_wp2_with fail
  refine (hall _).mono ?_
  rintro e w1 ⟨v, rfl, hown, hB⟩
  have hB1 := hidden (hB0.out.trans (hB.mono hB0.out.size))
  have hX1 := hidden ((hB.block _ (Array.getElem?_eq_some_iff.1 hX.out).1).trans hX.out)
  obtain ⟨a, c, rfl⟩ := own_shape hown
  clear hown hB hX hall
  obtain ⟨⟨l0, l1, l2, l3, l4⟩, m0, m1, m2, m3, m4⟩ := box5f hX1.out
  have hX5 := hidden (set5 hX1.out (.int .i64 0) (.bool false) (.slice none 0 0) (.int .u64 0) (.slice none 0 0))
  have hB5 : Hid (Below w.heap.size w (((((w1.setCell ⟨w.heap.size, 0, none⟩ (.int .i64 0)).setCell ⟨w.heap.size, 1, none⟩ (.bool false)).setCell ⟨w.heap.size, 2, none⟩ (.slice none 0 0)).setCell ⟨w.heap.size, 3, none⟩ (.int .u64 0)).setCell ⟨w.heap.size, 4, none⟩ (.slice none 0 0))) :=
    ((((hB1.out.setCell (Nat.le_refl _) _).setCell (Nat.le_refl _) _).setCell (Nat.le_refl _) _).setCell (Nat.le_refl _) _).setCell (Nat.le_refl _) _
  go_wp2
  exact bodyPost_ret (results_row_tmp rfl _ _ w.heap.size _ _ _ _ rfl hX5.out Tryz.underlying26 rfl (by kernel_rfl)) rfl ⟨rfl, hB5.out⟩
theorem mget_short (L : List UInt8) (w : World) (hL : L.length ≤ 1000) (hec : (allS L).2 = 0) (hu : (allS L).1.length < 3) :
    Calls Tryz.prog 7 #[.pointer none, .string (bytesOf L)] w fun e w' => e = .returned (.tuple #[noMark, .int .i64 12]) ∧ Below w.heap.size w w' := by
  have hX := hidden (heap_alloc_new w (.cells #[.int .i64 0, .bool false, .slice none 0 0, .int .u64 0, .slice none 0 0] 26))
  have hB0 : Hid (Below w.heap.size w (w.alloc (.cells #[.int .i64 0, .bool false, .slice none 0 0, .int .u64 0, .slice none 0 0] 26))) := (Below.refl _ _).alloc (Nat.le_refl _) _
  have hall := fun x => all_g L x hL
  have hsz : ¬ (65536 : Int) < ((bytesOf L).size : Int) := by rw [bytesOf_size]; omega
  have hj : ((allS L).1.length : Int) < 3 := by omega
  generalize (allS L).2 = ec at *
  generalize (allS L).1 = us at *
  generalize bytesOf L = s at *
  subst hec
  replace hu := hidden hu
  go_enter Tryz.func7, Tryz.ntmps7
  go_wp2_with fail
  refine (hall _).mono ?_
  rintro e w1 ⟨v, rfl, hown, hB⟩
  have hB1 := hidden (hB0.out.trans (hB.mono hB0.out.size))
  have hX1 := hidden ((hB.block _ (Array.getElem?_eq_some_iff.1 hX.out).1).trans hX.out)
  obtain ⟨a, c, rfl⟩ := own_shape hown
  clear hown hB hX hall
  obtain ⟨⟨l0, l1, l2, l3, l4⟩, m0, m1, m2, m3, m4⟩ := box5f hX1.out
  have hX5 := hidden (set5 hX1.out (.int .i64 0) (.bool false) (.slice none 0 0) (.int .u64 0) (.slice none 0 0))
  have hB5 : Hid (Below w.heap.size w (((((w1.setCell ⟨w.heap.size, 0, none⟩ (.int .i64 0)).setCell ⟨w.heap.size, 1, none⟩ (.bool false)).setCell ⟨w.heap.size, 2, none⟩ (.slice none 0 0)).setCell ⟨w.heap.size, 3, none⟩ (.int .u64 0)).setCell ⟨w.heap.size, 4, none⟩ (.slice none 0 0))) :=
    ((((hB1.out.setCell (Nat.le_refl _) _).setCell (Nat.le_refl _) _).setCell (Nat.le_refl _) _).setCell (Nat.le_refl _) _).setCell (Nat.le_refl _) _
  go_wp2
  exact bodyPost_ret (results_row_tmp rfl _ _ w.heap.size _ _ _ _ rfl hX5.out Tryz.underlying26 rfl (by kernel_rfl)) rfl ⟨rfl, hB5.out⟩
end Go.Proofs.YtnecfgmbfkocnaeGreat
/-
  MARKS OF NO COSTS: mark.Get of nil, a head that is none.
-/
namespace Go.Proofs.YtnecfgmbfkocnaeGreat
open Go.ChangeShapes Go.WideShapes Go.ChangeAt Go.RowKit

set_option maxHeartbeats 3200000 in
theorem mget_kind (L : List UInt8) (w : World) (hL : L.length ≤ 1000) (hec : (allS L).2 = 0) (hu : 3 ≤ (allS L).1.length) (h0 : (allS L).1.getD 0 0 ≠ 2) :
    Calls Tryz.prog 7 #[.pointer none, .string (bytesOf L)] w fun e w' => e = .returned (.tuple #[noMark, .int .i64 12]) ∧ Below w.heap.size w w' := by
  have hX := hidden (heap_alloc_new w (.cells #[.int .i64 0, .bool false, .slice none 0 0, .int .u64 0, .slice none 0 0] 26))
  have hB0 : Hid (Below w.heap.size w (w.alloc (.cells #[.int .i64 0, .bool false, .slice none 0 0, .int .u64 0, .slice none 0 0] 26))) := (Below.refl _ _).alloc (Nat.le_refl _) _
  have hall := fun x => all_g L x hL
  have hsz : ¬ (65536 : Int) < ((bytesOf L).size : Int) := by rw [bytesOf_size]; omega
  have hj : ¬ ((allS L).1.length : Int) < 3 := by omega
  have hj0 : (0 : Int) < ((allS L).1.length : Int) := by omega
  have hj1 : (1 : Int) < ((allS L).1.length : Int) := by omega
  have hj2 : (2 : Int) < ((allS L).1.length : Int) := by omega
  have g0 : (((allS L).1.getD 0 0 : Nat) : Int) != 2 := bne_iff_ne.2 (by omega)
  replace h0 := hidden h0
  generalize (allS L).2 = ec at *
  generalize (allS L).1 = us at *
  generalize bytesOf L = s at *
  subst hec
  go_enter Tryz.func7, Tryz.ntmps7
  go_wp2_with fail
  refine (hall _).mono ?_
  rintro e w1 ⟨v, rfl, hown, hB⟩
  have hB1 := hidden (hB0.out.trans (hB.mono hB0.out.size))
  have hX1 := hidden ((hB.block _ (Array.getElem?_eq_some_iff.1 hX.out).1).trans hX.out)
  obtain ⟨a, c, rfl⟩ := own_shape hown
  obtain ⟨b, rfl⟩ : ∃ b, a = some ⟨b, 0, none⟩ := by
    obtain ⟨_, hh⟩ := hown
    rcases hh with h0 | ⟨g, cap, cur, h1, -⟩
    · omega
    · injection h1 with h1
      exact ⟨g, h1⟩
  have x0 := u_cell hown (j := 0) (by omega)
  have x1 := u_cell hown (j := 1) (by omega)
  have x2 := u_cell hown (j := 2) (by omega)
  replace hu := hidden hu
  generalize us.getD 0 0 = y0 at *
  generalize us.getD 1 0 = y1 at *
  generalize us.getD 2 0 = y2 at *
  clear hown hB hX hall
  obtain ⟨⟨l0, l1, l2, l3, l4⟩, m0, m1, m2, m3, m4⟩ := box5f hX1.out
  have hX5 := hidden (set5 hX1.out (.int .i64 0) (.bool false) (.slice none 0 0) (.int .u64 0) (.slice none 0 0))
  have hB5 : Hid (Below w.heap.size w (((((w1.setCell ⟨w.heap.size, 0, none⟩ (.int .i64 0)).setCell ⟨w.heap.size, 1, none⟩ (.bool false)).setCell ⟨w.heap.size, 2, none⟩ (.slice none 0 0)).setCell ⟨w.heap.size, 3, none⟩ (.int .u64 0)).setCell ⟨w.heap.size, 4, none⟩ (.slice none 0 0))) :=
    ((((hB1.out.setCell (Nat.le_refl _) _).setCell (Nat.le_refl _) _).setCell (Nat.le_refl _) _).setCell (Nat.le_refl _) _).setCell (Nat.le_refl _) _
  clear hX1 hB1
  go_wp2
  exact bodyPost_ret (results_row_tmp rfl _ _ w.heap.size _ _ _ _ rfl hX5.out Tryz.underlying26 rfl (by kernel_rfl)) rfl ⟨rfl, hB5.out⟩
end Go.Proofs.YtnecfgmbfkocnaeGreat
/-
  MARKS OF NO COSTS: mark.Get of nil, too much told.
-/
namespace Go.Proofs.YtnecfgmbfkocnaeGreat
open Go.ChangeShapes Go.WideShapes Go.ChangeAt Go.RowKit

set_option maxHeartbeats 3200000 in
theorem mget_told (L : List UInt8) (w : World) (hL : L.length ≤ 1000) (hec : (allS L).2 = 0) (hu : 3 ≤ (allS L).1.length) (h0 : (allS L).1.getD 0 0 = 2) (h1 : 9007199254740992 < (allS L).1.getD 1 0) :
    Calls Tryz.prog 7 #[.pointer none, .string (bytesOf L)] w fun e w' => e = .returned (.tuple #[noMark, .int .i64 12]) ∧ Below w.heap.size w w' := by
  have hX := hidden (heap_alloc_new w (.cells #[.int .i64 0, .bool false, .slice none 0 0, .int .u64 0, .slice none 0 0] 26))
  have hB0 : Hid (Below w.heap.size w (w.alloc (.cells #[.int .i64 0, .bool false, .slice none 0 0, .int .u64 0, .slice none 0 0] 26))) := (Below.refl _ _).alloc (Nat.le_refl _) _
  have hall := fun x => all_g L x hL
  have hsz : ¬ (65536 : Int) < ((bytesOf L).size : Int) := by rw [bytesOf_size]; omega
  have hj : ¬ ((allS L).1.length : Int) < 3 := by omega
  have hj0 : (0 : Int) < ((allS L).1.length : Int) := by omega
  have hj1 : (1 : Int) < ((allS L).1.length : Int) := by omega
  have hj2 : (2 : Int) < ((allS L).1.length : Int) := by omega
  have g0 : ((((allS L).1.getD 0 0 : Nat) : Int) != 2) = false := by rw [h0]; rfl
  have g1 : (9007199254740992 : Int) < (((allS L).1.getD 1 0 : Nat) : Int) := by omega
  replace h0 := hidden h0
  replace h1 := hidden h1
  generalize (allS L).2 = ec at *
  generalize (allS L).1 = us at *
  generalize bytesOf L = s at *
  subst hec
  go_enter Tryz.func7, Tryz.ntmps7
  go_wp2_with fail
  refine (hall _).mono ?_
  rintro e w1 ⟨v, rfl, hown, hB⟩
  have hB1 := hidden (hB0.out.trans (hB.mono hB0.out.size))
  have hX1 := hidden ((hB.block _ (Array.getElem?_eq_some_iff.1 hX.out).1).trans hX.out)
  obtain ⟨a, c, rfl⟩ := own_shape hown
  obtain ⟨b, rfl⟩ : ∃ b, a = some ⟨b, 0, none⟩ := by
    obtain ⟨_, hh⟩ := hown
    rcases hh with h0 | ⟨g, cap, cur, h1, -⟩
    · omega
    · injection h1 with h1
      exact ⟨g, h1⟩
  have x0 := u_cell hown (j := 0) (by omega)
  have x1 := u_cell hown (j := 1) (by omega)
  have x2 := u_cell hown (j := 2) (by omega)
  replace hu := hidden hu
  generalize us.getD 0 0 = y0 at *
  generalize us.getD 1 0 = y1 at *
  generalize us.getD 2 0 = y2 at *
  clear hown hB hX hall
  obtain ⟨⟨l0, l1, l2, l3, l4⟩, m0, m1, m2, m3, m4⟩ := box5f hX1.out
  have hX5 := hidden (set5 hX1.out (.int .i64 0) (.bool false) (.slice none 0 0) (.int .u64 0) (.slice none 0 0))
  have hB5 : Hid (Below w.heap.size w (((((w1.setCell ⟨w.heap.size, 0, none⟩ (.int .i64 0)).setCell ⟨w.heap.size, 1, none⟩ (.bool false)).setCell ⟨w.heap.size, 2, none⟩ (.slice none 0 0)).setCell ⟨w.heap.size, 3, none⟩ (.int .u64 0)).setCell ⟨w.heap.size, 4, none⟩ (.slice none 0 0))) :=
    ((((hB1.out.setCell (Nat.le_refl _) _).setCell (Nat.le_refl _) _).setCell (Nat.le_refl _) _).setCell (Nat.le_refl _) _).setCell (Nat.le_refl _) _
  clear hX1 hB1
  go_wp2
  exact bodyPost_ret (results_row_tmp rfl _ _ w.heap.size _ _ _ _ rfl hX5.out Tryz.underlying26 rfl (by kernel_rfl)) rfl ⟨rfl, hB5.out⟩
end Go.Proofs.YtnecfgmbfkocnaeGreat
/-
  MARKS OF NO COSTS: mark.Get of nil, too many items.
-/
namespace Go.Proofs.YtnecfgmbfkocnaeGreat
open Go.ChangeShapes Go.WideShapes Go.ChangeAt Go.RowKit

set_option maxHeartbeats 3200000 in
theorem mget_many (L : List UInt8) (w : World) (hL : L.length ≤ 1000) (hec : (allS L).2 = 0) (hu : 3 ≤ (allS L).1.length) (h0 : (allS L).1.getD 0 0 = 2) (h1 : (allS L).1.getD 1 0 ≤ 9007199254740992) (h2 : 4000 < (allS L).1.getD 2 0) :
    Calls Tryz.prog 7 #[.pointer none, .string (bytesOf L)] w fun e w' => e = .returned (.tuple #[noMark, .int .i64 12]) ∧ Below w.heap.size w w' := by
  have hX := hidden (heap_alloc_new w (.cells #[.int .i64 0, .bool false, .slice none 0 0, .int .u64 0, .slice none 0 0] 26))
  have hB0 : Hid (Below w.heap.size w (w.alloc (.cells #[.int .i64 0, .bool false, .slice none 0 0, .int .u64 0, .slice none 0 0] 26))) := (Below.refl _ _).alloc (Nat.le_refl _) _
  have hall := fun x => all_g L x hL
  have hsz : ¬ (65536 : Int) < ((bytesOf L).size : Int) := by rw [bytesOf_size]; omega
  have hj : ¬ ((allS L).1.length : Int) < 3 := by omega
  have hj0 : (0 : Int) < ((allS L).1.length : Int) := by omega
  have hj1 : (1 : Int) < ((allS L).1.length : Int) := by omega
  have hj2 : (2 : Int) < ((allS L).1.length : Int) := by omega
  have g0 : ((((allS L).1.getD 0 0 : Nat) : Int) != 2) = false := by rw [h0]; rfl
  have g1 : ¬ (9007199254740992 : Int) < (((allS L).1.getD 1 0 : Nat) : Int) := by omega
  have g2 : (4000 : Int) < (((allS L).1.getD 2 0 : Nat) : Int) := by omega
  replace h0 := hidden h0
  replace h1 := hidden h1
  replace h2 := hidden h2
  generalize (allS L).2 = ec at *
  generalize (allS L).1 = us at *
  generalize bytesOf L = s at *
  subst hec
  go_enter Tryz.func7, Tryz.ntmps7
  go_wp2_with fail
  refine (hall _).mono ?_
  rintro e w1 ⟨v, rfl, hown, hB⟩
  have hB1 := hidden (hB0.out.trans (hB.mono hB0.out.size))
  have hX1 := hidden ((hB.block _ (Array.getElem?_eq_some_iff.1 hX.out).1).trans hX.out)
  obtain ⟨a, c, rfl⟩ := own_shape hown
  obtain ⟨b, rfl⟩ : ∃ b, a = some ⟨b, 0, none⟩ := by
    obtain ⟨_, hh⟩ := hown
    rcases hh with h0 | ⟨g, cap, cur, h1, -⟩
    · omega
    · injection h1 with h1
      exact ⟨g, h1⟩
  have x0 := u_cell hown (j := 0) (by omega)
  have x1 := u_cell hown (j := 1) (by omega)
  have x2 := u_cell hown (j := 2) (by omega)
  replace hu := hidden hu
  generalize us.getD 0 0 = y0 at *
  generalize us.getD 1 0 = y1 at *
  generalize us.getD 2 0 = y2 at *
  clear hown hB hX hall
  obtain ⟨⟨l0, l1, l2, l3, l4⟩, m0, m1, m2, m3, m4⟩ := box5f hX1.out
  have hX5 := hidden (set5 hX1.out (.int .i64 0) (.bool false) (.slice none 0 0) (.int .u64 0) (.slice none 0 0))
  have hB5 : Hid (Below w.heap.size w (((((w1.setCell ⟨w.heap.size, 0, none⟩ (.int .i64 0)).setCell ⟨w.heap.size, 1, none⟩ (.bool false)).setCell ⟨w.heap.size, 2, none⟩ (.slice none 0 0)).setCell ⟨w.heap.size, 3, none⟩ (.int .u64 0)).setCell ⟨w.heap.size, 4, none⟩ (.slice none 0 0))) :=
    ((((hB1.out.setCell (Nat.le_refl _) _).setCell (Nat.le_refl _) _).setCell (Nat.le_refl _) _).setCell (Nat.le_refl _) _).setCell (Nat.le_refl _) _
  clear hX1 hB1
  go_wp2
  exact bodyPost_ret (results_row_tmp rfl _ _ w.heap.size _ _ _ _ rfl hX5.out Tryz.underlying26 rfl (by kernel_rfl)) rfl ⟨rfl, hB5.out⟩
end Go.Proofs.YtnecfgmbfkocnaeGreat
/-
  MARKS OF NO COSTS: mark.Get of nil, no items.
-/
namespace Go.Proofs.YtnecfgmbfkocnaeGreat
open Go.ChangeShapes Go.WideShapes Go.ChangeAt Go.RowKit

theorem below_set5 {w x : World} (h : Below w.heap.size w x) {b : Nat} (hb : w.heap.size ≤ b) (c0 c1 c2 c3 c4 : Value) :
    Below w.heap.size w (((((x.setCell ⟨b, 0, none⟩ c0).setCell ⟨b, 1, none⟩ c1).setCell ⟨b, 2, none⟩ c2).setCell ⟨b, 3, none⟩ c3).setCell ⟨b, 4, none⟩ c4) :=
  ((((h.setCell (by exact hb) _).setCell (by exact hb) _).setCell (by exact hb) _).setCell (by exact hb) _).setCell (by exact hb) _
set_option maxHeartbeats 3200000 in
theorem mget_none (L : List UInt8) (w : World) (hL : L.length ≤ 1000) (hec : (allS L).2 = 0) (hu : 3 ≤ (allS L).1.length) (h0 : (allS L).1.getD 0 0 = 2) (h1 : (allS L).1.getD 1 0 ≤ 9007199254740992) (h2 : (allS L).1.getD 2 0 = 0) :
    Calls Tryz.prog 7 #[.pointer none, .string (bytesOf L)] w fun e w' => e = .returned (.tuple #[noMark, .int .i64 12]) ∧ Below w.heap.size w w' := by
  have hX := hidden (heap_alloc_new w (.cells #[.int .i64 0, .bool false, .slice none 0 0, .int .u64 0, .slice none 0 0] 26))
  have hB0 : Hid (Below w.heap.size w (w.alloc (.cells #[.int .i64 0, .bool false, .slice none 0 0, .int .u64 0, .slice none 0 0] 26))) := (Below.refl _ _).alloc (Nat.le_refl _) _
  have hall := fun x => all_g L x hL
  have hsz : ¬ (65536 : Int) < ((bytesOf L).size : Int) := by rw [bytesOf_size]; omega
  have hj : ¬ ((allS L).1.length : Int) < 3 := by omega
  have hj0 : (0 : Int) < ((allS L).1.length : Int) := by omega
  have hj1 : (1 : Int) < ((allS L).1.length : Int) := by omega
  have hj2 : (2 : Int) < ((allS L).1.length : Int) := by omega
  have g0 : ((((allS L).1.getD 0 0 : Nat) : Int) != 2) = false := by rw [h0]; rfl
  have g1 : ¬ (9007199254740992 : Int) < (((allS L).1.getD 1 0 : Nat) : Int) := by omega
  have g2 : ¬ (4000 : Int) < (((allS L).1.getD 2 0 : Nat) : Int) := by omega
  have iw : IntKind.i64.wrap (((allS L).1.getD 1 0 : Nat) : Int) = (((allS L).1.getD 1 0 : Nat) : Int) := by rw [IntKind.wrap_i64]; omega
  have hlt := hidden (fa_num L (L.length + 1) [] 0 (fun u hu => by cases hu))
  replace hlt : Hid (∀ u ∈ (allS L).1, u < 18446744073709551616) := hlt
  have hlen := hidden (fa_len L (L.length + 1) [] 0 (Nat.le_refl _) (Nat.zero_le _))
  have hus : Hid ((allS L).1.length ≤ 1000) := by
    show _ ≤ _
    have h := hlen.out
    unfold allS; omega
  clear hlen
  replace h0 := hidden h0
  replace h1 := hidden h1
  generalize (allS L).2 = ec at *
  generalize (allS L).1 = us at *
  generalize bytesOf L = s at *
  subst hec
  go_enter Tryz.func7, Tryz.ntmps7
  go_wp2_with fail
  refine (hall _).mono ?_
  rintro e w1 ⟨v, rfl, hown, hB⟩
  have hB1 := hidden (hB0.out.trans (hB.mono hB0.out.size))
  have hX1 := hidden ((hB.block _ (Array.getElem?_eq_some_iff.1 hX.out).1).trans hX.out)
  obtain ⟨a, c, rfl⟩ := own_shape hown
  obtain ⟨b, rfl⟩ : ∃ b, a = some ⟨b, 0, none⟩ := by
    obtain ⟨_, hh⟩ := hown
    rcases hh with h0 | ⟨g, cap, cur, h1, -⟩
    · omega
    · injection h1 with h1
      exact ⟨g, h1⟩
  have x0 := u_cell hown (j := 0) (by omega)
  have x1 := u_cell hown (j := 1) (by omega)
  have x2 := u_cell hown (j := 2) (by omega)
  replace hu := hidden hu
  generalize us.getD 0 0 = y0 at *
  generalize us.getD 1 0 = y1 at *
  rw [h2] at x2 g2
  replace h2 := hidden h2
  have hcap : Hid (us.length ≤ c) := by
    rcases hown.2 with ⟨h, h2⟩ | ⟨g, cap, cur, h, _, _, h4, _⟩
    · cases h
    · injection h with _ _ h
      show _ ≤ _
      omega
  have hcells : Hid (∀ j, j < us.length → w1.cell? ⟨b, j, none⟩ = some (.int .u64 ((us.getD j 0 : Nat) : Int))) := fun j hj => u_cell hown hj
  clear hown hB hX hall
  have hc3 : Hid (3 ≤ us.length) := hu.out
  go_wp2_with fail
  go_region_held3 (fun x => x.cell? ⟨b, 1, none⟩ = some (.int .u64 (y1 : Int)) ∧ x.cell? ⟨b, 2, none⟩ = some (.int .u64 ((0 : Nat) : Int))) (go_keep) (fail)
  have hXz : Hid ((World.heap ((w1.alloc (.cells #[.int .i64 (y1 : Int), .bool true, .slice none 0 0, .int .u64 0, .slice none 0 0] 26)).drew))[w.heap.size]? = some (.cells #[.int .i64 0, .bool false, .slice none 0 0, .int .u64 0, .slice none 0 0] 26)) := (heap_alloc_old _ _ (Array.getElem?_eq_some_iff.1 hX1.out).1).trans hX1.out
  have hMz : Hid ((World.heap ((w1.alloc (.cells #[.int .i64 (y1 : Int), .bool true, .slice none 0 0, .int .u64 0, .slice none 0 0] 26)).drew))[w1.heap.size]? = some (.cells #[.int .i64 (y1 : Int), .bool true, .slice none 0 0, .int .u64 0, .slice none 0 0] 26)) := heap_alloc_new _ _
  have hBz : Hid (Below w.heap.size w ((w1.alloc (.cells #[.int .i64 (y1 : Int), .bool true, .slice none 0 0, .int .u64 0, .slice none 0 0] 26)).drew)) := (hB1.out.alloc hB1.out.size _).drew
  have hcz : Hid (∀ j, j < us.length → World.cell? ((w1.alloc (.cells #[.int .i64 (y1 : Int), .bool true, .slice none 0 0, .int .u64 0, .slice none 0 0] 26)).drew) ⟨b, j, none⟩ = some (.int .u64 ((us.getD j 0 : Nat) : Int))) := fun j hj => by
    have h := hcells.out j hj
    exact (((Below.refl _ _).alloc (Nat.le_refl _) _).drew.cell (World.block_lt_of_cell? _ _ h)).trans h
  have x2z : World.cell? ((w1.alloc (.cells #[.int .i64 (y1 : Int), .bool true, .slice none 0 0, .int .u64 0, .slice none 0 0] 26)).drew) ⟨b, 2, none⟩ = some (.int .u64 (0)) := (((Below.refl _ _).alloc (Nat.le_refl _) _).drew.cell (World.block_lt_of_cell? _ _ x2)).trans x2
  generalize hwz : (w1.alloc (.cells #[.int .i64 (y1 : Int), .bool true, .slice none 0 0, .int .u64 0, .slice none 0 0] 26)).drew = wz at *
  clear hB1 hX1 hcells x0 x1 x2 hwz
  have hgd := fun x => mgood_c ⟨(y1 : Int), true, [], 0, []⟩ none 0 none 0 x
  unfold mkS at hgd
  simp only [List.length_nil] at hgd
  by_cases h3 : us.length = 3
  · have g3 : (us.length : Int) = 3 := by omega
    rw [g3] at *
    by_cases h4 : c = 3
    all_goals
      go_wp2_with fail
      go_loopw [6, 63] (fun u i wr => (∃ a9 c9, u = .slice a9 0 c9) ∧ i = .int .u64 0 ∧ wr = wz) (fun _ _ _ => 0)
      case atStart => exact ⟨⟨_, _, by first | done | rfl⟩, rfl, rfl⟩
      case round =>
        obtain ⟨⟨a9, c9, rfl⟩, rfl, rfl⟩ := hrel
        obtain ⟨⟨p0, p1, p2, p3, p4⟩, -⟩ := box5f hMz.out
        go_wp2_with fail
        refine (hgd _).mono ?_
        rintro e w2 ⟨rfl, hB⟩
        have hB6 := hidden (hBz.out.trans (hB.mono hBz.out.size))
        have hX6 := hidden ((hB.block _ (Array.getElem?_eq_some_iff.1 hXz.out).1).trans hXz.out)
        clear hB hBz hXz hMz hgd hcz x2z p0 p1 p2 p3 p4
        obtain ⟨⟨l0, l1, l2, l3, l4⟩, m0, m1, m2, m3, m4⟩ := box5f hX6.out
        have hX5 := hidden (set5 hX6.out (.int .i64 0) (.bool false) (.slice none 0 0) (.int .u64 0) (.slice none 0 0))
        have hB5 := hidden (below_set5 hB6.out (Nat.le_refl _) (.int .i64 0) (.bool false) (.slice none 0 0) (.int .u64 0) (.slice none 0 0))
        go_wp2
        exact bodyPost_ret (results_row_tmp rfl _ _ w.heap.size _ _ _ _ rfl hX5.out Tryz.underlying26 rfl (by kernel_rfl)) rfl ⟨rfl, hB5.out⟩
  · have h4 : ¬ c = 3 := by have := hcap.out; omega
    have g3 : ¬ (us.length : Int) = 3 := by omega
    have g4 : (3 : Int) < (us.length : Int) := by omega
    have g5 : (us.length : Int) ≤ (c : Int) := by have := hcap.out; omega
    go_wp2_with fail
    go_loopw [6, 63] (fun u i wr => (∃ a9 n9 c9, u = .slice a9 n9 c9 ∧ 0 < n9) ∧ i = .int .u64 0 ∧ wr = wz) (fun _ _ _ => 0)
    case atStart => exact ⟨⟨_, _, _, rfl, by omega⟩, rfl, rfl⟩
    case round =>
      obtain ⟨⟨a9, n9, c9, rfl, hn9⟩, rfl, rfl⟩ := hrel
      have g9 : (0 : Int) < (n9 : Int) := by omega
      clear hMz hgd hcz x2z
      obtain ⟨⟨l0, l1, l2, l3, l4⟩, m0, m1, m2, m3, m4⟩ := box5f hXz.out
      have hX5 := hidden (set5 hXz.out (.int .i64 0) (.bool false) (.slice none 0 0) (.int .u64 0) (.slice none 0 0))
      have hB5 := hidden (below_set5 hBz.out (Nat.le_refl _) (.int .i64 0) (.bool false) (.slice none 0 0) (.int .u64 0) (.slice none 0 0))
      go_wp2
      exact bodyPost_ret (results_row_tmp rfl _ _ w.heap.size _ _ _ _ rfl hX5.out Tryz.underlying26 rfl (by kernel_rfl)) rfl ⟨rfl, hB5.out⟩
end Go.Proofs.YtnecfgmbfkocnaeGreat
/-
  MARKS OF NO COSTS: mark.Get of nil, the first item is none.
-/
namespace Go.Proofs.YtnecfgmbfkocnaeGreat
open Go.ChangeShapes Go.WideShapes Go.ChangeAt Go.RowKit

theorem below_set5e {w x : World} (h : Below w.heap.size w x) {b : Nat} (hb : w.heap.size ≤ b) (c0 c1 c2 c3 c4 : Value) :
    Below w.heap.size w (((((x.setCell ⟨b, 0, none⟩ c0).setCell ⟨b, 1, none⟩ c1).setCell ⟨b, 2, none⟩ c2).setCell ⟨b, 3, none⟩ c3).setCell ⟨b, 4, none⟩ c4) :=
  ((((h.setCell (by exact hb) _).setCell (by exact hb) _).setCell (by exact hb) _).setCell (by exact hb) _).setCell (by exact hb) _
set_option maxHeartbeats 6400000 in
theorem mget_items (L : List UInt8) (w : World) (hL : L.length ≤ 1000) (hec : (allS L).2 = 0) (hu : 3 ≤ (allS L).1.length) (h0 : (allS L).1.getD 0 0 = 2) (h1 : (allS L).1.getD 1 0 ≤ 9007199254740992) (h2 : (allS L).1.getD 2 0 ≤ 4000) (h3 : 0 < (allS L).1.getD 2 0) :
    Calls Tryz.prog 7 #[.pointer none, .string (bytesOf L)] w fun e w' => e = .returned (.tuple #[noMark, .int .i64 12]) ∧ Below w.heap.size w w' := by
  have hX := hidden (heap_alloc_new w (.cells #[.int .i64 0, .bool false, .slice none 0 0, .int .u64 0, .slice none 0 0] 26))
  have hB0 : Hid (Below w.heap.size w (w.alloc (.cells #[.int .i64 0, .bool false, .slice none 0 0, .int .u64 0, .slice none 0 0] 26))) := (Below.refl _ _).alloc (Nat.le_refl _) _
  have hall := fun x => all_g L x hL
  have hsz : ¬ (65536 : Int) < ((bytesOf L).size : Int) := by rw [bytesOf_size]; omega
  have hj : ¬ ((allS L).1.length : Int) < 3 := by omega
  have hj0 : (0 : Int) < ((allS L).1.length : Int) := by omega
  have hj1 : (1 : Int) < ((allS L).1.length : Int) := by omega
  have hj2 : (2 : Int) < ((allS L).1.length : Int) := by omega
  have g0 : ((((allS L).1.getD 0 0 : Nat) : Int) != 2) = false := by rw [h0]; rfl
  have g1 : ¬ (9007199254740992 : Int) < (((allS L).1.getD 1 0 : Nat) : Int) := by omega
  have g2 : ¬ (4000 : Int) < (((allS L).1.getD 2 0 : Nat) : Int) := by omega
  have iw : IntKind.i64.wrap (((allS L).1.getD 1 0 : Nat) : Int) = (((allS L).1.getD 1 0 : Nat) : Int) := by rw [IntKind.wrap_i64]; omega
  have hlt := hidden (fa_num L (L.length + 1) [] 0 (fun u hu => by cases hu))
  replace hlt : Hid (∀ u ∈ (allS L).1, u < 18446744073709551616) := hlt
  have hlen := hidden (fa_len L (L.length + 1) [] 0 (Nat.le_refl _) (Nat.zero_le _))
  have hus : Hid ((allS L).1.length ≤ 1000) := by
    show _ ≤ _
    have h := hlen.out
    unfold allS; omega
  clear hlen
  replace h0 := hidden h0
  replace h1 := hidden h1
  generalize (allS L).2 = ec at *
  generalize (allS L).1 = us at *
  generalize bytesOf L = s at *
  subst hec
  go_enter Tryz.func7, Tryz.ntmps7
  go_wp2_with fail
  refine (hall _).mono ?_
  rintro e w1 ⟨v, rfl, hown, hB⟩
  have hB1 := hidden (hB0.out.trans (hB.mono hB0.out.size))
  have hX1 := hidden ((hB.block _ (Array.getElem?_eq_some_iff.1 hX.out).1).trans hX.out)
  obtain ⟨a, c, rfl⟩ := own_shape hown
  obtain ⟨b, rfl⟩ : ∃ b, a = some ⟨b, 0, none⟩ := by
    obtain ⟨_, hh⟩ := hown
    rcases hh with h0 | ⟨g, cap, cur, h1, -⟩
    · omega
    · injection h1 with h1
      exact ⟨g, h1⟩
  have x0 := u_cell hown (j := 0) (by omega)
  have x1 := u_cell hown (j := 1) (by omega)
  have x2 := u_cell hown (j := 2) (by omega)
  replace hu := hidden hu
  generalize us.getD 0 0 = y0 at *
  generalize us.getD 1 0 = y1 at *
  generalize us.getD 2 0 = y2 at *
  have gy : ((y2 : Int) == 0) = false := beq_eq_false_iff_ne.2 (by omega)
  have gz : (0 : Int) < (y2 : Int) := by omega
  replace h2 := hidden h2
  replace h3 := hidden h3
  have hcap : Hid (us.length ≤ c) := by
    rcases hown.2 with ⟨h, h2⟩ | ⟨g, cap, cur, h, _, _, h4, _⟩
    · cases h
    · injection h with _ _ h
      show _ ≤ _
      omega
  have hcells : Hid (∀ j, j < us.length → w1.cell? ⟨b, j, none⟩ = some (.int .u64 ((us.getD j 0 : Nat) : Int))) := fun j hj => u_cell hown hj
  clear hown hB hX hall
  have hc3 : Hid (3 ≤ us.length) := hu.out
  go_wp2_with fail
  go_region_held3 (fun x => x.cell? ⟨b, 1, none⟩ = some (.int .u64 (y1 : Int)) ∧ x.cell? ⟨b, 2, none⟩ = some (.int .u64 (y2 : Int))) (go_keep) (fail)
  have hXz : Hid ((World.heap ((w1.alloc (.cells #[.int .i64 (y1 : Int), .bool false, .slice none 0 0, .int .u64 0, .slice none 0 0] 26)).drew))[w.heap.size]? = some (.cells #[.int .i64 0, .bool false, .slice none 0 0, .int .u64 0, .slice none 0 0] 26)) := (heap_alloc_old _ _ (Array.getElem?_eq_some_iff.1 hX1.out).1).trans hX1.out
  have hMz : Hid ((World.heap ((w1.alloc (.cells #[.int .i64 (y1 : Int), .bool false, .slice none 0 0, .int .u64 0, .slice none 0 0] 26)).drew))[w1.heap.size]? = some (.cells #[.int .i64 (y1 : Int), .bool false, .slice none 0 0, .int .u64 0, .slice none 0 0] 26)) := heap_alloc_new _ _
  have hBz : Hid (Below w.heap.size w ((w1.alloc (.cells #[.int .i64 (y1 : Int), .bool false, .slice none 0 0, .int .u64 0, .slice none 0 0] 26)).drew)) := (hB1.out.alloc hB1.out.size _).drew
  have hcz : Hid (∀ j, j < us.length → World.cell? ((w1.alloc (.cells #[.int .i64 (y1 : Int), .bool false, .slice none 0 0, .int .u64 0, .slice none 0 0] 26)).drew) ⟨b, j, none⟩ = some (.int .u64 ((us.getD j 0 : Nat) : Int))) := fun j hj => by
    have h := hcells.out j hj
    exact (((Below.refl _ _).alloc (Nat.le_refl _) _).drew.cell (World.block_lt_of_cell? _ _ h)).trans h
  have x2z : World.cell? ((w1.alloc (.cells #[.int .i64 (y1 : Int), .bool false, .slice none 0 0, .int .u64 0, .slice none 0 0] 26)).drew) ⟨b, 2, none⟩ = some (.int .u64 ((y2 : Int))) := (((Below.refl _ _).alloc (Nat.le_refl _) _).drew.cell (World.block_lt_of_cell? _ _ x2)).trans x2
  generalize hwz : (w1.alloc (.cells #[.int .i64 (y1 : Int), .bool false, .slice none 0 0, .int .u64 0, .slice none 0 0] 26)).drew = wz at *
  clear hB1 hX1 hcells x0 x1 x2 hwz
  by_cases h5 : us.length < 5
  · have hgi : ∀ a n c, n < 2 → Calls Tryz.prog 18 #[.pointer none, .slice a n c] wz fun e w' => (∃ sz : Int, e = .returned (.tuple #[.agg #[.int .i64 0, .slice none 0 0, .int .i64 0, .int .i64 0], .int .i64 sz, .bool false])) ∧ Below wz.heap.size wz w' := fun a n c h => getItem_short a n c wz h
    by_cases h6 : us.length = 3
    · have g3 : (us.length : Int) = 3 := by omega
      rw [g3] at *
      by_cases h4 : c = 3
      all_goals
        go_wp2_with fail
        go_loopw [6, 63] (fun u i wr => Hid (Calls Tryz.prog 18 #[.pointer none, u] wz fun e w' => (∃ sz : Int, e = .returned (.tuple #[.agg #[.int .i64 0, .slice none 0 0, .int .i64 0, .int .i64 0], .int .i64 sz, .bool false])) ∧ Below wz.heap.size wz w') ∧ i = .int .u64 0 ∧ wr = wz) (fun _ _ _ => 0)
        case atStart => exact ⟨hgi _ _ _ (by omega), rfl, rfl⟩
        case round =>
          obtain ⟨hu6, rfl, rfl⟩ := hrel
          clear hgi hMz hcz x2z
          go_wp2_with fail
          refine hu6.out.mono ?_
          rintro e w2 ⟨⟨sz, rfl⟩, hB⟩
          have hB6 : Hid (Below w.heap.size w (w2.alloc (.cells #[.int .i64 0, .slice none 0 0, .int .i64 0, .int .i64 0] 39))) := (hBz.out.trans (hB.mono hBz.out.size)).alloc (hBz.out.trans (hB.mono hBz.out.size)).size _
          have hX6 : Hid ((w2.alloc (.cells #[.int .i64 0, .slice none 0 0, .int .i64 0, .int .i64 0] 39)).heap[w.heap.size]? = some (.cells #[.int .i64 0, .bool false, .slice none 0 0, .int .u64 0, .slice none 0 0] 26)) := by
            have h := (hB.block _ (Array.getElem?_eq_some_iff.1 hXz.out).1).trans hXz.out
            exact (heap_alloc_old _ _ (Array.getElem?_eq_some_iff.1 h).1).trans h
          clear hB hBz hXz hu6
          obtain ⟨⟨l0, l1, l2, l3, l4⟩, m0, m1, m2, m3, m4⟩ := box5f hX6.out
          have hX5 := hidden (set5 hX6.out (.int .i64 0) (.bool false) (.slice none 0 0) (.int .u64 0) (.slice none 0 0))
          have hB5 := hidden (below_set5e hB6.out (Nat.le_refl _) (.int .i64 0) (.bool false) (.slice none 0 0) (.int .u64 0) (.slice none 0 0))
          go_wp2
          exact bodyPost_ret (results_row_tmp rfl _ _ w.heap.size _ _ _ _ rfl hX5.out Tryz.underlying26 rfl (by kernel_rfl)) rfl ⟨rfl, hB5.out⟩
    · have g3 : (us.length : Int) = 4 := by omega
      rw [g3] at *
      have h4 : ¬ c = 3 := by have := hcap.out; omega
      go_wp2_with fail
      go_loopw [6, 63] (fun u i wr => Hid (Calls Tryz.prog 18 #[.pointer none, u] wz fun e w' => (∃ sz : Int, e = .returned (.tuple #[.agg #[.int .i64 0, .slice none 0 0, .int .i64 0, .int .i64 0], .int .i64 sz, .bool false])) ∧ Below wz.heap.size wz w') ∧ i = .int .u64 0 ∧ wr = wz) (fun _ _ _ => 0)
      case atStart => exact ⟨hgi _ _ _ (by omega), rfl, rfl⟩
      case round =>
        obtain ⟨hu6, rfl, rfl⟩ := hrel
        clear hgi hMz hcz x2z
        go_wp2_with fail
        refine hu6.out.mono ?_
        rintro e w2 ⟨⟨sz, rfl⟩, hB⟩
        have hB6 : Hid (Below w.heap.size w (w2.alloc (.cells #[.int .i64 0, .slice none 0 0, .int .i64 0, .int .i64 0] 39))) := (hBz.out.trans (hB.mono hBz.out.size)).alloc (hBz.out.trans (hB.mono hBz.out.size)).size _
        have hX6 : Hid ((w2.alloc (.cells #[.int .i64 0, .slice none 0 0, .int .i64 0, .int .i64 0] 39)).heap[w.heap.size]? = some (.cells #[.int .i64 0, .bool false, .slice none 0 0, .int .u64 0, .slice none 0 0] 26)) := by
          have h := (hB.block _ (Array.getElem?_eq_some_iff.1 hXz.out).1).trans hXz.out
          exact (heap_alloc_old _ _ (Array.getElem?_eq_some_iff.1 h).1).trans h
        clear hB hBz hXz hu6
        obtain ⟨⟨l0, l1, l2, l3, l4⟩, m0, m1, m2, m3, m4⟩ := box5f hX6.out
        have hX5 := hidden (set5 hX6.out (.int .i64 0) (.bool false) (.slice none 0 0) (.int .u64 0) (.slice none 0 0))
        have hB5 := hidden (below_set5e hB6.out (Nat.le_refl _) (.int .i64 0) (.bool false) (.slice none 0 0) (.int .u64 0) (.slice none 0 0))
        go_wp2
        exact bodyPost_ret (results_row_tmp rfl _ _ w.heap.size _ _ _ _ rfl hX5.out Tryz.underlying26 rfl (by kernel_rfl)) rfl ⟨rfl, hB5.out⟩
  · have h4 : ¬ c = 3 := by have := hcap.out; omega
    have g3 : ¬ (us.length : Int) = 3 := by omega
    have g4 : (3 : Int) < (us.length : Int) := by omega
    have g5 : (us.length : Int) ≤ (c : Int) := by have := hcap.out; omega
    have hgi : Hid (Calls Tryz.prog 18 #[.pointer none, .slice (some ⟨b, 3, none⟩) (us.length - 3) (c - 3)] wz fun e w' => (∃ sz : Int, e = .returned (.tuple #[.agg #[.int .i64 0, .slice none 0 0, .int .i64 0, .int .i64 0], .int .i64 sz, .bool false])) ∧ Below wz.heap.size wz w') := by
      show Calls _ _ _ _ _
      have hk := hcz.out 3 (by omega)
      have hk2 : us.getD 3 0 < 18446744073709551616 := by
        have e : us.getD 3 0 = us[3] := by simp [List.getD, show 3 < us.length by omega]
        rw [e]; exact hlt.out _ (List.getElem_mem _)
      by_cases hd : us.getD 3 0 + 2 ≤ us.length - 3
      · refine getItem_c b 3 (us.length - 3) (c - 3) (us.drop 3) wz (by have := hcap.out; omega) (by simp) (by omega) (by have := hus.out; omega) (by simpa [List.getD] using hd) (fun j hj => ?_) (fun u hu => hlt.out u (List.mem_of_mem_drop hu))
        have := hcz.out (3 + j) (by omega)
        simpa [List.getD] using this
      · exact getItem_long b 3 (us.length - 3) (c - 3) (us.getD 3 0) wz (by omega) (by have := hus.out; omega) (by omega) hk2 hk
    go_wp2_with fail
    go_loopw [6, 63] (fun u i wr => Hid (Calls Tryz.prog 18 #[.pointer none, u] wz fun e w' => (∃ sz : Int, e = .returned (.tuple #[.agg #[.int .i64 0, .slice none 0 0, .int .i64 0, .int .i64 0], .int .i64 sz, .bool false])) ∧ Below wz.heap.size wz w') ∧ i = .int .u64 0 ∧ wr = wz) (fun _ _ _ => 0)
    case atStart => exact ⟨hgi, rfl, rfl⟩
    case round =>
      obtain ⟨hu6, rfl, rfl⟩ := hrel
      clear hgi hMz hcz x2z
      go_wp2_with fail
      refine hu6.out.mono ?_
      rintro e w2 ⟨⟨sz, rfl⟩, hB⟩
      have hB6 : Hid (Below w.heap.size w (w2.alloc (.cells #[.int .i64 0, .slice none 0 0, .int .i64 0, .int .i64 0] 39))) := (hBz.out.trans (hB.mono hBz.out.size)).alloc (hBz.out.trans (hB.mono hBz.out.size)).size _
      have hX6 : Hid ((w2.alloc (.cells #[.int .i64 0, .slice none 0 0, .int .i64 0, .int .i64 0] 39)).heap[w.heap.size]? = some (.cells #[.int .i64 0, .bool false, .slice none 0 0, .int .u64 0, .slice none 0 0] 26)) := by
        have h := (hB.block _ (Array.getElem?_eq_some_iff.1 hXz.out).1).trans hXz.out
        exact (heap_alloc_old _ _ (Array.getElem?_eq_some_iff.1 h).1).trans h
      clear hB hBz hXz hu6
      obtain ⟨⟨l0, l1, l2, l3, l4⟩, m0, m1, m2, m3, m4⟩ := box5f hX6.out
      have hX5 := hidden (set5 hX6.out (.int .i64 0) (.bool false) (.slice none 0 0) (.int .u64 0) (.slice none 0 0))
      have hB5 := hidden (below_set5e hB6.out (Nat.le_refl _) (.int .i64 0) (.bool false) (.slice none 0 0) (.int .u64 0) (.slice none 0 0))
      go_wp2
      exact bodyPost_ret (results_row_tmp rfl _ _ w.heap.size _ _ _ _ rfl hX5.out Tryz.underlying26 rfl (by kernel_rfl)) rfl ⟨rfl, hB5.out⟩
end Go.Proofs.YtnecfgmbfkocnaeGreat
