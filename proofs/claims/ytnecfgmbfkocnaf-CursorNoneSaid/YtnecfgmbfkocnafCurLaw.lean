/-
  MARKS OF NO TREE: the law's own walk.
-/
import Derived.Test.YtnecfgmbfkocnafCurNone
import Derived.Test.YtnecfgmbfkocnafDesc
import Derived.BigGuard
namespace Go.Proofs.Ytnecfgmbfkocnaf
open Go.ChangeShapes Go.WideShapes Go.ChangeAt Go.RowKit

theorem fewM_few (m : Mk) : m.few.few = m.few := by
  simp only [Mk.few, List.take_take, Nat.min_self]
  congr 1
  rw [← List.map_take, List.take_take, Nat.min_self, List.map_map]
  exact List.map_congr_left fun y _ => by simp [It.few, List.take_take]
theorem few_nodes (m : Mk) : m.few.nodes.length ≤ 14 := by simp [Mk.few]; omega
theorem few_items (m : Mk) : m.few.items.length ≤ 4 := by simp [Mk.few]; omega
theorem few_its (m : Mk) : ∀ y ∈ m.few.items, y.l.length ≤ 5 := fun y hy => by
  obtain ⟨z, _, rfl⟩ := List.mem_map.1 hy
  simp [It.few]; omega
theorem its_empty {ti : TypeId} {x : World} {xs : List Value} {ys : List It} (h : ItsIn ti x xs ys) : xs.length = ys.length * 4 := h.len
/-- A mark copied: its rows lie somewhere. -/
theorem markS_c (m : Mk) (na : Option Addr) (nc : Nat) (ia : Option Addr) (ic : Nat) (w : World) (hn : Holds w (.slice na m.nodes.length nc) (m.nodes.map (Value.int .i64))) (hi : HoldsIL w (.slice ia m.items.length ic) m.items)
    (hzn : m.nodes.length ≤ 9223372036854775807) (hzi : m.items.length ≤ 9223372036854775807) (hzz : ∀ y ∈ m.items, y.l.length ≤ 9223372036854775807) :
    Calls Try.prog 4 #[mkS m na nc ia ic] w fun e w' => ∃ na' nc' ia' ic', e = .returned (mkS m.few na' nc' ia' ic') ∧
      (w'.ownsRow 0 3 1 (.slice na' m.few.nodes.length nc') m.few.nodes.length (m.few.nodes.map (Value.int .i64)) ∧
      ∃ xs, w'.ownsRow 0 38 4 (.slice ia' m.few.items.length ic') m.few.items.length xs ∧ ItsIn 3 w' xs m.few.items) ∧ Below w.heap.size w w' :=
  (mark_c m _ _ w hn hi (by omega) (by omega) (fun y hy => by have := hzz y hy; omega)).mono fun e w' ⟨nv, iv, he, h1, ⟨xs, h2, h3⟩, hB⟩ => by
    obtain ⟨a, c, rfl⟩ := own_shape h1
    obtain ⟨b, d, rfl⟩ := own_shape h2
    exact ⟨a, c, b, d, he, ⟨h1, xs, h2, h3⟩, hB⟩
theorem hold_of {x : World} {m : Mk} {na ia : Option Addr} {nc ic : Nat} (h : x.ownsRow 0 3 1 (.slice na m.nodes.length nc) m.nodes.length (m.nodes.map (Value.int .i64)) ∧
      ∃ xs, x.ownsRow 0 38 4 (.slice ia m.items.length ic) m.items.length xs ∧ ItsIn 3 x xs m.items) :
    Holds x (.slice na m.nodes.length nc) (m.nodes.map (Value.int .i64)) ∧ HoldsIL x (.slice ia m.items.length ic) m.items := by
  obtain ⟨h1, xs, h2, h3⟩ := h
  exact ⟨holds_of_owns h1, holdsIL_of h2 h3 rfl⟩
theorem hold_put {x : World} {m : Mk} {na ia : Option Addr} {nc ic b : Nat} {c0 c1 c2 c3 c4 d0 d1 d2 d3 d4 : Value} (h : x.ownsRow 0 3 1 (.slice na m.nodes.length nc) m.nodes.length (m.nodes.map (Value.int .i64)) ∧
      ∃ xs, x.ownsRow 0 38 4 (.slice ia m.items.length ic) m.items.length xs ∧ ItsIn 3 x xs m.items) (hb : x.heap[b]? = some (.cells #[c0, c1, c2, c3, c4] 26)) :
    Holds (put5 x b d0 d1 d2 d3 d4) (.slice na m.nodes.length nc) (m.nodes.map (Value.int .i64)) ∧ HoldsIL (put5 x b d0 d1 d2 d3 d4) (.slice ia m.items.length ic) m.items := by
  have ht : 3 ≠ 26 := by decide
  have ht2 : 38 ≠ 26 := by decide
  obtain ⟨h1, xs, h2, h3⟩ := h
  have b1 := set_heap hb 0 d0
  have b2 := set_heap b1 1 d1
  have b3 := set_heap b2 2 d2
  have b4 := set_heap b3 3 d3
  exact hold_of ⟨own_set (own_set (own_set (own_set (own_set h1 hb ht _ _) b1 ht _ _) b2 ht _ _) b3 ht _ _) b4 ht _ _, xs,
    own_set (own_set (own_set (own_set (own_set h2 hb ht2 _ _) b1 ht2 _ _) b2 ht2 _ _) b3 ht2 _ _) b4 ht2 _ _,
    ((((h3.setBox hb ht _ _).setBox b1 ht _ _).setBox b2 ht _ _).setBox b3 ht _ _).setBox b4 ht _ _⟩
theorem sameM_self (m : Mk) : sameM m m = true := by simp [sameM]
/-- What the rest of the law stands on: a mark that is as cut as it may be. -/
structure Cut (m : Mk) : Prop where
  few : m.few = m
  nodes : m.nodes.length ≤ 14
  items : m.items.length ≤ 4
  its : ∀ y ∈ m.items, y.l.length ≤ 5
  rest : 0 ≤ m.rest
set_option maxHeartbeats 6400000 in
set_option maxRecDepth 100000 in
theorem law_c (hN : CNones) (hlv : ∀ x, Calls Try.prog 9 #[] x fun e w' => e = .returned (.bool true) ∧ GoX.Calm x w') (M : Mk) (nv iv : Value) (w : World)
    (hn : Holds w nv (M.nodes.map (Value.int .i64))) (hi : HoldsIL w iv M.items) (hzn : M.nodes.length ≤ 9223372036854775807) (hzi : M.items.length ≤ 9223372036854775807) (hzz : ∀ y ∈ M.items, y.l.length ≤ 9223372036854775807) (hr : 0 ≤ M.rest) :
    Calls Try.prog 3 #[mkV M nv iv] w fun e w' => e = .returned (.bool true) ∧ GoX.Calm w w' := by
  obtain ⟨ja, jc, rfl, -⟩ := id hn
  obtain ⟨ka, kc, rfl, -⟩ := id hi
  simp only [List.length_map] at hn ⊢
  have hcut : Hid (Cut M.few) := ⟨fewM_few M, few_nodes M, few_items M, few_its M, hr⟩
  have hX0 := hidden (heap_alloc_new w (.cells #[.int .i64 M.told, .bool M.over, .slice ja M.nodes.length jc, .int .u64 M.rest, .slice ka M.items.length kc] 26))
  have hC0 : Hid (GoX.Calm w (w.alloc (.cells #[.int .i64 M.told, .bool M.over, .slice ja M.nodes.length jc, .int .u64 M.rest, .slice ka M.items.length kc] 26))) := calm_alloc _ _
  have hm0 := markS_c M ja jc ka kc _ (hn.calm hC0.out) (hi.calm hC0.out) hzn hzi hzz
  generalize M.few = m at *
  unfold mkV
  unfold mkS at hm0
  clear hn hi hzn hzi hzz
  generalize hwe : w.alloc (.cells #[.int .i64 M.told, .bool M.over, .slice ja M.nodes.length jc, .int .u64 M.rest, .slice ka M.items.length kc] 26) = wx at *
  replace hwe := hidden hwe
  obtain ⟨⟨b0, b1, b2, b3, b4⟩, f0, f1, f2, f3, f4⟩ := box5f hX0.out
  go_enter Try.func3, Try.ntmps3
  go_wp2_with fail
  rw [hwe.out]
  go_wp2_with fail
  refine hm0.mono ?_
  rintro e w1 ⟨na, nc, ia, ic, rfl, hrow, hB1⟩
  have hX1 := hidden (calm_heap (GoX.Calm.of_below hB1) hX0.out)
  have hC1 := hidden (hC0.out.trans (GoX.Calm.of_below hB1))
  have hXy := put5_at hX1.out (.int .i64 m.told) (.bool m.over) (.slice na m.nodes.length nc) (.int .u64 m.rest) (.slice ia m.items.length ic)
  have hCy := put5_calm hC1.out (b := w.heap.size) (Nat.le_refl _) (.int .i64 m.told) (.bool m.over) (.slice na m.nodes.length nc) (.int .u64 m.rest) (.slice ia m.items.length ic)
  obtain ⟨hny, hiy⟩ := hold_put (d0 := .int .i64 m.told) (d1 := .bool m.over) (d2 := .slice na m.nodes.length nc) (d3 := .int .u64 m.rest) (d4 := .slice ia m.items.length ic) hrow hX1.out
  clear hrow hB1 hm0 b0 b1 b2 b3 b4 f0 f1 f2 f3 f4
  obtain ⟨⟨b0, b1, b2, b3, b4⟩, f0, f1, f2, f3, f4⟩ := box5f hX1.out
  unfold put5 at hXy hCy hny hiy
  generalize hwy : ((((w1.setCell ⟨w.heap.size, 0, none⟩ (.int .i64 m.told)).setCell ⟨w.heap.size, 1, none⟩ (.bool m.over)).setCell ⟨w.heap.size, 2, none⟩ (.slice na m.nodes.length nc)).setCell ⟨w.heap.size, 3, none⟩ (.int .u64 m.rest)).setCell ⟨w.heap.size, 4, none⟩ (.slice ia m.items.length ic) = wy at *
  replace hwy := hidden hwy
  replace hXy := hidden hXy
  replace hCy := hidden hCy
  replace hny := hidden hny
  replace hiy := hidden hiy
  have hmark : ∀ x, GoX.Calm wy x → Calls Try.prog 4 #[.agg #[.int .i64 m.told, .bool m.over, .slice na m.nodes.length nc, .int .u64 m.rest, .slice ia m.items.length ic]] x fun e w' => ∃ na' nc' ia' ic', e = .returned (.agg #[.int .i64 m.told, .bool m.over, .slice na' m.nodes.length nc', .int .u64 m.rest, .slice ia' m.items.length ic']) ∧ Hid (Holds w' (.slice na' m.nodes.length nc') (m.nodes.map (Value.int .i64))) ∧ GoX.Calm x w' := fun x h =>
    (markS_c m na nc ia ic x (hny.out.calm h) (hiy.out.calm h) (by have := hcut.out.nodes; omega) (by have := hcut.out.items; omega) (fun y hy => by have := hcut.out.its y hy; omega)).mono fun e w' ⟨a, b, c, d, he, h1, hB⟩ => by
      rw [hcut.out.few] at he h1
      exact ⟨a, b, c, d, he, (hold_of h1).1, .of_below hB⟩
  have hnext : ∀ x na' nc' ia' ic', Holds x (.slice na' m.nodes.length nc') (m.nodes.map (Value.int .i64)) → Calls Try.prog 5 #[.pointer none, .agg #[.int .i64 m.told, .bool m.over, .slice na' m.nodes.length nc', .int .u64 m.rest, .slice ia' m.items.length ic']] x fun e w' => e = .returned (.tuple #[.agg #[.slice none 0 0, .int .i64 0, .int .u64 0], mkS (nextM m) none 0 none 0, .bool false]) ∧ GoX.Calm x w' :=
    fun x na' nc' ia' ic' h => next_c hN m na' nc' ia' ic' x (by have := hcut.out.nodes; omega) h
  have hfits : ∀ x na' nc' ia' ic', Holds x (.slice na' m.nodes.length nc') (m.nodes.map (Value.int .i64)) → Calls Try.prog 8 #[.pointer none, .agg #[.int .i64 m.told, .bool m.over, .slice na' m.nodes.length nc', .int .u64 m.rest, .slice ia' m.items.length ic']] x fun e w' => e = .returned (.bool (goodM m && decide (m.nodes.length = 0))) ∧ GoX.Calm x w' :=
    fun x na' nc' ia' ic' h => fits_c hN m na' nc' ia' ic' x (by have := hcut.out.nodes; omega) h
  have hgood : ∀ x, GoX.Calm wy x → Calls Try.prog 6 #[.agg #[.int .i64 m.told, .bool m.over, .slice na m.nodes.length nc, .int .u64 m.rest, .slice ia m.items.length ic]] x fun e w' => e = .returned (.bool (goodM m)) ∧ GoX.Calm x w' := fun x h =>
    (rgood_c m na nc ia ic x (by have := hcut.out.nodes; omega) hcut.out.rest (hny.out.calm h)).mono fun e w' ⟨he, hB⟩ => ⟨he, .of_below hB⟩
  have hsame : ∀ x, Calls Try.prog 7 #[mkS (nextM m) none 0 none 0, mkS (nextM m) none 0 none 0] x fun e w' => e = .returned (.bool true) ∧ GoX.Calm x w' := fun x => by
    have hl : (nextM m).nodes = [] := by unfold nextM noMk; split <;> rfl
    have hz : (nextM m).nodes.length = 0 := by rw [hl]; rfl
    have hv : Holds x (.slice none (nextM m).nodes.length 0) ((nextM m).nodes.map (Value.int .i64)) := by rw [hl]; exact ⟨none, 0, rfl, .inl rfl⟩
    refine (rsamem_c (nextM m) (nextM m) none none 0 0 none none 0 0 x (by omega) (by omega) hv hv).mono fun e w' ⟨he, hB⟩ => ⟨?_, .of_below hB⟩
    rw [he, sameM_self]
  have hE : Hid (nextM m = if goodM m && decide (m.nodes.length = 0) then ⟨m.told, true, [], 0, []⟩ else noMk) := hidden rfl
  have hni : Hid ((nextM m).nodes.length = 0 ∧ (nextM m).items.length = 0) := by
    show _ ∧ _
    unfold nextM noMk; split <;> exact ⟨rfl, rfl⟩
  clear hN
  generalize nextM m = nm at *
  generalize hG : goodM m = G at *
  replace hG := hidden hG
  unfold mkS at hnext hsame
  rw [hni.out.1, hni.out.2] at hnext hsame
  go_wp2_with fail
  rw [hwy.out]
  have hmk1 := hmark wy (GoX.Calm.refl _)
  clear b0 b1 b2 b3 b4 f0 f1 f2 f3 f4
  obtain ⟨⟨b0, b1, b2, b3, b4⟩, -⟩ := box5f hXy.out
  go_wp2_with fail
  refine hmk1.mono ?_
  rintro e w2 ⟨na2, nc2, ia2, ic2, rfl, hn2, hD2⟩
  have hnx := hnext w2 na2 nc2 ia2 ic2 hn2.out
  have hDy2 := hidden hD2
  clear hmk1 hnext hD2 hn2 b0 b1 b2 b3 b4
  go_wp2_with fail
  refine hnx.mono ?_
  rintro e w3 ⟨rfl, hD3⟩
  have hDy3 := hidden (hDy2.out.trans hD3)
  clear hnx hD3 hDy2
  obtain ⟨w6, hw6⟩ : ∃ w6, w6 = ((w3.alloc (.cells #[.slice none 0 0, .int .i64 0, .int .u64 0] 29)).alloc (.cells #[.int .i64 nm.told, .bool nm.over, .slice none 0 0, .int .u64 nm.rest, .slice none 0 0] 26)).alloc (.cells #[.int .i64 0, .bool false, .slice none 0 0, .int .u64 0, .slice none 0 0] 26) := ⟨_, rfl⟩
  have hDy6 : Hid (GoX.Calm wy w6) := by rw [hw6]; exact hDy3.out.trans (((calm_alloc _ _).trans (calm_alloc _ _)).trans (calm_alloc _ _))
  have hNb : Hid (w6.heap[w3.heap.size + 1]? = some (.cells #[.int .i64 nm.told, .bool nm.over, .slice none 0 0, .int .u64 nm.rest, .slice none 0 0] 26)) := by
    rw [hw6]; exact (heap_alloc_old _ _ (by show _ < ((w3.heap.push _).push _).size; simp)).trans (heap2_new _ _ _)
  have hWb : Hid (w6.heap[w3.heap.size + 1 + 1]? = some (.cells #[.int .i64 0, .bool false, .slice none 0 0, .int .u64 0, .slice none 0 0] 26)) := by
    rw [hw6]
    show (((w3.heap.push _).push _).push _)[_]? = _
    rw [Array.getElem?_push, if_pos (by simp)]
  have hXz := hidden (calm_heap hDy6.out hXy.out)
  have hlt : Hid (w.heap.size < w3.heap.size) := (Array.getElem?_eq_some_iff.1 (calm_heap hDy3.out hXy.out)).1
  have hsy : Hid (wy.heap.size ≤ w3.heap.size) := hDy3.out.size
  have hg6 := hgood w6 hDy6.out
  obtain ⟨⟨b0, b1, b2, b3, b4⟩, -⟩ := box5f hXz.out
  rw [hw6] at b0 b1 b2 b3 b4
  replace hw6 := hidden hw6.symm
  go_wp2_with fail
  rw [hw6.out]
  refine hg6.mono ?_
  rintro e w7 ⟨rfl, hD7⟩
  have hDy7 := hidden (hDy6.out.trans hD7)
  have hX7 := hidden (calm_heap hD7 hXz.out)
  have hN7 := hidden (calm_heap hD7 hNb.out)
  have hW7 := hidden (calm_heap hD7 hWb.out)
  clear hg6 hD7 b0 b1 b2 b3 b4 hNb hWb hXz hDy6 hw6
  obtain ⟨⟨b0, b1, b2, b3, b4⟩, -⟩ := box5f hX7.out
  cases G with
  | false =>
    have hm : nm = noMk := hE.out
    have hW9 : Hid (w7.heap[w3.heap.size + 1 + 1]? = some (.cells #[.int .i64 nm.told, .bool nm.over, .slice none 0 0, .int .u64 nm.rest, .slice none 0 0] 26)) := by
      show _ = _
      rw [hm]; exact hW7.out
    clear hm hE
    have hCw : Hid (GoX.Calm w w7) := hCy.out.trans hDy7.out
    have k0 : GoX.Calm w7 w7.drew := GoX.Calm.of_below (Below.refl _ _).drew
    replace k0 := hidden k0
    clear b0 b1 b2 b3 b4
    obtain ⟨⟨b0, b1, b2, b3, b4⟩, -⟩ := box5f hX7.out
    obtain ⟨⟨c0, c1, c2, c3, c4⟩, -⟩ := box5f hN7.out
    obtain ⟨⟨d0, d1, d2, d3, d4⟩, -⟩ := box5f hW9.out
    go_wp2_with fail
    first
    | go_region_with (first
          | (go_at_call 7; refine (hsame _).mono ?_; rintro e z1 ⟨rfl, hD⟩
             have k1 : Hid (GoX.Calm w7 z1) := by first | exact k4.out.trans hD | exact k3.out.trans hD | exact k2.out.trans hD | exact k1.out.trans hD | exact k0.out.trans hD
             clear hD
             obtain ⟨⟨x10, x11, x12, x13, x14⟩, -⟩ := box5f (calm_heap k1.out hX7.out)
             obtain ⟨⟨y10, y11, y12, y13, y14⟩, -⟩ := box5f (calm_heap k1.out hN7.out)
             obtain ⟨⟨v10, v11, v12, v13, v14⟩, -⟩ := box5f (calm_heap k1.out hW9.out))
          | (go_at_call 4; refine (hmark _ (by first | exact hDy7.out.trans k4.out | exact hDy7.out.trans k3.out | exact hDy7.out.trans k2.out | exact hDy7.out.trans k1.out | exact hDy7.out.trans k0.out)).mono ?_; rintro e z2 ⟨na5, nc5, ia5, ic5, rfl, hn5, hD⟩
             have k2 : Hid (GoX.Calm w7 z2) := by first | exact k4.out.trans hD | exact k3.out.trans hD | exact k2.out.trans hD | exact k1.out.trans hD | exact k0.out.trans hD
             clear hD
             obtain ⟨⟨x20, x21, x22, x23, x24⟩, -⟩ := box5f (calm_heap k2.out hX7.out)
             obtain ⟨⟨y20, y21, y22, y23, y24⟩, -⟩ := box5f (calm_heap k2.out hN7.out)
             obtain ⟨⟨v20, v21, v22, v23, v24⟩, -⟩ := box5f (calm_heap k2.out hW9.out))
          | (go_at_call 8; refine (hfits _ na5 nc5 ia5 ic5 (by first | exact hn5.out | exact hn6.out)).mono ?_; rintro e z3 ⟨rfl, hD⟩
             have k3 : Hid (GoX.Calm w7 z3) := by first | exact k4.out.trans hD | exact k3.out.trans hD | exact k2.out.trans hD | exact k1.out.trans hD | exact k0.out.trans hD
             clear hD
             obtain ⟨⟨x30, x31, x32, x33, x34⟩, -⟩ := box5f (calm_heap k3.out hX7.out)
             obtain ⟨⟨y30, y31, y32, y33, y34⟩, -⟩ := box5f (calm_heap k3.out hN7.out)
             obtain ⟨⟨v30, v31, v32, v33, v34⟩, -⟩ := box5f (calm_heap k3.out hW9.out))
          | (go_at_call 6; refine (hgood _ (by first | exact hDy7.out.trans k4.out | exact hDy7.out.trans k3.out | exact hDy7.out.trans k2.out | exact hDy7.out.trans k1.out | exact hDy7.out.trans k0.out)).mono ?_; rintro e z4 ⟨rfl, hD⟩
             have k4 : Hid (GoX.Calm w7 z4) := by first | exact k4.out.trans hD | exact k3.out.trans hD | exact k2.out.trans hD | exact k1.out.trans hD | exact k0.out.trans hD
             clear hD
             obtain ⟨⟨x40, x41, x42, x43, x44⟩, -⟩ := box5f (calm_heap k4.out hX7.out)
             obtain ⟨⟨y40, y41, y42, y43, y44⟩, -⟩ := box5f (calm_heap k4.out hN7.out)
             obtain ⟨⟨v40, v41, v42, v43, v44⟩, -⟩ := box5f (calm_heap k4.out hW9.out))
          | (go_at_call 9; refine (hlv _).mono ?_; rintro e z5 ⟨rfl, hD⟩
             have k5 : Hid (GoX.Calm w7 z5) := by first | exact k4.out.trans hD | exact k3.out.trans hD
             clear hD
             obtain ⟨⟨x50, x51, x52, x53, x54⟩, -⟩ := box5f (calm_heap k5.out hX7.out)
             obtain ⟨⟨y50, y51, y52, y53, y54⟩, -⟩ := box5f (calm_heap k5.out hN7.out)
             obtain ⟨⟨v50, v51, v52, v53, v54⟩, -⟩ := box5f (calm_heap k5.out hW9.out)))
    | fail
    all_goals
      have hfin := hidden (hCw.out.trans k5.out)
      go_wp2
      go_ret
      exact ⟨by first | done | rfl | simp, hfin.out⟩
  | true =>
    by_cases h5 : m.nodes.length = 0
    · have hm : nm = ⟨m.told, true, [], 0, []⟩ := hE.out.trans (by rw [decide_eq_true h5]; rfl)
      have hq : Hid (decide (m.nodes.length = 0) = true) := decide_eq_true h5
      rw [hq.out] at hfits
      have hj5 : ((m.nodes.length : Int) == 0) = true := by simp [h5]
      replace h5 := hidden h5
      have n1 : w.heap.size ≠ w3.heap.size + 1 + 1 := by have := hlt.out; omega
      have n2 : w3.heap.size + 1 + 1 ≠ w.heap.size := n1.symm
      have n3 : w3.heap.size + 1 + 1 ≠ w3.heap.size + 1 := by omega
      obtain ⟨⟨d0, d1, d2, d3, d4⟩, g0, g1, g2, g3, g4⟩ := box5f hW7.out
      have hX8 := put5_oth hX7.out n2 (.int .i64 m.told) (.bool true) (.slice none 0 0) (.int .u64 0) (.slice none 0 0)
      have hN8 := put5_oth hN7.out n3 (.int .i64 m.told) (.bool true) (.slice none 0 0) (.int .u64 0) (.slice none 0 0)
      have hV8 := put5_at hW7.out (.int .i64 m.told) (.bool true) (.slice none 0 0) (.int .u64 0) (.slice none 0 0)
      have hD8 := put5_calm hDy7.out (b := w3.heap.size + 1 + 1) (by have := hsy.out; omega) (.int .i64 m.told) (.bool true) (.slice none 0 0) (.int .u64 0) (.slice none 0 0)
      unfold put5 at hX8 hN8 hV8 hD8
      generalize hw8 : ((((w7.setCell ⟨w3.heap.size + 1 + 1, 0, none⟩ (.int .i64 m.told)).setCell ⟨w3.heap.size + 1 + 1, 1, none⟩ (.bool true)).setCell ⟨w3.heap.size + 1 + 1, 2, none⟩ (.slice none 0 0)).setCell ⟨w3.heap.size + 1 + 1, 3, none⟩ (.int .u64 0)).setCell ⟨w3.heap.size + 1 + 1, 4, none⟩ (.slice none 0 0) = w8 at *
      replace hw8 := hidden hw8
      replace hX8 := hidden hX8
      replace hN8 := hidden hN8
      replace hV8 := hidden hV8
      replace hD8 := hidden hD8
      have hW9 : Hid (w8.heap[w3.heap.size + 1 + 1]? = some (.cells #[.int .i64 nm.told, .bool nm.over, .slice none 0 0, .int .u64 nm.rest, .slice none 0 0] 26)) := by
        show _ = _
        rw [hm]; exact hV8.out
      clear hm hE
      go_wp2_with fail
      rw [hw8.out]
      clear n1 n2 n3 d0 d1 d2 d3 d4 g0 g1 g2 g3 g4
      have hCw : Hid (GoX.Calm w w8) := hCy.out.trans hD8.out
      have k0 : GoX.Calm w8 w8.drew := GoX.Calm.of_below (Below.refl _ _).drew
      replace k0 := hidden k0
      clear b0 b1 b2 b3 b4
      obtain ⟨⟨b0, b1, b2, b3, b4⟩, -⟩ := box5f hX8.out
      obtain ⟨⟨c0, c1, c2, c3, c4⟩, -⟩ := box5f hN8.out
      obtain ⟨⟨d0, d1, d2, d3, d4⟩, -⟩ := box5f hW9.out
      go_wp2_with fail
      go_region_held3 (fun x => x.cell? ⟨w.heap.size, 0, none⟩ = some (.int .i64 m.told) ∧ x.cell? ⟨w.heap.size, 1, none⟩ = some (.bool m.over) ∧ x.cell? ⟨w.heap.size, 2, none⟩ = some (.slice na m.nodes.length nc) ∧ x.cell? ⟨w.heap.size, 3, none⟩ = some (.int .u64 m.rest) ∧ x.cell? ⟨w.heap.size, 4, none⟩ = some (.slice ia m.items.length ic) ∧
          x.cell? ⟨w3.heap.size + 1, 0, none⟩ = some (.int .i64 nm.told) ∧ x.cell? ⟨w3.heap.size + 1, 1, none⟩ = some (.bool nm.over) ∧ x.cell? ⟨w3.heap.size + 1, 2, none⟩ = some (.slice none 0 0) ∧ x.cell? ⟨w3.heap.size + 1, 3, none⟩ = some (.int .u64 nm.rest) ∧ x.cell? ⟨w3.heap.size + 1, 4, none⟩ = some (.slice none 0 0) ∧
          x.cell? ⟨w3.heap.size + 1 + 1, 0, none⟩ = some (.int .i64 nm.told) ∧ x.cell? ⟨w3.heap.size + 1 + 1, 1, none⟩ = some (.bool nm.over) ∧ x.cell? ⟨w3.heap.size + 1 + 1, 2, none⟩ = some (.slice none 0 0) ∧ x.cell? ⟨w3.heap.size + 1 + 1, 3, none⟩ = some (.int .u64 nm.rest) ∧ x.cell? ⟨w3.heap.size + 1 + 1, 4, none⟩ = some (.slice none 0 0)) (go_keep)
        (first
          | (go_at_call 7; refine (hsame _).mono ?_; rintro e z1 ⟨rfl, hD⟩
             have k1 : Hid (GoX.Calm w8 z1) := by first | exact k4.out.trans hD | exact k3.out.trans hD | exact k2.out.trans hD | exact k1.out.trans hD | exact k0.out.trans hD
             clear hD
             obtain ⟨⟨x10, x11, x12, x13, x14⟩, -⟩ := box5f (calm_heap k1.out hX8.out)
             obtain ⟨⟨y10, y11, y12, y13, y14⟩, -⟩ := box5f (calm_heap k1.out hN8.out)
             obtain ⟨⟨v10, v11, v12, v13, v14⟩, -⟩ := box5f (calm_heap k1.out hW9.out))
          | (go_at_call 4; refine (hmark _ (by first | exact hD8.out.trans k4.out | exact hD8.out.trans k3.out | exact hD8.out.trans k2.out | exact hD8.out.trans k1.out | exact hD8.out.trans k0.out)).mono ?_; rintro e z2 ⟨na5, nc5, ia5, ic5, rfl, hn5, hD⟩
             have k2 : Hid (GoX.Calm w8 z2) := by first | exact k4.out.trans hD | exact k3.out.trans hD | exact k2.out.trans hD | exact k1.out.trans hD | exact k0.out.trans hD
             clear hD
             obtain ⟨⟨x20, x21, x22, x23, x24⟩, -⟩ := box5f (calm_heap k2.out hX8.out)
             obtain ⟨⟨y20, y21, y22, y23, y24⟩, -⟩ := box5f (calm_heap k2.out hN8.out)
             obtain ⟨⟨v20, v21, v22, v23, v24⟩, -⟩ := box5f (calm_heap k2.out hW9.out))
          | (go_at_call 8; refine (hfits _ na5 nc5 ia5 ic5 (by first | exact hn5.out | exact hn6.out)).mono ?_; rintro e z3 ⟨rfl, hD⟩
             have k3 : Hid (GoX.Calm w8 z3) := by first | exact k4.out.trans hD | exact k3.out.trans hD | exact k2.out.trans hD | exact k1.out.trans hD | exact k0.out.trans hD
             clear hD
             obtain ⟨⟨x30, x31, x32, x33, x34⟩, -⟩ := box5f (calm_heap k3.out hX8.out)
             obtain ⟨⟨y30, y31, y32, y33, y34⟩, -⟩ := box5f (calm_heap k3.out hN8.out)
             obtain ⟨⟨v30, v31, v32, v33, v34⟩, -⟩ := box5f (calm_heap k3.out hW9.out))
          | (go_at_call 6; refine (hgood _ (by first | exact hD8.out.trans k4.out | exact hD8.out.trans k3.out | exact hD8.out.trans k2.out | exact hD8.out.trans k1.out | exact hD8.out.trans k0.out)).mono ?_; rintro e z4 ⟨rfl, hD⟩
             have k4 : Hid (GoX.Calm w8 z4) := by first | exact k4.out.trans hD | exact k3.out.trans hD | exact k2.out.trans hD | exact k1.out.trans hD | exact k0.out.trans hD
             clear hD
             obtain ⟨⟨x40, x41, x42, x43, x44⟩, -⟩ := box5f (calm_heap k4.out hX8.out)
             obtain ⟨⟨y40, y41, y42, y43, y44⟩, -⟩ := box5f (calm_heap k4.out hN8.out)
             obtain ⟨⟨v40, v41, v42, v43, v44⟩, -⟩ := box5f (calm_heap k4.out hW9.out))
          | (go_at_call 9; refine (hlv _).mono ?_; rintro e z5 ⟨rfl, hD⟩
             have k5 : Hid (GoX.Calm w8 z5) := by first | exact k4.out.trans hD | exact k3.out.trans hD
             clear hD
             obtain ⟨⟨x50, x51, x52, x53, x54⟩, -⟩ := box5f (calm_heap k5.out hX8.out)
             obtain ⟨⟨y50, y51, y52, y53, y54⟩, -⟩ := box5f (calm_heap k5.out hN8.out)
             obtain ⟨⟨v50, v51, v52, v53, v54⟩, -⟩ := box5f (calm_heap k5.out hW9.out)))
      all_goals
        have hfin := hidden (hCw.out.trans k5.out)
        go_wp2
        go_ret
        exact ⟨by first | done | rfl | simp, hfin.out⟩
    · have hm : nm = noMk := hE.out.trans (by rw [decide_eq_false h5]; rfl)
      have hq : Hid (decide (m.nodes.length = 0) = false) := decide_eq_false h5
      rw [hq.out] at hfits
      have hj5 : ((m.nodes.length : Int) == 0) = false := beq_eq_false_iff_ne.2 (by omega)
      replace h5 := hidden h5
      have hW9 : Hid (w7.heap[w3.heap.size + 1 + 1]? = some (.cells #[.int .i64 nm.told, .bool nm.over, .slice none 0 0, .int .u64 nm.rest, .slice none 0 0] 26)) := by
        show _ = _
        rw [hm]; exact hW7.out
      clear hm hE
      have hCw : Hid (GoX.Calm w w7) := hCy.out.trans hDy7.out
      have k0 : GoX.Calm w7 w7.drew := GoX.Calm.of_below (Below.refl _ _).drew
      replace k0 := hidden k0
      clear b0 b1 b2 b3 b4
      obtain ⟨⟨b0, b1, b2, b3, b4⟩, -⟩ := box5f hX7.out
      obtain ⟨⟨c0, c1, c2, c3, c4⟩, -⟩ := box5f hN7.out
      obtain ⟨⟨d0, d1, d2, d3, d4⟩, -⟩ := box5f hW9.out
      go_wp2_with fail
      go_region_held3 (fun x => x.cell? ⟨w.heap.size, 0, none⟩ = some (.int .i64 m.told) ∧ x.cell? ⟨w.heap.size, 1, none⟩ = some (.bool m.over) ∧ x.cell? ⟨w.heap.size, 2, none⟩ = some (.slice na m.nodes.length nc) ∧ x.cell? ⟨w.heap.size, 3, none⟩ = some (.int .u64 m.rest) ∧ x.cell? ⟨w.heap.size, 4, none⟩ = some (.slice ia m.items.length ic) ∧
          x.cell? ⟨w3.heap.size + 1, 0, none⟩ = some (.int .i64 nm.told) ∧ x.cell? ⟨w3.heap.size + 1, 1, none⟩ = some (.bool nm.over) ∧ x.cell? ⟨w3.heap.size + 1, 2, none⟩ = some (.slice none 0 0) ∧ x.cell? ⟨w3.heap.size + 1, 3, none⟩ = some (.int .u64 nm.rest) ∧ x.cell? ⟨w3.heap.size + 1, 4, none⟩ = some (.slice none 0 0) ∧
          x.cell? ⟨w3.heap.size + 1 + 1, 0, none⟩ = some (.int .i64 nm.told) ∧ x.cell? ⟨w3.heap.size + 1 + 1, 1, none⟩ = some (.bool nm.over) ∧ x.cell? ⟨w3.heap.size + 1 + 1, 2, none⟩ = some (.slice none 0 0) ∧ x.cell? ⟨w3.heap.size + 1 + 1, 3, none⟩ = some (.int .u64 nm.rest) ∧ x.cell? ⟨w3.heap.size + 1 + 1, 4, none⟩ = some (.slice none 0 0)) (go_keep)
        (first
          | (go_at_call 7; refine (hsame _).mono ?_; rintro e z1 ⟨rfl, hD⟩
             have k1 : Hid (GoX.Calm w7 z1) := by first | exact k4.out.trans hD | exact k3.out.trans hD | exact k2.out.trans hD | exact k1.out.trans hD | exact k0.out.trans hD
             clear hD
             obtain ⟨⟨x10, x11, x12, x13, x14⟩, -⟩ := box5f (calm_heap k1.out hX7.out)
             obtain ⟨⟨y10, y11, y12, y13, y14⟩, -⟩ := box5f (calm_heap k1.out hN7.out)
             obtain ⟨⟨v10, v11, v12, v13, v14⟩, -⟩ := box5f (calm_heap k1.out hW9.out))
          | (go_at_call 4; refine (hmark _ (by first | exact hDy7.out.trans k4.out | exact hDy7.out.trans k3.out | exact hDy7.out.trans k2.out | exact hDy7.out.trans k1.out | exact hDy7.out.trans k0.out)).mono ?_; rintro e z2 ⟨na5, nc5, ia5, ic5, rfl, hn5, hD⟩
             have k2 : Hid (GoX.Calm w7 z2) := by first | exact k4.out.trans hD | exact k3.out.trans hD | exact k2.out.trans hD | exact k1.out.trans hD | exact k0.out.trans hD
             clear hD
             obtain ⟨⟨x20, x21, x22, x23, x24⟩, -⟩ := box5f (calm_heap k2.out hX7.out)
             obtain ⟨⟨y20, y21, y22, y23, y24⟩, -⟩ := box5f (calm_heap k2.out hN7.out)
             obtain ⟨⟨v20, v21, v22, v23, v24⟩, -⟩ := box5f (calm_heap k2.out hW9.out))
          | (go_at_call 8; refine (hfits _ na5 nc5 ia5 ic5 (by first | exact hn5.out | exact hn6.out)).mono ?_; rintro e z3 ⟨rfl, hD⟩
             have k3 : Hid (GoX.Calm w7 z3) := by first | exact k4.out.trans hD | exact k3.out.trans hD | exact k2.out.trans hD | exact k1.out.trans hD | exact k0.out.trans hD
             clear hD
             obtain ⟨⟨x30, x31, x32, x33, x34⟩, -⟩ := box5f (calm_heap k3.out hX7.out)
             obtain ⟨⟨y30, y31, y32, y33, y34⟩, -⟩ := box5f (calm_heap k3.out hN7.out)
             obtain ⟨⟨v30, v31, v32, v33, v34⟩, -⟩ := box5f (calm_heap k3.out hW9.out))
          | (go_at_call 6; refine (hgood _ (by first | exact hDy7.out.trans k4.out | exact hDy7.out.trans k3.out | exact hDy7.out.trans k2.out | exact hDy7.out.trans k1.out | exact hDy7.out.trans k0.out)).mono ?_; rintro e z4 ⟨rfl, hD⟩
             have k4 : Hid (GoX.Calm w7 z4) := by first | exact k4.out.trans hD | exact k3.out.trans hD | exact k2.out.trans hD | exact k1.out.trans hD | exact k0.out.trans hD
             clear hD
             obtain ⟨⟨x40, x41, x42, x43, x44⟩, -⟩ := box5f (calm_heap k4.out hX7.out)
             obtain ⟨⟨y40, y41, y42, y43, y44⟩, -⟩ := box5f (calm_heap k4.out hN7.out)
             obtain ⟨⟨v40, v41, v42, v43, v44⟩, -⟩ := box5f (calm_heap k4.out hW9.out))
          | (go_at_call 9; refine (hlv _).mono ?_; rintro e z5 ⟨rfl, hD⟩
             have k5 : Hid (GoX.Calm w7 z5) := by first | exact k4.out.trans hD | exact k3.out.trans hD
             clear hD
             obtain ⟨⟨x50, x51, x52, x53, x54⟩, -⟩ := box5f (calm_heap k5.out hX7.out)
             obtain ⟨⟨y50, y51, y52, y53, y54⟩, -⟩ := box5f (calm_heap k5.out hN7.out)
             obtain ⟨⟨v50, v51, v52, v53, v54⟩, -⟩ := box5f (calm_heap k5.out hW9.out)))
      all_goals
        have hfin := hidden (hCw.out.trans k5.out)
        go_wp2
        go_ret
        exact ⟨by first | done | rfl | simp, hfin.out⟩
end Go.Proofs.Ytnecfgmbfkocnaf
