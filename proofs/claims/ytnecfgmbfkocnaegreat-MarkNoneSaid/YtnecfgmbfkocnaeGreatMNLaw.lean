/-
  WHAT IS TOLD OF MARKS OF NO COSTS: the law's own walk.
-/
import Derived.Test.YtnecfgmbfkocnaeGreatMNone2
import Derived.Test.YtnecfgmbfkocnaeGreatMGetE
import Derived.Test.YtnecfgmbfkocnaeGreatDesc
import Derived.BigGuard
namespace Go.Proofs.YtnecfgmbfkocnaeGreat
open Go.ChangeShapes Go.WideShapes Go.ChangeAt Go.RowKit

theorem mget_c (s : ByteArray) (w : World) (hs : s.size ≤ 40) : Calls Tryz.prog 7 #[.pointer none, .string s] w fun e w' => e = .returned (.tuple #[noMark, .int .i64 12]) ∧ Below w.heap.size w w' := by
  have hL : s.data.toList.length ≤ 1000 := by
    have : s.data.toList.length = s.size := by simp
    omega
  have e : bytesOf s.data.toList = s := bytesOf_data s
  rw [← e]
  by_cases h0 : (allS s.data.toList).2 = 0
  · by_cases h1 : 3 ≤ (allS s.data.toList).1.length
    · by_cases h2 : (allS s.data.toList).1.getD 0 0 = 2
      · by_cases h3 : (allS s.data.toList).1.getD 1 0 ≤ 9007199254740992
        · by_cases h4 : (allS s.data.toList).1.getD 2 0 ≤ 4000
          · by_cases h5 : (allS s.data.toList).1.getD 2 0 = 0
            · exact mget_none _ w hL h0 h1 h2 h3 h5
            · exact mget_items _ w hL h0 h1 h2 h3 h4 (by omega)
          · exact mget_many _ w hL h0 h1 h2 h3 (by omega)
        · exact mget_told _ w hL h0 h1 h2 (by omega)
      · exact mget_kind _ w hL h0 h1 h2
    · exact mget_short _ w hL h0 (by omega)
  · exact mget_bad _ w hL h0
theorem few_nodes (m : Mk) : m.few.nodes.length ≤ 14 := by simp [Mk.few]; omega
theorem few_items (m : Mk) : m.few.items.length ≤ 4 := by simp [Mk.few]; omega
theorem few_its (m : Mk) : ∀ y ∈ m.few.items, y.l.length ≤ 5 := fun y hy => by
  obtain ⟨z, _, rfl⟩ := List.mem_map.1 hy
  simp [It.few]; omega
theorem its_empty {ti : TypeId} {x : World} {xs : List Value} {ys : List It} (h : ItsIn ti x xs ys) : xs.length = ys.length * 4 := h.len
/-- A mark copied: its rows lie somewhere. -/
theorem markS_c (m : Mk) (na : Option Addr) (nc : Nat) (ia : Option Addr) (ic : Nat) (w : World) (hn : Holds w (.slice na m.nodes.length nc) (m.nodes.map (Value.int .i64))) (hi : HoldsIL w (.slice ia m.items.length ic) m.items)
    (hzn : m.nodes.length ≤ 9223372036854775807) (hzi : m.items.length ≤ 9223372036854775807) (hzz : ∀ y ∈ m.items, y.l.length ≤ 9223372036854775807) :
    Calls Tryz.prog 4 #[mkS m na nc ia ic] w fun e w' => ∃ na' nc' ia' ic', e = .returned (mkS m.few na' nc' ia' ic') ∧
      (w'.ownsRow 0 3 1 (.slice na' m.few.nodes.length nc') m.few.nodes.length (m.few.nodes.map (Value.int .i64)) ∧
      ∃ xs, w'.ownsRow 0 39 4 (.slice ia' m.few.items.length ic') m.few.items.length xs ∧ ItsIn 3 w' xs m.few.items) ∧ Below w.heap.size w w' :=
  (mark_c m _ _ w hn hi (by omega) (by omega) (fun y hy => by have := hzz y hy; omega)).mono fun e w' ⟨nv, iv, he, h1, ⟨xs, h2, h3⟩, hB⟩ => by
    obtain ⟨a, c, rfl⟩ := own_shape h1
    obtain ⟨b, d, rfl⟩ := own_shape h2
    exact ⟨a, c, b, d, he, ⟨h1, xs, h2, h3⟩, hB⟩
theorem hold_of {x : World} {m : Mk} {na ia : Option Addr} {nc ic : Nat} (h : x.ownsRow 0 3 1 (.slice na m.nodes.length nc) m.nodes.length (m.nodes.map (Value.int .i64)) ∧
      ∃ xs, x.ownsRow 0 39 4 (.slice ia m.items.length ic) m.items.length xs ∧ ItsIn 3 x xs m.items) :
    Holds x (.slice na m.nodes.length nc) (m.nodes.map (Value.int .i64)) ∧ HoldsIL x (.slice ia m.items.length ic) m.items := by
  obtain ⟨h1, xs, h2, h3⟩ := h
  exact ⟨holds_of_owns h1, holdsIL_of h2 h3 rfl⟩
theorem hold_put {x : World} {m : Mk} {na ia : Option Addr} {nc ic b : Nat} {c0 c1 c2 c3 c4 d0 d1 d2 d3 d4 : Value} (h : x.ownsRow 0 3 1 (.slice na m.nodes.length nc) m.nodes.length (m.nodes.map (Value.int .i64)) ∧
      ∃ xs, x.ownsRow 0 39 4 (.slice ia m.items.length ic) m.items.length xs ∧ ItsIn 3 x xs m.items) (hb : x.heap[b]? = some (.cells #[c0, c1, c2, c3, c4] 26)) :
    Holds (put5 x b d0 d1 d2 d3 d4) (.slice na m.nodes.length nc) (m.nodes.map (Value.int .i64)) ∧ HoldsIL (put5 x b d0 d1 d2 d3 d4) (.slice ia m.items.length ic) m.items := by
  have ht : 3 ≠ 26 := by decide
  have ht2 : 39 ≠ 26 := by decide
  obtain ⟨h1, xs, h2, h3⟩ := h
  have b1 := set_heap hb 0 d0
  have b2 := set_heap b1 1 d1
  have b3 := set_heap b2 2 d2
  have b4 := set_heap b3 3 d3
  exact hold_of ⟨own_set (own_set (own_set (own_set (own_set h1 hb ht _ _) b1 ht _ _) b2 ht _ _) b3 ht _ _) b4 ht _ _, xs,
    own_set (own_set (own_set (own_set (own_set h2 hb ht2 _ _) b1 ht2 _ _) b2 ht2 _ _) b3 ht2 _ _) b4 ht2 _ _,
    ((((h3.setBox hb ht _ _).setBox b1 ht _ _).setBox b2 ht _ _).setBox b3 ht _ _).setBox b4 ht _ _⟩
/-- What the rest of the law stands on: a mark that is as cut as it may be. -/
structure Cut (m : Mk) : Prop where
  nodes : m.nodes.length ≤ 14
  items : m.items.length ≤ 4
  its : ∀ y ∈ m.items, y.l.length ≤ 5
/-- What the runs say. -/
structure MNones : Prop where
  start : ∀ w, Calls Tryz.prog 12 #[.pointer none] w fun e w' => (∃ a b c d, e = .returned (.agg #[a, .bool true, b, c, d])) ∧ GoX.Calm w w'
  same : ∀ w, Calls Tryz.prog 10 #[.agg #[.int .i64 0, .bool false, .slice none 0 0, .int .u64 0, .slice none 0 0], .agg #[.int .i64 0, .bool false, .slice none 0 0, .int .u64 0, .slice none 0 0]] w fun e w' => e = .returned (.bool true) ∧ GoX.Calm w w'
  lives : ∀ w, Calls Tryz.prog 13 #[] w fun e w' => e = .returned (.bool true) ∧ GoX.Calm w w'
set_option maxHeartbeats 6400000 in
set_option maxRecDepth 100000 in
theorem law_c (hN : MNones) (M : Mk) (nv iv : Value) (s : ByteArray) (w : World)
    (hn : Holds w nv (M.nodes.map (Value.int .i64))) (hi : HoldsIL w iv M.items) (hzn : M.nodes.length ≤ 9223372036854775807) (hzi : M.items.length ≤ 9223372036854775807) (hzz : ∀ y ∈ M.items, y.l.length ≤ 9223372036854775807) :
    Calls Tryz.prog 3 #[mkV M nv iv, .string s] w fun e w' => e = .returned (.bool true) ∧ GoX.Calm w w' := by
  obtain ⟨ja, jc, rfl, -⟩ := id hn
  obtain ⟨ka, kc, rfl, -⟩ := id hi
  simp only [List.length_map] at hn ⊢
  have hcut : Hid (Cut M.few) := ⟨few_nodes M, few_items M, few_its M⟩
  have hX0 := hidden (heap_alloc_new w (.cells #[.int .i64 M.told, .bool M.over, .slice ja M.nodes.length jc, .int .u64 M.rest, .slice ka M.items.length kc] 26))
  have hC0 : Hid (GoX.Calm w (w.alloc (.cells #[.int .i64 M.told, .bool M.over, .slice ja M.nodes.length jc, .int .u64 M.rest, .slice ka M.items.length kc] 26))) := calm_alloc _ _
  have hm0 := markS_c M ja jc ka kc _ (hn.calm hC0.out) (hi.calm hC0.out) hzn hzi hzz
  have hcs := fun x => cut_c s 40 x (by decide)
  have hsz := hidden (cutB_size s 40)
  have hget := fun x => mget_c (cutB s 40) x hsz.out
  generalize cutB s 40 = s2 at *
  generalize M.few = m at *
  unfold mkV
  unfold mkS at hm0
  unfold noMark at hget
  clear hn hi hzn hzi hzz
  generalize hwe : w.alloc (.cells #[.int .i64 M.told, .bool M.over, .slice ja M.nodes.length jc, .int .u64 M.rest, .slice ka M.items.length kc] 26) = wx at *
  replace hwe := hidden hwe
  obtain ⟨⟨b0, b1, b2, b3, b4⟩, f0, f1, f2, f3, f4⟩ := box5f hX0.out
  go_enter Tryz.func3, Tryz.ntmps3
  go_wp2_with fail
  rw [hwe.out]
  go_wp2_with fail
  refine hm0.mono ?_
  rintro e w1 ⟨na, nc, ia, ic, rfl, hrow, hB1⟩
  have hX1 := hidden (calm_heap (GoX.Calm.of_below hB1) hX0.out)
  have hC1 := hidden (hC0.out.trans (GoX.Calm.of_below hB1))
  have hXy := put5_at hX1.out (.int .i64 m.told) (.bool m.over) (.slice na m.nodes.length nc) (.int .u64 m.rest) (.slice ia m.items.length ic)
  have hCy := put5_calm hC1.out (b := w.heap.size) (Nat.le_refl _) (.int .i64 m.told) (.bool m.over) (.slice na m.nodes.length nc) (.int .u64 m.rest) (.slice ia m.items.length ic)
  obtain ⟨hny, hiy⟩ := hold_put (d0 := .int .i64 m.told) (d1 := .bool m.over) (d2 := .slice na m.nodes.length nc) (d3 := .int .u64 m.rest) (d4 := .slice ia m.items.length ic) hrow hX1.out
  clear hrow hB1 hm0 b0 b1 b2 b3 b4 f0 f1 f2 f3 f4
  obtain ⟨⟨b0, b1, b2, b3, b4⟩, f0, f1, f2, f3, f4⟩ := box5f hX1.out
  unfold put5 at hXy hCy hny hiy
  generalize hwy : ((((w1.setCell ⟨w.heap.size, 0, none⟩ (.int .i64 m.told)).setCell ⟨w.heap.size, 1, none⟩ (.bool m.over)).setCell ⟨w.heap.size, 2, none⟩ (.slice na m.nodes.length nc)).setCell ⟨w.heap.size, 3, none⟩ (.int .u64 m.rest)).setCell ⟨w.heap.size, 4, none⟩ (.slice ia m.items.length ic) = wy at *
  replace hwy := hidden hwy
  replace hXy := hidden hXy
  replace hCy := hidden hCy
  replace hny := hidden hny
  replace hiy := hidden hiy
  have hmark : ∀ x, GoX.Calm wy x → Calls Tryz.prog 4 #[.agg #[.int .i64 m.told, .bool m.over, .slice na m.nodes.length nc, .int .u64 m.rest, .slice ia m.items.length ic]] x fun e w' => ∃ na' nc' ia' ic', e = .returned (mkS m.few na' nc' ia' ic') ∧ GoX.Calm x w' := fun x h =>
    (markS_c m na nc ia ic x (hny.out.calm h) (hiy.out.calm h) (by have := hcut.out.nodes; omega) (by have := hcut.out.items; omega) (fun y hy => by have := hcut.out.its y hy; omega)).mono fun e w' ⟨a, b, c, d, he, h1, hB⟩ => ⟨a, b, c, d, he, .of_below hB⟩
  have hput : ∀ x na' nc' ia' ic', Calls Tryz.prog 6 #[.pointer none, mkS m.few na' nc' ia' ic'] x fun e w' => e = .returned (.tuple #[.string ⟨#[]⟩, .int .i64 1]) ∧ GoX.Calm x w' := fun x a b c d => (mput_c m.few a b c d x).mono fun e w' ⟨he, hB⟩ => ⟨he, .of_below hB⟩
  have hnext := fun x a b c d => mnext_c m.few a b c d x
  have hgood : ∀ x, Calls Tryz.prog 11 #[.pointer none, .agg #[.int .i64 m.told, .bool m.over, .slice na m.nodes.length nc, .int .u64 m.rest, .slice ia m.items.length ic]] x fun e w' => e = .returned (.bool false) ∧ GoX.Calm x w' := fun x => (mgood_c m na nc ia ic x).mono fun e w' ⟨he, hB⟩ => ⟨he, .of_below hB⟩
  have hitem := fun x => mitem_c 0 none 0 0 x
  obtain ⟨hst, hsm, hlv⟩ := hN
  unfold noItem at hitem
  unfold mkS at hmark hput hnext
  generalize m.few = m2 at *
  go_wp2_with (first | (go_at_call 5; refine (hcs _).mono ?_; rintro e _ ⟨rfl, rfl⟩) | fail)
  rw [hwy.out]
  clear b0 b1 b2 b3 b4 f0 f1 f2 f3 f4
  have k0 : Hid (GoX.Calm wy wy) := GoX.Calm.refl _
  obtain ⟨⟨b0, b1, b2, b3, b4⟩, -⟩ := box5f hXy.out
  have hmk := hmark wy k0.out
  go_wp2_with fail
  refine hmk.mono ?_
  rintro e w2 ⟨n1, n2, n3, n4, rfl, hD⟩
  have k2 : Hid (GoX.Calm wy w2) := hD
  have hp := hput w2 n1 n2 n3 n4
  clear hD hput hmk k0 b0 b1 b2 b3 b4
  go_wp2_with fail
  refine hp.mono ?_
  rintro e w3 ⟨rfl, hD⟩
  have k3 : Hid (GoX.Calm wy w3) := k2.out.trans hD
  clear hD k2 hp
  go_wp2_with fail
  refine (hget _).mono ?_
  rintro e w4 ⟨rfl, hD⟩
  have k4 : Hid (GoX.Calm wy (w4.alloc (.cells #[.int .i64 0, .bool false, .slice none 0 0, .int .u64 0, .slice none 0 0] 26))) := (k3.out.trans (.of_below hD)).trans (calm_alloc _ _)
  clear hD k3 hget
  obtain ⟨⟨b0, b1, b2, b3, b4⟩, -⟩ := box5f (calm_heap k4.out hXy.out)
  have hmk := hmark _ k4.out
  go_wp2_with fail
  refine hmk.mono ?_
  rintro e w5 ⟨n5, n6, n7, n8, rfl, hD⟩
  have k5 : Hid (GoX.Calm wy w5) := k4.out.trans hD
  have hnx := hnext w5 n5 n6 n7 n8
  clear hD hnext hmk k4 hmark b0 b1 b2 b3 b4
  go_wp2_with fail
  refine hnx.mono ?_
  rintro e w6 ⟨rfl, hD⟩
  have hM6 : Hid (((w6.alloc (.cells #[.slice none 0 0, .int .i64 0, .int .u64 0] 35)).alloc (.cells #[.int .i64 0, .bool false, .slice none 0 0, .int .u64 0, .slice none 0 0] 26)).heap[w6.heap.size + 1]? = some (.cells #[.int .i64 0, .bool false, .slice none 0 0, .int .u64 0, .slice none 0 0] 26)) := heap2_new _ _ _
  have k6 : Hid (GoX.Calm wy ((w6.alloc (.cells #[.slice none 0 0, .int .i64 0, .int .u64 0] 35)).alloc (.cells #[.int .i64 0, .bool false, .slice none 0 0, .int .u64 0, .slice none 0 0] 26))) := ((k5.out.trans hD).trans (calm_alloc _ _)).trans (calm_alloc _ _)
  clear hD k5 hnx
  go_wp2_with fail
  refine (hitem _).mono ?_
  rintro e w7 ⟨rfl, hD⟩
  have k7 : Hid (GoX.Calm wy (w7.alloc (.cells #[.int .i64 0, .slice none 0 0, .int .i64 0, .int .i64 0] 39))) := (k6.out.trans (.of_below hD)).trans (calm_alloc _ _)
  have hM7 : Hid ((w7.alloc (.cells #[.int .i64 0, .slice none 0 0, .int .i64 0, .int .i64 0] 39)).heap[w6.heap.size + 1]? = some (.cells #[.int .i64 0, .bool false, .slice none 0 0, .int .u64 0, .slice none 0 0] 26)) := calm_heap (calm_alloc _ _) (calm_heap (.of_below hD) hM6.out)
  clear hD k6 hM6 hitem
  obtain ⟨⟨c0, c1, c2, c3, c4⟩, -⟩ := box5f hM7.out
  go_wp2_with fail
  refine (hsm _).mono ?_
  rintro e w8 ⟨rfl, hD⟩
  have k8 : Hid (GoX.Calm wy w8) := k7.out.trans hD
  clear hD k7 hM7 hsm c0 c1 c2 c3 c4
  obtain ⟨⟨b0, b1, b2, b3, b4⟩, -⟩ := box5f (calm_heap k8.out hXy.out)
  go_wp2_with fail
  refine (hgood _).mono ?_
  rintro e w9 ⟨rfl, hD⟩
  have k9 : Hid (GoX.Calm wy w9) := k8.out.trans hD
  clear hD k8 hgood b0 b1 b2 b3 b4
  go_wp2_with fail
  refine (hst _).mono ?_
  rintro e w10 ⟨⟨q0, q1, q2, q3, rfl⟩, hD⟩
  have k10 : Hid (GoX.Calm wy w10) := k9.out.trans hD
  clear hD k9 hst
  have hfd : ∀ x : World, (Instr.field 26 (.agg #[q0, .bool true, q1, q2, q3]) 1).run Tryz.prog x = .ok (.bool true) x := fun _ => by kernel_rfl
  go_wp2_with fail
  refine (hlv _).mono ?_
  rintro e w11 ⟨rfl, hD⟩
  have hfin : Hid (GoX.Calm w w11) := hCy.out.trans (k10.out.trans hD)
  clear hD k10 hlv
  go_wp2
  go_ret
  exact ⟨by first | done | rfl | simp, hfin.out⟩
end Go.Proofs.YtnecfgmbfkocnaeGreat
