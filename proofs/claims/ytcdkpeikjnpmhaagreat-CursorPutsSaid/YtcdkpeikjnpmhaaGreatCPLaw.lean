/-
  MARKS AS BYTES AND BACK: the law's own walk.
-/
import Derived.Test.YtcdkpeikjnpmhaaGreatCPBase
import Derived.BigGuard
namespace Go.Proofs.YtcdkpeikjnpmhaaGreat
open Go.ChangeShapes Go.WideShapes Go.ChangeAt Go.RowKit

set_option maxHeartbeats 6400000 in
set_option maxRecDepth 100000 in
theorem law_c (hlv : ∀ x, Calls Tryz.prog 10 #[] x fun e w' => e = .returned (.bool true) ∧ GoX.Calm x w') (M O : Mk) (nv iv ov jv : Value) (w : World)
    (hn : Holds w nv (M.nodes.map (Value.int .i64))) (hi : HoldsIL w iv M.items) (ho : Holds w ov (O.nodes.map (Value.int .i64))) (hj : HoldsIL w jv O.items)
    (hzn : M.nodes.length ≤ 9223372036854775807) (hzi : M.items.length ≤ 9223372036854775807) (hzz : ∀ y ∈ M.items, y.l.length ≤ 9223372036854775807)
    (hyn : O.nodes.length ≤ 9223372036854775807) (hyi : O.items.length ≤ 9223372036854775807) (hyz : ∀ y ∈ O.items, y.l.length ≤ 9223372036854775807) (hr : 0 ≤ M.rest) (hr1 : M.rest < 18446744073709551616) (hs : 0 ≤ O.rest) :
    Calls Tryz.prog 3 #[mkV M nv iv, mkV O ov jv] w fun e w' => e = .returned (.bool true) ∧ GoX.Calm w w' := by
  obtain ⟨ja, jc, rfl, -⟩ := id hn
  obtain ⟨ka, kc, rfl, -⟩ := id hi
  obtain ⟨la, lc, rfl, -⟩ := id ho
  obtain ⟨pa, pc, rfl, -⟩ := id hj
  simp only [List.length_map] at hn ho ⊢
  have hcut : Hid (Cut M.few) := ⟨fewM_few M, few_nodes M, few_items M, few_its M, hr⟩
  have hcuo : Hid (Cut O.few) := ⟨fewM_few O, few_nodes O, few_items O, few_its O, hs⟩
  have hr2 : Hid (M.few.rest < 18446744073709551616) := hr1
  have hX0 := hidden (heap2_old w (.cells #[.int .i64 M.told, .bool M.over, .slice ja M.nodes.length jc, .int .u64 M.rest, .slice ka M.items.length kc] 26) (.cells #[.int .i64 O.told, .bool O.over, .slice la O.nodes.length lc, .int .u64 O.rest, .slice pa O.items.length pc] 26))
  have hX1 := hidden (heap2_new w (.cells #[.int .i64 M.told, .bool M.over, .slice ja M.nodes.length jc, .int .u64 M.rest, .slice ka M.items.length kc] 26) (.cells #[.int .i64 O.told, .bool O.over, .slice la O.nodes.length lc, .int .u64 O.rest, .slice pa O.items.length pc] 26))
  have hB0 : Hid (Below w.heap.size w ((w.alloc (.cells #[.int .i64 M.told, .bool M.over, .slice ja M.nodes.length jc, .int .u64 M.rest, .slice ka M.items.length kc] 26)).alloc (.cells #[.int .i64 O.told, .bool O.over, .slice la O.nodes.length lc, .int .u64 O.rest, .slice pa O.items.length pc] 26))) := ((Below.refl _ _).alloc (Nat.le_refl _) _).alloc (by show _ ≤ (w.heap.push _).size; simp) _
  have hmM : ∀ x, Below ((w.alloc (.cells #[.int .i64 M.told, .bool M.over, .slice ja M.nodes.length jc, .int .u64 M.rest, .slice ka M.items.length kc] 26)).alloc (.cells #[.int .i64 O.told, .bool O.over, .slice la O.nodes.length lc, .int .u64 O.rest, .slice pa O.items.length pc] 26)).heap.size ((w.alloc (.cells #[.int .i64 M.told, .bool M.over, .slice ja M.nodes.length jc, .int .u64 M.rest, .slice ka M.items.length kc] 26)).alloc (.cells #[.int .i64 O.told, .bool O.over, .slice la O.nodes.length lc, .int .u64 O.rest, .slice pa O.items.length pc] 26)) x → Calls Tryz.prog 4 #[.agg #[.int .i64 M.told, .bool M.over, .slice ja M.nodes.length jc, .int .u64 M.rest, .slice ka M.items.length kc]] x fun e w' => ∃ na' nc' ia' ic', e = .returned (mkS M.few na' nc' ia' ic') ∧ RowsM w' M.few na' nc' ia' ic' ∧ Below x.heap.size x w' := fun x h =>
    markS_c M ja jc ka kc x ((hn.below hB0.out).below h) ((hi.calm (.of_below hB0.out)).calm (.of_below h)) hzn hzi hzz
  have hmO : ∀ x, Below ((w.alloc (.cells #[.int .i64 M.told, .bool M.over, .slice ja M.nodes.length jc, .int .u64 M.rest, .slice ka M.items.length kc] 26)).alloc (.cells #[.int .i64 O.told, .bool O.over, .slice la O.nodes.length lc, .int .u64 O.rest, .slice pa O.items.length pc] 26)).heap.size ((w.alloc (.cells #[.int .i64 M.told, .bool M.over, .slice ja M.nodes.length jc, .int .u64 M.rest, .slice ka M.items.length kc] 26)).alloc (.cells #[.int .i64 O.told, .bool O.over, .slice la O.nodes.length lc, .int .u64 O.rest, .slice pa O.items.length pc] 26)) x → Calls Tryz.prog 4 #[.agg #[.int .i64 O.told, .bool O.over, .slice la O.nodes.length lc, .int .u64 O.rest, .slice pa O.items.length pc]] x fun e w' => ∃ na' nc' ia' ic', e = .returned (mkS O.few na' nc' ia' ic') ∧ RowsM w' O.few na' nc' ia' ic' ∧ Below x.heap.size x w' := fun x h =>
    markS_c O la lc pa pc x ((ho.below hB0.out).below h) ((hj.calm (.of_below hB0.out)).calm (.of_below h)) hyn hyi hyz
  generalize M.few = m at *
  generalize O.few = o at *
  unfold mkV
  unfold mkS at hmM hmO
  clear hn hi ho hj hzn hzi hzz hyn hyi hyz hr hr1 hs
  generalize hwe : (w.alloc (.cells #[.int .i64 M.told, .bool M.over, .slice ja M.nodes.length jc, .int .u64 M.rest, .slice ka M.items.length kc] 26)).alloc (.cells #[.int .i64 O.told, .bool O.over, .slice la O.nodes.length lc, .int .u64 O.rest, .slice pa O.items.length pc] 26) = wx at *
  replace hwe := hidden hwe
  have k0 : Hid (Below wx.heap.size wx wx.drew) := (Below.refl _ _).drew
  obtain ⟨⟨b0, b1, b2, b3, b4⟩, -⟩ := box5f hX0.out
  obtain ⟨⟨c0, c1, c2, c3, c4⟩, -⟩ := box5f hX1.out
  go_enter Tryz.func3, Tryz.ntmps3
  go_wp2_with fail
  rw [hwe.out]
  go_wp2_with fail
  refine Code.wp_mono (Q := fun e a' x => e = Exit.normal ∧ ∃ na nc ia ic nb nd ib id, a' = ({ tmps := List.toArray (.agg #[.int .i64 M.told, .bool M.over, .slice ja M.nodes.length jc, .int .u64 M.rest, .slice ka M.items.length kc] :: .agg #[.int .i64 O.told, .bool O.over, .slice la O.nodes.length lc, .int .u64 O.rest, .slice pa O.items.length pc] :: .pointer (some ⟨w.heap.size, 0, none⟩) :: .pointer (some ⟨w.heap.size + 1, 0, none⟩) :: .bool false :: undef :: undef :: undef :: undef :: .agg #[.int .i64 M.told, .bool M.over, .slice ja M.nodes.length jc, .int .u64 M.rest, .slice ka M.items.length kc] :: .agg #[.int .i64 m.told, .bool m.over, .slice na m.nodes.length nc, .int .u64 m.rest, .slice ia m.items.length ic] :: .agg #[.int .i64 O.told, .bool O.over, .slice la O.nodes.length lc, .int .u64 O.rest, .slice pa O.items.length pc] :: .agg #[.int .i64 o.told, .bool o.over, .slice nb o.nodes.length nd, .int .u64 o.rest, .slice ib o.items.length id] :: undef :: undef :: undef :: undef :: undef :: undef :: undef :: undef :: undef :: undef :: undef :: undef :: undef :: undef :: undef :: undef :: undef :: undef :: undef :: undef :: undef :: undef :: undef :: undef :: undef :: undef :: undef :: undef :: undef :: undef :: undef :: undef :: undef :: undef :: undef :: undef :: undef :: undef :: undef :: undef :: undef :: undef :: undef :: undef :: undef :: undef :: undef :: undef :: undef :: undef :: undef :: undef :: undef :: undef :: undef :: undef :: undef :: undef :: undef :: undef :: undef :: []), defers := [] } : Act) ∧ GoX.Calm w x ∧ x.heap[w.heap.size]? = some (.cells #[.int .i64 m.told, .bool m.over, .slice na m.nodes.length nc, .int .u64 m.rest, .slice ia m.items.length ic] 26) ∧ x.heap[w.heap.size + 1]? = some (.cells #[.int .i64 o.told, .bool o.over, .slice nb o.nodes.length nd, .int .u64 o.rest, .slice ib o.items.length id] 26) ∧ RowsM x m na nc ia ic ∧ RowsM x o nb nd ib id) ?hq ?h
  case h =>
    go_region_with (first
        | (go_at_call_of 4 (Value.agg #[.int .i64 M.told, .bool M.over, .slice ja M.nodes.length jc, .int .u64 M.rest, .slice ka M.items.length kc]); refine (hmM _ (by first | exact k2.out | exact k0.out)).mono ?_; rintro e w1 ⟨na, nc, ia, ic, rfl, hrow, hD⟩
           have k1 : Hid (Below wx.heap.size wx w1) := by first | exact k2.out.trans (hD.mono k2.out.size) | exact k0.out.trans (hD.mono k0.out.size)
           clear hD b0 b1 b2 b3 b4
           obtain ⟨⟨x10, x11, x12, x13, x14⟩, -⟩ := box5f ((k1.out.block _ (Array.getElem?_eq_some_iff.1 hX0.out).1).trans hX0.out)
           obtain ⟨⟨v10, v11, v12, v13, v14⟩, -⟩ := box5f ((k1.out.block _ (Array.getElem?_eq_some_iff.1 hX1.out).1).trans hX1.out))
        | (go_at_call_of 4 (Value.agg #[.int .i64 O.told, .bool O.over, .slice la O.nodes.length lc, .int .u64 O.rest, .slice pa O.items.length pc]); refine (hmO _ (by first | exact k1.out | exact k0.out)).mono ?_; rintro e w2 ⟨nb, nd, ib, id, rfl, hrpw, hD⟩
           have hrow2 := hidden (hrow.keep hD)
           have k2 : Hid (Below wx.heap.size wx w2) := by first | exact k1.out.trans (hD.mono k1.out.size) | exact k0.out.trans (hD.mono k0.out.size)
           clear hD x10 x11 x12 x13 x14 v10 v11 v12 v13 v14 c0 c1 c2 c3 c4 hrow
           have hX0b := hidden ((k2.out.block _ (Array.getElem?_eq_some_iff.1 hX0.out).1).trans hX0.out)
           have hX1b := hidden ((k2.out.block _ (Array.getElem?_eq_some_iff.1 hX1.out).1).trans hX1.out)
           obtain ⟨⟨x20, x21, x22, x23, x24⟩, y20, y21, y22, y23, y24⟩ := box5f hX0b.out
           obtain ⟨⟨v20, v21, v22, v23, v24⟩, u20, u21, u22, u23, u24⟩ := box5f hX1b.out))
    all_goals exact ⟨rfl, na, nc, ia, ic, nb, nd, ib, id, rfl, both5_all (GoX.Calm.of_below (hB0.out.trans (k2.out.mono hB0.out.size))) (Nat.le_refl _) hX0b.out hX1b.out hrow2.out hrpw⟩
  case hq =>
    rintro _ _ y ⟨rfl, na, nc, ia, ic, nb, nd, ib, id, rfl, hC, hXm, hXo, hRm, hRo⟩
    clear hmM hmO hX0 hX1 hB0 hwe k0 b0 b1 b2 b3 b4 c0 c1 c2 c3 c4
    replace hXm := hidden hXm
    replace hXo := hidden hXo
    replace hC := hidden hC
    have hHm := hidden hRm.holds
    have hHo := hidden hRo.holds
    clear hRm hRo
    have hmark : ∀ x, GoX.Calm y x → Calls Tryz.prog 4 #[.agg #[.int .i64 m.told, .bool m.over, .slice na m.nodes.length nc, .int .u64 m.rest, .slice ia m.items.length ic]] x fun e w' => ∃ n1 n2 n3 n4, e = .returned (.agg #[.int .i64 m.told, .bool m.over, .slice n1 m.nodes.length n2, .int .u64 m.rest, .slice n3 m.items.length n4]) ∧ Hid (Holds w' (.slice n1 m.nodes.length n2) (m.nodes.map (Value.int .i64))) ∧ GoX.Calm x w' := fun x h =>
      (markS_c m na nc ia ic x (hHm.out.1.calm h) (hHm.out.2.calm h) (by have := hcut.out.nodes; omega) (by have := hcut.out.items; omega) (fun y hy => by have := hcut.out.its y hy; omega)).mono fun e w' ⟨a, b, c, d, he, h1, hB⟩ => by
        rw [hcut.out.few] at he h1
        exact ⟨a, b, c, d, he, (hold_of h1).1, .of_below hB⟩
    have hmaro : ∀ x, GoX.Calm y x → Calls Tryz.prog 4 #[.agg #[.int .i64 o.told, .bool o.over, .slice nb o.nodes.length nd, .int .u64 o.rest, .slice ib o.items.length id]] x fun e w' => ∃ n1 n2 n3 n4, e = .returned (.agg #[.int .i64 o.told, .bool o.over, .slice n1 o.nodes.length n2, .int .u64 o.rest, .slice n3 o.items.length n4]) ∧ Hid (Holds w' (.slice n1 o.nodes.length n2) (o.nodes.map (Value.int .i64))) ∧ GoX.Calm x w' := fun x h =>
      (markS_c o nb nd ib id x (hHo.out.1.calm h) (hHo.out.2.calm h) (by have := hcuo.out.nodes; omega) (by have := hcuo.out.items; omega) (fun y hy => by have := hcuo.out.its y hy; omega)).mono fun e w' ⟨a, b, c, d, he, h1, hB⟩ => by
        rw [hcuo.out.few] at he h1
        exact ⟨a, b, c, d, he, (hold_of h1).1, .of_below hB⟩
    have hcg : ∀ x n1 n2 n3 n4, Holds x (.slice n1 m.nodes.length n2) (m.nodes.map (Value.int .i64)) → Calls Tryz.prog 6 #[.agg #[.int .i64 m.told, .bool m.over, .slice n1 m.nodes.length n2, .int .u64 m.rest, .slice n3 m.items.length n4]] x fun e w' => e = .returned (.bool (goodM m)) ∧ GoX.Calm x w' := fun x n1 n2 n3 n4 h =>
      (cgood_c m n1 n2 n3 n4 x (by have := hcut.out.nodes; omega) h).mono fun e w' ⟨he, hB⟩ => ⟨he, .of_below hB⟩
    have hrg : ∀ x, GoX.Calm y x → Calls Tryz.prog 7 #[.agg #[.int .i64 m.told, .bool m.over, .slice na m.nodes.length nc, .int .u64 m.rest, .slice ia m.items.length ic]] x fun e w' => e = .returned (.bool (goodM m)) ∧ GoX.Calm x w' := fun x h =>
      (rgood_c m na nc ia ic x (by have := hcut.out.nodes; omega) hcut.out.rest (hHm.out.1.calm h)).mono fun e w' ⟨he, hB⟩ => ⟨he, .of_below hB⟩
    have hcs : ∀ x n1 n2 n3 n4 o1 o2 o3 o4, Holds x (.slice n1 m.nodes.length n2) (m.nodes.map (Value.int .i64)) → Holds x (.slice o1 o.nodes.length o2) (o.nodes.map (Value.int .i64)) → Calls Tryz.prog 8 #[.agg #[.int .i64 m.told, .bool m.over, .slice n1 m.nodes.length n2, .int .u64 m.rest, .slice n3 m.items.length n4], .agg #[.int .i64 o.told, .bool o.over, .slice o1 o.nodes.length o2, .int .u64 o.rest, .slice o3 o.items.length o4]] x fun e w' => e = .returned (.bool (sameM m o)) ∧ GoX.Calm x w' := fun x n1 n2 n3 n4 o1 o2 o3 o4 h1 h2 =>
      (csame_c m o n1 o1 n2 o2 n3 o3 n4 o4 x (by have := hcut.out.nodes; omega) (by have := hcuo.out.nodes; omega) h1 h2).mono fun e w' ⟨he, hB⟩ => ⟨he, .of_below hB⟩
    have hrs : ∀ x, GoX.Calm y x → Calls Tryz.prog 9 #[.agg #[.int .i64 m.told, .bool m.over, .slice na m.nodes.length nc, .int .u64 m.rest, .slice ia m.items.length ic], .agg #[.int .i64 o.told, .bool o.over, .slice nb o.nodes.length nd, .int .u64 o.rest, .slice ib o.items.length id]] x fun e w' => e = .returned (.bool (sameM m o)) ∧ GoX.Calm x w' := fun x h =>
      (rsamem_c m o na nb nc nd ia ib ic id x (by have := hcut.out.nodes; omega) (by have := hcuo.out.nodes; omega) (hHm.out.1.calm h) (hHo.out.1.calm h)).mono fun e w' ⟨he, hB⟩ => ⟨he, .of_below hB⟩
    have hqq : (sameM m o != sameM m o) = false := by simp
    generalize sameM m o = q at *
    have hmk1 := hmark y (GoX.Calm.refl _)
    obtain ⟨⟨b0, b1, b2, b3, b4⟩, -⟩ := box5f hXm.out
    cases hG : goodM m with
    | false =>
      have hput : ∀ x n1 n2 n3 n4, Holds x (.slice n1 m.nodes.length n2) (m.nodes.map (Value.int .i64)) → Calls Tryz.prog 5 #[.agg #[.int .i64 m.told, .bool m.over, .slice n1 m.nodes.length n2, .int .u64 m.rest, .slice n3 m.items.length n4]] x fun e w' => e = .returned (.tuple #[.string ⟨#[]⟩, .int .i64 1]) ∧ GoX.Calm x w' := fun x n1 n2 n3 n4 h =>
        (cput_no m n1 n2 n3 n4 x (by have := hcut.out.nodes; omega) hG h).mono fun e w' ⟨he, hB⟩ => ⟨he, .of_below hB⟩
      rw [hG] at hcg hrg
      replace hG := hidden hG
      go_wp2_with fail
      refine hmk1.mono ?_
      rintro e w3 ⟨p1, p2, p3, p4, rfl, hn3, hD3⟩
      have hpx := hput w3 p1 p2 p3 p4 hn3.out
      clear hmk1 hput hn3 b0 b1 b2 b3 b4
      replace hD3 := hidden hD3
      go_wp2_with fail
      refine hpx.mono ?_
      rintro e w4 ⟨rfl, hD4⟩
      have hD4y := hidden (hD3.out.trans hD4)
      have kk : Hid (GoX.Calm y w4.drew) := hD4y.out.trans (GoX.Calm.of_below (Below.refl _ _).drew)
      clear hpx hD4 hD3
      obtain ⟨⟨b0, b1, b2, b3, b4⟩, -⟩ := box5f (calm_heap hD4y.out hXm.out)
      obtain ⟨⟨c0, c1, c2, c3, c4⟩, -⟩ := box5f (calm_heap hD4y.out hXo.out)
      go_wp2_with fail
      go_region_held3 (fun x => x.cell? ⟨w.heap.size, 0, none⟩ = some (.int .i64 m.told) ∧ x.cell? ⟨w.heap.size, 1, none⟩ = some (.bool m.over) ∧ x.cell? ⟨w.heap.size, 2, none⟩ = some (.slice na m.nodes.length nc) ∧ x.cell? ⟨w.heap.size, 3, none⟩ = some (.int .u64 m.rest) ∧ x.cell? ⟨w.heap.size, 4, none⟩ = some (.slice ia m.items.length ic) ∧ x.cell? ⟨w.heap.size + 1, 0, none⟩ = some (.int .i64 o.told) ∧ x.cell? ⟨w.heap.size + 1, 1, none⟩ = some (.bool o.over) ∧ x.cell? ⟨w.heap.size + 1, 2, none⟩ = some (.slice nb o.nodes.length nd) ∧ x.cell? ⟨w.heap.size + 1, 3, none⟩ = some (.int .u64 o.rest) ∧ x.cell? ⟨w.heap.size + 1, 4, none⟩ = some (.slice ib o.items.length id)) (go_keep)
        (first
          | (go_at_call_of 4 (Value.agg #[.int .i64 m.told, .bool m.over, .slice na m.nodes.length nc, .int .u64 m.rest, .slice ia m.items.length ic]); refine (hmark _ kk.out).mono ?_; rintro e z5 ⟨n1, n2, n3, n4, rfl, hn5, hD⟩
             have kk : Hid (GoX.Calm y z5) := kk.out.trans hD
             clear hD
             obtain ⟨⟨x50, x51, x52, x53, x54⟩, -⟩ := box5f (calm_heap kk.out hXm.out)
             obtain ⟨⟨v50, v51, v52, v53, v54⟩, -⟩ := box5f (calm_heap kk.out hXo.out))
          | (go_at_call_of 4 (Value.agg #[.int .i64 o.told, .bool o.over, .slice nb o.nodes.length nd, .int .u64 o.rest, .slice ib o.items.length id]); refine (hmaro _ kk.out).mono ?_; rintro e z6 ⟨o1, o2, o3, o4, rfl, ho5, hD⟩
             have kk : Hid (GoX.Calm y z6) := kk.out.trans hD
             have hn6 := hidden (hn5.out.calm hD)
             clear hD
             obtain ⟨⟨x60, x61, x62, x63, x64⟩, -⟩ := box5f (calm_heap kk.out hXm.out)
             obtain ⟨⟨v60, v61, v62, v63, v64⟩, -⟩ := box5f (calm_heap kk.out hXo.out))
          | (go_at_call 6; refine (hcg _ n1 n2 n3 n4 hn5.out).mono ?_; rintro e z7 ⟨rfl, hD⟩
             have kk : Hid (GoX.Calm y z7) := kk.out.trans hD
             clear hD
             obtain ⟨⟨x70, x71, x72, x73, x74⟩, -⟩ := box5f (calm_heap kk.out hXm.out)
             obtain ⟨⟨v70, v71, v72, v73, v74⟩, -⟩ := box5f (calm_heap kk.out hXo.out))
          | (go_at_call 7; refine (hrg _ kk.out).mono ?_; rintro e z8 ⟨rfl, hD⟩
             have kk : Hid (GoX.Calm y z8) := kk.out.trans hD
             clear hD
             obtain ⟨⟨x80, x81, x82, x83, x84⟩, -⟩ := box5f (calm_heap kk.out hXm.out)
             obtain ⟨⟨v80, v81, v82, v83, v84⟩, -⟩ := box5f (calm_heap kk.out hXo.out))
          | (go_at_call 8; refine (hcs _ n1 n2 n3 n4 o1 o2 o3 o4 hn6.out ho5.out).mono ?_; rintro e z9 ⟨rfl, hD⟩
             have kk : Hid (GoX.Calm y z9) := kk.out.trans hD
             clear hD
             obtain ⟨⟨x90, x91, x92, x93, x94⟩, -⟩ := box5f (calm_heap kk.out hXm.out)
             obtain ⟨⟨v90, v91, v92, v93, v94⟩, -⟩ := box5f (calm_heap kk.out hXo.out))
          | (go_at_call 9; refine (hrs _ kk.out).mono ?_; rintro e z10 ⟨rfl, hD⟩
             have kk : Hid (GoX.Calm y z10) := kk.out.trans hD
             clear hD
             obtain ⟨⟨x100, x101, x102, x103, x104⟩, -⟩ := box5f (calm_heap kk.out hXm.out)
             obtain ⟨⟨v100, v101, v102, v103, v104⟩, -⟩ := box5f (calm_heap kk.out hXo.out)))
      clear x50 x51 x52 x53 x54 v50 v51 v52 v53 v54 hmark hmaro hcg hcs hrs hn5 hn6 ho5
      go_wp2_with fail
      refine (hrg _ kk.out).mono ?_
      rintro e w5 ⟨rfl, hD5⟩
      have k5 : Hid (GoX.Calm y w5) := kk.out.trans hD5
      clear hD5 kk hrg
      obtain ⟨⟨f0, f1, f2, f3, f4⟩, -⟩ := box5f (calm_heap k5.out hXm.out)
      go_wp2_with fail
      refine (hlv _).mono ?_
      rintro e w6 ⟨rfl, hD6⟩
      have hfin := hidden (hC.out.trans (k5.out.trans hD6))
      clear hD6 k5
      go_wp2
      go_ret
      exact ⟨by first | done | rfl, hfin.out⟩
    | true =>
      have hput : ∀ x n1 n2 n3 n4, Holds x (.slice n1 m.nodes.length n2) (m.nodes.map (Value.int .i64)) → Calls Tryz.prog 5 #[.agg #[.int .i64 m.told, .bool m.over, .slice n1 m.nodes.length n2, .int .u64 m.rest, .slice n3 m.items.length n4]] x fun e w' => e = .returned (.tuple #[.string (bytesOf (bts (numsM m))), .int .i64 0]) ∧ GoX.Calm x w' := fun x n1 n2 n3 n4 h =>
        (cput_yes m n1 n2 n3 n4 x hG hcut.out.rest hr2.out h).mono fun e w' ⟨he, hB⟩ => ⟨he, .of_below hB⟩
      have hrp : ∀ x, GoX.Calm y x → Calls Tryz.prog 12 #[.agg #[.int .i64 m.told, .bool m.over, .slice na m.nodes.length nc, .int .u64 m.rest, .slice ia m.items.length ic]] x fun e w' => e = .returned (.string (bytesOf (bts (numsM m)))) ∧ GoX.Calm x w' := fun x h =>
        (rput_m m na nc ia ic x hG hcut.out.rest hr2.out (hHm.out.1.calm h)).mono fun e w' ⟨he, hB⟩ => ⟨he, .of_below hB⟩
      have hget : ∀ x, Calls Tryz.prog 11 #[.string (bytesOf (bts (numsM m)))] x fun e w' => ∃ n1 n2, e = .returned (.tuple #[.agg #[.int .i64 m.told, .bool m.over, .slice n1 m.nodes.length n2, .int .u64 m.rest, .slice none 0 0], .int .i64 0]) ∧ Hid (Holds w' (.slice n1 m.nodes.length n2) (m.nodes.map (Value.int .i64))) ∧ GoX.Calm x w' := fun x =>
        (cget_c (bts (numsM m)) x (nums_size hG)).mono fun e w' h => by
          rw [getG_nums hG hcut.out.rest hr2.out] at h
          rcases h with ⟨h, -⟩ | ⟨m1, n1, n2, h, he, hv, hB⟩
          · cases h
          · injection h with h
            subst h
            refine ⟨n1, n2, ?_, hv, .of_below hB⟩
            rw [he]; unfold mkS
            rw [(good_head hG).1]
      have hrs2 : ∀ x n1 n2, GoX.Calm y x → Holds x (.slice n1 m.nodes.length n2) (m.nodes.map (Value.int .i64)) → Calls Tryz.prog 9 #[.agg #[.int .i64 m.told, .bool m.over, .slice n1 m.nodes.length n2, .int .u64 m.rest, .slice none 0 0], .agg #[.int .i64 m.told, .bool m.over, .slice na m.nodes.length nc, .int .u64 m.rest, .slice ia m.items.length ic]] x fun e w' => e = .returned (.bool true) ∧ GoX.Calm x w' := fun x n1 n2 h h1 => by
        have h0 := rsamem_c m m n1 na n2 nc none ia 0 ic x (by have := hcut.out.nodes; omega) (by have := hcut.out.nodes; omega) h1 (hHm.out.1.calm h)
        rw [sameM_self] at h0
        unfold mkS at h0
        rw [(good_head hG).1] at h0 ⊢
        exact h0.mono fun e w' ⟨he, hB⟩ => ⟨he, .of_below hB⟩
      rw [hG] at hcg hrg
      generalize bytesOf (bts (numsM m)) = A at *
      replace hG := hidden hG
      go_wp2_with fail
      refine hmk1.mono ?_
      rintro e w3 ⟨p1, p2, p3, p4, rfl, hn3, hD3⟩
      have hpx := hput w3 p1 p2 p3 p4 hn3.out
      clear hmk1 hput hn3 b0 b1 b2 b3 b4
      replace hD3 := hidden hD3
      go_wp2_with fail
      refine hpx.mono ?_
      rintro e w4 ⟨rfl, hD4⟩
      have hD4y := hidden (hD3.out.trans hD4)
      have kk : Hid (GoX.Calm y w4.drew) := hD4y.out.trans (GoX.Calm.of_below (Below.refl _ _).drew)
      clear hpx hD4 hD3
      obtain ⟨⟨b0, b1, b2, b3, b4⟩, -⟩ := box5f (calm_heap hD4y.out hXm.out)
      obtain ⟨⟨c0, c1, c2, c3, c4⟩, -⟩ := box5f (calm_heap hD4y.out hXo.out)
      go_wp2_with fail
      go_region_held3 (fun x => x.cell? ⟨w.heap.size, 0, none⟩ = some (.int .i64 m.told) ∧ x.cell? ⟨w.heap.size, 1, none⟩ = some (.bool m.over) ∧ x.cell? ⟨w.heap.size, 2, none⟩ = some (.slice na m.nodes.length nc) ∧ x.cell? ⟨w.heap.size, 3, none⟩ = some (.int .u64 m.rest) ∧ x.cell? ⟨w.heap.size, 4, none⟩ = some (.slice ia m.items.length ic) ∧ x.cell? ⟨w.heap.size + 1, 0, none⟩ = some (.int .i64 o.told) ∧ x.cell? ⟨w.heap.size + 1, 1, none⟩ = some (.bool o.over) ∧ x.cell? ⟨w.heap.size + 1, 2, none⟩ = some (.slice nb o.nodes.length nd) ∧ x.cell? ⟨w.heap.size + 1, 3, none⟩ = some (.int .u64 o.rest) ∧ x.cell? ⟨w.heap.size + 1, 4, none⟩ = some (.slice ib o.items.length id)) (go_keep)
        (first
          | (go_at_call_of 4 (Value.agg #[.int .i64 m.told, .bool m.over, .slice na m.nodes.length nc, .int .u64 m.rest, .slice ia m.items.length ic]); refine (hmark _ kk.out).mono ?_; rintro e z5 ⟨n1, n2, n3, n4, rfl, hn5, hD⟩
             have kk : Hid (GoX.Calm y z5) := kk.out.trans hD
             clear hD
             obtain ⟨⟨x50, x51, x52, x53, x54⟩, -⟩ := box5f (calm_heap kk.out hXm.out)
             obtain ⟨⟨v50, v51, v52, v53, v54⟩, -⟩ := box5f (calm_heap kk.out hXo.out))
          | (go_at_call_of 4 (Value.agg #[.int .i64 o.told, .bool o.over, .slice nb o.nodes.length nd, .int .u64 o.rest, .slice ib o.items.length id]); refine (hmaro _ kk.out).mono ?_; rintro e z6 ⟨o1, o2, o3, o4, rfl, ho5, hD⟩
             have kk : Hid (GoX.Calm y z6) := kk.out.trans hD
             have hn6 := hidden (hn5.out.calm hD)
             clear hD
             obtain ⟨⟨x60, x61, x62, x63, x64⟩, -⟩ := box5f (calm_heap kk.out hXm.out)
             obtain ⟨⟨v60, v61, v62, v63, v64⟩, -⟩ := box5f (calm_heap kk.out hXo.out))
          | (go_at_call 6; refine (hcg _ n1 n2 n3 n4 hn5.out).mono ?_; rintro e z7 ⟨rfl, hD⟩
             have kk : Hid (GoX.Calm y z7) := kk.out.trans hD
             clear hD
             obtain ⟨⟨x70, x71, x72, x73, x74⟩, -⟩ := box5f (calm_heap kk.out hXm.out)
             obtain ⟨⟨v70, v71, v72, v73, v74⟩, -⟩ := box5f (calm_heap kk.out hXo.out))
          | (go_at_call 7; refine (hrg _ kk.out).mono ?_; rintro e z8 ⟨rfl, hD⟩
             have kk : Hid (GoX.Calm y z8) := kk.out.trans hD
             clear hD
             obtain ⟨⟨x80, x81, x82, x83, x84⟩, -⟩ := box5f (calm_heap kk.out hXm.out)
             obtain ⟨⟨v80, v81, v82, v83, v84⟩, -⟩ := box5f (calm_heap kk.out hXo.out))
          | (go_at_call 8; refine (hcs _ n1 n2 n3 n4 o1 o2 o3 o4 hn6.out ho5.out).mono ?_; rintro e z9 ⟨rfl, hD⟩
             have kk : Hid (GoX.Calm y z9) := kk.out.trans hD
             clear hD
             obtain ⟨⟨x90, x91, x92, x93, x94⟩, -⟩ := box5f (calm_heap kk.out hXm.out)
             obtain ⟨⟨v90, v91, v92, v93, v94⟩, -⟩ := box5f (calm_heap kk.out hXo.out))
          | (go_at_call 9; refine (hrs _ kk.out).mono ?_; rintro e z10 ⟨rfl, hD⟩
             have kk : Hid (GoX.Calm y z10) := kk.out.trans hD
             clear hD
             obtain ⟨⟨x100, x101, x102, x103, x104⟩, -⟩ := box5f (calm_heap kk.out hXm.out)
             obtain ⟨⟨v100, v101, v102, v103, v104⟩, -⟩ := box5f (calm_heap kk.out hXo.out)))
      clear x50 x51 x52 x53 x54 v50 v51 v52 v53 v54 hmark hmaro hcg hcs hrs hn5 hn6 ho5
      go_wp2_with fail
      refine (hrg _ kk.out).mono ?_
      rintro e w5 ⟨rfl, hD5⟩
      have k5 : Hid (GoX.Calm y w5) := kk.out.trans hD5
      clear hD5 kk hrg
      obtain ⟨⟨f0, f1, f2, f3, f4⟩, -⟩ := box5f (calm_heap k5.out hXm.out)
      have hp5 := hrp _ k5.out
      go_wp2_with fail
      refine hp5.mono ?_
      rintro e w6 ⟨rfl, hD6⟩
      have k6 : Hid (GoX.Calm y w6) := k5.out.trans hD6
      clear hD6 hp5 k5 f0 f1 f2 f3 f4
      have hg6 := hget w6
      clear hget
      go_wp2_with fail
      refine hg6.mono ?_
      rintro e w7 ⟨g1, g2, rfl, hg7, hD7⟩
      have k7 : Hid (GoX.Calm y (w7.alloc (.cells #[.int .i64 m.told, .bool m.over, .slice g1 m.nodes.length g2, .int .u64 m.rest, .slice none 0 0] 26))) := (k6.out.trans hD7).trans (calm_alloc _ _)
      have hnb := hidden (heap_alloc_new w7 (.cells #[.int .i64 m.told, .bool m.over, .slice g1 m.nodes.length g2, .int .u64 m.rest, .slice none 0 0] 26))
      have hg8 : Hid (Holds (w7.alloc (.cells #[.int .i64 m.told, .bool m.over, .slice g1 m.nodes.length g2, .int .u64 m.rest, .slice none 0 0] 26)) (.slice g1 m.nodes.length g2) (m.nodes.map (Value.int .i64))) := hg7.out.calm (calm_alloc _ _)
      clear hD7 hg6 k6 hg7
      obtain ⟨⟨f0, f1, f2, f3, f4⟩, -⟩ := box5f (calm_heap k7.out hXm.out)
      have hp7 := hrp _ k7.out
      clear hrp
      go_wp2_with fail
      refine hp7.mono ?_
      rintro e w8 ⟨rfl, hD8⟩
      have k8 : Hid (GoX.Calm y w8) := k7.out.trans hD8
      have hg9 : Hid (Holds w8 (.slice g1 m.nodes.length g2) (m.nodes.map (Value.int .i64))) := hg8.out.calm hD8
      have hnb8 := hidden (calm_heap hD8 hnb.out)
      clear hD8 hp7 k7 hg8 hnb f0 f1 f2 f3 f4
      obtain ⟨⟨f0, f1, f2, f3, f4⟩, -⟩ := box5f (calm_heap k8.out hXm.out)
      obtain ⟨⟨l0, l1, l2, l3, l4⟩, -⟩ := box5f hnb8.out
      have hs8 := hrs2 _ g1 g2 k8.out hg9.out
      clear hrs2 hg9 hnb8
      go_wp2_with fail
      refine hs8.mono ?_
      rintro e w9 ⟨rfl, hD9⟩
      have k9 : Hid (GoX.Calm y w9) := k8.out.trans hD9
      clear hD9 hs8 k8 f0 f1 f2 f3 f4 l0 l1 l2 l3 l4
      go_wp2_with fail
      refine (hlv _).mono ?_
      rintro e w10 ⟨rfl, hD⟩
      have hfin := hidden (hC.out.trans (k9.out.trans hD))
      clear hD k9
      go_wp2
      go_ret
      exact ⟨by first | done | rfl | simp, hfin.out⟩
end Go.Proofs.YtcdkpeikjnpmhaaGreat
