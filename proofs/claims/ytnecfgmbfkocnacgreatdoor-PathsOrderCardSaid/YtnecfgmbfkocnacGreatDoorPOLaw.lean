/-
  ROWS OF HOPS IN ORDER, AND PRINTED: the law's own walk.
-/
import Derived.Test.YtnecfgmbfkocnacGreatDoorHROrd
import Derived.Test.YtnecfgmbfkocnacGreatDoorHRPrint
namespace Go.Proofs.YtnecfgmbfkocnacGreatDoor
open Go.ChangeShapes Go.WideShapes Go.ChangeAt Go.RowKit

theorem hop_ok {ps : List Hop} (h : ∀ x ∈ ps, Hop.wf x) : ∀ x ∈ ps.take 8, Hop.ok x := fun x hx => by
  have := h x (List.mem_of_mem_take hx)
  unfold Hop.wf at this
  simp [Lit.wf, IntKind.min, IntKind.max, IntKind.signed, IntKind.bits] at this
  unfold Hop.ok
  omega
set_option maxHeartbeats 3200000 in
set_option maxRecDepth 100000 in
theorem law_c (va vb : Value) (ps qs : List Hop) (w : World) (ha : HoldsR hopR w va ps) (hb : HoldsR hopR w vb qs) (hp : ps.length ≤ 9223372036854775807) (hq : qs.length ≤ 9223372036854775807) (hpw : ∀ x ∈ ps, Hop.wf x)
    (hT : ∀ x, GoX.Calm w x → Lib.TabIs Tryz.prog x "internal/strconv.uint64pow10" .u64 Lib.pow10Tab)
    (hlv : ∀ x, GoX.Calm w x → Calls Tryz.prog 9 #[] x fun e w' => e = .returned (.bool true) ∧ GoX.Calm x w') :
    Calls Tryz.prog 3 #[va, vb] w fun e w' => e = .returned (.bool true) ∧ GoX.Calm w w' := by
  obtain ⟨a1, c1, rfl, -⟩ := id ha
  obtain ⟨a2, c2, rfl, -⟩ := id hb
  have h1 := hfew_c _ ps w ha hp
  have hfq : ∀ x, GoX.Calm w x → Calls Tryz.prog 4 #[.slice a2 qs.length c2] x fun e w' => ∃ a n c, e = .returned (.slice a n c) ∧ SlR hopR w' (.slice a n c) (qs.take 8) ∧ Below x.heap.size x w' := fun x h => hfew_c _ qs x (hb.calm h) hq
  have hPl : Hid ((ps.take 8).length ≤ 8) := by show _ ≤ _; rw [List.length_take]; omega
  have hQl : Hid ((qs.take 8).length ≤ 8) := by show _ ≤ _; rw [List.length_take]; omega
  have hPo := hidden (hop_ok hpw)
  have ePt : Hid ((ps.take 8).take 8 = ps.take 8) := by show _ = _; rw [List.take_take, Nat.min_self]
  have eQt : Hid ((qs.take 8).take 8 = qs.take 8) := by show _ = _; rw [List.take_take, Nat.min_self]
  generalize ps.take 8 = P at *
  generalize qs.take 8 = Q at *
  have hfP : ∀ x v, SlR hopR x v P → Calls Tryz.prog 4 #[v] x fun e w' => ∃ a n c, e = .returned (.slice a n c) ∧ Hid (SlR hopR w' (.slice a n c) P) ∧ GoX.Calm x w' := fun x v h =>
    (hfew_c v P x h.holds (by have := hPl.out; omega)).mono fun e w' ⟨a, n, c, he, hs, hB⟩ => ⟨a, n, c, he, by rw [ePt.out] at hs; exact hs, .of_below hB⟩
  have hfQ : ∀ x v, SlR hopR x v Q → Calls Tryz.prog 4 #[v] x fun e w' => ∃ a n c, e = .returned (.slice a n c) ∧ Hid (SlR hopR w' (.slice a n c) Q) ∧ GoX.Calm x w' := fun x v h =>
    (hfew_c v Q x h.holds (by have := hQl.out; omega)).mono fun e w' ⟨a, n, c, he, hs, hB⟩ => ⟨a, n, c, he, by rw [eQt.out] at hs; exact hs, .of_below hB⟩
  have hor : ∀ x u v, SlR hopR x u P → SlR hopR x v Q → Calls Tryz.prog 5 #[u, v] x fun e w' => e = .returned (.int .i64 (gcmp hcmp P Q)) ∧ GoX.Calm x w' := fun x u v h1 h2 =>
    (hord_c u v P Q x h1 h2 (by have := hPl.out; omega) (by have := hQl.out; omega)).mono fun e w' ⟨he, hB⟩ => ⟨he, .of_below hB⟩
  have hro : ∀ x u v, SlR hopR x u P → SlR hopR x v Q → Calls Tryz.prog 6 #[u, v] x fun e w' => e = .returned (.int .i64 (gcmp hcmp P Q)) ∧ GoX.Calm x w' := fun x u v h1 h2 =>
    (hrord_c u v P Q x h1 h2 (by have := hPl.out; omega) (by have := hQl.out; omega)).mono fun e w' ⟨he, hB⟩ => ⟨he, .of_below hB⟩
  have hpr : ∀ x u, GoX.Calm w x → SlR hopR x u P → Calls Tryz.prog 7 #[u] x fun e w' => e = .returned (.string (jn (P.map htx))) ∧ GoX.Calm x w' := fun x u h0 h1 =>
    (hprint_c u P x h1 hPl.out hPo.out (fun y hy => hT y (h0.trans (.of_below hy)))).mono fun e w' ⟨he, hB⟩ => ⟨he, .of_below hB⟩
  have hrp : ∀ x u, SlR hopR x u P → Calls Tryz.prog 8 #[u] x fun e w' => e = .returned (.string (jn (P.map htx))) ∧ GoX.Calm x w' := fun x u h1 =>
    (hrprint_c u P x h1 hPl.out hPo.out).mono fun e w' ⟨he, hB⟩ => ⟨he, .of_below hB⟩
  generalize gcmp hcmp P Q = S at *
  generalize jn (P.map htx) = T at *
  clear ha hb hT hPl hQl hPo hpw hp hq ePt eQt
  go_enter Tryz.func3, Tryz.ntmps3
  go_wp2_with fail
  refine h1.mono ?_
  rintro e w1 ⟨a3, n3, c3, rfl, hX, hD⟩
  have k1 : Hid (GoX.Calm w w1) := GoX.Calm.of_below hD
  replace hX := hidden hX
  have h2 := hfq w1 k1.out
  clear hD h1 hfq
  go_wp2_with fail
  refine h2.mono ?_
  rintro e w2 ⟨a4, n4, c4, rfl, hY, hD⟩
  have k2 : Hid (GoX.Calm w w2) := k1.out.trans (.of_below hD)
  have hX2 : Hid (SlR hopR w2 (.slice a3 n3 c3) P) := hX.out.below hD
  replace hY := hidden hY
  have h3 := hfP w2 _ hX2.out
  clear hD k1 h2 hX
  go_wp2_with fail
  refine h3.mono ?_
  rintro e w3 ⟨a5, n5, c5, rfl, hU, hD⟩
  have k3 : Hid (GoX.Calm w w3) := k2.out.trans hD
  have hX3 : Hid (SlR hopR w3 (.slice a3 n3 c3) P) := hX2.out.calm hD
  have hY3 : Hid (SlR hopR w3 (.slice a4 n4 c4) Q) := hY.out.calm hD
  have h4 := hfQ w3 _ hY3.out
  clear hD k2 h3 hX2 hY hfQ
  go_wp2_with fail
  refine h4.mono ?_
  rintro e w4 ⟨a6, n6, c6, rfl, hV, hD⟩
  have k4 : Hid (GoX.Calm w w4) := k3.out.trans hD
  have hX4 : Hid (SlR hopR w4 (.slice a3 n3 c3) P) := hX3.out.calm hD
  have hY4 : Hid (SlR hopR w4 (.slice a4 n4 c4) Q) := hY3.out.calm hD
  have h5 := hor w4 _ _ (hU.out.calm hD) hV.out
  clear hD k3 h4 hX3 hY3 hU hV hor
  go_wp2_with fail
  refine h5.mono ?_
  rintro e w5 ⟨rfl, hD⟩
  have k5 : Hid (GoX.Calm w w5) := k4.out.trans hD
  have hX5 : Hid (SlR hopR w5 (.slice a3 n3 c3) P) := hX4.out.calm hD
  have h6 := hro w5 _ _ hX5.out (hY4.out.calm hD)
  clear hD k4 h5 hX4 hY4 hro
  go_wp2_with fail
  refine h6.mono ?_
  rintro e w6 ⟨rfl, hD⟩
  have k6 : Hid (GoX.Calm w w6) := k5.out.trans hD
  have hX6 : Hid (SlR hopR w6 (.slice a3 n3 c3) P) := hX5.out.calm hD
  have h7 := hfP w6 _ hX6.out
  clear hD k5 h6 hX5 hfP
  go_wp2_with fail
  refine h7.mono ?_
  rintro e w7 ⟨a7, n7, c7, rfl, hU, hD⟩
  have k7 : Hid (GoX.Calm w w7) := k6.out.trans hD
  have hX7 : Hid (SlR hopR w7 (.slice a3 n3 c3) P) := hX6.out.calm hD
  have h8 := hpr w7 _ k7.out hU.out
  clear hD k6 h7 hX6 hU hpr
  go_wp2_with fail
  refine h8.mono ?_
  rintro e w8 ⟨rfl, hD⟩
  have k8 : Hid (GoX.Calm w w8) := k7.out.trans hD
  have h9 := hrp w8 _ (hX7.out.calm hD)
  clear hD k7 h8 hX7 hrp
  go_wp2_with fail
  refine h9.mono ?_
  rintro e w9 ⟨rfl, hD⟩
  have k9 : Hid (GoX.Calm w w9) := k8.out.trans hD
  have h10 := hlv w9 k9.out
  clear hD k8 h9 hlv
  go_wp2_with fail
  refine h10.mono ?_
  rintro e w10 ⟨rfl, hD⟩
  have hfin : Hid (GoX.Calm w w10) := k9.out.trans hD
  clear hD k9 h10
  go_wp2
  go_ret
  exact ⟨by first | done | rfl | simp, hfin.out⟩
end Go.Proofs.YtnecfgmbfkocnacGreatDoor
