/-
  WORDS HELD AGAINST EACH OTHER AND PRINTED: the law's own walk, and words that came in.
-/
import Derived.Test.YtnecfgmbfkocnabDoorLRSame
import Derived.Test.YtnecfgmbfkocnabDoorLRPrint
import Derived.Lib.SmallJoins
import Derived.Deep.Strs
namespace Go.Proofs.YtnecfgmbfkocnabDoor
open Go.ChangeShapes Go.WideShapes Go.ChangeAt Go.RowKit

def Wd.wf (x : Wd) : Prop := -9223372036854775808 ≤ x.vn ∧ x.vn ≤ 9223372036854775807
theorem cut_ok {ps : List Wd} (h : ∀ x ∈ ps, x.wf) : ∀ x ∈ (ps.take 10).map Wd.cut, x.ok := fun x hx => by
  obtain ⟨y, hy, rfl⟩ := List.mem_map.1 hx
  have := h y (List.mem_of_mem_take hy)
  exact ⟨cutB_size _ _, cutB_size _ _, this.1, this.2⟩
set_option maxHeartbeats 3200000 in
set_option maxRecDepth 100000 in
theorem law_c (va vb : Value) (ps qs : List Wd) (w : World) (ha : HoldsR wordR w va ps) (hb : HoldsR wordR w vb qs) (hp : ps.length ≤ 9223372036854775807) (hq : qs.length ≤ 9223372036854775807) (hpw : ∀ x ∈ ps, x.wf)
    (hT : ∀ x, GoX.Calm w x → Lib.TabIs Tryd.prog x "internal/strconv.uint64pow10" .u64 Lib.pow10Tab)
    (hlv : ∀ x, GoX.Calm w x → Calls Tryd.prog 9 #[] x fun e w' => e = .returned (.bool true) ∧ GoX.Calm x w') :
    Calls Tryd.prog 3 #[va, vb] w fun e w' => e = .returned (.bool true) ∧ GoX.Calm w w' := by
  obtain ⟨a1, c1, rfl, -⟩ := id ha
  obtain ⟨a2, c2, rfl, -⟩ := id hb
  have hfa : ∀ x, GoX.Calm w x → Calls Tryd.prog 4 #[.slice a1 ps.length c1] x fun e w' => ∃ a n c, e = .returned (.slice a n c) ∧ Hid (SlR wordR w' (.slice a n c) ((ps.take 10).map Wd.cut)) ∧ GoX.Calm x w' := fun x h =>
    (wfew_c _ ps x (ha.calm h) hp).mono fun e w' ⟨a, n, c, he, hs, hB⟩ => ⟨a, n, c, he, hs, .of_below hB⟩
  have hfb : ∀ x, GoX.Calm w x → Calls Tryd.prog 4 #[.slice a2 qs.length c2] x fun e w' => ∃ a n c, e = .returned (.slice a n c) ∧ Hid (SlR wordR w' (.slice a n c) ((qs.take 10).map Wd.cut)) ∧ GoX.Calm x w' := fun x h =>
    (wfew_c _ qs x (hb.calm h) hq).mono fun e w' ⟨a, n, c, he, hs, hB⟩ => ⟨a, n, c, he, hs, .of_below hB⟩
  have hPl : Hid (((ps.take 10).map Wd.cut).length ≤ 10) := by show _ ≤ _; simp; omega
  have hPo := hidden (cut_ok hpw)
  generalize (ps.take 10).map Wd.cut = P at *
  generalize (qs.take 10).map Wd.cut = Q at *
  have hsm : ∀ x u v, SlR wordR x u P → SlR wordR x v Q → Calls Tryd.prog 5 #[u, v] x fun e w' => e = .returned (.bool (wall P Q)) ∧ GoX.Calm x w' := fun x u v h1 h2 =>
    (lsame_c u v P Q x h1 h2 (by have := hPl.out; omega)).mono fun e w' ⟨he, hB⟩ => ⟨he, .of_below hB⟩
  have hrs : ∀ x u v, SlR wordR x u P → SlR wordR x v Q → Calls Tryd.prog 6 #[u, v] x fun e w' => e = .returned (.bool (wall P Q)) ∧ GoX.Calm x w' := fun x u v h1 h2 =>
    (rlsame_c u v P Q x h1 h2 (by have := hPl.out; omega)).mono fun e w' ⟨he, hB⟩ => ⟨he, .of_below hB⟩
  have hpr : ∀ x u, GoX.Calm w x → SlR wordR x u P → Calls Tryd.prog 7 #[u] x fun e w' => e = .returned (.string (jn (P.map wtx))) ∧ GoX.Calm x w' := fun x u h0 h1 =>
    (lprint_c u P x h1 hPl.out hPo.out (fun y hy => hT y (h0.trans (.of_below hy)))).mono fun e w' ⟨he, hB⟩ => ⟨he, .of_below hB⟩
  have hrp : ∀ x u, SlR wordR x u P → Calls Tryd.prog 8 #[u] x fun e w' => e = .returned (.string (jn (P.map wtx))) ∧ GoX.Calm x w' := fun x u h1 =>
    (lrprint_c u P x h1 hPl.out hPo.out).mono fun e w' ⟨he, hB⟩ => ⟨he, .of_below hB⟩
  generalize wall P Q = S at *
  generalize jn (P.map wtx) = T at *
  have k0 : Hid (GoX.Calm w w) := GoX.Calm.refl _
  have h1 := hfa w k0.out
  clear ha hb hT hPl hPo hpw hp hq
  go_enter Tryd.func3, Tryd.ntmps3
  go_wp2_with fail
  refine h1.mono ?_
  rintro e w1 ⟨a3, n3, c3, rfl, hX, hD⟩
  have k1 : Hid (GoX.Calm w w1) := hD
  have h2 := hfb w1 k1.out
  clear hD k0 h1
  go_wp2_with fail
  refine h2.mono ?_
  rintro e w2 ⟨a4, n4, c4, rfl, hY, hD⟩
  have k2 : Hid (GoX.Calm w w2) := k1.out.trans hD
  have hX2 : Hid (SlR wordR w2 (.slice a3 n3 c3) P) := hX.out.calm hD
  have h1 := hfa w2 k2.out
  clear hD k1 h2 hX
  go_wp2_with fail
  refine h1.mono ?_
  rintro e w3 ⟨a5, n5, c5, rfl, hU, hD⟩
  have k3 : Hid (GoX.Calm w w3) := k2.out.trans hD
  have hX3 : Hid (SlR wordR w3 (.slice a3 n3 c3) P) := hX2.out.calm hD
  have hY3 : Hid (SlR wordR w3 (.slice a4 n4 c4) Q) := hY.out.calm hD
  have h2 := hfb w3 k3.out
  clear hD k2 h1 hX2 hY hfb
  go_wp2_with fail
  refine h2.mono ?_
  rintro e w4 ⟨a6, n6, c6, rfl, hV, hD⟩
  have k4 : Hid (GoX.Calm w w4) := k3.out.trans hD
  have hX4 : Hid (SlR wordR w4 (.slice a3 n3 c3) P) := hX3.out.calm hD
  have hY4 : Hid (SlR wordR w4 (.slice a4 n4 c4) Q) := hY3.out.calm hD
  have h3 := hsm w4 _ _ (hU.out.calm hD) hV.out
  clear hD k3 h2 hX3 hY3 hU hV hsm
  go_wp2_with fail
  refine h3.mono ?_
  rintro e w5 ⟨rfl, hD⟩
  have k5 : Hid (GoX.Calm w w5) := k4.out.trans hD
  have hX5 : Hid (SlR wordR w5 (.slice a3 n3 c3) P) := hX4.out.calm hD
  have h4 := hrs w5 _ _ hX5.out (hY4.out.calm hD)
  clear hD k4 h3 hX4 hY4 hrs
  go_wp2_with fail
  refine h4.mono ?_
  rintro e w6 ⟨rfl, hD⟩
  have k6 : Hid (GoX.Calm w w6) := k5.out.trans hD
  have hX6 : Hid (SlR wordR w6 (.slice a3 n3 c3) P) := hX5.out.calm hD
  have h1 := hfa w6 k6.out
  clear hD k5 h4 hX5 hfa
  go_wp2_with fail
  refine h1.mono ?_
  rintro e w7 ⟨a7, n7, c7, rfl, hU, hD⟩
  have k7 : Hid (GoX.Calm w w7) := k6.out.trans hD
  have hX7 : Hid (SlR wordR w7 (.slice a3 n3 c3) P) := hX6.out.calm hD
  have h5 := hpr w7 _ k7.out hU.out
  clear hD k6 h1 hX6 hU hpr
  go_wp2_with fail
  refine h5.mono ?_
  rintro e w8 ⟨rfl, hD⟩
  have k8 : Hid (GoX.Calm w w8) := k7.out.trans hD
  have h6 := hrp w8 _ (hX7.out.calm hD)
  clear hD k7 h5 hX7 hrp
  go_wp2_with fail
  refine h6.mono ?_
  rintro e w9 ⟨rfl, hD⟩
  have k9 : Hid (GoX.Calm w w9) := k8.out.trans hD
  have h7 := hlv w9 k9.out
  clear hD k8 h6 hlv
  go_wp2_with fail
  refine h7.mono ?_
  rintro e w10 ⟨rfl, hD⟩
  have hfin : Hid (GoX.Calm w w10) := k9.out.trans hD
  clear hD k9 h7
  go_wp2
  go_ret
  exact ⟨by first | done | rfl | simp, hfin.out⟩
end Go.Proofs.YtnecfgmbfkocnabDoor
/-
  WORDS THAT CAME IN. No function is named here.
-/
namespace Go.Proofs.YtnecfgmbfkocnabDoor
open Go.ChangeShapes Go.WideShapes Go.ChangeAt Go.RowKit

theorem open_words {H : Type} {enc : TypeId × Value → H} {P : Program} {w : World} {sp : Nat → Bool} {held : Bool} {t e : TypeId} {f0 f1 f2 f3 g0 g1 g2 : Field} {v : Value} {d : DataW H} {qs : List MemPlace} {r : Reach} {b0 : Nat}
    (ht : P.underlying t = some (.slice e)) (he : P.underlying e = some (.struct #[f0, f1, f2, f3])) (hv2 : P.underlying f2.type = some (.struct #[g0, g1, g2])) (h0 : P.underlying f0.type = some (.int .i64)) (h1 : P.underlying f1.type = some .string) (h3 : P.underlying f3.type = some (.int .i64))
    (k0 : P.underlying g0.type = some (.int .i64)) (k1 : P.underlying g1.type = some (.int .i64)) (k2 : P.underlying g2.type = some .string) (hc : P.cellsOf e = 6)
    (o0 : f0.offset = 0) (o1 : f1.offset = 1) (o2 : f2.offset = 2) (o3 : f3.offset = 5) (c0 : P.cellsOf f0.type = 1) (c1 : P.cellsOf f1.type = 1) (c2 : P.cellsOf f2.type = 3) (c3 : P.cellsOf f3.type = 1)
    (p0 : g0.offset = 0) (p1 : g1.offset = 1) (p2 : g2.offset = 2) (s0 : P.cellsOf g0.type = 1) (s1 : P.cellsOf g1.type = 1) (s2 : P.cellsOf g2.type = 1)
    (hval : Value.okWide P w r b0 t v) (h : DataW.Trod enc P w 0 sp held t v d qs) : ∃ ps : List Wd, ps.length ≤ maxLen ∧ HoldsR wordR w v ps ∧ ∀ p ∈ ps, p.wf :=
  open_recs (R := wordR) ht hc (fun fuel cs x hl hx => by
    match cs, hl with
    | [u0, u1, u2, u3, u4, u5], _ =>
      obtain ⟨y0, y1, y2, y3, m, _, _, q0, q1, q2, q3⟩ := Go.Joins.trod_struct4 he hx
      rw [o0, c0] at q0
      rw [o1, c1] at q1
      rw [o2, c2] at q2
      rw [o3, c3] at q3
      obtain ⟨z0, z1, z2, n, _, _, r0, r1, r2⟩ := Go.Deep.trod_struct3 hv2 q2
      rw [p0, s0] at r0
      rw [p1, s1] at r1
      rw [p2, s2] at r2
      obtain ⟨a, e0, _, w0⟩ := DataW.trod_int h0 q0
      obtain ⟨b, e1, _, w1⟩ := DataW.trod_string h1 q1
      obtain ⟨c, e3, _, w3⟩ := DataW.trod_int h3 q3
      obtain ⟨x0, j0, _, m0⟩ := DataW.trod_int k0 r0
      obtain ⟨x1, j1, _, m1⟩ := DataW.trod_int k1 r1
      obtain ⟨x2, j2, _, m2⟩ := DataW.trod_string k2 r2
      simp only [List.drop_zero, List.take_succ_cons, List.take_zero, List.cons.injEq, and_true, List.drop_succ_cons] at e0 e1 e3 j0 j1 j2
      subst e0 e1 e3 j0 j1 j2
      refine ⟨⟨a, b, x0, x1, x2, c⟩, rfl, ?_⟩
      simp [Lit.wf, IntKind.min, IntKind.max, IntKind.signed, IntKind.bits] at m1
      exact ⟨by show _ ≤ x1; omega, by show x1 ≤ _; omega⟩) hval h
end Go.Proofs.YtnecfgmbfkocnabDoor
