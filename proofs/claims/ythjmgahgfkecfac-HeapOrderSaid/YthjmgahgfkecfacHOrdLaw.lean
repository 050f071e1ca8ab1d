/-
  THE LAW ITSELF, its own walk.
-/
import Derived.Test.YthjmgahgfkecfacDesc
import Derived.Test.YthjmgahgfkecfacIMath
import Derived.Test.YthjmgahgfkecfacItems
import Derived.Test.YthjmgahgfkecfacXCodeG
namespace Go.Proofs.Ythjmgahgfkecfac
open Go.ChangeShapes Go.WideShapes Go.ChangeAt Go.RowKit

theorem owns_set {w : World} {b : Nat} {cs : Array Value} {tb : TypeId} {B te s n : Nat} {v : Value} {xs : List Value} (h : w.ownsRow B te s v n xs) (hb : w.heap[b]? = some (.cells cs tb)) (ht : te ≠ tb) (j : Nat) (u : Value) :
    (w.setCell ⟨b, j, none⟩ u).ownsRow B te s v n xs := by
  obtain ⟨hl, h⟩ := h
  refine ⟨hl, ?_⟩
  rcases h with h | ⟨g, cap, cur, h1, h2, h3, h4⟩
  · exact .inl h
  · refine .inr ⟨g, cap, cur, h1, h2, ?_, h4⟩
    have hne : b ≠ g := fun e => by
      subst e
      rw [h3] at hb
      injection hb with hb
      injection hb with _ hb _
      exact ht hb
    exact (heap_oI hne).trans h3
/-- Both boxes, and what lies in them. -/
structure Boxes (w x : World) (A B : It) (na nb : Value) : Prop where
  below : Below w.heap.size w x
  a : x.heap[w.heap.size]? = some (.cells #[.int .i64 A.c, na, .int .i64 A.p, .int .i64 A.r] 24)
  b : x.heap[w.heap.size + 1]? = some (.cells #[.int .i64 B.c, nb, .int .i64 B.p, .int .i64 B.r] 24)
  ra : x.ownsRow 0 3 1 na A.l.length (A.l.map (Value.int .i64))
  rb : x.ownsRow 0 3 1 nb B.l.length (B.l.map (Value.int .i64))
theorem Boxes.step {w x y : World} {A B : It} {na nb : Value} (h : Boxes w x A B na nb) (hB : Below x.heap.size x y) : Boxes w y A B na nb :=
  ⟨h.below.trans (hB.mono h.below.size), (hB.block _ (Array.getElem?_eq_some_iff.1 h.a).1).trans h.a, (hB.block _ (Array.getElem?_eq_some_iff.1 h.b).1).trans h.b, owns_keep h.ra hB, owns_keep h.rb hB⟩
theorem boxed {w x : World} {A B : It} {na nb : Value} {u0 u1 u2 u3 v0 v1 v2 v3 : Value} (hB : Below w.heap.size w x)
    (ha : x.heap[w.heap.size]? = some (.cells #[u0, u1, u2, u3] 24)) (hb : x.heap[w.heap.size + 1]? = some (.cells #[v0, v1, v2, v3] 24))
    (ra : x.ownsRow 0 3 1 na A.l.length (A.l.map (Value.int .i64))) (rb : x.ownsRow 0 3 1 nb B.l.length (B.l.map (Value.int .i64))) :
    Boxes w ((((((((x.setCell ⟨w.heap.size, 0, none⟩ (.int .i64 A.c)).setCell ⟨w.heap.size, 1, none⟩ na).setCell ⟨w.heap.size, 2, none⟩ (.int .i64 A.p)).setCell ⟨w.heap.size, 3, none⟩ (.int .i64 A.r)).setCell ⟨w.heap.size + 1, 0, none⟩ (.int .i64 B.c)).setCell ⟨w.heap.size + 1, 1, none⟩ nb).setCell ⟨w.heap.size + 1, 2, none⟩ (.int .i64 B.p)).setCell ⟨w.heap.size + 1, 3, none⟩ (.int .i64 B.r)) A B na nb := by
  have ht : 3 ≠ 24 := by decide
  have a1 := heap_setI ha 0 (.int .i64 A.c)
  have a2 := heap_setI a1 1 na
  have a3 := heap_setI a2 2 (.int .i64 A.p)
  have a4 := heap_setI a3 3 (.int .i64 A.r)
  have hne : w.heap.size ≠ w.heap.size + 1 := by omega
  have hb4 : ((((x.setCell ⟨w.heap.size, 0, none⟩ (.int .i64 A.c)).setCell ⟨w.heap.size, 1, none⟩ na).setCell ⟨w.heap.size, 2, none⟩ (.int .i64 A.p)).setCell ⟨w.heap.size, 3, none⟩ (.int .i64 A.r)).heap[w.heap.size + 1]? = some (.cells #[v0, v1, v2, v3] 24) :=
    ((heap_oI hne).trans ((heap_oI hne).trans ((heap_oI hne).trans (heap_oI hne)))).trans hb
  have b1 := heap_setI hb4 0 (.int .i64 B.c)
  have b2 := heap_setI b1 1 nb
  have b3 := heap_setI b2 2 (.int .i64 B.p)
  refine ⟨?_, ?_, heap_set4 hb4 _ _ _ _, ?_, ?_⟩
  · refine (((((((hB.setCell ?_ _).setCell ?_ _).setCell ?_ _).setCell ?_ _).setCell ?_ _).setCell ?_ _).setCell ?_ _).setCell ?_ _
    all_goals first | exact Nat.le_refl _ | exact Nat.le_succ _
  · exact ((heap_oI hne.symm).trans ((heap_oI hne.symm).trans ((heap_oI hne.symm).trans (heap_oI hne.symm)))).trans (heap_set4 ha _ _ _ _)
  · exact owns_set (owns_set (owns_set (owns_set (owns_set (owns_set (owns_set (owns_set ra ha ht _ _) a1 ht _ _) a2 ht _ _) a3 ht _ _) hb4 ht _ _) b1 ht _ _) b2 ht _ _) b3 ht _ _
  · exact owns_set (owns_set (owns_set (owns_set (owns_set (owns_set (owns_set (owns_set rb ha ht _ _) a1 ht _ _) a2 ht _ _) a3 ht _ _) hb4 ht _ _) b1 ht _ _) b2 ht _ _) b3 ht _ _
theorem cmpI_range (a b : Int) : -1 ≤ cmpI a b ∧ cmpI a b ≤ 1 := by unfold cmpI; (repeat' split) <;> omega
theorem lcmp_range : ∀ xs ys : List Int, -1 ≤ lcmp xs ys ∧ lcmp xs ys ≤ 1
  | [], [] => by simp [lcmp]
  | [], _ :: _ => by simp [lcmp]
  | _ :: _, [] => by simp [lcmp]
  | a :: x, b :: y => by
    have := lcmp_range x y
    unfold lcmp; (repeat' split) <;> omega
theorem icmp_range (x y : It) : -1 ≤ icmp x y ∧ icmp x y ≤ 1 := by
  have h1 := cmpI_range x.c y.c
  have h2 := cmpI_range x.p y.p
  have h3 := cmpI_range x.r y.r
  have h4 := lcmp_range x.l y.l
  unfold icmp orS
  (repeat' split) <;> omega
/-- What lies in every world of the last region. -/
structure Cls (w : World) (A B : It) (ys : List It) (a0 : Option Addr) (c0 : Nat) (vm na nb : Value) (x : World) : Prop where
  base : GoX.Calm w x
  a : x.heap[w.heap.size]? = some (.cells #[.int .i64 (A.few 5).c, na, .int .i64 (A.few 5).p, .int .i64 (A.few 5).r] 24)
  b : x.heap[w.heap.size + 1]? = some (.cells #[.int .i64 (B.few 5).c, nb, .int .i64 (B.few 5).p, .int .i64 (B.few 5).r] 24)
  ha : Holds x na ((A.few 5).l.map (Value.int .i64))
  hb : Holds x nb ((B.few 5).l.map (Value.int .i64))
  l : HoldsIL x (.slice a0 ys.length c0) ys
  m : HoldsIL x vm (((ys.take 5).map fun y => y.few 5) ++ [(A.few 5).few 5])
theorem Cls.calm {w x y : World} {A B : It} {ys : List It} {a0 : Option Addr} {c0 : Nat} {vm na nb : Value} (h : Cls w A B ys a0 c0 vm na nb x) (hc : GoX.Calm x y) : Cls w A B ys a0 c0 vm na nb y :=
  ⟨h.base.trans hc, (hc.block _ (Array.getElem?_eq_some_iff.1 h.a).1).trans h.a, (hc.block _ (Array.getElem?_eq_some_iff.1 h.b).1).trans h.b, h.ha.calm hc, h.hb.calm hc, h.l.calm hc, h.m.calm hc⟩
open Rel
set_option maxHeartbeats 3200000 in
set_option maxRecDepth 100000 in
theorem law_c (A B : It) (na nb v : Value) (ys : List It) (w : World) (ha : Holds w na (A.l.map (Value.int .i64))) (hb : Holds w nb (B.l.map (Value.int .i64))) (hv : HoldsIL w v ys)
    (hza : A.l.length ≤ 9223372036854775807) (hzb : B.l.length ≤ 9223372036854775807) (hz : ys.length ≤ 9223372036854775807) (hzz : ∀ y ∈ ys, y.l.length ≤ 9223372036854775807)
    (hlv : ∀ x, Calls Try.prog 10 #[] x fun e w' => e = .returned (.bool true) ∧ GoX.Calm x w') :
    Calls Try.prog 3 #[itV A na, itV B nb, v] w fun e w' => e = .returned (.bool true) ∧ GoX.Calm w w' := by
  have hvh := hiddenY hv
  obtain ⟨a0, c0, rfl, -⟩ := hv
  obtain ⟨aa, ca, rfl, -⟩ := id ha
  obtain ⟨ab, cb, rfl, -⟩ := id hb
  have f1 := fun w h => itemO_c A (.slice aa (A.l.map (Value.int .i64)).length ca) w h hza
  have f2 := fun w h => itemO_c B (.slice ab (B.l.map (Value.int .i64)).length cb) w h hzb
  obtain ⟨wb, hwb⟩ : ∃ wb, wb = (w.alloc (.cells #[.int .i64 A.c, .slice aa (A.l.map (Value.int .i64)).length ca, .int .i64 A.p, .int .i64 A.r] 24)).alloc (.cells #[.int .i64 B.c, .slice ab (B.l.map (Value.int .i64)).length cb, .int .i64 B.p, .int .i64 B.r] 24) := ⟨_, rfl⟩
  have hB0 : Below w.heap.size w wb := by rw [hwb]; exact ((Below.refl _ _).alloc (Nat.le_refl _) _).alloc (by show _ ≤ (w.heap.push _).size; simp) _
  have hA0 : wb.heap[w.heap.size]? = some (.cells #[.int .i64 A.c, .slice aa (A.l.map (Value.int .i64)).length ca, .int .i64 A.p, .int .i64 A.r] 24) := by rw [hwb]; exact heap2_old _ _ _
  have hA1 : wb.heap[w.heap.size + 1]? = some (.cells #[.int .i64 B.c, .slice ab (B.l.map (Value.int .i64)).length cb, .int .i64 B.p, .int .i64 B.r] 24) := by rw [hwb]; exact heap2_new _ _ _
  obtain ⟨⟨g0, g1, g2, g3⟩, -, -, -, -⟩ := box4 (x := wb.drew) hA0
  obtain ⟨⟨k0, k1, k2, k3⟩, -, -, -, -⟩ := box4 (x := wb.drew) hA1
  have s0 : w.heap.size < wb.drew.heap.size := (Array.getElem?_eq_some_iff.1 hA0).1
  have s1 : w.heap.size + 1 < wb.drew.heap.size := (Array.getElem?_eq_some_iff.1 hA1).1
  have hBd : Hid (Below w.heap.size w wb.drew) := hB0.drew
  have hha := hiddenY (ha.below hBd.out)
  have hhb := hiddenY (hb.below hBd.out)
  simp only [List.length_map] at *
  have e1 : itV A (.slice aa A.l.length ca) = .agg #[.int .i64 A.c, .slice aa A.l.length ca, .int .i64 A.p, .int .i64 A.r] := rfl
  have e2 : itV B (.slice ab B.l.length cb) = .agg #[.int .i64 B.c, .slice ab B.l.length cb, .int .i64 B.p, .int .i64 B.r] := rfl
  rw [e1] at f1
  rw [e2] at f2
  have f1 : ∀ w, Holds w (.slice aa A.l.length ca) (A.l.map (Value.int .i64)) → Calls Try.prog 4 #[.agg #[.int .i64 A.c, .slice aa A.l.length ca, .int .i64 A.p, .int .i64 A.r]] w fun e w' => ∃ an n cn, e = .returned (.agg #[.int .i64 A.c, .slice an n cn, .int .i64 A.p, .int .i64 A.r]) ∧ Hid (w'.ownsRow 0 3 1 (.slice an n cn) (A.few 5).l.length ((A.few 5).l.map (Value.int .i64))) ∧ Below w.heap.size w w' := fun w h => (f1 w h).mono fun _ _ ⟨na, he, ho, hB⟩ => by
    obtain ⟨an, cn, rfl, -⟩ := holds_of_owns ho
    exact ⟨an, _, cn, he, ho, hB⟩
  have f2 : ∀ w, Holds w (.slice ab B.l.length cb) (B.l.map (Value.int .i64)) → Calls Try.prog 4 #[.agg #[.int .i64 B.c, .slice ab B.l.length cb, .int .i64 B.p, .int .i64 B.r]] w fun e w' => ∃ an n cn, e = .returned (.agg #[.int .i64 B.c, .slice an n cn, .int .i64 B.p, .int .i64 B.r]) ∧ Hid (w'.ownsRow 0 3 1 (.slice an n cn) (B.few 5).l.length ((B.few 5).l.map (Value.int .i64))) ∧ Below w.heap.size w w' := fun w h => (f2 w h).mono fun _ _ ⟨na, he, ho, hB⟩ => by
    obtain ⟨an, cn, rfl, -⟩ := holds_of_owns ho
    exact ⟨an, _, cn, he, ho, hB⟩
  rw [e1, e2]
  clear e1 e2 ha hb hB0
  replace hwb := hiddenY hwb
  go_enter Try.func3, Try.ntmps3
  go_wp2_with fail
  rw [← hwb.out]
  refine Code.wp_mono (Q := fun e a' x => ∃ na nb, e = Exit.normal ∧ a' = ({ tmps := #[.agg #[.int .i64 A.c, .slice aa A.l.length ca, .int .i64 A.p, .int .i64 A.r], .agg #[.int .i64 B.c, .slice ab B.l.length cb, .int .i64 B.p, .int .i64 B.r], .slice a0 ys.length c0, .pointer (some ⟨w.heap.size, 0, none⟩), .pointer (some ⟨w.heap.size + 1, 0, none⟩), undef, .bool false, undef,
    .agg #[.int .i64 A.c, .slice aa A.l.length ca, .int .i64 A.p, .int .i64 A.r], (.agg #[.int .i64 A.c, na, .int .i64 A.p, .int .i64 A.r]), .agg #[.int .i64 B.c, .slice ab B.l.length cb, .int .i64 B.p, .int .i64 B.r], (.agg #[.int .i64 B.c, nb, .int .i64 B.p, .int .i64 B.r]), undef, undef, undef, undef, undef, undef, undef, undef, undef, undef, undef, undef, undef, undef, undef, undef, undef, undef, undef, undef, undef, undef, undef, undef, undef, undef, undef, undef, undef, undef, undef, undef, undef, undef, undef, undef, undef, undef, undef, undef, undef, undef, undef, undef, undef, undef, undef, undef, undef], defers := [] } : Act) ∧ Boxes w x (A.few 5) (B.few 5) na nb) ?hq ?h
  case h =>
    go_region_with (first
      | (go_at_call_of 4 (Value.agg #[.int .i64 A.c, .slice aa A.l.length ca, .int .i64 A.p, .int .i64 A.r]); refine (f1 _ hha.out).mono ?_; rintro e w1 ⟨an1, n1, cn1, rfl, hown1, hB1⟩
         have hA2 := (hB1.block _ s0).trans hA0
         have hA3 := (hB1.block _ s1).trans hA1
         have s2 := Nat.lt_of_lt_of_le s0 hB1.size
         have s3 := Nat.lt_of_lt_of_le s1 hB1.size
         have hhb1 := hiddenY (hhb.out.below hB1)
         obtain ⟨⟨h0, h1, h2, h3⟩, -, -, -, -⟩ := box4 hA2
         obtain ⟨⟨l0, l1, l2, l3⟩, -, -, -, -⟩ := box4 hA3)
      | (refine (f2 _ hhb1.out).mono ?_; rintro e w2 ⟨an2, n2, cn2, rfl, hown2, hB2⟩
         have hA4 := (hB2.block _ s2).trans hA2
         have hA5 := (hB2.block _ s3).trans hA3
         have hown3 := hiddenY (owns_keep hown1.out hB2)
         clear h0 h1 h2 h3 l0 l1 l2 l3
         obtain ⟨⟨g0, g1, g2, g3⟩, r0, r1, r2, r3⟩ := box4 hA4
         obtain ⟨⟨k0, k1, k2, k3⟩, r4, r5, r6, r7⟩ := box4 hA5))
    all_goals exact ⟨_, _, rfl, rfl, boxed (hBd.out.trans ((hB1.mono hBd.out.size).trans (hB2.mono (Nat.le_trans hBd.out.size hB1.size)))) hA4 hA5 hown3.out hown2.out⟩
  case hq =>
    rintro _ _ x0 ⟨na, nb, rfl, rfl, hx⟩
    obtain ⟨x, hxe⟩ : ∃ x, x = x0.drew := ⟨_, rfl⟩
    have hbx : Boxes w x (A.few 5) (B.few 5) na nb := by rw [hxe]; exact hx.step (Below.refl _ _).drew
    have hl : Hid (HoldsIL x (.slice a0 ys.length c0) ys) := hvh.out.below (hbx.below.mono (Nat.le_refl _))
    clear hx
    replace hxe := hiddenY hxe
    have hit := fun w h => items_c (.slice a0 ys.length c0) ys 5 w h hz hzz (by omega)
    obtain ⟨an0, cn0, rfl, -⟩ := holds_of_owns hbx.ra
    obtain ⟨bn0, cm0, rfl, -⟩ := holds_of_owns hbx.rb
    simp only [List.length_map] at hbx
    have f3 : ∀ w, Holds w (.slice an0 (A.few 5).l.length cn0) ((A.few 5).l.map (Value.int .i64)) → Calls Try.prog 4 #[.agg #[.int .i64 (A.few 5).c, .slice an0 (A.few 5).l.length cn0, .int .i64 (A.few 5).p, .int .i64 (A.few 5).r]] w fun e w' => ∃ an n cn, e = .returned (.agg #[.int .i64 (A.few 5).c, .slice an n cn, .int .i64 (A.few 5).p, .int .i64 (A.few 5).r]) ∧ Hid (w'.ownsRow 0 3 1 (.slice an n cn) ((A.few 5).few 5).l.length (((A.few 5).few 5).l.map (Value.int .i64))) ∧ Below w.heap.size w w' := fun w h => (itemO_c (A.few 5) (.slice an0 (A.few 5).l.length cn0) w h (Nat.le_trans (few_len A 5) (by omega))).mono fun _ _ ⟨na, he, ho, hB⟩ => by
      obtain ⟨an, cn, rfl, -⟩ := holds_of_owns ho
      exact ⟨an, _, cn, he, ho, hB⟩
    have hyt : Hid ((ys.take 5).length = min 5 ys.length) := List.length_take
    obtain ⟨i0, hi, hz0, hz1, hz2⟩ := info_parts infoIt
    have hA' : Hid ((A.few 5).few 5 = A.few 5) := few_few A 5
    have hm5 : (ys.take 5).length ≤ 5 := by rw [hyt.out]; omega
    replace hm5 := hiddenY hm5
    obtain ⟨⟨k0, k1, k2, k3⟩, -, -, -, -⟩ := box4 hbx.a
    simp only [List.length_map]
    go_wp2_with fail
    refine Code.wp_mono (Q := fun e a' y => ∃ vm u12 u13 u14 u15 u16 u17, e = Exit.normal ∧ a' = ({ tmps := #[(.agg #[.int .i64 A.c, .slice aa A.l.length ca, .int .i64 A.p, .int .i64 A.r]), (.agg #[.int .i64 B.c, .slice ab B.l.length cb, .int .i64 B.p, .int .i64 B.r]), .slice a0 ys.length c0, .pointer (some ⟨w.heap.size, 0, none⟩), .pointer (some ⟨w.heap.size + 1, 0, none⟩), undef, .bool false, vm, (.agg #[.int .i64 A.c, .slice aa A.l.length ca, .int .i64 A.p, .int .i64 A.r]), (.agg #[.int .i64 A.c, .slice an0 (A.few 5).l.length cn0, .int .i64 A.p, .int .i64 A.r]), (.agg #[.int .i64 B.c, .slice ab B.l.length cb, .int .i64 B.p, .int .i64 B.r]), (.agg #[.int .i64 B.c, .slice bn0 (B.few 5).l.length cm0, .int .i64 B.p, .int .i64 B.r]), u12, u13, u14, u15, u16, u17, undef, undef, undef, undef, undef, undef, undef, undef, undef, undef, undef, undef, undef, undef, undef, undef, undef, undef, undef, undef, undef, undef, undef, undef, undef, undef, undef, undef, undef, undef, undef, undef, undef, undef, undef, undef, undef, undef, undef, undef, undef, undef, undef], defers := [] } : Act) ∧ Boxes w y (A.few 5) (B.few 5) (.slice an0 (A.few 5).l.length cn0) (.slice bn0 (B.few 5).l.length cm0) ∧ HoldsIL y (.slice a0 ys.length c0) ys ∧ HoldsIL y vm (((ys.take 5).map fun y => y.few 5) ++ [(A.few 5).few 5])) ?hq2 ?h2
    case h2 =>
      refine wp_region_any (by kernel_rfl) ?_
      try (change wpAny _ _ _ _ _ _ _ (World.drew _))
      rw [← hxe.out]
      refine wpAny_take (i := 0) (v := ?_) rfl (by kernel_rfl) (by kernel_rfl) (by kernel_rfl) (fun _ _ _ h => by obtain ⟨_, _, _, _, _, _, _, h, _⟩ := h; cases h) (Or.inl ⟨by kernel_rfl, ?_⟩) ?_
      rotate_left
      · intro w; go_simp; try with_reducible rfl
      refine wpAny_ready (rs := [1, 2]) (by kernel_rfl) (by simp) ?_
      refine AllReady.cons rfl (fun K hK => ?_) (AllReady.cons rfl (fun K hK => ?_) AllReady.nil)
      · go_simp
        go_wp2_with (refine (hit _ hl.out).mono ?_; rintro e x1 ⟨v13, rfl, xs, hvo, hvi, hB2⟩)
        have hbx2 := hiddenY (hbx.step hB2)
        have hl2 := hiddenY (hl.out.below hB2)
        have hvo2 := hiddenY hvo
        have hvi2 := hiddenY hvi
        have hra3 := hiddenY (holds_of_owns (owns_keep hbx.ra hB2))
        have hs2 := hiddenY hB2.size
        have hBx2 := hiddenY hB2
        clear hvo hvi hB2
        obtain ⟨⟨g0, g1, g2, g3⟩, -, -, -, -⟩ := box4 hbx2.out.a
        refine wpAny_ready (rs := [2]) (by kernel_rfl) (by simp) ?_
        refine AllReady.cons rfl (fun K hK => ?_) AllReady.nil
        go_simp
        refine hK _ _ ?_; clear hK K
        refine wpAny_ready (rs := [3]) (by kernel_rfl) (by simp) ?_
        refine AllReady.cons rfl (fun K hK => ?_) AllReady.nil
        go_simp
        go_wp2_with (refine (f3 _ hra3.out).mono ?_; rintro e x3 ⟨an3, n3, cn3, rfl, hown3, hB3⟩)
        have hbx3 := hiddenY (hbx2.out.step hB3)
        have hl3 := hiddenY (hl2.out.below hB3)
        have hvo3 := owns_keep hvo2.out hB3
        have hvi3 := hiddenY ((hvi2.out.kept hB3).snoc hown3.out)
        have hs3 := hiddenY (Nat.le_trans hs2.out hB3.size)
        have hBx3 := hiddenY (hBx2.out.trans (hB3.mono hs2.out))
        clear hbx2 hl2 hvo2 hvi2 hs2 hB3 hBx2 g0 g1 g2 g3
        refine wpAny_ready (rs := [4]) (by kernel_rfl) (by simp) ?_
        refine AllReady.cons rfl (fun K hK => ?_) AllReady.nil
        go_simp
        refine hK _ _ ?_; clear hK K
        refine wpAny_ready (rs := [5]) (by kernel_rfl) (by simp) ?_
        refine AllReady.cons rfl (fun K hK => ?_) AllReady.nil
        refine step_append_own rfl (.tmp 13) (.tmp 16) 25 rfl x.heap.size 24 i0 (.agg #[.int .i64 0, .slice none 0 0, .int .i64 0, .int .i64 0]) 4 48 Try.underlying25 hi hz0 hz1 hz2 rfl (by decide) _ _ _ rfl (hvo3.alloc _) ⟨x3.heap.size, 0, none⟩ 1 1 [.int .i64 (A.few 5).c, .slice an3 n3 cn3, .int .i64 (A.few 5).p, .int .i64 (A.few 5).r] rfl rfl (cell_four_new _ _ _ _ _ _) ?c2 ?c3 ?c4 ?c5 ?_
        case c2 => intro u hu; simp at hu; rcases hu with rfl | rfl | rfl | rfl <;> rfl
        case c3 => rw [hyt.out]; unfold maxLen; omega
        case c4 => rw [hyt.out]; omega
        case c5 => have := hs3.out; simp; omega
        intro v4 x4 hown4 hgrow4
        have hB4 := (hBx3.out.alloc hs3.out (.cells #[.int .i64 (A.few 5).c, .slice an3 n3 cn3, .int .i64 (A.few 5).p, .int .i64 (A.few 5).r] 24)).grown hgrow4 (by have := hs3.out; simp; omega) (fun j hj => by have := (hvo3.lt j hj).1; omega)
        have hbx4 := hiddenY (hbx.step hB4)
        have hl4 := hiddenY (hl.out.below hB4)
        have hvi4 := (hvi3.out.kept ((Below.refl _ _).alloc (Nat.le_refl _) (.cells #[.int .i64 (A.few 5).c, .slice an3 n3 cn3, .int .i64 (A.few 5).p, .int .i64 (A.few 5).r] 24))).grown (hvo3.alloc _) (by decide) hgrow4
        have hm4 := hiddenY (holdsIL_of hown4 hvi4 (by simp))
        clear hown4 hgrow4 hB4 hvi4 hvo3 hvi3 hs3 hl3 hbx3 hBx3
        refine hK _ _ ?_; clear hK K
        refine wpAny_ready (rs := [6]) (by kernel_rfl) (by simp) ?_
        refine AllReady.cons rfl (fun K hK => ?_) AllReady.nil
        go_simp
        refine hK _ _ ?_; clear hK K
        refine wpAny_done (by kernel_rfl) ?_ _
        exact ⟨_, _, _, _, _, _, _, rfl, rfl, hbx4.out, hl4.out, hm4.out⟩
      · go_simp
        refine hK _ _ ?_; clear hK K
        refine wpAny_ready (rs := [1]) (by kernel_rfl) (by simp) ?_
        refine AllReady.cons rfl (fun K hK => ?_) AllReady.nil
        go_simp
        go_wp2_with (refine (hit _ hl.out).mono ?_; rintro e x1 ⟨v13, rfl, xs, hvo, hvi, hB2⟩)
        have hbx2 := hiddenY (hbx.step hB2)
        have hl2 := hiddenY (hl.out.below hB2)
        have hvo2 := hiddenY hvo
        have hvi2 := hiddenY hvi
        have hra3 := hiddenY (holds_of_owns (owns_keep hbx.ra hB2))
        have hs2 := hiddenY hB2.size
        have hBx2 := hiddenY hB2
        clear hvo hvi hB2
        obtain ⟨⟨g0, g1, g2, g3⟩, -, -, -, -⟩ := box4 hbx2.out.a
        refine wpAny_ready (rs := [3]) (by kernel_rfl) (by simp) ?_
        refine AllReady.cons rfl (fun K hK => ?_) AllReady.nil
        go_simp
        go_wp2_with (refine (f3 _ hra3.out).mono ?_; rintro e x3 ⟨an3, n3, cn3, rfl, hown3, hB3⟩)
        have hbx3 := hiddenY (hbx2.out.step hB3)
        have hl3 := hiddenY (hl2.out.below hB3)
        have hvo3 := owns_keep hvo2.out hB3
        have hvi3 := hiddenY ((hvi2.out.kept hB3).snoc hown3.out)
        have hs3 := hiddenY (Nat.le_trans hs2.out hB3.size)
        have hBx3 := hiddenY (hBx2.out.trans (hB3.mono hs2.out))
        clear hbx2 hl2 hvo2 hvi2 hs2 hB3 hBx2 g0 g1 g2 g3
        refine wpAny_ready (rs := [4]) (by kernel_rfl) (by simp) ?_
        refine AllReady.cons rfl (fun K hK => ?_) AllReady.nil
        go_simp
        refine hK _ _ ?_; clear hK K
        refine wpAny_ready (rs := [5]) (by kernel_rfl) (by simp) ?_
        refine AllReady.cons rfl (fun K hK => ?_) AllReady.nil
        refine step_append_own rfl (.tmp 13) (.tmp 16) 25 rfl x.heap.size 24 i0 (.agg #[.int .i64 0, .slice none 0 0, .int .i64 0, .int .i64 0]) 4 48 Try.underlying25 hi hz0 hz1 hz2 rfl (by decide) _ _ _ rfl (hvo3.alloc _) ⟨x3.heap.size, 0, none⟩ 1 1 [.int .i64 (A.few 5).c, .slice an3 n3 cn3, .int .i64 (A.few 5).p, .int .i64 (A.few 5).r] rfl rfl (cell_four_new _ _ _ _ _ _) ?c2 ?c3 ?c4 ?c5 ?_
        case c2 => intro u hu; simp at hu; rcases hu with rfl | rfl | rfl | rfl <;> rfl
        case c3 => rw [hyt.out]; unfold maxLen; omega
        case c4 => rw [hyt.out]; omega
        case c5 => have := hs3.out; simp; omega
        intro v4 x4 hown4 hgrow4
        have hB4 := (hBx3.out.alloc hs3.out (.cells #[.int .i64 (A.few 5).c, .slice an3 n3 cn3, .int .i64 (A.few 5).p, .int .i64 (A.few 5).r] 24)).grown hgrow4 (by have := hs3.out; simp; omega) (fun j hj => by have := (hvo3.lt j hj).1; omega)
        have hbx4 := hiddenY (hbx.step hB4)
        have hl4 := hiddenY (hl.out.below hB4)
        have hvi4 := (hvi3.out.kept ((Below.refl _ _).alloc (Nat.le_refl _) (.cells #[.int .i64 (A.few 5).c, .slice an3 n3 cn3, .int .i64 (A.few 5).p, .int .i64 (A.few 5).r] 24))).grown (hvo3.alloc _) (by decide) hgrow4
        have hm4 := hiddenY (holdsIL_of hown4 hvi4 (by simp))
        clear hown4 hgrow4 hB4 hvi4 hvo3 hvi3 hs3 hl3 hbx3 hBx3
        refine hK _ _ ?_; clear hK K
        refine wpAny_ready (rs := [6]) (by kernel_rfl) (by simp) ?_
        refine AllReady.cons rfl (fun K hK => ?_) AllReady.nil
        go_simp
        refine hK _ _ ?_; clear hK K
        refine wpAny_done (by kernel_rfl) ?_ _
        exact ⟨_, _, _, _, _, _, _, rfl, rfl, hbx4.out, hl4.out, hm4.out⟩
    case hq2 =>
      rintro _ _ y0 ⟨vm, u12, u13, u14, u15, u16, u17, rfl, rfl, hy, hl2, hm2⟩
      obtain ⟨O, hO⟩ : ∃ O, Hid (O = icmp (A.few 5) (B.few 5)) := ⟨_, (rfl : _ = _)⟩
      have hOn : Hid (-O = icmp (B.few 5) (A.few 5)) := by show _ = _; rw [icmp_anti, hO.out]
      obtain ⟨S, hS⟩ : ∃ S, Hid (S = isame ((ys.take 6).map fun y => y.few 5) (((ys.take 5).map fun y => y.few 5) ++ [(A.few 5).few 5])) := ⟨_, (rfl : _ = _)⟩
      have hla : (A.few 5).l.length ≤ 5 := few_len A 5
      have hlb : (B.few 5).l.length ≤ 5 := few_len B 5
      have itemA : ∀ n x, Holds x n ((A.few 5).l.map (Value.int .i64)) → Calls Try.prog 4 #[itV (A.few 5) n] x fun e w' => ∃ nv', e = .returned (itV (A.few 5) nv') ∧ Holds w' nv' ((A.few 5).l.map (Value.int .i64)) ∧ Below x.heap.size x w' := fun n x h => by
        have h := item_c (A.few 5) n x h (by omega)
        rwa [few_few] at h
      have itemB : ∀ n x, Holds x n ((B.few 5).l.map (Value.int .i64)) → Calls Try.prog 4 #[itV (B.few 5) n] x fun e w' => ∃ nv', e = .returned (itV (B.few 5) nv') ∧ Holds w' nv' ((B.few 5).l.map (Value.int .i64)) ∧ Below x.heap.size x w' := fun n x h => by
        have h := item_c (B.few 5) n x h (by omega)
        rwa [few_few] at h
      have hordAB := fun n m x h h' => horder_c (A.few 5) (B.few 5) n m x h h' (by omega) (by omega)
      have hordBA := fun n m x h h' => horder_c (B.few 5) (A.few 5) n m x h h' (by omega) (by omega)
      have rordAB := fun n m x h h' => rorder_c (A.few 5) (B.few 5) n m x h h' (by omega) (by omega)
      rw [← hO.out] at hordAB rordAB
      rw [← hOn.out] at hordBA
      have hM : ∀ y ∈ ((ys.take 5).map fun y => y.few 5) ++ [(A.few 5).few 5], y.l.length ≤ 5 := fun y hy => by
        rcases List.mem_append.1 hy with h | h
        · obtain ⟨z, _, rfl⟩ := List.mem_map.1 h
          exact few_len z 5
        · simp at h; subst h; exact few_len _ 5
      have hMl : (((ys.take 5).map fun y => y.few 5) ++ [(A.few 5).few 5]).length ≤ 6 := by simp; omega
      have hMk : ∀ k, k < (((ys.take 5).map fun y => y.few 5) ++ [(A.few 5).few 5]).length → ((((ys.take 5).map fun y => y.few 5) ++ [(A.few 5).few 5]).getD k It.none).l.length ≤ 17592186044416 := fun k hk => by
        have e : (((ys.take 5).map fun y => y.few 5) ++ [(A.few 5).few 5]).getD k It.none = (((ys.take 5).map fun y => y.few 5) ++ [(A.few 5).few 5])[k] := by rw [List.getD, List.getElem?_eq_getElem hk, Option.getD_some]
        rw [e]
        exact Nat.le_trans (hM _ (List.getElem_mem hk)) (by omega)
      have hLk : ∀ k, k < ((ys.take 6).map fun y => y.few 5).length → (((ys.take 6).map fun y => y.few 5).getD k It.none).l.length ≤ 17592186044416 := fun k hk => Nat.le_trans (few_all k hk) (by omega)
      have hLl : ((ys.take 6).map fun y => y.few 5).length ≤ 6 := by simp; omega
      have itemsl : ∀ v x, HoldsIL x v ys → Calls Try.prog 5 #[v, .int .i64 6] x fun e w' => ∃ v', e = .returned v' ∧ HoldsIL w' v' ((ys.take 6).map fun y => y.few 5) ∧ Below x.heap.size x w' := fun v x h =>
        (items_c v ys 6 x h hz hzz (by omega)).mono fun _ _ ⟨v', he, xs, ho, hi, hB⟩ => ⟨v', he, holdsIL_of ho hi (by simp), hB⟩
      have itemsm : ∀ v x, HoldsIL x v (((ys.take 5).map fun y => y.few 5) ++ [(A.few 5).few 5]) → Calls Try.prog 5 #[v, .int .i64 6] x fun e w' => ∃ v', e = .returned v' ∧ HoldsIL w' v' (((ys.take 5).map fun y => y.few 5) ++ [(A.few 5).few 5]) ∧ Below x.heap.size x w' := fun v x h =>
        (items_c v _ 6 x h (by omega) (fun y hy => Nat.le_trans (hM y hy) (by omega)) (by omega)).mono fun _ _ ⟨v', he, xs, ho, hi, hB⟩ => ⟨v', he, by
          rw [items_more] at hi
          exact holdsIL_of ho hi (by rw [List.length_take]; omega), hB⟩
      have hsameLM := fun v v' x h h' => heapsame_c v v' _ _ x h h' (Nat.le_trans hLl (by omega)) (Nat.le_trans hMl (by omega)) hLk hMk
      have rsameLM := fun v v' x h h' => rsame_c v v' _ _ x h h' (Nat.le_trans hLl (by omega)) (Nat.le_trans hMl (by omega)) hLk hMk
      have hsameLL := fun v v' x h h' => heapsame_c v v' _ _ x h h' (Nat.le_trans hLl (by omega)) (Nat.le_trans hLl (by omega)) hLk hLk
      rw [← hS.out] at hsameLM rsameLM
      rw [isame_self] at hsameLL
      have hW : Hid (IntKind.i64.wrap (-O) = -O) := by
        have := icmp_range (A.few 5) (B.few 5)
        rw [← hO.out] at this
        show _ = _
        rw [IntKind.wrap_i64]
        omega
      clear hO hOn hS hM hMl hMk hLk hLl hla hlb
      go_wp2_with fail
      refine Rel.wp_region_rel (Cls w A B ys a0 c0 vm (.slice an0 (A.few 5).l.length cn0) (.slice bn0 (B.few 5).l.length cm0)) GoX.Calm (fun i v x => (([De.it (A.few 5), De.it (A.few 5), De.it (B.few 5), De.it (B.few 5), De.eq (.int .i64 O), De.it (A.few 5), De.it (B.few 5), De.eq (.int .i64 O), De.eq (.bool true), De.eq (.bool true), De.it (B.few 5), De.it (B.few 5), De.it (A.few 5), De.it (A.few 5), De.eq (.int .i64 (-O)), De.it (A.few 5), De.it (B.few 5), De.eq (.int .i64 O), De.eq (.int .i64 (-O)), De.eq (.bool true), De.eq (.bool true), De.eq (.bool true), De.its ys, De.its ((ys.take 6).map fun y => y.few 5), De.its (((ys.take 5).map fun y => y.few 5) ++ [(A.few 5).few 5]), De.its (((ys.take 5).map fun y => y.few 5) ++ [(A.few 5).few 5]), De.eq (.bool S), De.its ys, De.its ((ys.take 6).map fun y => y.few 5), De.its (((ys.take 5).map fun y => y.few 5) ++ [(A.few 5).few 5]), De.eq (.bool S), De.eq (.bool true), De.eq (.bool true), De.eq (.bool true), De.its ys, De.its ((ys.take 6).map fun y => y.few 5), De.its ys, De.its ((ys.take 6).map fun y => y.few 5), De.eq (.bool true), De.eq (.bool true), De.eq (.bool true), De.eq (.bool true), De.eq (.bool true), De.eq (.bool true)] : List De).getD i De.any).den v x) (by kernel_rfl) (by kernel_rfl) (fun i v x x' h hc => De.calm h hc) ?hC ?hob ?hend
      case hC => exact ⟨(GoX.Calm.of_below hy.below.drew), hy.a, hy.b, holds_of_owns hy.ra, holds_of_owns hy.rb, hl2, hm2⟩
      case hend =>
        intro a x hc hdef hsz hr hall
        obtain ⟨v43, e43, r43⟩ := hall 43 _ rfl
        replace e43 := e43 6 rfl
        obtain rfl : v43 = .bool true := r43
        have q43 := getD_tmp e43
        have hfin := hiddenY hc.base
        clear hr hall hc itemA itemB hordAB hordBA rordAB itemsl itemsm hsameLM rsameLM hsameLL
        go_wp2
        refine bodyPost_ret (results_tmp rfl _ _ _) hdef ⟨?_, hfin.out⟩
        rw [q43]
      case hob =>
        intro i o ho a x hc hr hd K hK
        clear hy hl2 hm2
        match i, ho with
        | 0, ho =>
          obtain rfl := Option.some.inj (show some _ = some o from ho)
          have q := getD_tmp (hr 3 (by kernel_rfl))
          obtain ⟨⟨h0, h1, h2, h3⟩, -, -, -, -⟩ := box4 hc.a
          refine op_of rfl rfl ?_
          go_simp
          exact hK _ _ hc (GoX.Calm.refl _) ⟨_, rfl, hc.ha⟩
        | 1, ho =>
          obtain rfl := Option.some.inj (show some _ = some o from ho)
          obtain ⟨v0, e0, r0⟩ := hd 0 (by decide) _ rfl
          replace e0 := e0 18 rfl
          obtain ⟨n1, rfl, h1⟩ := r0
          refine op_of rfl rfl (wp_call rfl (fun _ _ => rfl) (by simp only [List.map_toArray, List.map_cons, List.map_nil, eval_tmp e0]<;> rfl) ((itemA n1 x h1).mono ?_))
          rintro e y ⟨n2, rfl, h2, hB⟩
          exact ⟨_, rfl, hK _ _ (hc.calm (GoX.Calm.of_below hB)) (GoX.Calm.of_below hB) ⟨n2, rfl, h2⟩⟩
        | 2, ho =>
          obtain rfl := Option.some.inj (show some _ = some o from ho)
          have q := getD_tmp (hr 4 (by kernel_rfl))
          obtain ⟨⟨h0, h1, h2, h3⟩, -, -, -, -⟩ := box4 hc.b
          refine op_of rfl rfl ?_
          go_simp
          exact hK _ _ hc (GoX.Calm.refl _) ⟨_, rfl, hc.hb⟩
        | 3, ho =>
          obtain rfl := Option.some.inj (show some _ = some o from ho)
          obtain ⟨v2, e2, r2⟩ := hd 2 (by decide) _ rfl
          replace e2 := e2 20 rfl
          obtain ⟨n1, rfl, h1⟩ := r2
          refine op_of rfl rfl (wp_call rfl (fun _ _ => rfl) (by simp only [List.map_toArray, List.map_cons, List.map_nil, eval_tmp e2]<;> rfl) ((itemB n1 x h1).mono ?_))
          rintro e y ⟨n2, rfl, h2, hB⟩
          exact ⟨_, rfl, hK _ _ (hc.calm (GoX.Calm.of_below hB)) (GoX.Calm.of_below hB) ⟨n2, rfl, h2⟩⟩
        | 4, ho =>
          obtain rfl := Option.some.inj (show some _ = some o from ho)
          obtain ⟨v1, e1, r1⟩ := hd 1 (by decide) _ rfl
          replace e1 := e1 19 rfl
          obtain ⟨v3, e3, r3⟩ := hd 3 (by decide) _ rfl
          replace e3 := e3 21 rfl
          obtain ⟨n1, rfl, h1⟩ := r1
          obtain ⟨n2, rfl, h2⟩ := r3
          refine op_of rfl rfl (wp_call rfl (fun _ _ => rfl) (by simp only [List.map_toArray, List.map_cons, List.map_nil, eval_tmp e1, eval_tmp e3]<;> rfl) ((hordAB n1 n2 x h1 h2).mono ?_))
          rintro e y ⟨rfl, hB⟩
          exact ⟨_, rfl, hK _ _ (hc.calm (GoX.Calm.of_below hB)) (GoX.Calm.of_below hB) rfl⟩
        | 5, ho =>
          obtain rfl := Option.some.inj (show some _ = some o from ho)
          have q := getD_tmp (hr 3 (by kernel_rfl))
          obtain ⟨⟨h0, h1, h2, h3⟩, -, -, -, -⟩ := box4 hc.a
          refine op_of rfl rfl ?_
          go_simp
          exact hK _ _ hc (GoX.Calm.refl _) ⟨_, rfl, hc.ha⟩
        | 6, ho =>
          obtain rfl := Option.some.inj (show some _ = some o from ho)
          have q := getD_tmp (hr 4 (by kernel_rfl))
          obtain ⟨⟨h0, h1, h2, h3⟩, -, -, -, -⟩ := box4 hc.b
          refine op_of rfl rfl ?_
          go_simp
          exact hK _ _ hc (GoX.Calm.refl _) ⟨_, rfl, hc.hb⟩
        | 7, ho =>
          obtain rfl := Option.some.inj (show some _ = some o from ho)
          obtain ⟨v5, e5, r5⟩ := hd 5 (by decide) _ rfl
          replace e5 := e5 23 rfl
          obtain ⟨v6, e6, r6⟩ := hd 6 (by decide) _ rfl
          replace e6 := e6 24 rfl
          obtain ⟨n1, rfl, h1⟩ := r5
          obtain ⟨n2, rfl, h2⟩ := r6
          refine op_of rfl rfl (wp_call rfl (fun _ _ => rfl) (by simp only [List.map_toArray, List.map_cons, List.map_nil, eval_tmp e5, eval_tmp e6]<;> rfl) ((rordAB n1 n2 x h1 h2).mono ?_))
          rintro e y ⟨rfl, hB⟩
          exact ⟨_, rfl, hK _ _ (hc.calm (GoX.Calm.of_below hB)) (GoX.Calm.of_below hB) rfl⟩
        | 8, ho =>
          obtain rfl := Option.some.inj (show some _ = some o from ho)
          obtain ⟨v4, e4, r4⟩ := hd 4 (by decide) _ rfl
          replace e4 := e4 22 rfl
          have q4 := getD_tmp e4
          rw [show v4 = _ from r4] at q4
          obtain ⟨v7, e7, r7⟩ := hd 7 (by decide) _ rfl
          replace e7 := e7 25 rfl
          have q7 := getD_tmp e7
          rw [show v7 = _ from r7] at q7
          refine op_of rfl rfl ?_
          go_simp
          exact hK _ _ hc (GoX.Calm.refl _) (by first | rfl | simp [De.den])
        | 9, ho =>
          obtain rfl := Option.some.inj (show some _ = some o from ho)
          obtain ⟨v8, e8, r8⟩ := hd 8 (by decide) _ rfl
          replace e8 := e8 26 rfl
          exact op_of rfl rfl (wp_move rfl (eval_tmp e8) (hK _ _ hc (GoX.Calm.refl _) r8))
        | 10, ho =>
          obtain rfl := Option.some.inj (show some _ = some o from ho)
          obtain ⟨v9, e9, r9⟩ := hd 9 (by decide) _ rfl
          replace e9 := e9 27 rfl
          obtain rfl : v9 = .bool true := r9
          have q := getD_tmp (hr 4 (by kernel_rfl))
          obtain ⟨⟨h0, h1, h2, h3⟩, -, -, -, -⟩ := box4 hc.b
          refine op_of rfl (wanted_of (t := 27) rfl rfl e9) ?_
          go_simp
          exact hK _ _ hc (GoX.Calm.refl _) ⟨_, rfl, hc.hb⟩
        | 11, ho =>
          obtain rfl := Option.some.inj (show some _ = some o from ho)
          obtain ⟨v9, e9, r9⟩ := hd 9 (by decide) _ rfl
          replace e9 := e9 27 rfl
          obtain rfl : v9 = .bool true := r9
          obtain ⟨v10, e10, r10⟩ := hd 10 (by decide) _ rfl
          replace e10 := e10 28 rfl
          obtain ⟨n1, rfl, h1⟩ := r10
          refine op_of rfl (wanted_of (t := 27) rfl rfl e9) (wp_call rfl (fun _ _ => rfl) (by simp only [List.map_toArray, List.map_cons, List.map_nil, eval_tmp e10]<;> rfl) ((itemB n1 x h1).mono ?_))
          rintro e y ⟨n2, rfl, h2, hB⟩
          exact ⟨_, rfl, hK _ _ (hc.calm (GoX.Calm.of_below hB)) (GoX.Calm.of_below hB) ⟨n2, rfl, h2⟩⟩
        | 12, ho =>
          obtain rfl := Option.some.inj (show some _ = some o from ho)
          obtain ⟨v9, e9, r9⟩ := hd 9 (by decide) _ rfl
          replace e9 := e9 27 rfl
          obtain rfl : v9 = .bool true := r9
          have q := getD_tmp (hr 3 (by kernel_rfl))
          obtain ⟨⟨h0, h1, h2, h3⟩, -, -, -, -⟩ := box4 hc.a
          refine op_of rfl (wanted_of (t := 27) rfl rfl e9) ?_
          go_simp
          exact hK _ _ hc (GoX.Calm.refl _) ⟨_, rfl, hc.ha⟩
        | 13, ho =>
          obtain rfl := Option.some.inj (show some _ = some o from ho)
          obtain ⟨v9, e9, r9⟩ := hd 9 (by decide) _ rfl
          replace e9 := e9 27 rfl
          obtain rfl : v9 = .bool true := r9
          obtain ⟨v12, e12, r12⟩ := hd 12 (by decide) _ rfl
          replace e12 := e12 30 rfl
          obtain ⟨n1, rfl, h1⟩ := r12
          refine op_of rfl (wanted_of (t := 27) rfl rfl e9) (wp_call rfl (fun _ _ => rfl) (by simp only [List.map_toArray, List.map_cons, List.map_nil, eval_tmp e12]<;> rfl) ((itemA n1 x h1).mono ?_))
          rintro e y ⟨n2, rfl, h2, hB⟩
          exact ⟨_, rfl, hK _ _ (hc.calm (GoX.Calm.of_below hB)) (GoX.Calm.of_below hB) ⟨n2, rfl, h2⟩⟩
        | 14, ho =>
          obtain rfl := Option.some.inj (show some _ = some o from ho)
          obtain ⟨v9, e9, r9⟩ := hd 9 (by decide) _ rfl
          replace e9 := e9 27 rfl
          obtain rfl : v9 = .bool true := r9
          obtain ⟨v11, e11, r11⟩ := hd 11 (by decide) _ rfl
          replace e11 := e11 29 rfl
          obtain ⟨v13, e13, r13⟩ := hd 13 (by decide) _ rfl
          replace e13 := e13 31 rfl
          obtain ⟨n1, rfl, h1⟩ := r11
          obtain ⟨n2, rfl, h2⟩ := r13
          refine op_of rfl (wanted_of (t := 27) rfl rfl e9) (wp_call rfl (fun _ _ => rfl) (by simp only [List.map_toArray, List.map_cons, List.map_nil, eval_tmp e11, eval_tmp e13]<;> rfl) ((hordBA n1 n2 x h1 h2).mono ?_))
          rintro e y ⟨rfl, hB⟩
          exact ⟨_, rfl, hK _ _ (hc.calm (GoX.Calm.of_below hB)) (GoX.Calm.of_below hB) rfl⟩
        | 15, ho =>
          obtain rfl := Option.some.inj (show some _ = some o from ho)
          obtain ⟨v9, e9, r9⟩ := hd 9 (by decide) _ rfl
          replace e9 := e9 27 rfl
          obtain rfl : v9 = .bool true := r9
          have q := getD_tmp (hr 3 (by kernel_rfl))
          obtain ⟨⟨h0, h1, h2, h3⟩, -, -, -, -⟩ := box4 hc.a
          refine op_of rfl (wanted_of (t := 27) rfl rfl e9) ?_
          go_simp
          exact hK _ _ hc (GoX.Calm.refl _) ⟨_, rfl, hc.ha⟩
        | 16, ho =>
          obtain rfl := Option.some.inj (show some _ = some o from ho)
          obtain ⟨v9, e9, r9⟩ := hd 9 (by decide) _ rfl
          replace e9 := e9 27 rfl
          obtain rfl : v9 = .bool true := r9
          have q := getD_tmp (hr 4 (by kernel_rfl))
          obtain ⟨⟨h0, h1, h2, h3⟩, -, -, -, -⟩ := box4 hc.b
          refine op_of rfl (wanted_of (t := 27) rfl rfl e9) ?_
          go_simp
          exact hK _ _ hc (GoX.Calm.refl _) ⟨_, rfl, hc.hb⟩
        | 17, ho =>
          obtain rfl := Option.some.inj (show some _ = some o from ho)
          obtain ⟨v9, e9, r9⟩ := hd 9 (by decide) _ rfl
          replace e9 := e9 27 rfl
          obtain rfl : v9 = .bool true := r9
          obtain ⟨v15, e15, r15⟩ := hd 15 (by decide) _ rfl
          replace e15 := e15 33 rfl
          obtain ⟨v16, e16, r16⟩ := hd 16 (by decide) _ rfl
          replace e16 := e16 34 rfl
          obtain ⟨n1, rfl, h1⟩ := r15
          obtain ⟨n2, rfl, h2⟩ := r16
          refine op_of rfl (wanted_of (t := 27) rfl rfl e9) (wp_call rfl (fun _ _ => rfl) (by simp only [List.map_toArray, List.map_cons, List.map_nil, eval_tmp e15, eval_tmp e16]<;> rfl) ((rordAB n1 n2 x h1 h2).mono ?_))
          rintro e y ⟨rfl, hB⟩
          exact ⟨_, rfl, hK _ _ (hc.calm (GoX.Calm.of_below hB)) (GoX.Calm.of_below hB) rfl⟩
        | 18, ho =>
          obtain rfl := Option.some.inj (show some _ = some o from ho)
          obtain ⟨v9, e9, r9⟩ := hd 9 (by decide) _ rfl
          replace e9 := e9 27 rfl
          obtain rfl : v9 = .bool true := r9
          obtain ⟨v17, e17, r17⟩ := hd 17 (by decide) _ rfl
          replace e17 := e17 35 rfl
          have q17 := getD_tmp e17
          rw [show v17 = _ from r17] at q17
          refine op_of rfl (wanted_of (t := 27) rfl rfl e9) ?_
          go_simp
          exact hK _ _ hc (GoX.Calm.refl _) (by exact congrArg _ hW.out)
        | 19, ho =>
          obtain rfl := Option.some.inj (show some _ = some o from ho)
          obtain ⟨v9, e9, r9⟩ := hd 9 (by decide) _ rfl
          replace e9 := e9 27 rfl
          obtain rfl : v9 = .bool true := r9
          obtain ⟨v14, e14, r14⟩ := hd 14 (by decide) _ rfl
          replace e14 := e14 32 rfl
          have q14 := getD_tmp e14
          rw [show v14 = _ from r14] at q14
          obtain ⟨v18, e18, r18⟩ := hd 18 (by decide) _ rfl
          replace e18 := e18 36 rfl
          have q18 := getD_tmp e18
          rw [show v18 = _ from r18] at q18
          refine op_of rfl (wanted_of (t := 27) rfl rfl e9) ?_
          go_simp
          exact hK _ _ hc (GoX.Calm.refl _) (by first | rfl | simp [De.den])
        | 20, ho =>
          obtain rfl := Option.some.inj (show some _ = some o from ho)
          obtain ⟨v9, e9, r9⟩ := hd 9 (by decide) _ rfl
          replace e9 := e9 27 rfl
          have q9 := getD_tmp e9
          rw [show v9 = _ from r9] at q9
          obtain ⟨v19, e19, r19⟩ := hd 19 (by decide) _ rfl
          replace e19 := e19 37 rfl
          have q19 := getD_tmp e19
          rw [show v19 = _ from r19] at q19
          refine op_of rfl rfl ?_
          go_simp
          exact hK _ _ hc (GoX.Calm.refl _) (by first | rfl | simp [De.den])
        | 21, ho =>
          obtain rfl := Option.some.inj (show some _ = some o from ho)
          obtain ⟨v20, e20, r20⟩ := hd 20 (by decide) _ rfl
          replace e20 := e20 38 rfl
          exact op_of rfl rfl (wp_move rfl (eval_tmp e20) (hK _ _ hc (GoX.Calm.refl _) r20))
        | 22, ho =>
          obtain rfl := Option.some.inj (show some _ = some o from ho)
          obtain ⟨v21, e21, r21⟩ := hd 21 (by decide) _ rfl
          replace e21 := e21 39 rfl
          obtain rfl : v21 = .bool true := r21
          refine op_of rfl (wanted_of (t := 39) rfl rfl e21) (wp_move rfl (eval_tmp (hr 2 (by kernel_rfl))) (hK _ _ hc (GoX.Calm.refl _) hc.l))
        | 23, ho =>
          obtain rfl := Option.some.inj (show some _ = some o from ho)
          obtain ⟨v21, e21, r21⟩ := hd 21 (by decide) _ rfl
          replace e21 := e21 39 rfl
          obtain rfl : v21 = .bool true := r21
          obtain ⟨v22, e22, r22⟩ := hd 22 (by decide) _ rfl
          replace e22 := e22 40 rfl
          refine op_of rfl (wanted_of (t := 39) rfl rfl e21) (wp_call rfl (fun _ _ => rfl) (by simp only [List.map_toArray, List.map_cons, List.map_nil, eval_tmp e22]<;> rfl) ((itemsl v22 x r22).mono ?_))
          rintro e y ⟨v, rfl, h2, hB⟩
          exact ⟨_, rfl, hK _ _ (hc.calm (GoX.Calm.of_below hB)) (GoX.Calm.of_below hB) h2⟩
        | 24, ho =>
          obtain rfl := Option.some.inj (show some _ = some o from ho)
          obtain ⟨v21, e21, r21⟩ := hd 21 (by decide) _ rfl
          replace e21 := e21 39 rfl
          obtain rfl : v21 = .bool true := r21
          refine op_of rfl (wanted_of (t := 39) rfl rfl e21) (wp_move rfl (eval_tmp (hr 7 (by kernel_rfl))) (hK _ _ hc (GoX.Calm.refl _) hc.m))
        | 25, ho =>
          obtain rfl := Option.some.inj (show some _ = some o from ho)
          obtain ⟨v21, e21, r21⟩ := hd 21 (by decide) _ rfl
          replace e21 := e21 39 rfl
          obtain rfl : v21 = .bool true := r21
          obtain ⟨v24, e24, r24⟩ := hd 24 (by decide) _ rfl
          replace e24 := e24 42 rfl
          refine op_of rfl (wanted_of (t := 39) rfl rfl e21) (wp_call rfl (fun _ _ => rfl) (by simp only [List.map_toArray, List.map_cons, List.map_nil, eval_tmp e24]<;> rfl) ((itemsm v24 x r24).mono ?_))
          rintro e y ⟨v, rfl, h2, hB⟩
          exact ⟨_, rfl, hK _ _ (hc.calm (GoX.Calm.of_below hB)) (GoX.Calm.of_below hB) h2⟩
        | 26, ho =>
          obtain rfl := Option.some.inj (show some _ = some o from ho)
          obtain ⟨v21, e21, r21⟩ := hd 21 (by decide) _ rfl
          replace e21 := e21 39 rfl
          obtain rfl : v21 = .bool true := r21
          obtain ⟨v23, e23, r23⟩ := hd 23 (by decide) _ rfl
          replace e23 := e23 41 rfl
          obtain ⟨v25, e25, r25⟩ := hd 25 (by decide) _ rfl
          replace e25 := e25 43 rfl
          refine op_of rfl (wanted_of (t := 39) rfl rfl e21) (wp_call rfl (fun _ _ => rfl) (by simp only [List.map_toArray, List.map_cons, List.map_nil, eval_tmp e23, eval_tmp e25]<;> rfl) ((hsameLM v23 v25 x r23 r25).mono ?_))
          rintro e y ⟨rfl, hB⟩
          exact ⟨_, rfl, hK _ _ (hc.calm (GoX.Calm.of_below hB)) (GoX.Calm.of_below hB) rfl⟩
        | 27, ho =>
          obtain rfl := Option.some.inj (show some _ = some o from ho)
          obtain ⟨v21, e21, r21⟩ := hd 21 (by decide) _ rfl
          replace e21 := e21 39 rfl
          obtain rfl : v21 = .bool true := r21
          refine op_of rfl (wanted_of (t := 39) rfl rfl e21) (wp_move rfl (eval_tmp (hr 2 (by kernel_rfl))) (hK _ _ hc (GoX.Calm.refl _) hc.l))
        | 28, ho =>
          obtain rfl := Option.some.inj (show some _ = some o from ho)
          obtain ⟨v21, e21, r21⟩ := hd 21 (by decide) _ rfl
          replace e21 := e21 39 rfl
          obtain rfl : v21 = .bool true := r21
          obtain ⟨v27, e27, r27⟩ := hd 27 (by decide) _ rfl
          replace e27 := e27 45 rfl
          refine op_of rfl (wanted_of (t := 39) rfl rfl e21) (wp_call rfl (fun _ _ => rfl) (by simp only [List.map_toArray, List.map_cons, List.map_nil, eval_tmp e27]<;> rfl) ((itemsl v27 x r27).mono ?_))
          rintro e y ⟨v, rfl, h2, hB⟩
          exact ⟨_, rfl, hK _ _ (hc.calm (GoX.Calm.of_below hB)) (GoX.Calm.of_below hB) h2⟩
        | 29, ho =>
          obtain rfl := Option.some.inj (show some _ = some o from ho)
          obtain ⟨v21, e21, r21⟩ := hd 21 (by decide) _ rfl
          replace e21 := e21 39 rfl
          obtain rfl : v21 = .bool true := r21
          refine op_of rfl (wanted_of (t := 39) rfl rfl e21) (wp_move rfl (eval_tmp (hr 7 (by kernel_rfl))) (hK _ _ hc (GoX.Calm.refl _) hc.m))
        | 30, ho =>
          obtain rfl := Option.some.inj (show some _ = some o from ho)
          obtain ⟨v21, e21, r21⟩ := hd 21 (by decide) _ rfl
          replace e21 := e21 39 rfl
          obtain rfl : v21 = .bool true := r21
          obtain ⟨v28, e28, r28⟩ := hd 28 (by decide) _ rfl
          replace e28 := e28 46 rfl
          obtain ⟨v29, e29, r29⟩ := hd 29 (by decide) _ rfl
          replace e29 := e29 47 rfl
          refine op_of rfl (wanted_of (t := 39) rfl rfl e21) (wp_call rfl (fun _ _ => rfl) (by simp only [List.map_toArray, List.map_cons, List.map_nil, eval_tmp e28, eval_tmp e29]<;> rfl) ((rsameLM v28 v29 x r28 r29).mono ?_))
          rintro e y ⟨rfl, hB⟩
          exact ⟨_, rfl, hK _ _ (hc.calm (GoX.Calm.of_below hB)) (GoX.Calm.of_below hB) rfl⟩
        | 31, ho =>
          obtain rfl := Option.some.inj (show some _ = some o from ho)
          obtain ⟨v21, e21, r21⟩ := hd 21 (by decide) _ rfl
          replace e21 := e21 39 rfl
          obtain rfl : v21 = .bool true := r21
          obtain ⟨v26, e26, r26⟩ := hd 26 (by decide) _ rfl
          replace e26 := e26 44 rfl
          have q26 := getD_tmp e26
          rw [show v26 = _ from r26] at q26
          obtain ⟨v30, e30, r30⟩ := hd 30 (by decide) _ rfl
          replace e30 := e30 48 rfl
          have q30 := getD_tmp e30
          rw [show v30 = _ from r30] at q30
          refine op_of rfl (wanted_of (t := 39) rfl rfl e21) ?_
          go_simp
          exact hK _ _ hc (GoX.Calm.refl _) (by first | rfl | simp [De.den])
        | 32, ho =>
          obtain rfl := Option.some.inj (show some _ = some o from ho)
          obtain ⟨v21, e21, r21⟩ := hd 21 (by decide) _ rfl
          replace e21 := e21 39 rfl
          have q21 := getD_tmp e21
          rw [show v21 = _ from r21] at q21
          obtain ⟨v31, e31, r31⟩ := hd 31 (by decide) _ rfl
          replace e31 := e31 49 rfl
          have q31 := getD_tmp e31
          rw [show v31 = _ from r31] at q31
          refine op_of rfl rfl ?_
          go_simp
          exact hK _ _ hc (GoX.Calm.refl _) (by first | rfl | simp [De.den])
        | 33, ho =>
          obtain rfl := Option.some.inj (show some _ = some o from ho)
          obtain ⟨v32, e32, r32⟩ := hd 32 (by decide) _ rfl
          replace e32 := e32 50 rfl
          exact op_of rfl rfl (wp_move rfl (eval_tmp e32) (hK _ _ hc (GoX.Calm.refl _) r32))
        | 34, ho =>
          obtain rfl := Option.some.inj (show some _ = some o from ho)
          obtain ⟨v33, e33, r33⟩ := hd 33 (by decide) _ rfl
          replace e33 := e33 51 rfl
          obtain rfl : v33 = .bool true := r33
          refine op_of rfl (wanted_of (t := 51) rfl rfl e33) (wp_move rfl (eval_tmp (hr 2 (by kernel_rfl))) (hK _ _ hc (GoX.Calm.refl _) hc.l))
        | 35, ho =>
          obtain rfl := Option.some.inj (show some _ = some o from ho)
          obtain ⟨v33, e33, r33⟩ := hd 33 (by decide) _ rfl
          replace e33 := e33 51 rfl
          obtain rfl : v33 = .bool true := r33
          obtain ⟨v34, e34, r34⟩ := hd 34 (by decide) _ rfl
          replace e34 := e34 52 rfl
          refine op_of rfl (wanted_of (t := 51) rfl rfl e33) (wp_call rfl (fun _ _ => rfl) (by simp only [List.map_toArray, List.map_cons, List.map_nil, eval_tmp e34]<;> rfl) ((itemsl v34 x r34).mono ?_))
          rintro e y ⟨v, rfl, h2, hB⟩
          exact ⟨_, rfl, hK _ _ (hc.calm (GoX.Calm.of_below hB)) (GoX.Calm.of_below hB) h2⟩
        | 36, ho =>
          obtain rfl := Option.some.inj (show some _ = some o from ho)
          obtain ⟨v33, e33, r33⟩ := hd 33 (by decide) _ rfl
          replace e33 := e33 51 rfl
          obtain rfl : v33 = .bool true := r33
          refine op_of rfl (wanted_of (t := 51) rfl rfl e33) (wp_move rfl (eval_tmp (hr 2 (by kernel_rfl))) (hK _ _ hc (GoX.Calm.refl _) hc.l))
        | 37, ho =>
          obtain rfl := Option.some.inj (show some _ = some o from ho)
          obtain ⟨v33, e33, r33⟩ := hd 33 (by decide) _ rfl
          replace e33 := e33 51 rfl
          obtain rfl : v33 = .bool true := r33
          obtain ⟨v36, e36, r36⟩ := hd 36 (by decide) _ rfl
          replace e36 := e36 54 rfl
          refine op_of rfl (wanted_of (t := 51) rfl rfl e33) (wp_call rfl (fun _ _ => rfl) (by simp only [List.map_toArray, List.map_cons, List.map_nil, eval_tmp e36]<;> rfl) ((itemsl v36 x r36).mono ?_))
          rintro e y ⟨v, rfl, h2, hB⟩
          exact ⟨_, rfl, hK _ _ (hc.calm (GoX.Calm.of_below hB)) (GoX.Calm.of_below hB) h2⟩
        | 38, ho =>
          obtain rfl := Option.some.inj (show some _ = some o from ho)
          obtain ⟨v33, e33, r33⟩ := hd 33 (by decide) _ rfl
          replace e33 := e33 51 rfl
          obtain rfl : v33 = .bool true := r33
          obtain ⟨v35, e35, r35⟩ := hd 35 (by decide) _ rfl
          replace e35 := e35 53 rfl
          obtain ⟨v37, e37, r37⟩ := hd 37 (by decide) _ rfl
          replace e37 := e37 55 rfl
          refine op_of rfl (wanted_of (t := 51) rfl rfl e33) (wp_call rfl (fun _ _ => rfl) (by simp only [List.map_toArray, List.map_cons, List.map_nil, eval_tmp e35, eval_tmp e37]<;> rfl) ((hsameLL v35 v37 x r35 r37).mono ?_))
          rintro e y ⟨rfl, hB⟩
          exact ⟨_, rfl, hK _ _ (hc.calm (GoX.Calm.of_below hB)) (GoX.Calm.of_below hB) rfl⟩
        | 39, ho =>
          obtain rfl := Option.some.inj (show some _ = some o from ho)
          obtain ⟨v33, e33, r33⟩ := hd 33 (by decide) _ rfl
          replace e33 := e33 51 rfl
          have q33 := getD_tmp e33
          rw [show v33 = _ from r33] at q33
          obtain ⟨v38, e38, r38⟩ := hd 38 (by decide) _ rfl
          replace e38 := e38 56 rfl
          have q38 := getD_tmp e38
          rw [show v38 = _ from r38] at q38
          refine op_of rfl rfl ?_
          go_simp
          exact hK _ _ hc (GoX.Calm.refl _) (by first | rfl | simp [De.den])
        | 40, ho =>
          obtain rfl := Option.some.inj (show some _ = some o from ho)
          obtain ⟨v39, e39, r39⟩ := hd 39 (by decide) _ rfl
          replace e39 := e39 57 rfl
          exact op_of rfl rfl (wp_move rfl (eval_tmp e39) (hK _ _ hc (GoX.Calm.refl _) r39))
        | 41, ho =>
          obtain rfl := Option.some.inj (show some _ = some o from ho)
          obtain ⟨v40, e40, r40⟩ := hd 40 (by decide) _ rfl
          replace e40 := e40 58 rfl
          obtain rfl : v40 = .bool true := r40
          refine op_of rfl (wanted_of (t := 58) rfl rfl e40) (wp_call (vs := #[]) rfl (fun _ _ => rfl) (by simp) ((hlv x).mono ?_))
          rintro e y ⟨rfl, hC⟩
          exact ⟨_, rfl, hK _ _ (hc.calm hC) hC rfl⟩
        | 42, ho =>
          obtain rfl := Option.some.inj (show some _ = some o from ho)
          obtain ⟨v40, e40, r40⟩ := hd 40 (by decide) _ rfl
          replace e40 := e40 58 rfl
          have q40 := getD_tmp e40
          rw [show v40 = _ from r40] at q40
          obtain ⟨v41, e41, r41⟩ := hd 41 (by decide) _ rfl
          replace e41 := e41 59 rfl
          have q41 := getD_tmp e41
          rw [show v41 = _ from r41] at q41
          refine op_of rfl rfl ?_
          go_simp
          exact hK _ _ hc (GoX.Calm.refl _) (by first | rfl | simp [De.den])
        | 43, ho =>
          obtain rfl := Option.some.inj (show some _ = some o from ho)
          obtain ⟨v42, e42, r42⟩ := hd 42 (by decide) _ rfl
          replace e42 := e42 60 rfl
          exact op_of rfl rfl (wp_assign rfl (eval_tmp e42) (hK _ _ hc (GoX.Calm.refl _) r42))
        | i + 44, ho => cases ho
end Go.Proofs.Ythjmgahgfkecfac
