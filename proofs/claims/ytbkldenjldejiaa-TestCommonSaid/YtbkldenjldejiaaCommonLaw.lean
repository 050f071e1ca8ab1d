/-
  WHAT THREE LISTS HAVE IN COMMON: the law's own walk.
-/
import Derived.Test.YtbkldenjldejiaaCommon
import Derived.Test.YtbkldenjldejiaaFew
import Derived.Test.YtbkldenjldejiaaSame
import Derived.Test.YtbkldenjldejiaaXCodeG
namespace Go.Proofs.Ytbkldenjldejiaa
open Go.ChangeShapes Go.WideShapes Go.ChangeAt Go.RowKit

theorem ints_map (xs : List Nat) : ints xs = (xs.map Int.ofNat).map (Value.int .i64) := by simp [ints]
theorem filter_or_len (p q : Nat → Bool) : ∀ l : List Nat, (l.filter fun k => p k || q k).length ≤ (l.filter p).length + (l.filter q).length
  | [] => Nat.zero_le _
  | x :: l => by
    have := filter_or_len p q l
    simp only [List.filter_cons]
    cases p x <;> cases q x <;> simp <;> omega
theorem filter_eq_len (c : Nat) : ∀ N, ((List.range N).filter fun k => k == c).length ≤ 1 ∧ (N ≤ c → ((List.range N).filter fun k => k == c).length = 0)
  | 0 => by simp
  | N + 1 => by
    have ⟨h1, h2⟩ := filter_eq_len c N
    rw [List.range_succ, List.filter_append, List.length_append]
    by_cases h : N = c
    · have := h2 (by omega)
      subst h
      simp only [List.filter_cons, beq_self_eq_true, if_true, List.filter_nil, List.length_cons, List.length_nil]
      omega
    · have hb : (N == c) = false := by simpa using h
      simp only [List.filter_cons, hb, Bool.false_eq_true, if_false, List.filter_nil, List.length_nil, Nat.add_zero]
      exact ⟨h1, fun hl => h2 (by omega)⟩
theorem inL_len : ∀ zs : List Int, (L (inL zs)).length ≤ zs.length
  | [] => by
    have : L (inL []) = [] := by
      unfold L
      rw [List.filter_eq_nil_iff]
      intro a _
      simp [inL]
    rw [this]; exact Nat.le_refl _
  | z :: zs => by
    have ih := inL_len zs
    have h1 := filter_or_len (fun k => good z && k == z.toNat) (inL zs) (List.range 65536)
    have h2 := (filter_eq_len z.toNat 65536).1
    have h3 : ((List.range 65536).filter fun k => good z && k == z.toNat).length ≤ 1 := by
      cases good z with
      | true => simpa using h2
      | false =>
        rw [List.filter_eq_nil_iff.2 (by simp)]
        exact Nat.zero_le _
    have e : L (inL (z :: zs)) = (List.range 65536).filter fun k => (good z && k == z.toNat) || inL zs k := by
      unfold L
      refine List.filter_congr fun k _ => ?_
      simp [inL]
    rw [e, List.length_cons]
    unfold L at ih
    omega
theorem same_nat (va vb : Value) (xs : List Nat) (w : World) (ha : Holds w va (ints xs)) (hb : Holds w vb (ints xs)) (hl : xs.length ≤ 65536) :
    Calls Try.prog 7 #[va, vb] w fun e w' => e = .returned (.bool true) ∧ Below w.heap.size w w' := by
  rw [ints_map] at ha hb
  have := same_c va vb _ _ w ha hb (by simp; omega) (by simp; omega)
  simpa using this
theorem fewN_c (v : Value) (xs : List Nat) (w : World) (hv : Holds w v (ints xs)) (hl : xs.length ≤ 12) :
    Calls Try.prog 5 #[v, .int .i64 12] w fun e w' => ∃ a cap, e = .returned (.slice a xs.length cap) ∧ Sl w' (.slice a xs.length cap) (ints xs) ∧ Below w.heap.size w w' := by
  rw [ints_map] at hv
  refine (few_c v _ 12 w hv (by simp; omega) (by omega)).mono ?_
  rintro e w' ⟨v', rfl, hown, hB⟩
  have hs := sl_of_owns hown
  rw [List.take_of_length_le (by simpa using hl), ← ints_map] at hs
  have hs2 := hs
  obtain ⟨a, cap, rfl, -⟩ := hs2
  rw [ints_len] at hs ⊢
  exact ⟨a, cap, rfl, hs, hB⟩
theorem heap_new (w : World) (o : Obj) : (w.alloc o).heap[w.heap.size]? = some o := by
  show (w.heap.push o)[w.heap.size]? = some o
  simp
theorem row_new {w : World} {t : TypeId} (vs : List Value) : Sl (w.alloc (.cells vs.toArray t)) (.slice (some ⟨w.heap.size, 0, none⟩) vs.length vs.length) vs := by
  refine ⟨_, _, rfl, Nat.le_refl _, fun e => (by cases e), fun x e => by cases e; rfl, .inr ⟨_, 0, rfl, by simp, fun j u hj => ?_⟩⟩
  have h := heap_new w (.cells vs.toArray t)
  simp only [World.cell?, h, Nat.zero_add]
  simpa using hj
theorem common3_c (a1 a2 a3 : Option Addr) (k1 k2 k3 : Nat) (p q r : Nat → Bool) (t : TypeId) (w : World) (X Y Z : List Nat) (hX : Hid (X = L p)) (hY : Hid (Y = L q)) (hZ : Hid (Z = L r))
    (h1 : Sl w (.slice a1 X.length k1) (ints X)) (h2 : Sl w (.slice a2 Y.length k2) (ints Y)) (h3 : Sl w (.slice a3 Z.length k3) (ints Z)) :
    Calls Try.prog 8 #[.slice (some ⟨w.heap.size, 0, none⟩) 3 3] (w.alloc (.cells #[.slice a1 X.length k1, .slice a2 Y.length k2, .slice a3 Z.length k3] t)) fun e w' =>
      ∃ v', e = .returned v' ∧ Holds w' v' (ints (L fun k => (p k && (q k == true)) && (r k == true))) ∧ Below w.heap.size w w' := by
  have hrow := row_new (w := w) (t := t) [.slice a1 X.length k1, .slice a2 Y.length k2, .slice a3 Z.length k3]
  have hB := (Below.refl w.heap.size w).alloc (Nat.le_refl _) (.cells #[.slice a1 X.length k1, .slice a2 Y.length k2, .slice a3 Z.length k3] t)
  have hcom : Hid (Com X (fun i => if i = 0 then Y else Z) 2 (rowF (fun i => if i = 0 then q else r) 2) (fun i => if i = 0 then q else r)) := by
    have h := com_of p (fun i => if i = 0 then q else r) 2
    have e : (fun i : Nat => L (if i = 0 then q else r)) = fun i => if i = 0 then Y else Z := by
      funext i
      by_cases h : i = 0
      · simp only [h, if_true]; exact hY.out.symm
      · simp only [h, if_false]; exact hZ.out.symm
    rw [e, ← hX.out] at h
    exact h
  have e : X.filter (rowF (fun i => if i = 0 then q else r) 2) = L fun k => (p k && (q k == true)) && (r k == true) := by
    rw [hX.out]
    unfold L
    rw [List.filter_filter]
    refine List.filter_congr fun k _ => ?_
    have : rowF (fun i => if i = 0 then q else r) 2 k = (q k && r k) := by
      unfold rowF
      rw [show List.range 2 = [0, 1] from rfl]
      simp
    rw [this]
    cases p k <;> cases q k <;> cases r k <;> rfl
  rw [← e]
  generalize rowF (fun i => if i = 0 then q else r) 2 = F at *
  generalize (fun i : Nat => if i = 0 then q else r) = qs at *
  clear e hX hY hZ
  refine (common_c w.heap.size 0 3 a1 k1 [.slice a2 Y.length k2, .slice a3 Z.length k3] X (fun i => if i = 0 then Y else Z) F qs _ hrow
    (by intro u hu; simp at hu; rcases hu with rfl | rfl <;> rfl) (by simp) (h1.below hB) (fun i v hi => ?_) hcom).mono ?_
  · match i, hi with
    | 0, hi => cases hi; exact h2.below hB
    | 1, hi => cases hi; exact h3.below hB
    | i + 2, hi => simp at hi
  · rintro e w' ⟨v', rfl, hv, hB'⟩
    exact ⟨v', rfl, hv, hB.trans (hB'.mono (by simp))⟩
theorem common1_c (a1 : Option Addr) (k1 : Nat) (p : Nat → Bool) (t : TypeId) (w : World) (X : List Nat) (hX : Hid (X = L p)) (h1 : Sl w (.slice a1 X.length k1) (ints X)) :
    Calls Try.prog 8 #[.slice (some ⟨w.heap.size, 0, none⟩) 1 1] (w.alloc (.cells #[.slice a1 X.length k1] t)) fun e w' =>
      ∃ v', e = .returned v' ∧ Holds w' v' (ints X) ∧ Below w.heap.size w w' := by
  have hrow := row_new (w := w) (t := t) [.slice a1 X.length k1]
  have hB := (Below.refl w.heap.size w).alloc (Nat.le_refl _) (.cells #[.slice a1 X.length k1] t)
  have hcom : Hid (Com X (fun _ => X) 0 (rowF (fun _ => p) 0) (fun _ => p)) := by
    have h := com_of p (fun _ => p) 0
    rw [← hX.out] at h
    exact h
  have e : X.filter (rowF (fun _ => p) 0) = X := by
    rw [List.filter_eq_self]
    intro k _; rfl
  generalize rowF (fun _ => p) 0 = F at *
  generalize (fun _ : Nat => p) = qs at *
  clear hX
  refine (common_c w.heap.size 0 1 a1 k1 [] X (fun _ => X) F qs _ hrow (by simp) (by simp) (h1.below hB) (fun i v hi => by simp at hi) hcom).mono ?_
  rintro e' w' ⟨v', rfl, hv, hB'⟩
  rw [e] at hv
  exact ⟨v', rfl, hv, hB.trans (hB'.mono (by simp))⟩
set_option maxRecDepth 100000 in
theorem common0_c (w : World) : Calls Try.prog 8 #[.slice none 0 0] w fun e w' => e = .returned (.slice none 0 0) ∧ w' = w := by
  go_enter Try.func8, Try.ntmps8
  go_wp2_with fail
  go_step3
  go_wp2_with fail
  rw [Exit.noGoto_ret]
  go_ret
  exact ⟨rfl, rfl⟩
structure Env (w0 w : World) : Prop where
  below : Below w0.heap.size w0 w
theorem Env.next {w0 w w' : World} (E : Env w0 w) (hB : Below w.heap.size w w') : Env w0 w' := ⟨E.below.trans (hB.mono E.below.size)⟩
theorem few12_c (v : Value) (zs : List Int) (w : World) (hv : Holds w v (zs.map (Value.int .i64))) (hz : zs.length ≤ 9223372036854775807) : Calls Try.prog 5 #[v, .int .i64 12] w fun e w' => ∃ v', e = .returned v' ∧ Holds w' v' ((zs.take 12).map (Value.int .i64)) ∧ Below w.heap.size w w' :=
  (few_c v zs 12 w hv hz (by omega)).mono fun _ _ ⟨v', he, ho, hB⟩ => ⟨v', he, holds_of_owns ho, hB⟩
theorem ofN_c (v : Value) (zs : List Int) (X : List Nat) (w : World) (hv : Holds w v (zs.map (Value.int .i64))) (hz : zs.length ≤ 12) (hX : Hid (X = L (inL zs))) : Calls Try.prog 4 #[v] w fun e w' =>
    ∃ a k, e = .returned (.slice a X.length k) ∧ Sl w' (.slice a X.length k) (ints X) ∧ Below w.heap.size w w' := by
  refine (of_c v zs w hv (by omega)).mono ?_
  rintro e w' ⟨v', rfl, hs, hB⟩
  rw [← hX.out] at hs
  obtain ⟨g, og, cap, rfl, -, hs⟩ := hs
  exact ⟨_, cap, rfl, hs, hB⟩
theorem pickB_c (v1 v2 : Value) (p q r : Nat → Bool) (X Y Z : List Nat) (w : World) (hX : Hid (X = L p)) (hY : Hid (Y = L q)) (hZ : Hid (Z = L r)) (hr : ∀ k, r k = (p k && (q k == true))) (h1 : Holds w v1 (ints X)) (h2 : Holds w v2 (ints Y)) :
    Calls Try.prog 6 #[v1, v2, .bool true] w fun e w' => ∃ v', e = .returned v' ∧ Holds w' v' (ints Z) ∧ Below w.heap.size w w' := by
  rw [hX.out] at h1
  rw [hY.out] at h2
  rw [hZ.out, L_congr hr]
  exact pick_c v1 v2 p q true w h1 h2
theorem sameN_c (va vb : Value) (xs : List Nat) (w : World) (ha : Holds w va (ints xs)) (hb : Holds w vb (ints xs)) (hl : xs.length ≤ 65536) : Calls Try.prog 7 #[va, vb] w fun e w' => e = .returned (.bool true) ∧ Below w.heap.size w w' :=
  same_nat va vb xs w ha hb hl
theorem common0B_c (w : World) : Calls Try.prog 8 #[.slice none 0 0] w fun e w' => e = .returned (.slice none 0 0) ∧ Below w.heap.size w w' :=
  (common0_c w).mono fun _ _ ⟨he, hw⟩ => ⟨he, by rw [hw]; exact Below.refl _ _⟩
theorem inL_list (zs : List Int) : ∃ X : List Nat, Hid (X = L (inL (zs.take 12))) ∧ X.length ≤ 12 ∧ (zs.take 12).length ≤ 12 :=
  ⟨_, (rfl : _ = _), Nat.le_trans (inL_len _) (by rw [List.length_take]; omega), by rw [List.length_take]; omega⟩
set_option maxRecDepth 100000 in
set_option maxHeartbeats 6400000 in
theorem law_c (va vb vc : Value) (as0 bs cs : List Int) (w : World) (hva : Holds w va (as0.map (Value.int .i64))) (hvb : Holds w vb (bs.map (Value.int .i64))) (hvc : Holds w vc (cs.map (Value.int .i64)))
    (hza : as0.length ≤ 9223372036854775807) (hzb : bs.length ≤ 9223372036854775807) (hzc : cs.length ≤ 9223372036854775807)
    (hlv : ∀ x, Calls Try.prog 9 #[] x fun e w' => e = .returned (.bool true) ∧ GoX.Calm x w') :
    Calls Try.prog 3 #[va, vb, vc] w fun e w' => e = .returned (.bool true) ∧ GoX.Calm w w' := by
  obtain ⟨X, hX, hXl, hal⟩ := inL_list as0
  obtain ⟨Y, hY, hYl, hbl⟩ := inL_list bs
  obtain ⟨Z, hZ, hZl, hcl⟩ := inL_list cs
  obtain ⟨V, hV⟩ : ∃ V, Hid (V = L fun k => inL (as0.take 12) k && (inL (bs.take 12) k == true)) := ⟨_, (rfl : _ = _)⟩
  obtain ⟨U, hU⟩ : ∃ U, Hid (U = L fun k => (inL (as0.take 12) k && (inL (bs.take 12) k == true)) && (inL (cs.take 12) k == true)) := ⟨_, (rfl : _ = _)⟩
  have hUl : Hid (U.length ≤ 65536) := by show _ ≤ _; rw [hU.out]; exact L_len _
  have hc3 := fun a1 a2 a3 k1 k2 k3 t w => common3_c a1 a2 a3 k1 k2 k3 (inL (as0.take 12)) (inL (bs.take 12)) (inL (cs.take 12)) t w X Y Z hX hY hZ
  rw [← hU.out] at hc3
  have hc1 := fun a1 k1 t w => common1_c a1 k1 (inL (as0.take 12)) t w X hX
  have hfa := fun w h => few12_c va as0 w h hza
  have hfb := fun w h => few12_c vb bs w h hzb
  have hfc := fun w h => few12_c vc cs w h hzc
  have hoa := fun v w h => ofN_c v _ X w h hal hX
  have hob := fun v w h => ofN_c v _ Y w h hbl hY
  have hoc := fun v w h => ofN_c v _ Z w h hcl hZ
  have hpa := fun v1 v2 w => pickB_c v1 v2 _ _ _ X Y V w hX hY hV (fun _ => rfl)
  have hpb := fun v1 v2 w => pickB_c v1 v2 _ _ _ V Z U w hV hZ hU (fun _ => rfl)
  have l_a := hidden hva
  have l_b := hidden hvb
  have l_c := hidden hvc
  have hX12 := hidden hXl
  have hY12 := hidden hYl
  have hZ12 := hidden hZl
  have hX65 : Hid (X.length ≤ 65536) := by show _ ≤ _; omega
  clear hX hY hZ hV hU hza hzb hzc hva hvb hvc hal hbl hcl hXl hYl hZl
  generalize as0.take 12 = as0' at *
  generalize bs.take 12 = bs' at *
  generalize cs.take 12 = cs' at *
  have E : Hid (Env w w) := ⟨Below.refl _ _⟩
  go_enter Try.func3, Try.ntmps3
  go_wp2_with fail
  refine (hfa w l_a.out).mono ?_
  rintro e w1 ⟨u1, rfl, l_u, hB⟩
  replace l_u := hidden l_u
  replace l_a := hidden (l_a.out.below hB)
  replace l_b := hidden (l_b.out.below hB)
  replace l_c := hidden (l_c.out.below hB)
  replace E := hidden (E.out.next hB)
  clear hB l_a
  go_wp2_with fail
  refine (hoa u1 w1 l_u.out).mono ?_
  rintro e w2 ⟨ax, kx, rfl, l_x, hB⟩
  replace l_x := hidden l_x
  replace l_b := hidden (l_b.out.below hB)
  replace l_c := hidden (l_c.out.below hB)
  replace l_u := hidden (l_u.out.below hB)
  replace E := hidden (E.out.next hB)
  clear hB l_u
  go_wp2_with fail
  refine (hfb w2 l_b.out).mono ?_
  rintro e w3 ⟨u2, rfl, l_u, hB⟩
  replace l_u := hidden l_u
  replace l_b := hidden (l_b.out.below hB)
  replace l_c := hidden (l_c.out.below hB)
  replace l_x := hidden (l_x.out.below hB)
  replace E := hidden (E.out.next hB)
  clear hB l_b
  go_wp2_with fail
  refine (hob u2 w3 l_u.out).mono ?_
  rintro e w4 ⟨ay, ky, rfl, l_y, hB⟩
  replace l_y := hidden l_y
  replace l_c := hidden (l_c.out.below hB)
  replace l_x := hidden (l_x.out.below hB)
  replace l_u := hidden (l_u.out.below hB)
  replace E := hidden (E.out.next hB)
  clear hB l_u
  go_wp2_with fail
  refine (hfc w4 l_c.out).mono ?_
  rintro e w5 ⟨u3, rfl, l_u, hB⟩
  replace l_u := hidden l_u
  replace l_c := hidden (l_c.out.below hB)
  replace l_x := hidden (l_x.out.below hB)
  replace l_y := hidden (l_y.out.below hB)
  replace E := hidden (E.out.next hB)
  clear hB l_c
  go_wp2_with fail
  refine (hoc u3 w5 l_u.out).mono ?_
  rintro e w6 ⟨az, kz, rfl, l_z, hB⟩
  replace l_z := hidden l_z
  replace l_x := hidden (l_x.out.below hB)
  replace l_y := hidden (l_y.out.below hB)
  replace l_u := hidden (l_u.out.below hB)
  replace E := hidden (E.out.next hB)
  clear hB l_u
  go_wp2_with fail
  refine (hpa _ _ w6 l_x.out.holds l_y.out.holds).mono ?_
  rintro e w7 ⟨v1, rfl, l_v, hB⟩
  replace l_v := hidden l_v
  replace l_x := hidden (l_x.out.below hB)
  replace l_y := hidden (l_y.out.below hB)
  replace l_z := hidden (l_z.out.below hB)
  replace E := hidden (E.out.next hB)
  clear hB 
  go_wp2_with fail
  refine (hpb _ _ w7 l_v.out l_z.out.holds).mono ?_
  rintro e w8 ⟨v2, rfl, l_w, hB⟩
  replace l_w := hidden l_w
  replace l_x := hidden (l_x.out.below hB)
  replace l_y := hidden (l_y.out.below hB)
  replace l_z := hidden (l_z.out.below hB)
  replace l_v := hidden (l_v.out.below hB)
  replace E := hidden (E.out.next hB)
  clear hB l_v
  go_wp2_with fail
  refine (fewN_c _ X w8 l_x.out.holds hX12.out).mono ?_
  rintro e w9 ⟨a1, k1, rfl, l_1, hB⟩
  replace l_1 := hidden l_1
  replace l_x := hidden (l_x.out.below hB)
  replace l_y := hidden (l_y.out.below hB)
  replace l_z := hidden (l_z.out.below hB)
  replace l_w := hidden (l_w.out.below hB)
  replace E := hidden (E.out.next hB)
  clear hB 
  go_wp2_with fail
  refine (fewN_c _ Y w9 l_y.out.holds hY12.out).mono ?_
  rintro e w10 ⟨a2, k2, rfl, l_2, hB⟩
  replace l_2 := hidden l_2
  replace l_x := hidden (l_x.out.below hB)
  replace l_y := hidden (l_y.out.below hB)
  replace l_z := hidden (l_z.out.below hB)
  replace l_w := hidden (l_w.out.below hB)
  replace l_1 := hidden (l_1.out.below hB)
  replace E := hidden (E.out.next hB)
  clear hB l_y
  go_wp2_with fail
  refine (fewN_c _ Z w10 l_z.out.holds hZ12.out).mono ?_
  rintro e w11 ⟨a3, k3, rfl, l_3, hB⟩
  replace l_3 := hidden l_3
  replace l_x := hidden (l_x.out.below hB)
  replace l_z := hidden (l_z.out.below hB)
  replace l_w := hidden (l_w.out.below hB)
  replace l_1 := hidden (l_1.out.below hB)
  replace l_2 := hidden (l_2.out.below hB)
  replace E := hidden (E.out.next hB)
  clear hB l_z
  go_wp2_with fail
  refine (hc3 a1 a2 a3 k1 k2 k3 _ w11 l_1.out l_2.out l_3.out).mono ?_
  rintro e w12 ⟨v3, rfl, l_v3, hB⟩
  replace l_v3 := hidden l_v3
  replace l_x := hidden (l_x.out.below hB)
  replace l_w := hidden (l_w.out.below hB)
  replace l_1 := hidden (l_1.out.below hB)
  replace l_2 := hidden (l_2.out.below hB)
  replace l_3 := hidden (l_3.out.below hB)
  replace E := hidden (E.out.next hB)
  clear hB l_1 l_2 l_3
  go_wp2_with fail
  refine (sameN_c v3 v2 U w12 l_v3.out l_w.out hUl.out).mono ?_
  rintro e w13 ⟨rfl, hB⟩
  replace l_x := hidden (l_x.out.below hB)
  replace l_w := hidden (l_w.out.below hB)
  replace l_v3 := hidden (l_v3.out.below hB)
  replace E := hidden (E.out.next hB)
  clear hB l_v3 l_w
  go_wp2_with fail
  refine (fewN_c _ X w13 l_x.out.holds hX12.out).mono ?_
  rintro e w14 ⟨a4, k4, rfl, l_4, hB⟩
  replace l_4 := hidden l_4
  replace l_x := hidden (l_x.out.below hB)
  replace E := hidden (E.out.next hB)
  clear hB 
  go_wp2_with fail
  refine (hc1 a4 k4 _ w14 l_4.out).mono ?_
  rintro e w15 ⟨v4, rfl, l_v4, hB⟩
  replace l_v4 := hidden l_v4
  replace l_x := hidden (l_x.out.below hB)
  replace l_4 := hidden (l_4.out.below hB)
  replace E := hidden (E.out.next hB)
  clear hB l_4
  go_wp2_with fail
  refine (sameN_c v4 _ X w15 l_v4.out l_x.out.holds hX65.out).mono ?_
  rintro e w16 ⟨rfl, hB⟩
  replace l_x := hidden (l_x.out.below hB)
  replace l_v4 := hidden (l_v4.out.below hB)
  replace E := hidden (E.out.next hB)
  clear hB l_v4
  go_wp2_with fail
  refine (common0B_c w16).mono ?_
  rintro e w17 ⟨rfl, hB⟩
  replace l_x := hidden (l_x.out.below hB)
  replace E := hidden (E.out.next hB)
  clear hB l_x
  go_wp2_with fail
  refine (hlv w17).mono ?_
  rintro e wz ⟨rfl, hC⟩
  have hfin : Hid (GoX.Calm w wz) := (GoX.Calm.of_below E.out.below).trans hC
  clear hC E
  go_wp2
  go_ret
  exact ⟨by simp, hfin.out⟩
end Go.Proofs.Ytbkldenjldejiaa
