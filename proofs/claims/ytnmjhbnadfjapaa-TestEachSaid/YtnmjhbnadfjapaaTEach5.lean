/-
  WHETHER TWO LISTS OF NUMBERS ARE THE SAME, by its contract.
-/
import Derived.Test.YtnmjhbnadfjapaaRec
import Derived.Deep.QuietTactic
import Derived.BigQuiet
import Derived.Test.YtnmjhbnadfjapaaTEach4
import Derived.Test.YtnmjhbnadfjapaaCommon
import Derived.Test.YtnmjhbnadfjapaaColNew
namespace Go.Proofs.Ytnmjhbnadfjapaa
open Go.ChangeShapes Go.WideShapes Go.ChangeAt Go.RowKit

theorem same_ends {xs ys : List Int} (k : Nat) (hl : xs.length = ys.length) (ht : xs.take k = ys.take k) (hk : xs.length ≤ k) : decide (xs = ys) = true := by
  rw [List.take_of_length_le hk, List.take_of_length_le (by omega)] at ht
  exact decide_eq_true ht
theorem same_parts {xs ys : List Int} (k : Nat) (h : xs.getD k 0 ≠ ys.getD k 0) : decide (xs = ys) = false := by
  refine decide_eq_false fun e => h (by rw [e])

set_option maxHeartbeats 800000 in
set_option maxRecDepth 1000000 in
theorem same_c (va vb : Value) (xs ys : List Int) (w : World) (hva : Holds w va (xs.map (Value.int .i64))) (hvb : Holds w vb (ys.map (Value.int .i64))) (hx : xs.length ≤ 17592186044416) (hy : ys.length ≤ 17592186044416) :
    Calls Try.prog 17 #[va, vb] w fun e w' => e = .returned (.bool (decide (xs = ys))) ∧ Below w.heap.size w w' := by
  obtain ⟨a, cap, rfl, hra⟩ := hva
  obtain ⟨b, cap', rfl, hrb⟩ := hvb
  rw [List.length_map, List.length_map]
  by_cases hl : xs.length = ys.length
  · go_enter Try.func17, Try.ntmps17
    go_wp2
    go_loopw [5] (fun i wr => ∃ k : Nat, k ≤ xs.length ∧ i = .int .i64 k ∧ xs.take k = ys.take k ∧ Below w.heap.size w wr)
      (fun i _ => xs.length - (intOf i).toNat)
    case atStart => exact ⟨0, Nat.zero_le _, rfl, rfl, Below.refl _ _⟩
    case round =>
      obtain ⟨k, hk, rfl, ht, hnx⟩ := hrel
      by_cases hlt : k < xs.length
      · rcases hra with h0 | ⟨b1, o1, rfl, hb1, hc1⟩
        · simp only [List.map_eq_nil_iff] at h0; subst h0; simp at hlt
        rcases hrb with h0 | ⟨b2, o2, rfl, hb2, hc2⟩
        · simp only [List.map_eq_nil_iff] at h0; subst h0; simp at hl; rw [hl] at hlt; simp at hlt
        have hx1 : wr.cell? ⟨b1, o1 + k, none⟩ = some (.int .i64 (xs.getD k 0)) := (hnx.cell (by exact hb1)).trans (hc1 k _ (by simp [hlt]))
        have hx2 : wr.cell? ⟨b2, o2 + k, none⟩ = some (.int .i64 (ys.getD k 0)) := (hnx.cell (by exact hb2)).trans (hc2 k _ (by simp [show k < ys.length by omega]))
        have hlt2 : k < ys.length := by omega
        have hts : xs.getD k 0 = ys.getD k 0 → xs.take (k + 1) = ys.take (k + 1) := fun e => by
          rw [List.take_add_one, List.take_add_one, ht, List.getElem?_eq_getElem hlt, List.getElem?_eq_getElem hlt2]
          simp [List.getD, hlt, hlt2] at e
          simp [e]
        have hne := same_parts (xs := xs) (ys := ys) k
        clear hc1 hc2
        generalize xs.getD k 0 = x at *
        generalize ys.getD k 0 = y at *
        go_wp2
        go_region
        all_goals (try go_wp2)
        · have h : (x != y) = true := by assumption
          go_ret
          exact ⟨ret_bool (hne (by simpa using h)).symm, hnx.drew⟩
        · have h : (x != y) = false := by assumption
          go_roundw
          case rel => exact ⟨k + 1, by omega, by go_num, hts (by simpa using h), hnx.drew⟩
          case measure => simp [intOf]; omega
      · go_wp2
        go_ret
        exact ⟨ret_bool (same_ends k hl ht (by omega)).symm, hnx⟩
  · have e : decide (xs = ys) = false := decide_eq_false fun e => hl (by rw [e])
    have hl' : ((xs.length : Int) == (ys.length : Int)) = false := by simp; omega
    go_enter Try.func17, Try.ntmps17
    go_wp2
    go_ret
    exact ⟨ret_bool e.symm, Below.refl _ _⟩
end Go.Proofs.Ytnmjhbnadfjapaa
/-
  A TEST, SOMEWHAT CUT, by contract; two lists in common; and what the law's walk needs of boxes.
-/
namespace Go.Proofs.Ytnmjhbnadfjapaa
open Go.ChangeShapes Go.WideShapes Go.ChangeAt Go.RowKit Go.Maps

theorem heap_set5 {x : World} {b : Nat} {a0 a1 a2 a3 a4 : Value} {t : TypeId} (h : x.heap[b]? = some (.cells #[a0, a1, a2, a3, a4] t)) (u0 u1 u2 u3 u4 : Value) :
    (((((x.setCell ⟨b, 0, none⟩ u0).setCell ⟨b, 1, none⟩ u1).setCell ⟨b, 2, none⟩ u2).setCell ⟨b, 3, none⟩ u3).setCell ⟨b, 4, none⟩ u4).heap[b]? = some (.cells #[u0, u1, u2, u3, u4] t) := by
  have h1 := set_heap h 0 u0
  have h2 := set_heap h1 1 u1
  have h3 := set_heap h2 2 u2
  have h4 := set_heap h3 3 u3
  have h5 := set_heap h4 4 u4
  simpa using h5
theorem oth_set5 {x : World} {b g : Nat} {o : Obj} (h : x.heap[b]? = some o) (hne : g ≠ b) (u0 u1 u2 u3 u4 : Value) :
    (((((x.setCell ⟨g, 0, none⟩ u0).setCell ⟨g, 1, none⟩ u1).setCell ⟨g, 2, none⟩ u2).setCell ⟨g, 3, none⟩ u3).setCell ⟨g, 4, none⟩ u4).heap[b]? = some o :=
  set_oth (set_oth (set_oth (set_oth (set_oth h hne 0 u0) hne 1 u1) hne 2 u2) hne 3 u3) hne 4 u4
theorem frz5 {x : World} {b : Nat} {c0 c1 c2 c3 c4 : Value} {t : TypeId} (h : x.heap[b]? = some (.cells #[c0, c1, c2, c3, c4] t)) : x.frozen? ⟨b, 0, none⟩ = false ∧ x.frozen? ⟨b, 1, none⟩ = false ∧ x.frozen? ⟨b, 2, none⟩ = false ∧ x.frozen? ⟨b, 3, none⟩ = false ∧ x.frozen? ⟨b, 4, none⟩ = false := by
  simp [World.frozen?, h]
theorem OwnG.setT {g : Gr} {vs : List NdV} {a : Option Addr} {n c : Nat} {b : Option Addr} {m d : Nat} {x : World} {B : Nat} {cs : Array Value} (h : OwnG g vs a n c b m d x) (hb : x.heap[B]? = some (.cells cs 62)) (j : Nat) (v : Value) : OwnG g vs a n c b m d (x.setCell ⟨B, j, none⟩ v) :=
  ⟨⟨own_set h.nodes.row hb (by decide) _ _, h.nodes.len, fun i hi => ⟨(h.nodes.each i hi).1, own_set (h.nodes.each i hi).2 hb (by decide) _ _⟩⟩, own_set h.edges hb (by decide) _ _⟩
theorem OwnG.set5 {g : Gr} {vs : List NdV} {a : Option Addr} {n c : Nat} {b : Option Addr} {m d : Nat} {x : World} {B : Nat} {cs : Array Value} (h : OwnG g vs a n c b m d x) (hb : x.heap[B]? = some (.cells cs 62)) (u0 u1 u2 u3 u4 : Value) :
    OwnG g vs a n c b m d (((((x.setCell ⟨B, 0, none⟩ u0).setCell ⟨B, 1, none⟩ u1).setCell ⟨B, 2, none⟩ u2).setCell ⟨B, 3, none⟩ u3).setCell ⟨B, 4, none⟩ u4) := by
  have h1 := set_heap hb 0 u0
  have h2 := set_heap h1 1 u1
  have h3 := set_heap h2 2 u2
  have h4 := set_heap h3 3 u3
  exact ((((h.setT hb 0 u0).setT h1 1 u1).setT h2 2 u2).setT h3 3 u3).setT h4 4 u4
theorem below_set5 {w x : World} {B b : Nat} (h : Below B w x) (hb : B ≤ b) (u0 u1 u2 u3 u4 : Value) : Below B w (((((x.setCell ⟨b, 0, none⟩ u0).setCell ⟨b, 1, none⟩ u1).setCell ⟨b, 2, none⟩ u2).setCell ⟨b, 3, none⟩ u3).setCell ⟨b, 4, none⟩ u4) :=
  ((((h.setCell (p := ⟨b, 0, none⟩) hb u0).setCell (p := ⟨b, 1, none⟩) hb u1).setCell (p := ⟨b, 2, none⟩) hb u2).setCell (p := ⟨b, 3, none⟩) hb u3).setCell (p := ⟨b, 4, none⟩) hb u4
theorem natH {w : World} {v : Value} {X : List Nat} (h : HoldsR natR w v X) : Holds w v ((X.map fun (i : Nat) => (i : Int)).map (Value.int .i64)) := by
  obtain ⟨a, c, h1, h2⟩ := h
  rw [natR_flat] at h2
  refine ⟨a, c, by rw [h1]; simp, ?_⟩
  have e : ((X.map fun (i : Nat) => (i : Int)).map (Value.int .i64)) = ints X := by unfold ints; rw [List.map_map]; rfl
  rw [e]; exact h2
theorem intH {w : World} {v : Value} {l : List Int} (h : HoldsR intR w v l) : Holds w v (l.map (Value.int .i64)) := by
  obtain ⟨a, c, h1, h2⟩ := h
  have e : ∀ l : List Int, intR.flat l = l.map (Value.int .i64) := by
    intro l
    induction l with
    | nil => rfl
    | cons x r ih => rw [Rec.flat_cons, ih]; rfl
  rw [e] at h2
  exact ⟨a, c, by rw [h1, List.length_map], h2⟩
set_option maxHeartbeats 3200000 in
set_option maxRecDepth 100000 in
theorem tfew_c (q : Tst) (w : World) :
    Calls Try.prog 27 #[.agg #[.string q.s, .int .i64 q.o, .int .i64 q.k, .int .i64 q.n, .string q.t]] w fun e w' => e = .returned (.agg #[.string (cutB q.s 32), .int .i64 q.o, .int .i64 q.k, .int .i64 q.n, .string (cutB q.t 120)]) ∧ Below w.heap.size w w' := by
  obtain ⟨qs, qo, qk, qn, qt⟩ := q
  simp only
  obtain ⟨x, hx⟩ : ∃ x, x = (w.alloc (.cells #[.string qs, .int .i64 qo, .int .i64 qk, .int .i64 qn, .string qt] 62)).alloc (.cells #[.string ⟨#[]⟩, .int .i64 0, .int .i64 0, .int .i64 0, .string ⟨#[]⟩] 62) := ⟨_, rfl⟩
  have hB0 : Hid (Below w.heap.size w x) := by rw [hx]; exact ((Below.refl _ _).alloc (Nat.le_refl _) _).alloc (by simp) _
  have hX0 : Hid (x.heap[w.heap.size]? = some (.cells #[.string qs, .int .i64 qo, .int .i64 qk, .int .i64 qn, .string qt] 62)) := by
    rw [hx]
    exact heap_alloc_old (w.alloc (.cells #[.string qs, .int .i64 qo, .int .i64 qk, .int .i64 qn, .string qt] 62)) _ (by simp) |>.trans (heap_alloc_new w _)
  have hX1 : Hid (x.heap[w.heap.size + 1]? = some (.cells #[.string ⟨#[]⟩, .int .i64 0, .int .i64 0, .int .i64 0, .string ⟨#[]⟩] 62)) := by
    rw [hx]
    have h := heap_alloc_new (w.alloc (.cells #[.string qs, .int .i64 qo, .int .i64 qk, .int .i64 qn, .string qt] 62)) (.cells #[.string ⟨#[]⟩, .int .i64 0, .int .i64 0, .int .i64 0, .string ⟨#[]⟩] 62)
    rwa [show (w.alloc (.cells #[.string qs, .int .i64 qo, .int .i64 qk, .int .i64 qn, .string qt] 62)).heap.size = w.heap.size + 1 by simp] at h
  have hcut := hidden fun z => cut_c qs 32 z (by decide)
  have hvf := hidden fun z => vfew_c qk qn qt z
  generalize cutB qs 32 = cs at *
  generalize cutB qt 120 = ct at *
  have hS : x.drew.cell? ⟨w.heap.size, 0, none⟩ = some (.string qs) ∧ x.drew.cell? ⟨w.heap.size, 1, none⟩ = some (.int .i64 qo) ∧ x.drew.cell? ⟨w.heap.size, 2, none⟩ = some (.int .i64 qk) ∧ x.drew.cell? ⟨w.heap.size, 3, none⟩ = some (.int .i64 qn) ∧ x.drew.cell? ⟨w.heap.size, 4, none⟩ = some (.string qt) := box5t hX0.out
  go_enter Try.func27, Try.ntmps27
  go_wp2_with fail
  rw [← hx]
  replace hx := hidden hx
  go_wp2_with fail
  refine wp_region_parts (S := (fun z => z.cell? ⟨w.heap.size, 0, none⟩ = some (.string qs) ∧ z.cell? ⟨w.heap.size, 1, none⟩ = some (.int .i64 qo) ∧ z.cell? ⟨w.heap.size, 2, none⟩ = some (.int .i64 qk) ∧ z.cell? ⟨w.heap.size, 3, none⟩ = some (.int .i64 qn) ∧ z.cell? ⟨w.heap.size, 4, none⟩ = some (.string qt))) #[false, false, false, false, false, false, false, false, false, true] #[true, true, true, true, true, true, true, true, true, false] [9] 40 9 (by kernel_rfl) (by kernel_rfl) (by kernel_rfl) (by rfl) ?_ (fun hHeld => ?_)
  · exact hS
  first
    | (refine wpAnyH_take (i := 0) (v := ?_) at0 (by kernel_rfl) (by kernel_rfl) (by kernel_rfl) (fun _ _ _ h => h) (Or.inl ⟨by rfl, ?_⟩) (by assumption) ?_
       rotate_left
       · intro w hSw; (try dsimp only at hSw); go_simp; try with_reducible rfl)
    | fail "take 0"
  try simp only [Act.put, List.setIfInBounds_toArray, List.set_cons_zero, List.set_cons_succ]
  first
    | (refine wpAnyH_take (i := 1) (v := ?_) at1 (by kernel_rfl) (by kernel_rfl) (by kernel_rfl) (fun _ _ _ h => h) (Or.inl ⟨by rfl, ?_⟩) (by assumption) ?_
       rotate_left
       · intro w hSw; (try dsimp only at hSw); go_simp; try with_reducible rfl)
    | fail "take 1"
  try simp only [Act.put, List.setIfInBounds_toArray, List.set_cons_zero, List.set_cons_succ]
  first
    | (refine wpAnyH_take (i := 3) (v := ?_) at3 (by kernel_rfl) (by kernel_rfl) (by kernel_rfl) (fun _ _ _ h => h) (Or.inl ⟨by rfl, ?_⟩) (by assumption) ?_
       rotate_left
       · intro w hSw; (try dsimp only at hSw); go_simp; try with_reducible rfl)
    | fail "take 3"
  try simp only [Act.put, List.setIfInBounds_toArray, List.set_cons_zero, List.set_cons_succ]
  first
    | (refine wpAnyH_take (i := 4) (v := ?_) at4 (by kernel_rfl) (by kernel_rfl) (by kernel_rfl) (fun _ _ _ h => h) (Or.inl ⟨by rfl, ?_⟩) (by assumption) ?_
       rotate_left
       · intro w hSw; (try dsimp only at hSw); go_simp; try with_reducible rfl)
    | fail "take 4"
  try simp only [Act.put, List.setIfInBounds_toArray, List.set_cons_zero, List.set_cons_succ]
  first
    | (refine wpAnyH_take (i := 5) (v := ?_) at5 (by kernel_rfl) (by kernel_rfl) (by kernel_rfl) (fun _ _ _ h => h) (Or.inl ⟨by rfl, ?_⟩) (by assumption) ?_
       rotate_left
       · intro w hSw; (try dsimp only at hSw); go_simp; try with_reducible rfl)
    | fail "take 5"
  try simp only [Act.put, List.setIfInBounds_toArray, List.set_cons_zero, List.set_cons_succ]
  first
    | (refine wpAnyH_take (i := 6) (v := ?_) at6 (by kernel_rfl) (by kernel_rfl) (by kernel_rfl) (fun _ _ _ h => h) (Or.inl ⟨by rfl, ?_⟩) (by assumption) ?_
       rotate_left
       · intro w hSw; (try dsimp only at hSw); go_simp; try with_reducible rfl)
    | fail "take 6"
  try simp only [Act.put, List.setIfInBounds_toArray, List.set_cons_zero, List.set_cons_succ]
  refine wpAnyH_ready (rs := [2]) (by kernel_rfl) (by simp) ?_
  refine AllReadyH.cons (i := 2) at2 (fun K hK => ?_) AllReadyH.nil
  go_simp
  refine (hcut.out _).mono ?_
  rintro e y9 ⟨rfl, rfl⟩
  have hSn := hS
  refine hK.out _ _ ?_ (fun hNew => ?_)
  · exact hSn
  clear hK K hHeld
  have hHeld := hNew
  clear hNew
  try simp only [List.setIfInBounds_toArray, List.set_cons_zero, List.set_cons_succ]
  refine wpAnyH_ready (rs := [7]) (by kernel_rfl) (by simp) ?_
  refine AllReadyH.cons (i := 7) at7 (fun K hK => ?_) AllReadyH.nil
  go_simp
  refine (hvf.out _).mono ?_
  rintro e z9 ⟨rfl, hBz⟩
  have hBd : Hid (Below x.heap.size x z9) := hidden ((Below.refl _ _).drew.trans hBz)
  have hSn := box5t (box_below hX0.out hBd.out)
  refine hK.out _ _ ?_ (fun hNew => ?_)
  · exact hSn
  clear hK K hHeld
  have hHeld := hNew
  clear hNew
  try simp only [List.setIfInBounds_toArray, List.set_cons_zero, List.set_cons_succ]
  first
    | (refine wpAnyH_take (i := 8) (v := ?_) at8 (by kernel_rfl) (by kernel_rfl) (by kernel_rfl) (fun _ _ _ h => h) (Or.inl ⟨by rfl, ?_⟩) (by assumption) ?_
       rotate_left
       · intro w hSw; (try dsimp only at hSw); go_simp; try with_reducible rfl)
    | fail "take 8"
  try simp only [Act.put, List.setIfInBounds_toArray, List.set_cons_zero, List.set_cons_succ]
  refine tail_list (is := [9]) (l := _) (by kernel_rfl) (by kernel_rfl) (by kernel_rfl) rfl ?_
  simp only [List.filterMap_cons, List.filterMap_nil, at9]
  show wpList _ _ _ (_ :: _) _ _
  have hX2 := hidden (box_below hX1.out hBd.out)
  obtain ⟨f0, f1, f2, f3, f4⟩ := frz5 hX2.out
  obtain ⟨v0, v1, v2, v3, v4⟩ := box5t hX2.out
  have hfin := hidden (heap_set5 hX2.out (.string cs) (.int .i64 qo) (.int .i64 qk) (.int .i64 qn) (.string ct))
  have hBF := hidden (below_set5 (hB0.out.trans (hBd.out.mono hB0.out.size)) (show w.heap.size ≤ w.heap.size + 1 by omega) (.string cs) (.int .i64 qo) (.int .i64 qk) (.int .i64 qn) (.string ct))
  clear hBz hSn hS hHeld
  go_wp2
  refine bodyPost_ret (results_cell_row rfl _ _ (w.heap.size + 1) _ _ _ _ rfl hfin.out Try.underlying62 rfl (by kernel_rfl)) rfl ⟨rfl, hBF.out⟩
theorem row_newC {w : World} {t : TypeId} (vs : List Value) : Sl (w.alloc (.cells vs.toArray t)) (.slice (some ⟨w.heap.size, 0, none⟩) vs.length vs.length) vs := by
  refine ⟨_, _, rfl, Nat.le_refl _, fun e => (by cases e), fun x e => by cases e; rfl, .inr ⟨_, 0, rfl, by simp, fun j u hj => ?_⟩⟩
  have h := heap_alloc_new w (.cells vs.toArray t)
  simp only [World.cell?, h, Nat.zero_add]
  simpa using hj
theorem common2_c (a1 a2 : Option Addr) (k1 k2 : Nat) (p q : Nat → Bool) (t : TypeId) (w : World) (X Y : List Nat) (hX : Hid (X = L p)) (hY : Hid (Y = L q))
    (h1 : Sl w (.slice a1 X.length k1) (ints X)) (h2 : Sl w (.slice a2 Y.length k2) (ints Y)) :
    Calls Try.prog 32 #[.slice (some ⟨w.heap.size, 0, none⟩) 2 2] (w.alloc (.cells #[.slice a1 X.length k1, .slice a2 Y.length k2] t)) fun e w' =>
      ∃ v', e = .returned v' ∧ Holds w' v' (ints (L fun k => p k && q k)) ∧ Below w.heap.size w w' := by
  have hrow := row_newC (w := w) (t := t) [.slice a1 X.length k1, .slice a2 Y.length k2]
  have hB := (Below.refl w.heap.size w).alloc (Nat.le_refl _) (.cells #[.slice a1 X.length k1, .slice a2 Y.length k2] t)
  have hcom : Hid (Com X (fun _ => Y) 1 (rowF (fun _ => q) 1) (fun _ => q)) := by
    have h := com_of p (fun _ => q) 1
    have e : (fun _ : Nat => L q) = fun _ => Y := by
      funext i
      exact hY.out.symm
    rw [e, ← hX.out] at h
    exact h
  have e : X.filter (rowF (fun _ => q) 1) = L fun k => p k && q k := by
    rw [hX.out]
    unfold L
    rw [List.filter_filter]
    refine List.filter_congr fun k _ => ?_
    have : rowF (fun _ => q) 1 k = q k := by
      unfold rowF
      rw [show List.range 1 = [0] from rfl]
      simp
    rw [this]
    cases p k <;> cases q k <;> rfl
  rw [← e]
  generalize rowF (fun _ => q) 1 = F at *
  clear e hX hY
  refine (common_c w.heap.size 0 2 a1 k1 [.slice a2 Y.length k2] X (fun _ => Y) F (fun _ => q) _ hrow
    (by intro u hu; simp at hu; rw [hu]; rfl) (by simp) (h1.below hB) (fun i v hi => ?_) hcom).mono ?_
  · match i, hi with
    | 0, hi => cases hi; exact h2.below hB
    | i + 1, hi => simp at hi
  · rintro e w' ⟨v', rfl, hv, hB'⟩
    exact ⟨v', rfl, hv, hB.trans (hB'.mono (by simp))⟩
/-- The nodes, as numbers below 65536. -/
theorem bothN_L (ns : List Nd) (ts : List Tst) (h : ns.length ≤ 65536) : bothN ns ts ns.length = L fun k => decide (k < ns.length) && ts.all (sayT (ns.getD k Nd.none).ps) := by
  unfold bothN L
  have e : List.range 65536 = List.range ns.length ++ (List.range (65536 - ns.length)).map (fun i => ns.length + i) := by
    rw [← List.range_add, show ns.length + (65536 - ns.length) = 65536 by omega]
  rw [e, List.filter_append]
  have h2 : ((List.range (65536 - ns.length)).map (fun i => ns.length + i)).filter (fun k => decide (k < ns.length) && ts.all (sayT (ns.getD k Nd.none).ps)) = [] := by
    rw [List.filter_eq_nil_iff]
    intro x hx
    obtain ⟨i, _, rfl⟩ := List.mem_map.1 hx
    rw [decide_eq_false (by omega)]
    simp
  rw [h2, List.append_nil]
  refine List.filter_congr fun k hk => ?_
  rw [decide_eq_true (List.mem_range.1 hk), Bool.true_and]
theorem both_two (ns : List Nd) (A B : Tst) (h : ns.length ≤ 65536) : (L fun k => (decide (k < ns.length) && [A].all (sayT (ns.getD k Nd.none).ps)) && (decide (k < ns.length) && [B].all (sayT (ns.getD k Nd.none).ps))) = bothN ns [A, B] ns.length := by
  rw [bothN_L ns [A, B] h]
  unfold L
  refine List.filter_congr fun k _ => ?_
  simp only [List.all_cons, List.all_nil, Bool.and_true]
  cases decide (k < ns.length) <;> simp
end Go.Proofs.Ytnmjhbnadfjapaa
