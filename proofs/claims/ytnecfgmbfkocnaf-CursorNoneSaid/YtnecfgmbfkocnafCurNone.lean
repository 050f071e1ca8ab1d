/-
  MARKS WITHOUT A TREE: cursor.Fits, behind and Next of no tree, by contract.
-/
import Derived.Test.YtnecfgmbfkocnafMkSame
namespace Go.Proofs.Ytnecfgmbfkocnaf
open Go.ChangeShapes Go.WideShapes Go.ChangeAt Go.RowKit

def noRow : Value := .agg #[.slice none 0 0, .int .i64 0, .int .u64 0]
def noMk : Mk := ⟨0, false, [], 0, []⟩
/-- What calls of no tree return. -/
structure CNones : Prop where
  row : ∀ (x : Value), x.oneCell' = true → ∀ w, Calls Try.prog 15 #[.pointer none, x] w fun e w' => e = .returned (.tuple #[.agg #[.slice none 0 0, .int .i64 0, .int .u64 0], .bool false]) ∧ GoX.Calm w w'
  first : ∀ w, Calls Try.prog 20 #[.pointer none] w fun e w' => e = .returned (.tuple #[.agg #[.slice none 0 0, .int .i64 0, .int .u64 0], .bool false]) ∧ GoX.Calm w w'
theorem results_row_tmp2 {P : Program} {fn : Func} {p u v : Tmp} {ty : TypeId} (h : fn.results = #[.cell p ty, .tmp u, .tmp v]) (tmps : Array Value) (w : World) (g : Nat) (t : TypeId) (cs : Array Value) (fr : Nat × Nat) (d : TypeDesc)
    (hp : tmps.getD p undef = .pointer (some ⟨g, 0, none⟩)) (hg : w.heap[g]? = some (.cells cs t fr))
    (hu : P.underlying ty = some d) (hd : (match d with | .struct _ | .array _ _ => true | _ => false) = true) (hi : (P.info? ty).map (·.size) = some cs.size) :
    (results fn tmps).run P w = .ok (.tuple #[.agg cs, tmps.getD u undef, tmps.getD v undef]) w := by
  have hp' : tmps[p]?.getD undef = .pointer (some ⟨g, 0, none⟩) := by simpa using hp
  simp [results, h, hp', asAddr, run_loadVar_row w g t ty cs fr d hg hu hd hi]
theorem results_rows_tmp {P : Program} {fn : Func} {p q u : Tmp} {ty tz : TypeId} (h : fn.results = #[.cell p ty, .cell q tz, .tmp u]) (tmps : Array Value) (w : World) (g g2 : Nat) (t t2 : TypeId) (cs ds : Array Value) (fr fr2 : Nat × Nat) (d d2 : TypeDesc)
    (hp : tmps.getD p undef = .pointer (some ⟨g, 0, none⟩)) (hq : tmps.getD q undef = .pointer (some ⟨g2, 0, none⟩)) (hg : w.heap[g]? = some (.cells cs t fr)) (hg2 : w.heap[g2]? = some (.cells ds t2 fr2))
    (hu : P.underlying ty = some d) (hd : (match d with | .struct _ | .array _ _ => true | _ => false) = true) (hi : (P.info? ty).map (·.size) = some cs.size)
    (hu2 : P.underlying tz = some d2) (hd2 : (match d2 with | .struct _ | .array _ _ => true | _ => false) = true) (hi2 : (P.info? tz).map (·.size) = some ds.size) :
    (results fn tmps).run P w = .ok (.tuple #[.agg cs, .agg ds, tmps.getD u undef]) w := by
  have hp' : tmps[p]?.getD undef = .pointer (some ⟨g, 0, none⟩) := by simpa using hp
  have hq' : tmps[q]?.getD undef = .pointer (some ⟨g2, 0, none⟩) := by simpa using hq
  simp [results, h, hp', hq', asAddr, run_loadVar_row w g t ty cs fr d hg hu hd hi, run_loadVar_row w g2 t2 tz ds fr2 d2 hg2 hu2 hd2 hi2]
theorem box3f {x : World} {b : Nat} {c0 c1 c2 : Value} {t : TypeId} (h : x.heap[b]? = some (.cells #[c0, c1, c2] t)) :
    (x.cell? ⟨b, 0, none⟩ = some c0 ∧ x.cell? ⟨b, 1, none⟩ = some c1 ∧ x.cell? ⟨b, 2, none⟩ = some c2) ∧ x.frozen? ⟨b, 0, none⟩ = false ∧ x.frozen? ⟨b, 1, none⟩ = false ∧ x.frozen? ⟨b, 2, none⟩ = false := by
  simp [World.cell?, World.frozen?, h]
theorem set3 {x : World} {b : Nat} {a0 a1 a2 : Value} {t : TypeId} (h : x.heap[b]? = some (.cells #[a0, a1, a2] t)) (c0 c1 c2 : Value) :
    (((x.setCell ⟨b, 0, none⟩ c0).setCell ⟨b, 1, none⟩ c1).setCell ⟨b, 2, none⟩ c2).heap[b]? = some (.cells #[c0, c1, c2] t) := by
  have h3 := set_heap (set_heap (set_heap h 0 c0) 1 c1) 2 c2
  simpa using h3
theorem set5 {x : World} {b : Nat} {a0 a1 a2 a3 a4 : Value} {t : TypeId} (h : x.heap[b]? = some (.cells #[a0, a1, a2, a3, a4] t)) (c0 c1 c2 c3 c4 : Value) :
    (((((x.setCell ⟨b, 0, none⟩ c0).setCell ⟨b, 1, none⟩ c1).setCell ⟨b, 2, none⟩ c2).setCell ⟨b, 3, none⟩ c3).setCell ⟨b, 4, none⟩ c4).heap[b]? = some (.cells #[c0, c1, c2, c3, c4] t) := by
  have h3 := set_heap (set_heap (set_heap (set_heap (set_heap h 0 c0) 1 c1) 2 c2) 3 c3) 4 c4
  simpa using h3
theorem calm_heap {x y : World} {b : Nat} {o : Obj} (h : GoX.Calm x y) (hb : x.heap[b]? = some o) : y.heap[b]? = some o := (h.block _ (Array.getElem?_eq_some_iff.1 hb).1).trans hb
theorem goodM_ends {m : Mk} (h : goodM m = true) (ho : m.over = true) : m.nodes.length = 0 := by
  rcases Nat.eq_zero_or_pos m.nodes.length with h1 | h1
  · exact h1
  · rw [goodM_over (by omega) ho] at h; cases h
set_option maxHeartbeats 1600000 in
theorem fits_c (hN : CNones) (m : Mk) (na : Option Addr) (nc : Nat) (ia : Option Addr) (ic : Nat) (w : World) (hz : m.nodes.length ≤ 17592186044416) (hv : Holds w (.slice na m.nodes.length nc) (m.nodes.map (Value.int .i64))) :
    Calls Try.prog 8 #[.pointer none, mkS m na nc ia ic] w fun e w' => e = .returned (.bool (goodM m && decide (m.nodes.length = 0))) ∧ GoX.Calm w w' := by
  have hX0 := hidden (heap_alloc_new w (.cells #[.int .i64 m.told, .bool m.over, .slice na m.nodes.length nc, .int .u64 m.rest, .slice ia m.items.length ic] 26))
  have hC0 : Hid (GoX.Calm w (w.alloc (.cells #[.int .i64 m.told, .bool m.over, .slice na m.nodes.length nc, .int .u64 m.rest, .slice ia m.items.length ic] 26))) := calm_alloc _ _
  have hgood : ∀ x, GoX.Calm w x → Calls Try.prog 14 #[mkS m na nc ia ic] x fun e w' => e = .returned (.bool (goodM m)) ∧ Below x.heap.size x w' := fun x h => cgood_c m na nc ia ic x hz (hv.calm h)
  have hends := hidden (goodM_ends (m := m))
  clear hv
  unfold mkS at *
  generalize goodM m = G at *
  generalize hwe : w.alloc (.cells #[.int .i64 m.told, .bool m.over, .slice na m.nodes.length nc, .int .u64 m.rest, .slice ia m.items.length ic] 26) = wx at *
  replace hwe := hidden hwe
  obtain ⟨⟨b0, b1, b2, b3, b4⟩, -⟩ := box5f hX0.out
  go_enter Try.func8, Try.ntmps8
  go_wp2_with fail
  rw [hwe.out]
  go_wp2_with fail
  refine (hgood wx hC0.out).mono ?_
  rintro e w1 ⟨rfl, hB1⟩
  have hC1 := hidden (hC0.out.trans (GoX.Calm.of_below hB1))
  have hX1 := hidden (calm_heap (GoX.Calm.of_below hB1) hX0.out)
  clear b0 b1 b2 b3 b4 hB1
  obtain ⟨⟨b0, b1, b2, b3, b4⟩, -⟩ := box5f hX1.out
  cases G with
  | false =>
    go_wp2_with fail
    refine (hgood w1 hC1.out).mono ?_
    rintro e w2 ⟨rfl, hB2⟩
    have hC2 := hidden (hC1.out.trans (GoX.Calm.of_below hB2))
    clear hB2
    go_wp2
    go_ret
    exact ⟨by first | done | rfl | simp, hC2.out⟩
  | true =>
    by_cases h5 : m.nodes.length = 0
    · have hj5 : ((m.nodes.length : Int) == 0) = true := by simp [h5]
      have he : Hid (decide (m.nodes.length = 0) = true) := decide_eq_true h5
      replace h5 := hidden h5
      cases ho : m.over with
      | true =>
        rw [ho] at b1
        replace ho := hidden ho
        go_wp2_with fail
        rw [ho.out] at hgood
        refine (hgood w1 hC1.out).mono ?_
        rintro e w2 ⟨rfl, hB2⟩
        have hC2 := hidden (hC1.out.trans (GoX.Calm.of_below hB2))
        clear hB2
        go_wp2
        go_ret
        exact ⟨by rw [he.out]; first | done | rfl | simp, hC2.out⟩
      | false =>
        rw [ho] at b1
        replace ho := hidden ho
        go_wp2_with fail
        rw [ho.out] at hgood
        refine (hgood w1 hC1.out).mono ?_
        rintro e w2 ⟨rfl, hB2⟩
        have hC2 := hidden (hC1.out.trans (GoX.Calm.of_below hB2))
        clear hB2
        go_wp2
        go_ret
        exact ⟨by rw [he.out]; first | done | rfl | simp, hC2.out⟩
    · have hj5 : ((m.nodes.length : Int) == 0) = false := beq_eq_false_iff_ne.2 (by omega)
      have he : Hid (decide (m.nodes.length = 0) = false) := decide_eq_false h5
      have ho : m.over = false := by
        cases ho : m.over with
        | false => rfl
        | true => exact absurd (hends.out rfl ho) h5
      rw [ho] at b1
      replace ho := hidden ho
      replace h5 := hidden h5
      have hrow := fun w => hN.row (.slice na m.nodes.length nc) rfl w
      go_wp2_with fail
      refine (hrow _).mono ?_
      rintro e w2 ⟨rfl, hB2⟩
      have hC2 := hidden (hC1.out.trans hB2)
      have hX2 := hidden (calm_heap hB2 hX1.out)
      clear hB2 b0 b1 b2 b3 b4
      obtain ⟨⟨b0, b1, b2, b3, b4⟩, -⟩ := box5f hX2.out
      go_wp2
      go_ret
      exact ⟨by rw [he.out]; first | done | rfl | simp, hC2.out.trans (calm_alloc _ _)⟩
set_option maxHeartbeats 1600000 in
theorem behind_c (hN : CNones) (m : Mk) (na : Option Addr) (nc : Nat) (ia : Option Addr) (ic : Nat) (w : World) (h5 : m.nodes.length = 0) :
    Calls Try.prog 12 #[.pointer none, mkS m na nc ia ic] w fun e w' => e = .returned (.tuple #[.agg #[.slice none 0 0, .int .i64 0, .int .u64 0], .int .u64 0, .bool false]) ∧ GoX.Calm w w' := by
  have hX0 := hidden (heap2_old w (.cells #[.int .i64 m.told, .bool m.over, .slice na m.nodes.length nc, .int .u64 m.rest, .slice ia m.items.length ic] 26) (.cells #[.slice none 0 0, .int .i64 0, .int .u64 0] 29))
  have hR0 := hidden (heap2_new w (.cells #[.int .i64 m.told, .bool m.over, .slice na m.nodes.length nc, .int .u64 m.rest, .slice ia m.items.length ic] 26) (.cells #[.slice none 0 0, .int .i64 0, .int .u64 0] 29))
  have hC0 : Hid (GoX.Calm w ((w.alloc (.cells #[.int .i64 m.told, .bool m.over, .slice na m.nodes.length nc, .int .u64 m.rest, .slice ia m.items.length ic] 26)).alloc (.cells #[.slice none 0 0, .int .i64 0, .int .u64 0] 29))) := (calm_alloc _ _).trans (calm_alloc _ _)
  have hj5 : ((m.nodes.length : Int) == 0) = true := by simp [h5]
  replace h5 := hidden h5
  unfold mkS
  generalize hwe : (w.alloc (.cells #[.int .i64 m.told, .bool m.over, .slice na m.nodes.length nc, .int .u64 m.rest, .slice ia m.items.length ic] 26)).alloc (.cells #[.slice none 0 0, .int .i64 0, .int .u64 0] 29) = wx at *
  replace hwe := hidden hwe
  obtain ⟨⟨b0, b1, b2, b3, b4⟩, -⟩ := box5f hX0.out
  obtain ⟨⟨r0, r1, r2⟩, s0, s1, s2⟩ := box3f hR0.out
  cases ho : m.over with
  | true =>
    rw [ho] at b1 hwe
    replace ho := hidden ho
    go_enter Try.func12, Try.ntmps12
    go_wp2_with fail
    rw [hwe.out]
    exact bodyPost_ret (results_row_tmp2 rfl _ _ (w.heap.size + 1) _ _ _ _ rfl hR0.out Try.underlying29 rfl (by kernel_rfl)) rfl ⟨rfl, hC0.out⟩
  | false =>
    rw [ho] at b1 hwe
    replace ho := hidden ho
    have hfirst := hN.first
    go_enter Try.func12, Try.ntmps12
    go_wp2_with fail
    rw [hwe.out]
    go_wp2_with fail
    refine (hfirst _).mono ?_
    rintro e w2 ⟨rfl, hB2⟩
    have hC2 := hidden (hC0.out.trans hB2)
    have hR2 := hidden (calm_heap hB2 hR0.out)
    clear hB2 b0 b1 b2 b3 b4 r0 r1 r2 s0 s1 s2
    have hR3 := hidden ((heap_alloc_old w2 (.cells #[.slice none 0 0, .int .i64 0, .int .u64 0] 29) (Array.getElem?_eq_some_iff.1 hR2.out).1).trans hR2.out)
    have hC3 := hidden (hC2.out.trans (calm_alloc w2 (.cells #[.slice none 0 0, .int .i64 0, .int .u64 0] 29)))
    obtain ⟨⟨r0, r1, r2⟩, s0, s1, s2⟩ := box3f hR3.out
    have hfin := hidden (set3 hR3.out (.slice none 0 0) (.int .i64 0) (.int .u64 0))
    have hC4 := hidden (calm_set (calm_set (calm_set hC3.out (b := w.heap.size + 1) (off := 0) (by omega) (.slice none 0 0)) (b := w.heap.size + 1) (off := 1) (by omega) (.int .i64 0)) (b := w.heap.size + 1) (off := 2) (by omega) (.int .u64 0))
    go_wp2
    exact bodyPost_ret (results_row_tmp2 rfl _ _ (w.heap.size + 1) _ _ _ _ rfl hfin.out Try.underlying29 rfl (by kernel_rfl)) rfl ⟨rfl, hC4.out⟩
/-- The mark behind a mark, of no tree. -/
def nextM (m : Mk) : Mk := if goodM m && decide (m.nodes.length = 0) then ⟨m.told, true, [], 0, []⟩ else noMk
/-- Two results, stored one behind the other, in either order. -/
def put3 (x : World) (b : Nat) (c0 c1 c2 : Value) : World := ((x.setCell ⟨b, 0, none⟩ c0).setCell ⟨b, 1, none⟩ c1).setCell ⟨b, 2, none⟩ c2
def put5 (x : World) (b : Nat) (c0 c1 c2 c3 c4 : Value) : World := ((((x.setCell ⟨b, 0, none⟩ c0).setCell ⟨b, 1, none⟩ c1).setCell ⟨b, 2, none⟩ c2).setCell ⟨b, 3, none⟩ c3).setCell ⟨b, 4, none⟩ c4
theorem put3_oth {x : World} {b c : Nat} {o : Obj} (h : x.heap[c]? = some o) (hne : b ≠ c) (c0 c1 c2 : Value) : (put3 x b c0 c1 c2).heap[c]? = some o := set_oth (set_oth (set_oth h hne _ _) hne _ _) hne _ _
theorem put5_oth {x : World} {b c : Nat} {o : Obj} (h : x.heap[c]? = some o) (hne : b ≠ c) (c0 c1 c2 c3 c4 : Value) : (put5 x b c0 c1 c2 c3 c4).heap[c]? = some o := set_oth (set_oth (set_oth (set_oth (set_oth h hne _ _) hne _ _) hne _ _) hne _ _) hne _ _
theorem put3_calm {w x : World} (h : GoX.Calm w x) {b : Nat} (hb : w.heap.size ≤ b) (c0 c1 c2 : Value) : GoX.Calm w (put3 x b c0 c1 c2) := calm_set (calm_set (calm_set h hb _) hb _) hb _
theorem put5_calm {w x : World} (h : GoX.Calm w x) {b : Nat} (hb : w.heap.size ≤ b) (c0 c1 c2 c3 c4 : Value) : GoX.Calm w (put5 x b c0 c1 c2 c3 c4) := calm_set (calm_set (calm_set (calm_set (calm_set h hb _) hb _) hb _) hb _) hb _
theorem put3_at {x : World} {b : Nat} {a0 a1 a2 : Value} {t : TypeId} (h : x.heap[b]? = some (.cells #[a0, a1, a2] t)) (c0 c1 c2 : Value) : (put3 x b c0 c1 c2).heap[b]? = some (.cells #[c0, c1, c2] t) := set3 h c0 c1 c2
theorem put5_at {x : World} {b : Nat} {a0 a1 a2 a3 a4 : Value} {t : TypeId} (h : x.heap[b]? = some (.cells #[a0, a1, a2, a3, a4] t)) (c0 c1 c2 c3 c4 : Value) : (put5 x b c0 c1 c2 c3 c4).heap[b]? = some (.cells #[c0, c1, c2, c3, c4] t) := set5 h c0 c1 c2 c3 c4
theorem drew_at {x : World} {b : Nat} {o : Option Obj} (h : x.heap[b]? = o) : x.drew.heap[b]? = o := h
theorem both_put {w x : World} {t u : TypeId} {a0 a1 a2 d0 d1 d2 d3 d4 : Value} (hC : GoX.Calm w x) (hR : x.heap[w.heap.size + 1]? = some (.cells #[a0, a1, a2] t)) (hM : x.heap[w.heap.size + 1 + 1]? = some (.cells #[d0, d1, d2, d3, d4] u)) (n : Int) :
    (put5 (put3 x (w.heap.size + 1) (.slice none 0 0) (.int .i64 0) (.int .u64 0)) (w.heap.size + 1 + 1) (.int .i64 n) (.bool true) (.slice none 0 0) (.int .u64 0) (.slice none 0 0)).drew.heap[w.heap.size + 1]? = some (.cells #[.slice none 0 0, .int .i64 0, .int .u64 0] t) ∧
    (put5 (put3 x (w.heap.size + 1) (.slice none 0 0) (.int .i64 0) (.int .u64 0)) (w.heap.size + 1 + 1) (.int .i64 n) (.bool true) (.slice none 0 0) (.int .u64 0) (.slice none 0 0)).drew.heap[w.heap.size + 1 + 1]? = some (.cells #[.int .i64 n, .bool true, .slice none 0 0, .int .u64 0, .slice none 0 0] u) ∧
    GoX.Calm w (put5 (put3 x (w.heap.size + 1) (.slice none 0 0) (.int .i64 0) (.int .u64 0)) (w.heap.size + 1 + 1) (.int .i64 n) (.bool true) (.slice none 0 0) (.int .u64 0) (.slice none 0 0)).drew := by
  refine ⟨drew_at (put5_oth (put3_at hR _ _ _) (by omega) _ _ _ _ _), drew_at (put5_at (put3_oth hM (by omega) _ _ _) _ _ _ _ _), ?_⟩
  have h := put5_calm (put3_calm hC (b := w.heap.size + 1) (by omega) (.slice none 0 0) (.int .i64 0) (.int .u64 0)) (b := w.heap.size + 1 + 1) (by omega) (.int .i64 n) (.bool true) (.slice none 0 0) (.int .u64 0) (.slice none 0 0)
  exact h.trans (GoX.Calm.of_below (Below.refl _ _).drew)
set_option maxHeartbeats 3200000 in
theorem next_c (hN : CNones) (m : Mk) (na : Option Addr) (nc : Nat) (ia : Option Addr) (ic : Nat) (w : World) (hz : m.nodes.length ≤ 17592186044416) (hv : Holds w (.slice na m.nodes.length nc) (m.nodes.map (Value.int .i64))) :
    Calls Try.prog 5 #[.pointer none, mkS m na nc ia ic] w fun e w' => e = .returned (.tuple #[.agg #[.slice none 0 0, .int .i64 0, .int .u64 0], mkS (nextM m) none 0 none 0, .bool false]) ∧ GoX.Calm w w' := by
  have hc1 := Below.heap_alloc
  obtain ⟨wx, hwe⟩ : ∃ wx, wx = ((w.alloc (.cells #[.int .i64 m.told, .bool m.over, .slice na m.nodes.length nc, .int .u64 m.rest, .slice ia m.items.length ic] 26)).alloc (.cells #[.slice none 0 0, .int .i64 0, .int .u64 0] 29)).alloc (.cells #[.int .i64 0, .bool false, .slice none 0 0, .int .u64 0, .slice none 0 0] 26) := ⟨_, rfl⟩
  clear hc1
  have hX0 : Hid (wx.heap[w.heap.size]? = some (.cells #[.int .i64 m.told, .bool m.over, .slice na m.nodes.length nc, .int .u64 m.rest, .slice ia m.items.length ic] 26)) := by
    rw [hwe]; exact (heap_alloc_old _ _ (by show _ < ((w.heap.push _).push _).size; simp; omega)).trans (heap2_old _ _ _)
  have hR0 : Hid (wx.heap[w.heap.size + 1]? = some (.cells #[.slice none 0 0, .int .i64 0, .int .u64 0] 29)) := by
    rw [hwe]; exact (heap_alloc_old _ _ (by show _ < ((w.heap.push _).push _).size; simp)).trans (heap2_new _ _ _)
  have hM0 : Hid (wx.heap[w.heap.size + 2]? = some (.cells #[.int .i64 0, .bool false, .slice none 0 0, .int .u64 0, .slice none 0 0] 26)) := by
    rw [hwe]
    show (((w.heap.push _).push _).push _)[_]? = _
    rw [Array.getElem?_push, if_pos (by simp)]
  have hC0 : Hid (GoX.Calm w wx) := by rw [hwe]; exact ((calm_alloc _ _).trans (calm_alloc _ _)).trans (calm_alloc _ _)
  have hfits : ∀ x, GoX.Calm w x → Calls Try.prog 8 #[.pointer none, mkS m na nc ia ic] x fun e w' => e = .returned (.bool (goodM m && decide (m.nodes.length = 0))) ∧ GoX.Calm x w' := fun x h => fits_c hN m na nc ia ic x hz (hv.calm h)
  have hE : Hid (nextM m = _) := hidden (show nextM m = if goodM m && decide (m.nodes.length = 0) then ⟨m.told, true, [], 0, []⟩ else noMk from rfl)
  have hbeh : Hid ((goodM m && decide (m.nodes.length = 0)) = true → m.nodes.length = 0) := fun h => by rw [Bool.and_eq_true, decide_eq_true_eq] at h; exact h.2
  clear hv hz
  generalize (goodM m && decide (m.nodes.length = 0)) = G at *
  generalize nextM m = nm at *
  have hbh := fun h5 x => behind_c hN m na nc ia ic x h5
  unfold mkS at *
  replace hwe := hidden hwe.symm
  obtain ⟨⟨b0, b1, b2, b3, b4⟩, -⟩ := box5f hX0.out
  go_enter Try.func5, Try.ntmps5
  go_wp2_with fail
  rw [hwe.out]
  go_wp2_with fail
  refine (hfits wx hC0.out).mono ?_
  rintro e w1 ⟨rfl, hD⟩
  have hC1 := hidden (hC0.out.trans hD)
  have hX1 := hidden (calm_heap hD hX0.out)
  have hR1 := hidden (calm_heap hD hR0.out)
  have hM1 := hidden (calm_heap hD hM0.out)
  clear hD b0 b1 b2 b3 b4 hfits
  obtain ⟨⟨b0, b1, b2, b3, b4⟩, -⟩ := box5f hX1.out
  obtain ⟨⟨r0, r1, r2⟩, s0, s1, s2⟩ := box3f hR1.out
  obtain ⟨⟨p0, p1, p2, p3, p4⟩, q0, q1, q2, q3, q4⟩ := box5f hM1.out
  cases G with
  | false =>
    have hm : nm = noMk := hE.out
    subst hm
    clear hE hbeh hbh
    have n1 : w.heap.size + 2 ≠ w.heap.size + 1 := by omega
    have n2 : w.heap.size + 1 ≠ w.heap.size + 2 := by omega
    have hR2 := hidden (put5_oth (set3 hR1.out (.slice none 0 0) (.int .i64 0) (.int .u64 0)) n1 (.int .i64 0) (.bool false) (.slice none 0 0) (.int .u64 0) (.slice none 0 0))
    have hM2 := hidden (set5 (put3_oth hM1.out n2 (.slice none 0 0) (.int .i64 0) (.int .u64 0)) (.int .i64 0) (.bool false) (.slice none 0 0) (.int .u64 0) (.slice none 0 0))
    have hC2 := hidden (put5_calm (put3_calm hC1.out (b := w.heap.size + 1) (by omega) (.slice none 0 0) (.int .i64 0) (.int .u64 0)) (b := w.heap.size + 2) (by omega) (.int .i64 0) (.bool false) (.slice none 0 0) (.int .u64 0) (.slice none 0 0))
    unfold put5 at hR2 hC2
    unfold put3 at hM2 hC2
    go_wp2
    exact bodyPost_ret (results_rows_tmp rfl _ _ (w.heap.size + 1) (w.heap.size + 2) _ _ _ _ _ _ _ _ rfl rfl hR2.out hM2.out Try.underlying29 rfl (by kernel_rfl) Try.underlying26 rfl (by kernel_rfl)) rfl ⟨rfl, hC2.out⟩
  | true =>
    have hm : nm = ⟨m.told, true, [], 0, []⟩ := hE.out
    subst hm
    have h5 := hbeh.out rfl
    have hb := hbh h5
    replace h5 := hidden h5
    clear hE hbeh hbh
    go_wp2_with fail
    refine (hb _).mono ?_
    rintro e w2 ⟨rfl, hD⟩
    have hC2 := hidden (hC1.out.trans (hD.trans (calm_alloc w2 (.cells #[.slice none 0 0, .int .i64 0, .int .u64 0] 29))))
    have hX2 := hidden (calm_heap (hD.trans (calm_alloc w2 (.cells #[.slice none 0 0, .int .i64 0, .int .u64 0] 29))) hX1.out)
    have hR2 := hidden (calm_heap (hD.trans (calm_alloc w2 (.cells #[.slice none 0 0, .int .i64 0, .int .u64 0] 29))) hR1.out)
    have hM2 := hidden (calm_heap (hD.trans (calm_alloc w2 (.cells #[.slice none 0 0, .int .i64 0, .int .u64 0] 29))) hM1.out)
    clear hD b0 b1 b2 b3 b4 r0 r1 r2 s0 s1 s2 p0 p1 p2 p3 p4 q0 q1 q2 q3 q4 hb
    obtain ⟨⟨b0, b1, b2, b3, b4⟩, -⟩ := box5f hX2.out
    obtain ⟨⟨r0, r1, r2⟩, s0, s1, s2⟩ := box3f hR2.out
    obtain ⟨⟨p0, p1, p2, p3, p4⟩, q0, q1, q2, q3, q4⟩ := box5f hM2.out
    have n1 : w.heap.size + 2 ≠ w.heap.size + 1 := by omega
    have n2 : w.heap.size + 1 ≠ w.heap.size + 2 := by omega
    generalize hw3 : w2.alloc (.cells #[.slice none 0 0, .int .i64 0, .int .u64 0] 29) = w3 at *
    replace hw3 := hidden hw3
    go_wp2_with fail
    rw [hw3.out]
    clear hX2 hX1 hR1 hM1 hC1 hX0 hR0 hM0 hC0 hN
    go_region
    clear b0 b1 b2 b3 b4 r0 r1 r2 s0 s1 s2 p0 p1 p2 p3 p4 q0 q1 q2 q3 q4
    go_wp2
    obtain ⟨hR3, hM3, hC3⟩ := both_put hC2.out hR2.out hM2.out m.told
    unfold put5 put3 at hR3 hM3 hC3
    replace hR3 := hidden hR3
    replace hM3 := hidden hM3
    replace hC3 := hidden hC3
    exact bodyPost_ret (results_rows_tmp rfl _ _ (w.heap.size + 1) (w.heap.size + 1 + 1) _ _ _ _ _ _ _ _ rfl rfl hR3.out hM3.out Try.underlying29 rfl (by kernel_rfl) Try.underlying26 rfl (by kernel_rfl)) rfl ⟨rfl, hC3.out⟩
end Go.Proofs.Ytnecfgmbfkocnaf
