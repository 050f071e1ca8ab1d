/-
  MARKS OF NO COSTS: anyk.From, mark.Good, Put, Next, Item of nil, by contract.
-/
import Derived.Test.YtnecfgmbfkocnaeGreatMark
namespace Go.Proofs.YtnecfgmbfkocnaeGreat
open Go.ChangeShapes Go.WideShapes Go.ChangeAt Go.RowKit

/-- A mark's value, its rows' slices told. -/
def mkS (m : Mk) (na : Option Addr) (nc : Nat) (ia : Option Addr) (ic : Nat) : Value := .agg #[.int .i64 m.told, .bool m.over, .slice na m.nodes.length nc, .int .u64 m.rest, .slice ia m.items.length ic]
theorem results_row_tmp {P : Program} {fn : Func} {p u : Tmp} {ty : TypeId} (h : fn.results = #[.cell p ty, .tmp u]) (tmps : Array Value) (w : World) (g : Nat) (t : TypeId) (cs : Array Value) (fr : Nat × Nat) (d : TypeDesc)
    (hp : tmps.getD p undef = .pointer (some ⟨g, 0, none⟩)) (hg : w.heap[g]? = some (.cells cs t fr))
    (hu : P.underlying ty = some d) (hd : (match d with | .struct _ | .array _ _ => true | _ => false) = true) (hi : (P.info? ty).map (·.size) = some cs.size) :
    (results fn tmps).run P w = .ok (.tuple #[.agg cs, tmps.getD u undef]) w := by
  have hp' : tmps[p]?.getD undef = .pointer (some ⟨g, 0, none⟩) := by simpa using hp
  simp [results, h, hp', asAddr, run_loadVar_row w g t ty cs fr d hg hu hd hi]
theorem results_row_tmp2 {P : Program} {fn : Func} {p u v : Tmp} {ty : TypeId} (h : fn.results = #[.cell p ty, .tmp u, .tmp v]) (tmps : Array Value) (w : World) (g : Nat) (t : TypeId) (cs : Array Value) (fr : Nat × Nat) (d : TypeDesc)
    (hp : tmps.getD p undef = .pointer (some ⟨g, 0, none⟩)) (hg : w.heap[g]? = some (.cells cs t fr))
    (hu : P.underlying ty = some d) (hd : (match d with | .struct _ | .array _ _ => true | _ => false) = true) (hi : (P.info? ty).map (·.size) = some cs.size) :
    (results fn tmps).run P w = .ok (.tuple #[.agg cs, tmps.getD u undef, tmps.getD v undef]) w := by
  have hp' : tmps[p]?.getD undef = .pointer (some ⟨g, 0, none⟩) := by simpa using hp
  simp [results, h, hp', asAddr, run_loadVar_row w g t ty cs fr d hg hu hd hi]
theorem results_rows_tmp {P : Program} {fn : Func} {p q u : Tmp} {ty tz : TypeId} (h : fn.results = #[.cell p ty, .cell q tz, .tmp u]) (tmps : Array Value) (w : World) (g g2 : Nat) (t t2 : TypeId) (cs ds : Array Value) (fr fr2 : Nat × Nat) (d d2 : TypeDesc)
    (hp : tmps.getD p undef = .pointer (some ⟨g, 0, none⟩)) (hq : tmps.getD q undef = .pointer (some ⟨g2, 0, none⟩)) (hg : w.heap[g]? = some (.cells cs t fr)) (hg2 : w.heap[g2]? = some (.cells ds t2 fr2))
    (hu : P.underlying ty = some d) (hd : (match d with | .struct _ | .array _ _ => true | _ => false) = true) (hi : (P.info? ty).map (·.size) = some cs.size)
    (hu2 : P.underlying tz = some d2) (hd2 : (match d2 with | .struct _ | .array _ _ => true | _ => false) = true) (hi2 : (P.info? tz).map (·.size) = some ds.size) :
    (results fn tmps).run P w = .ok (.tuple #[.agg cs, .agg ds, tmps.getD u undef]) w := by
  have hp' : tmps[p]?.getD undef = .pointer (some ⟨g, 0, none⟩) := by simpa using hp
  have hq' : tmps[q]?.getD undef = .pointer (some ⟨g2, 0, none⟩) := by simpa using hq
  simp [results, h, hp', hq', asAddr, run_loadVar_row w g t ty cs fr d hg hu hd hi, run_loadVar_row w g2 t2 tz ds fr2 d2 hg2 hu2 hd2 hi2]
theorem box3f {x : World} {b : Nat} {c0 c1 c2 : Value} {t : TypeId} (h : x.heap[b]? = some (.cells #[c0, c1, c2] t)) :
    (x.cell? ⟨b, 0, none⟩ = some c0 ∧ x.cell? ⟨b, 1, none⟩ = some c1 ∧ x.cell? ⟨b, 2, none⟩ = some c2) ∧ x.frozen? ⟨b, 0, none⟩ = false ∧ x.frozen? ⟨b, 1, none⟩ = false ∧ x.frozen? ⟨b, 2, none⟩ = false := by
  simp [World.cell?, World.frozen?, h]
theorem set3 {x : World} {b : Nat} {a0 a1 a2 : Value} {t : TypeId} (h : x.heap[b]? = some (.cells #[a0, a1, a2] t)) (c0 c1 c2 : Value) :
    (((x.setCell ⟨b, 0, none⟩ c0).setCell ⟨b, 1, none⟩ c1).setCell ⟨b, 2, none⟩ c2).heap[b]? = some (.cells #[c0, c1, c2] t) := by
  have h3 := set_heap (set_heap (set_heap h 0 c0) 1 c1) 2 c2
  simpa using h3
theorem set5 {x : World} {b : Nat} {a0 a1 a2 a3 a4 : Value} {t : TypeId} (h : x.heap[b]? = some (.cells #[a0, a1, a2, a3, a4] t)) (c0 c1 c2 c3 c4 : Value) :
    (((((x.setCell ⟨b, 0, none⟩ c0).setCell ⟨b, 1, none⟩ c1).setCell ⟨b, 2, none⟩ c2).setCell ⟨b, 3, none⟩ c3).setCell ⟨b, 4, none⟩ c4).heap[b]? = some (.cells #[c0, c1, c2, c3, c4] t) := by
  have h3 := set_heap (set_heap (set_heap (set_heap (set_heap h 0 c0) 1 c1) 2 c2) 3 c3) 4 c4
  simpa using h3
theorem calm_heap {x y : World} {b : Nat} {o : Obj} (h : GoX.Calm x y) (hb : x.heap[b]? = some o) : y.heap[b]? = some o := (h.block _ (Array.getElem?_eq_some_iff.1 hb).1).trans hb
/-- Two results, stored one behind the other, in either order. -/
def put3 (x : World) (b : Nat) (c0 c1 c2 : Value) : World := ((x.setCell ⟨b, 0, none⟩ c0).setCell ⟨b, 1, none⟩ c1).setCell ⟨b, 2, none⟩ c2
def put5 (x : World) (b : Nat) (c0 c1 c2 c3 c4 : Value) : World := ((((x.setCell ⟨b, 0, none⟩ c0).setCell ⟨b, 1, none⟩ c1).setCell ⟨b, 2, none⟩ c2).setCell ⟨b, 3, none⟩ c3).setCell ⟨b, 4, none⟩ c4
theorem put3_oth {x : World} {b c : Nat} {o : Obj} (h : x.heap[c]? = some o) (hne : b ≠ c) (c0 c1 c2 : Value) : (put3 x b c0 c1 c2).heap[c]? = some o := set_oth (set_oth (set_oth h hne _ _) hne _ _) hne _ _
theorem put5_oth {x : World} {b c : Nat} {o : Obj} (h : x.heap[c]? = some o) (hne : b ≠ c) (c0 c1 c2 c3 c4 : Value) : (put5 x b c0 c1 c2 c3 c4).heap[c]? = some o := set_oth (set_oth (set_oth (set_oth (set_oth h hne _ _) hne _ _) hne _ _) hne _ _) hne _ _
theorem put3_calm {w x : World} (h : GoX.Calm w x) {b : Nat} (hb : w.heap.size ≤ b) (c0 c1 c2 : Value) : GoX.Calm w (put3 x b c0 c1 c2) := calm_set (calm_set (calm_set h hb _) hb _) hb _
theorem put5_calm {w x : World} (h : GoX.Calm w x) {b : Nat} (hb : w.heap.size ≤ b) (c0 c1 c2 c3 c4 : Value) : GoX.Calm w (put5 x b c0 c1 c2 c3 c4) := calm_set (calm_set (calm_set (calm_set (calm_set h hb _) hb _) hb _) hb _) hb _
theorem put3_at {x : World} {b : Nat} {a0 a1 a2 : Value} {t : TypeId} (h : x.heap[b]? = some (.cells #[a0, a1, a2] t)) (c0 c1 c2 : Value) : (put3 x b c0 c1 c2).heap[b]? = some (.cells #[c0, c1, c2] t) := set3 h c0 c1 c2
theorem put5_at {x : World} {b : Nat} {a0 a1 a2 a3 a4 : Value} {t : TypeId} (h : x.heap[b]? = some (.cells #[a0, a1, a2, a3, a4] t)) (c0 c1 c2 c3 c4 : Value) : (put5 x b c0 c1 c2 c3 c4).heap[b]? = some (.cells #[c0, c1, c2, c3, c4] t) := set5 h c0 c1 c2 c3 c4
theorem from_c (v : Value) (w : World) : Calls Tryz.prog 19 #[.pointer none, v] w fun e w' => e = .returned (.tuple #[.pointer none, .int .i64 12]) ∧ w' = w := by
  go_enter Tryz.func19, Tryz.ntmps19
  go_wp2
  go_ret2
  exact ⟨rfl, rfl⟩
set_option maxHeartbeats 1600000 in
theorem mgood_c (m : Mk) (na : Option Addr) (nc : Nat) (ia : Option Addr) (ic : Nat) (w : World) :
    Calls Tryz.prog 11 #[.pointer none, mkS m na nc ia ic] w fun e w' => e = .returned (.bool false) ∧ Below w.heap.size w w' := by
  have hX0 := hidden (heap_alloc_new w (.cells #[.int .i64 m.told, .bool m.over, .slice na m.nodes.length nc, .int .u64 m.rest, .slice ia m.items.length ic] 26))
  have hB0 : Hid (Below w.heap.size w (w.alloc (.cells #[.int .i64 m.told, .bool m.over, .slice na m.nodes.length nc, .int .u64 m.rest, .slice ia m.items.length ic] 26))) := (Below.refl _ _).alloc (Nat.le_refl _) _
  obtain ⟨⟨b0, b1, b2, b3, b4⟩, -⟩ := box5f hX0.out
  have hf := fun v x => from_c v x
  unfold mkS
  clear hX0
  by_cases h1 : 0 < m.nodes.length
  · have hj : (0 : Int) < (m.nodes.length : Int) := by omega
    go_enter Tryz.func11, Tryz.ntmps11
    go_wp2
    go_ret
    exact ⟨by first | done | rfl, hB0.out⟩
  have h0 : m.nodes.length = 0 := by omega
  rw [h0] at hB0 b0 b1 b2 b3 b4 ⊢
  clear h1
  replace h0 := hidden h0
  by_cases h2 : m.rest = 0
  case neg =>
    have g2 : (m.rest != 0) = true := by simp [h2]
    replace h2 := hidden h2
    go_enter Tryz.func11, Tryz.ntmps11
    go_wp2
    go_ret
    exact ⟨by first | done | rfl, hB0.out⟩
  have g2 : (m.rest != 0) = false := by simp [h2]
  replace h2 := hidden h2
  by_cases h3 : m.told < 0
  · go_enter Tryz.func11, Tryz.ntmps11
    go_wp2
    go_ret
    exact ⟨by first | done | rfl, hB0.out⟩
  by_cases h4 : 9007199254740992 < m.told
  · go_enter Tryz.func11, Tryz.ntmps11
    go_wp2
    go_ret
    exact ⟨by first | done | rfl, hB0.out⟩
  go_enter Tryz.func11, Tryz.ntmps11
  go_wp2
  all_goals (go_ret; exact ⟨by first | done | rfl, hB0.out⟩)
theorem mput_c (m : Mk) (na : Option Addr) (nc : Nat) (ia : Option Addr) (ic : Nat) (w : World) :
    Calls Tryz.prog 6 #[.pointer none, mkS m na nc ia ic] w fun e w' => e = .returned (.tuple #[.string ⟨#[]⟩, .int .i64 1]) ∧ Below w.heap.size w w' := by
  have hB0 : Hid (Below w.heap.size w (w.alloc (.cells #[.int .i64 m.told, .bool m.over, .slice na m.nodes.length nc, .int .u64 m.rest, .slice ia m.items.length ic] 26))) := (Below.refl _ _).alloc (Nat.le_refl _) _
  obtain ⟨⟨b0, b1, b2, b3, b4⟩, -⟩ := box5f (heap_alloc_new w (.cells #[.int .i64 m.told, .bool m.over, .slice na m.nodes.length nc, .int .u64 m.rest, .slice ia m.items.length ic] 26))
  have hg := mgood_c m na nc ia ic (w.alloc (.cells #[.int .i64 m.told, .bool m.over, .slice na m.nodes.length nc, .int .u64 m.rest, .slice ia m.items.length ic] 26))
  unfold mkS at *
  go_enter Tryz.func6, Tryz.ntmps6
  go_wp2_with fail
  refine hg.mono ?_
  rintro e w1 ⟨rfl, hB⟩
  have hB1 := hidden (hB0.out.trans (hB.mono hB0.out.size))
  clear hB hB0 hg b0 b1 b2 b3 b4
  go_wp2
  go_ret2
  exact ⟨rfl, hB1.out⟩
theorem small_c (n : Int) (w : World) (h0 : 0 ≤ n) (h1 : n < 18446744073709551616) : Calls Tryz.prog 35 #[.int .u64 n] w fun e w' => (∃ z : Int, e = .returned (.int .i64 z) ∧ 0 ≤ z ∧ z ≤ 10000) ∧ w' = w := by
  by_cases h : n ≤ 10000
  · go_enter Tryz.func35, Tryz.ntmps35
    go_wp2
    go_ret
    exact ⟨⟨n, rfl, h0, h⟩, rfl⟩
  · go_enter Tryz.func35, Tryz.ntmps35
    go_wp2
    go_ret
    exact ⟨⟨10000, rfl, by omega, by omega⟩, rfl⟩
theorem tree_c (w : World) : Calls Tryz.prog 23 #[.pointer none] w fun e w' => e = .returned (.pointer none) ∧ w' = w := by
  go_enter Tryz.func23, Tryz.ntmps23
  go_wp2
  go_ret
  exact ⟨rfl, rfl⟩
end Go.Proofs.YtnecfgmbfkocnaeGreat
/-
  MARKS OF NO COSTS: mark.Next and mark.Item of nil, by contract.
-/
namespace Go.Proofs.YtnecfgmbfkocnaeGreat
open Go.ChangeShapes Go.WideShapes Go.ChangeAt Go.RowKit

def noItem : Value := .agg #[.int .i64 0, .slice none 0 0, .int .i64 0, .int .i64 0]
theorem box4f {x : World} {b : Nat} {c0 c1 c2 c3 : Value} {t : TypeId} (h : x.heap[b]? = some (.cells #[c0, c1, c2, c3] t)) :
    (x.cell? ⟨b, 0, none⟩ = some c0 ∧ x.cell? ⟨b, 1, none⟩ = some c1 ∧ x.cell? ⟨b, 2, none⟩ = some c2 ∧ x.cell? ⟨b, 3, none⟩ = some c3) ∧
    x.frozen? ⟨b, 0, none⟩ = false ∧ x.frozen? ⟨b, 1, none⟩ = false ∧ x.frozen? ⟨b, 2, none⟩ = false ∧ x.frozen? ⟨b, 3, none⟩ = false := by
  simp [World.cell?, World.frozen?, h]
theorem set4 {x : World} {b : Nat} {a0 a1 a2 a3 : Value} {t : TypeId} (h : x.heap[b]? = some (.cells #[a0, a1, a2, a3] t)) (c0 c1 c2 c3 : Value) :
    ((((x.setCell ⟨b, 0, none⟩ c0).setCell ⟨b, 1, none⟩ c1).setCell ⟨b, 2, none⟩ c2).setCell ⟨b, 3, none⟩ c3).heap[b]? = some (.cells #[c0, c1, c2, c3] t) := by
  have b1 := set_heap h 0 c0
  have b2 := set_heap b1 1 c1
  have b3 := set_heap b2 2 c2
  have b4 := set_heap b3 3 c3
  simpa using b4
theorem below_set4 {w x : World} (h : Below w.heap.size w x) {b : Nat} (hb : w.heap.size ≤ b) (c0 c1 c2 c3 : Value) :
    Below w.heap.size w ((((x.setCell ⟨b, 0, none⟩ c0).setCell ⟨b, 1, none⟩ c1).setCell ⟨b, 2, none⟩ c2).setCell ⟨b, 3, none⟩ c3) :=
  (((h.setCell hb _).setCell hb _).setCell hb _).setCell hb _
set_option maxHeartbeats 800000 in
theorem mitem_c (r : Int) (a : Option Addr) (n c : Nat) (w : World) : Calls Tryz.prog 9 #[.pointer none, .int .i64 r, .slice a n c] w fun e w' => e = .returned (.tuple #[noItem, .bool false]) ∧ Below w.heap.size w w' := by
  have hX := hidden (heap_alloc_new w (.cells #[.int .i64 0, .slice none 0 0, .int .i64 0, .int .i64 0] 39))
  have hB0 : Hid (Below w.heap.size w (w.alloc (.cells #[.int .i64 0, .slice none 0 0, .int .i64 0, .int .i64 0] 39))) := (Below.refl _ _).alloc (Nat.le_refl _) _
  obtain ⟨⟨b0, b1, b2, b3⟩, f0, f1, f2, f3⟩ := box4f hX.out
  have ht := fun x => tree_c x
  go_enter Tryz.func9, Tryz.ntmps9
  go_wp2_with fail
  refine (ht _).mono ?_
  rintro e w1 ⟨rfl, rfl⟩
  clear ht
  go_wp2
  exact bodyPost_ret (results_row_tmp rfl _ _ w.heap.size _ _ _ _ rfl hX.out Tryz.underlying39 rfl (by kernel_rfl)) rfl ⟨rfl, hB0.out⟩
set_option maxHeartbeats 1600000 in
theorem mnext_c (m : Mk) (na : Option Addr) (nc : Nat) (ia : Option Addr) (ic : Nat) (w : World) :
    Calls Tryz.prog 8 #[.pointer none, mkS m na nc ia ic] w fun e w' => e = .returned (.tuple #[.agg #[.slice none 0 0, .int .i64 0, .int .u64 0], .agg #[.int .i64 0, .bool false, .slice none 0 0, .int .u64 0, .slice none 0 0], .int .i64 12]) ∧ GoX.Calm w w' := by
  obtain ⟨wx, hwe⟩ : ∃ wx, wx = ((w.alloc (.cells #[.int .i64 m.told, .bool m.over, .slice na m.nodes.length nc, .int .u64 m.rest, .slice ia m.items.length ic] 26)).alloc (.cells #[.slice none 0 0, .int .i64 0, .int .u64 0] 35)).alloc (.cells #[.int .i64 0, .bool false, .slice none 0 0, .int .u64 0, .slice none 0 0] 26) := ⟨_, rfl⟩
  have hX0 : Hid (wx.heap[w.heap.size]? = some (.cells #[.int .i64 m.told, .bool m.over, .slice na m.nodes.length nc, .int .u64 m.rest, .slice ia m.items.length ic] 26)) := by
    rw [hwe]; exact (heap_alloc_old _ _ (by show _ < ((w.heap.push _).push _).size; simp; omega)).trans (heap2_old _ _ _)
  have hR0 : Hid (wx.heap[w.heap.size + 1]? = some (.cells #[.slice none 0 0, .int .i64 0, .int .u64 0] 35)) := by
    rw [hwe]; exact (heap_alloc_old _ _ (by show _ < ((w.heap.push _).push _).size; simp)).trans (heap2_new _ _ _)
  have hM0 : Hid (wx.heap[w.heap.size + 2]? = some (.cells #[.int .i64 0, .bool false, .slice none 0 0, .int .u64 0, .slice none 0 0] 26)) := by
    rw [hwe]
    show (((w.heap.push _).push _).push _)[_]? = _
    rw [Array.getElem?_push, if_pos (by simp)]
  have hC0 : Hid (GoX.Calm w wx) := by rw [hwe]; exact ((calm_alloc _ _).trans (calm_alloc _ _)).trans (calm_alloc _ _)
  have hg := mgood_c m na nc ia ic wx
  obtain ⟨⟨b0, b1, b2, b3, b4⟩, -⟩ := box5f hX0.out
  rw [hwe] at b0 b1 b2 b3 b4
  replace hwe := hidden hwe.symm
  unfold mkS at *
  go_enter Tryz.func8, Tryz.ntmps8
  go_wp2_with fail
  rw [hwe.out]
  refine hg.mono ?_
  rintro e w1 ⟨rfl, hD⟩
  have hC1 := hidden (hC0.out.trans (GoX.Calm.of_below hD))
  have hR1 := hidden (calm_heap (GoX.Calm.of_below hD) hR0.out)
  have hM1 := hidden (calm_heap (GoX.Calm.of_below hD) hM0.out)
  clear hD b0 b1 b2 b3 b4 hg hX0 hR0 hM0 hC0 hwe
  obtain ⟨⟨r0, r1, r2⟩, s0, s1, s2⟩ := box3f hR1.out
  obtain ⟨⟨p0, p1, p2, p3, p4⟩, q0, q1, q2, q3, q4⟩ := box5f hM1.out
  have n1 : w.heap.size + 2 ≠ w.heap.size + 1 := by omega
  have n2 : w.heap.size + 1 ≠ w.heap.size + 2 := by omega
  have hR2 := hidden (put5_oth (set3 hR1.out (.slice none 0 0) (.int .i64 0) (.int .u64 0)) n1 (.int .i64 0) (.bool false) (.slice none 0 0) (.int .u64 0) (.slice none 0 0))
  have hM2 := hidden (set5 (put3_oth hM1.out n2 (.slice none 0 0) (.int .i64 0) (.int .u64 0)) (.int .i64 0) (.bool false) (.slice none 0 0) (.int .u64 0) (.slice none 0 0))
  have hC2 := hidden (put5_calm (put3_calm hC1.out (b := w.heap.size + 1) (by omega) (.slice none 0 0) (.int .i64 0) (.int .u64 0)) (b := w.heap.size + 2) (by omega) (.int .i64 0) (.bool false) (.slice none 0 0) (.int .u64 0) (.slice none 0 0))
  unfold put5 at hR2 hC2
  unfold put3 at hM2 hC2
  go_wp2
  exact bodyPost_ret (results_rows_tmp rfl _ _ (w.heap.size + 1) (w.heap.size + 2) _ _ _ _ _ _ _ _ rfl rfl hR2.out hM2.out Tryz.underlying35 rfl (by kernel_rfl) Tryz.underlying26 rfl (by kernel_rfl)) rfl ⟨rfl, hC2.out⟩
end Go.Proofs.YtnecfgmbfkocnaeGreat
