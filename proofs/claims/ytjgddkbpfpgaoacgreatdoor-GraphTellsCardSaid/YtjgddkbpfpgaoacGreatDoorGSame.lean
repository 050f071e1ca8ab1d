/-
  GRAPHS HELD AGAINST EACH OTHER: the program's, by contract.
-/
import Derived.Test.YtjgddkbpfpgaoacGreatDoorGFew
import Derived.Laws.StructEq
namespace Go.Proofs.YtjgddkbpfpgaoacGreatDoor
open Go.ChangeShapes Go.WideShapes Go.ChangeAt Go.RowKit

/-- Are two the same? -/
noncomputable def eqB {α : Type} (a b : α) : Bool := @decide (a = b) (Classical.propDecidable _)
theorem eqB_yes {α : Type} {a b : α} (h : a = b) : eqB a b = true := by
  letI := Classical.propDecidable (a = b)
  exact decide_eq_true h
theorem eqB_no {α : Type} {a b : α} (h : ¬ a = b) : eqB a b = false := by
  letI := Classical.propDecidable (a = b)
  exact decide_eq_false h
theorem txt_ext {a b : ByteArray} (h : a.toList = b.toList) : a = b := by
  rw [ByteArray.toList_eq, ByteArray.toList_eq] at h
  obtain ⟨⟨x⟩⟩ := a
  obtain ⟨⟨y⟩⟩ := b
  simp only at h
  rw [h]
theorem txt_beq (a b : ByteArray) : (a.toList == b.toList) = eqB a b := by
  by_cases h : a = b
  · rw [eqB_yes h, h]; simp
  · rw [eqB_no h]
    simp only [beq_eq_false_iff_ne, ne_eq]
    exact fun e => h (txt_ext e)
theorem rows_no {α : Type} {d : α} {xs ys : List α} {k : Nat} (h : xs.getD k d ≠ ys.getD k d) : eqB xs ys = false := eqB_no fun e => h (by rw [e])
theorem rows_len {α : Type} {xs ys : List α} (h : xs.length ≠ ys.length) : eqB xs ys = false := eqB_no fun e => h (by rw [e])
theorem rows_all {α : Type} {d : α} {xs ys : List α} (hl : xs.length = ys.length) (h : ∀ j, j < xs.length → xs.getD j d = ys.getD j d) : eqB xs ys = true := eqB_yes (by
  refine List.ext_getElem hl fun j h1 h2 => ?_
  have := h j h1
  rwa [show xs.getD j d = xs[j] by simp [List.getD, h1], show ys.getD j d = ys[j] by simp [List.getD, h2]] at this)
theorem same_next {α : Type} {d : α} {xs ys : List α} {k : Nat} (h : ∀ j, j < k → xs.getD j d = ys.getD j d) (he : xs.getD k d = ys.getD k d) : ∀ j, j < k + 1 → xs.getD j d = ys.getD j d := fun j hj => by
  rcases Nat.lt_or_ge j k with h2 | h2
  · exact h j h2
  · obtain rfl : j = k := by omega
    exact he
theorem strp (a b c d : Value) (w : World) : (part 9 #[a, b, c, d] 0).run Tryz.prog w = .ok a w := by kernel_rfl
theorem valp (a b c d : Value) (w : World) : (part 29 #[a, b, c, d] 1).run Tryz.prog w = .ok (.agg #[b, c, d]) w := by kernel_rfl
theorem v0p (b c d : Value) (w : World) : (part 3 #[b, c, d] 0).run Tryz.prog w = .ok b w := by kernel_rfl
theorem v1p (b c d : Value) (w : World) : (part 3 #[b, c, d] 1).run Tryz.prog w = .ok c w := by kernel_rfl
theorem v2p (b c d : Value) (w : World) : (part 9 #[b, c, d] 2).run Tryz.prog w = .ok d w := by kernel_rfl
theorem e0p (a b c d : Value) (w : World) : (part 3 #[a, b, c, d] 0).run Tryz.prog w = .ok a w := by kernel_rfl
theorem e1p (a b c d : Value) (w : World) : (part 3 #[a, b, c, d] 1).run Tryz.prog w = .ok b w := by kernel_rfl
theorem e2p (a b c d : Value) (w : World) : (part 9 #[a, b, c, d] 2).run Tryz.prog w = .ok c w := by kernel_rfl
theorem e3p (a b c d : Value) (w : World) : (part 3 #[a, b, c, d] 3).run Tryz.prog w = .ok d w := by kernel_rfl
theorem eqs_run (d : Nat) (a b : ByteArray) (w : World) : (Op.equalIn (d + 1) 9 (.string a) (.string b)).run Tryz.prog w = .ok (a.toList == b.toList) w := run_equalIn_string w d 9 a b Tryz.underlying9
theorem eqi_run (d : Nat) (a b : Int) (w : World) : (Op.equalIn (d + 1) 3 (.int .i64 a) (.int .i64 b)).run Tryz.prog w = .ok (a == b) w := run_equalIn_int w d 3 .i64 .i64 a b Tryz.underlying3
set_option maxRecDepth 100000 in
theorem neqV (k n : Int) (t : ByteArray) (k' n' : Int) (t' : ByteArray) (d : Nat) (w : World) : (Op.equalIn (d + 2) 29 (.agg #[.int .i64 k, .int .i64 n, .string t]) (.agg #[.int .i64 k', .int .i64 n', .string t'])).run Tryz.prog w = .ok ((k == k') && ((n == n') && (t.toList == t'.toList))) w := by
  have h1 : Tryz.prog.fieldsOf 29 = (match (Tryz.prog.underlying 29) with | some (.struct fs) => fs | _ => #[]) := rfl
  rw [Tryz.underlying29] at h1
  simp only at h1
  rw [run_equalIn_agg w (d + 1) 29 _ _ (by rw [h1]; exact Tryz.underlying29) (by kernel_rfl), h1]
  simp only [Op.eqFields, Sem.run_ite, Sem.run_bind, v0p, v1p, v2p, Result.andThen_ok, eqi_run, eqs_run, ne_eq, String.reduceEq, not_false_eq_true, if_true, Sem.run_pure]
  generalize (k == k') = b1
  generalize (n == n') = b2
  generalize (t.toList == t'.toList) = b3
  cases b1 <;> cases b2 <;> cases b3 <;> rfl
set_option maxRecDepth 100000 in
theorem neqP (x y : Pp) (w : World) : (binOp .neq 43 (.agg #[.string x.s, .int .i64 x.k, .int .i64 x.n, .string x.t]) (.agg #[.string y.s, .int .i64 y.k, .int .i64 y.n, .string y.t])).run Tryz.prog w = .ok (.bool (!eqB x y)) w := by
  have e : (binOp .neq 43 (.agg #[.string x.s, .int .i64 x.k, .int .i64 x.n, .string x.t]) (.agg #[.string y.s, .int .i64 y.k, .int .i64 y.n, .string y.t])).run Tryz.prog w = .ok (.bool (!((x.s.toList == y.s.toList) && ((x.k == y.k) && ((x.n == y.n) && (x.t.toList == y.t.toList)))))) w := by
    have h0 : Tryz.prog.fieldsOf 43 = (match (Tryz.prog.underlying 43) with | some (.struct fs) => fs | _ => #[]) := rfl
    rw [Tryz.underlying43] at h0
    simp only at h0
    rw [run_neq_struct, show (10000:Nat) = 9999+1 from rfl, run_equalIn_agg _ _ _ _ _ (by rw [h0]; exact Tryz.underlying43) (by kernel_rfl), h0]
    have hs := fun a b w => eqs_run 9998 a b w
    have hv := fun k n t k' n' t' w => neqV k n t k' n' t' 9997 w
    simp only [Op.eqFields, Sem.run_ite, Sem.run_bind, strp, valp, Result.andThen_ok, hs, hv, ne_eq, String.reduceEq, not_false_eq_true, if_true, Sem.run_pure]
    generalize (x.s.toList == y.s.toList) = b0
    generalize ((x.k == y.k) && ((x.n == y.n) && (x.t.toList == y.t.toList))) = b1
    cases b0 <;> cases b1 <;> rfl
  rw [e]
  congr 2
  obtain ⟨s, k, n, t⟩ := x
  obtain ⟨s', k', n', t'⟩ := y
  by_cases h : (⟨s, k, n, t⟩ : Pp) = ⟨s', k', n', t'⟩
  · rw [eqB_yes h]
    cases h
    simp
  · rw [eqB_no h]
    simp only [Bool.not_false, Bool.not_eq_true', Bool.and_eq_false_imp, beq_iff_eq, beq_eq_false_iff_ne, ne_eq]
    intro e1 e2 e3 e4
    exact h (by rw [txt_ext e1, e2, e3, txt_ext e4])
set_option maxRecDepth 100000 in
theorem neqE (x y : Eg) (w : World) : (binOp .neq 35 (.agg #[.int .i64 x.f, .int .i64 x.t, .string x.l, .int .i64 x.w]) (.agg #[.int .i64 y.f, .int .i64 y.t, .string y.l, .int .i64 y.w])).run Tryz.prog w = .ok (.bool (!eqB x y)) w := by
  have e : (binOp .neq 35 (.agg #[.int .i64 x.f, .int .i64 x.t, .string x.l, .int .i64 x.w]) (.agg #[.int .i64 y.f, .int .i64 y.t, .string y.l, .int .i64 y.w])).run Tryz.prog w = .ok (.bool (!((x.f == y.f) && ((x.t == y.t) && ((x.l.toList == y.l.toList) && (x.w == y.w)))))) w := by
    have h0 : Tryz.prog.fieldsOf 35 = (match (Tryz.prog.underlying 35) with | some (.struct fs) => fs | _ => #[]) := rfl
    rw [Tryz.underlying35] at h0
    simp only at h0
    rw [run_neq_struct, show (10000:Nat) = 9999+1 from rfl, run_equalIn_agg _ _ _ _ _ (by rw [h0]; exact Tryz.underlying35) (by kernel_rfl), h0]
    have hs := fun a b w => eqs_run 9998 a b w
    have hi := fun a b w => eqi_run 9998 a b w
    simp only [Op.eqFields, Sem.run_ite, Sem.run_bind, e0p, e1p, e2p, e3p, Result.andThen_ok, hs, hi, ne_eq, String.reduceEq, not_false_eq_true, if_true, Sem.run_pure]
    generalize (x.f == y.f) = b0
    generalize (x.t == y.t) = b1
    generalize (x.l.toList == y.l.toList) = b2
    generalize (x.w == y.w) = b3
    cases b0 <;> cases b1 <;> cases b2 <;> cases b3 <;> rfl
  rw [e]
  congr 2
  obtain ⟨s, k, n, t⟩ := x
  obtain ⟨s', k', n', t'⟩ := y
  by_cases h : (⟨s, k, n, t⟩ : Eg) = ⟨s', k', n', t'⟩
  · rw [eqB_yes h]
    cases h
    simp
  · rw [eqB_no h]
    simp only [Bool.not_false, Bool.not_eq_true', Bool.and_eq_false_imp, beq_iff_eq, beq_eq_false_iff_ne, ne_eq]
    intro e1 e2 e3 e4
    exact h (by rw [e1, e2, txt_ext e3, e4])
set_option maxRecDepth 100000 in
set_option maxHeartbeats 3200000 in
theorem propsEq_c (xs ys : List Pp) (a b : Option Addr) (ca cb : Nat) (w : World) (ha : RowAt w a (propR.flat xs)) (hb : RowAt w b (propR.flat ys)) (hx : xs.length ≤ 1000000) :
    Calls Tryz.prog 24 #[.slice a xs.length ca, .slice b ys.length cb] w fun e w' => e = .returned (.bool (eqB xs ys)) ∧ Below w.heap.size w w' := by
  obtain ⟨N, hN⟩ : ∃ N, N = xs.length := ⟨_, rfl⟩
  obtain ⟨M, hM⟩ : ∃ M, M = ys.length := ⟨_, rfl⟩
  by_cases hl : xs.length = ys.length
  · rw [show ys.length = N by omega, ← hN]
    replace hx : N ≤ 1000000 := by omega
    have hl1 : ((N : Int) != (N : Int)) = false := by simp
    replace hN := hidden hN
    replace hl := hidden hl
    replace ha := hidden ha
    replace hb := hidden hb
    clear hM
    go_enter Tryz.func24, Tryz.ntmps24
    go_wp2
    clear hl1
    go_loopw [13] (fun i wr => ∃ k : Nat, k ≤ N ∧ i = .int .i64 k ∧ Hid (∀ j, j < k → xs.getD j Pp.none = ys.getD j Pp.none) ∧ Hid (Below w.heap.size w wr))
      (fun i _ => N - (intOf i).toNat)
    case atStart => exact ⟨0, Nat.zero_le _, rfl, (fun j hj => absurd hj (Nat.not_lt_zero j) : ∀ j, j < 0 → _), Below.refl _ _⟩
    case round =>
      obtain ⟨k, hk, rfl, ht, hB⟩ := hrel
      by_cases hlt : k < N
      · have hlt' : (k : Int) < (N : Int) := by omega
        have hlx : k < xs.length := by rw [← hN.out]; exact hlt
        obtain ⟨b1, o1, rfl, hb1, c0, c1, c2, c3⟩ := prop_at (ha.out.below hB.out) hlx
        obtain ⟨b2, o2, rfl, hb2, d0, d1, d2, d3⟩ := prop_at (hb.out.below hB.out) (k := k) (by rw [← hl.out]; exact hlx)
        have hno := hidden fun h => rows_no (d := Pp.none) (xs := xs) (ys := ys) (k := k) h
        have hnx := hidden (same_next (d := Pp.none) (xs := xs) (ys := ys) (k := k) ht.out)
        have hcmp := fun z => neqP (xs.getD k Pp.none) (ys.getD k Pp.none) z
        clear ht
        generalize xs.getD k Pp.none = x at *
        generalize ys.getD k Pp.none = y at *
        obtain ⟨x0, x1, x2, x3⟩ := x
        obtain ⟨y0, y1, y2, y3⟩ := y
        simp only at c0 c1 c2 c3 d0 d1 d2 d3 hcmp
        by_cases he : (⟨x0, x1, x2, x3⟩ : Pp) = ⟨y0, y1, y2, y3⟩
        · rw [eqB_yes he] at hcmp
          have hnx2 := hidden (hnx.out he)
          clear hnx hno he
          go_wp2
          first | done | (go_quiet (fail); go_wp2) | skip
          go_roundw
          case rel => exact ⟨k + 1, by omega, by go_num, hnx2, by first | exact hB | exact below_drewN hB.out _⟩
          case measure => simp [intOf]; omega
        · rw [eqB_no he] at hcmp
          have hno2 := hidden (hno.out he)
          clear hnx hno he
          go_wp2
          first | done | (go_quiet (fail); go_wp2) | skip
          go_ret
          exact ⟨by rw [hno2.out]; first | done | rfl, by first | exact hB.out | exact below_drewN hB.out _⟩
      · have hlt' : ¬ (k : Int) < (N : Int) := by omega
        obtain rfl : k = N := by omega
        have hall := hidden (rows_all (d := Pp.none) hl.out (by rw [← hN.out]; exact ht.out))
        clear ht
        go_wp2
        go_ret
        exact ⟨by rw [hall.out]; first | done | rfl, hB.out⟩
  · have hlen := hidden (rows_len hl)
    have hl1 : ((N : Int) != (M : Int)) = true := by simp; omega
    rw [← hN, ← hM]
    clear hN hM hl ha hb
    go_enter Tryz.func24, Tryz.ntmps24
    go_wp2
    go_ret
    exact ⟨by rw [hlen.out]; first | done | rfl, Below.refl _ _⟩
set_option maxRecDepth 100000 in
set_option maxHeartbeats 3200000 in
theorem edgesEq_c (xs ys : List Eg) (a b : Option Addr) (ca cb : Nat) (w : World) (ha : RowAt w a (edgeR.flat xs)) (hb : RowAt w b (edgeR.flat ys)) (hx : xs.length ≤ 1000000) :
    Calls Tryz.prog 26 #[.slice a xs.length ca, .slice b ys.length cb] w fun e w' => e = .returned (.bool (eqB xs ys)) ∧ Below w.heap.size w w' := by
  obtain ⟨N, hN⟩ : ∃ N, N = xs.length := ⟨_, rfl⟩
  obtain ⟨M, hM⟩ : ∃ M, M = ys.length := ⟨_, rfl⟩
  by_cases hl : xs.length = ys.length
  · rw [show ys.length = N by omega, ← hN]
    replace hx : N ≤ 1000000 := by omega
    have hl1 : ((N : Int) != (N : Int)) = false := by simp
    replace hN := hidden hN
    replace hl := hidden hl
    replace ha := hidden ha
    replace hb := hidden hb
    clear hM
    go_enter Tryz.func26, Tryz.ntmps26
    go_wp2
    clear hl1
    go_loopw [13] (fun i wr => ∃ k : Nat, k ≤ N ∧ i = .int .i64 k ∧ Hid (∀ j, j < k → xs.getD j Eg.none = ys.getD j Eg.none) ∧ Hid (Below w.heap.size w wr))
      (fun i _ => N - (intOf i).toNat)
    case atStart => exact ⟨0, Nat.zero_le _, rfl, (fun j hj => absurd hj (Nat.not_lt_zero j) : ∀ j, j < 0 → _), Below.refl _ _⟩
    case round =>
      obtain ⟨k, hk, rfl, ht, hB⟩ := hrel
      by_cases hlt : k < N
      · have hlt' : (k : Int) < (N : Int) := by omega
        have hlx : k < xs.length := by rw [← hN.out]; exact hlt
        obtain ⟨b1, o1, rfl, hb1, c0, c1, c2, c3⟩ := edge_at (ha.out.below hB.out) hlx
        obtain ⟨b2, o2, rfl, hb2, d0, d1, d2, d3⟩ := edge_at (hb.out.below hB.out) (k := k) (by rw [← hl.out]; exact hlx)
        have hno := hidden fun h => rows_no (d := Eg.none) (xs := xs) (ys := ys) (k := k) h
        have hnx := hidden (same_next (d := Eg.none) (xs := xs) (ys := ys) (k := k) ht.out)
        have hcmp := fun z => neqE (xs.getD k Eg.none) (ys.getD k Eg.none) z
        clear ht
        generalize xs.getD k Eg.none = x at *
        generalize ys.getD k Eg.none = y at *
        obtain ⟨x0, x1, x2, x3⟩ := x
        obtain ⟨y0, y1, y2, y3⟩ := y
        simp only at c0 c1 c2 c3 d0 d1 d2 d3 hcmp
        by_cases he : (⟨x0, x1, x2, x3⟩ : Eg) = ⟨y0, y1, y2, y3⟩
        · rw [eqB_yes he] at hcmp
          have hnx2 := hidden (hnx.out he)
          clear hnx hno he
          go_wp2
          first | done | (go_quiet (fail); go_wp2) | skip
          go_roundw
          case rel => exact ⟨k + 1, by omega, by go_num, hnx2, by first | exact hB | exact below_drewN hB.out _⟩
          case measure => simp [intOf]; omega
        · rw [eqB_no he] at hcmp
          have hno2 := hidden (hno.out he)
          clear hnx hno he
          go_wp2
          first | done | (go_quiet (fail); go_wp2) | skip
          go_ret
          exact ⟨by rw [hno2.out]; first | done | rfl, by first | exact hB.out | exact below_drewN hB.out _⟩
      · have hlt' : ¬ (k : Int) < (N : Int) := by omega
        obtain rfl : k = N := by omega
        have hall := hidden (rows_all (d := Eg.none) hl.out (by rw [← hN.out]; exact ht.out))
        clear ht
        go_wp2
        go_ret
        exact ⟨by rw [hall.out]; first | done | rfl, hB.out⟩
  · have hlen := hidden (rows_len hl)
    have hl1 : ((N : Int) != (M : Int)) = true := by simp; omega
    rw [← hN, ← hM]
    clear hN hM hl ha hb
    go_enter Tryz.func26, Tryz.ntmps26
    go_wp2
    go_ret
    exact ⟨by rw [hlen.out]; first | done | rfl, Below.refl _ _⟩
end Go.Proofs.YtjgddkbpfpgaoacGreatDoor
/-
  GRAPHS HELD AGAINST EACH OTHER: nodes, and the whole: the program's, by contract.
-/
namespace Go.Proofs.YtjgddkbpfpgaoacGreatDoor
open Go.ChangeShapes Go.WideShapes Go.ChangeAt Go.RowKit

theorem nd_eq {l l' : ByteArray} {ps qs : List Pp} (h : l.toList = l'.toList) : eqB ps qs = eqB (⟨l, ps⟩ : Nd) ⟨l', qs⟩ := by
  obtain rfl := txt_ext h
  by_cases hp : ps = qs
  · subst hp; rw [eqB_yes rfl, eqB_yes rfl]
  · rw [eqB_no hp, eqB_no (fun e => hp (by cases e; rfl))]
theorem nd_ne {l l' : ByteArray} {ps qs : List Pp} (h : ¬ l.toList = l'.toList) : eqB (⟨l, ps⟩ : Nd) ⟨l', qs⟩ = false := eqB_no fun e => h (by cases e; rfl)
set_option maxRecDepth 100000 in
set_option maxHeartbeats 3200000 in
theorem nodeEq_c (l l' : ByteArray) (ps qs : List Pp) (pa qa : Option Addr) (pc qc : Nat) (w : World) (hp : RowAt w pa (propR.flat ps)) (hq : RowAt w qa (propR.flat qs)) (hl : ps.length ≤ 1000000) :
    Calls Tryz.prog 23 #[.agg #[.string l, .slice pa ps.length pc], .agg #[.string l', .slice qa qs.length qc]] w fun e w' => e = .returned (.bool (eqB (⟨l, ps⟩ : Nd) ⟨l', qs⟩)) ∧ Below w.heap.size w w' := by
  have hB0 := ((Below.refl w.heap.size w).alloc (Nat.le_refl _) (.cells #[.string l, .slice pa ps.length pc] 33)).alloc (by simp) (.cells #[.string l', .slice qa qs.length qc] 33)
  have hc := propsEq_c ps qs pa qa pc qc _ (hp.below hB0) (hq.below hB0) hl
  have hX := heap_alloc_old (w.alloc (.cells #[.string l, .slice pa ps.length pc] 33)) (.cells #[.string l', .slice qa qs.length qc] 33) (by simp) |>.trans (heap_alloc_new w (.cells #[.string l, .slice pa ps.length pc] 33))
  have hY := heap_alloc_new (w.alloc (.cells #[.string l, .slice pa ps.length pc] 33)) (.cells #[.string l', .slice qa qs.length qc] 33)
  rw [show (w.alloc (.cells #[.string l, .slice pa ps.length pc] 33)).heap.size = w.heap.size + 1 by simp] at hY
  obtain ⟨⟨x0, x1⟩, -⟩ := box2f hX
  obtain ⟨⟨y0, y1⟩, -⟩ := box2f hY
  replace hB0 := hidden hB0
  clear hX hY hp hq
  by_cases he : l.toList = l'.toList
  · have hnd := hidden (nd_eq (ps := ps) (qs := qs) he)
    have he1 : (l.toList == l'.toList) = true := by simp [he]
    generalize eqB ps qs = bb at *
    generalize ps.length = n1 at *
    generalize qs.length = n2 at *
    clear he
    go_enter Tryz.func23, Tryz.ntmps23
    go_wp2_with fail
    refine hc.mono ?_
    rintro e w5 ⟨rfl, hB5⟩
    have hBF := hidden (hB0.out.trans (hB5.mono hB0.out.size))
    clear hc hB5 x0 x1 y0 y1
    go_wp2
    go_ret
    exact ⟨by rw [← hnd.out]; first | done | rfl, hBF.out⟩
  · have hnd := hidden (nd_ne (ps := ps) (qs := qs) he)
    have he1 : (l.toList == l'.toList) = false := by simp [he]
    clear he hc
    generalize ps.length = n1 at *
    generalize qs.length = n2 at *
    go_enter Tryz.func23, Tryz.ntmps23
    go_wp2
    go_ret
    exact ⟨by rw [hnd.out]; first | done | rfl, hB0.out⟩
set_option maxRecDepth 100000 in
set_option maxHeartbeats 3200000 in
theorem nodesEq_c (xs ys : List Nd) (a b : Option Addr) (ca cb : Nat) (w : World) (ha : HoldsN w (.slice a xs.length ca) xs) (hb : HoldsN w (.slice b ys.length cb) ys) (hx : xs.length ≤ 1000000) (hxp : ∀ x ∈ xs, x.ps.length ≤ 1000000) :
    Calls Tryz.prog 25 #[.slice a xs.length ca, .slice b ys.length cb, .func (.func 23) #[] #[]] w fun e w' => e = .returned (.bool (eqB xs ys)) ∧ Below w.heap.size w w' := by
  obtain ⟨N, hN⟩ : ∃ N, N = xs.length := ⟨_, rfl⟩
  obtain ⟨M, hM⟩ : ∃ M, M = ys.length := ⟨_, rfl⟩
  by_cases hl : xs.length = ys.length
  · rw [show ys.length = N by omega, ← hN]
    rw [show ys.length = N by omega] at hb
    rw [← hN] at ha
    replace hx : N ≤ 1000000 := by omega
    have hl1 : ((N : Int) != (N : Int)) = false := by simp
    replace hN := hidden hN
    replace hl := hidden hl
    replace ha := hidden ha
    replace hb := hidden hb
    replace hxp := hidden hxp
    clear hM
    go_enter Tryz.func25, Tryz.ntmps25
    go_wp2
    clear hl1
    go_loopw [17] (fun i wr => ∃ k : Nat, k ≤ N ∧ i = .int .i64 k ∧ Hid (∀ j, j < k → xs.getD j Nd.none = ys.getD j Nd.none) ∧ Hid (Below w.heap.size w wr))
      (fun i _ => N - (intOf i).toNat)
    case atStart => exact ⟨0, Nat.zero_le _, rfl, (fun j hj => absurd hj (Nat.not_lt_zero j) : ∀ j, j < 0 → _), Below.refl _ _⟩
    case round =>
      obtain ⟨k, hk, rfl, ht, hB⟩ := hrel
      by_cases hlt : k < N
      · have hlt' : (k : Int) < (N : Int) := by omega
        have hlx : k < xs.length := by rw [← hN.out]; exact hlt
        obtain ⟨b1, o1, pa, pn, pc, rfl, hb1, c0, c1, hp⟩ := node_at (ha.out.calm (.of_below hB.out)) hlx
        obtain ⟨b2, o2, qa, qn, qc, rfl, hb2, d0, d1, hq⟩ := node_at (hb.out.calm (.of_below hB.out)) (k := k) (by rw [← hl.out]; exact hlx)
        obtain ⟨pa', pc', hpe, hpr⟩ := hp
        simp only [Value.slice.injEq] at hpe
        obtain ⟨rfl, rfl, rfl⟩ := hpe
        obtain ⟨qa', qc', hqe, hqr⟩ := hq
        simp only [Value.slice.injEq] at hqe
        obtain ⟨rfl, rfl, rfl⟩ := hqe
        have hpl : (xs.getD k Nd.none).ps.length ≤ 1000000 := hxp.out _ (by
          rw [show xs.getD k Nd.none = xs[k] by simp [List.getD, hlx]]
          exact List.getElem_mem _)
        have hno := hidden fun h => rows_no (d := Nd.none) (xs := xs) (ys := ys) (k := k) h
        have hnx := hidden (same_next (d := Nd.none) (xs := xs) (ys := ys) (k := k) ht.out)
        clear ht
        generalize xs.getD k Nd.none = x at *
        generalize ys.getD k Nd.none = y at *
        obtain ⟨l1, ps⟩ := x
        obtain ⟨l2, qs⟩ := y
        simp only at c0 c1 d0 d1 hpr hqr hpl
        have hBA := ((Below.refl wr.heap.size wr).alloc (Nat.le_refl _) (.cells #[.string l1, .slice pa ps.length pc] 33)).alloc (by simp) (.cells #[.string l2, .slice qa qs.length qc] 33)
        have hc := nodeEq_c l1 l2 ps qs pa qa pc qc _ (hpr.below hBA) (hqr.below hBA) hpl
        have hX := heap_alloc_old (wr.alloc (.cells #[.string l1, .slice pa ps.length pc] 33)) (.cells #[.string l2, .slice qa qs.length qc] 33) (by simp) |>.trans (heap_alloc_new wr (.cells #[.string l1, .slice pa ps.length pc] 33))
        have hY := heap_alloc_new (wr.alloc (.cells #[.string l1, .slice pa ps.length pc] 33)) (.cells #[.string l2, .slice qa qs.length qc] 33)
        rw [show (wr.alloc (.cells #[.string l1, .slice pa ps.length pc] 33)).heap.size = wr.heap.size + 1 by simp] at hY
        obtain ⟨⟨x0, x1⟩, -⟩ := box2f hX
        obtain ⟨⟨y0, y1⟩, -⟩ := box2f hY
        have d0' := ((Below.refl wr.heap.size wr).alloc (Nat.le_refl _) (.cells #[.string l1, .slice pa ps.length pc] 33)).cell (p := ⟨b2, o2 + k * 2, none⟩) hb2 |>.trans d0
        have d1' := ((Below.refl wr.heap.size wr).alloc (Nat.le_refl _) (.cells #[.string l1, .slice pa ps.length pc] 33)).cell (p := ⟨b2, o2 + k * 2 + 1, none⟩) hb2 |>.trans d1
        replace hBA := hidden (hB.out.trans (hBA.mono hB.out.size))
        clear hX hY hpr hqr hpl hB
        generalize ps.length = n1 at *
        generalize qs.length = n2 at *
        go_wp2_with fail
        refine hc.mono ?_
        rintro e w5 ⟨rfl, hB5⟩
        have hBF := hidden (hBA.out.trans (hB5.mono hBA.out.size))
        clear hc hB5 x0 x1 y0 y1 c0 c1 d0 d1 d0' d1'
        by_cases he : (⟨l1, ps⟩ : Nd) = ⟨l2, qs⟩
        · rw [eqB_yes he]
          have hnx2 := hidden (hnx.out he)
          clear hnx hno he
          go_wp2
          go_roundw
          case rel => exact ⟨k + 1, by omega, by go_num, hnx2, hBF⟩
          case measure => simp [intOf]; omega
        · rw [eqB_no he]
          have hno2 := hidden (hno.out he)
          clear hnx hno he
          go_wp2
          go_ret
          exact ⟨by rw [hno2.out]; first | done | rfl, hBF.out⟩
      · have hlt' : ¬ (k : Int) < (N : Int) := by omega
        obtain rfl : k = N := by omega
        have hall := hidden (rows_all (d := Nd.none) hl.out (by rw [← hN.out]; exact ht.out))
        clear ht
        go_wp2
        go_ret
        exact ⟨by rw [hall.out]; first | done | rfl, hB.out⟩
  · have hlen := hidden (rows_len hl)
    have hl1 : ((N : Int) != (M : Int)) = true := by simp; omega
    rw [← hN, ← hM]
    clear hN hM hl ha hb
    go_enter Tryz.func25, Tryz.ntmps25
    go_wp2
    go_ret
    exact ⟨by rw [hlen.out]; first | done | rfl, Below.refl _ _⟩
theorem gr_eq {ns ms : List Nd} {es fs : List Eg} (h : eqB ns ms = true) : eqB es fs = eqB (⟨ns, es⟩ : Gr) ⟨ms, fs⟩ := by
  have hn : ns = ms := by
    by_cases hn : ns = ms
    · exact hn
    · rw [eqB_no hn] at h; cases h
  subst hn
  by_cases he : es = fs
  · subst he; rw [eqB_yes rfl, eqB_yes rfl]
  · rw [eqB_no he, eqB_no (fun e => he (by cases e; rfl))]
theorem gr_ne {ns ms : List Nd} {es fs : List Eg} (h : eqB ns ms = false) : eqB (⟨ns, es⟩ : Gr) ⟨ms, fs⟩ = false := eqB_no fun e => by
  cases e
  rw [eqB_yes rfl] at h
  cases h
set_option maxRecDepth 100000 in
set_option maxHeartbeats 3200000 in
theorem gsame_c (g h : Gr) (a b c d : Option Addr) (ca cb cc cd : Nat) (w : World) (hg1 : HoldsN w (.slice a g.ns.length ca) g.ns) (hg2 : RowAt w b (edgeR.flat g.es)) (hh1 : HoldsN w (.slice c h.ns.length cc) h.ns) (hh2 : RowAt w d (edgeR.flat h.es))
    (l1 : g.ns.length ≤ 1000000) (l2 : g.es.length ≤ 1000000) (l3 : ∀ x ∈ g.ns, x.ps.length ≤ 1000000) :
    Calls Tryz.prog 10 #[.agg #[.slice a g.ns.length ca, .slice b g.es.length cb], .agg #[.slice c h.ns.length cc, .slice d h.es.length cd]] w fun e w' => e = .returned (.bool (eqB g h)) ∧ Below w.heap.size w w' := by
  have hB0 := ((Below.refl w.heap.size w).alloc (Nat.le_refl _) (.cells #[.slice a g.ns.length ca, .slice b g.es.length cb] 25)).alloc (by simp) (.cells #[.slice c h.ns.length cc, .slice d h.es.length cd] 25)
  have hc := nodesEq_c g.ns h.ns a c ca cc _ (hg1.calm (.of_below hB0)) (hh1.calm (.of_below hB0)) l1 l3
  have hX := heap_alloc_old (w.alloc (.cells #[.slice a g.ns.length ca, .slice b g.es.length cb] 25)) (.cells #[.slice c h.ns.length cc, .slice d h.es.length cd] 25) (by simp) |>.trans (heap_alloc_new w (.cells #[.slice a g.ns.length ca, .slice b g.es.length cb] 25))
  have hY := heap_alloc_new (w.alloc (.cells #[.slice a g.ns.length ca, .slice b g.es.length cb] 25)) (.cells #[.slice c h.ns.length cc, .slice d h.es.length cd] 25)
  rw [show (w.alloc (.cells #[.slice a g.ns.length ca, .slice b g.es.length cb] 25)).heap.size = w.heap.size + 1 by simp] at hY
  obtain ⟨⟨x0, x1⟩, -⟩ := box2f hX
  obtain ⟨⟨y0, y1⟩, -⟩ := box2f hY
  have hcE := hidden fun (z : World) (hz : Below w.heap.size w z) => edgesEq_c g.es h.es b d cb cd z (hg2.below hz) (hh2.below hz) l2
  replace hB0 := hidden hB0
  replace hX := hidden hX
  replace hY := hidden hY
  obtain ⟨ns, es⟩ := g
  obtain ⟨ms, fs⟩ := h
  simp only at hc hcE x0 x1 y0 y1 hX hY ⊢
  have hyes := hidden (gr_eq (ns := ns) (ms := ms) (es := es) (fs := fs))
  have hno := hidden (gr_ne (ns := ns) (ms := ms) (es := es) (fs := fs))
  generalize eqB ns ms = bb at *
  generalize eqB (⟨ns, es⟩ : Gr) ⟨ms, fs⟩ = rr at *
  generalize eqB es fs = ee at *
  generalize ns.length = n1 at *
  generalize es.length = n2 at *
  generalize ms.length = n3 at *
  generalize fs.length = n4 at *
  clear hg1 hg2 hh1 hh2 l1 l2 l3
  go_enter Tryz.func10, Tryz.ntmps10
  go_wp2_with fail
  refine hc.mono ?_
  rintro e w5 ⟨rfl, hB5⟩
  have hBF := hidden (hB0.out.trans (hB5.mono hB0.out.size))
  obtain ⟨⟨p0, p1⟩, -⟩ := box2f (x := w5) (box_below hX.out (hB5.mono (Nat.le_refl _)))
  obtain ⟨⟨q0, q1⟩, -⟩ := box2f (x := w5) (box_below hY.out (hB5.mono (Nat.le_refl _)))
  clear hc hB5 x0 x1 y0 y1 hX hY hB0
  cases bb with
  | true =>
    have hcE2 := hcE.out w5 hBF.out
    clear hcE
    go_wp2_with fail
    refine hcE2.mono ?_
    rintro e w6 ⟨rfl, hB6⟩
    have hBF2 := hidden (hBF.out.trans (hB6.mono hBF.out.size))
    have hr : Hid (ee = rr) := by first | exact hyes.out rfl | exact hyes.out trivial
    clear hcE2 hB6 p0 p1 q0 q1
    go_wp2
    go_ret
    exact ⟨by rw [← hr.out]; first | done | rfl, hBF2.out⟩
  | false =>
    have hr := hidden (hno.out rfl)
    clear hcE
    go_wp2
    go_ret
    exact ⟨by rw [hr.out]; first | done | rfl, hBF.out⟩
end Go.Proofs.YtjgddkbpfpgaoacGreatDoor
