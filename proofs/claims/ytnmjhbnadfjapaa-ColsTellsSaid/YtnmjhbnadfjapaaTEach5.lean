/-
  THE FIRST PROPERTY OF A NAME: the program's and the reference's, by contract.
-/
import Derived.Test.YtnmjhbnadfjapaaGFew
import Derived.Test.YtnmjhbnadfjapaaRec
import Derived.Test.YtnmjhbnadfjapaaColNew
import Derived.Test.YtnmjhbnadfjapaaVTest2
import Derived.Deep.RegionHeld3
import Derived.Test.YtnmjhbnadfjapaaCommon
import Derived.Deep.QuietTactic
import Derived.BigQuiet
namespace Go.Proofs.Ytnmjhbnadfjapaa
open Go.ChangeShapes Go.WideShapes Go.ChangeAt Go.RowKit

/-- The first property of a name, or none. -/
def pv (ps : List Pp) (s : ByteArray) : Pp := (ps.find? fun p => p.s.toList == s.toList).getD Pp.none
theorem pv_hit {ps : List Pp} {s : ByteArray} {k : Nat} (hk : k < ps.length) (hlow : ∀ j, j < k → ((ps.getD j Pp.none).s.toList == s.toList) = false) (he : ((ps.getD k Pp.none).s.toList == s.toList) = true) : pv ps s = ps.getD k Pp.none := by
  unfold pv
  have h1 : ps.find? (fun p => p.s.toList == s.toList) = some (ps.getD k Pp.none) := by
    rw [List.find?_eq_some_iff_getElem]
    refine ⟨he, k, hk, by simp [List.getD, hk], fun j hj => ?_⟩
    have := hlow j hj
    rw [show ps.getD j Pp.none = ps[j]'(by omega) by simp [List.getD, show j < ps.length by omega]] at this
    simp [this]
  rw [h1]; rfl
theorem pv_miss {ps : List Pp} {s : ByteArray} (hlow : ∀ j, j < ps.length → ((ps.getD j Pp.none).s.toList == s.toList) = false) : pv ps s = Pp.none := by
  unfold pv
  have h1 : ps.find? (fun p => p.s.toList == s.toList) = none := by
    rw [List.find?_eq_none]
    intro p hp
    obtain ⟨j, hj, rfl⟩ := List.getElem_of_mem hp
    have := hlow j hj
    rw [show ps.getD j Pp.none = ps[j] by simp [List.getD, hj]] at this
    simp [this]
  rw [h1]; rfl
theorem low_next {ps : List Pp} {s : ByteArray} {k : Nat} (hlow : ∀ j, j < k → ((ps.getD j Pp.none).s.toList == s.toList) = false) (he : ((ps.getD k Pp.none).s.toList == s.toList) = false) : ∀ j, j < k + 1 → ((ps.getD j Pp.none).s.toList == s.toList) = false := fun j hj => by
  rcases Nat.lt_or_ge j k with h | h
  · exact hlow j h
  · obtain rfl : j = k := by omega
    exact he
theorem heap_set3 {x : World} {b : Nat} {a0 a1 a2 : Value} {t : TypeId} (h : x.heap[b]? = some (.cells #[a0, a1, a2] t)) (u0 u1 u2 : Value) :
    (((x.setCell ⟨b, 0, none⟩ u0).setCell ⟨b, 1, none⟩ u1).setCell ⟨b, 2, none⟩ u2).heap[b]? = some (.cells #[u0, u1, u2] t) := by
  have h1 := set_heap h 0 u0
  have h2 := set_heap h1 1 u1
  have h3 := set_heap h2 2 u2
  simpa using h3
theorem box3f {x : World} {b : Nat} {c0 c1 c2 : Value} {t : TypeId} (h : x.heap[b]? = some (.cells #[c0, c1, c2] t)) :
    (x.cell? ⟨b, 0, none⟩ = some c0 ∧ x.cell? ⟨b, 1, none⟩ = some c1 ∧ x.cell? ⟨b, 2, none⟩ = some c2) ∧ x.frozen? ⟨b, 0, none⟩ = false ∧ x.frozen? ⟨b, 1, none⟩ = false ∧ x.frozen? ⟨b, 2, none⟩ = false := by
  simp [World.cell?, World.frozen?, h]
set_option maxRecDepth 100000 in
set_option maxHeartbeats 3200000 in
theorem prop_c (l s : ByteArray) (ps : List Pp) (pa : Option Addr) (pc : Nat) (w : World) (hp : RowAt w pa (propR.flat ps)) (hl : ps.length ≤ 1000000) :
    Calls Try.prog 46 #[.agg #[.string l, .slice pa ps.length pc], .string s] w fun e w' => e = .returned (.agg #[.int .i64 (pv ps s).k, .int .i64 (pv ps s).n, .string (pv ps s).t]) ∧ Below w.heap.size w w' := by
  obtain ⟨N, hN⟩ : ∃ N, N = ps.length := ⟨_, rfl⟩
  rw [← hN] at hl ⊢
  replace hN := hidden hN
  replace hp := hidden hp
  have hX := hidden (heap_alloc_old (w.alloc (.cells #[.string l, .slice pa N pc] 44)) (.cells #[.int .i64 0, .int .i64 0, .string ⟨#[]⟩] 27) (by simp) |>.trans (heap_alloc_new w (.cells #[.string l, .slice pa N pc] 44)))
  have hV : Hid (((w.alloc (.cells #[.string l, .slice pa N pc] 44)).alloc (.cells #[.int .i64 0, .int .i64 0, .string ⟨#[]⟩] 27)).heap[w.heap.size + 1]? = some (.cells #[.int .i64 0, .int .i64 0, .string ⟨#[]⟩] 27)) := by
    have h := heap_alloc_new (w.alloc (.cells #[.string l, .slice pa N pc] 44)) (.cells #[.int .i64 0, .int .i64 0, .string ⟨#[]⟩] 27)
    rwa [show (w.alloc (.cells #[.string l, .slice pa N pc] 44)).heap.size = w.heap.size + 1 by simp] at h
  have hB0 := hidden (((Below.refl w.heap.size w).alloc (Nat.le_refl _) (.cells #[.string l, .slice pa N pc] 44)).alloc (by simp) (.cells #[.int .i64 0, .int .i64 0, .string ⟨#[]⟩] 27))
  obtain ⟨⟨x0, x1⟩, -⟩ := box2f hX.out
  clear hX
  go_enter Try.func46, Try.ntmps46
  go_wp2
  clear x0 x1
  go_loopw [10] (fun i x => ∃ k : Nat, k ≤ N ∧ i = .int .i64 k ∧ Hid (∀ j, j < k → ((ps.getD j Pp.none).s.toList == s.toList) = false) ∧ Hid (x.heap[w.heap.size + 1]? = some (.cells #[.int .i64 0, .int .i64 0, .string ⟨#[]⟩] 27)) ∧ Hid (Below w.heap.size w x)) (fun i _ => N - (intOf i).toNat)
  case atStart => exact ⟨0, Nat.zero_le _, rfl, (fun j hj => absurd hj (Nat.not_lt_zero j) : ∀ j, j < 0 → _), hV, hB0⟩
  case round =>
    clear hV hB0
    obtain ⟨k, hk, rfl, hlow, hV, hB⟩ := hrel
    by_cases hlt : k < N
    · have hlt' : (k : Int) < (N : Int) := by omega
      have hlE : k < ps.length := by rw [← hN.out]; exact hlt
      obtain ⟨b5, o5, rfl, hb5, e0, e1, e2, e3⟩ := prop_at (hp.out.below hB.out) hlE
      have hhit := hidden (pv_hit hlE hlow.out)
      have hnext := hidden (low_next (k := k) hlow.out)
      clear hlow
      generalize ps.getD k Pp.none = q at *
      obtain ⟨qs, qk, qn, qt⟩ := q
      simp only at e0 e1 e2 e3 hhit hnext
      have hVA := hidden (heap_alloc_old wr (.cells #[.string qs, .int .i64 qk, .int .i64 qn, .string qt] 83) (Array.getElem?_eq_some_iff.1 hV.out).1 |>.trans hV.out)
      have hBA := hidden (hB.out.alloc hB.out.size (.cells #[.string qs, .int .i64 qk, .int .i64 qn, .string qt] 83))
      obtain ⟨⟨p0, p1, p2, p3⟩, -⟩ := box4f (heap_alloc_new wr (.cells #[.string qs, .int .i64 qk, .int .i64 qn, .string qt] 83))
      obtain ⟨⟨v0, v1, v2⟩, f0, f1, f2⟩ := box3f hVA.out
      clear hV hB
      cases hq : (qs.toList == s.toList) with
      | false =>
        have hlow2 := hidden (hnext.out hq)
        clear hhit hnext
        go_wp2
        go_roundw
        case rel => exact ⟨k + 1, by omega, by go_num, hlow2, hVA, hBA⟩
        case measure => simp [intOf]; omega
      | true =>
        have hpv := hidden (hhit.out hq)
        have hfin := hidden (heap_set3 hVA.out (.int .i64 qk) (.int .i64 qn) (.string qt))
        have hBF := hidden (((hBA.out.setCell (p := ⟨w.heap.size + 1, 0, none⟩) (show w.heap.size ≤ w.heap.size + 1 by omega) (.int .i64 qk)).setCell (p := ⟨w.heap.size + 1, 1, none⟩) (show w.heap.size ≤ w.heap.size + 1 by omega) (.int .i64 qn)).setCell (p := ⟨w.heap.size + 1, 2, none⟩) (show w.heap.size ≤ w.heap.size + 1 by omega) (.string qt))
        clear hhit hnext hVA hBA
        go_wp2
        refine bodyPost_ret (results_cell_row rfl _ _ (w.heap.size + 1) _ _ _ _ rfl hfin.out Try.underlying27 rfl (by kernel_rfl)) rfl ⟨by rw [hpv.out]; first | done | rfl, hBF.out⟩
    · have hlt' : ¬ (k : Int) < (N : Int) := by omega
      obtain rfl : k = N := by omega
      have hpv := hidden (pv_miss (ps := ps) (s := s) (by rw [← hN.out]; exact hlow.out))
      obtain ⟨⟨v0, v1, v2⟩, f0, f1, f2⟩ := box3f hV.out
      have hfin := hidden (heap_set3 hV.out (.int .i64 0) (.int .i64 0) (.string ⟨#[]⟩))
      have hBF := hidden (((hB.out.setCell (p := ⟨w.heap.size + 1, 0, none⟩) (show w.heap.size ≤ w.heap.size + 1 by omega) (.int .i64 0)).setCell (p := ⟨w.heap.size + 1, 1, none⟩) (show w.heap.size ≤ w.heap.size + 1 by omega) (.int .i64 0)).setCell (p := ⟨w.heap.size + 1, 2, none⟩) (show w.heap.size ≤ w.heap.size + 1 by omega) (.string ⟨#[]⟩))
      clear hlow hV hB
      go_wp2
      refine bodyPost_ret (results_cell_row rfl _ _ (w.heap.size + 1) _ _ _ _ rfl hfin.out Try.underlying27 rfl (by kernel_rfl)) rfl ⟨by rw [hpv.out]; first | done | rfl, hBF.out⟩
set_option maxRecDepth 100000 in
set_option maxHeartbeats 3200000 in
theorem rprop_c (l s : ByteArray) (ps : List Pp) (pa : Option Addr) (pc : Nat) (w : World) (hp : RowAt w pa (propR.flat ps)) (hl : ps.length ≤ 1000000) :
    Calls Try.prog 47 #[.agg #[.string l, .slice pa ps.length pc], .string s] w fun e w' => e = .returned (.agg #[.int .i64 (pv ps s).k, .int .i64 (pv ps s).n, .string (pv ps s).t]) ∧ Below w.heap.size w w' := by
  obtain ⟨N, hN⟩ : ∃ N, N = ps.length := ⟨_, rfl⟩
  rw [← hN] at hl ⊢
  replace hN := hidden hN
  replace hp := hidden hp
  have hX := hidden (heap_alloc_old (w.alloc (.cells #[.string l, .slice pa N pc] 44)) (.cells #[.int .i64 0, .int .i64 0, .string ⟨#[]⟩] 27) (by simp) |>.trans (heap_alloc_new w (.cells #[.string l, .slice pa N pc] 44)))
  have hV : Hid (((w.alloc (.cells #[.string l, .slice pa N pc] 44)).alloc (.cells #[.int .i64 0, .int .i64 0, .string ⟨#[]⟩] 27)).heap[w.heap.size + 1]? = some (.cells #[.int .i64 0, .int .i64 0, .string ⟨#[]⟩] 27)) := by
    have h := heap_alloc_new (w.alloc (.cells #[.string l, .slice pa N pc] 44)) (.cells #[.int .i64 0, .int .i64 0, .string ⟨#[]⟩] 27)
    rwa [show (w.alloc (.cells #[.string l, .slice pa N pc] 44)).heap.size = w.heap.size + 1 by simp] at h
  have hB0 := hidden (((Below.refl w.heap.size w).alloc (Nat.le_refl _) (.cells #[.string l, .slice pa N pc] 44)).alloc (by simp) (.cells #[.int .i64 0, .int .i64 0, .string ⟨#[]⟩] 27))
  obtain ⟨⟨x0, x1⟩, -⟩ := box2f hX.out
  go_enter Try.func47, Try.ntmps47
  go_wp2
  clear x0 x1
  go_loopw [5] (fun i x => ∃ k : Nat, k ≤ N ∧ i = .int .i64 k ∧ Hid (∀ j, j < k → ((ps.getD j Pp.none).s.toList == s.toList) = false) ∧ Hid (x.heap[w.heap.size + 1]? = some (.cells #[.int .i64 0, .int .i64 0, .string ⟨#[]⟩] 27)) ∧ Hid (Below w.heap.size w x) ∧ Hid (x.heap[w.heap.size]? = some (.cells #[.string l, .slice pa N pc] 44))) (fun i _ => N - (intOf i).toNat)
  case atStart => exact ⟨0, Nat.zero_le _, rfl, (fun j hj => absurd hj (Nat.not_lt_zero j) : ∀ j, j < 0 → _), hV, hB0, hX⟩
  case round =>
    clear hV hB0 hX
    obtain ⟨k, hk, rfl, hlow, hV, hB, hX⟩ := hrel
    obtain ⟨⟨x0, x1⟩, -⟩ := box2f hX.out
    by_cases hlt : k < N
    · have hlt' : (k : Int) < (N : Int) := by omega
      have hlE : k < ps.length := by rw [← hN.out]; exact hlt
      obtain ⟨b5, o5, rfl, hb5, e0, e1, e2, e3⟩ := prop_at (hp.out.below hB.out) hlE
      have hhit := hidden (pv_hit hlE hlow.out)
      have hnext := hidden (low_next (k := k) hlow.out)
      clear hlow
      generalize ps.getD k Pp.none = q at *
      obtain ⟨qs, qk, qn, qt⟩ := q
      simp only at e0 e1 e2 e3 hhit hnext
      obtain ⟨⟨v0, v1, v2⟩, f0, f1, f2⟩ := box3f hV.out
      cases hq : (qs.toList == s.toList) with
      | false =>
        have hlow2 := hidden (hnext.out hq)
        clear hhit hnext
        go_wp2
        go_roundw
        case rel => exact ⟨k + 1, by omega, by go_num, hlow2, hV, hB, hX⟩
        case measure => simp [intOf]; omega
      | true =>
        have hpv := hidden (hhit.out hq)
        have hfin := hidden (heap_set3 hV.out (.int .i64 qk) (.int .i64 qn) (.string qt))
        have hBF := hidden (((hB.out.setCell (p := ⟨w.heap.size + 1, 0, none⟩) (show w.heap.size ≤ w.heap.size + 1 by omega) (.int .i64 qk)).setCell (p := ⟨w.heap.size + 1, 1, none⟩) (show w.heap.size ≤ w.heap.size + 1 by omega) (.int .i64 qn)).setCell (p := ⟨w.heap.size + 1, 2, none⟩) (show w.heap.size ≤ w.heap.size + 1 by omega) (.string qt))
        clear hhit hnext hV hB hX
        go_wp2
        refine bodyPost_ret (results_cell_row rfl _ _ (w.heap.size + 1) _ _ _ _ rfl hfin.out Try.underlying27 rfl (by kernel_rfl)) rfl ⟨by rw [hpv.out]; first | done | rfl, hBF.out⟩
    · have hlt' : ¬ (k : Int) < (N : Int) := by omega
      obtain rfl : k = N := by omega
      have hpv := hidden (pv_miss (ps := ps) (s := s) (by rw [← hN.out]; exact hlow.out))
      obtain ⟨⟨v0, v1, v2⟩, f0, f1, f2⟩ := box3f hV.out
      have hfin := hidden (heap_set3 hV.out (.int .i64 0) (.int .i64 0) (.string ⟨#[]⟩))
      have hBF := hidden (((hB.out.setCell (p := ⟨w.heap.size + 1, 0, none⟩) (show w.heap.size ≤ w.heap.size + 1 by omega) (.int .i64 0)).setCell (p := ⟨w.heap.size + 1, 1, none⟩) (show w.heap.size ≤ w.heap.size + 1 by omega) (.int .i64 0)).setCell (p := ⟨w.heap.size + 1, 2, none⟩) (show w.heap.size ≤ w.heap.size + 1 by omega) (.string ⟨#[]⟩))
      clear hlow hV hB hX
      go_wp2
      refine bodyPost_ret (results_cell_row rfl _ _ (w.heap.size + 1) _ _ _ _ rfl hfin.out Try.underlying27 rfl (by kernel_rfl)) rfl ⟨by rw [hpv.out]; first | done | rfl, hBF.out⟩
end Go.Proofs.Ytnmjhbnadfjapaa
/-
  A TEST OF A QUERY, as it lies.
-/
namespace Go.Proofs.Ytnmjhbnadfjapaa
open Go.ChangeShapes Go.WideShapes Go.ChangeAt Go.RowKit

structure Tst where
  s : ByteArray
  o : Int
  k : Int
  n : Int
  t : ByteArray
def Tst.none : Tst := ⟨⟨#[]⟩, 0, 0, 0, ⟨#[]⟩⟩
def testR : Rec Tst := ⟨fun x => [.string x.s, .int .i64 x.o, .int .i64 x.k, .int .i64 x.n, .string x.t], 5, by decide, fun _ => rfl, fun x u hu => by simp at hu; rcases hu with rfl | rfl | rfl | rfl | rfl <;> rfl, Tst.none⟩
end Go.Proofs.Ytnmjhbnadfjapaa
/-
  WHICH NODES A TEST SAYS SO OF, by contract: from the columns, and node by node.
-/
namespace Go.Proofs.Ytnmjhbnadfjapaa
open Go.ChangeShapes Go.WideShapes Go.ChangeAt Go.RowKit Go.Maps

/-- Does a property's value stand so to a value? -/
def tv (o k n : Int) (t : ByteArray) (p : Pp) : Bool := testV o p.k k (orS (cmpI p.k k) (cmpI p.n n) (cmpS p.t t))
/-- What the columns answer. -/
def colT (ns : List Nd) (s : ByteArray) (o k n : Int) (t : ByteArray) : List Int := ((namF ns ns.length 0 s).filter fun c => tv o k n t c.2).map (·.1)
theorem box5t {x : World} {b : Nat} {c0 c1 c2 c3 c4 : Value} {t : TypeId} (h : x.heap[b]? = some (.cells #[c0, c1, c2, c3, c4] t)) : x.cell? ⟨b, 0, none⟩ = some c0 ∧ x.cell? ⟨b, 1, none⟩ = some c1 ∧ x.cell? ⟨b, 2, none⟩ = some c2 ∧ x.cell? ⟨b, 3, none⟩ = some c3 ∧ x.cell? ⟨b, 4, none⟩ = some c4 := by
  simp [World.cell?, h]
theorem wpList_appT {P : Program} (w : World) {ops : Array Oper} {rest : List Oper} {o : Oper} {a : Act} {Q : Exit → Act → World → Prop} {α : Type} (R : Rec α)
    (hg : o.guard = none) (s x : Operand) (t : TypeId) (hop : o.op = Op.call { callee := Callee.builtin Builtin.append, args := #[s, x], argTypes := #[t, t] })
    (base : Nat) (e : TypeId) (i : TypeInfo) (z : Value) (size bytes : Nat) (h1 : P.underlying t = some (.slice e)) (h2 : P.info? e = some i) (h3 : i.zero = some z) (h4 : i.size = size) (h5 : i.bytes = bytes) (h6 : z.cells.size = size) (hR : R.n = size)
    {v : Value} {n : Nat} {xs : List Value} (hs : a.eval s = v) (hown : w.ownsRow base e size v n xs) {vx : Value} {qs : List α} (hx : a.eval x = vx) (hsl : SlR R w vx qs)
    (b1 : n + qs.length ≤ maxLen) (b2 : (n + qs.length) * bytes ≤ 140737488355328) (hbase : base ≤ w.heap.size)
    (hK : ∀ v' w', w'.ownsRow base e size v' (n + qs.length) (xs ++ R.flat qs) → w.grownBy w' v.ownBlock → wpList P ops Q rest (a.put o.dst v') w') : wpList P ops Q (o :: rest) a w := by
  refine wpList_plain hg fun K hK' => ?_
  obtain ⟨v', w', hr, r2, r3, _⟩ := run_appR (P := P) (R := R) w base t o.type e i z size bytes h1 h2 h3 h4 h5 h6 hR hown hsl b1 b2 hbase
  unfold Oper.wp execOp
  simp only [hop, resolve, invoke, builtin, Sem.run_bind, Sem.run_pure, Result.andThen_ok, List.map_toArray, List.map_cons, List.map_nil, hs, hx, hr]
  exact hK' _ _ (hK v' w' r2 r3)
theorem take_filter_map {L : List Cl} {f : Cl → Bool} {k : Nat} (hk : k < L.length) : ((L.take (k + 1)).filter f).map (·.1) = ((L.take k).filter f).map (·.1) ++ (if f (L.getD k (0, Pp.none)) then [(L.getD k (0, Pp.none)).1] else []) := by
  rw [take_snocR L (0, Pp.none) k hk, List.filter_append, List.map_append]
  congr 1
  rw [List.filter_cons, List.filter_nil]
  split <;> rfl
set_option maxHeartbeats 3200000 in
set_option maxRecDepth 100000 in
theorem coltest_c (ns : List Nd) (C : ColX) (B : Nat) (s : ByteArray) (o k n : Int) (t : ByteArray) (w : World) (hC : ColAt ns C B w) (hs : s.size ≤ maxLen) (hN : ns.length ≤ 1000) (hps : ∀ i, (ns.getD i Nd.none).ps.length ≤ 1000) :
    Calls Try.prog 20 #[.pointer (some ⟨C.gb, 0, none⟩), .string s, .int .i64 o, .agg #[.int .i64 k, .int .i64 n, .string t]] w fun e w' => ∃ v, e = .returned v ∧ w'.ownsRow w.heap.size 3 1 v (colT ns s o k n t).length (intR.flat (colT ns s o k n t)) ∧ Below w.heap.size w w' := by
  obtain ⟨ii, hii, hi0, hi1, hi2⟩ := info_parts infoIn
  obtain ⟨x, hx⟩ : ∃ x, x = w.alloc (.cells #[.int .i64 k, .int .i64 n, .string t] 27) := ⟨_, rfl⟩
  have hB1 : Below w.heap.size w x := by rw [hx]; exact (Below.refl _ _).alloc (Nat.le_refl _) _
  have hX0 : Hid (x.heap[w.heap.size]? = some (.cells #[.int .i64 k, .int .i64 n, .string t] 27)) := by rw [hx]; exact heap_alloc_new w _
  have hCx := hidden (hC.step hB1)
  obtain ⟨⟨x0, x1, x2⟩, -⟩ := box3n hCx.out.box
  have hkm : ns.length * 1000 < maxLen := by unfold maxLen; omega
  obtain ⟨lv, hlook, hrow, -⟩ := hCx.out.nam.at lawS Try.underlying88 zeroRowC hkm (key_s hs)
  have hrun := hlook x rfl
  have hlen := namF_len ns ns.length 0 s hps (by omega)
  unfold colT
  generalize namF ns ns.length 0 s = L at *
  obtain ⟨la, lc, rfl⟩ := own_shape hrow
  have hL0 : Hid (L.length ≤ 1000000) := hidden (by omega)
  have hL1 : L.length ≤ 1000000 := hL0.out
  replace hrow := hidden hrow
  replace hB1 := hidden hB1
  have hvt := hidden fun (p : Pp) z => vtest_c o p.k p.n k n p.t t z
  clear hlook hlen hC hps hkm
  obtain ⟨U, hU⟩ : ∃ U : Nat → List Int, Hid (∀ j, U j = ((L.take j).filter fun c => tv o k n t c.2).map (·.1)) := ⟨fun j => ((L.take j).filter fun c => tv o k n t c.2).map (·.1), hidden fun _ => rfl⟩
  have hUe : Hid ((L.filter fun c => tv o k n t c.2).map (·.1) = U L.length) := hidden (by rw [hU.out, List.take_length])
  rw [hUe.out]
  have hU0 : Hid (U 0 = []) := hidden (by rw [hU.out]; rfl)
  have hUs : Hid (∀ j, j < L.length → U (j + 1) = U j ++ (if tv o k n t (L.getD j (0, Pp.none)).2 then [(L.getD j (0, Pp.none)).1] else [])) := hidden fun j hj => by rw [hU.out, hU.out, take_filter_map hj]
  have hUl : Hid (∀ j, j ≤ L.length → (U j).length ≤ 1000000) := hidden fun j hj => by
    rw [hU.out, List.length_map]
    have h1 := List.length_filter_le (fun c : Cl => tv o k n t c.2) (L.take j)
    rw [List.length_take] at h1
    have := hL0.out
    omega
  clear hU hUe
  subst hx
  go_enter Try.func20, Try.ntmps20
  go_wp2_with fail
  generalize w.alloc (.cells #[.int .i64 k, .int .i64 n, .string t] 27) = x at *
  clear hrun x0 x1 x2
  go_loopw [9, 21] (fun u i wr => ∃ j : Nat, j ≤ L.length ∧ i = .int .i64 j ∧ Hid (wr.ownsRow x.heap.size 3 1 u (U j).length (intR.flat (U j))) ∧ Hid (Below x.heap.size x wr))
    (fun _ i _ => L.length - (intOf i).toNat)
  case atStart => exact ⟨0, Nat.zero_le _, rfl, by rw [hU0.out]; exact World.ownsRow_nil .., Below.refl _ _⟩
  case round =>
    obtain ⟨j, hj, rfl, hown, hnx⟩ := hrel
    obtain ⟨oa, oc, rfl⟩ := own_shape hown.out
    by_cases hlt : j < L.length
    · have hlt' : (j : Int) < (L.length : Int) := by omega
      obtain ⟨a9, c9, e9, hr9⟩ := holdsR_of_owns (R := clR) (owns_keep hrow.out hnx.out)
      simp only [Value.slice.injEq] at e9
      obtain ⟨rfl, -, rfl⟩ := e9
      obtain ⟨gb, off, rfl, hbb, hrc⟩ := rec_at hr9 hlt
      have d0 := hrc 0 _ rfl
      have d1 := hrc 1 _ rfl
      have d2 := hrc 2 _ rfl
      have d3 := hrc 3 _ rfl
      rw [show clR.n = 4 from rfl] at d0 d1 d2 d3
      have hst := hidden (hUs.out j hlt)
      have hle := hUl.out j (by omega)
      rw [show clR.dflt = ((0, Pp.none) : Cl) from rfl] at d0 d1 d2 d3
      generalize L.getD j (0, Pp.none) = q at *
      obtain ⟨qi, qp⟩ := q
      obtain ⟨qs, qk, qn, qt⟩ := qp
      simp only [Nat.add_zero] at d0 d1 d2 d3 hst
      clear hrc hr9
      have hX := hidden (heap_alloc_new wr (.cells #[.int .i64 qi, .int .i64 qk, .int .i64 qn, .string qt] 94))
      obtain ⟨⟨p0, p1, p2, p3⟩, -⟩ := box4c hX.out
      have hn1 : Hid (Below x.heap.size x (wr.alloc (.cells #[.int .i64 qi, .int .i64 qk, .int .i64 qn, .string qt] 94))) := hnx.out.alloc hnx.out.size _
      obtain ⟨⟨v0, v1, v2⟩, -⟩ := box3n (box_below hX0.out hn1.out)
      have ho1 := hidden (hown.out.alloc (.cells #[.int .i64 qi, .int .i64 qk, .int .i64 qn, .string qt] 94))
      have hv1 := hvt.out ⟨qs, qk, qn, qt⟩ (wr.alloc (.cells #[.int .i64 qi, .int .i64 qk, .int .i64 qn, .string qt] 94))
      have htv : Hid (tv o k n t ⟨qs, qk, qn, qt⟩ = testV o qk k (orS (cmpI qk k) (cmpI qn n) (cmpS qt t))) := hidden rfl
      simp only at hv1
      rw [← htv.out] at hv1
      generalize tv o k n t ⟨qs, qk, qn, qt⟩ = b at *
      clear hown hnx htv
      go_wp2_with fail
      refine hv1.mono ?_
      rintro e w2 ⟨rfl, hB2⟩
      have hn2 : Hid (Below x.heap.size x w2) := hn1.out.trans (hB2.mono hn1.out.size)
      have ho2 := hidden (owns_keep ho1.out hB2)
      obtain ⟨⟨z0, -⟩, -⟩ := box4c (box_below hX.out hB2)
      have hws : x.heap.size ≤ w2.heap.size := hn2.out.size
      clear hv1 hB2 hn1 ho1 d0 d1 d2 d3 p0 p1 p2 p3 v0 v1 v2 hX
      cases b with
      | true =>
        have hone := hidden (SlR.oneR (R := intR) w2 qi 3)
        go_wp2_with (at_builtin; go_loud (refine wpList_appT _ intR rfl _ _ 47 rfl x.heap.size 3 ii (.int .i64 0) 1 8 Try.underlying47 hii hi0 hi1 hi2 rfl rfl rfl (owns_keep ho2.out ((Below.refl _ _).alloc (Nat.le_refl _) _)) rfl (hone.out) (by show _ + 1 ≤ _; unfold maxLen; omega) (by show (_ + 1) * 8 ≤ _; omega) (by show _ ≤ (w2.heap.push _).size; simp; omega) ?_); intro v' w5 hown5 hgrow5)
        have hk5 : Hid (Below x.heap.size x w5) := hidden ((hn2.out.alloc hn2.out.size _).grown hgrow5 (hn2.out.alloc hn2.out.size (.cells #[.int .i64 qi] 3)).size (fun j hj => (ho2.out.lt j hj).1))
        have hO5 : Hid (w5.ownsRow x.heap.size 3 1 v' (U (j + 1)).length (intR.flat (U (j + 1)))) := hidden (by
          rw [hst.out]
          simp only [if_true]
          rw [List.length_append, Rec.flat_app]
          exact hown5)
        clear hown5 hgrow5 ho2 hn2 hone z0
        go_wp2
        go_roundw
        case rel => exact ⟨j + 1, by omega, by go_num, hO5, hk5⟩
        case measure => simp [intOf]; omega
      | false =>
        have hO5 : Hid (w2.ownsRow x.heap.size 3 1 (.slice oa (U j).length oc) (U (j + 1)).length (intR.flat (U (j + 1)))) := hidden (by
          rw [hst.out]
          simp only [Bool.false_eq_true, if_false, List.append_nil]
          exact ho2.out)
        clear ho2 z0
        go_wp2
        go_roundw
        case rel => exact ⟨j + 1, by omega, by go_num, hO5, hn2⟩
        case measure => simp [intOf]; omega
    · have hlt' : ¬ (j : Int) < (L.length : Int) := by omega
      obtain rfl : j = L.length := by omega
      have hfin := hidden (own_le2 hown.out hB1.out.size)
      have hbf : Hid (Below w.heap.size w wr) := hidden (hB1.out.trans (hnx.out.mono hB1.out.size))
      clear hown
      go_wp2
      go_ret
      exact ⟨_, rfl, hfin.out, hbf.out⟩
end Go.Proofs.Ytnmjhbnadfjapaa
/-
  WHAT TESTS SAY OF A NODE, by contract: the program's and the reference's.
-/
namespace Go.Proofs.Ytnmjhbnadfjapaa
open Go.ChangeShapes Go.WideShapes Go.ChangeAt Go.RowKit Go.Maps

/-- Does a test say so of a node's properties? -/
def sayT (ps : List Pp) (q : Tst) : Bool := tv q.o q.k q.n q.t (pv ps q.s)
theorem all_no {ps : List Pp} {ts : List Tst} {k : Nat} (hk : k < ts.length) (h : sayT ps (ts.getD k Tst.none) = false) : ts.all (sayT ps) = false := by
  rw [List.all_eq_false]
  refine ⟨ts[k], List.getElem_mem _, ?_⟩
  rw [show ts.getD k Tst.none = ts[k] by simp [List.getD, hk]] at h
  simp [h]
theorem all_yes {ps : List Pp} {ts : List Tst} (h : ∀ j, j < ts.length → sayT ps (ts.getD j Tst.none) = true) : ts.all (sayT ps) = true := by
  rw [List.all_eq_true]
  intro x hx
  obtain ⟨j, hj, rfl⟩ := List.getElem_of_mem hx
  have := h j hj
  rwa [show ts.getD j Tst.none = ts[j] by simp [List.getD, hj]] at this
theorem test_at {w : World} {a : Option Addr} {ts : List Tst} (h : RowAt w a (testR.flat ts)) {k : Nat} (hk : k < ts.length) :
    ∃ b off, a = some ⟨b, off, none⟩ ∧ b < w.heap.size ∧ w.cell? ⟨b, off + k * 5, none⟩ = some (.string (ts.getD k Tst.none).s) ∧ w.cell? ⟨b, off + k * 5 + 1, none⟩ = some (.int .i64 (ts.getD k Tst.none).o) ∧ w.cell? ⟨b, off + k * 5 + 2, none⟩ = some (.int .i64 (ts.getD k Tst.none).k) ∧ w.cell? ⟨b, off + k * 5 + 3, none⟩ = some (.int .i64 (ts.getD k Tst.none).n) ∧ w.cell? ⟨b, off + k * 5 + 4, none⟩ = some (.string (ts.getD k Tst.none).t) := by
  obtain ⟨b, off, h1, h2, h3⟩ := rec_at h hk
  exact ⟨b, off, h1, h2, h3 0 _ rfl, h3 1 _ rfl, h3 2 _ rfl, h3 3 _ rfl, h3 4 _ rfl⟩
set_option maxHeartbeats 3200000 in
set_option maxRecDepth 100000 in
theorem says_c (l : ByteArray) (ps : List Pp) (pa : Option Addr) (pc : Nat) (ts : List Tst) (ta : Option Addr) (tc : Nat) (w : World) (hp : RowAt w pa (propR.flat ps)) (hl : ps.length ≤ 1000) (ht : RowAt w ta (testR.flat ts)) (htl : ts.length ≤ 1000) :
    Calls Try.prog 28 #[.agg #[.string l, .slice pa ps.length pc], .slice ta ts.length tc] w fun e w' => e = .returned (.bool (ts.all (sayT ps))) ∧ Below w.heap.size w w' := by
  obtain ⟨x, hx⟩ : ∃ x, x = w.alloc (.cells #[.string l, .slice pa ps.length pc] 44) := ⟨_, rfl⟩
  have hB0 : Hid (Below w.heap.size w x) := by rw [hx]; exact (Below.refl _ _).alloc (Nat.le_refl _) _
  have hX0 : Hid (x.heap[w.heap.size]? = some (.cells #[.string l, .slice pa ps.length pc] 44)) := by rw [hx]; exact heap_alloc_new w _
  have hpr := hidden fun z (hz : Below w.heap.size w z) s => rprop_c l s ps pa pc z (hp.below hz) (by omega)
  have hts := hidden fun z (hz : Below w.heap.size w z) => ht.below hz
  have hyes := hidden fun h => all_yes (ps := ps) (ts := ts) h
  have hno := hidden fun k hk h => all_no (ps := ps) (ts := ts) (k := k) hk h
  have hpl : ps.length ≤ 1000 := hl
  clear hp ht hl
  generalize ps.length = pl at *
  subst hx
  go_enter Try.func28, Try.ntmps28
  go_wp2_with fail
  generalize w.alloc (.cells #[.string l, .slice pa pl pc] 44) = x at *
  go_loopw [5] (fun i wr => ∃ k : Nat, k ≤ ts.length ∧ i = .int .i64 k ∧ Hid (∀ j, j < k → sayT ps (ts.getD j Tst.none) = true) ∧ Hid (Below x.heap.size x wr))
    (fun i _ => ts.length - (intOf i).toNat)
  case atStart => exact ⟨0, Nat.zero_le _, rfl, hidden fun j hj => absurd hj (Nat.not_lt_zero j), Below.refl _ _⟩
  case round =>
    obtain ⟨k, hk, rfl, hall, hnx⟩ := hrel
    by_cases hlt : k < ts.length
    · have hlt' : (k : Int) < (ts.length : Int) := by omega
      have hby : Hid (Below w.heap.size w wr) := hidden (hB0.out.trans (hnx.out.mono hB0.out.size))
      obtain ⟨gb, off, rfl, hbb, d0, d1, d2, d3, d4⟩ := test_at (hts.out wr hby.out) hlt
      have hn1 := hidden (hno.out k hlt)
      have hstep : Hid (sayT ps (ts.getD k Tst.none) = true → ∀ j, j < k + 1 → sayT ps (ts.getD j Tst.none) = true) := hidden fun h j hj => by
        rcases Nat.lt_or_ge j k with h2 | h2
        · exact hall.out j h2
        · obtain rfl : j = k := by omega
          exact h
      clear hall
      generalize ts.getD k Tst.none = q at *
      obtain ⟨qs, qo, qk, qn, qt⟩ := q
      simp only at d0 d1 d2 d3 d4
      have hres : Hid (testV qo (pv ps qs).k qk (orS (cmpI (pv ps qs).k qk) (cmpI (pv ps qs).n qn) (cmpS (pv ps qs).t qt)) = sayT ps ⟨qs, qo, qk, qn, qt⟩) := hidden rfl
      have hpq := hidden fun z (hz : Below w.heap.size w z) => hpr.out z hz qs
      have hrt := hidden fun z => rtest_c qo (pv ps qs).k (pv ps qs).n qk qn (pv ps qs).t qt z
      rw [hres.out] at hrt
      generalize sayT ps ⟨qs, qo, qk, qn, qt⟩ = b at *
      generalize (pv ps qs).k = vk at *
      generalize (pv ps qs).n = vn at *
      generalize (pv ps qs).t = vt at *
      clear hres
      obtain ⟨⟨x0, x1⟩, -⟩ := box2f (box_below hX0.out hnx.out)
      have hcz : Hid (∀ z, Below wr.heap.size wr z → z.cell? ⟨w.heap.size, 0, none⟩ = some (.string l) ∧ z.cell? ⟨w.heap.size, 1, none⟩ = some (.slice pa pl pc) ∧ z.cell? ⟨gb, off + k * 5, none⟩ = some (.string qs) ∧ z.cell? ⟨gb, off + k * 5 + 1, none⟩ = some (.int .i64 qo) ∧ z.cell? ⟨gb, off + k * 5 + 2, none⟩ = some (.int .i64 qk) ∧ z.cell? ⟨gb, off + k * 5 + 3, none⟩ = some (.int .i64 qn) ∧ z.cell? ⟨gb, off + k * 5 + 4, none⟩ = some (.string qt)) := hidden fun z h => by
        obtain ⟨⟨y0, y1⟩, -⟩ := box2f (box_below hX0.out (hnx.out.trans (h.mono hnx.out.size)))
        exact ⟨y0, y1, (h.cell (p := ⟨gb, off + k * 5, none⟩) hbb).trans d0, (h.cell (p := ⟨gb, off + k * 5 + 1, none⟩) hbb).trans d1, (h.cell (p := ⟨gb, off + k * 5 + 2, none⟩) hbb).trans d2, (h.cell (p := ⟨gb, off + k * 5 + 3, none⟩) hbb).trans d3, (h.cell (p := ⟨gb, off + k * 5 + 4, none⟩) hbb).trans d4⟩
      have kk : Hid (Below wr.heap.size wr wr.drew) := hidden (Below.refl _ _).drew
      have hS := hcz.out _ kk.out
      clear d0 d1 d2 d3 d4 x0 x1 hbb
      go_wp2_with fail
      go_region_held3 (fun z => z.cell? ⟨w.heap.size, 0, none⟩ = some (.string l) ∧ z.cell? ⟨w.heap.size, 1, none⟩ = some (.slice pa pl pc) ∧ z.cell? ⟨gb, off + k * 5, none⟩ = some (.string qs) ∧ z.cell? ⟨gb, off + k * 5 + 1, none⟩ = some (.int .i64 qo) ∧ z.cell? ⟨gb, off + k * 5 + 2, none⟩ = some (.int .i64 qk) ∧ z.cell? ⟨gb, off + k * 5 + 3, none⟩ = some (.int .i64 qn) ∧ z.cell? ⟨gb, off + k * 5 + 4, none⟩ = some (.string qt)) (first | exact hS | go_keep) (first
        | (go_at_call 47; refine (hpq.out _ (hby.out.trans (kk.out.mono hby.out.size))).mono ?_; rintro e y9 ⟨rfl, hBz⟩
           have kk := hidden (kk.out.trans (hBz.mono kk.out.size))
           have hS := hcz.out y9 kk.out
           skip)
        | (go_at_call 50; refine (hrt.out _).mono ?_; rintro e y9 ⟨rfl, hBz⟩
           have kk := hidden (kk.out.trans (hBz.mono kk.out.size))
           have hS := hcz.out y9 kk.out
           skip)
        | fail)
      have hnx2 : Hid (Below x.heap.size x y9) := hidden (hnx.out.trans (kk.out.mono hnx.out.size))
      have hby2 : Hid (Below w.heap.size w y9) := hidden (hby.out.trans (kk.out.mono hby.out.size))
      clear kk hS hcz hnx hby hpq hrt
      cases b with
      | true =>
        have hall2 := hidden (hstep.out rfl)
        clear hstep hn1
        go_wp2
        go_roundw
        case rel => exact ⟨k + 1, by omega, by go_num, hall2, hnx2⟩
        case measure => simp [intOf]; omega
      | false =>
        have hf := hidden (hn1.out rfl)
        clear hstep hn1
        go_wp2
        go_ret
        exact ⟨by rw [hf.out]; first | done | rfl, hby2.out⟩
    · have hlt' : ¬ (k : Int) < (ts.length : Int) := by omega
      obtain rfl : k = ts.length := by omega
      have hf := hidden (hyes.out hall.out)
      have hby : Hid (Below w.heap.size w wr) := hidden (hB0.out.trans (hnx.out.mono hB0.out.size))
      clear hall
      go_wp2
      go_ret
      exact ⟨by rw [hf.out]; first | done | rfl, hby.out⟩
set_option maxHeartbeats 3200000 in
set_option maxRecDepth 100000 in
theorem passes_c (l : ByteArray) (ps : List Pp) (pa : Option Addr) (pc : Nat) (ts : List Tst) (ta : Option Addr) (tc : Nat) (w : World) (hp : RowAt w pa (propR.flat ps)) (hl : ps.length ≤ 1000) (ht : RowAt w ta (testR.flat ts)) (htl : ts.length ≤ 1000) :
    Calls Try.prog 55 #[.agg #[.string l, .slice pa ps.length pc], .slice ta ts.length tc] w fun e w' => e = .returned (.bool (ts.all (sayT ps))) ∧ Below w.heap.size w w' := by
  obtain ⟨x, hx⟩ : ∃ x, x = w.alloc (.cells #[.string l, .slice pa ps.length pc] 44) := ⟨_, rfl⟩
  have hB0 : Hid (Below w.heap.size w x) := by rw [hx]; exact (Below.refl _ _).alloc (Nat.le_refl _) _
  have hX0 : Hid (x.heap[w.heap.size]? = some (.cells #[.string l, .slice pa ps.length pc] 44)) := by rw [hx]; exact heap_alloc_new w _
  have hpr := hidden fun z (hz : Below w.heap.size w z) s => prop_c l s ps pa pc z (hp.below hz) (by omega)
  have hts := hidden fun z (hz : Below w.heap.size w z) => ht.below hz
  have hyes := hidden fun h => all_yes (ps := ps) (ts := ts) h
  have hno := hidden fun k hk h => all_no (ps := ps) (ts := ts) (k := k) hk h
  have hpl : ps.length ≤ 1000 := hl
  clear hp ht hl
  generalize ps.length = pl at *
  subst hx
  go_enter Try.func55, Try.ntmps55
  go_wp2_with fail
  generalize w.alloc (.cells #[.string l, .slice pa pl pc] 44) = x at *
  go_loopw [9] (fun i wr => ∃ k : Nat, k ≤ ts.length ∧ i = .int .i64 k ∧ Hid (∀ j, j < k → sayT ps (ts.getD j Tst.none) = true) ∧ Hid (Below x.heap.size x wr))
    (fun i _ => ts.length - (intOf i).toNat)
  case atStart => exact ⟨0, Nat.zero_le _, rfl, hidden fun j hj => absurd hj (Nat.not_lt_zero j), Below.refl _ _⟩
  case round =>
    obtain ⟨k, hk, rfl, hall, hnx⟩ := hrel
    by_cases hlt : k < ts.length
    · have hlt' : (k : Int) < (ts.length : Int) := by omega
      have hby : Hid (Below w.heap.size w wr) := hidden (hB0.out.trans (hnx.out.mono hB0.out.size))
      obtain ⟨gb, off, rfl, hbb, d0, d1, d2, d3, d4⟩ := test_at (hts.out wr hby.out) hlt
      have hn1 := hidden (hno.out k hlt)
      have hstep : Hid (sayT ps (ts.getD k Tst.none) = true → ∀ j, j < k + 1 → sayT ps (ts.getD j Tst.none) = true) := hidden fun h j hj => by
        rcases Nat.lt_or_ge j k with h2 | h2
        · exact hall.out j h2
        · obtain rfl : j = k := by omega
          exact h
      clear hall
      generalize ts.getD k Tst.none = q at *
      obtain ⟨qs, qo, qk, qn, qt⟩ := q
      simp only at d0 d1 d2 d3 d4
      have hres : Hid (testV qo (pv ps qs).k qk (orS (cmpI (pv ps qs).k qk) (cmpI (pv ps qs).n qn) (cmpS (pv ps qs).t qt)) = sayT ps ⟨qs, qo, qk, qn, qt⟩) := hidden rfl
      have hpq := hidden fun z (hz : Below w.heap.size w z) => hpr.out z hz qs
      have hrt := hidden fun z => vtest_c qo (pv ps qs).k (pv ps qs).n qk qn (pv ps qs).t qt z
      rw [hres.out] at hrt
      generalize sayT ps ⟨qs, qo, qk, qn, qt⟩ = b at *
      generalize (pv ps qs).k = vk at *
      generalize (pv ps qs).n = vn at *
      generalize (pv ps qs).t = vt at *
      clear hres
      have hT := hidden (heap_alloc_new wr (.cells #[.string qs, .int .i64 qo, .int .i64 qk, .int .i64 qn, .string qt] 62))
      obtain ⟨tb, htb⟩ : ∃ tb, tb = wr.heap.size := ⟨_, rfl⟩
      rw [← htb] at hT
      have hn1x : Hid (Below x.heap.size x (wr.alloc (.cells #[.string qs, .int .i64 qo, .int .i64 qk, .int .i64 qn, .string qt] 62))) := hidden (hnx.out.alloc hnx.out.size _)
      clear hnx hby
      go_wp2_with fail
      rw [← htb]
      replace htb := hidden htb
      generalize wr.alloc (.cells #[.string qs, .int .i64 qo, .int .i64 qk, .int .i64 qn, .string qt] 62) = v at *
      have hby : Hid (Below w.heap.size w v) := hidden (hB0.out.trans (hn1x.out.mono hB0.out.size))
      have hcz : Hid (∀ z, Below v.heap.size v z → z.cell? ⟨w.heap.size, 0, none⟩ = some (.string l) ∧ z.cell? ⟨w.heap.size, 1, none⟩ = some (.slice pa pl pc) ∧ z.cell? ⟨tb, 0, none⟩ = some (.string qs) ∧ z.cell? ⟨tb, 1, none⟩ = some (.int .i64 qo) ∧ z.cell? ⟨tb, 2, none⟩ = some (.int .i64 qk) ∧ z.cell? ⟨tb, 3, none⟩ = some (.int .i64 qn) ∧ z.cell? ⟨tb, 4, none⟩ = some (.string qt)) := hidden fun z h => by
        obtain ⟨⟨y0, y1⟩, -⟩ := box2f (box_below hX0.out (hn1x.out.trans (h.mono hn1x.out.size)))
        exact ⟨y0, y1, box5t (box_below hT.out h)⟩
      have kk : Hid (Below v.heap.size v v.drew) := hidden (Below.refl _ _).drew
      have hS := hcz.out _ kk.out
      clear d0 d1 d2 d3 d4 hbb
      go_region_held3 (fun z => z.cell? ⟨w.heap.size, 0, none⟩ = some (.string l) ∧ z.cell? ⟨w.heap.size, 1, none⟩ = some (.slice pa pl pc) ∧ z.cell? ⟨tb, 0, none⟩ = some (.string qs) ∧ z.cell? ⟨tb, 1, none⟩ = some (.int .i64 qo) ∧ z.cell? ⟨tb, 2, none⟩ = some (.int .i64 qk) ∧ z.cell? ⟨tb, 3, none⟩ = some (.int .i64 qn) ∧ z.cell? ⟨tb, 4, none⟩ = some (.string qt)) (first | exact hS | go_keep) (first
        | (go_at_call 46; refine (hpq.out _ (hby.out.trans (kk.out.mono hby.out.size))).mono ?_; rintro e y9 ⟨rfl, hBz⟩
           have kk := hidden (kk.out.trans (hBz.mono kk.out.size))
           have hS := hcz.out y9 kk.out
           skip)
        | (go_at_call 49; refine (hrt.out _).mono ?_; rintro e y9 ⟨rfl, hBz⟩
           have kk := hidden (kk.out.trans (hBz.mono kk.out.size))
           have hS := hcz.out y9 kk.out
           skip)
        | fail)
      have hnx2 : Hid (Below x.heap.size x y9) := hidden (hn1x.out.trans (kk.out.mono hn1x.out.size))
      have hby2 : Hid (Below w.heap.size w y9) := hidden (hby.out.trans (kk.out.mono hby.out.size))
      clear kk hS hcz hn1x hby hpq hrt
      cases b with
      | true =>
        have hall2 := hidden (hstep.out rfl)
        clear hstep hn1
        go_wp2
        go_roundw
        case rel => exact ⟨k + 1, by omega, by go_num, hall2, hnx2⟩
        case measure => simp [intOf]; omega
      | false =>
        have hf := hidden (hn1.out rfl)
        clear hstep hn1
        go_wp2
        go_ret
        exact ⟨by rw [hf.out]; first | done | rfl, hby2.out⟩
    · have hlt' : ¬ (k : Int) < (ts.length : Int) := by omega
      obtain rfl : k = ts.length := by omega
      have hf := hidden (hyes.out hall.out)
      have hby : Hid (Below w.heap.size w wr) := hidden (hB0.out.trans (hnx.out.mono hB0.out.size))
      clear hall
      go_wp2
      go_ret
      exact ⟨by rw [hf.out]; first | done | rfl, hby.out⟩
end Go.Proofs.Ytnmjhbnadfjapaa
/-
  THE NODES THAT TESTS SAY SO OF, by contract: test.All, test.Each, and the reference's.
-/
namespace Go.Proofs.Ytnmjhbnadfjapaa
open Go.ChangeShapes Go.WideShapes Go.ChangeAt Go.RowKit Go.Maps

/-- The nodes of the first k of which all tests say so. -/
def bothN (ns : List Nd) (ts : List Tst) (k : Nat) : List Nat := (List.range k).filter fun i => ts.all (sayT (ns.getD i Nd.none).ps)
def natR : Rec Nat := ⟨fun x => [.int .i64 (x : Int)], 1, by decide, fun _ => rfl, fun p u hu => by simp at hu; rw [hu]; rfl, 0⟩
theorem natR_flat (l : List Nat) : natR.flat l = ints l := by
  induction l with
  | nil => rfl
  | cons x r ih => rw [Rec.flat_cons, ih]; rfl
theorem bothN_succ (ns : List Nd) (ts : List Tst) (k : Nat) : bothN ns ts (k + 1) = bothN ns ts k ++ (if ts.all (sayT (ns.getD k Nd.none).ps) = true then [k] else []) := by
  unfold bothN
  rw [List.range_succ, List.filter_append]
  congr 1
  rw [List.filter_cons, List.filter_nil]
theorem bothN_len (ns : List Nd) (ts : List Tst) (k : Nat) : (bothN ns ts k).length ≤ k := by
  unfold bothN
  exact Nat.le_trans (List.length_filter_le _ _) (by rw [List.length_range]; exact Nat.le_refl _)
/-- A node's cells, and its properties. -/
theorem node_in {g : Gr} {vs : List NdV} {a : Option Addr} {n c : Nat} {b : Option Addr} {m d : Nat} {z : World} (h : OwnG g vs a n c b m d z) {k : Nat} (hk : k < g.ns.length) :
    ∃ gn off pa pc, a = some ⟨gn, off, none⟩ ∧ gn < z.heap.size ∧ z.cell? ⟨gn, off + k * 2, none⟩ = some (.string (g.ns.getD k Nd.none).l) ∧ z.cell? ⟨gn, off + k * 2 + 1, none⟩ = some (.slice pa (g.ns.getD k Nd.none).ps.length pc) ∧ RowAt z pa (propR.flat (g.ns.getD k Nd.none).ps) := by
  obtain ⟨a9, c9, e9, hr9⟩ := holdsR_of_owns (R := nodeR) h.nodes.row
  simp only [Value.slice.injEq] at e9
  obtain ⟨rfl, -, rfl⟩ := e9
  obtain ⟨gn, off, rfl, hbb, hrc⟩ := rec_at hr9 (k := k) (by rw [h.nodes.len]; exact hk)
  obtain ⟨h1, h2⟩ := h.nodes.each k hk
  have d0 := hrc 0 _ rfl
  have d1 := hrc 1 _ rfl
  rw [show nodeR.dflt = NdV.none from rfl] at d0 d1
  have hpn := (own_none h2).2
  obtain ⟨a8, c8, e8, hr8⟩ := holdsR_of_owns (R := propR) h2
  simp only [Value.slice.injEq] at e8
  obtain ⟨e8a, e8b, e8c⟩ := e8
  refine ⟨gn, off, a8, c8, rfl, hbb, ?_, ?_, hr8⟩
  · rw [← h1]; exact d0
  · rw [← e8a, ← e8b, ← e8c]; exact d1
set_option maxHeartbeats 3200000 in
set_option maxRecDepth 100000 in
theorem all_c (g : Gr) (vs : List NdV) (a : Option Addr) (n c : Nat) (b : Option Addr) (m d : Nat) (ts : List Tst) (ta : Option Addr) (tc : Nat) (w : World) (hO : OwnG g vs a n c b m d w) (hs : g.sm) (ht : RowAt w ta (testR.flat ts)) (htl : ts.length ≤ 1000) :
    Calls Try.prog 29 #[.agg #[.slice a n c, .slice b m d], .slice ta ts.length tc] w fun e w' => ∃ v, e = .returned v ∧ w'.ownsRow w.heap.size 3 1 v (bothN g.ns ts g.ns.length).length (natR.flat (bothN g.ns ts g.ns.length)) ∧ Below w.heap.size w w' := by
  obtain ⟨ii, hii, hi0, hi1, hi2⟩ := info_parts infoIn
  obtain ⟨hgn, -⟩ := hO.len
  have hn0 : n ≤ 1000 := by rw [hgn]; exact hs.1
  obtain ⟨x, hx⟩ : ∃ x, x = w.alloc (.cells #[.slice a n c, .slice b m d] 25) := ⟨_, rfl⟩
  have hB0 : Hid (Below w.heap.size w x) := by rw [hx]; exact (Below.refl _ _).alloc (Nat.le_refl _) _
  have hX0 : Hid (x.heap[w.heap.size]? = some (.cells #[.slice a n c, .slice b m d] 25)) := by rw [hx]; exact heap_alloc_new w _
  have hnd := hidden fun z (hz : Below w.heap.size w z) k hk => node_in (hO.calm hz) (k := k) hk
  have hpass := hidden fun z (hz : Below w.heap.size w z) l ps pa pc hp hl => passes_c l ps pa pc ts ta tc z hp hl (ht.below hz) htl
  have hps : Hid (∀ i, i < g.ns.length → (g.ns.getD i Nd.none).ps.length ≤ 1000) := hidden fun i hi => (hs.2.1 _ (getD_memG (d := Nd.none) hi)).2.1
  generalize g.ns = ns at *
  rw [← hgn] at hps hnd ⊢
  obtain ⟨⟨b0, b1⟩, -⟩ := box2f hX0.out
  clear hO hs ht hgn
  subst hx
  go_enter Try.func29, Try.ntmps29
  go_wp2_with fail
  generalize w.alloc (.cells #[.slice a n c, .slice b m d] 25) = x at *
  clear b0 b1
  go_loopw [5, 11] (fun u i wr => ∃ k : Nat, k ≤ n ∧ i = .int .i64 k ∧ Hid (wr.ownsRow x.heap.size 3 1 u (bothN ns ts k).length (natR.flat (bothN ns ts k))) ∧ Hid (Below x.heap.size x wr))
    (fun _ i _ => n - (intOf i).toNat)
  case atStart => exact ⟨0, Nat.zero_le _, rfl, World.ownsRow_nil .., Below.refl _ _⟩
  case round =>
    obtain ⟨k, hk, rfl, hown, hnx⟩ := hrel
    obtain ⟨oa, oc, rfl⟩ := own_shape hown.out
    by_cases hlt : k < n
    · have hlt' : (k : Int) < (n : Int) := by omega
      have hby : Hid (Below w.heap.size w wr) := hidden (hB0.out.trans (hnx.out.mono hB0.out.size))
      obtain ⟨gn, off, pa, pc, rfl, hbb, d0, d1, hpr⟩ := hnd.out wr hby.out k hlt
      have hsu := hidden (bothN_succ ns ts k)
      have hln := bothN_len ns ts k
      have hpl := hps.out k hlt
      generalize (ns.getD k Nd.none).l = l at *
      generalize (ns.getD k Nd.none).ps = ps at *
      have hX := hidden (heap_alloc_new wr (.cells #[.string l, .slice pa ps.length pc] 44))
      have hB1 : Below wr.heap.size wr (wr.alloc (.cells #[.string l, .slice pa ps.length pc] 44)) := (Below.refl _ _).alloc (Nat.le_refl _) _
      have hn1 : Hid (Below x.heap.size x (wr.alloc (.cells #[.string l, .slice pa ps.length pc] 44))) := hidden (hnx.out.trans (hB1.mono hnx.out.size))
      have ho1 := hidden (hown.out.alloc (.cells #[.string l, .slice pa ps.length pc] 44))
      have hc1 := hpass.out _ (hby.out.trans (hB1.mono hby.out.size)) l ps pa pc (hpr.below hB1) hpl
      obtain ⟨⟨p0, p1⟩, -⟩ := box2f hX.out
      generalize ps.length = pl at *
      generalize ts.all (sayT ps) = bb at *
      clear hown hnx hB1 hpr hX
      go_wp2_with fail
      refine hc1.mono ?_
      rintro e w2 ⟨rfl, hB2⟩
      have hn2 : Hid (Below x.heap.size x w2) := hidden (hn1.out.trans (hB2.mono hn1.out.size))
      have ho2 := hidden (owns_keep ho1.out hB2)
      have hws : x.heap.size ≤ w2.heap.size := hn2.out.size
      clear hc1 hB2 hn1 ho1 d0 d1 p0 p1 hbb hby
      cases bb with
      | true =>
        have hone := hidden (SlR.oneR (R := natR) w2 k 3)
        go_wp2_with (at_builtin; go_loud (refine wpList_appT _ natR rfl _ _ 47 rfl x.heap.size 3 ii (.int .i64 0) 1 8 Try.underlying47 hii hi0 hi1 hi2 rfl rfl rfl (owns_keep ho2.out ((Below.refl _ _).alloc (Nat.le_refl _) _)) rfl (hone.out) (by show _ + 1 ≤ _; unfold maxLen; omega) (by show (_ + 1) * 8 ≤ _; omega) (by show _ ≤ (w2.heap.push _).size; simp; omega) ?_); intro v' w5 hown5 hgrow5)
        have hk5 : Hid (Below x.heap.size x w5) := hidden ((hn2.out.alloc hn2.out.size _).grown hgrow5 (hn2.out.alloc hn2.out.size (.cells #[.int .i64 (k : Int)] 3)).size (fun j hj => (ho2.out.lt j hj).1))
        have hO5 : Hid (w5.ownsRow x.heap.size 3 1 v' (bothN ns ts (k + 1)).length (natR.flat (bothN ns ts (k + 1)))) := hidden (by
          rw [hsu.out]
          simp only [if_true]
          rw [List.length_append, Rec.flat_app]
          exact hown5)
        clear hown5 hgrow5 ho2 hn2 hone
        go_wp2
        go_roundw
        case rel => exact ⟨k + 1, by omega, by go_num, hO5, hk5⟩
        case measure => simp [intOf]; omega
      | false =>
        have hO5 : Hid (w2.ownsRow x.heap.size 3 1 (.slice oa (bothN ns ts k).length oc) (bothN ns ts (k + 1)).length (natR.flat (bothN ns ts (k + 1)))) := hidden (by
          rw [hsu.out]
          simp only [Bool.false_eq_true, if_false, List.append_nil]
          exact ho2.out)
        clear ho2
        go_wp2
        go_roundw
        case rel => exact ⟨k + 1, by omega, by go_num, hO5, hn2⟩
        case measure => simp [intOf]; omega
    · have hlt' : ¬ (k : Int) < (n : Int) := by omega
      obtain rfl : k = n := by omega
      have hfin := hidden (own_le2 hown.out hB0.out.size)
      have hbf : Hid (Below w.heap.size w wr) := hidden (hB0.out.trans (hnx.out.mono hB0.out.size))
      clear hown
      go_wp2
      go_ret
      exact ⟨_, rfl, hfin.out, hbf.out⟩
set_option maxHeartbeats 3200000 in
set_option maxRecDepth 100000 in
theorem rget_c (g : Gr) (vs : List NdV) (a : Option Addr) (n c : Nat) (b : Option Addr) (m d : Nat) (k : Nat) (s : ByteArray) (w : World) (hO : OwnG g vs a n c b m d w) (hs : g.sm) (hk : k < n) :
    Calls Try.prog 15 #[.agg #[.slice a n c, .slice b m d], .int .i64 (k : Int), .string s] w fun e w' => e = .returned (.agg #[.int .i64 (pv (g.ns.getD k Nd.none).ps s).k, .int .i64 (pv (g.ns.getD k Nd.none).ps s).n, .string (pv (g.ns.getD k Nd.none).ps s).t]) ∧ Below w.heap.size w w' := by
  obtain ⟨hgn, -⟩ := hO.len
  have hk2 : k < g.ns.length := by rw [← hgn]; exact hk
  have hn0 : n ≤ 1000 := by rw [hgn]; exact hs.1
  obtain ⟨x, hx⟩ : ∃ x, x = (w.alloc (.cells #[.slice a n c, .slice b m d] 25)).alloc (.cells #[.int .i64 0, .int .i64 0, .string ⟨#[]⟩] 27) := ⟨_, rfl⟩
  have hB0 : Hid (Below w.heap.size w x) := by rw [hx]; exact ((Below.refl _ _).alloc (Nat.le_refl _) _).alloc (by simp) _
  have hX1 : Hid (x.heap[w.heap.size + 1]? = some (.cells #[.int .i64 0, .int .i64 0, .string ⟨#[]⟩] 27)) := by
    rw [hx]
    have h := heap_alloc_new (w.alloc (.cells #[.slice a n c, .slice b m d] 25)) (.cells #[.int .i64 0, .int .i64 0, .string ⟨#[]⟩] 27)
    rwa [show (w.alloc (.cells #[.slice a n c, .slice b m d] 25)).heap.size = w.heap.size + 1 by simp] at h
  obtain ⟨gn, off, pa, pc, rfl, hbb, d0, d1, hpr⟩ := node_in hO hk2
  have hpl : (g.ns.getD k Nd.none).ps.length ≤ 1000 := (hs.2.1 _ (getD_memG (d := Nd.none) hk2)).2.1
  have e0 := (hB0.out.cell (p := ⟨gn, off + k * 2, none⟩) hbb).trans d0
  have e1 := (hB0.out.cell (p := ⟨gn, off + k * 2 + 1, none⟩) hbb).trans d1
  have hp := rprop_c (g.ns.getD k Nd.none).l s (g.ns.getD k Nd.none).ps pa pc x (hpr.below hB0.out) (by omega)
  clear hO hs hpr hk2 hgn
  generalize (g.ns.getD k Nd.none).l = l at *
  generalize (g.ns.getD k Nd.none).ps = ps at *
  generalize (pv ps s).k = vk at *
  generalize (pv ps s).n = vn at *
  generalize (pv ps s).t = vt at *
  generalize ps.length = pl at *
  have hk' : (k : Int) < (n : Int) := by omega
  have hk0 : ¬ (k : Int) < 0 := by omega
  have hk1 : ¬ (n : Int) ≤ (k : Int) := by omega
  subst hx
  go_enter Try.func15, Try.ntmps15
  go_wp2_with fail
  refine hp.mono ?_
  rintro e w2 ⟨rfl, hB2⟩
  have hX2 := hidden (box_below hX1.out hB2)
  obtain ⟨⟨v0, v1, v2⟩, f0, f1, f2⟩ := box3n hX2.out
  have hfin := hidden (heap_set3 hX2.out (.int .i64 vk) (.int .i64 vn) (.string vt))
  have hb2 := hB0.out.trans (hB2.mono hB0.out.size)
  have hBF := hidden (((hb2.setCell (p := ⟨w.heap.size + 1, 0, none⟩) (show w.heap.size ≤ w.heap.size + 1 by omega) (.int .i64 vk)).setCell (p := ⟨w.heap.size + 1, 1, none⟩) (show w.heap.size ≤ w.heap.size + 1 by omega) (.int .i64 vn)).setCell (p := ⟨w.heap.size + 1, 2, none⟩) (show w.heap.size ≤ w.heap.size + 1 by omega) (.string vt))
  clear hb2 hB2 hp d0 d1 e0 e1
  go_wp2
  refine bodyPost_ret (results_cell_row rfl _ _ (w.heap.size + 1) _ _ _ _ rfl hfin.out Try.underlying27 rfl (by kernel_rfl)) rfl ⟨rfl, hBF.out⟩
end Go.Proofs.Ytnmjhbnadfjapaa
/-
  ONE TEST's NODES, by contract: the reference's, and the program's, which are the same for a good graph; a test, somewhat cut.
-/
namespace Go.Proofs.Ytnmjhbnadfjapaa
open Go.ChangeShapes Go.WideShapes Go.ChangeAt Go.RowKit Go.Maps

set_option maxHeartbeats 3200000 in
set_option maxRecDepth 100000 in
theorem rtest8_c (g : Gr) (vs : List NdV) (a : Option Addr) (n c : Nat) (b : Option Addr) (m d : Nat) (q : Tst) (w : World) (hO : OwnG g vs a n c b m d w) (hs : g.sm) :
    Calls Try.prog 21 #[.agg #[.slice a n c, .slice b m d], .string q.s, .int .i64 q.o, .agg #[.int .i64 q.k, .int .i64 q.n, .string q.t]] w fun e w' => ∃ v, e = .returned v ∧ HoldsR natR w' v (bothN g.ns [q] g.ns.length) ∧ Below w.heap.size w w' := by
  obtain ⟨ii, hii, hi0, hi1, hi2⟩ := info_parts infoIn
  obtain ⟨hgn, -⟩ := hO.len
  have hn0 : n ≤ 1000 := by rw [hgn]; exact hs.1
  obtain ⟨qs, qo, qk, qn, qt⟩ := q
  simp only
  obtain ⟨wb, hwb⟩ : ∃ wb, wb = (w.alloc (.cells #[.slice a n c, .slice b m d] 25)).alloc (.cells #[.int .i64 qk, .int .i64 qn, .string qt] 27) := ⟨_, rfl⟩
  have hB0 : Hid (Below w.heap.size w wb) := by rw [hwb]; exact ((Below.refl _ _).alloc (Nat.le_refl _) _).alloc (by simp) _
  have hX0 : Hid (wb.heap[w.heap.size]? = some (.cells #[.slice a n c, .slice b m d] 25)) := by
    rw [hwb]
    exact heap_alloc_old (w.alloc (.cells #[.slice a n c, .slice b m d] 25)) _ (by simp) |>.trans (heap_alloc_new w _)
  have hX1 : Hid (wb.heap[w.heap.size + 1]? = some (.cells #[.int .i64 qk, .int .i64 qn, .string qt] 27)) := by
    rw [hwb]
    have h := heap_alloc_new (w.alloc (.cells #[.slice a n c, .slice b m d] 25)) (.cells #[.int .i64 qk, .int .i64 qn, .string qt] 27)
    rwa [show (w.alloc (.cells #[.slice a n c, .slice b m d] 25)).heap.size = w.heap.size + 1 by simp] at h
  have hget := hidden fun z (hz : Below w.heap.size w z) k hk => rget_c g vs a n c b m d k qs z (hO.calm hz) hs hk
  generalize g.ns = ns at *
  rw [← hgn]
  clear hO hs hgn
  go_enter Try.func21, Try.ntmps21
  go_wp2_with fail
  rw [← hwb]
  replace hwb := hidden hwb.symm
  have hWs : wb.heap.size = w.heap.size + 1 + 1 := by rw [← hwb.out]; simp
  have hO0 : Hid ((wb.alloc (.cells #[] 3)).ownsRow wb.heap.size 3 1 (.slice (some ⟨w.heap.size + 1 + 1, 0, none⟩) 0 0) (bothN ns [⟨qs, qo, qk, qn, qt⟩] 0).length (natR.flat (bothN ns [⟨qs, qo, qk, qn, qt⟩] 0))) := hidden (by
    rw [← hWs]
    exact World.ownsRow_made (base := wb.heap.size) (e := 3) (size := 1) wb #[] 0 (Nat.le_refl _) (by unfold maxLen; omega) rfl)
  clear hWs
  have hk0 : Hid (Below wb.heap.size wb (wb.alloc (.cells #[] 3))) := hidden ((Below.refl _ _).alloc (Nat.le_refl _) _)
  go_wp2_with fail
  generalize wb.alloc (.cells #[] 3) = x at *
  go_loopw [9, 10] (fun u i wr => ∃ k : Nat, k ≤ n ∧ i = .int .i64 k ∧ Hid (wr.ownsRow wb.heap.size 3 1 u (bothN ns [⟨qs, qo, qk, qn, qt⟩] k).length (natR.flat (bothN ns [⟨qs, qo, qk, qn, qt⟩] k))) ∧ Hid (Below wb.heap.size wb wr))
    (fun _ i _ => n - (intOf i).toNat)
  case atStart => exact ⟨0, Nat.zero_le _, rfl, hO0, hk0⟩
  case round =>
    clear hO0 hk0
    obtain ⟨k, hk, rfl, hown, hnx⟩ := hrel
    obtain ⟨oa, oc, rfl⟩ := own_shape hown.out
    have hby : Hid (Below w.heap.size w wr) := hidden (hB0.out.trans (hnx.out.mono hB0.out.size))
    obtain ⟨⟨b0, b1⟩, -⟩ := box2f (box_below hX0.out hnx.out)
    by_cases hlt : k < n
    · have hlt' : (k : Int) < (n : Int) := by omega
      have hsu := hidden (bothN_succ ns [⟨qs, qo, qk, qn, qt⟩] k)
      have hln := bothN_len ns [⟨qs, qo, qk, qn, qt⟩] k
      have hres : Hid (testV qo (pv (ns.getD k Nd.none).ps qs).k qk (orS (cmpI (pv (ns.getD k Nd.none).ps qs).k qk) (cmpI (pv (ns.getD k Nd.none).ps qs).n qn) (cmpS (pv (ns.getD k Nd.none).ps qs).t qt)) = [(⟨qs, qo, qk, qn, qt⟩ : Tst)].all (sayT (ns.getD k Nd.none).ps)) := hidden (by simp [sayT, tv])
      have hg1 := hidden fun z (hz : Below w.heap.size w z) => hget.out z hz k hlt
      have hrt := hidden fun z => rtest_c qo (pv (ns.getD k Nd.none).ps qs).k (pv (ns.getD k Nd.none).ps qs).n qk qn (pv (ns.getD k Nd.none).ps qs).t qt z
      rw [hres.out] at hrt
      generalize [(⟨qs, qo, qk, qn, qt⟩ : Tst)].all (sayT (ns.getD k Nd.none).ps) = bb at *
      generalize (pv (ns.getD k Nd.none).ps qs).k = vk at *
      generalize (pv (ns.getD k Nd.none).ps qs).n = vn at *
      generalize (pv (ns.getD k Nd.none).ps qs).t = vt at *
      clear hres
      have hcz : Hid (∀ z, Below wr.heap.size wr z → z.cell? ⟨w.heap.size, 0, none⟩ = some (.slice a n c) ∧ z.cell? ⟨w.heap.size, 1, none⟩ = some (.slice b m d) ∧ z.cell? ⟨w.heap.size + 1, 0, none⟩ = some (.int .i64 qk) ∧ z.cell? ⟨w.heap.size + 1, 1, none⟩ = some (.int .i64 qn) ∧ z.cell? ⟨w.heap.size + 1, 2, none⟩ = some (.string qt)) := hidden fun z h => by
        obtain ⟨⟨y0, y1⟩, -⟩ := box2f (box_below hX0.out (hnx.out.trans (h.mono hnx.out.size)))
        obtain ⟨⟨y2, y3, y4⟩, -⟩ := box3n (box_below hX1.out (hnx.out.trans (h.mono hnx.out.size)))
        exact ⟨y0, y1, y2, y3, y4⟩
      have kk : Hid (Below wr.heap.size wr wr.drew) := hidden (Below.refl _ _).drew
      have hS := hcz.out _ kk.out
      go_wp2_with fail
      clear b0 b1
      go_region_held3 (fun z => z.cell? ⟨w.heap.size, 0, none⟩ = some (.slice a n c) ∧ z.cell? ⟨w.heap.size, 1, none⟩ = some (.slice b m d) ∧ z.cell? ⟨w.heap.size + 1, 0, none⟩ = some (.int .i64 qk) ∧ z.cell? ⟨w.heap.size + 1, 1, none⟩ = some (.int .i64 qn) ∧ z.cell? ⟨w.heap.size + 1, 2, none⟩ = some (.string qt)) (first | exact hS | go_keep) (first
        | (go_at_call 15; refine (hg1.out _ (hby.out.trans (kk.out.mono hby.out.size))).mono ?_; rintro e y9 ⟨rfl, hBz⟩
           have kk := hidden (kk.out.trans (hBz.mono kk.out.size))
           have hS := hcz.out y9 kk.out
           skip)
        | (go_at_call 50; refine (hrt.out _).mono ?_; rintro e y9 ⟨rfl, hBz⟩
           have kk := hidden (kk.out.trans (hBz.mono kk.out.size))
           have hS := hcz.out y9 kk.out
           skip)
        | fail)
      have hn2 : Hid (Below wb.heap.size wb y9) := hidden (hnx.out.trans (kk.out.mono hnx.out.size))
      have ho2 := hidden (owns_keep hown.out kk.out)
      have hws : wb.heap.size ≤ y9.heap.size := hn2.out.size
      clear kk hS hcz hnx hby hg1 hrt hown
      cases bb with
      | true =>
        have hone := hidden (SlR.oneR (R := natR) y9 k 3)
        go_wp2_with (at_builtin; go_loud (refine wpList_appT _ natR rfl _ _ 47 rfl wb.heap.size 3 ii (.int .i64 0) 1 8 Try.underlying47 hii hi0 hi1 hi2 rfl rfl rfl (owns_keep ho2.out ((Below.refl _ _).alloc (Nat.le_refl _) _)) rfl (hone.out) (by show _ + 1 ≤ _; unfold maxLen; omega) (by show (_ + 1) * 8 ≤ _; omega) (by show _ ≤ (y9.heap.push _).size; simp; omega) ?_); intro v' w5 hown5 hgrow5)
        have hk5 : Hid (Below wb.heap.size wb w5) := hidden ((hn2.out.alloc hn2.out.size _).grown hgrow5 (hn2.out.alloc hn2.out.size (.cells #[.int .i64 (k : Int)] 3)).size (fun j hj => (ho2.out.lt j hj).1))
        have hO5 : Hid (w5.ownsRow wb.heap.size 3 1 v' (bothN ns [⟨qs, qo, qk, qn, qt⟩] (k + 1)).length (natR.flat (bothN ns [⟨qs, qo, qk, qn, qt⟩] (k + 1)))) := hidden (by
          rw [hsu.out]
          simp only [if_true]
          rw [List.length_append, Rec.flat_app]
          exact hown5)
        clear hown5 hgrow5 ho2 hn2 hone
        go_wp2
        go_roundw
        case rel => exact ⟨k + 1, by omega, by go_num, hO5, hk5⟩
        case measure => simp [intOf]; omega
      | false =>
        have hO5 : Hid (y9.ownsRow wb.heap.size 3 1 (.slice oa (bothN ns [⟨qs, qo, qk, qn, qt⟩] k).length oc) (bothN ns [⟨qs, qo, qk, qn, qt⟩] (k + 1)).length (natR.flat (bothN ns [⟨qs, qo, qk, qn, qt⟩] (k + 1)))) := hidden (by
          rw [hsu.out]
          simp only [Bool.false_eq_true, if_false, List.append_nil]
          exact ho2.out)
        clear ho2
        go_wp2
        go_roundw
        case rel => exact ⟨k + 1, by omega, by go_num, hO5, hn2⟩
        case measure => simp [intOf]; omega
    · have hlt' : ¬ (k : Int) < (n : Int) := by omega
      obtain rfl : k = n := by omega
      have hfin := hidden (holdsR_of_owns (R := natR) hown.out)
      clear hown
      go_wp2
      go_ret
      exact ⟨_, rfl, hfin.out, hby.out⟩
theorem first_some {α : Type} {f : α → Int} : ∀ {l : List α} {s k : Nat} {c : Int}, firstE f l s = some (k, c) → c ≠ 0
  | [], _, _, _, h => by cases h
  | x :: r, s, k, c, h => by
    unfold firstE at h
    split at h
    · exact first_some h
    · rename_i hne
      simp only [Option.some.injEq, Prod.mk.injEq] at h
      rw [← h.2]; exact hne
theorem first_none {α : Type} {f : α → Int} : ∀ {l : List α} {s : Nat}, firstE f l s = none → ∀ x ∈ l, f x = 0
  | [], _, _, x, hx => by cases hx
  | y :: r, s, h, x, hx => by
    unfold firstE at h
    split at h
    · rename_i h0
      rcases List.mem_cons.1 hx with rfl | hx
      · exact h0
      · exact first_none h x hx
    · cases h
theorem good_nodes {g : Gr} (h : (checkG g).2 = 0) : ∀ x ∈ g.ns, nodeE x = 0 := by
  unfold checkG at h
  split at h
  · rename_i i c h1
    exact absurd h (first_some h1)
  · rename_i h1
    exact first_none h1
theorem good_names {x : Nd} (h : nodeE x = 0) : x.ps.Pairwise fun p q => p.s ≠ q.s := by
  have hd : dupTo x.ps x.ps.length = false := by
    unfold nodeE at h
    split at h
    · split at h
      · cases h
      · split at h
        · cases h
        · split at h
          · cases h
          · rename_i h4; simpa using h4
    · cases h
  rw [List.pairwise_iff_getElem]
  intro i j hi hj hij e
  have h1 : dupTo x.ps x.ps.length = true := by
    unfold dupTo
    rw [List.any_eq_true]
    refine ⟨j, List.mem_range.2 hj, ?_⟩
    rw [List.any_eq_true]
    refine ⟨i, List.mem_range.2 hij, ?_⟩
    unfold sameP
    rw [show x.ps.getD j Pp.none = x.ps[j] by simp [List.getD, hj], show x.ps.getD i Pp.none = x.ps[i] by simp [List.getD, hi], e]
    simp
  rw [hd] at h1
  cases h1
theorem tl_inj {a b : ByteArray} (h : a.toList = b.toList) : a = b := by
  rw [Go.ByteArray.toList_eq, Go.ByteArray.toList_eq] at h
  exact ByteArray.ext (Array.ext' h)
theorem tv_none (o k n : Int) (t : ByteArray) : tv o k n t Pp.none = false := by simp [tv, testV, Pp.none]
/-- A node's one property of a name. -/
theorem one_p (i : Int) (s : ByteArray) (o k n : Int) (t : ByteArray) : ∀ ps : List Pp, ps.Pairwise (fun p q => p.s ≠ q.s) →
    ((((ps.map fun p => (i, p)).filter fun c : Cl => decide (c.2.s = s)).filter fun c => tv o k n t c.2).map (·.1)) = if tv o k n t (pv ps s) = true then [i] else []
  | [], _ => by rw [show pv [] s = Pp.none from rfl, tv_none]; rfl
  | p :: r, h => by
    have h2 := (List.pairwise_cons.1 h)
    have ih := one_p i s o k n t r h2.2
    rw [List.map_cons, List.filter_cons]
    by_cases hp : p.s = s
    · have hno : ((r.map fun p => (i, p)).filter fun c : Cl => decide (c.2.s = s)) = [] := by
        rw [List.filter_eq_nil_iff]
        intro c hc
        obtain ⟨q, hq, rfl⟩ := List.mem_map.1 hc
        have := h2.1 q hq
        simp only [decide_eq_true_eq]
        intro e
        exact this (hp.trans e.symm)
      have hpv : pv (p :: r) s = p := by
        unfold pv
        rw [List.find?_cons]
        simp [hp]
      rw [if_pos (decide_eq_true hp), hno, hpv, List.filter_cons, List.filter_nil]
      split <;> rfl
    · have hne : (p.s.toList == s.toList) = false := by
        simp only [beq_eq_false_iff_ne]
        exact fun e => hp (tl_inj e)
      have hpv : pv (p :: r) s = pv r s := by
        unfold pv
        rw [List.find?_cons, hne]
      rw [if_neg (by simpa using hp), hpv]
      exact ih
/-- For a good graph the columns answer as the nodes themselves. -/
theorem colT_is {g : Gr} (h : (checkG g).2 = 0) (q : Tst) : colT g.ns q.s q.o q.k q.n q.t = (bothN g.ns [q] g.ns.length).map fun (i : Nat) => (i : Int) := by
  have key : ∀ N, N ≤ g.ns.length → (((((List.range N).flatMap fun i => (g.ns.getD i Nd.none).ps.map fun p => ((i : Int), p)).filter fun c : Cl => decide (c.2.s = q.s)).filter fun c => tv q.o q.k q.n q.t c.2).map (·.1)) = (bothN g.ns [q] N).map fun (i : Nat) => (i : Int) := by
    intro N
    induction N with
    | zero => intro _; rfl
    | succ N ih =>
      intro hN
      have hm : g.ns.getD N Nd.none ∈ g.ns := getD_memG (d := Nd.none) (by omega)
      have h1 := one_p (N : Int) q.s q.o q.k q.n q.t _ (good_names (good_nodes h _ hm))
      rw [List.range_succ, List.flatMap_append, List.filter_append, List.filter_append, List.map_append, ih (by omega), bothN_succ, List.map_append]
      congr 1
      simp only [List.flatMap_cons, List.flatMap_nil, List.append_nil]
      rw [h1]
      have e : [q].all (sayT (g.ns.getD N Nd.none).ps) = tv q.o q.k q.n q.t (pv (g.ns.getD N Nd.none).ps q.s) := by simp [sayT]
      rw [e]
      split <;> rfl
  unfold colT namF allP
  rw [List.take_zero, List.map_nil, List.append_nil]
  exact key g.ns.length (Nat.le_refl _)
set_option maxRecDepth 100000 in
theorem each_c (ns : List Nd) (C : ColX) (B : Nat) (q : Tst) (w : World) (hC : ColAt ns C B w) (hs : q.s.size ≤ maxLen) (hN : ns.length ≤ 1000) (hps : ∀ i, (ns.getD i Nd.none).ps.length ≤ 1000) :
    Calls Try.prog 30 #[.pointer (some ⟨C.gb, 0, none⟩), .agg #[.string q.s, .int .i64 q.o, .int .i64 q.k, .int .i64 q.n, .string q.t]] w fun e w' => ∃ v, e = .returned v ∧ w'.ownsRow w.heap.size 3 1 v (colT ns q.s q.o q.k q.n q.t).length (intR.flat (colT ns q.s q.o q.k q.n q.t)) ∧ Below w.heap.size w w' := by
  obtain ⟨qs, qo, qk, qn, qt⟩ := q
  simp only at hs ⊢
  obtain ⟨x, hx⟩ : ∃ x, x = w.alloc (.cells #[.string qs, .int .i64 qo, .int .i64 qk, .int .i64 qn, .string qt] 62) := ⟨_, rfl⟩
  have hB0 : Below w.heap.size w x := by rw [hx]; exact (Below.refl _ _).alloc (Nat.le_refl _) _
  have hX0 : x.heap[w.heap.size]? = some (.cells #[.string qs, .int .i64 qo, .int .i64 qk, .int .i64 qn, .string qt] 62) := by rw [hx]; exact heap_alloc_new w _
  have hc := coltest_c ns C B qs qo qk qn qt x (hC.step hB0) hs hN hps
  obtain ⟨b0, b1, b2, b3, b4⟩ := box5t hX0
  replace hB0 := hidden hB0
  generalize colT ns qs qo qk qn qt = L at *
  clear hC hX0
  subst hx
  go_enter Try.func30, Try.ntmps30
  go_wp2_with fail
  refine hc.mono ?_
  rintro e w2 ⟨v, rfl, hown, hB2⟩
  have hfin := hidden (own_le2 hown hB0.out.size)
  have hbf := hidden (hB0.out.trans (hB2.mono hB0.out.size))
  obtain ⟨oa, oc, rfl⟩ := own_shape hown
  clear hown hB2 hc b0 b1 b2 b3 b4
  go_wp2
  go_ret
  exact ⟨_, rfl, hfin.out, hbf.out⟩
set_option maxRecDepth 100000 in
theorem coltestNil_c (s : ByteArray) (o k n : Int) (t : ByteArray) (w : World) :
    Calls Try.prog 20 #[.pointer none, .string s, .int .i64 o, .agg #[.int .i64 k, .int .i64 n, .string t]] w fun e w' => e = .returned (.slice none 0 0) ∧ Below w.heap.size w w' := by
  have hB0 : Hid (Below w.heap.size w (w.alloc (.cells #[.int .i64 k, .int .i64 n, .string t] 27))) := (Below.refl _ _).alloc (Nat.le_refl _) _
  go_enter Try.func20, Try.ntmps20
  go_wp2
  go_ret
  exact ⟨rfl, hB0.out⟩
set_option maxRecDepth 100000 in
theorem eachNil_c (q : Tst) (w : World) :
    Calls Try.prog 30 #[.pointer none, .agg #[.string q.s, .int .i64 q.o, .int .i64 q.k, .int .i64 q.n, .string q.t]] w fun e w' => e = .returned (.slice none 0 0) ∧ Below w.heap.size w w' := by
  obtain ⟨qs, qo, qk, qn, qt⟩ := q
  simp only
  obtain ⟨x, hx⟩ : ∃ x, x = w.alloc (.cells #[.string qs, .int .i64 qo, .int .i64 qk, .int .i64 qn, .string qt] 62) := ⟨_, rfl⟩
  have hB0 : Below w.heap.size w x := by rw [hx]; exact (Below.refl _ _).alloc (Nat.le_refl _) _
  have hX0 : x.heap[w.heap.size]? = some (.cells #[.string qs, .int .i64 qo, .int .i64 qk, .int .i64 qn, .string qt] 62) := by rw [hx]; exact heap_alloc_new w _
  have hc := coltestNil_c qs qo qk qn qt x
  obtain ⟨b0, b1, b2, b3, b4⟩ := box5t hX0
  replace hB0 := hidden hB0
  clear hX0
  subst hx
  go_enter Try.func30, Try.ntmps30
  go_wp2_with fail
  refine hc.mono ?_
  rintro e w2 ⟨rfl, hB2⟩
  have hbf := hidden (hB0.out.trans (hB2.mono hB0.out.size))
  clear hB2 hc b0 b1 b2 b3 b4
  go_wp2
  go_ret
  exact ⟨rfl, hbf.out⟩
end Go.Proofs.Ytnmjhbnadfjapaa
/-
  WHETHER TWO LISTS OF NUMBERS ARE THE SAME, by its contract.
-/
namespace Go.Proofs.Ytnmjhbnadfjapaa
open Go.ChangeShapes Go.WideShapes Go.ChangeAt Go.RowKit

theorem same_ends {xs ys : List Int} (k : Nat) (hl : xs.length = ys.length) (ht : xs.take k = ys.take k) (hk : xs.length ≤ k) : decide (xs = ys) = true := by
  rw [List.take_of_length_le hk, List.take_of_length_le (by omega)] at ht
  exact decide_eq_true ht
theorem same_parts {xs ys : List Int} (k : Nat) (h : xs.getD k 0 ≠ ys.getD k 0) : decide (xs = ys) = false := by
  refine decide_eq_false fun e => h (by rw [e])

set_option maxHeartbeats 800000 in
set_option maxRecDepth 1000000 in
theorem same_c (va vb : Value) (xs ys : List Int) (w : World) (hva : Holds w va (xs.map (Value.int .i64))) (hvb : Holds w vb (ys.map (Value.int .i64))) (hx : xs.length ≤ 17592186044416) (hy : ys.length ≤ 17592186044416) :
    Calls Try.prog 17 #[va, vb] w fun e w' => e = .returned (.bool (decide (xs = ys))) ∧ Below w.heap.size w w' := by
  obtain ⟨a, cap, rfl, hra⟩ := hva
  obtain ⟨b, cap', rfl, hrb⟩ := hvb
  rw [List.length_map, List.length_map]
  by_cases hl : xs.length = ys.length
  · go_enter Try.func17, Try.ntmps17
    go_wp2
    go_loopw [5] (fun i wr => ∃ k : Nat, k ≤ xs.length ∧ i = .int .i64 k ∧ xs.take k = ys.take k ∧ Below w.heap.size w wr)
      (fun i _ => xs.length - (intOf i).toNat)
    case atStart => exact ⟨0, Nat.zero_le _, rfl, rfl, Below.refl _ _⟩
    case round =>
      obtain ⟨k, hk, rfl, ht, hnx⟩ := hrel
      by_cases hlt : k < xs.length
      · rcases hra with h0 | ⟨b1, o1, rfl, hb1, hc1⟩
        · simp only [List.map_eq_nil_iff] at h0; subst h0; simp at hlt
        rcases hrb with h0 | ⟨b2, o2, rfl, hb2, hc2⟩
        · simp only [List.map_eq_nil_iff] at h0; subst h0; simp at hl; rw [hl] at hlt; simp at hlt
        have hx1 : wr.cell? ⟨b1, o1 + k, none⟩ = some (.int .i64 (xs.getD k 0)) := (hnx.cell (by exact hb1)).trans (hc1 k _ (by simp [hlt]))
        have hx2 : wr.cell? ⟨b2, o2 + k, none⟩ = some (.int .i64 (ys.getD k 0)) := (hnx.cell (by exact hb2)).trans (hc2 k _ (by simp [show k < ys.length by omega]))
        have hlt2 : k < ys.length := by omega
        have hts : xs.getD k 0 = ys.getD k 0 → xs.take (k + 1) = ys.take (k + 1) := fun e => by
          rw [List.take_add_one, List.take_add_one, ht, List.getElem?_eq_getElem hlt, List.getElem?_eq_getElem hlt2]
          simp [List.getD, hlt, hlt2] at e
          simp [e]
        have hne := same_parts (xs := xs) (ys := ys) k
        clear hc1 hc2
        generalize xs.getD k 0 = x at *
        generalize ys.getD k 0 = y at *
        go_wp2
        go_region
        all_goals (try go_wp2)
        · have h : (x != y) = true := by assumption
          go_ret
          exact ⟨ret_bool (hne (by simpa using h)).symm, hnx.drew⟩
        · have h : (x != y) = false := by assumption
          go_roundw
          case rel => exact ⟨k + 1, by omega, by go_num, hts (by simpa using h), hnx.drew⟩
          case measure => simp [intOf]; omega
      · go_wp2
        go_ret
        exact ⟨ret_bool (same_ends k hl ht (by omega)).symm, hnx⟩
  · have e : decide (xs = ys) = false := decide_eq_false fun e => hl (by rw [e])
    have hl' : ((xs.length : Int) == (ys.length : Int)) = false := by simp; omega
    go_enter Try.func17, Try.ntmps17
    go_wp2
    go_ret
    exact ⟨ret_bool e.symm, Below.refl _ _⟩
end Go.Proofs.Ytnmjhbnadfjapaa
/-
  A TEST, SOMEWHAT CUT, by contract; two lists in common; and what the law's walk needs of boxes.
-/
namespace Go.Proofs.Ytnmjhbnadfjapaa
open Go.ChangeShapes Go.WideShapes Go.ChangeAt Go.RowKit Go.Maps

theorem heap_set5 {x : World} {b : Nat} {a0 a1 a2 a3 a4 : Value} {t : TypeId} (h : x.heap[b]? = some (.cells #[a0, a1, a2, a3, a4] t)) (u0 u1 u2 u3 u4 : Value) :
    (((((x.setCell ⟨b, 0, none⟩ u0).setCell ⟨b, 1, none⟩ u1).setCell ⟨b, 2, none⟩ u2).setCell ⟨b, 3, none⟩ u3).setCell ⟨b, 4, none⟩ u4).heap[b]? = some (.cells #[u0, u1, u2, u3, u4] t) := by
  have h1 := set_heap h 0 u0
  have h2 := set_heap h1 1 u1
  have h3 := set_heap h2 2 u2
  have h4 := set_heap h3 3 u3
  have h5 := set_heap h4 4 u4
  simpa using h5
theorem oth_set5 {x : World} {b g : Nat} {o : Obj} (h : x.heap[b]? = some o) (hne : g ≠ b) (u0 u1 u2 u3 u4 : Value) :
    (((((x.setCell ⟨g, 0, none⟩ u0).setCell ⟨g, 1, none⟩ u1).setCell ⟨g, 2, none⟩ u2).setCell ⟨g, 3, none⟩ u3).setCell ⟨g, 4, none⟩ u4).heap[b]? = some o :=
  set_oth (set_oth (set_oth (set_oth (set_oth h hne 0 u0) hne 1 u1) hne 2 u2) hne 3 u3) hne 4 u4
theorem frz5 {x : World} {b : Nat} {c0 c1 c2 c3 c4 : Value} {t : TypeId} (h : x.heap[b]? = some (.cells #[c0, c1, c2, c3, c4] t)) : x.frozen? ⟨b, 0, none⟩ = false ∧ x.frozen? ⟨b, 1, none⟩ = false ∧ x.frozen? ⟨b, 2, none⟩ = false ∧ x.frozen? ⟨b, 3, none⟩ = false ∧ x.frozen? ⟨b, 4, none⟩ = false := by
  simp [World.frozen?, h]
theorem OwnG.setT {g : Gr} {vs : List NdV} {a : Option Addr} {n c : Nat} {b : Option Addr} {m d : Nat} {x : World} {B : Nat} {cs : Array Value} (h : OwnG g vs a n c b m d x) (hb : x.heap[B]? = some (.cells cs 62)) (j : Nat) (v : Value) : OwnG g vs a n c b m d (x.setCell ⟨B, j, none⟩ v) :=
  ⟨⟨own_set h.nodes.row hb (by decide) _ _, h.nodes.len, fun i hi => ⟨(h.nodes.each i hi).1, own_set (h.nodes.each i hi).2 hb (by decide) _ _⟩⟩, own_set h.edges hb (by decide) _ _⟩
theorem OwnG.set5 {g : Gr} {vs : List NdV} {a : Option Addr} {n c : Nat} {b : Option Addr} {m d : Nat} {x : World} {B : Nat} {cs : Array Value} (h : OwnG g vs a n c b m d x) (hb : x.heap[B]? = some (.cells cs 62)) (u0 u1 u2 u3 u4 : Value) :
    OwnG g vs a n c b m d (((((x.setCell ⟨B, 0, none⟩ u0).setCell ⟨B, 1, none⟩ u1).setCell ⟨B, 2, none⟩ u2).setCell ⟨B, 3, none⟩ u3).setCell ⟨B, 4, none⟩ u4) := by
  have h1 := set_heap hb 0 u0
  have h2 := set_heap h1 1 u1
  have h3 := set_heap h2 2 u2
  have h4 := set_heap h3 3 u3
  exact ((((h.setT hb 0 u0).setT h1 1 u1).setT h2 2 u2).setT h3 3 u3).setT h4 4 u4
theorem below_set5 {w x : World} {B b : Nat} (h : Below B w x) (hb : B ≤ b) (u0 u1 u2 u3 u4 : Value) : Below B w (((((x.setCell ⟨b, 0, none⟩ u0).setCell ⟨b, 1, none⟩ u1).setCell ⟨b, 2, none⟩ u2).setCell ⟨b, 3, none⟩ u3).setCell ⟨b, 4, none⟩ u4) :=
  ((((h.setCell (p := ⟨b, 0, none⟩) hb u0).setCell (p := ⟨b, 1, none⟩) hb u1).setCell (p := ⟨b, 2, none⟩) hb u2).setCell (p := ⟨b, 3, none⟩) hb u3).setCell (p := ⟨b, 4, none⟩) hb u4
theorem natH {w : World} {v : Value} {X : List Nat} (h : HoldsR natR w v X) : Holds w v ((X.map fun (i : Nat) => (i : Int)).map (Value.int .i64)) := by
  obtain ⟨a, c, h1, h2⟩ := h
  rw [natR_flat] at h2
  refine ⟨a, c, by rw [h1]; simp, ?_⟩
  have e : ((X.map fun (i : Nat) => (i : Int)).map (Value.int .i64)) = ints X := by unfold ints; rw [List.map_map]; rfl
  rw [e]; exact h2
theorem intH {w : World} {v : Value} {l : List Int} (h : HoldsR intR w v l) : Holds w v (l.map (Value.int .i64)) := by
  obtain ⟨a, c, h1, h2⟩ := h
  have e : ∀ l : List Int, intR.flat l = l.map (Value.int .i64) := by
    intro l
    induction l with
    | nil => rfl
    | cons x r ih => rw [Rec.flat_cons, ih]; rfl
  rw [e] at h2
  exact ⟨a, c, by rw [h1, List.length_map], h2⟩
set_option maxHeartbeats 3200000 in
set_option maxRecDepth 100000 in
theorem tfew_c (q : Tst) (w : World) :
    Calls Try.prog 27 #[.agg #[.string q.s, .int .i64 q.o, .int .i64 q.k, .int .i64 q.n, .string q.t]] w fun e w' => e = .returned (.agg #[.string (cutB q.s 32), .int .i64 q.o, .int .i64 q.k, .int .i64 q.n, .string (cutB q.t 120)]) ∧ Below w.heap.size w w' := by
  obtain ⟨qs, qo, qk, qn, qt⟩ := q
  simp only
  obtain ⟨x, hx⟩ : ∃ x, x = (w.alloc (.cells #[.string qs, .int .i64 qo, .int .i64 qk, .int .i64 qn, .string qt] 62)).alloc (.cells #[.string ⟨#[]⟩, .int .i64 0, .int .i64 0, .int .i64 0, .string ⟨#[]⟩] 62) := ⟨_, rfl⟩
  have hB0 : Hid (Below w.heap.size w x) := by rw [hx]; exact ((Below.refl _ _).alloc (Nat.le_refl _) _).alloc (by simp) _
  have hX0 : Hid (x.heap[w.heap.size]? = some (.cells #[.string qs, .int .i64 qo, .int .i64 qk, .int .i64 qn, .string qt] 62)) := by
    rw [hx]
    exact heap_alloc_old (w.alloc (.cells #[.string qs, .int .i64 qo, .int .i64 qk, .int .i64 qn, .string qt] 62)) _ (by simp) |>.trans (heap_alloc_new w _)
  have hX1 : Hid (x.heap[w.heap.size + 1]? = some (.cells #[.string ⟨#[]⟩, .int .i64 0, .int .i64 0, .int .i64 0, .string ⟨#[]⟩] 62)) := by
    rw [hx]
    have h := heap_alloc_new (w.alloc (.cells #[.string qs, .int .i64 qo, .int .i64 qk, .int .i64 qn, .string qt] 62)) (.cells #[.string ⟨#[]⟩, .int .i64 0, .int .i64 0, .int .i64 0, .string ⟨#[]⟩] 62)
    rwa [show (w.alloc (.cells #[.string qs, .int .i64 qo, .int .i64 qk, .int .i64 qn, .string qt] 62)).heap.size = w.heap.size + 1 by simp] at h
  have hcut := hidden fun z => cut_c qs 32 z (by decide)
  have hvf := hidden fun z => vfew_c qk qn qt z
  generalize cutB qs 32 = cs at *
  generalize cutB qt 120 = ct at *
  have hS : x.drew.cell? ⟨w.heap.size, 0, none⟩ = some (.string qs) ∧ x.drew.cell? ⟨w.heap.size, 1, none⟩ = some (.int .i64 qo) ∧ x.drew.cell? ⟨w.heap.size, 2, none⟩ = some (.int .i64 qk) ∧ x.drew.cell? ⟨w.heap.size, 3, none⟩ = some (.int .i64 qn) ∧ x.drew.cell? ⟨w.heap.size, 4, none⟩ = some (.string qt) := box5t hX0.out
  go_enter Try.func27, Try.ntmps27
  go_wp2_with fail
  rw [← hx]
  replace hx := hidden hx
  go_wp2_with fail
  refine wp_region_parts (S := (fun z => z.cell? ⟨w.heap.size, 0, none⟩ = some (.string qs) ∧ z.cell? ⟨w.heap.size, 1, none⟩ = some (.int .i64 qo) ∧ z.cell? ⟨w.heap.size, 2, none⟩ = some (.int .i64 qk) ∧ z.cell? ⟨w.heap.size, 3, none⟩ = some (.int .i64 qn) ∧ z.cell? ⟨w.heap.size, 4, none⟩ = some (.string qt))) #[false, false, false, false, false, false, false, false, false, true] #[true, true, true, true, true, true, true, true, true, false] [9] 40 9 (by kernel_rfl) (by kernel_rfl) (by kernel_rfl) (by rfl) ?_ (fun hHeld => ?_)
  · exact hS
  first
    | (refine wpAnyH_take (i := 0) (v := ?_) at0 (by kernel_rfl) (by kernel_rfl) (by kernel_rfl) (fun _ _ _ h => h) (Or.inl ⟨by rfl, ?_⟩) (by assumption) ?_
       rotate_left
       · intro w hSw; (try dsimp only at hSw); go_simp; try with_reducible rfl)
    | fail "take 0"
  try simp only [Act.put, List.setIfInBounds_toArray, List.set_cons_zero, List.set_cons_succ]
  first
    | (refine wpAnyH_take (i := 1) (v := ?_) at1 (by kernel_rfl) (by kernel_rfl) (by kernel_rfl) (fun _ _ _ h => h) (Or.inl ⟨by rfl, ?_⟩) (by assumption) ?_
       rotate_left
       · intro w hSw; (try dsimp only at hSw); go_simp; try with_reducible rfl)
    | fail "take 1"
  try simp only [Act.put, List.setIfInBounds_toArray, List.set_cons_zero, List.set_cons_succ]
  first
    | (refine wpAnyH_take (i := 3) (v := ?_) at3 (by kernel_rfl) (by kernel_rfl) (by kernel_rfl) (fun _ _ _ h => h) (Or.inl ⟨by rfl, ?_⟩) (by assumption) ?_
       rotate_left
       · intro w hSw; (try dsimp only at hSw); go_simp; try with_reducible rfl)
    | fail "take 3"
  try simp only [Act.put, List.setIfInBounds_toArray, List.set_cons_zero, List.set_cons_succ]
  first
    | (refine wpAnyH_take (i := 4) (v := ?_) at4 (by kernel_rfl) (by kernel_rfl) (by kernel_rfl) (fun _ _ _ h => h) (Or.inl ⟨by rfl, ?_⟩) (by assumption) ?_
       rotate_left
       · intro w hSw; (try dsimp only at hSw); go_simp; try with_reducible rfl)
    | fail "take 4"
  try simp only [Act.put, List.setIfInBounds_toArray, List.set_cons_zero, List.set_cons_succ]
  first
    | (refine wpAnyH_take (i := 5) (v := ?_) at5 (by kernel_rfl) (by kernel_rfl) (by kernel_rfl) (fun _ _ _ h => h) (Or.inl ⟨by rfl, ?_⟩) (by assumption) ?_
       rotate_left
       · intro w hSw; (try dsimp only at hSw); go_simp; try with_reducible rfl)
    | fail "take 5"
  try simp only [Act.put, List.setIfInBounds_toArray, List.set_cons_zero, List.set_cons_succ]
  first
    | (refine wpAnyH_take (i := 6) (v := ?_) at6 (by kernel_rfl) (by kernel_rfl) (by kernel_rfl) (fun _ _ _ h => h) (Or.inl ⟨by rfl, ?_⟩) (by assumption) ?_
       rotate_left
       · intro w hSw; (try dsimp only at hSw); go_simp; try with_reducible rfl)
    | fail "take 6"
  try simp only [Act.put, List.setIfInBounds_toArray, List.set_cons_zero, List.set_cons_succ]
  refine wpAnyH_ready (rs := [2]) (by kernel_rfl) (by simp) ?_
  refine AllReadyH.cons (i := 2) at2 (fun K hK => ?_) AllReadyH.nil
  go_simp
  refine (hcut.out _).mono ?_
  rintro e y9 ⟨rfl, rfl⟩
  have hSn := hS
  refine hK.out _ _ ?_ (fun hNew => ?_)
  · exact hSn
  clear hK K hHeld
  have hHeld := hNew
  clear hNew
  try simp only [List.setIfInBounds_toArray, List.set_cons_zero, List.set_cons_succ]
  refine wpAnyH_ready (rs := [7]) (by kernel_rfl) (by simp) ?_
  refine AllReadyH.cons (i := 7) at7 (fun K hK => ?_) AllReadyH.nil
  go_simp
  refine (hvf.out _).mono ?_
  rintro e z9 ⟨rfl, hBz⟩
  have hBd : Hid (Below x.heap.size x z9) := hidden ((Below.refl _ _).drew.trans hBz)
  have hSn := box5t (box_below hX0.out hBd.out)
  refine hK.out _ _ ?_ (fun hNew => ?_)
  · exact hSn
  clear hK K hHeld
  have hHeld := hNew
  clear hNew
  try simp only [List.setIfInBounds_toArray, List.set_cons_zero, List.set_cons_succ]
  first
    | (refine wpAnyH_take (i := 8) (v := ?_) at8 (by kernel_rfl) (by kernel_rfl) (by kernel_rfl) (fun _ _ _ h => h) (Or.inl ⟨by rfl, ?_⟩) (by assumption) ?_
       rotate_left
       · intro w hSw; (try dsimp only at hSw); go_simp; try with_reducible rfl)
    | fail "take 8"
  try simp only [Act.put, List.setIfInBounds_toArray, List.set_cons_zero, List.set_cons_succ]
  refine tail_list (is := [9]) (l := _) (by kernel_rfl) (by kernel_rfl) (by kernel_rfl) rfl ?_
  simp only [List.filterMap_cons, List.filterMap_nil, at9]
  show wpList _ _ _ (_ :: _) _ _
  have hX2 := hidden (box_below hX1.out hBd.out)
  obtain ⟨f0, f1, f2, f3, f4⟩ := frz5 hX2.out
  obtain ⟨v0, v1, v2, v3, v4⟩ := box5t hX2.out
  have hfin := hidden (heap_set5 hX2.out (.string cs) (.int .i64 qo) (.int .i64 qk) (.int .i64 qn) (.string ct))
  have hBF := hidden (below_set5 (hB0.out.trans (hBd.out.mono hB0.out.size)) (show w.heap.size ≤ w.heap.size + 1 by omega) (.string cs) (.int .i64 qo) (.int .i64 qk) (.int .i64 qn) (.string ct))
  clear hBz hSn hS hHeld
  go_wp2
  refine bodyPost_ret (results_cell_row rfl _ _ (w.heap.size + 1) _ _ _ _ rfl hfin.out Try.underlying62 rfl (by kernel_rfl)) rfl ⟨rfl, hBF.out⟩
theorem row_newC {w : World} {t : TypeId} (vs : List Value) : Sl (w.alloc (.cells vs.toArray t)) (.slice (some ⟨w.heap.size, 0, none⟩) vs.length vs.length) vs := by
  refine ⟨_, _, rfl, Nat.le_refl _, fun e => (by cases e), fun x e => by cases e; rfl, .inr ⟨_, 0, rfl, by simp, fun j u hj => ?_⟩⟩
  have h := heap_alloc_new w (.cells vs.toArray t)
  simp only [World.cell?, h, Nat.zero_add]
  simpa using hj
theorem common2_c (a1 a2 : Option Addr) (k1 k2 : Nat) (p q : Nat → Bool) (t : TypeId) (w : World) (X Y : List Nat) (hX : Hid (X = L p)) (hY : Hid (Y = L q))
    (h1 : Sl w (.slice a1 X.length k1) (ints X)) (h2 : Sl w (.slice a2 Y.length k2) (ints Y)) :
    Calls Try.prog 32 #[.slice (some ⟨w.heap.size, 0, none⟩) 2 2] (w.alloc (.cells #[.slice a1 X.length k1, .slice a2 Y.length k2] t)) fun e w' =>
      ∃ v', e = .returned v' ∧ Holds w' v' (ints (L fun k => p k && q k)) ∧ Below w.heap.size w w' := by
  have hrow := row_newC (w := w) (t := t) [.slice a1 X.length k1, .slice a2 Y.length k2]
  have hB := (Below.refl w.heap.size w).alloc (Nat.le_refl _) (.cells #[.slice a1 X.length k1, .slice a2 Y.length k2] t)
  have hcom : Hid (Com X (fun _ => Y) 1 (rowF (fun _ => q) 1) (fun _ => q)) := by
    have h := com_of p (fun _ => q) 1
    have e : (fun _ : Nat => L q) = fun _ => Y := by
      funext i
      exact hY.out.symm
    rw [e, ← hX.out] at h
    exact h
  have e : X.filter (rowF (fun _ => q) 1) = L fun k => p k && q k := by
    rw [hX.out]
    unfold L
    rw [List.filter_filter]
    refine List.filter_congr fun k _ => ?_
    have : rowF (fun _ => q) 1 k = q k := by
      unfold rowF
      rw [show List.range 1 = [0] from rfl]
      simp
    rw [this]
    cases p k <;> cases q k <;> rfl
  rw [← e]
  generalize rowF (fun _ => q) 1 = F at *
  clear e hX hY
  refine (common_c w.heap.size 0 2 a1 k1 [.slice a2 Y.length k2] X (fun _ => Y) F (fun _ => q) _ hrow
    (by intro u hu; simp at hu; rw [hu]; rfl) (by simp) (h1.below hB) (fun i v hi => ?_) hcom).mono ?_
  · match i, hi with
    | 0, hi => cases hi; exact h2.below hB
    | i + 1, hi => simp at hi
  · rintro e w' ⟨v', rfl, hv, hB'⟩
    exact ⟨v', rfl, hv, hB.trans (hB'.mono (by simp))⟩
/-- The nodes, as numbers below 65536. -/
theorem bothN_L (ns : List Nd) (ts : List Tst) (h : ns.length ≤ 65536) : bothN ns ts ns.length = L fun k => decide (k < ns.length) && ts.all (sayT (ns.getD k Nd.none).ps) := by
  unfold bothN L
  have e : List.range 65536 = List.range ns.length ++ (List.range (65536 - ns.length)).map (fun i => ns.length + i) := by
    rw [← List.range_add, show ns.length + (65536 - ns.length) = 65536 by omega]
  rw [e, List.filter_append]
  have h2 : ((List.range (65536 - ns.length)).map (fun i => ns.length + i)).filter (fun k => decide (k < ns.length) && ts.all (sayT (ns.getD k Nd.none).ps)) = [] := by
    rw [List.filter_eq_nil_iff]
    intro x hx
    obtain ⟨i, _, rfl⟩ := List.mem_map.1 hx
    rw [decide_eq_false (by omega)]
    simp
  rw [h2, List.append_nil]
  refine List.filter_congr fun k hk => ?_
  rw [decide_eq_true (List.mem_range.1 hk), Bool.true_and]
theorem both_two (ns : List Nd) (A B : Tst) (h : ns.length ≤ 65536) : (L fun k => (decide (k < ns.length) && [A].all (sayT (ns.getD k Nd.none).ps)) && (decide (k < ns.length) && [B].all (sayT (ns.getD k Nd.none).ps))) = bothN ns [A, B] ns.length := by
  rw [bothN_L ns [A, B] h]
  unfold L
  refine List.filter_congr fun k _ => ?_
  simp only [List.all_cons, List.all_nil, Bool.and_true]
  cases decide (k < ns.length) <;> simp
end Go.Proofs.Ytnmjhbnadfjapaa
