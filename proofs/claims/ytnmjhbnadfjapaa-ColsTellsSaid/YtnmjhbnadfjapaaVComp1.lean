/-
  VALUES HELD AGAINST EACH OTHER (the reference's SameValues), by contract, where they are the same.
-/
import Derived.Test.YtnmjhbnadfjapaaTEach5
import Derived.Laws.StructEq
import Derived.Deep.QuietTactic
import Derived.BigQuiet
import Derived.Laws.IdiomCopy
namespace Go.Proofs.Ytnmjhbnadfjapaa
open Go.ChangeShapes Go.WideShapes Go.ChangeAt Go.RowKit Go.Maps

structure Va where
  k : Int
  n : Int
  t : ByteArray
def Va.none : Va := ⟨0, 0, ⟨#[]⟩⟩
def valR : Rec Va := ⟨fun x => [.int .i64 x.k, .int .i64 x.n, .string x.t], 3, by decide, fun _ => rfl, fun p u hu => by simp at hu; rcases hu with rfl | rfl | rfl <;> rfl, Va.none⟩
theorem v0pW (b c d : Value) (w : World) : (part 3 #[b, c, d] 0).run Try.prog w = .ok b w := by kernel_rfl
theorem v1pW (b c d : Value) (w : World) : (part 3 #[b, c, d] 1).run Try.prog w = .ok c w := by kernel_rfl
theorem v2pW (b c d : Value) (w : World) : (part 9 #[b, c, d] 2).run Try.prog w = .ok d w := by kernel_rfl
theorem eqs_runW (d : Nat) (a b : ByteArray) (w : World) : (Op.equalIn (d + 1) 9 (.string a) (.string b)).run Try.prog w = .ok (a.toList == b.toList) w := run_equalIn_string w d 9 a b Try.underlying9
theorem eqi_runW (d : Nat) (a b : Int) (w : World) : (Op.equalIn (d + 1) 3 (.int .i64 a) (.int .i64 b)).run Try.prog w = .ok (a == b) w := run_equalIn_int w d 3 .i64 .i64 a b Try.underlying3
set_option maxRecDepth 100000 in
theorem neqVW (k n : Int) (t : ByteArray) (k' n' : Int) (t' : ByteArray) (d : Nat) (w : World) : (Op.equalIn (d + 2) 27 (.agg #[.int .i64 k, .int .i64 n, .string t]) (.agg #[.int .i64 k', .int .i64 n', .string t'])).run Try.prog w = .ok ((k == k') && ((n == n') && (t.toList == t'.toList))) w := by
  have h1 : Try.prog.fieldsOf 27 = (match (Try.prog.underlying 27) with | some (.struct fs) => fs | _ => #[]) := rfl
  rw [Try.underlying27] at h1
  simp only at h1
  rw [run_equalIn_agg w (d + 1) 27 _ _ (by rw [h1]; exact Try.underlying27) (by kernel_rfl), h1]
  simp only [Op.eqFields, Sem.run_ite, Sem.run_bind, v0pW, v1pW, v2pW, Result.andThen_ok, eqi_runW, eqs_runW, ne_eq, String.reduceEq, not_false_eq_true, if_true, Sem.run_pure]
  generalize (k == k') = b1
  generalize (n == n') = b2
  generalize (t.toList == t'.toList) = b3
  cases b1 <;> cases b2 <;> cases b3 <;> rfl
theorem neqVa (x y : Va) (w : World) : (binOp .neq 27 (.agg #[.int .i64 x.k, .int .i64 x.n, .string x.t]) (.agg #[.int .i64 y.k, .int .i64 y.n, .string y.t])).run Try.prog w = .ok (.bool (!((x.k == y.k) && ((x.n == y.n) && (x.t.toList == y.t.toList))))) w := by
  rw [run_neq_struct, show (10000:Nat) = 9998+2 from rfl, neqVW]
  rfl
theorem va_at {w : World} {a : Option Addr} {L : List Va} (h : RowAt w a (valR.flat L)) {k : Nat} (hk : k < L.length) : ∃ b off, a = some ⟨b, off, none⟩ ∧ b < w.heap.size ∧ w.cell? ⟨b, off + k * 3, none⟩ = some (.int .i64 (L.getD k Va.none).k) ∧ w.cell? ⟨b, off + k * 3 + 1, none⟩ = some (.int .i64 (L.getD k Va.none).n) ∧ w.cell? ⟨b, off + k * 3 + 2, none⟩ = some (.string (L.getD k Va.none).t) := by
  obtain ⟨b, off, rfl, hb, hrc⟩ := rec_at h hk
  exact ⟨b, off, rfl, hb, hrc 0 _ rfl, hrc 1 _ rfl, hrc 2 _ rfl⟩
set_option maxRecDepth 100000 in
set_option maxHeartbeats 3200000 in
theorem samev_c (L : List Va) (a b : Option Addr) (ca cb : Nat) (w : World) (ha : RowAt w a (valR.flat L)) (hb : RowAt w b (valR.flat L)) (hl : L.length ≤ 1000000) :
    Calls Try.prog 23 #[.slice a L.length ca, .slice b L.length cb] w fun e w' => e = .returned (.bool true) ∧ Below w.heap.size w w' := by
  obtain ⟨N, hN⟩ : ∃ N, N = L.length := ⟨_, rfl⟩
  rw [← hN] at hl ⊢
  have hl1 : ((N : Int) != (N : Int)) = false := by simp
  replace hN := hidden hN
  replace ha := hidden ha
  replace hb := hidden hb
  go_enter Try.func23, Try.ntmps23
  go_wp2
  clear hl1
  go_loopw [5] (fun i wr => ∃ k : Nat, k ≤ N ∧ i = .int .i64 k ∧ Hid (Below w.heap.size w wr)) (fun i _ => N - (intOf i).toNat)
  case atStart => exact ⟨0, Nat.zero_le _, rfl, Below.refl _ _⟩
  case round =>
    obtain ⟨k, hk, rfl, hB⟩ := hrel
    by_cases hlt : k < N
    · have hlt' : (k : Int) < (N : Int) := by omega
      have hlx : k < L.length := by rw [← hN.out]; exact hlt
      obtain ⟨b1, o1, rfl, _, c0, c1, c2⟩ := va_at (ha.out.below hB.out) hlx
      obtain ⟨b2, o2, rfl, _, d0, d1, d2⟩ := va_at (hb.out.below hB.out) hlx
      generalize L.getD k Va.none = x at *
      obtain ⟨xk, xn, xt⟩ := x
      simp only at c0 c1 c2 d0 d1 d2
      have hq : ∀ z, (binOp .neq 27 (.agg #[.int .i64 xk, .int .i64 xn, .string xt]) (.agg #[.int .i64 xk, .int .i64 xn, .string xt])).run Try.prog z = .ok (.bool false) z := fun z => by
        rw [neqVa ⟨xk, xn, xt⟩ ⟨xk, xn, xt⟩ z]; simp
      go_wp2
      go_quiet (fail)
      go_wp2
      go_roundw
      case rel => exact ⟨k + 1, by omega, by go_num, below_drewN hB.out _⟩
      case measure => simp [intOf]; omega
    · have hlt' : ¬ (k : Int) < (N : Int) := by omega
      go_wp2
      go_ret
      exact ⟨rfl, hB.out⟩
end Go.Proofs.Ytnmjhbnadfjapaa
/-
  VALUES AS THEY ARE TAKEN TOGETHER (slices.Compact): mathematics, and a row that is written.
-/
namespace Go.Proofs.Ytnmjhbnadfjapaa
open Go.ChangeShapes Go.WideShapes Go.ChangeAt Go.RowKit

instance : Inhabited Va := ⟨Va.none⟩
instance : DecidableEq Va := fun x y => decidable_of_iff (x.k = y.k ∧ x.n = y.n ∧ x.t = y.t) ⟨fun h => by cases x; cases y; simp_all, fun h => by subst h; exact ⟨rfl, rfl, rfl⟩⟩
def cptS (acc : List Va) (x : Va) : List Va := if acc.getLast? = some x then acc else acc ++ [x]
/-- Runs of equal steps, one of each. -/
def cpt (L : List Va) : List Va := L.foldl cptS []
theorem cpt_snoc (L : List Va) (x : Va) : cpt (L ++ [x]) = cptS (cpt L) x := by simp [cpt]
theorem cpt_take (L : List Va) {k : Nat} (hk : k < L.length) : cpt (L.take (k + 1)) = cptS (cpt (L.take k)) (L.getD k Va.none) := by
  rw [take_snocR L Va.none k hk, cpt_snoc]
theorem cptS_last (acc : List Va) (x : Va) : (cptS acc x).getLast? = some x := by
  unfold cptS
  split
  · assumption
  · simp
theorem cpt_take_last (L : List Va) {k : Nat} (h1 : 1 ≤ k) (hk : k ≤ L.length) : (cpt (L.take k)).getLast? = some (L.getD (k - 1) Va.none) := by
  have := cpt_take L (k := k - 1) (by omega)
  rw [show k - 1 + 1 = k by omega] at this
  rw [this, cptS_last]
/-- One that stays. -/
theorem cpt_keep (L : List Va) {k : Nat} (h1 : 1 ≤ k) (hk : k < L.length) (hne : L.getD k Va.none ≠ L.getD (k - 1) Va.none) : cpt (L.take (k + 1)) = cpt (L.take k) ++ [L.getD k Va.none] := by
  rw [cpt_take L hk, cptS, if_neg]
  rw [cpt_take_last L h1 (by omega)]
  intro h
  exact hne (Option.some.inj h).symm
/-- One that goes. -/
theorem cpt_drop (L : List Va) {k : Nat} (h1 : 1 ≤ k) (hk : k < L.length) (he : L.getD k Va.none = L.getD (k - 1) Va.none) : cpt (L.take (k + 1)) = cpt (L.take k) := by
  rw [cpt_take L hk, cptS, if_pos]
  rw [cpt_take_last L h1 (by omega), he]
theorem cpt_one (L : List Va) (h : 1 ≤ L.length) : cpt (L.take 1) = L.take 1 := by
  obtain ⟨x, L, rfl⟩ : ∃ x L', L = x :: L' := by cases L with
    | nil => simp at h
    | cons x L' => exact ⟨x, L', rfl⟩
  simp [cpt, cptS]

theorem own_cellV {x : World} {B e s g n cap : Nat} {xs : List Value} (h : x.ownsRow B e s (.slice (some ⟨g, 0, none⟩) n cap) n xs) {j : Nat} {u : Value} (hj : xs[j]? = some u) : x.cell? ⟨g, j, none⟩ = some u := by
  obtain ⟨hl, h⟩ := h
  rcases h with ⟨e, _⟩ | ⟨g', cap', cur, e, _, hc, _, _, _, htk⟩
  · cases e
  · simp only [Value.slice.injEq, Option.some.injEq, Addr.mk.injEq, and_true] at e
    obtain ⟨rfl, _⟩ := e
    have hlt := (List.getElem?_eq_some_iff.1 hj).1
    rw [hl] at hlt
    rw [← htk, List.getElem?_take_of_lt hlt, Array.getElem?_toList] at hj
    simp only [World.cell?, hc]
    exact hj
theorem lt_setCells {g b : Nat} : ∀ (vs : List Value) (o : Nat) (w : World), b < w.heap.size → b < (w.setCells g o vs).heap.size
  | [], _, _, h => h
  | v :: vs, o, w, h => lt_setCells vs (o + 1) (w.setCell ⟨g, o, none⟩ v) (by simpa [World.setCell] using h)
theorem below_setCellsR {B g : Nat} (hg : B ≤ g) {a : World} : ∀ (vs : List Value) (o : Nat) (w : World), Below B a w → Below B a (w.setCells g o vs)
  | [], _, _, h => h
  | v :: vs, o, w, h => below_setCellsR hg vs (o + 1) (w.setCell ⟨g, o, none⟩ v) (h.setCell (p := ⟨g, o, none⟩) hg v)
/-- A row that is written. -/
structure RS (w : World) (g : Nat) (L : List Va) : Prop where
  cell : ∀ k, k < L.length → w.cell? ⟨g, k * 3, none⟩ = some (.int .i64 (L.getD k Va.none).k) ∧ w.cell? ⟨g, k * 3 + 1, none⟩ = some (.int .i64 (L.getD k Va.none).n) ∧ w.cell? ⟨g, k * 3 + 2, none⟩ = some (.string (L.getD k Va.none).t)
  fr : ∀ k, w.frozen? ⟨g, k, none⟩ = false
  lt : g < w.heap.size
theorem RS.of_own {w : World} {B g n cap : Nat} {L : List Va} (h : w.ownsRow B 27 3 (.slice (some ⟨g, 0, none⟩) n cap) n (valR.flat L)) : RS w g L := by
  refine ⟨fun k hk => ⟨?_, ?_, ?_⟩, fun k => h.frozenAt k, ?_⟩
  · have := Rec.flat_at (R := valR) L k 0 hk (by show 0 < 3; omega)
    exact own_cellV h this
  · have := Rec.flat_at (R := valR) L k 1 hk (by show 1 < 3; omega)
    exact own_cellV h this
  · have := Rec.flat_at (R := valR) L k 2 hk (by show 2 < 3; omega)
    exact own_cellV h this
  · rcases h.2 with ⟨e, _⟩ | ⟨g', cap', cur, e, _, hc, _⟩
    · cases e
    · simp only [Value.slice.injEq, Option.some.injEq, Addr.mk.injEq, and_true, true_and] at e
      obtain ⟨rfl, _⟩ := e
      exact (Array.getElem?_eq_some_iff.1 hc).1
theorem RS.drew {w : World} {g : Nat} {L : List Va} (h : RS w g L) : RS w.drew g L := ⟨h.cell, h.fr, h.lt⟩
/-- A step written. -/
def put3 (w : World) (g k : Nat) (u : Va) : World := ((w.setCell ⟨g, k * 3, none⟩ (.int .i64 u.k)).setCell ⟨g, k * 3 + 1, none⟩ (.int .i64 u.n)).setCell ⟨g, k * 3 + 2, none⟩ (.string u.t)
theorem RS.put {w : World} {g : Nat} {L : List Va} (h : RS w g L) (k : Nat) (hk : k < L.length) (u : Va) : RS (put3 w g k u) g (L.set k u) := by
  have e : put3 w g k u = w.setCells g (k * 3) [.int .i64 u.k, .int .i64 u.n, .string u.t] := rfl
  rw [e]
  refine ⟨fun j hj => ?_, fun j => (World.frozen?_setCells g _ _ w _).trans (h.fr j), lt_setCells _ _ _ h.lt⟩
  rw [List.length_set] at hj
  obtain ⟨c0, c1, c2⟩ := h.cell k hk
  by_cases ejk : j = k
  · subst ejk
    have e2 : (L.set j u).getD j Va.none = u := by simp [List.getD, hj]
    rw [e2]
    have hin := World.cell?_setCells_in g [.int .i64 u.k, .int .i64 u.n, .string u.t] (j * 3) w (fun i hi => by
      rcases (by simp at hi; omega : i = 0 ∨ i = 1 ∨ i = 2) with rfl | rfl | rfl
      · rw [Nat.add_zero, c0]; rfl
      · rw [c1]; rfl
      · rw [c2]; rfl)
    exact ⟨hin 0 (by simp), hin 1 (by simp), hin 2 (by simp)⟩
  · have e2 : (L.set k u).getD j Va.none = L.getD j Va.none := by simp [List.getD, Ne.symm ejk]
    rw [e2]
    obtain ⟨d0, d1, d2⟩ := h.cell j hj
    refine ⟨(World.cell?_setCells_out g _ _ w _ fun _ _ => ?_).trans d0, (World.cell?_setCells_out g _ _ w _ fun _ _ => ?_).trans d1, (World.cell?_setCells_out g _ _ w _ fun _ _ => ?_).trans d2⟩
    · simp only [List.length_cons, List.length_nil]; omega
    · simp only [List.length_cons, List.length_nil]; omega
    · simp only [List.length_cons, List.length_nil]; omega
/-- The end of a row, cleared. -/
theorem clear_va {w : World} {g : Nat} {L : List Va} (h : RS w g L) {k : Nat} (hk : k < L.length) (c : Nat) : ∃ zs : List Value,
    (∀ ty, (Builtin.clear_ #[56] ty #[.slice (some ⟨g, k * 3, none⟩) (L.length - k) c]).run Try.prog w = .ok (.tuple #[]) (w.setCells g (k * 3) zs)) ∧ RS (w.setCells g (k * 3) zs) g (L.take k) := by
  have hz : ∀ w, (zeroValue 27).run Try.prog w = .ok (.agg #[.int .i64 0, .int .i64 0, .string ⟨#[]⟩]) w := fun w => by kernel_rfl
  obtain ⟨zs, hzs⟩ : ∃ zs, zs = (Builtin.zeroCells (Value.agg #[.int .i64 0, .int .i64 0, .string ⟨#[]⟩]).cells (L.length - k)).toList := ⟨_, rfl⟩
  have hlen : zs.length = (L.length - k) * 3 := by rw [hzs]; simp [Builtin.zeroCells, Value.cells]
  have hone : ∀ v ∈ zs, v.oneCell' = true := fun v hv => by
    rw [hzs] at hv
    simp only [Builtin.zeroCells, Value.cells, Array.toList_map, List.mem_map] at hv
    obtain ⟨i, _, rfl⟩ := hv
    show (#[Value.int .i64 0, Value.int .i64 0, Value.string ⟨#[]⟩][i % 3]!).oneCell' = true
    rcases (by omega : i % 3 = 0 ∨ i % 3 = 1 ∨ i % 3 = 2) with e | e | e <;> rw [e] <;> rfl
  have hst := run_storeCells_cells (P := Try.prog) g (k * 3) zs 0 w (fun j hj => by
      rw [hlen] at hj
      obtain ⟨d0, d1, d2⟩ := h.cell (k + j / 3) (by omega)
      rcases (by omega : j % 3 = 0 ∨ j % 3 = 1 ∨ j % 3 = 2) with e | e | e
      · rw [show k * 3 + 0 + j = (k + j / 3) * 3 by omega, d0]; rfl
      · rw [show k * 3 + 0 + j = (k + j / 3) * 3 + 1 by omega, d1]; rfl
      · rw [show k * 3 + 0 + j = (k + j / 3) * 3 + 2 by omega, d2]; rfl)
    (fun j _ => h.fr _) hone
  simp only [Nat.add_zero] at hst
  refine ⟨zs, fun ty => ?_, ⟨fun j hj => ?_, fun j => (World.frozen?_setCells g _ _ w _).trans (h.fr j), lt_setCells _ _ _ h.lt⟩⟩
  · obtain ⟨m, hm⟩ : ∃ m, L.length - k = m + 1 := ⟨L.length - k - 1, by omega⟩
    rw [hm] at hzs ⊢
    simp [Builtin.clear_, run_underlying Try.underlying56, hz, ← hzs, hst]
  · rw [List.length_take] at hj
    have e : (L.take k).getD j Va.none = L.getD j Va.none := by simp [List.getD, show j < k by omega]
    rw [e]
    obtain ⟨d0, d1, d2⟩ := h.cell j (by omega)
    exact ⟨(World.cell?_setCells_out g _ _ w _ fun _ _ => .inl (by show j * 3 < _; omega)).trans d0, (World.cell?_setCells_out g _ _ w _ fun _ _ => .inl (by show j * 3 + 1 < _; omega)).trans d1, (World.cell?_setCells_out g _ _ w _ fun _ _ => .inl (by show j * 3 + 2 < _; omega)).trans d2⟩
/-- A row that was written, as a slice of steps. -/
theorem RS.holds {w : World} {g : Nat} {L : List Va} (h : RS w g L) : RowAt w (some ⟨g, 0, none⟩) (valR.flat L) := by
  refine .inr ⟨g, 0, rfl, h.lt, fun j u hj => ?_⟩
  have hl := (List.getElem?_eq_some_iff.1 hj).1
  rw [Rec.flat_len] at hl
  have hl : j < L.length * 3 := hl
  rw [Nat.zero_add]
  obtain ⟨q, e⟩ : ∃ q, j = q * 3 ∨ j = q * 3 + 1 ∨ j = q * 3 + 2 := ⟨j / 3, by omega⟩
  rcases e with rfl | rfl | rfl
  · obtain ⟨d0, d1, d2⟩ := h.cell q (by omega)
    have hf : (valR.flat L)[q * 3]? = _ := Rec.flat_at (R := valR) L q 0 (by omega) (by show _ < 3; omega)
    rw [d0, ← hj, hf]
    rfl
  · obtain ⟨d0, d1, d2⟩ := h.cell q (by omega)
    have hf : (valR.flat L)[q * 3 + 1]? = _ := Rec.flat_at (R := valR) L q 1 (by omega) (by show _ < 3; omega)
    rw [d1, ← hj, hf]
    rfl
  · obtain ⟨d0, d1, d2⟩ := h.cell q (by omega)
    have hf : (valR.flat L)[q * 3 + 2]? = _ := Rec.flat_at (R := valR) L q 2 (by omega) (by show _ < 3; omega)
    rw [d2, ← hj, hf]
    rfl
end Go.Proofs.Ytnmjhbnadfjapaa
/-
  slices.Compact OF VALUES, by contract.
-/
namespace Go.Proofs.Ytnmjhbnadfjapaa
open Go.ChangeShapes Go.WideShapes Go.ChangeAt Go.RowKit

theorem eqVa (x y : Va) (w : World) : (binOp .eql 27 (.agg #[.int .i64 x.k, .int .i64 x.n, .string x.t]) (.agg #[.int .i64 y.k, .int .i64 y.n, .string y.t])).run Try.prog w = .ok (.bool ((x.k == y.k) && ((x.n == y.n) && (x.t.toList == y.t.toList)))) w := by
  rw [run_eql_struct, show (10000:Nat) = 9998+2 from rfl, neqVW]
  rfl
theorem va_ne {x y : Va} (h : x ≠ y) : ((x.k == y.k) && ((x.n == y.n) && (x.t.toList == y.t.toList))) = false := by
  cases h2 : ((x.k == y.k) && ((x.n == y.n) && (x.t.toList == y.t.toList))) with
  | false => rfl
  | true =>
    simp only [Bool.and_eq_true, beq_iff_eq] at h2
    obtain ⟨h3, h4, h5⟩ := h2
    obtain ⟨a, b, c⟩ := x
    obtain ⟨a', b', c'⟩ := y
    simp only at h3 h4 h5
    subst h3 h4
    exact absurd (by rw [tl_inj h5]) h
theorem eqVa_ne {x y : Va} (h : x ≠ y) (w : World) : (binOp .eql 27 (.agg #[.int .i64 x.k, .int .i64 x.n, .string x.t]) (.agg #[.int .i64 y.k, .int .i64 y.n, .string y.t])).run Try.prog w = .ok (.bool false) w := by rw [eqVa, va_ne h]
theorem neqVa_ne {x y : Va} (h : x ≠ y) (w : World) : (binOp .neq 27 (.agg #[.int .i64 x.k, .int .i64 x.n, .string x.t]) (.agg #[.int .i64 y.k, .int .i64 y.n, .string y.t])).run Try.prog w = .ok (.bool true) w := by rw [neqVa, va_ne h]; rfl
/-- The second loop: what it holds. -/
structure CI (L : List Va) (B g : Nat) (w : World) (m kk : Nat) (M : List Va) (x : World) : Prop where
  row : RS x g M
  below : Below B w x
  len : M.length = L.length
  lt : kk < m
  done : M.take kk = cpt (L.take m)
  high : ∀ j, m - 1 ≤ j → j < L.length → M.getD j Va.none = L.getD j Va.none
theorem CI.drew {L M : List Va} {B g m kk : Nat} {w x : World} (h : CI L B g w m kk M x) : CI L B g w m kk M x.drew := ⟨h.row.drew, h.below.drew, h.len, h.lt, h.done, h.high⟩
theorem CI.skip {L M : List Va} {B g m kk : Nat} {w x : World} (h : CI L B g w m kk M x) (h1 : 1 ≤ m) (hm : m < L.length) (he : L.getD m Va.none = L.getD (m - 1) Va.none) : CI L B g w (m + 1) kk M x :=
  ⟨h.row, h.below, h.len, by have := h.lt; omega, h.done.trans (cpt_drop L h1 hm he).symm, fun j hj hl => h.high j (by omega) hl⟩
theorem CI.keep {L M : List Va} {B g m kk : Nat} {w x : World} (h : CI L B g w m kk M x) (hBg : B ≤ g) (h1 : 1 ≤ m) (hm : m < L.length) (he : L.getD m Va.none ≠ L.getD (m - 1) Va.none) : CI L B g w (m + 1) (kk + 1) (M.set kk (L.getD m Va.none)) (put3 x g kk (L.getD m Va.none)) := by
  have hlt := h.lt
  have hk : kk < M.length := by rw [h.len]; omega
  refine ⟨h.row.put kk hk _, ((h.below.setCell (p := ⟨g, kk * 3, none⟩) hBg _).setCell (p := ⟨g, kk * 3 + 1, none⟩) hBg _).setCell (p := ⟨g, kk * 3 + 2, none⟩) hBg _, by rw [List.length_set, h.len], by omega, ?_, fun j hj hl => ?_⟩
  · rw [cpt_keep L h1 hm he, ← h.done]
    rw [List.take_add_one, List.take_set_of_le (Nat.le_refl _)]
    simp [hk]
  · have := h.high j (by omega) hl
    rw [← this]
    simp [List.getD, show kk ≠ j by omega]
set_option maxHeartbeats 3200000 in
set_option maxRecDepth 100000 in
theorem compactV_c (w : World) (B g cap : Nat) (L : List Va) (h : RS w g L) (hcap : L.length ≤ cap) (hn : L.length ≤ 17592186044416) (hB : B ≤ g) :
    Calls Try.prog 53 #[.slice (some ⟨g, 0, none⟩) L.length cap] w fun e w' =>
      e = .returned (.slice (some ⟨g, 0, none⟩) (cpt L).length cap) ∧ RS w' g (cpt L) ∧ Below B w w' := by
  have hb0 : Below B w w := Below.mk rfl rfl rfl (by have := h.lt; omega) (fun _ _ => rfl)
  have hh := hidden h
  clear h
  obtain ⟨n, hnL⟩ : ∃ n, n = L.length := ⟨_, rfl⟩
  have hnH : Hid (n = L.length) := hnL
  rw [← hnL] at hcap hn ⊢
  clear hnL
  by_cases h2 : n < 2
  · have he : Hid (cpt L = L) := by
      show _ = _
      have := hnH.out
      match L, this with
      | [], _ => rfl
      | [x], _ => simp [cpt, cptS]
      | _ :: _ :: _, e => simp at e; omega
    have h2' : (n : Int) < 2 := by omega
    have hb0 := hidden hb0
    go_enter Try.func53, Try.ntmps53
    go_wp2
    go_ret
    rw [he.out]
    exact ⟨by rw [hnH.out]; rfl, hh.out, hb0.out⟩
  · have h2' : ¬ (n : Int) < 2 := by omega
    have hst : Hid (RS w g L ∧ Below B w w ∧ cpt (L.take 1) = L.take 1) := ⟨hh.out, hb0, cpt_one L (by have := hnH.out; omega)⟩
    clear hb0 hh
    go_enter Try.func53, Try.ntmps53
    go_wp2_with fail
    go_loopw [3] (fun s3 x => ∃ k : Nat, 1 ≤ k ∧ k ≤ n ∧ s3 = .int .i64 k ∧ Hid (RS x g L ∧ Below B w x ∧ cpt (L.take k) = L.take k)) (fun s3 _ => n - (intOf s3).toNat)
    case atStart => exact ⟨1, Nat.le_refl _, by omega, rfl, hst⟩
    case round =>
      clear hst
      obtain ⟨k, hk1, hk, rfl, hS⟩ := hrel
      by_cases hlt : k < n
      · have hlt' : (k : Int) < (n : Int) := by omega
        have hkm : IntKind.i64.wrap ((k : Int) - 1) = ((k - 1 : Nat) : Int) := by rw [IntKind.wrap_i64]; omega
        obtain ⟨c0, c1, c2⟩ := hS.out.1.cell k (by rw [← hnH.out]; exact hlt)
        obtain ⟨p0, p1, p2⟩ := hS.out.1.cell (k - 1) (by rw [← hnH.out]; omega)
        by_cases hdup : L.getD k Va.none = L.getD (k - 1) Va.none
        · have hD := hidden hdup
          have hCI : Hid (CI L B g w (k + 1) k L wr.drew) := by
            refine ⟨hS.out.1.drew, hS.out.2.1.drew, rfl, by omega, ?_, fun j _ _ => rfl⟩
            rw [cpt_drop L hk1 (by rw [← hnH.out]; exact hlt) hdup, hS.out.2.2]
          rw [hdup] at c0 c1 c2
          clear hdup hS
          generalize L.getD (k - 1) Va.none = u at *
          obtain ⟨a, p, r⟩ := u
          simp only at c0 c1 c2 p0 p1 p2
          have hq : ∀ z, (binOp .eql 27 (.agg #[.int .i64 a, .int .i64 p, .string r]) (.agg #[.int .i64 a, .int .i64 p, .string r])).run Try.prog z = .ok (.bool true) z := fun z => by
            rw [eqVa ⟨a, p, r⟩ ⟨a, p, r⟩ z]; simp
          go_wp2_with fail
          go_region
          all_goals
            clear c0 c1 c2 p0 p1 p2 hD
            go_wp2_with fail
            go_loopw [3, 5] (fun s3 s5 x => ∃ (kk k2 : Nat) (M : List Va), 1 ≤ k2 ∧ k + k2 ≤ n ∧ kk < k + k2 ∧ s3 = .int .i64 kk ∧ s5 = .int .i64 k2 ∧ Hid (CI L B g w (k + k2) kk M x)) (fun _ s5 _ => n - (k + (intOf s5).toNat))
            case atStart => exact ⟨k, 1, L, Nat.le_refl _, by omega, by omega, rfl, rfl, hCI⟩
            case round =>
              clear hCI
              obtain ⟨kk, k2, M, hk21, hk2, hkk, rfl, rfl, hI⟩ := hrel
              by_cases hlt2 : k + k2 < n
              · have hlt2' : (k2 : Int) < ((n - k : Nat) : Int) := by omega
                have hkm2 : IntKind.i64.wrap ((k2 : Int) - 1) = ((k2 - 1 : Nat) : Int) := by rw [IntKind.wrap_i64]; omega
                obtain ⟨c0, c1, c2⟩ := hI.out.row.cell (k + k2) (by rw [hI.out.len, ← hnH.out]; exact hlt2)
                obtain ⟨p0, p1, p2⟩ := hI.out.row.cell (k + k2 - 1) (by rw [hI.out.len, ← hnH.out]; omega)
                rw [hI.out.high (k + k2) (by omega) (by rw [← hnH.out]; exact hlt2)] at c0 c1 c2
                rw [hI.out.high (k + k2 - 1) (by omega) (by rw [← hnH.out]; omega)] at p0 p1 p2
                rw [show (k + k2) * 3 = k * 3 + k2 * 3 by omega] at c0 c1 c2
                rw [show (k + k2 - 1) * 3 = k * 3 + (k2 - 1) * 3 by omega] at p0 p1 p2
                by_cases hdup2 : L.getD (k + k2) Va.none = L.getD (k + k2 - 1) Va.none
                · have hnx := hidden (hI.out.drew.skip (by omega) (by rw [← hnH.out]; exact hlt2) hdup2)
                  rw [hdup2] at c0 c1 c2
                  clear hdup2 hI
                  generalize L.getD (k + k2 - 1) Va.none = u at *
                  obtain ⟨a, p, r⟩ := u
                  simp only at c0 c1 c2 p0 p1 p2
                  have hq : ∀ z, (binOp .neq 27 (.agg #[.int .i64 a, .int .i64 p, .string r]) (.agg #[.int .i64 a, .int .i64 p, .string r])).run Try.prog z = .ok (.bool false) z := fun z => by
                    rw [neqVa ⟨a, p, r⟩ ⟨a, p, r⟩ z]; simp
                  go_wp2_with fail
                  go_region
                  all_goals
                    clear c0 c1 c2 p0 p1 p2
                    go_wp2
                    go_roundw
                    case rel => exact ⟨kk, k2 + 1, M, by omega, by omega, by omega, rfl, by go_num, hnx⟩
                    case measure => simp [intOf]; omega
                · have hnx := hidden (hI.out.drew.keep hB (by omega) (by rw [← hnH.out]; exact hlt2) hdup2)
                  obtain ⟨o0, o1, o2⟩ := hI.out.row.cell kk (by rw [hI.out.len, ← hnH.out]; omega)
                  have z0 := hI.out.row.fr (kk * 3)
                  have z1 := hI.out.row.fr (kk * 3 + 1)
                  have z2 := hI.out.row.fr (kk * 3 + 2)
                  clear hI
                  unfold put3 at hnx
                  generalize L.getD (k + k2 - 1) Va.none = u at *
                  generalize L.getD (k + k2) Va.none = v at *
                  generalize M.getD kk Va.none = o at *
                  have hq9 := hidden (neqVa_ne hdup2)
                  obtain ⟨b, q, m9⟩ := u
                  obtain ⟨a, p, r⟩ := v
                  obtain ⟨oa, op, om⟩ := o
                  simp only at c0 c1 c2 p0 p1 p2 hnx o0 o1 o2
                  have hq : ∀ z, (binOp .neq 27 (.agg #[.int .i64 a, .int .i64 p, .string r]) (.agg #[.int .i64 b, .int .i64 q, .string m9])).run Try.prog z = .ok (.bool true) z := hq9.out
                  have hkk1 : (kk : Int) < (n : Int) := by omega
                  clear hdup2
                  go_wp2_with fail
                  go_region
                  all_goals
                    clear p0 p1 p2
                    go_wp2
                    go_roundw
                    case rel => exact ⟨kk + 1, k2 + 1, _, by omega, by omega, by omega, by go_num, by go_num, hnx⟩
                    case measure => simp [intOf]; omega
              · have hend : k + k2 = n := by omega
                have hlt2' : ¬ (k2 : Int) < ((n - k : Nat) : Int) := by omega
                have hlen := hI.out.len
                have hML : M.length = n := by rw [hlen, hnH.out]
                obtain ⟨zs, hcl, hrs⟩ := clear_va hI.out.row (k := kk) (by rw [hML]; omega) (cap - kk)
                have hdone : M.take kk = cpt L := by
                  have h := hI.out.done
                  rw [hend, hnH.out, List.take_length] at h
                  exact h
                have hcl2 : (cpt L).length = kk := by rw [← hdone, List.length_take, hML]; omega
                rw [hdone] at hrs
                rw [hML] at hcl
                have hfin := hidden (And.intro hcl2 (And.intro hrs (below_setCellsR hB zs (kk * 3) wr hI.out.below)))
                have hkk1 : kk ≤ n := by omega
                clear hI hrs hdone hcl2 hlen hML
                go_wp2
                go_ret
                refine ⟨by rw [hfin.out.1]; rfl, hfin.out.2⟩
        · have hnx : Hid (RS wr.drew g L ∧ Below B w wr.drew ∧ cpt (L.take (k + 1)) = L.take (k + 1)) := by
            refine ⟨hS.out.1.drew, hS.out.2.1.drew, ?_⟩
            rw [cpt_keep L hk1 (by rw [← hnH.out]; exact hlt) hdup, hS.out.2.2, take_snocR L Va.none k (by rw [← hnH.out]; exact hlt)]
          clear hS
          generalize L.getD (k - 1) Va.none = u at *
          generalize L.getD k Va.none = v at *
          have hq9 := hidden (eqVa_ne hdup)
          obtain ⟨b, q, m9⟩ := u
          obtain ⟨a, p, r⟩ := v
          simp only at c0 c1 c2 p0 p1 p2
          have hq : ∀ z, (binOp .eql 27 (.agg #[.int .i64 a, .int .i64 p, .string r]) (.agg #[.int .i64 b, .int .i64 q, .string m9])).run Try.prog z = .ok (.bool false) z := hq9.out
          clear hdup
          go_wp2_with fail
          go_region
          all_goals
            clear c0 c1 c2 p0 p1 p2
            go_wp2
            go_roundw
            case rel => exact ⟨k + 1, by omega, by omega, by go_num, hnx⟩
            case measure => simp [intOf]; omega
      · have hend : k = n := by omega
        have hlt' : ¬ (k : Int) < (n : Int) := by omega
        have hc : cpt L = L := by
          have h := hS.out.2.2
          rw [hend, hnH.out, List.take_length] at h
          exact h
        have hfin : Hid ((cpt L).length = n ∧ RS wr g (cpt L) ∧ Below B w wr) := by
          refine ⟨by rw [hc, hnH.out], by rw [hc]; exact hS.out.1, hS.out.2.1⟩
        clear hc hS hend
        go_wp2
        go_ret
        refine ⟨by rw [hfin.out.1]; rfl, hfin.out.2⟩
end Go.Proofs.Ytnmjhbnadfjapaa
