/-
  TESTS HELD AGAINST EACH OTHER (the law's own sameTests), by contract, where they are the same.
-/
import Derived.Test.YtpjcjlbjcegjgaaGreatDoorOpenQ
import Derived.Laws.StructEq
import Derived.Deep.QuietTactic
import Derived.BigQuiet
namespace Go.Proofs.YtpjcjlbjcegjgaaGreatDoor
open Go.ChangeShapes Go.WideShapes Go.ChangeAt Go.RowKit

theorem strp5 (a b c d e : Value) (w : World) : (part 9 #[a, b, c, d, e] 0).run Tryz.prog w = .ok a w := by kernel_rfl
theorem intp5 (a b c d e : Value) (w : World) : (part 3 #[a, b, c, d, e] 1).run Tryz.prog w = .ok b w := by kernel_rfl
theorem valp5 (a b c d e : Value) (w : World) : (part 40 #[a, b, c, d, e] 2).run Tryz.prog w = .ok (.agg #[c, d, e]) w := by kernel_rfl
theorem v0p (b c d : Value) (w : World) : (part 3 #[b, c, d] 0).run Tryz.prog w = .ok b w := by kernel_rfl
theorem v1p (b c d : Value) (w : World) : (part 3 #[b, c, d] 1).run Tryz.prog w = .ok c w := by kernel_rfl
theorem v2p (b c d : Value) (w : World) : (part 9 #[b, c, d] 2).run Tryz.prog w = .ok d w := by kernel_rfl
theorem eqs_run (d : Nat) (a b : ByteArray) (w : World) : (Op.equalIn (d + 1) 9 (.string a) (.string b)).run Tryz.prog w = .ok (a.toList == b.toList) w := run_equalIn_string w d 9 a b Tryz.underlying9
theorem eqi_run (d : Nat) (a b : Int) (w : World) : (Op.equalIn (d + 1) 3 (.int .i64 a) (.int .i64 b)).run Tryz.prog w = .ok (a == b) w := run_equalIn_int w d 3 .i64 .i64 a b Tryz.underlying3
set_option maxRecDepth 100000 in
theorem neqV (k n : Int) (t : ByteArray) (k' n' : Int) (t' : ByteArray) (d : Nat) (w : World) : (Op.equalIn (d + 2) 40 (.agg #[.int .i64 k, .int .i64 n, .string t]) (.agg #[.int .i64 k', .int .i64 n', .string t'])).run Tryz.prog w = .ok ((k == k') && ((n == n') && (t.toList == t'.toList))) w := by
  have h1 : Tryz.prog.fieldsOf 40 = (match (Tryz.prog.underlying 40) with | some (.struct fs) => fs | _ => #[]) := rfl
  rw [Tryz.underlying40] at h1
  simp only at h1
  rw [run_equalIn_agg w (d + 1) 40 _ _ (by rw [h1]; exact Tryz.underlying40) (by kernel_rfl), h1]
  simp only [Op.eqFields, Sem.run_ite, Sem.run_bind, v0p, v1p, v2p, Result.andThen_ok, eqi_run, eqs_run, ne_eq, String.reduceEq, not_false_eq_true, if_true, Sem.run_pure]
  generalize (k == k') = b1
  generalize (n == n') = b2
  generalize (t.toList == t'.toList) = b3
  cases b1 <;> cases b2 <;> cases b3 <;> rfl
set_option maxRecDepth 100000 in
theorem neqT (x y : Tst) (w : World) : (binOp .neq 42 (.agg #[.string x.s, .int .i64 x.o, .int .i64 x.k, .int .i64 x.n, .string x.t]) (.agg #[.string y.s, .int .i64 y.o, .int .i64 y.k, .int .i64 y.n, .string y.t])).run Tryz.prog w = .ok (.bool (!((x.s.toList == y.s.toList) && ((x.o == y.o) && ((x.k == y.k) && ((x.n == y.n) && (x.t.toList == y.t.toList))))))) w := by
  have h0 : Tryz.prog.fieldsOf 42 = (match (Tryz.prog.underlying 42) with | some (.struct fs) => fs | _ => #[]) := rfl
  rw [Tryz.underlying42] at h0
  simp only at h0
  rw [run_neq_struct, show (10000:Nat) = 9999+1 from rfl, run_equalIn_agg _ _ _ _ _ (by rw [h0]; exact Tryz.underlying42) (by kernel_rfl), h0]
  have hs := fun a b w => eqs_run 9998 a b w
  have hi := fun a b w => eqi_run 9998 a b w
  have hv := fun k n t k' n' t' w => neqV k n t k' n' t' 9997 w
  simp only [Op.eqFields, Sem.run_ite, Sem.run_bind, strp5, intp5, valp5, Result.andThen_ok, hs, hi, hv, ne_eq, String.reduceEq, not_false_eq_true, if_true, Sem.run_pure]
  generalize (x.s.toList == y.s.toList) = b0
  generalize (x.o == y.o) = b2
  generalize ((x.k == y.k) && ((x.n == y.n) && (x.t.toList == y.t.toList))) = b1
  cases b0 <;> cases b1 <;> cases b2 <;> rfl
set_option maxRecDepth 100000 in
set_option maxHeartbeats 3200000 in
theorem sameTs_c (L : List Tst) (a b : Option Addr) (ca cb : Nat) (w : World) (ha : RowAt w a (testR.flat L)) (hb : RowAt w b (testR.flat L)) (hl : L.length ≤ 1000000) :
    Calls Tryz.prog 12 #[.slice a L.length ca, .slice b L.length cb] w fun e w' => e = .returned (.bool true) ∧ Below w.heap.size w w' := by
  obtain ⟨N, hN⟩ : ∃ N, N = L.length := ⟨_, rfl⟩
  rw [← hN] at hl ⊢
  have hl1 : ((N : Int) != (N : Int)) = false := by simp
  replace hN := hidden hN
  replace ha := hidden ha
  replace hb := hidden hb
  go_enter Tryz.func12, Tryz.ntmps12
  go_wp2
  clear hl1
  go_loopw [5] (fun i wr => ∃ k : Nat, k ≤ N ∧ i = .int .i64 k ∧ Hid (Below w.heap.size w wr)) (fun i _ => N - (intOf i).toNat)
  case atStart => exact ⟨0, Nat.zero_le _, rfl, Below.refl _ _⟩
  case round =>
    obtain ⟨k, hk, rfl, hB⟩ := hrel
    by_cases hlt : k < N
    · have hlt' : (k : Int) < (N : Int) := by omega
      have hlx : k < L.length := by rw [← hN.out]; exact hlt
      obtain ⟨b1, o1, rfl, _, c0, c1, c2, c3, c4⟩ := test_at (ha.out.below hB.out) hlx
      obtain ⟨b2, o2, rfl, _, d0, d1, d2, d3, d4⟩ := test_at (hb.out.below hB.out) hlx
      generalize L.getD k Tst.none = x at *
      obtain ⟨xs, xo, xk, xn, xt⟩ := x
      simp only at c0 c1 c2 c3 c4 d0 d1 d2 d3 d4
      have hq : ∀ z, (binOp .neq 42 (.agg #[.string xs, .int .i64 xo, .int .i64 xk, .int .i64 xn, .string xt]) (.agg #[.string xs, .int .i64 xo, .int .i64 xk, .int .i64 xn, .string xt])).run Tryz.prog z = .ok (.bool false) z := fun z => by
        rw [neqT ⟨xs, xo, xk, xn, xt⟩ ⟨xs, xo, xk, xn, xt⟩ z]; simp
      go_wp2
      go_quiet (fail)
      go_wp2
      go_roundw
      case rel => exact ⟨k + 1, by omega, by go_num, below_drewN hB.out _⟩
      case measure => simp [intOf]; omega
    · have hlt' : ¬ (k : Int) < (N : Int) := by omega
      go_wp2
      go_ret
      exact ⟨rfl, hB.out⟩
end Go.Proofs.YtpjcjlbjcegjgaaGreatDoor
