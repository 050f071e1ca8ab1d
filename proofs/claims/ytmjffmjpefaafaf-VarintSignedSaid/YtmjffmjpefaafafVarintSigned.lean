/-
  PROVED: whatever VarintSigned of the module is given, it answers true, and its arguments read behind the call as they read before.
-/
import Derived.Test.YtmjffmjpefaafafRows
import Derived.WalkKit
import Derived.ProofKit
import Derived.OpenShut
import Derived.ChangeMaps5
import Derived.Deep.DeepHandedRow
import Derived.Lib.LaidTab
import Derived.Test.YtmjffmjpefaafafXCodeG
import Derived.Test.YtmjffmjpefaafafVSigned
namespace Go.Proofs.Ytmjffmjpefaafaf.varintSigned
open Go Go.ChangeShapes Go.WideShapes Go.ChangeAt Go.RowKit
open Go.ChangeMaps (open_string)

theorem own : ownKnob Try.prog.godebug = none := by kernel_rfl

/-! ### The run -/
noncomputable def K := GoX.Tab.of Try.prog 0 []
theorem K_ok : K.Ok := GoX.Tab.of_ok Try.prog 0 [] (by simp) (by decide +kernel)
theorem names : (Try.prog.funcs.toList.all fun fn => !(fn.name == "runtime.NumGoroutine")) = true := by decide +kernel
theorem K_named : ∀ (f : Nat) fn, K.P.funcs[f]? = some fn → (fn.name == "runtime.NumGoroutine") = false := fun f fn h => by
  have h2 := List.all_eq_true.1 names fn (by
    have : Try.prog.funcs[f]? = some fn := by rw [← GoX.Tab.of_P Try.prog 0 []]; exact h
    exact List.mem_of_getElem? (by rw [Array.getElem?_toList]; exact this))
  simpa using h2
noncomputable def tabL : List GoX.TabL := []
theorem lives_run : (GoX.denJ K [] 100000 (fun n call ops => GoX.drawC K n call ops) 100 9).go [] ⟨0, GoX.tabsT tabL⟩ GoX.isTrue = true := by decide +kernel
theorem lives_c (w : World) (hl : ∀ x ∈ tabL, x.g < 0 ∧ x.lies w) : Calls Try.prog 9 #[] w fun e w' => e = .returned (.bool true) ∧ GoX.Calm w w' := by
  have h := GoX.true_ofT K_ok (GoX.Tab.of_ng Try.prog 0 []) K_named lives_run (xs := []) (by simp [GoX.concs]) w hl
  rwa [show K.P = Try.prog from GoX.Tab.of_P Try.prog 0 []] at h

theorem gs_back (n : Int) (h0 : -9223372036854775808 ≤ n) (h1 : n ≤ 9223372036854775807) (r : ByteArray) :
    gsx (bytesOf (put (BitsMath.zz n).toNat) ++ r).data.toList = .tuple #[.int .i64 n, .int .i64 ((bytesOf (put (BitsMath.zz n).toNat)).size : Nat), .int .i64 0] := by
  have hr := BitsMath.zz_range h0 h1
  have hl : (bytesOf (put (BitsMath.zz n).toNat) ++ r).data.toList = put (BitsMath.zz n).toNat ++ r.data.toList := by simp [ByteArray.data_append, bytesOf]
  have hg := get_put (BitsMath.zz n).toNat (by omega) r.data.toList
  have e : (((BitsMath.zz n).toNat : Nat) : Int) = BitsMath.zz n := by omega
  unfold gsx
  rw [hl, hg]
  simp only
  rw [e, BitsMath.zg_zz, bytesOf_size]
  rfl
theorem ext_back (A B : ByteArray) : (A ++ B).extract A.size (A ++ B).size = B := by
  apply ByteArray.ext
  apply Array.ext'
  rw [ByteArray.data_extract, Array.toList_extract, ByteArray.data_append, Array.toList_append]
  have h1 : A.data.toList.length = A.size := by rw [Array.length_toList]; rfl
  have h2 : B.data.toList.length = B.size := by rw [Array.length_toList]; rfl
  have h3 : (A ++ B).size - A.size = B.size := by rw [ByteArray.size_append]; omega
  simp only [List.extract]
  rw [← h1, List.drop_left', h1, h3, ← h2, List.take_length]
  rfl
theorem gsx_form (L : List UInt8) : ∃ X N, gsx L = .tuple #[.int .i64 X, .int .i64 N, .int .i64 ((getS L).2.2 : Nat)] := ⟨_, _, rfl⟩
set_option maxHeartbeats 1600000 in
set_option maxRecDepth 100000 in
theorem walk (a : Int) (wa : (Lit.int .i64 a).wf = true) (b : Int) (wb : (Lit.int .i64 b).wf = true) (t0 : ByteArray) (ht0 : t0.size ≤ maxLen) (w : World) (hl : ∀ x ∈ tabL, x.g < 0 ∧ x.lies w) :
    Calls Try.prog 3 #[.int .i64 a, .int .i64 b, .string t0] w fun e w' => e = .returned (.bool true) ∧ GoX.Calm w w' := by
  have hlv : ∀ w, Calls Try.prog 9 #[] w fun e w' => e = .returned (.bool true) ∧ GoX.Calm w w' := fun w => lives_c w (fun x hx => by cases hx)
  obtain ⟨a0, a1⟩ := bounds_i64 wa
  obtain ⟨b0, b1⟩ := bounds_i64 wb
  have hc1 := fun w => cut_c t0 20 w (by omega)
  have ht := cutB_size t0 20
  generalize cutB t0 20 = h at *
  have hsg : ∀ w : World, Calls Try.prog 5 #[.slice (some ⟨w.heap.size, 0, none⟩) 2 2] (w.alloc (.cells #[.int .i64 a, .int .i64 b] 2)) fun e w' => e = .returned (.string (bytesOf (put (BitsMath.zz a).toNat) ++ bytesOf (put (BitsMath.zz b).toNat))) ∧ Below w.heap.size (w.alloc (.cells #[.int .i64 a, .int .i64 b] 2)) w' := fun w => by
    have hH : Holds (w.alloc (.cells #[.int .i64 a, .int .i64 b] 2)) (.slice (some ⟨w.heap.size, 0, none⟩) 2 2) ([a, b].map (Value.int .i64)) :=
      ⟨_, 2, rfl, .inr ⟨w.heap.size, 0, rfl, by simp, fun j u hj => by
        have hc : (w.alloc (.cells #[.int .i64 a, .int .i64 b] 2)).heap[w.heap.size]? = some (.cells #[.int .i64 a, .int .i64 b] 2) := (MapKept.heap_alloc w _).1
        simp only [World.cell?, hc, Nat.zero_add]
        simpa using hj⟩⟩
    refine (signed_c _ [a, b] _ hH (by simp) (by simp [wa, wb])).mono ?_
    rintro e w' ⟨rfl, hB⟩
    refine ⟨?_, hB.mono (by simp)⟩
    rw [bytesOf_append]
    simp [bts, str, bytesOf]
  have hra := fun w => rsigned_c a0 a1 w
  have hrb := fun w => rsigned_c b0 b1 w
  have hga := gs_back a a0 a1 (bytesOf (put (BitsMath.zz b).toNat) ++ h)
  have hgb := gs_back b b0 b1 h
  have hza : (bytesOf (put (BitsMath.zz a).toNat)).size ≤ 11 := by rw [bytesOf_size]; exact putF_len 11 _
  have hzb : (bytesOf (put (BitsMath.zz b).toNat)).size ≤ 11 := by rw [bytesOf_size]; exact putF_len 11 _
  generalize bytesOf (put (BitsMath.zz a).toNat) = A at *
  generalize bytesOf (put (BitsMath.zz b).toNat) = B at *
  have hext := ext_back A B
  have hzS : (A ++ B).size = A.size + B.size := ByteArray.size_append
  have hz2 : (A ++ B ++ h).size = A.size + B.size + h.size := by rw [ByteArray.size_append, hzS]
  have hz3 : (B ++ h).size = B.size + h.size := ByteArray.size_append
  have hg1 := fun w => getSigned_c (A ++ B ++ h) w (by omega)
  rw [ByteArray.append_assoc, hga, ← ByteArray.append_assoc] at hg1
  have hg2 := fun w => getSigned_c (B ++ h) w (by omega)
  rw [hgb] at hg2
  have hg3 := fun w => getSigned_c h w (by omega)
  have hg4 := fun w => rget_c h w (by omega)
  obtain ⟨X, N, hX⟩ := gsx_form h.data.toList
  rw [hX] at hg3
  unfold tupR at hg4
  generalize (getS h.data.toList).2.2 = E at *
  generalize (getS h.data.toList).2.1 = N2 at *
  generalize (getS h.data.toList).1 = X2 at *
  have hzS1 : ((A ++ B).size : Int) - (A.size : Int) = (B.size : Int) := by omega
  have hzS2 : A.size ≤ (A ++ B).size := by omega
  have hzS3 : (A ++ B).size ≤ 22 := by omega
  have hap : ¬ (9223372036854775807 < A.size + B.size) := by omega
  have hap2 : ¬ (9223372036854775807 < (A ++ B).size + h.size) := by omega
  have hap3 : ¬ (9223372036854775807 < B.size + h.size) := by omega
  clear hl ht0 wa wb hX hga hgb hz2 hz3 hzS
  generalize hS : A ++ B = S at *
  go_enter Try.func3, Try.ntmps3
  go_wp2_with fail
  refine (hc1 w).mono ?_
  rintro e w1 ⟨rfl, rfl⟩
  go_wp2_with fail
  refine (hsg _).mono ?_
  rintro e w2 ⟨rfl, hB2⟩
  have hB2w := ((Below.refl _ _).alloc (Nat.le_refl _) _).trans hB2
  go_wp2_with fail
  refine (hra _).mono ?_
  rintro e w3 ⟨rfl, hB3⟩
  have hB3w := hB2w.trans (hB3.mono hB2w.size)
  go_wp2_with fail
  refine (hrb _).mono ?_
  rintro e w4 ⟨rfl, hB4⟩
  have hB4w := hB3w.trans (hB4.mono hB3w.size)
  go_wp2_with fail
  refine (hg1 _).mono ?_
  rintro e w5 ⟨rfl, rfl⟩
  go_wp2_with fail
  refine (hra _).mono ?_
  rintro e w6 ⟨rfl, hB6⟩
  have hB6w := hB4w.trans (hB6.mono hB4w.size)
  go_wp2_with fail
  refine (hg2 _).mono ?_
  rintro e w7 ⟨rfl, rfl⟩
  go_wp2_with fail
  refine (hg3 _).mono ?_
  rintro e w8 ⟨rfl, rfl⟩
  go_wp2_with fail
  refine (hg4 _).mono ?_
  rintro e w9 ⟨rfl, hB9⟩
  have hB9w := hB6w.trans (hB9.mono hB6w.size)
  go_wp2_with fail
  refine (hlv _).mono ?_
  rintro e w10 ⟨rfl, hB10⟩
  go_wp2
  go_ret
  exact ⟨rfl, (GoX.Calm.of_below hB9w).trans hB10⟩

set_option maxRecDepth 100000 in
theorem contract (H : Type) (enc : TypeId × Value → H) (W : World) (base : Nat) (args : Array Value) (ds gs : List (DataW H)) (before : List MemPlace)
    (hval : ∀ (j : Nat) t v, Try.f3.params[j]? = some t → args[j]? = some v → Value.okWide Try.prog W .any base t v)
    (hW : DataW.Whole enc Try.prog Try.f3.params.toList Rows.varintSignedSpec.vars false W args.toList ds gs before) (hl : ∀ x ∈ tabL, x.g < 0 ∧ x.lies W) :
    Calls Try.prog 3 args W fun e W' => ∃ v, e = .returned v ∧ Rows.varintSignedSpec.post enc Try.prog Try.f3 false true false false W args v W' := by
  have hW' := hW
  obtain ⟨p, q, hA0, hV, rfl, hfz, hnd⟩ := hW
  have hA : DataW.TrodAll enc Try.prog W 0 (fun _ => true) true Try.f3.params.toList args.toList ds p := hA0
  rw [Try.params3] at hA hval
  obtain ⟨v0, vs0, d0, ds0, p0, q0, hargs, rfl, rfl, h0, r0⟩ := trodAll_cons hA
  obtain ⟨v1, vs1, d1, ds1, p1, q1, rfl, rfl, rfl, h1, r1⟩ := trodAll_cons r0
  obtain ⟨v2, vs2, d2, ds2, p2, q2, rfl, rfl, rfl, h2, r2⟩ := trodAll_cons r1
  obtain ⟨rfl, rfl, rfl⟩ := trodAll_nil r2
  obtain rfl : args = #[v0, v1, v2] := by cases args; simp_all
  obtain ⟨rfl, rfl⟩ := trodVars_none hV
  obtain ⟨a0, rfl, _, _, w0⟩ := open_int Try.underlying2 (hval 0 2 v0 rfl rfl) h0
  obtain ⟨a1, rfl, _, _, w1⟩ := open_int Try.underlying2 (hval 1 2 v1 rfl rfl) h1
  obtain ⟨s2, rfl, _, _, w2⟩ := open_string Try.underlying9 (hval 2 9 v2 rfl rfl) h2
  refine (walk a0 w0 a1 w1 s2 w2 W hl).mono fun e W' ⟨he, hg⟩ => ?_
  subst he
  exact ⟨_, rfl, GoX.post_of_calm (tb := 4) (by kernel_rfl) (by decide +kernel) Try.underlying4 (by kernel_rfl) rfl rfl hW' hg⟩

noncomputable def laidWorld (os : Os) : World := World.holding Try.prog os ⟨#[], #[], []⟩
theorem laid_met (os : Os) : laidMet Try.prog Rows.varintSignedRow.laid ((laidWorld os).forCall (fun _ _ => 0) ⟨#[], #[.int .i64 0, .int .i64 0, .string .empty], []⟩).memory :=
  laidMet_of_run' 8 (by kernel_rfl) (by kernel_rfl)
theorem reads (os : Os) {H : Type} (enc : TypeId × Value → H) : ∃ places, DataW.whole enc Try.prog ((laidWorld os).forCall (fun _ _ => 0) ⟨#[], #[.int .i64 0, .int .i64 0, .string .empty], []⟩).memory Try.f3.params.toList Rows.varintSignedSpec.vars false (#[.int .i64 0, .int .i64 0, .string .empty] : Array Value).toList 8 = some ([.lit (.int .i64 0), .lit (.int .i64 0), .lit (.string [])], [], places) :=
  ⟨[], by kernel_rfl⟩

set_option maxRecDepth 100000 in
theorem lifted (os : Os) (started : os.Started) (H : Type) (enc : TypeId × Value → H) (F : Stop.Interp) :
    ReturnsInHanded {} Try.checked os 3 .any ((OpenSpec.ofChange Rows.varintSignedSpec).preRow enc Try.prog Try.f3 Rows.varintSignedRow.domain false Rows.varintSignedRow.laid) (((OpenSpec.ofChange Rows.varintSignedSpec).at F).post enc Try.prog Try.f3 false true false false) := by
  obtain ⟨places, hx⟩ := reads os enc
  refine returnsInHanded_of_row (C := Try.checked) (s := OpenSpec.ofChange Rows.varintSignedSpec) own started (by kernel_rfl) Try.func3
    (witness_row_at (enc := enc) (C := Try.checked) false (laidWorld os) #[.int .i64 0, .int .i64 0, .string .empty] rfl (by kernel_rfl) (by kernel_rfl) (by kernel_rfl)
      (OpenSpec.preRow_of_cond 8 hx (by kernel_rfl) (fun k hk => by cases hk) (by kernel_rfl) (laid_met os))) ?_
  intro W base args ds gs before hval hW _ _ _ _ _ _
  exact contract H enc W base args ds gs before hval hW (fun x hx => by cases hx)

/-- Whatever it is given, it answers true and leaves its arguments as they were. -/
theorem said : Rows.VarintSignedSaid :=
  OpenClaim.holds_of_cond 3 Try.f3 rfl rfl rfl rfl rfl rfl rfl ⟨rfl, rfl, rfl, rfl, rfl⟩ rfl rfl rfl rfl rfl (by kernel_rfl) Try.func3 (by kernel_rfl)
    (of_decide_eq_true (by kernel_rfl)) (by unfold Func.isWrapper; first | (rw [if_pos (by decide +kernel)]; kernel_rfl) | (rw [if_neg (by decide +kernel)]; exact ⟨rfl, rfl⟩))
    (fun os started H enc _ F => by rw [OpenClaim.pre_eq_preRow]; exact lifted os started H enc F)

end Go.Proofs.Ytmjffmjpefaafaf.varintSigned
