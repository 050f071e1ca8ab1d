/-
  PROVED: whatever VarintTexts of the module is given, it answers true, and its arguments read behind the call as they read before.
-/
import Derived.Test.YtmjffmjpefaafabRows
import Derived.WalkKit
import Derived.ProofKit
import Derived.OpenShut
import Derived.ChangeMaps5
import Derived.Deep.DeepHandedRow
import Derived.Lib.LaidTab
import Derived.Test.YtmjffmjpefaafabXCodeG
import Derived.Test.YtmjffmjpefaafabVTexts
namespace Go.Proofs.Ytmjffmjpefaafab.varintTexts
open Go Go.ChangeShapes Go.WideShapes Go.ChangeAt Go.RowKit
open Go.ChangeMaps (open_string)

theorem own : ownKnob Try.prog.godebug = none := by kernel_rfl

/-! ### The run -/
noncomputable def K := GoX.Tab.of Try.prog 0 []
theorem K_ok : K.Ok := GoX.Tab.of_ok Try.prog 0 [] (by simp) (by decide +kernel)
theorem names : (Try.prog.funcs.toList.all fun fn => !(fn.name == "runtime.NumGoroutine")) = true := by decide +kernel
theorem K_named : ∀ (f : Nat) fn, K.P.funcs[f]? = some fn → (fn.name == "runtime.NumGoroutine") = false := fun f fn h => by
  have h2 := List.all_eq_true.1 names fn (by
    have : Try.prog.funcs[f]? = some fn := by rw [← GoX.Tab.of_P Try.prog 0 []]; exact h
    exact List.mem_of_getElem? (by rw [Array.getElem?_toList]; exact this))
  simpa using h2
noncomputable def tabL : List GoX.TabL := []
theorem lives_run : (GoX.denJ K [] 100000 (fun n call ops => GoX.drawC K n call ops) 100 9).go [] ⟨0, GoX.tabsT tabL⟩ GoX.isTrue = true := by decide +kernel
theorem lives_c (w : World) (hl : ∀ x ∈ tabL, x.g < 0 ∧ x.lies w) : Calls Try.prog 9 #[] w fun e w' => e = .returned (.bool true) ∧ GoX.Calm w w' := by
  have h := GoX.true_ofT K_ok (GoX.Tab.of_ng Try.prog 0 []) K_named lives_run (xs := []) (by simp [GoX.concs]) w hl
  rwa [show K.P = Try.prog from GoX.Tab.of_P Try.prog 0 []] at h

theorem gtx_form (s : ByteArray) (most : Int) : ∃ X N E, gtx s most = .tuple #[.string X, .int .i64 N, .int .i64 E] := by
  unfold gtx
  split
  · exact ⟨_, _, _, rfl⟩
  · split
    · exact ⟨_, _, _, rfl⟩
    · split <;> exact ⟨_, _, _, rfl⟩
theorem gtx_back (t s : ByteArray) (ht : t.size ≤ 200) : gtx (bytesOf (put t.size) ++ t ++ s) 200 = .tuple #[.string t, .int .i64 ((bytesOf (put t.size) ++ t).size : Nat), .int .i64 0] := by
  have hl : (bytesOf (put t.size) ++ t ++ s).data.toList = put t.size ++ (t.data.toList ++ s.data.toList) := by
    simp [ByteArray.data_append, bytesOf]
  have hg := get_put t.size (by omega) (t.data.toList ++ s.data.toList)
  rw [← hl] at hg
  have hz : (bytesOf (put t.size)).size = (put t.size).length := bytesOf_size _
  have h1 : (bytesOf (put t.size) ++ t).size = (put t.size).length + t.size := by rw [ByteArray.size_append, hz]
  have h2 : (bytesOf (put t.size) ++ t ++ s).size = (put t.size).length + t.size + s.size := by rw [ByteArray.size_append, h1]
  have hx : (bytesOf (put t.size) ++ t ++ s).extract (put t.size).length ((put t.size).length + t.size) = t := by
    apply ByteArray.ext
    apply Array.ext'
    rw [ByteArray.data_extract, Array.toList_extract, hl]
    simp only [List.extract, List.drop_left', Nat.add_sub_cancel_left]
    rw [List.take_left' (by rw [Array.length_toList]; rfl)]
  unfold gtx
  rw [hg]
  simp only
  rw [if_neg (by simp), if_neg (by omega), if_neg (by rw [h2]; omega), hx, h1]
set_option maxHeartbeats 1600000 in
set_option maxRecDepth 100000 in
theorem walk (t0 : ByteArray) (ht0 : t0.size ≤ maxLen) (s0 : ByteArray) (hs0 : s0.size ≤ maxLen) (most : Int) (wm : (Lit.int .i64 most).wf = true) (w : World) (hl : ∀ x ∈ tabL, x.g < 0 ∧ x.lies w) :
    Calls Try.prog 3 #[.string t0, .string s0, .int .i64 most] w fun e w' => e = .returned (.bool true) ∧ GoX.Calm w w' := by
  have hlv : ∀ w, Calls Try.prog 9 #[] w fun e w' => e = .returned (.bool true) ∧ GoX.Calm w w' := fun w => lives_c w (fun x hx => by cases hx)
  obtain ⟨hm0, hm1⟩ := bounds_i64 wm
  have hc1 := fun w => cut_c t0 200 w (by omega)
  have hc2 := fun w => cut_c s0 60 w (by omega)
  have ht := cutB_size t0 200
  have hs := cutB_size s0 60
  generalize cutB t0 200 = t at *
  generalize cutB s0 60 = s at *
  have hg1 := fun w => gtext_c s most w (by omega) hm0 hm1
  have hg2 := fun w => rgtext_c s most w (by omega) hm0 hm1
  obtain ⟨X, N, E, hX⟩ := gtx_form s most
  rw [hX] at hg1 hg2
  have htx := fun w => text_c t w (by omega)
  have hback := gtx_back t s ht
  have hpl := putF_len 11 t.size
  have hpz : (bytesOf (put t.size)).size ≤ 11 := by rw [bytesOf_size]; exact hpl
  have hrp := fun w => rput_c 10 t.size w (by omega) (by omega) (by omega)
  have hrp : ∀ w, Calls Try.prog 8 #[.int .u64 (t.size : Int)] w fun e w' => e = .returned (.string (bytesOf (put t.size))) ∧ Below w.heap.size w w' := hrp
  have hWz : (bytesOf (put t.size) ++ t).size ≤ 211 := by rw [ByteArray.size_append]; omega
  have hz2 : (bytesOf (put t.size) ++ t ++ s).size ≤ 271 := by rw [ByteArray.size_append]; omega
  have hg3 := fun w => gtext_c (bytesOf (put t.size) ++ t ++ s) 200 w (by omega) (by omega) (by omega)
  rw [hback] at hg3
  clear hl ht0 hs0 hX hback wm
  generalize hP : bytesOf (put t.size) = P at *
  have hPs : ¬ (9223372036854775807 < P.size + t.size) := by omega
  generalize hW : P ++ t = V at *
  have hVs : ¬ (9223372036854775807 < V.size + s.size) := by omega
  clear hP hpl
  go_enter Try.func3, Try.ntmps3
  go_wp2_with fail
  refine (hc1 w).mono ?_
  rintro e w1 ⟨rfl, rfl⟩
  go_wp2_with fail
  refine (hc2 _).mono ?_
  rintro e w2 ⟨rfl, rfl⟩
  go_wp2_with fail
  refine (hg1 _).mono ?_
  rintro e w3 ⟨rfl, hB3⟩
  go_wp2_with fail
  refine (hg2 _).mono ?_
  rintro e w4 ⟨rfl, hB4⟩
  have hB4w := hB3.trans (hB4.mono hB3.size)
  go_wp2_with fail
  refine (htx _).mono ?_
  rintro e w5 ⟨rfl, hB5⟩
  have hB5w := hB4w.trans (hB5.mono hB4w.size)
  go_wp2_with fail
  refine (hg3 _).mono ?_
  rintro e w6 ⟨rfl, hB6⟩
  have hB6w := hB5w.trans (hB6.mono hB5w.size)
  go_wp2_with fail
  refine (hrp _).mono ?_
  rintro e w7 ⟨rfl, hB7⟩
  have hB7w := hB6w.trans (hB7.mono hB6w.size)
  go_wp2_with fail
  refine (hlv _).mono ?_
  rintro e w8 ⟨rfl, hB8⟩
  go_wp2
  go_ret
  exact ⟨rfl, (GoX.Calm.of_below hB7w).trans hB8⟩

set_option maxRecDepth 100000 in
theorem contract (H : Type) (enc : TypeId × Value → H) (W : World) (base : Nat) (args : Array Value) (ds gs : List (DataW H)) (before : List MemPlace)
    (hval : ∀ (j : Nat) t v, Try.f3.params[j]? = some t → args[j]? = some v → Value.okWide Try.prog W .any base t v)
    (hW : DataW.Whole enc Try.prog Try.f3.params.toList Rows.varintTextsSpec.vars false W args.toList ds gs before) (hl : ∀ x ∈ tabL, x.g < 0 ∧ x.lies W) :
    Calls Try.prog 3 args W fun e W' => ∃ v, e = .returned v ∧ Rows.varintTextsSpec.post enc Try.prog Try.f3 false true false false W args v W' := by
  have hW' := hW
  obtain ⟨p, q, hA0, hV, rfl, hfz, hnd⟩ := hW
  have hA : DataW.TrodAll enc Try.prog W 0 (fun _ => true) true Try.f3.params.toList args.toList ds p := hA0
  rw [Try.params3] at hA hval
  obtain ⟨v0, vs0, d0, ds0, p0, q0, hargs, rfl, rfl, h0, r0⟩ := trodAll_cons hA
  obtain ⟨v1, vs1, d1, ds1, p1, q1, rfl, rfl, rfl, h1, r1⟩ := trodAll_cons r0
  obtain ⟨v2, vs2, d2, ds2, p2, q2, rfl, rfl, rfl, h2, r2⟩ := trodAll_cons r1
  obtain ⟨rfl, rfl, rfl⟩ := trodAll_nil r2
  obtain rfl : args = #[v0, v1, v2] := by cases args; simp_all
  obtain ⟨rfl, rfl⟩ := trodVars_none hV
  obtain ⟨s0, rfl, _, _, w0⟩ := open_string Try.underlying9 (hval 0 9 v0 rfl rfl) h0
  obtain ⟨s1, rfl, _, _, w1⟩ := open_string Try.underlying9 (hval 1 9 v1 rfl rfl) h1
  obtain ⟨a2, rfl, _, _, w2⟩ := open_int Try.underlying3 (hval 2 3 v2 rfl rfl) h2
  refine (walk s0 w0 s1 w1 a2 w2 W hl).mono fun e W' ⟨he, hg⟩ => ?_
  subst he
  exact ⟨_, rfl, GoX.post_of_calm (tb := 4) (by kernel_rfl) (by decide +kernel) Try.underlying4 (by kernel_rfl) rfl rfl hW' hg⟩

noncomputable def laidWorld (os : Os) : World := World.holding Try.prog os ⟨#[], #[], []⟩
theorem laid_met (os : Os) : laidMet Try.prog Rows.varintTextsRow.laid ((laidWorld os).forCall (fun _ _ => 0) ⟨#[], #[.string .empty, .string .empty, .int .i64 0], []⟩).memory :=
  laidMet_of_run' 8 (by kernel_rfl) (by kernel_rfl)
theorem reads (os : Os) {H : Type} (enc : TypeId × Value → H) : ∃ places, DataW.whole enc Try.prog ((laidWorld os).forCall (fun _ _ => 0) ⟨#[], #[.string .empty, .string .empty, .int .i64 0], []⟩).memory Try.f3.params.toList Rows.varintTextsSpec.vars false (#[.string .empty, .string .empty, .int .i64 0] : Array Value).toList 8 = some ([.lit (.string []), .lit (.string []), .lit (.int .i64 0)], [], places) :=
  ⟨[], by kernel_rfl⟩

set_option maxRecDepth 100000 in
theorem lifted (os : Os) (started : os.Started) (H : Type) (enc : TypeId × Value → H) (F : Stop.Interp) :
    ReturnsInHanded {} Try.checked os 3 .any ((OpenSpec.ofChange Rows.varintTextsSpec).preRow enc Try.prog Try.f3 Rows.varintTextsRow.domain false Rows.varintTextsRow.laid) (((OpenSpec.ofChange Rows.varintTextsSpec).at F).post enc Try.prog Try.f3 false true false false) := by
  obtain ⟨places, hx⟩ := reads os enc
  refine returnsInHanded_of_row (C := Try.checked) (s := OpenSpec.ofChange Rows.varintTextsSpec) own started (by kernel_rfl) Try.func3
    (witness_row_at (enc := enc) (C := Try.checked) false (laidWorld os) #[.string .empty, .string .empty, .int .i64 0] rfl (by kernel_rfl) (by kernel_rfl) (by kernel_rfl)
      (OpenSpec.preRow_of_cond 8 hx (by kernel_rfl) (fun k hk => by cases hk) (by kernel_rfl) (laid_met os))) ?_
  intro W base args ds gs before hval hW _ _ _ _ _ _
  exact contract H enc W base args ds gs before hval hW (fun x hx => by cases hx)

/-- Whatever it is given, it answers true and leaves its arguments as they were. -/
theorem said : Rows.VarintTextsSaid :=
  OpenClaim.holds_of_cond 3 Try.f3 rfl rfl rfl rfl rfl rfl rfl ⟨rfl, rfl, rfl, rfl, rfl⟩ rfl rfl rfl rfl rfl (by kernel_rfl) Try.func3 (by kernel_rfl)
    (of_decide_eq_true (by kernel_rfl)) (by unfold Func.isWrapper; first | (rw [if_pos (by decide +kernel)]; kernel_rfl) | (rw [if_neg (by decide +kernel)]; exact ⟨rfl, rfl⟩))
    (fun os started H enc _ F => by rw [OpenClaim.pre_eq_preRow]; exact lifted os started H enc F)

end Go.Proofs.Ytmjffmjpefaafab.varintTexts
