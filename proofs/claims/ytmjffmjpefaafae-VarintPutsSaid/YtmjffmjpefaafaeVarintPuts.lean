/-
  PROVED: whatever VarintPuts of the module is given, it answers true, and its arguments read behind the call as they read before.
-/
import Derived.Test.YtmjffmjpefaafaeRows
import Derived.WalkKit
import Derived.ProofKit
import Derived.OpenShut
import Derived.ChangeMaps5
import Derived.Deep.DeepHandedRow
import Derived.Lib.LaidTab
import Derived.Test.YtmjffmjpefaafaeXCodeG
import Derived.Test.YtmjffmjpefaafaeVPuts
namespace Go.Proofs.Ytmjffmjpefaafae.varintPuts
open Go Go.ChangeShapes Go.WideShapes Go.ChangeAt Go.RowKit
open Go.ChangeMaps (open_string)

theorem own : ownKnob Try.prog.godebug = none := by kernel_rfl

/-! ### The run -/
noncomputable def K := GoX.Tab.of Try.prog 0 []
theorem K_ok : K.Ok := GoX.Tab.of_ok Try.prog 0 [] (by simp) (by decide +kernel)
theorem names : (Try.prog.funcs.toList.all fun fn => !(fn.name == "runtime.NumGoroutine")) = true := by decide +kernel
theorem K_named : ∀ (f : Nat) fn, K.P.funcs[f]? = some fn → (fn.name == "runtime.NumGoroutine") = false := fun f fn h => by
  have h2 := List.all_eq_true.1 names fn (by
    have : Try.prog.funcs[f]? = some fn := by rw [← GoX.Tab.of_P Try.prog 0 []]; exact h
    exact List.mem_of_getElem? (by rw [Array.getElem?_toList]; exact this))
  simpa using h2
noncomputable def tabL : List GoX.TabL := []
theorem lives_run : (GoX.denJ K [] 100000 (fun n call ops => GoX.drawC K n call ops) 100 12).go [] ⟨0, GoX.tabsT tabL⟩ GoX.isTrue = true := by decide +kernel
theorem lives_c (w : World) (hl : ∀ x ∈ tabL, x.g < 0 ∧ x.lies w) : Calls Try.prog 12 #[] w fun e w' => e = .returned (.bool true) ∧ GoX.Calm w w' := by
  have h := GoX.true_ofT K_ok (GoX.Tab.of_ng Try.prog 0 []) K_named lives_run (xs := []) (by simp [GoX.concs]) w hl
  rwa [show K.P = Try.prog from GoX.Tab.of_P Try.prog 0 []] at h

theorem u64_back (zs : List Int) (h : ∀ z ∈ zs, (Lit.int .u64 z).wf = true) : zs.map (Value.int .u64) = (zs.map Int.toNat).map u64v := by
  rw [List.map_map]
  apply List.map_congr_left
  intro z hz
  have := bounds_u64 (h z hz)
  show Value.int .u64 z = Value.int .u64 ((z.toNat : Nat) : Int)
  congr 1; omega
theorem u64_ints (us : List Nat) : us.map u64v = (us.map fun (u : Nat) => (u : Int)).map (Value.int .u64) := by rw [List.map_map]; rfl
set_option maxHeartbeats 1600000 in
set_option maxRecDepth 100000 in
theorem walk (v : Value) (zs : List Int) (hz : zs.length ≤ maxLen) (hwf : ∀ z ∈ zs, (Lit.int .u64 z).wf = true) (t0 : ByteArray) (ht0 : t0.size ≤ maxLen) (w : World) (hl : ∀ x ∈ tabL, x.g < 0 ∧ x.lies w) (hv : Holds w v (zs.map (Value.int .u64))) :
    Calls Try.prog 3 #[v, .string t0] w fun e w' => e = .returned (.bool true) ∧ GoX.Calm w w' := by
  have hlv : ∀ w, Calls Try.prog 12 #[] w fun e w' => e = .returned (.bool true) ∧ GoX.Calm w w' := fun w => lives_c w (fun x hx => by cases hx)
  unfold maxLen at hz
  have hc1 := fun w => cut_c t0 10 w (by omega)
  have ht := cutB_size t0 10
  generalize cutB t0 10 = h at *
  have hf1 := fun (w : World) (hv : Holds w v (zs.map (Value.int .u64))) => fewu_c v zs 10 w hv hz (by omega)
  have hwf' : ∀ z ∈ zs.take 10, (Lit.int .u64 z).wf = true := fun z hz => hwf z (List.mem_of_mem_take hz)
  have hlen : (zs.take 10).length ≤ 10 := by rw [List.length_take]; omega
  rw [u64_back _ hwf'] at hf1
  have hus : ∀ u ∈ (zs.take 10).map Int.toNat, u < 18446744073709551616 := fun u hu => by
    obtain ⟨z, hz, rfl⟩ := List.mem_map.1 hu
    have := bounds_u64 (hwf' z hz)
    omega
  rw [← List.length_map (f := Int.toNat)] at hlen hf1
  generalize (zs.take 10).map Int.toNat = us at *
  clear hl ht0 hwf hwf'
  have hf2 : ∀ (w : World) (x : Value), Holds w x (us.map u64v) → Calls Try.prog 4 #[x, .int .i64 10] w fun e w' => ∃ v', e = .returned v' ∧ w'.ownsRow w.heap.size 28 1 v' us.length (us.map u64v) ∧ Below w.heap.size w w' := fun w x hx => by
    have e := u64_ints us
    have ht : (us.map fun (u : Nat) => (u : Int)).take 10 = us.map fun (u : Nat) => (u : Int) := List.take_of_length_le (by simpa using hlen)
    rw [e] at hx ⊢
    have h := fewu_c x (us.map fun (u : Nat) => (u : Int)) 10 w hx (by simp; omega) (by omega)
    rw [ht, List.length_map] at h
    exact h
  have hb := bts_len us
  have hSz := bytesOf_size (bts us)
  have hSh : bytesOf (bts us) ++ h = bytesOf (bts us ++ h.data.toList) := by rw [← bytesOf_append, bytesOf_data]
  have hli := fun w => list_c us h.data.toList w (by omega) hus (by rw [Array.length_toList]; exact Nat.le_trans ht (by decide))
  rw [← hSh] at hli
  have hap : ¬ (9223372036854775807 < (bytesOf (bts us)).size + h.size) := by omega
  have hpu := fun (w : World) (y : Value) (hy : Holds w y (us.map u64v)) => put_c y us w hy (by omega) hus
  have hpa := fun (w : World) (y : Value) (hy : Holds w y (us.map u64v)) => putAll_c y us w hy (by omega) hus
  have hpu : ∀ (w : World) (y : Value), Holds w y (us.map u64v) → Calls Try.prog 6 #[y] w fun e w' => e = .returned (.string (bytesOf (bts us))) ∧ Below w.heap.size w w' := hpu
  have hbl : ((bts us).length : Int) = ((bytesOf (bts us)).size : Nat) := by rw [hSz]
  rw [hbl] at hli
  clear hSz hb hSh hbl
  generalize bytesOf (bts us) = S at *
  go_enter Try.func3, Try.ntmps3
  go_wp2_with fail
  refine (hf1 _ hv).mono ?_
  rintro e w1 ⟨x, rfl, hox, hB1⟩
  have hx1 := holds_of_owns hox
  clear hox hv hf1
  go_wp2_with fail
  refine (hc1 _).mono ?_
  rintro e w2 ⟨rfl, rfl⟩
  go_wp2_with fail
  refine (hf2 _ _ hx1).mono ?_
  rintro e w3 ⟨y, rfl, hoy, hB3⟩
  have hy3 := holds_of_owns hoy
  have hx3 := hx1.below hB3
  have hB3w := hB1.trans (hB3.mono hB1.size)
  clear hoy hx1 hf2
  go_wp2_with fail
  refine (hpu _ _ hy3).mono ?_
  rintro e w4 ⟨rfl, hB4⟩
  have hx4 := hx3.below hB4
  have hB4w := hB3w.trans (hB4.mono hB3w.size)
  clear hy3 hx3 hpu
  go_wp2_with fail
  refine (hpa _ _ hx4).mono ?_
  rintro e w5 ⟨rfl, hB5⟩
  have hx5 := hx4.below hB5
  have hB5w := hB4w.trans (hB5.mono hB4w.size)
  clear hx4 hpa
  obtain ⟨xa, xc, rfl, hrow⟩ := hx5
  rw [List.length_map]
  have hx5 : Hid (Holds w5 (.slice xa us.length xc) (us.map u64v)) := ⟨xa, xc, by rw [List.length_map], hrow⟩
  go_wp2
  go_loopw [6] (fun i wr => ∃ k : Nat, k ≤ us.length ∧ i = .int .i64 k ∧ Below w5.heap.size w5 wr)
    (fun i _ => us.length - (intOf i).toNat)
  case atStart => exact ⟨0, Nat.zero_le _, rfl, Below.refl _ _⟩
  case round =>
    obtain ⟨k, hk, rfl, hnx⟩ := hrel
    by_cases hlt : k < us.length
    · rcases hrow with h0 | ⟨b, off, rfl, hb, hc⟩
      · simp only [List.map_eq_nil_iff] at h0; subst h0; simp at hlt
      have hcx : wr.cell? ⟨b, off + k, none⟩ = some (.int .u64 ((us.getD k 0 : Nat) : Int)) := (hnx.cell (by exact hb)).trans (hc k _ (by simp [hlt, u64v]))
      have hu := hus (us.getD k 0) (by simp [List.getD, hlt])
      have hbr : b < wr.heap.size := Nat.lt_of_lt_of_le hb hnx.size
      have hsz := fun w => size_c (us.getD k 0) w hu
      have hrp : ∀ w, Calls Try.prog 9 #[.int .u64 ((us.getD k 0 : Nat) : Int)] w fun e w' => e = .returned (.string (bytesOf (put (us.getD k 0)))) ∧ Below w.heap.size w w' :=
        fun w => rput_c 10 _ w (by omega) (Nat.lt_of_lt_of_le hu (by decide)) hu
      have hpz := bytesOf_size (put (us.getD k 0))
      rw [← hpz] at hsz
      clear hc hli hpz hap
      generalize us.getD k 0 = u at *
      generalize bytesOf (put u) = B at *
      have hcd : wr.drew.cell? ⟨b, off + k, none⟩ = some (.int .u64 (u : Int)) := hcx
      go_wp2
      go_region_with (first
        | (go_at_call 8; refine (hsz _).mono ?_; rintro e w' ⟨rfl, rfl⟩)
        | (go_at_call 9; refine (hrp _).mono ?_; rintro e w' ⟨rfl, hB⟩; have hcw : w'.cell? ⟨b, off + k, none⟩ = some (.int .u64 (u : Int)) := (hB.cell (by exact hbr)).trans hcx))
      all_goals go_wp2
      all_goals
        go_roundw
        case rel => exact ⟨k + 1, by omega, by go_num, (hnx.drew).trans (hB.mono hnx.size)⟩
        case measure => simp [intOf]; omega
    · obtain rfl : k = us.length := by omega
      have hB6w := hB5w.trans (hnx.mono hB5w.size)
      have hx6 := hx5.out.below hnx
      clear hrow hx5
      go_wp2_with fail
      refine (hli _).mono ?_
      rintro e w7 ⟨q, rfl, hoq, hB7⟩
      have hq7 := holds_of_owns hoq
      have hx7 := hx6.below hB7
      have hB7w := hB6w.trans (hB7.mono hB6w.size)
      rw [u64_ints] at hq7 hx7
      have hsm := sameu_c q _ _ _ w7 hq7 hx7 (by simp; omega) (by simp; omega)
      have hd : decide ((us.map fun (u : Nat) => (u : Int)) = us.map fun (u : Nat) => (u : Int)) = true := decide_eq_true rfl
      rw [hd] at hsm
      clear hli hoq hx6 hd hap hq7 hx7
      go_wp2_with fail
      refine hsm.mono ?_
      rintro e w8 ⟨rfl, hB8⟩
      have hB8w := hB7w.trans (hB8.mono hB7w.size)
      clear hsm
      go_wp2_with fail
      refine (hlv _).mono ?_
      rintro e w9 ⟨rfl, hB9⟩
      go_wp2
      go_ret
      exact ⟨rfl, (GoX.Calm.of_below hB8w).trans hB9⟩

set_option maxRecDepth 100000 in
theorem contract (H : Type) (enc : TypeId × Value → H) (W : World) (base : Nat) (args : Array Value) (ds gs : List (DataW H)) (before : List MemPlace)
    (hval : ∀ (j : Nat) t v, Try.f3.params[j]? = some t → args[j]? = some v → Value.okWide Try.prog W .any base t v)
    (hW : DataW.Whole enc Try.prog Try.f3.params.toList Rows.varintPutsSpec.vars false W args.toList ds gs before) (hl : ∀ x ∈ tabL, x.g < 0 ∧ x.lies W) :
    Calls Try.prog 3 args W fun e W' => ∃ v, e = .returned v ∧ Rows.varintPutsSpec.post enc Try.prog Try.f3 false true false false W args v W' := by
  have hW' := hW
  obtain ⟨p, q, hA0, hV, rfl, hfz, hnd⟩ := hW
  have hA : DataW.TrodAll enc Try.prog W 0 (fun _ => true) true Try.f3.params.toList args.toList ds p := hA0
  rw [Try.params3] at hA hval
  obtain ⟨v0, vs0, d0, ds0, p0, q0, hargs, rfl, rfl, h0, r0⟩ := trodAll_cons hA
  obtain ⟨v1, vs1, d1, ds1, p1, q1, rfl, rfl, rfl, h1, r1⟩ := trodAll_cons r0
  obtain ⟨rfl, rfl, rfl⟩ := trodAll_nil r1
  obtain rfl : args = #[v0, v1] := by cases args; simp_all
  obtain ⟨rfl, rfl⟩ := trodVars_none hV
  obtain ⟨zs0, n0, rfl, hh0, m0, wf0⟩ := open_row Try.underlying22 Try.underlying28 (by kernel_rfl) (hval 0 22 v0 rfl rfl) h0 (fun _ => rfl)
  obtain ⟨s1, rfl, _, _, w1⟩ := open_string Try.underlying9 (hval 1 9 v1 rfl rfl) h1
  refine (walk v0 zs0 m0 wf0 s1 w1 W hl hh0).mono fun e W' ⟨he, hg⟩ => ?_
  subst he
  exact ⟨_, rfl, GoX.post_of_calm (tb := 4) (by kernel_rfl) (by decide +kernel) Try.underlying4 (by kernel_rfl) rfl rfl hW' hg⟩

noncomputable def laidWorld (os : Os) : World := World.holding Try.prog os ⟨#[], #[], []⟩
theorem laid_met (os : Os) : laidMet Try.prog Rows.varintPutsRow.laid ((laidWorld os).forCall (fun _ _ => 0) ⟨#[], #[.slice none 0 0, .string .empty], []⟩).memory :=
  laidMet_of_run' 8 (by kernel_rfl) (by kernel_rfl)
theorem reads (os : Os) {H : Type} (enc : TypeId × Value → H) : ∃ places, DataW.whole enc Try.prog ((laidWorld os).forCall (fun _ _ => 0) ⟨#[], #[.slice none 0 0, .string .empty], []⟩).memory Try.f3.params.toList Rows.varintPutsSpec.vars false (#[.slice none 0 0, .string .empty] : Array Value).toList 8 = some ([.nil, .lit (.string [])], [], places) :=
  ⟨[], by kernel_rfl⟩

set_option maxRecDepth 100000 in
theorem lifted (os : Os) (started : os.Started) (H : Type) (enc : TypeId × Value → H) (F : Stop.Interp) :
    ReturnsInHanded {} Try.checked os 3 .any ((OpenSpec.ofChange Rows.varintPutsSpec).preRow enc Try.prog Try.f3 Rows.varintPutsRow.domain false Rows.varintPutsRow.laid) (((OpenSpec.ofChange Rows.varintPutsSpec).at F).post enc Try.prog Try.f3 false true false false) := by
  obtain ⟨places, hx⟩ := reads os enc
  refine returnsInHanded_of_row (C := Try.checked) (s := OpenSpec.ofChange Rows.varintPutsSpec) own started (by kernel_rfl) Try.func3
    (witness_row_at (enc := enc) (C := Try.checked) false (laidWorld os) #[.slice none 0 0, .string .empty] rfl (by kernel_rfl) (by kernel_rfl) (by kernel_rfl)
      (OpenSpec.preRow_of_cond 8 hx (by kernel_rfl) (fun k hk => by cases hk) (by kernel_rfl) (laid_met os))) ?_
  intro W base args ds gs before hval hW _ _ _ _ _ _
  exact contract H enc W base args ds gs before hval hW (fun x hx => by cases hx)

/-- Whatever it is given, it answers true and leaves its arguments as they were. -/
theorem said : Rows.VarintPutsSaid :=
  OpenClaim.holds_of_cond 3 Try.f3 rfl rfl rfl rfl rfl rfl rfl ⟨rfl, rfl, rfl, rfl, rfl⟩ rfl rfl rfl rfl rfl (by kernel_rfl) Try.func3 (by kernel_rfl)
    (of_decide_eq_true (by kernel_rfl)) (by unfold Func.isWrapper; first | (rw [if_pos (by decide +kernel)]; kernel_rfl) | (rw [if_neg (by decide +kernel)]; exact ⟨rfl, rfl⟩))
    (fun os started H enc _ F => by rw [OpenClaim.pre_eq_preRow]; exact lifted os started H enc F)

end Go.Proofs.Ytmjffmjpefaafae.varintPuts
