/-
  WORDS THAT WERE READ COME BACK FROM THEIR TEXT: the law's own walk.
-/
import Derived.Test.YtddmdieeljjamaaDoorWAgain
import Derived.Test.YtddmdieeljjamaaDoorWRefs
import Derived.Test.YtddmdieeljjamaaDoorLRSame
import Derived.Test.YtddmdieeljjamaaDoorLRPrint
import Derived.Test.YtddmdieeljjamaaDoorCut
namespace Go.Proofs.YtddmdieeljjamaaDoor
open Go.ChangeShapes Go.WideShapes Go.ChangeAt Go.RowKit

theorem siL_ok {t : ByteArray} (h : t ∈ siL) : t.size ≤ 40 := by have := siL_small t h; omega
theorem gw_ok {x : Wd} (h : GW x) : x.ok := by
  cases h with
  | name t p h1 h2 h => exact ⟨by show t.size ≤ 40; omega, by show (0 : Nat) ≤ 120; omega, by show (-9223372036854775808 : Int) ≤ 0; omega, by show (0 : Int) ≤ 9223372036854775807; omega⟩
  | num n p h1 h2 => exact ⟨by show (0 : Nat) ≤ 40; omega, by show (0 : Nat) ≤ 120; omega, by show (-9223372036854775808 : Int) ≤ n; omega, by show n ≤ 9223372036854775807; omega⟩
  | text l p h1 h2 => exact ⟨by show (0 : Nat) ≤ 40; omega, by show (tx l).size ≤ 120; rw [tx_size]; omega, by show (-9223372036854775808 : Int) ≤ 0; omega, by show (0 : Int) ≤ 9223372036854775807; omega⟩
  | sign t p h => exact ⟨siL_ok h, by show (0 : Nat) ≤ 120; omega, by show (-9223372036854775808 : Int) ≤ 0; omega, by show (0 : Int) ≤ 9223372036854775807; omega⟩
set_option maxHeartbeats 6400000 in
set_option maxRecDepth 100000 in
theorem law_c (s : ByteArray) (w : World) (hsig : ∀ x, GoX.Calm w x → ∀ k, k < 22 → x.cell? ⟨0, k, none⟩ = some (.string (siL.getD k ⟨#[]⟩)))
    (hT : ∀ x, GoX.Calm w x → Lib.TabIs Tryd.prog x "internal/strconv.uint64pow10" .u64 Lib.pow10Tab)
    (hlv : ∀ x, GoX.Calm w x → Calls Tryd.prog 6 #[] x fun e w' => e = .returned (.bool true) ∧ GoX.Calm x w') :
    Calls Tryd.prog 3 #[.string s] w fun e w' => e = .returned (.bool true) ∧ GoX.Calm w w' := by
  obtain ⟨i0, hi, hz0, hz1, hz2⟩ := info_parts infoW
  have hc := fun w => cut_c s 200 w (by omega)
  have hsz := cutB_size s 200
  generalize cutB s 200 = c at *
  have h1 := rwords_c c w (by omega)
  have hag := all_again c
  have hts := all_text c
  obtain ⟨hgw, -, hlen⟩ := all_inv c
  generalize allWords c = X at *
  obtain ⟨L, p, q⟩ := X
  simp only at h1 hlen hag hgw hts
  have hL : Hid (L.length ≤ 200) := by show _ ≤ _; omega
  have hok := hidden fun x (hx : x ∈ L) => gw_ok (hgw x hx)
  by_cases hq : q = 0
  · have hq2 : (q != 0) = false := by simp [hq]
    replace hq := hidden hq
    have hpr : ∀ x u, GoX.Calm w x → SlR wordR x u L → Calls Tryd.prog 7 #[u] x fun e w' => e = .returned (.string (jn (L.map wtx))) ∧ GoX.Calm x w' := fun x u h0 h1 =>
      (lprint_c u L x h1 hL.out hok.out (fun y hy => hT y (h0.trans (.of_below hy)))).mono fun e w' ⟨he, hB⟩ => ⟨he, .of_below hB⟩
    have hrp : ∀ x u, SlR wordR x u L → Calls Tryd.prog 9 #[u] x fun e w' => e = .returned (.string (jn (L.map wtx))) ∧ GoX.Calm x w' := fun x u h1 =>
      (lrprint_c u L x h1 hL.out hok.out).mono fun e w' ⟨he, hB⟩ => ⟨he, .of_below hB⟩
    have hwd : ∀ x, GoX.Calm w x → Calls Tryd.prog 8 #[.string (jn (L.map wtx))] x fun e w' => ∃ v, e = .returned (.tuple #[v, .int .i64 0, .int .i64 0]) ∧ Hid (SlR wordR w' v (place L 0)) ∧ GoX.Calm x w' := fun x h0 =>
      (words_c (jn (L.map wtx)) x (by omega) (hsig x h0)).mono fun e w' ⟨v, he, h1, hB⟩ => by
        rw [hag] at he h1
        exact ⟨v, he, h1, .of_below hB⟩
    have hwl := place_wall L 0
    have hpl := place_len L 0
    have hsm : ∀ x u v, SlR wordR x u (place L 0) → SlR wordR x v L → Calls Tryd.prog 11 #[u, v] x fun e w' => e = .returned (.bool true) ∧ GoX.Calm x w' := fun x u v h1 h2 =>
      (lsame_c u v _ L x h1 h2 (by omega)).mono fun e w' ⟨he, hB⟩ => ⟨by rw [he, hwl], .of_below hB⟩
    have hrs : ∀ x u v, SlR wordR x u (place L 0) → SlR wordR x v L → Calls Tryd.prog 10 #[u, v] x fun e w' => e = .returned (.bool true) ∧ GoX.Calm x w' := fun x u v h1 h2 =>
      (rlsame_c u v _ L x h1 h2 (by omega)).mono fun e w' ⟨he, hB⟩ => ⟨by rw [he, hwl], .of_below hB⟩
    clear hwl hpl hag hts hT hsig hgw
    generalize place L 0 = PL at *
    generalize jn (L.map wtx) = T at *
    have hTT : (T.toList == T.toList) = true := by simp
    go_enter Tryd.func3, Tryd.ntmps3
    go_wp2_with fail
    refine (hc _).mono ?_
    rintro e w' ⟨rfl, rfl⟩
    clear hc
    go_wp2_with fail
    refine h1.mono ?_
    rintro e w1 ⟨v, rfl, hU, hB1⟩
    have k1 : Hid (GoX.Calm w' w1) := .of_below hB1
    obtain ⟨a1, c1, rfl, -, -, hoff, hrow⟩ := id hU
    replace hU := hidden hU
    clear h1 hB1
    have hown0 : (w1.alloc (.cells #[] 35)).ownsRow w1.heap.size 35 6 (.slice (some ⟨w1.heap.size, 0, none⟩) 0 0) 0 [] := World.ownsRow_made w1 #[] 0 (Nat.le_refl _) (by unfold maxLen; omega) rfl
    have hBA : Hid (Below w1.heap.size w1 (w1.alloc (.cells #[] 35))) := (Below.refl _ _).alloc (Nat.le_refl _) _
    replace hown0 := hidden hown0
    have hLm := hL.out
    generalize hLL : L.length = LL at *
    replace hLL := hidden hLL
    rcases a1 with _ | ⟨b, o, oo⟩
    · have hL0 : L = [] := by
        rcases hrow with h0 | ⟨b, off, h0, _⟩
        · have h9 := congrArg List.length h0
          rw [Rec.flat_len, show wordR.n = 6 from rfl] at h9
          simp only [List.length_nil] at h9
          exact List.length_eq_zero_iff.1 (by omega)
        · cases h0
      have hLL0 : LL = 0 := by rw [← hLL.out, hL0]; rfl
      have hc10 : c1 = 0 := by
        obtain ⟨a', c', he, _, hn, _⟩ := hU.out
        simp only [Value.slice.injEq] at he
        obtain ⟨rfl, _, rfl⟩ := he
        exact hn rfl
      subst hLL0 hc10
      replace hL0 := hidden hL0
      go_wp2_with (at_builtin; go_loud (refine wpList_append_own_none rfl _ _ 23 rfl w1.heap.size 35 i0 6 Tryd.underlying23 hi _ _ _ rfl hown0.out rfl ?_))
      obtain ⟨x6, hx6⟩ : ∃ x6, Hid (x6 = w1.alloc (.cells #[] 35)) := ⟨_, (rfl : _ = _)⟩
      have hS : Hid (SlR wordR x6 (.slice (some ⟨w1.heap.size, 0, none⟩) 0 0) L) := by
        show SlR _ _ _ _
        rw [hx6.out, hL0.out]
        exact slR_of_owns (R := wordR) (ps := []) hown0.out
      have k6 : Hid (GoX.Calm w' x6) := by
        show GoX.Calm _ _
        rw [hx6.out]
        exact k1.out.trans (.of_below hBA.out)
      have hU6 : Hid (SlR wordR x6 (.slice none 0 0) L) := by
        show SlR _ _ _ _
        rw [hx6.out]
        exact hU.out.below hBA.out
      rw [← hx6.out]
      clear hx6 hown0 hBA k1 hU hrow hoff
      have h2 := hpr x6 _ k6.out hS.out
      clear hpr hS
      go_wp2_with fail
      refine h2.mono ?_
      rintro e w2 ⟨rfl, hD⟩
      have k2 : Hid (GoX.Calm w' w2) := k6.out.trans hD
      have hU2 : Hid (SlR wordR w2 (.slice none 0 0) L) := hU6.out.calm hD
      have h3 := hwd w2 k2.out
      clear hD k6 h2 hU6 hwd
      go_wp2_with fail
      refine h3.mono ?_
      rintro e w3 ⟨v3, rfl, hV, hD⟩
      have k3 : Hid (GoX.Calm w' w3) := k2.out.trans hD
      have hU3 : Hid (SlR wordR w3 (.slice none 0 0) L) := hU2.out.calm hD
      obtain ⟨a3, c3, rfl, -⟩ := id hV.out
      have h4 := hrp w3 _ hU3.out
      clear hD k2 h3 hU2 hrp
      go_wp2_with fail
      refine h4.mono ?_
      rintro e w4 ⟨rfl, hD⟩
      have k4 : Hid (GoX.Calm w' w4) := k3.out.trans hD
      have hU4 : Hid (SlR wordR w4 (.slice none 0 0) L) := hU3.out.calm hD
      have hV4 := hidden (hV.out.calm hD)
      have h5 := hrs w4 _ _ hV4.out hU4.out
      clear hD k3 h4 hU3 hV hrs
      go_wp2_with fail
      refine h5.mono ?_
      rintro e w5 ⟨rfl, hD⟩
      have k5 : Hid (GoX.Calm w' w5) := k4.out.trans hD
      have h6 := hsm w5 _ _ (hV4.out.calm hD) (hU4.out.calm hD)
      clear hD k4 h5 hU4 hV4 hsm
      go_wp2_with fail
      refine h6.mono ?_
      rintro e w7 ⟨rfl, hD⟩
      have k7 : Hid (GoX.Calm w' w7) := k5.out.trans hD
      have h7 := hlv w7 k7.out
      clear hD k5 h6 hlv
      go_wp2_with fail
      refine h7.mono ?_
      rintro e w8 ⟨rfl, hD⟩
      have k8 := hidden (k7.out.trans hD)
      clear hD k7 h7
      go_wp2
      go_ret
      exact ⟨rfl, k8.out⟩
    · have hoo : oo = none := hoff _ rfl
      subst hoo
      have hcs : ∀ j u, (wordR.flat L)[j]? = some u → (w1.alloc (.cells #[] 35)).cell? ((⟨b, o, none⟩ : Addr).add j) = some u := fun j u hj => by
        rcases hrow with h0 | ⟨b', off, h0, hb, hcc⟩
        · rw [h0] at hj; cases hj
        · simp only [Option.some.injEq, Addr.mk.injEq] at h0
          obtain ⟨rfl, rfl, -⟩ := h0
          rw [add_plain]
          exact (hBA.out.cell (p := ⟨b, o + j, none⟩) (by exact hb)).trans (hcc j u hj)
      replace hcs := hidden hcs
      go_wp2_with (at_builtin; go_loud (refine wpList_append_own _ rfl _ _ 23 rfl w1.heap.size 35 i0 (.agg #[.int .i64 0, .string ⟨#[]⟩, .int .i64 0, .int .i64 0, .string ⟨#[]⟩, .int .i64 0]) 6 64 Tryd.underlying23 hi hz0 hz1 hz2 rfl (by decide) _ _ _ rfl hown0.out ⟨b, o, none⟩ LL c1 (wordR.flat L) rfl (by rw [Rec.flat_len, hLL.out]; rfl) hcs.out (Rec.flat_one_cell _) (by unfold maxLen; omega) (by omega) hBA.out.size ?_); intro v' x6 hown6 hgrow6 _; obtain ⟨a9, c9, rfl⟩ := own_len hown6)
      have hB6 := hBA.out.grown hgrow6 hBA.out.size (fun j hj => (hown0.out.lt j hj).1)
      have hS : Hid (SlR wordR x6 (.slice a9 LL c9) L) := by
        show SlR _ _ _ _
        rw [List.nil_append, Nat.zero_add, ← hLL.out] at hown6
        have h9 := slR_of_owns hown6
        rwa [hLL.out] at h9
      have k6 : Hid (GoX.Calm w' x6) := k1.out.trans (.of_below hB6)
      have hU6 : Hid (SlR wordR x6 (.slice (some ⟨b, o, none⟩) LL c1) L) := hU.out.below hB6
      clear hown6 hgrow6 hB6 hcs hown0 hBA k1 hU hrow hoff
      have h2 := hpr x6 _ k6.out hS.out
      clear hpr hS
      go_wp2_with fail
      refine h2.mono ?_
      rintro e w2 ⟨rfl, hD⟩
      have k2 : Hid (GoX.Calm w' w2) := k6.out.trans hD
      have hU2 : Hid (SlR wordR w2 (.slice (some ⟨b, o, none⟩) LL c1) L) := hU6.out.calm hD
      have h3 := hwd w2 k2.out
      clear hD k6 h2 hU6 hwd
      go_wp2_with fail
      refine h3.mono ?_
      rintro e w3 ⟨v3, rfl, hV, hD⟩
      have k3 : Hid (GoX.Calm w' w3) := k2.out.trans hD
      have hU3 : Hid (SlR wordR w3 (.slice (some ⟨b, o, none⟩) LL c1) L) := hU2.out.calm hD
      obtain ⟨a3, c3, rfl, -⟩ := id hV.out
      have h4 := hrp w3 _ hU3.out
      clear hD k2 h3 hU2 hrp
      go_wp2_with fail
      refine h4.mono ?_
      rintro e w4 ⟨rfl, hD⟩
      have k4 : Hid (GoX.Calm w' w4) := k3.out.trans hD
      have hU4 : Hid (SlR wordR w4 (.slice (some ⟨b, o, none⟩) LL c1) L) := hU3.out.calm hD
      have hV4 := hidden (hV.out.calm hD)
      have h5 := hrs w4 _ _ hV4.out hU4.out
      clear hD k3 h4 hU3 hV hrs
      go_wp2_with fail
      refine h5.mono ?_
      rintro e w5 ⟨rfl, hD⟩
      have k5 : Hid (GoX.Calm w' w5) := k4.out.trans hD
      have h6 := hsm w5 _ _ (hV4.out.calm hD) (hU4.out.calm hD)
      clear hD k4 h5 hU4 hV4 hsm
      go_wp2_with fail
      refine h6.mono ?_
      rintro e w7 ⟨rfl, hD⟩
      have k7 : Hid (GoX.Calm w' w7) := k5.out.trans hD
      have h7 := hlv w7 k7.out
      clear hD k5 h6 hlv
      go_wp2_with fail
      refine h7.mono ?_
      rintro e w8 ⟨rfl, hD⟩
      have k8 := hidden (k7.out.trans hD)
      clear hD k7 h7
      go_wp2
      go_ret
      exact ⟨rfl, k8.out⟩
  · have hq2 : (q != 0) = true := by simp [hq]
    clear hag hts hgw hT hsig
    go_enter Tryd.func3, Tryd.ntmps3
    go_wp2_with fail
    refine (hc _).mono ?_
    rintro e w' ⟨rfl, rfl⟩
    clear hc
    go_wp2_with fail
    refine h1.mono ?_
    rintro e w1 ⟨v, rfl, hU, hB1⟩
    have k1 : Hid (GoX.Calm w' w1) := .of_below hB1
    obtain ⟨a1, c1, rfl, -⟩ := id hU
    have h2 := hlv w1 k1.out
    clear h1 hB1 hU hlv
    go_wp2_with fail
    refine h2.mono ?_
    rintro e w2 ⟨rfl, hD⟩
    have k2 := hidden (k1.out.trans hD)
    clear h2 hD
    go_wp2
    go_ret
    exact ⟨rfl, k2.out⟩
end Go.Proofs.YtddmdieeljjamaaDoor
