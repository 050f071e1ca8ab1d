/-
  WHETHER A MARK IS GOOD: the program's and the reference's, by contract.
-/
import Derived.Test.YtcdkpeikjnpmhaaGreatMark
namespace Go.Proofs.YtcdkpeikjnpmhaaGreat
open Go.ChangeShapes Go.WideShapes Go.ChangeAt Go.RowKit

def badZ (z : Int) : Bool := decide (z < 0) || decide (10000 ≤ z)
def goodM (m : Mk) : Bool :=
  if 0 < m.items.length ∨ m.told < 0 ∨ 9007199254740992 < m.told ∨ 12 < m.nodes.length then false
  else if m.nodes.any badZ then false else if m.nodes.length = 0 then m.rest == 0 else !m.over
/-- A mark's value, its rows' slices told. -/
def mkS (m : Mk) (na : Option Addr) (nc : Nat) (ia : Option Addr) (ic : Nat) : Value := .agg #[.int .i64 m.told, .bool m.over, .slice na m.nodes.length nc, .int .u64 m.rest, .slice ia m.items.length ic]
theorem row_cell {w : World} {na : Option Addr} {nc n : Nat} {zs : List Int} (h : Holds w (.slice na n nc) (zs.map (Value.int .i64))) {k : Nat} (hk : k < zs.length) :
    ∃ b o, na = some ⟨b, o, none⟩ ∧ b < w.heap.size ∧ w.cell? ⟨b, o + k, none⟩ = some (.int .i64 (zs.getD k 0)) := by
  obtain ⟨a, c, e, hr⟩ := h
  injection e with e1 _ _
  subst e1
  rcases hr with h0 | ⟨b, o, rfl, hb, hc⟩
  · simp only [List.map_eq_nil_iff] at h0; subst h0; simp at hk
  · exact ⟨b, o, rfl, hb, hc k _ (by simp [hk])⟩
theorem g1_c (z : Int) (w : World) : Calls Tryz.prog 17 #[.int .i64 z] w fun e w' => e = .returned (.bool (badZ z)) ∧ w' = w := by
  unfold badZ
  by_cases h1 : z < 0
  · go_enter Tryz.func17, Tryz.ntmps17
    go_wp2
    go_ret
    exact ⟨by simp [h1], rfl⟩
  · go_enter Tryz.func17, Tryz.ntmps17
    go_wp2
    go_ret
    exact ⟨by simp; omega, rfl⟩
theorem any_step {zs : List Int} {k : Nat} (hk : k < zs.length) (h : (zs.take k).any badZ = false) (hz : badZ (zs.getD k 0) = false) : (zs.take (k + 1)).any badZ = false := by
  rw [List.take_add_one, List.getElem?_eq_getElem hk, Option.toList_some, List.any_append, h]
  simp [List.getD, hk] at hz
  simp [hz]
theorem any_yes {zs : List Int} {k : Nat} (hk : k < zs.length) (hz : badZ (zs.getD k 0) = true) : zs.any badZ = true := by
  rw [List.any_eq_true]
  exact ⟨zs[k], List.getElem_mem hk, by simpa [List.getD, hk] using hz⟩
theorem any_end {zs : List Int} {k : Nat} (hk : zs.length ≤ k) (h : (zs.take k).any badZ = false) : zs.any badZ = false := by
  rwa [List.take_of_length_le hk] at h
set_option maxHeartbeats 800000 in
theorem idx_c (na : Option Addr) (nc : Nat) (zs : List Int) (w : World) (hz : zs.length ≤ 17592186044416) (hv : Holds w (.slice na zs.length nc) (zs.map (Value.int .i64))) :
    Calls Tryz.prog 25 #[.slice na zs.length nc, .func (.func 17) #[] #[]] w fun e w' => ∃ n : Int, e = .returned (.int .i64 n) ∧ decide (0 ≤ n) = zs.any badZ ∧ w' = w := by
  replace hv := hidden hv
  go_enter Tryz.func25, Tryz.ntmps25
  go_wp2
  go_loop [5, 8] (fun _ i => ∃ k : Nat, k ≤ zs.length ∧ i = .int .i64 k ∧ Hid ((zs.take k).any badZ = false)) (fun _ i => zs.length - (intOf i).toNat)
  case atStart => exact ⟨0, Nat.zero_le _, rfl, rfl⟩
  case round =>
    obtain ⟨k, hk, rfl, ht⟩ := hrel
    by_cases hlt : k < zs.length
    · obtain ⟨b, o, rfl, _, hc⟩ := row_cell hv.out hlt
      have hno := hidden fun h => any_step hlt ht.out h
      have hyes := hidden fun h => any_yes (zs := zs) hlt h
      generalize zs.getD k 0 = z at *
      have hcall := fun w => g1_c z w
      generalize badZ z = t at *
      have hj1 : (k : Int) < (zs.length : Int) := by omega
      go_wp2_with fail
      refine (hcall _).mono ?_
      rintro e w1 ⟨rfl, rfl⟩
      cases t with
      | true =>
        have ha := hidden (hyes.out rfl)
        clear hyes hno
        go_wp2
        go_ret
        exact ⟨(k : Int), rfl, by rw [ha.out]; simp, rfl⟩
      | false =>
        have ha := hidden (hno.out rfl)
        clear hyes hno ht
        go_wp2
        go_round
        case rel => exact ⟨k + 1, by omega, by go_num, ha⟩
        case measure => simp [intOf]; omega
    · have ha := hidden (any_end (by omega) ht.out)
      clear ht
      go_wp2
      go_ret
      exact ⟨-1, rfl, by rw [ha.out]; simp, rfl⟩
theorem has_c (na : Option Addr) (nc : Nat) (zs : List Int) (w : World) (hz : zs.length ≤ 17592186044416) (hv : Holds w (.slice na zs.length nc) (zs.map (Value.int .i64))) :
    Calls Tryz.prog 16 #[.slice na zs.length nc, .func (.func 17) #[] #[]] w fun e w' => e = .returned (.bool (zs.any badZ)) ∧ w' = w := by
  have hcall := idx_c na nc zs w hz hv
  clear hv hz
  go_enter Tryz.func16, Tryz.ntmps16
  go_wp2_with fail
  refine hcall.mono ?_
  rintro e w1 ⟨n, rfl, hn, rfl⟩
  replace hn := hidden hn
  go_wp2
  go_ret
  exact ⟨by rw [← hn.out]; first | done | rfl, rfl⟩
set_option maxHeartbeats 1600000 in
theorem cgood_c (m : Mk) (na : Option Addr) (nc : Nat) (ia : Option Addr) (ic : Nat) (w : World) (hz : m.nodes.length ≤ 17592186044416) (hv : Holds w (.slice na m.nodes.length nc) (m.nodes.map (Value.int .i64))) :
    Calls Tryz.prog 6 #[mkS m na nc ia ic] w fun e w' => e = .returned (.bool (goodM m)) ∧ Below w.heap.size w w' := by
  have hX0 := hidden (heap_alloc_new w (.cells #[.int .i64 m.told, .bool m.over, .slice na m.nodes.length nc, .int .u64 m.rest, .slice ia m.items.length ic] 26))
  have hB0 : Hid (Below w.heap.size w (w.alloc (.cells #[.int .i64 m.told, .bool m.over, .slice na m.nodes.length nc, .int .u64 m.rest, .slice ia m.items.length ic] 26))) := (Below.refl _ _).alloc (Nat.le_refl _) _
  obtain ⟨⟨b0, b1, b2, b3, b4⟩, -⟩ := box5f hX0.out
  have hcall := has_c na nc m.nodes _ hz (hv.below hB0.out)
  have hg : Hid (goodM m = _) := hidden (show goodM m = if 0 < m.items.length ∨ m.told < 0 ∨ 9007199254740992 < m.told ∨ 12 < m.nodes.length then false else if m.nodes.any badZ then false else if m.nodes.length = 0 then m.rest == 0 else !m.over from rfl)
  unfold mkS
  generalize m.nodes.any badZ = t at *
  clear hX0
  by_cases h1 : 0 < m.items.length
  · have e : Hid (goodM m = false) := hg.out.trans (if_pos (.inl h1))
    have hj : (0 : Int) < (m.items.length : Int) := by omega
    clear hg hcall
    go_enter Tryz.func6, Tryz.ntmps6
    go_wp2
    go_ret
    exact ⟨by rw [e.out]; first | done | rfl, hB0.out⟩
  have h0 : m.items.length = 0 := by omega
  rw [h0] at hB0 b0 b1 b2 b3 b4 hcall ⊢
  replace h1 := hidden h1
  replace h0 := hidden h0
  by_cases h2 : m.told < 0
  · have e : Hid (goodM m = false) := hg.out.trans (if_pos (.inr (.inl h2)))
    clear hg hcall h1
    go_enter Tryz.func6, Tryz.ntmps6
    go_wp2
    go_ret
    exact ⟨by rw [e.out]; first | done | rfl, hB0.out⟩
  by_cases h3 : 9007199254740992 < m.told
  · have e : Hid (goodM m = false) := hg.out.trans (if_pos (.inr (.inr (.inl h3))))
    clear hg hcall h1
    go_enter Tryz.func6, Tryz.ntmps6
    go_wp2
    go_ret
    exact ⟨by rw [e.out]; first | done | rfl, hB0.out⟩
  by_cases h4 : 12 < m.nodes.length
  · have e : Hid (goodM m = false) := hg.out.trans (if_pos (.inr (.inr (.inr h4))))
    have hj4 : (12 : Int) < (m.nodes.length : Int) := by omega
    clear hg hcall h1
    go_enter Tryz.func6, Tryz.ntmps6
    go_wp2
    go_ret
    exact ⟨by rw [e.out]; first | done | rfl, hB0.out⟩
  have hj4 : ¬ (12 : Int) < (m.nodes.length : Int) := by omega
  replace hg : Hid (goodM m = if t then false else if m.nodes.length = 0 then m.rest == 0 else !m.over) := hg.out.trans (if_neg (by rintro (h | h | h | h); exact h1.out h; all_goals contradiction))
  clear h1
  go_enter Tryz.func6, Tryz.ntmps6
  go_wp2_with fail
  refine hcall.mono ?_
  rintro e w1 ⟨rfl, rfl⟩
  clear hcall
  cases t with
  | true =>
    have e : Hid (goodM m = false) := hg.out
    clear hg
    go_wp2
    go_ret
    exact ⟨by rw [e.out]; first | done | rfl, hB0.out⟩
  | false =>
    by_cases h5 : m.nodes.length = 0
    · have e : Hid (goodM m = (m.rest == 0)) := hg.out.trans (if_pos h5)
      have hj5 : ((m.nodes.length : Int) == 0) = true := by simp [h5]
      replace h5 := hidden h5
      clear hg
      go_wp2
      go_ret
      exact ⟨by rw [e.out]; first | done | rfl, hB0.out⟩
    · have e : Hid (goodM m = !m.over) := hg.out.trans (if_neg h5)
      have hj5 : ((m.nodes.length : Int) == 0) = false := beq_eq_false_iff_ne.2 (by omega)
      replace h5 := hidden h5
      clear hg
      go_wp2
      go_ret
      exact ⟨by rw [e.out]; first | done | rfl, hB0.out⟩

theorem any_no {zs : List Int} (h : zs.any badZ = false) {k : Nat} (hk : k < zs.length) : badZ (zs.getD k 0) = false := by
  cases e : badZ (zs.getD k 0) with
  | false => rfl
  | true => rw [any_yes hk e] at h; cases h
theorem goodM_row {m : Mk} (h : m.nodes.any badZ = true) : goodM m = false := by
  unfold goodM
  by_cases h1 : 0 < m.items.length ∨ m.told < 0 ∨ 9007199254740992 < m.told ∨ 12 < m.nodes.length
  · rw [if_pos h1]
  · rw [if_neg h1, if_pos h]
theorem goodM_none {m : Mk} (h : m.nodes.length = 0) (hr : ¬ m.rest = 0) : goodM m = false := by
  unfold goodM
  by_cases h1 : 0 < m.items.length ∨ m.told < 0 ∨ 9007199254740992 < m.told ∨ 12 < m.nodes.length
  · rw [if_pos h1]
  · rw [if_neg h1]
    by_cases h2 : m.nodes.any badZ = true
    · rw [if_pos h2]
    · rw [if_neg h2, if_pos h]; simpa using hr
theorem goodM_over {m : Mk} (h : ¬ m.nodes.length = 0) (hr : m.over = true) : goodM m = false := by
  unfold goodM
  by_cases h1 : 0 < m.items.length ∨ m.told < 0 ∨ 9007199254740992 < m.told ∨ 12 < m.nodes.length
  · rw [if_pos h1]
  · rw [if_neg h1]
    by_cases h2 : m.nodes.any badZ = true
    · rw [if_pos h2]
    · rw [if_neg h2, if_neg h, hr]; rfl
theorem goodM_rest {m : Mk} (h : m.nodes.any badZ = false) (h1 : m.nodes.length = 0 → m.rest = 0) (h2 : ¬ m.nodes.length = 0 → m.over = false) :
    goodM m = (decide (m.items.length = 0) && decide (0 ≤ m.told) && decide (m.told ≤ 9007199254740992) && decide (m.nodes.length < 13)) := by
  unfold goodM
  by_cases h3 : 0 < m.items.length ∨ m.told < 0 ∨ 9007199254740992 < m.told ∨ 12 < m.nodes.length
  · rw [if_pos h3]
    rcases h3 with h3 | h3 | h3 | h3
    · simp [show ¬ m.items.length = 0 by omega]
    · simp [show ¬ 0 ≤ m.told by omega]
    · simp [show ¬ m.told ≤ 9007199254740992 by omega]
    · simp [show ¬ m.nodes.length < 13 by omega]
  · rw [if_neg h3, if_neg (by rw [h]; simp)]
    have e : (decide (m.items.length = 0) && decide (0 ≤ m.told) && decide (m.told ≤ 9007199254740992) && decide (m.nodes.length < 13)) = true := by
      simp only [Bool.and_eq_true, decide_eq_true_eq]
      omega
    rw [e]
    by_cases h4 : m.nodes.length = 0
    · rw [if_pos h4, h1 h4]; rfl
    · rw [if_neg h4, h2 h4]; rfl
set_option maxHeartbeats 1600000 in
theorem rgood_c (m : Mk) (na : Option Addr) (nc : Nat) (ia : Option Addr) (ic : Nat) (w : World) (hz : m.nodes.length ≤ 17592186044416) (hr0 : 0 ≤ m.rest) (hv : Holds w (.slice na m.nodes.length nc) (m.nodes.map (Value.int .i64))) :
    Calls Tryz.prog 7 #[mkS m na nc ia ic] w fun e w' => e = .returned (.bool (goodM m)) ∧ Below w.heap.size w w' := by
  have hX0 := hidden (heap_alloc_new w (.cells #[.int .i64 m.told, .bool m.over, .slice na m.nodes.length nc, .int .u64 m.rest, .slice ia m.items.length ic] 26))
  have hB0 : Hid (Below w.heap.size w (w.alloc (.cells #[.int .i64 m.told, .bool m.over, .slice na m.nodes.length nc, .int .u64 m.rest, .slice ia m.items.length ic] 26))) := (Below.refl _ _).alloc (Nat.le_refl _) _
  obtain ⟨⟨b0, b1, b2, b3, b4⟩, -⟩ := box5f hX0.out
  have hv2 := hidden (hv.below hB0.out)
  unfold mkS
  clear hX0 hv
  generalize hwe : w.alloc (.cells #[.int .i64 m.told, .bool m.over, .slice na m.nodes.length nc, .int .u64 m.rest, .slice ia m.items.length ic] 26) = wx at *
  replace hwe := hidden hwe
  go_enter Tryz.func7, Tryz.ntmps7
  go_wp2_with fail
  rw [hwe.out]
  go_wp2
  go_loop [3] (fun i => ∃ k : Nat, k ≤ m.nodes.length ∧ i = .int .i64 k ∧ Hid ((m.nodes.take k).any badZ = false)) (fun i => m.nodes.length - (intOf i).toNat)
  case atStart => exact ⟨0, Nat.zero_le _, rfl, rfl⟩
  case round =>
    obtain ⟨k, hk, rfl, ht⟩ := hrel
    by_cases hlt : k < m.nodes.length
    · obtain ⟨b, o, rfl, _, hc⟩ := row_cell hv2.out hlt
      have hno := hidden fun h => any_step hlt ht.out h
      have hyes := hidden fun h => goodM_row (any_yes (zs := m.nodes) hlt h)
      generalize m.nodes.getD k 0 = z at *
      have hj1 : (k : Int) < (m.nodes.length : Int) := by omega
      by_cases h1 : z < 0
      · have ha := hidden (hyes.out (by simp [badZ, h1]))
        clear hyes hno
        go_wp2
        go_ret
        exact ⟨by rw [ha.out]; first | done | rfl, hB0.out⟩
      · by_cases h2 : 9999 < z
        · have ha := hidden (hyes.out (by simp [badZ]; omega))
          clear hyes hno
          go_wp2
          go_ret
          exact ⟨by rw [ha.out]; first | done | rfl, hB0.out⟩
        · have ha := hidden (hno.out (by simp [badZ]; omega))
          clear hyes hno ht
          go_wp2
          go_round
          case rel => exact ⟨k + 1, by omega, by go_num, ha⟩
          case measure => simp [intOf]; omega
    · have hj1 : ¬ (k : Int) < (m.nodes.length : Int) := by omega
      have ha := hidden (any_end (by omega) ht.out)
      clear ht
      by_cases h5 : m.nodes.length = 0
      · have hj5 : ((m.nodes.length : Int) == 0) = true := by simp [h5]
        have hj6 : ¬ (0 : Int) < (m.nodes.length : Int) := by omega
        by_cases h6 : m.rest = 0
        · have hj7 : ¬ (0 : Int) < m.rest := by omega
          have hA : m.nodes.length = 0 → m.rest = 0 := fun _ => h6
          have hB : ¬ m.nodes.length = 0 → m.over = false := fun h => absurd h5 h
          replace h5 := hidden h5
          replace h6 := hidden h6
          replace hj6 : Hid _ := hidden hj6
          have hj8 : decide ((0 : Int) < (m.nodes.length : Int)) = false := decide_eq_false hj6.out
          cases ho : m.over with
          | true =>
            rw [ho] at b1
            replace ho := hidden ho
            have hj9 : ¬ (0 : Int) < (m.nodes.length : Int) := hj6.out
            have hR := hidden (goodM_rest ha.out hA hB)
            clear hA hB
            by_cases f1 : m.items.length = 0
            · have g1 : ((m.items.length : Int) == 0) = true := by simp [f1]
              replace f1 := hidden f1
              by_cases f2 : 0 ≤ m.told
              · by_cases f3 : m.told ≤ 9007199254740992
                · have e : Hid (goodM m = decide ((m.nodes.length : Int) < 13)) := by
                    refine hR.out.trans ?_
                    rw [decide_eq_true f1.out, decide_eq_true f2, decide_eq_true f3]
                    simp only [Bool.true_and, decide_eq_decide]
                    omega
                  clear hR
                  have e : Hid (goodM m = true) := e.out.trans (by rw [show m.nodes.length = 0 from h5.out]; rfl)
                  go_wp2
                  go_ret
                  exact ⟨by rw [e.out]; first | done | rfl | (simp [h5.out]), hB0.out⟩
                · have e : Hid (goodM m = false) := hR.out.trans (by rw [decide_eq_false f3]; simp)
                  clear hR
                  go_wp2
                  go_ret
                  exact ⟨by rw [e.out]; first | done | rfl, hB0.out⟩
              · have e : Hid (goodM m = false) := hR.out.trans (by rw [decide_eq_false f2]; simp)
                clear hR
                go_wp2
                go_ret
                exact ⟨by rw [e.out]; first | done | rfl, hB0.out⟩
            · have g1 : ((m.items.length : Int) == 0) = false := beq_eq_false_iff_ne.2 (by omega)
              have e : Hid (goodM m = false) := hR.out.trans (by rw [decide_eq_false f1]; simp)
              replace f1 := hidden f1
              clear hR
              go_wp2
              go_ret
              exact ⟨by rw [e.out]; first | done | rfl, hB0.out⟩
          | false =>
            rw [ho] at b1
            replace ho := hidden ho
            have hR := hidden (goodM_rest ha.out hA hB)
            clear hA hB
            by_cases f1 : m.items.length = 0
            · have g1 : ((m.items.length : Int) == 0) = true := by simp [f1]
              replace f1 := hidden f1
              by_cases f2 : 0 ≤ m.told
              · by_cases f3 : m.told ≤ 9007199254740992
                · have e : Hid (goodM m = decide ((m.nodes.length : Int) < 13)) := by
                    refine hR.out.trans ?_
                    rw [decide_eq_true f1.out, decide_eq_true f2, decide_eq_true f3]
                    simp only [Bool.true_and, decide_eq_decide]
                    omega
                  clear hR
                  go_wp2
                  go_ret
                  exact ⟨by rw [e.out]; first | done | rfl, hB0.out⟩
                · have e : Hid (goodM m = false) := hR.out.trans (by rw [decide_eq_false f3]; simp)
                  clear hR
                  go_wp2
                  go_ret
                  exact ⟨by rw [e.out]; first | done | rfl, hB0.out⟩
              · have e : Hid (goodM m = false) := hR.out.trans (by rw [decide_eq_false f2]; simp)
                clear hR
                go_wp2
                go_ret
                exact ⟨by rw [e.out]; first | done | rfl, hB0.out⟩
            · have g1 : ((m.items.length : Int) == 0) = false := beq_eq_false_iff_ne.2 (by omega)
              have e : Hid (goodM m = false) := hR.out.trans (by rw [decide_eq_false f1]; simp)
              replace f1 := hidden f1
              clear hR
              go_wp2
              go_ret
              exact ⟨by rw [e.out]; first | done | rfl, hB0.out⟩
        · have hj7 : (0 : Int) < m.rest := by omega
          have e := hidden (goodM_none h5 h6)
          clear h5 h6 hj6
          go_wp2
          go_ret
          exact ⟨by rw [e.out]; first | done | rfl, hB0.out⟩
      · have hj5 : ((m.nodes.length : Int) == 0) = false := beq_eq_false_iff_ne.2 (by omega)
        have hj6 : (0 : Int) < (m.nodes.length : Int) := by omega
        cases ho : m.over with
        | true =>
          have e := hidden (goodM_over h5 ho)
          rw [ho] at b1
          replace ho := hidden ho
          clear h5
          go_wp2
          go_ret
          exact ⟨by rw [e.out]; first | done | rfl, hB0.out⟩
        | false =>
          rw [ho] at b1
          have hA : m.nodes.length = 0 → m.rest = 0 := fun h => absurd h h5
          have hB : ¬ m.nodes.length = 0 → m.over = false := fun _ => ho
          replace ho := hidden ho
          replace h5 := hidden h5
          have hR := hidden (goodM_rest ha.out hA hB)
          clear hA hB
          by_cases f1 : m.items.length = 0
          · have g1 : ((m.items.length : Int) == 0) = true := by simp [f1]
            replace f1 := hidden f1
            by_cases f2 : 0 ≤ m.told
            · by_cases f3 : m.told ≤ 9007199254740992
              · have e : Hid (goodM m = decide ((m.nodes.length : Int) < 13)) := by
                  refine hR.out.trans ?_
                  rw [decide_eq_true f1.out, decide_eq_true f2, decide_eq_true f3]
                  simp only [Bool.true_and, decide_eq_decide]
                  omega
                clear hR
                go_wp2
                go_ret
                exact ⟨by rw [e.out]; first | done | rfl, hB0.out⟩
              · have e : Hid (goodM m = false) := hR.out.trans (by rw [decide_eq_false f3]; simp)
                clear hR
                go_wp2
                go_ret
                exact ⟨by rw [e.out]; first | done | rfl, hB0.out⟩
            · have e : Hid (goodM m = false) := hR.out.trans (by rw [decide_eq_false f2]; simp)
              clear hR
              go_wp2
              go_ret
              exact ⟨by rw [e.out]; first | done | rfl, hB0.out⟩
          · have g1 : ((m.items.length : Int) == 0) = false := beq_eq_false_iff_ne.2 (by omega)
            have e : Hid (goodM m = false) := hR.out.trans (by rw [decide_eq_false f1]; simp)
            replace f1 := hidden f1
            clear hR
            go_wp2
            go_ret
            exact ⟨by rw [e.out]; first | done | rfl, hB0.out⟩
end Go.Proofs.YtcdkpeikjnpmhaaGreat
/-
  WHETHER TWO MARKS ARE ONE: the reference's, by contract.
-/
namespace Go.Proofs.YtcdkpeikjnpmhaaGreat
open Go.ChangeShapes Go.WideShapes Go.ChangeAt Go.RowKit

def sameM (m o : Mk) : Bool := decide (m.told = o.told) && (decide (m.over = o.over) && (decide (m.rest = o.rest) && decide (m.nodes = o.nodes)))
theorem rsamem_end {xs ys : List Int} (k : Nat) (hl : xs.length = ys.length) (ht : xs.take k = ys.take k) (hk : xs.length ≤ k) : decide (xs = ys) = true := by
  rw [decide_eq_true_eq]
  rwa [List.take_of_length_le hk, List.take_of_length_le (by omega)] at ht
theorem rsamem_part {xs ys : List Int} (k : Nat) (h : xs.getD k 0 ≠ ys.getD k 0) : decide (xs = ys) = false := decide_eq_false fun e => h (by rw [e])
set_option maxHeartbeats 1600000 in
set_option maxRecDepth 20000 in
theorem rsamem_c (m o : Mk) (na nb : Option Addr) (nc nd : Nat) (ia ib : Option Addr) (ic id : Nat) (w : World) (hz : m.nodes.length ≤ 17592186044416) (_hz2 : o.nodes.length ≤ 17592186044416)
    (hv : Holds w (.slice na m.nodes.length nc) (m.nodes.map (Value.int .i64))) (hu : Holds w (.slice nb o.nodes.length nd) (o.nodes.map (Value.int .i64))) :
    Calls Tryz.prog 9 #[mkS m na nc ia ic, mkS o nb nd ib id] w fun e w' => e = .returned (.bool (sameM m o)) ∧ Below w.heap.size w w' := by
  have hX0 := hidden (heap2_old w (.cells #[.int .i64 m.told, .bool m.over, .slice na m.nodes.length nc, .int .u64 m.rest, .slice ia m.items.length ic] 26) (.cells #[.int .i64 o.told, .bool o.over, .slice nb o.nodes.length nd, .int .u64 o.rest, .slice ib o.items.length id] 26))
  have hX1 := hidden (heap2_new w (.cells #[.int .i64 m.told, .bool m.over, .slice na m.nodes.length nc, .int .u64 m.rest, .slice ia m.items.length ic] 26) (.cells #[.int .i64 o.told, .bool o.over, .slice nb o.nodes.length nd, .int .u64 o.rest, .slice ib o.items.length id] 26))
  have hB0 : Hid (Below w.heap.size w ((w.alloc (.cells #[.int .i64 m.told, .bool m.over, .slice na m.nodes.length nc, .int .u64 m.rest, .slice ia m.items.length ic] 26)).alloc (.cells #[.int .i64 o.told, .bool o.over, .slice nb o.nodes.length nd, .int .u64 o.rest, .slice ib o.items.length id] 26))) :=
    ((Below.refl _ _).alloc (Nat.le_refl _) _).alloc (by show _ ≤ (w.heap.push _).size; simp) _
  have hv2 := hidden (hv.below hB0.out)
  have hu2 := hidden (hu.below hB0.out)
  have hS : Hid (sameM m o = _) := hidden (show sameM m o = (decide (m.told = o.told) && (decide (m.over = o.over) && (decide (m.rest = o.rest) && decide (m.nodes = o.nodes)))) from rfl)
  unfold mkS
  clear hv hu
  generalize hwe : (w.alloc (.cells #[.int .i64 m.told, .bool m.over, .slice na m.nodes.length nc, .int .u64 m.rest, .slice ia m.items.length ic] 26)).alloc (.cells #[.int .i64 o.told, .bool o.over, .slice nb o.nodes.length nd, .int .u64 o.rest, .slice ib o.items.length id] 26) = wx at *
  replace hwe := hidden hwe
  obtain ⟨⟨b0, b1, b2, b3, b4⟩, -⟩ := box5f hX0.out
  obtain ⟨⟨c0, c1, c2, c3, c4⟩, -⟩ := box5f hX1.out
  clear b4 c4
  generalize sameM m o = S at *
  by_cases h1 : m.told = o.told
  case neg =>
    have e : Hid (S = false) := hS.out.trans (by rw [decide_eq_false h1]; rfl)
    have g1 : (m.told == o.told) = false := beq_eq_false_iff_ne.2 h1
    have g2 : (m.told != o.told) = true := by simp [bne, g1]
    clear hS
    go_enter Tryz.func9, Tryz.ntmps9
    go_wp2_with fail
    rw [hwe.out]
    go_wp2
    go_ret
    exact ⟨by rw [e.out]; first | done | rfl, hB0.out⟩
  have g1 : (m.told != o.told) = false := by simp [h1]
  replace hS : Hid (S = (decide (m.over = o.over) && (decide (m.rest = o.rest) && decide (m.nodes = o.nodes)))) := hS.out.trans (by rw [decide_eq_true h1]; rfl)
  replace h1 := hidden h1
  by_cases h2 : m.over = o.over
  case neg =>
    have e : Hid (S = false) := hS.out.trans (by rw [decide_eq_false h2]; rfl)
    have g2 : (m.over != o.over) = true := by simp [h2]
    clear hS
    replace h2 := hidden h2
    go_enter Tryz.func9, Tryz.ntmps9
    go_wp2_with fail
    rw [hwe.out]
    go_wp2
    go_ret
    exact ⟨by rw [e.out]; first | done | rfl, hB0.out⟩
  replace hS : Hid (S = (decide (m.rest = o.rest) && decide (m.nodes = o.nodes))) := hS.out.trans (by rw [decide_eq_true h2]; rfl)
  generalize m.over = ov at *
  generalize o.over = ow at *
  subst h2
  by_cases h3 : m.rest = o.rest
  case neg =>
    have e : Hid (S = false) := hS.out.trans (by rw [decide_eq_false h3]; rfl)
    have g3 : (m.rest != o.rest) = true := by simp [h3]
    clear hS
    replace h3 := hidden h3
    go_enter Tryz.func9, Tryz.ntmps9
    go_wp2_with fail
    rw [hwe.out]
    go_wp2
    go_ret
    exact ⟨by rw [e.out]; first | done | rfl, hB0.out⟩
  have g3 : (m.rest != o.rest) = false := by simp [h3]
  replace hS : Hid (S = decide (m.nodes = o.nodes)) := hS.out.trans (by rw [decide_eq_true h3]; rfl)
  replace h3 := hidden h3
  by_cases h4 : m.nodes.length = o.nodes.length
  case neg =>
    have e : Hid (S = false) := hS.out.trans (decide_eq_false fun e => h4 (by rw [e]))
    have g4 : ((m.nodes.length : Int) != (o.nodes.length : Int)) = true := bne_iff_ne.2 (by omega)
    clear hS
    replace h4 := hidden h4
    go_enter Tryz.func9, Tryz.ntmps9
    go_wp2_with fail
    rw [hwe.out]
    go_wp2
    go_ret
    exact ⟨by rw [e.out]; first | done | rfl, hB0.out⟩
  have g4 : ((m.nodes.length : Int) != (o.nodes.length : Int)) = false := by rw [h4]; simp
  replace h4 := hidden h4
  go_enter Tryz.func9, Tryz.ntmps9
  go_wp2_with fail
  rw [hwe.out]
  go_wp2
  go_loopw [5] (fun i wr => ∃ k : Nat, k ≤ m.nodes.length ∧ i = .int .i64 k ∧ Hid (m.nodes.take k = o.nodes.take k) ∧ Hid (Below wx.heap.size wx wr)) (fun i _ => m.nodes.length - (intOf i).toNat)
  case atStart => exact ⟨0, Nat.zero_le _, rfl, rfl, Below.refl _ _⟩
  case round =>
    obtain ⟨k, hk, rfl, ht, hnx⟩ := hrel
    have hBf : Hid (Below w.heap.size w wr) := hB0.out.trans (hnx.out.mono hB0.out.size)
    replace b2 := (hnx.out.cell (World.block_lt_of_cell? _ _ b2)).trans b2
    replace c2 := (hnx.out.cell (World.block_lt_of_cell? _ _ c2)).trans c2
    by_cases hlt : k < m.nodes.length
    · have hlt2 : k < o.nodes.length := by have := h4.out; omega
      obtain ⟨b, p, rfl, _, hc⟩ := row_cell (hv2.out.below hnx.out) hlt
      obtain ⟨b', p', rfl, _, hc'⟩ := row_cell (hu2.out.below hnx.out) hlt2
      have hj1 : (k : Int) < (m.nodes.length : Int) := by omega
      have hj2 : (k : Int) < (o.nodes.length : Int) := by omega
      have hj3 : (0 : Int) ≤ (k : Int) := Int.natCast_nonneg _
      have hts : Hid (m.nodes.getD k 0 = o.nodes.getD k 0 → m.nodes.take (k + 1) = o.nodes.take (k + 1)) := fun e => by
        rw [List.take_add_one, List.take_add_one, ht.out, List.getElem?_eq_getElem hlt, List.getElem?_eq_getElem hlt2]
        simp [List.getD, hlt, hlt2] at e
        simp [e]
      have hne := hidden fun h => hS.out.trans (rsamem_part (xs := m.nodes) (ys := o.nodes) k h)
      generalize m.nodes.getD k 0 = x at *
      generalize o.nodes.getD k 0 = y at *
      clear b0 b1 b3 c0 c1 c3
      go_wp2_with fail
      go_region_held3 (fun w' => w'.cell? ⟨w.heap.size, 2, none⟩ = some (.slice (some ⟨b, p, none⟩) m.nodes.length nc) ∧ w'.cell? ⟨w.heap.size + 1, 2, none⟩ = some (.slice (some ⟨b', p', none⟩) o.nodes.length nd) ∧ w'.cell? ⟨b, p + k, none⟩ = some (.int .i64 x) ∧ w'.cell? ⟨b', p' + k, none⟩ = some (.int .i64 y)) (go_keep) (fail)
      by_cases hxy : x = y
      · have ha := hidden (hts.out hxy)
        have g5 : (x != y) = false := by simp [hxy]
        clear hxy hts hne ht
        go_wp2
        go_roundw
        case rel => exact ⟨k + 1, by omega, by go_num, ha, hnx.out.drew⟩
        case measure => simp [intOf]; omega
      · have ha := hidden (hne.out hxy)
        have g5 : (x != y) = true := by simp [hxy]
        clear hxy hts hne ht
        go_wp2
        go_ret
        exact ⟨by rw [ha.out]; first | done | rfl, hBf.out.drew⟩
    · have hj1 : ¬ (k : Int) < (m.nodes.length : Int) := by omega
      have ha := hidden (hS.out.trans (rsamem_end k h4.out ht.out (by omega)))
      clear ht
      go_wp2
      go_ret
      exact ⟨by rw [ha.out]; first | done | rfl, hBf.out⟩
end Go.Proofs.YtcdkpeikjnpmhaaGreat
