/-
  METERS: the reference's Add, by contract.
-/
import Derived.Test.YtoijkbnjcnedjaaDoorMet5
namespace Go.Proofs.YtoijkbnjcnedjaaDoor
open Go.ChangeShapes Go.WideShapes Go.ChangeAt Go.RowKit Go.Maps

theorem ex_pos (s : ByteArray) : ∀ L : List Ct, ∃ p, p ≤ L.length ∧ (∀ i, i < p → blT (L.getD i Ct.none).s s = true) ∧ (p < L.length → blT (L.getD p Ct.none).s s = false)
  | [] => ⟨0, Nat.le_refl _, fun i hi => absurd hi (Nat.not_lt_zero i), fun h => absurd h (Nat.lt_irrefl _)⟩
  | c :: r => by
    cases hb : blT c.s s with
    | false => exact ⟨0, Nat.zero_le _, fun i hi => absurd hi (Nat.not_lt_zero i), fun _ => hb⟩
    | true =>
      obtain ⟨p, h1, h2, h3⟩ := ex_pos s r
      refine ⟨p + 1, by simpa using h1, fun i hi => ?_, fun h => by simpa using h3 (by simpa using h)⟩
      cases i with
      | zero => exact hb
      | succ i => simpa using h2 i (by omega)
theorem addC_same (s : ByteArray) (n : Int) : ∀ (L : List Ct) (p : Nat), p < L.length → (∀ i, i < p → blT (L.getD i Ct.none).s s = true) → (L.getD p Ct.none).s = s → addC s n L = L.set p ⟨s, (L.getD p Ct.none).k + n⟩
  | c :: r, 0, _, _, hs => by
    have hs' : c.s = s := hs
    unfold addC
    rw [if_pos hs']
    rfl
  | c :: r, p + 1, hp, hl, hs => by
    have h0 : blT c.s s = true := hl 0 (Nat.succ_pos p)
    unfold addC
    rw [if_neg (blT_ne h0), if_pos h0, addC_same s n r p (by simpa using hp) (fun i hi => by simpa using hl (i + 1) (by omega)) (by simpa using hs)]
    simp
theorem addC_new (s : ByteArray) (n : Int) : ∀ (L : List Ct) (p : Nat), p ≤ L.length → (∀ i, i < p → blT (L.getD i Ct.none).s s = true) → (p < L.length → blT (L.getD p Ct.none).s s = false ∧ (L.getD p Ct.none).s ≠ s) → addC s n L = L.take p ++ [⟨s, n⟩] ++ L.drop p
  | [], 0, _, _, _ => by simp [addC]
  | c :: r, 0, _, _, hu => by
    obtain ⟨h1, h2⟩ := hu (by simp)
    have h1' : blT c.s s = false := h1
    have h2' : c.s ≠ s := h2
    unfold addC
    rw [if_neg h2', if_neg (by rw [h1']; decide)]
    rfl
  | c :: r, p + 1, hp, hl, hu => by
    have h0 : blT c.s s = true := hl 0 (Nat.succ_pos p)
    unfold addC
    rw [if_neg (blT_ne h0), if_pos h0, addC_new s n r p (by simpa using hp) (fun i hi => by simpa using hl (i + 1) (by omega)) (fun h => by simpa using hu (by simpa using h))]
    simp
theorem flat_set1 : ∀ (L : List Ct) (p : Nat) (s : ByteArray) (k : Int), p < L.length → (L.getD p Ct.none).s = s → countR.flat (L.set p ⟨s, k⟩) = (countR.flat L).set (p * 2 + 1) (.int .i64 k)
  | c :: r, 0, s, k, _, hs => by
    have hs' : c.s = s := hs
    subst hs'
    rfl
  | c :: r, p + 1, s, k, hp, hs => by
    have ih := flat_set1 r p s k (by simpa using hp) (by simpa using hs)
    rw [List.set_cons_succ, Rec.flat_cons, Rec.flat_cons, ih, show (p + 1) * 2 + 1 = p * 2 + 1 + 1 + 1 by omega]
    rfl
def rowb (a : Option Addr) : List Nat := a.toList.map fun x => x.block
theorem set_cell0 {w : World} {b : Nat} {v : Value} {m : Int} (h : w.heap[b]? = some (.cells #[v, .int .i64 m] 31)) (u : Value) : (w.setCell ⟨b, 0, none⟩ u).heap[b]? = some (.cells #[u, .int .i64 m] 31) := by
  simp [World.setCell, Array.getElem?_modify, h]
theorem own_set0 {w : World} {B : Nat} {size n : Nat} {v : Value} {xs : List Value} {b : Nat} {u : Value} {m : Int} (h : w.ownsRow B 42 size v n xs) (hb : w.heap[b]? = some (.cells #[u, .int .i64 m] 31)) {x : Value} : (w.setCell ⟨b, 0, none⟩ x).ownsRow B 42 size v n xs := by
  obtain ⟨h1, h2⟩ := h
  refine ⟨h1, ?_⟩
  rcases h2 with h2 | ⟨g, cap, cur, e1, e2, e3, e4⟩
  · exact .inl h2
  · refine .inr ⟨g, cap, cur, e1, e2, ?_, e4⟩
    have hne : b ≠ g := fun e => by
      subst e
      rw [hb] at e3
      simp at e3
    rw [Below.heap_setCell _ _ _ g hne.symm]
    exact e3
set_option maxHeartbeats 1600000 in
set_option maxRecDepth 100000 in
theorem raddNo_c {B : Nat} {b : Nat} {a : Option Addr} {c : Nat} {m : Int} {L : List Ct} (s : ByteArray) (n : Int) (w : World) (h : RMt B w b a c m L) (hF : Fine m L) (hm : 0 ≤ m) (hm2 : m ≤ 1000000000000) (hs : s.size ≤ 40) (hl : L.length ≤ 100000) (hno : ¬ (nameS s ∧ ¬ n < 0 ∧ ¬ m - sumC L < n)) :
    Calls Tryd.prog 9 #[.pointer (some ⟨b, 0, none⟩), .string s, .int .i64 n] w fun e w' => e = .returned (.int .i64 (addAns m L s n)) ∧ Hid (Below w.heap.size w w') := by
  have hnc := rname_c s w (by omega)
  by_cases hns : nameS s
  case neg =>
    have hans : Hid (addAns m L s n = 2) := by show _ = _; unfold addAns; simp [hns]
    rw [show decide (nameS s) = false by simpa using hns] at hnc
    clear h hF hno
    go_enter Tryd.func9, Tryd.ntmps9
    go_wp2_with fail
    refine hnc.mono ?_
    rintro e w' ⟨rfl, rfl⟩
    go_wp2
    go_ret
    exact ⟨by rw [hans.out]; rfl, Below.refl _ _⟩
  case pos =>
    rw [show decide (nameS s) = true by simpa using hns] at hnc
    by_cases hn0 : n < 0
    · have hans : Hid (addAns m L s n = 1) := by show _ = _; unfold addAns; simp [hns, hn0]
      clear h hF hno
      go_enter Tryd.func9, Tryd.ntmps9
      go_wp2_with fail
      refine hnc.mono ?_
      rintro e w' ⟨rfl, rfl⟩
      go_wp2
      go_ret
      exact ⟨by rw [hans.out]; rfl, Below.refl _ _⟩
    · have hnm : m - sumC L < n := by
        by_cases h2 : m - sumC L < n
        · exact h2
        · exact absurd ⟨hns, hn0, h2⟩ hno
      have hans : Hid (addAns m L s n = 3) := by show _ = _; unfold addAns; simp [hns, hn0, hnm]
      have hall := rall_c w.drew (h.below (Below.refl _ _).drew) hF hm2 (by omega)
      obtain ⟨⟨c0, c1⟩, -⟩ := rbox h.box
      have hS0 := hF.nonneg
      have hS1 := hF.small
      have hw : IntKind.i64.wrap (m - sumC L) = m - sumC L := by rw [IntKind.wrap_i64]; omega
      clear h hF hno
      go_enter Tryd.func9, Tryd.ntmps9
      go_wp2_with fail
      refine hnc.mono ?_
      rintro e w' ⟨rfl, rfl⟩
      go_wp2_with fail
      go_region_held3 (fun z => z.cell? ⟨b, 1, none⟩ = some (.int .i64 m)) (first | assumption | go_keep) (first
        | (go_at_call 11; refine hall.mono ?_; rintro e w1 ⟨rfl, rfl⟩)
        | fail)
      go_wp2
      go_ret
      exact ⟨by rw [hans.out]; rfl, (Below.refl _ _).drew⟩
set_option maxHeartbeats 6400000 in
set_option maxRecDepth 100000 in
theorem raddIn_c {B : Nat} {b g : Nat} {c : Nat} {m : Int} {L : List Ct} (s : ByteArray) (n : Int) (w : World) (hbox : w.heap[b]? = some (.cells #[.slice (some ⟨g, 0, none⟩) L.length c, .int .i64 m] 31)) (hrow : w.ownsRow B 42 2 (.slice (some ⟨g, 0, none⟩) L.length c) L.length (countR.flat L)) (hlow : b < B) (hBw : B ≤ w.heap.size) (hF : Fine m L) (hm2 : m ≤ 1000000000000) (hs : s.size ≤ 40) (hns : nameS s) (hn0 : ¬ n < 0) (hnm : ¬ m - sumC L < n) (hl : L.length ≤ 100000) (p : Nat) (hp : p < L.length) (hplow : ∀ i, i < p → blT (L.getD i Ct.none).s s = true) (hps : (L.getD p Ct.none).s = s) :
    Calls Tryd.prog 9 #[.pointer (some ⟨b, 0, none⟩), .string s, .int .i64 n] w fun e w' => ∃ (a' : Option Addr) (c' : Nat), e = .returned (.int .i64 0) ∧ RMt B w' b a' c' m (addC s n L) ∧ SaveL (b :: rowb (some ⟨g, 0, none⟩)) w w' ∧ (∀ g2, (Value.slice a' (addC s n L).length c').ownBlock = some g2 → (Value.slice (some ⟨g, 0, none⟩) L.length c).ownBlock = some g2 ∨ w.heap.size ≤ g2) := by
  have hnc := rname_c s w (by omega)
  rw [show decide (nameS s) = true by simpa using hns] at hnc
  have hall := rall_c w.drew ((⟨hbox, hrow, hlow⟩ : RMt B w b (some ⟨g, 0, none⟩) c m L).below (Below.refl _ _).drew) hF hm2 (by omega)
  obtain ⟨⟨c0, c1⟩, f0⟩ := rbox hbox
  have hbl := (Array.getElem?_eq_some_iff.1 hbox).1
  have hS0 := hF.nonneg
  have hS1 := hF.small
  have hw : IntKind.i64.wrap (m - sumC L) = m - sumC L := by rw [IntKind.wrap_i64]; omega
  obtain ⟨i0, hi, hz0, hz1, hz2⟩ := info_parts infoC
  obtain ⟨N, hN⟩ : ∃ N, N = L.length := ⟨_, rfl⟩
  rw [← hN] at c0 hl
  replace hN := hidden hN
  have hat := hidden (⟨hbox, hrow, hlow⟩ : RMt B w b (some ⟨g, 0, none⟩) c m L).at
  replace hplow := hidden hplow
  replace hbox := hidden hbox
  replace hrow := hidden hrow
  replace hF := hidden hF
  have hps1 : blT s s = false := lt_b_irrefl _
  have hk1 := hF.out.pos (L.getD p Ct.none) (by rw [show L.getD p Ct.none = L[p] by simp [List.getD, hp]]; exact List.getElem_mem _)
  have hk2 := (sum_pos hF.out.pos).2 (L.getD p Ct.none) (by rw [show L.getD p Ct.none = L[p] by simp [List.getD, hp]]; exact List.getElem_mem _)
  have hset := hidden (addC_same s n L p hp hplow.out hps)
  have hfl := hidden (flat_set1 L p s ((L.getD p Ct.none).k + n) hp hps)
  have hpN : p < N := by rw [hN.out]; exact hp
  go_enter Tryd.func9, Tryd.ntmps9
  go_wp2_with fail
  refine hnc.mono ?_
  rintro e w' ⟨rfl, rfl⟩
  rename World => w
  go_wp2_with fail
  go_region_held3 (fun z => z.cell? ⟨b, 1, none⟩ = some (.int .i64 m)) (first | assumption | go_keep) (first
    | (go_at_call 11; refine hall.mono ?_; rintro e w1 ⟨rfl, rfl⟩)
    | fail)
  clear hnc hall
  go_wp2
  go_loop [7] (fun u => ∃ j : Nat, j ≤ p ∧ u = .int .i64 (j : Int)) (fun u => p - (intOf u).toNat)
  case atStart => exact ⟨0, Nat.zero_le _, rfl⟩
  case round =>
    obtain ⟨j, hj, rfl⟩ := hrel
    by_cases hlt : j < p
    · have hlt' : (j : Int) < (N : Int) := by omega
      obtain ⟨g', off, he, hg', d0, -⟩ := count_at hat.out (k := j) (by have := hN.out; omega)
      cases he
      rw [Nat.zero_add] at d0
      have hb : Op.bytesLess (L.getD j Ct.none).s.toList s.toList = true := hplow.out j hlt
      generalize (L.getD j Ct.none).s = y at *
      go_wp2
      go_round
      case rel => exact ⟨j + 1, by omega, by go_num⟩
      case measure => simp [intOf]; omega
    · obtain rfl : j = p := by omega
      clear hlt
      have hlt' : (j : Int) < (N : Int) := by omega
      obtain ⟨g', off, he, hg', d0, d1⟩ := count_at hat.out (k := j) hp
      cases he
      rw [Nat.zero_add] at d0 d1
      have hfz : w.frozen? ⟨g, j * 2 + 1, none⟩ = false := hrow.out.frozenAt _
      have hbg : b ≠ g := fun e => by
        have h1 := (hrow.out.lt g rfl).1
        omega
      rw [hps] at d0
      have hb : Op.bytesLess s.toList s.toList = false := hps1
      have hs1 : (s.toList == s.toList) = true := by simp
      generalize (L.getD j Ct.none).k = ck at *
      have hw3 : IntKind.i64.wrap (ck + n) = ck + n := by rw [IntKind.wrap_i64]; omega
      clear hw hps1 hplow hat
      go_wp2_with fail
      refine wp_region_parts (S := (fun z => z.cell? ⟨b, 0, none⟩ = some (.slice (some ⟨g, 0, none⟩) N c) ∧ z.cell? ⟨g, j * 2 + 1, none⟩ = some (.int .i64 ck))) #[false, false, false, false, false, false, false, false, false, false, false, false, false, false, false, true, true, true] #[true, true, true, true, true, true, true, true, true, true, true, true, true, true, true, false, false, false] [15, 16, 17] 40 15 (by kernel_rfl) (by kernel_rfl) (by kernel_rfl) (by rfl) ?_ (fun hHeld => ?_)
      · go_keep
      first
        | (refine wpAnyH_take (i := 0) (v := ?_) at0 (by kernel_rfl) (by kernel_rfl) (by kernel_rfl) (fun _ _ _ h => h) (Or.inl ⟨by rfl, ?_⟩) (by assumption) ?_
           rotate_left
           · intro w hSw; (try dsimp only at hSw); go_simp; try with_reducible rfl)
        | fail "take 0"
      try simp only [Act.put, List.setIfInBounds_toArray, List.set_cons_zero, List.set_cons_succ]
      first
        | (refine wpAnyH_take (i := 1) (v := ?_) at1 (by kernel_rfl) (by kernel_rfl) (by kernel_rfl) (fun _ _ _ h => h) (Or.inl ⟨by rfl, ?_⟩) (by assumption) ?_
           rotate_left
           · intro w hSw; (try dsimp only at hSw); go_simp; try with_reducible rfl)
        | fail "take 1"
      try simp only [Act.put, List.setIfInBounds_toArray, List.set_cons_zero, List.set_cons_succ]
      first
        | (refine wpAnyH_take (i := 2) (v := ?_) at2 (by kernel_rfl) (by kernel_rfl) (by kernel_rfl) (fun _ _ _ h => h) (Or.inl ⟨by rfl, ?_⟩) (by assumption) ?_
           rotate_left
           · intro w hSw; (try dsimp only at hSw); go_simp; try with_reducible rfl)
        | fail "take 2"
      try simp only [Act.put, List.setIfInBounds_toArray, List.set_cons_zero, List.set_cons_succ]
      first
        | (refine wpAnyH_take (i := 3) (v := ?_) at3 (by kernel_rfl) (by kernel_rfl) (by kernel_rfl) (fun _ _ _ h => h) (Or.inl ⟨by rfl, ?_⟩) (by assumption) ?_
           rotate_left
           · intro w hSw; (try dsimp only at hSw); go_simp; try with_reducible rfl)
        | fail "take 3"
      try simp only [Act.put, List.setIfInBounds_toArray, List.set_cons_zero, List.set_cons_succ]
      first
        | (refine wpAnyH_take (i := 4) (v := ?_) at4 (by kernel_rfl) (by kernel_rfl) (by kernel_rfl) (fun _ _ _ h => h) (Or.inl ⟨by rfl, ?_⟩) (by assumption) ?_
           rotate_left
           · intro w hSw; (try dsimp only at hSw); go_simp; try with_reducible rfl)
        | fail "take 4"
      try simp only [Act.put, List.setIfInBounds_toArray, List.set_cons_zero, List.set_cons_succ]
      first
        | (refine wpAnyH_take (i := 5) (v := ?_) at5 (by kernel_rfl) (by kernel_rfl) (by kernel_rfl) (fun _ _ _ h => h) (Or.inl ⟨by rfl, ?_⟩) (by assumption) ?_
           rotate_left
           · intro w hSw; (try dsimp only at hSw); go_simp; try with_reducible rfl)
        | fail "take 5"
      try simp only [Act.put, List.setIfInBounds_toArray, List.set_cons_zero, List.set_cons_succ]
      first
        | (refine wpAnyH_take (i := 6) (v := ?_) at6 (by kernel_rfl) (by kernel_rfl) (by kernel_rfl) (fun _ _ _ h => h) (Or.inl ⟨by rfl, ?_⟩) (by assumption) ?_
           rotate_left
           · intro w hSw; (try dsimp only at hSw); go_simp; try with_reducible rfl)
        | fail "take 6"
      try simp only [Act.put, List.setIfInBounds_toArray, List.set_cons_zero, List.set_cons_succ]
      first
        | (refine wpAnyH_take (i := 7) (v := ?_) at7 (by kernel_rfl) (by kernel_rfl) (by kernel_rfl) (fun _ _ _ h => h) (Or.inl ⟨by rfl, ?_⟩) (by assumption) ?_
           rotate_left
           · intro w hSw; (try dsimp only at hSw); go_simp; try with_reducible rfl)
        | fail "take 7"
      try simp only [Act.put, List.setIfInBounds_toArray, List.set_cons_zero, List.set_cons_succ]
      first
        | (refine wpAnyH_take (i := 8) (v := ?_) at8 (by kernel_rfl) (by kernel_rfl) (by kernel_rfl) (fun _ _ _ h => h) (Or.inl ⟨by rfl, ?_⟩) (by assumption) ?_
           rotate_left
           · intro w hSw; (try dsimp only at hSw); go_simp; try with_reducible rfl)
        | fail "take 8"
      try simp only [Act.put, List.setIfInBounds_toArray, List.set_cons_zero, List.set_cons_succ]
      first
        | (refine wpAnyH_take (i := 9) (v := ?_) at9 (by kernel_rfl) (by kernel_rfl) (by kernel_rfl) (fun _ _ _ h => h) (Or.inl ⟨by rfl, ?_⟩) (by assumption) ?_
           rotate_left
           · intro w hSw; (try dsimp only at hSw); go_simp; try with_reducible rfl)
        | fail "take 9"
      try simp only [Act.put, List.setIfInBounds_toArray, List.set_cons_zero, List.set_cons_succ]
      first
        | (refine wpAnyH_take (i := 10) (v := ?_) at10 (by kernel_rfl) (by kernel_rfl) (by kernel_rfl) (fun _ _ _ h => h) (Or.inl ⟨by rfl, ?_⟩) (by assumption) ?_
           rotate_left
           · intro w hSw; (try dsimp only at hSw); go_simp; try with_reducible rfl)
        | fail "take 10"
      try simp only [Act.put, List.setIfInBounds_toArray, List.set_cons_zero, List.set_cons_succ]
      first
        | (refine wpAnyH_take (i := 11) (v := ?_) at11 (by kernel_rfl) (by kernel_rfl) (by kernel_rfl) (fun _ _ _ h => h) (Or.inl ⟨by rfl, ?_⟩) (by assumption) ?_
           rotate_left
           · intro w hSw; (try dsimp only at hSw); go_simp; try with_reducible rfl)
        | fail "take 11"
      try simp only [Act.put, List.setIfInBounds_toArray, List.set_cons_zero, List.set_cons_succ]
      first
        | (refine wpAnyH_take (i := 12) (v := ?_) at12 (by kernel_rfl) (by kernel_rfl) (by kernel_rfl) (fun _ _ _ h => h) (Or.inl ⟨by rfl, ?_⟩) (by assumption) ?_
           rotate_left
           · intro w hSw; (try dsimp only at hSw); go_simp; try with_reducible rfl)
        | fail "take 12"
      try simp only [Act.put, List.setIfInBounds_toArray, List.set_cons_zero, List.set_cons_succ]
      first
        | (refine wpAnyH_take (i := 13) (v := ?_) at13 (by kernel_rfl) (by kernel_rfl) (by kernel_rfl) (fun _ _ _ h => h) (Or.inl ⟨by rfl, ?_⟩) (by assumption) ?_
           rotate_left
           · intro w hSw; (try dsimp only at hSw); go_simp; try with_reducible rfl)
        | fail "take 13"
      try simp only [Act.put, List.setIfInBounds_toArray, List.set_cons_zero, List.set_cons_succ]
      first
        | (refine wpAnyH_take (i := 14) (v := ?_) at14 (by kernel_rfl) (by kernel_rfl) (by kernel_rfl) (fun _ _ _ h => h) (Or.inl ⟨by rfl, ?_⟩) (by assumption) ?_
           rotate_left
           · intro w hSw; (try dsimp only at hSw); go_simp; try with_reducible rfl)
        | fail "take 14"
      try simp only [Act.put, List.setIfInBounds_toArray, List.set_cons_zero, List.set_cons_succ]
      refine tail_list (is := [15, 16, 17]) (l := _) (by kernel_rfl) (by kernel_rfl) (by kernel_rfl) rfl ?_
      simp only [List.filterMap_cons, List.filterMap_nil, at15, at16, at17]
      show wpList _ _ _ (_ :: _) _ _
      have hst := hidden (hrow.out.stored (j * 2 + 1) (.int .i64 (ck + n))).1
      go_wp2
      go_ret
      rw [hset.out]
      refine ⟨some ⟨g, 0, none⟩, c, rfl, ⟨?_, ?_, hlow⟩, ?_, fun g2 hg2 => .inl (by rw [List.length_set] at hg2; exact hg2)⟩
      · rw [List.length_set]
        show (World.setCell _ _ _).heap[b]? = _
        rw [Below.heap_setCell _ _ _ b hbg]
        exact hbox.out
      · rw [List.length_set, hfl.out]
        exact hst.out
      · exact (SaveL.of_below ((Below.refl w.heap.size w).drew.drew)).trans (SaveL.setCell ⟨g, j * 2 + 1, none⟩ _ (by simp [rowb]))
end Go.Proofs.YtoijkbnjcnedjaaDoor
