/-
  METERS: the reference's Twice, by contract.
-/
import Derived.Test.YtoijkbnjcnedjaaDoorMet10
namespace Go.Proofs.YtoijkbnjcnedjaaDoor
open Go.ChangeShapes Go.WideShapes Go.ChangeAt Go.RowKit Go.Maps

def halfC (L : List Ct) (k : Nat) : List Ct := dblC (L.take k) ++ L.drop k
theorem halfC_len (L : List Ct) (k : Nat) (hk : k ≤ L.length) : (halfC L k).length = L.length := by simp [halfC, dblC]; omega
theorem halfC_at (L : List Ct) (k : Nat) (hk : k < L.length) : (halfC L k).getD k Ct.none = L.getD k Ct.none := by
  have hl : (dblC (L.take k)).length = k := by simp [dblC]; omega
  have hd : L.drop k = L.getD k Ct.none :: L.drop (k + 1) := by rw [List.drop_eq_getElem_cons hk]; simp [List.getD, hk]
  unfold halfC
  rw [hd]
  simp [List.getD, hl, List.getElem?_append_right]
theorem halfC_set (L : List Ct) (k : Nat) (hk : k < L.length) : (halfC L k).set k ⟨(L.getD k Ct.none).s, 2 * (L.getD k Ct.none).k⟩ = halfC L (k + 1) := by
  have hl : (dblC (L.take k)).length = k := by simp [dblC]; omega
  have hd : L.drop k = L.getD k Ct.none :: L.drop (k + 1) := by rw [List.drop_eq_getElem_cons hk]; simp [List.getD, hk]
  unfold halfC
  rw [List.set_append_right _ _ (by omega), hl, Nat.sub_self, hd, List.set_cons_zero, take_snocR L Ct.none k hk]
  simp only [dblC, List.map_append, List.map_cons, List.map_nil, List.append_assoc, List.singleton_append]
theorem halfC_all (L : List Ct) : halfC L L.length = dblC L := by simp [halfC]
theorem sum_dbl : ∀ L : List Ct, sumC (dblC L) = 2 * sumC L
  | [] => rfl
  | c :: r => by
    have := sum_dbl r
    show 2 * c.k + sumC (dblC r) = _
    rw [this]; simp only [sumC]; omega
set_option maxHeartbeats 800000 in
theorem rtwiceNo_c {B : Nat} {b : Nat} {a : Option Addr} {c : Nat} {m : Int} {L : List Ct} (w : World) (h : RMt B w b a c m L) (hF : Fine m L) (hm2 : m ≤ 1000000000000) (hl : L.length ≤ 100000) (hful : m - sumC L < sumC L) :
    Calls Tryd.prog 15 #[.pointer (some ⟨b, 0, none⟩)] w fun e w' => e = .returned (.int .i64 3) ∧ Hid (Below w.heap.size w w') := by
  obtain ⟨⟨c0, c1⟩, -⟩ := rbox h.box
  have hall := rall_c w.drew (h.below (Below.refl _ _).drew) hF hm2 (by omega)
  have hS0 := hF.nonneg
  have hS1 := hF.small
  have hw : IntKind.i64.wrap (m - sumC L) = m - sumC L := by rw [IntKind.wrap_i64]; omega
  clear h hF
  go_enter Tryd.func15, Tryd.ntmps15
  go_wp2_with fail
  go_region_held3 (fun z => z.cell? ⟨b, 1, none⟩ = some (.int .i64 m)) (first | assumption | go_keep) (first
    | (go_at_call 11; refine hall.mono ?_; rintro e w1 ⟨rfl, rfl⟩)
    | fail)
  go_wp2
  go_ret
  exact ⟨rfl, (Below.refl _ _).drew⟩
set_option maxHeartbeats 6400000 in
set_option maxRecDepth 100000 in
theorem rtwice_c {B : Nat} {b : Nat} {a : Option Addr} {c : Nat} {m : Int} {L : List Ct} (w : World) (h : RMt B w b a c m L) (hF : Fine m L) (hm2 : m ≤ 1000000000000) (hl : L.length ≤ 100000) (hful : ¬ m - sumC L < sumC L) :
    Calls Tryd.prog 15 #[.pointer (some ⟨b, 0, none⟩)] w fun e w' => e = .returned (.int .i64 0) ∧ Hid (RMt B w' b a c m (dblC L)) ∧ Hid (SaveL (b :: rowb a) w w') := by
  obtain ⟨⟨c0, c1⟩, -⟩ := rbox h.box
  have hall := rall_c w.drew (h.below (Below.refl _ _).drew) hF hm2 (by omega)
  have hS0 := hF.nonneg
  have hS1 := hF.small
  have hw : IntKind.i64.wrap (m - sumC L) = m - sumC L := by rw [IntKind.wrap_i64]; omega
  obtain ⟨N, hN⟩ : ∃ N, N = L.length := ⟨_, rfl⟩
  rw [← hN] at hl
  have hJ0 : Hid (RMt B w.drew b a c m (halfC L 0)) := by
    show RMt ..
    have e : halfC L 0 = L := by simp [halfC, dblC]
    rw [e]; exact h.below (Below.refl _ _).drew
  have hS0' : Hid (SaveL (b :: rowb a) w w.drew) := SaveL.of_below (Below.refl _ _).drew
  have hmem : Hid (∀ g, a = some ⟨g, 0, none⟩ → g ∈ b :: rowb a) := fun g hg => by rw [hg]; simp [rowb]
  replace hN := hidden hN
  replace hF := hidden hF
  clear h
  go_enter Tryd.func15, Tryd.ntmps15
  go_wp2_with fail
  go_region_held3 (fun z => z.cell? ⟨b, 1, none⟩ = some (.int .i64 m)) (first | assumption | go_keep) (first
    | (go_at_call 11; refine hall.mono ?_; rintro e w1 ⟨rfl, rfl⟩)
    | fail)
  clear hall hw c0 c1
  go_wp2
  go_loopw [3] (fun i x => ∃ k : Nat, i = .int .i64 k ∧ k ≤ N ∧ Hid (RMt B x b a c m (halfC L k)) ∧ Hid (SaveL (b :: rowb a) w x)) (fun i _ => N - (intOf i).toNat)
  case atStart => exact ⟨0, rfl, Nat.zero_le _, hJ0, hS0'⟩
  case round =>
    clear hJ0 hS0'
    obtain ⟨k, rfl, hk, hJ, hS⟩ := hrel
    obtain ⟨⟨c0, c1⟩, -⟩ := rbox hJ.out.box
    rw [halfC_len L k (by rw [← hN.out]; exact hk), ← hN.out] at c0
    by_cases hlt : k < N
    · have hlt' : (k : Int) < (N : Int) := by omega
      have hkL : k < L.length := by rw [← hN.out]; exact hlt
      have hlen := halfC_len L k (by omega)
      have hkh : k < (halfC L k).length := by rw [hlen]; exact hkL
      have hrow := hJ.out.row
      have hat := hJ.out.at
      have hlow := hJ.out.low
      obtain ⟨g, rfl⟩ : ∃ g, a = some ⟨g, 0, none⟩ := by
        rcases hrow.2 with ⟨h4, _⟩ | ⟨g, cap, cur, e1, _⟩
        · simp only [Value.slice.injEq] at h4; omega
        · simp only [Value.slice.injEq] at e1; exact ⟨g, e1.1⟩
      obtain ⟨g', off, he, hg', d0, d1⟩ := count_at hat hkh
      cases he
      rw [Nat.zero_add] at d0 d1
      rw [halfC_at L k hkL] at d0 d1
      have hbg : b ≠ g := fun e => by
        have h1 := (hrow.lt g rfl).1
        omega
      have hfz : wr.frozen? ⟨g, k * 2 + 1, none⟩ = false := hrow.frozenAt _
      have hset := hidden (halfC_set L k hkL)
      have hfl := hidden (flat_set1 (halfC L k) k (L.getD k Ct.none).s (2 * (L.getD k Ct.none).k) hkh (by rw [halfC_at L k hkL]))
      have hk2 := (sum_pos hF.out.pos).2 (L.getD k Ct.none) (by rw [show L.getD k Ct.none = L[k] by simp [List.getD, hkL]]; exact List.getElem_mem _)
      have hk1 := hF.out.pos (L.getD k Ct.none) (by rw [show L.getD k Ct.none = L[k] by simp [List.getD, hkL]]; exact List.getElem_mem _)
      have hlen2 : Hid ((halfC L (k + 1)).length = (halfC L k).length) := by show _ = _; rw [halfC_len L (k + 1) (by omega), hlen]
      have hrow' := hidden hrow
      have hbox' := hidden hJ.out.box
      clear hrow hat hJ
      generalize (L.getD k Ct.none).k = ck at *
      have hw3 : IntKind.i64.wrap (2 * ck) = 2 * ck := by rw [IntKind.wrap_i64]; omega
      go_wp2_with fail
      refine wp_region_parts (S := (fun z => z.cell? ⟨b, 0, none⟩ = some (.slice (some ⟨g, 0, none⟩) N c) ∧ z.cell? ⟨g, k * 2 + 1, none⟩ = some (.int .i64 ck))) #[false, false, false, false, false, false, false, false, false, false, false, false, false, false, true, true, true] #[true, true, true, true, true, true, true, true, true, true, true, true, true, true, false, false, false] [14, 15, 16] 40 14 (by kernel_rfl) (by kernel_rfl) (by kernel_rfl) (by rfl) ?_ (fun hHeld => ?_)
      · go_keep
      first
        | (refine wpAnyH_take (i := 0) (v := ?_) at0 (by kernel_rfl) (by kernel_rfl) (by kernel_rfl) (fun _ _ _ h => h) (Or.inl ⟨by rfl, ?_⟩) (by assumption) ?_
           rotate_left
           · intro w hSw; (try dsimp only at hSw); go_simp; try with_reducible rfl)
        | fail "take 0"
      try simp only [Act.put, List.setIfInBounds_toArray, List.set_cons_zero, List.set_cons_succ]
      first
        | (refine wpAnyH_take (i := 1) (v := ?_) at1 (by kernel_rfl) (by kernel_rfl) (by kernel_rfl) (fun _ _ _ h => h) (Or.inl ⟨by rfl, ?_⟩) (by assumption) ?_
           rotate_left
           · intro w hSw; (try dsimp only at hSw); go_simp; try with_reducible rfl)
        | fail "take 1"
      try simp only [Act.put, List.setIfInBounds_toArray, List.set_cons_zero, List.set_cons_succ]
      first
        | (refine wpAnyH_take (i := 2) (v := ?_) at2 (by kernel_rfl) (by kernel_rfl) (by kernel_rfl) (fun _ _ _ h => h) (Or.inl ⟨by rfl, ?_⟩) (by assumption) ?_
           rotate_left
           · intro w hSw; (try dsimp only at hSw); go_simp; try with_reducible rfl)
        | fail "take 2"
      try simp only [Act.put, List.setIfInBounds_toArray, List.set_cons_zero, List.set_cons_succ]
      first
        | (refine wpAnyH_take (i := 3) (v := ?_) at3 (by kernel_rfl) (by kernel_rfl) (by kernel_rfl) (fun _ _ _ h => h) (Or.inl ⟨by rfl, ?_⟩) (by assumption) ?_
           rotate_left
           · intro w hSw; (try dsimp only at hSw); go_simp; try with_reducible rfl)
        | fail "take 3"
      try simp only [Act.put, List.setIfInBounds_toArray, List.set_cons_zero, List.set_cons_succ]
      first
        | (refine wpAnyH_take (i := 4) (v := ?_) at4 (by kernel_rfl) (by kernel_rfl) (by kernel_rfl) (fun _ _ _ h => h) (Or.inl ⟨by rfl, ?_⟩) (by assumption) ?_
           rotate_left
           · intro w hSw; (try dsimp only at hSw); go_simp; try with_reducible rfl)
        | fail "take 4"
      try simp only [Act.put, List.setIfInBounds_toArray, List.set_cons_zero, List.set_cons_succ]
      first
        | (refine wpAnyH_take (i := 5) (v := ?_) at5 (by kernel_rfl) (by kernel_rfl) (by kernel_rfl) (fun _ _ _ h => h) (Or.inl ⟨by rfl, ?_⟩) (by assumption) ?_
           rotate_left
           · intro w hSw; (try dsimp only at hSw); go_simp; try with_reducible rfl)
        | fail "take 5"
      try simp only [Act.put, List.setIfInBounds_toArray, List.set_cons_zero, List.set_cons_succ]
      first
        | (refine wpAnyH_take (i := 6) (v := ?_) at6 (by kernel_rfl) (by kernel_rfl) (by kernel_rfl) (fun _ _ _ h => h) (Or.inl ⟨by rfl, ?_⟩) (by assumption) ?_
           rotate_left
           · intro w hSw; (try dsimp only at hSw); go_simp; try with_reducible rfl)
        | fail "take 6"
      try simp only [Act.put, List.setIfInBounds_toArray, List.set_cons_zero, List.set_cons_succ]
      first
        | (refine wpAnyH_take (i := 7) (v := ?_) at7 (by kernel_rfl) (by kernel_rfl) (by kernel_rfl) (fun _ _ _ h => h) (Or.inl ⟨by rfl, ?_⟩) (by assumption) ?_
           rotate_left
           · intro w hSw; (try dsimp only at hSw); go_simp; try with_reducible rfl)
        | fail "take 7"
      try simp only [Act.put, List.setIfInBounds_toArray, List.set_cons_zero, List.set_cons_succ]
      first
        | (refine wpAnyH_take (i := 8) (v := ?_) at8 (by kernel_rfl) (by kernel_rfl) (by kernel_rfl) (fun _ _ _ h => h) (Or.inl ⟨by rfl, ?_⟩) (by assumption) ?_
           rotate_left
           · intro w hSw; (try dsimp only at hSw); go_simp; try with_reducible rfl)
        | fail "take 8"
      try simp only [Act.put, List.setIfInBounds_toArray, List.set_cons_zero, List.set_cons_succ]
      first
        | (refine wpAnyH_take (i := 9) (v := ?_) at9 (by kernel_rfl) (by kernel_rfl) (by kernel_rfl) (fun _ _ _ h => h) (Or.inl ⟨by rfl, ?_⟩) (by assumption) ?_
           rotate_left
           · intro w hSw; (try dsimp only at hSw); go_simp; try with_reducible rfl)
        | fail "take 9"
      try simp only [Act.put, List.setIfInBounds_toArray, List.set_cons_zero, List.set_cons_succ]
      first
        | (refine wpAnyH_take (i := 10) (v := ?_) at10 (by kernel_rfl) (by kernel_rfl) (by kernel_rfl) (fun _ _ _ h => h) (Or.inl ⟨by rfl, ?_⟩) (by assumption) ?_
           rotate_left
           · intro w hSw; (try dsimp only at hSw); go_simp; try with_reducible rfl)
        | fail "take 10"
      try simp only [Act.put, List.setIfInBounds_toArray, List.set_cons_zero, List.set_cons_succ]
      first
        | (refine wpAnyH_take (i := 11) (v := ?_) at11 (by kernel_rfl) (by kernel_rfl) (by kernel_rfl) (fun _ _ _ h => h) (Or.inl ⟨by rfl, ?_⟩) (by assumption) ?_
           rotate_left
           · intro w hSw; (try dsimp only at hSw); go_simp; try with_reducible rfl)
        | fail "take 11"
      try simp only [Act.put, List.setIfInBounds_toArray, List.set_cons_zero, List.set_cons_succ]
      first
        | (refine wpAnyH_take (i := 12) (v := ?_) at12 (by kernel_rfl) (by kernel_rfl) (by kernel_rfl) (fun _ _ _ h => h) (Or.inl ⟨by rfl, ?_⟩) (by assumption) ?_
           rotate_left
           · intro w hSw; (try dsimp only at hSw); go_simp; try with_reducible rfl)
        | fail "take 12"
      try simp only [Act.put, List.setIfInBounds_toArray, List.set_cons_zero, List.set_cons_succ]
      first
        | (refine wpAnyH_take (i := 13) (v := ?_) at13 (by kernel_rfl) (by kernel_rfl) (by kernel_rfl) (fun _ _ _ h => h) (Or.inl ⟨by rfl, ?_⟩) (by assumption) ?_
           rotate_left
           · intro w hSw; (try dsimp only at hSw); go_simp; try with_reducible rfl)
        | fail "take 13"
      try simp only [Act.put, List.setIfInBounds_toArray, List.set_cons_zero, List.set_cons_succ]
      refine tail_list (is := [14, 15, 16]) (l := _) (by kernel_rfl) (by kernel_rfl) (by kernel_rfl) rfl ?_
      simp only [List.filterMap_cons, List.filterMap_nil, at14, at15, at16]
      show wpList _ _ _ (_ :: _) _ _
      have hst := hidden (hrow'.out.stored (k * 2 + 1) (.int .i64 (2 * ck))).1
      have hS2 := hidden ((hS.out.trans (SaveL.of_below (Below.refl _ _).drew)).trans (SaveL.setCell ⟨g, k * 2 + 1, none⟩ (.int .i64 (2 * ck)) (hmem.out g rfl)))
      have hJ2 : Hid (RMt B ((wr.drew).setCell ⟨g, k * 2 + 1, none⟩ (.int .i64 (2 * ck))) b (some ⟨g, 0, none⟩) c m (halfC L (k + 1))) := by
        refine ⟨?_, ?_, hlow⟩
        · rw [hlen2.out, Below.heap_setCell _ _ _ b hbg]; exact hbox'.out
        · rw [← hset.out, List.length_set, hfl.out]; exact hst.out
      clear hst hrow' hbox' hS hset hfl hlen2
      go_wp2
      go_roundw
      case rel => exact ⟨k + 1, by go_num, by omega, hJ2, hS2⟩
      case measure => simp [intOf]; omega
    · have hlt' : ¬ (k : Int) < (N : Int) := by omega
      obtain rfl : k = N := by omega
      have hfin : Hid (RMt B wr b a c m (dblC L)) := by
        show RMt ..
        rw [← halfC_all L, ← hN.out]; exact hJ.out
      clear hJ
      go_wp2
      go_ret
      exact ⟨rfl, hfin, hS⟩
end Go.Proofs.YtoijkbnjcnedjaaDoor
