/-
  METERS: the reference's Lines, by contract.
-/
import Derived.Test.YtoijkbnjcnedjaaDoorMet8
namespace Go.Proofs.YtoijkbnjcnedjaaDoor
open Go.ChangeShapes Go.WideShapes Go.ChangeAt Go.RowKit Go.Maps

set_option maxRecDepth 100000 in
set_option maxHeartbeats 6400000 in
theorem rlines_c {B : Nat} {b : Nat} {a : Option Addr} {c : Nat} {m : Int} {L : List Ct} (w : World) (h : RMt B w b a c m L) (hF : Fine m L) (hm2 : m ≤ 1000000000000) (hlen : L.length ≤ 100000) :
    Calls Tryd.prog 14 #[.pointer (some ⟨b, 0, none⟩)] w fun e w' => ∃ a c, e = .returned (.slice a (linesC L).length c) ∧
      w'.ownsRow w.heap.size 9 1 (.slice a (linesC L).length c) (linesC L).length (tx (linesC L)) ∧ Below w.heap.size w w' := by
  obtain ⟨i0, hi, hz0, hz1, hz2⟩ := info_parts infoTy
  have hS0 := hF.nonneg
  have hS1 := hF.small
  obtain ⟨N, hN⟩ : ∃ N, N = L.length := ⟨_, rfl⟩
  have hlenL := hidden hlen
  rw [← hN] at hlen
  have hbl := (Array.getElem?_eq_some_iff.1 h.box).1
  replace hN := hidden hN
  replace h := hidden h
  replace hF := hidden hF
  have hR0 := hidden (World.ownsRow_lit (base := w.heap.size) (e := 9) (size := 1) w #[] 0 (Nat.le_refl _) (by decide) rfl)
  have hB0 : Hid (Below w.heap.size w (w.alloc (.cells #[] 9))) := (Below.refl _ _).alloc (Nat.le_refl _) _
  go_enter Tryd.func14, Tryd.ntmps14
  go_wp2
  go_loopw [3, 4] (fun v i x => ∃ k : Nat, i = .int .i64 k ∧ k ≤ N ∧ Hid (x.ownsRow w.heap.size 9 1 v k (tx ((L.take k).map lineC))) ∧ Hid (Below w.heap.size w x)) (fun _ i _ => N - (intOf i).toNat)
  case atStart => exact ⟨0, rfl, Nat.zero_le _, hR0.out, hB0⟩
  case round =>
    clear hR0 hB0
    obtain ⟨k, rfl, hk, hrow, hB⟩ := hrel
    have hM2 := hidden (h.out.below hB.out)
    obtain ⟨⟨q0, q1⟩, -⟩ := rbox hM2.out.box
    rw [← hN.out] at q0
    obtain ⟨va, vc, rfl⟩ := own_shapeT hrow.out
    by_cases hlt : k < N
    · have hlt' : (k : Int) < (N : Int) := by omega
      have hkL : k < L.length := by rw [← hN.out]; exact hlt
      obtain ⟨g, off, rfl, hg, d0, d1⟩ := count_at hM2.out.at hkL
      have hin : (L.getD k Ct.none) ∈ L := by
        rw [show L.getD k Ct.none = L[k] by simp [List.getD, hkL]]
        exact List.getElem_mem _
      have hps := hF.out.pos _ hin
      have hks := (sum_pos hF.out.pos).2 _ hin
      have htk : Hid ((L.take (k + 1)).map lineC = (L.take k).map lineC ++ [lineC (L.getD k Ct.none)]) := by
        show _ = _
        rw [take_snocR L Ct.none k hkL, List.map_append]; rfl
      generalize L.getD k Ct.none = cc at *
      obtain ⟨cs, ck⟩ := cc
      simp only at hps hks d0 d1
      have hbnd : -9223372036854775808 ≤ ck ∧ ck ≤ 9223372036854775807 := by omega
      have hit := rNum_c ck wr.drew hbnd.1 hbnd.2
      have hI : (bt (Lib.itoa ck)).size ≤ 21 := by rw [bt_size]; exact itoa_len _ hbnd.1 hbnd.2
      have hline : Hid (lineC ⟨cs, ck⟩ = (cs ++ ⟨#[32]⟩) ++ bt (Lib.itoa ck)) := hidden rfl
      have hcsz : cs.size ≤ 40 := hps.2
      clear hps hks hin
      generalize lineC ⟨cs, ck⟩ = ln at *
      generalize bt (Lib.itoa ck) = I at *
      have e32 : (⟨#[32]⟩ : ByteArray).size = 1 := rfl
      have ho1 : ¬ 9223372036854775807 < cs.size + (⟨#[32]⟩ : ByteArray).size := by rw [e32]; omega
      have ho2 : ¬ 9223372036854775807 < (cs ++ ⟨#[32]⟩ : ByteArray).size + I.size := by rw [ByteArray.size_append, e32]; omega
      have ho3 : ¬ 9223372036854775807 < cs.size + 1 := by omega
      have ho4 : ¬ 9223372036854775807 < cs.size + 1 + I.size := by omega
      have hcnt : Hid (((L.take k).map lineC).length = k) := by show _ = _; rw [List.length_map, List.length_take]; omega
      have hln : (cs ++ ⟨#[32]⟩ : ByteArray) ++ I = ln := hline.out.symm
      clear hM2 q1 hline
      go_wp2_with fail
      refine wp_region_parts (S := (fun z => z.cell? ⟨b, 0, none⟩ = some (.slice (some ⟨g, off, none⟩) N c) ∧ z.cell? ⟨g, off + k * 2, none⟩ = some (.string cs) ∧ z.cell? ⟨g, off + k * 2 + 1, none⟩ = some (.int .i64 ck))) #[false, false, false, false, false, false, false, false, false, false, false, false, false, false, false, false, false, false, false, false, false, true, true] #[true, true, true, true, true, true, true, true, true, true, true, true, true, true, true, true, true, true, true, true, true, false, false] [21, 22] 40 21 (by kernel_rfl) (by kernel_rfl) (by kernel_rfl) (by rfl) ?_ (fun hHeld => ?_)
      · go_keep
      first
        | (refine wpAnyH_take (i := 0) (v := ?_) at0 (by kernel_rfl) (by kernel_rfl) (by kernel_rfl) (fun _ _ _ h => h) (Or.inl ⟨by rfl, ?_⟩) (by assumption) ?_
           rotate_left
           · intro w hSw; (try dsimp only at hSw); go_simp; try with_reducible rfl)
        | fail "take 0"
      try simp only [Act.put, List.setIfInBounds_toArray, List.set_cons_zero, List.set_cons_succ]
      first
        | (refine wpAnyH_take (i := 1) (v := ?_) at1 (by kernel_rfl) (by kernel_rfl) (by kernel_rfl) (fun _ _ _ h => h) (Or.inl ⟨by rfl, ?_⟩) (by assumption) ?_
           rotate_left
           · intro w hSw; (try dsimp only at hSw); go_simp; try with_reducible rfl)
        | fail "take 1"
      try simp only [Act.put, List.setIfInBounds_toArray, List.set_cons_zero, List.set_cons_succ]
      first
        | (refine wpAnyH_take (i := 2) (v := ?_) at2 (by kernel_rfl) (by kernel_rfl) (by kernel_rfl) (fun _ _ _ h => h) (Or.inl ⟨by rfl, ?_⟩) (by assumption) ?_
           rotate_left
           · intro w hSw; (try dsimp only at hSw); go_simp; try with_reducible rfl)
        | fail "take 2"
      try simp only [Act.put, List.setIfInBounds_toArray, List.set_cons_zero, List.set_cons_succ]
      first
        | (refine wpAnyH_take (i := 3) (v := ?_) at3 (by kernel_rfl) (by kernel_rfl) (by kernel_rfl) (fun _ _ _ h => h) (Or.inl ⟨by rfl, ?_⟩) (by assumption) ?_
           rotate_left
           · intro w hSw; (try dsimp only at hSw); go_simp; try with_reducible rfl)
        | fail "take 3"
      try simp only [Act.put, List.setIfInBounds_toArray, List.set_cons_zero, List.set_cons_succ]
      first
        | (refine wpAnyH_take (i := 4) (v := ?_) at4 (by kernel_rfl) (by kernel_rfl) (by kernel_rfl) (fun _ _ _ h => h) (Or.inl ⟨by rfl, ?_⟩) (by assumption) ?_
           rotate_left
           · intro w hSw; (try dsimp only at hSw); go_simp; try with_reducible rfl)
        | fail "take 4"
      try simp only [Act.put, List.setIfInBounds_toArray, List.set_cons_zero, List.set_cons_succ]
      first
        | (refine wpAnyH_take (i := 5) (v := ?_) at5 (by kernel_rfl) (by kernel_rfl) (by kernel_rfl) (fun _ _ _ h => h) (Or.inl ⟨by rfl, ?_⟩) (by assumption) ?_
           rotate_left
           · intro w hSw; (try dsimp only at hSw); go_simp; try with_reducible rfl)
        | fail "take 5"
      try simp only [Act.put, List.setIfInBounds_toArray, List.set_cons_zero, List.set_cons_succ]
      first
        | (refine wpAnyH_take (i := 6) (v := ?_) at6 (by kernel_rfl) (by kernel_rfl) (by kernel_rfl) (fun _ _ _ h => h) (Or.inl ⟨by rfl, ?_⟩) (by assumption) ?_
           rotate_left
           · intro w hSw; (try dsimp only at hSw); go_simp; try with_reducible rfl)
        | fail "take 6"
      try simp only [Act.put, List.setIfInBounds_toArray, List.set_cons_zero, List.set_cons_succ]
      first
        | (refine wpAnyH_take (i := 7) (v := ?_) at7 (by kernel_rfl) (by kernel_rfl) (by kernel_rfl) (fun _ _ _ h => h) (Or.inl ⟨by rfl, ?_⟩) (by assumption) ?_
           rotate_left
           · intro w hSw; (try dsimp only at hSw); go_simp; try with_reducible rfl)
        | fail "take 7"
      try simp only [Act.put, List.setIfInBounds_toArray, List.set_cons_zero, List.set_cons_succ]
      first
        | (refine wpAnyH_take (i := 8) (v := ?_) at8 (by kernel_rfl) (by kernel_rfl) (by kernel_rfl) (fun _ _ _ h => h) (Or.inl ⟨by rfl, ?_⟩) (by assumption) ?_
           rotate_left
           · intro w hSw; (try dsimp only at hSw); go_simp; try with_reducible rfl)
        | fail "take 8"
      try simp only [Act.put, List.setIfInBounds_toArray, List.set_cons_zero, List.set_cons_succ]
      first
        | (refine wpAnyH_take (i := 9) (v := ?_) at9 (by kernel_rfl) (by kernel_rfl) (by kernel_rfl) (fun _ _ _ h => h) (Or.inl ⟨by rfl, ?_⟩) (by assumption) ?_
           rotate_left
           · intro w hSw; (try dsimp only at hSw); go_simp; try with_reducible rfl)
        | fail "take 9"
      try simp only [Act.put, List.setIfInBounds_toArray, List.set_cons_zero, List.set_cons_succ]
      first
        | (refine wpAnyH_take (i := 10) (v := ?_) at10 (by kernel_rfl) (by kernel_rfl) (by kernel_rfl) (fun _ _ _ h => h) (Or.inl ⟨by rfl, ?_⟩) (by assumption) ?_
           rotate_left
           · intro w hSw; (try dsimp only at hSw); go_simp; try with_reducible rfl)
        | fail "take 10"
      try simp only [Act.put, List.setIfInBounds_toArray, List.set_cons_zero, List.set_cons_succ]
      first
        | (refine wpAnyH_take (i := 11) (v := ?_) at11 (by kernel_rfl) (by kernel_rfl) (by kernel_rfl) (fun _ _ _ h => h) (Or.inl ⟨by rfl, ?_⟩) (by assumption) ?_
           rotate_left
           · intro w hSw; (try dsimp only at hSw); go_simp; try with_reducible rfl)
        | fail "take 11"
      try simp only [Act.put, List.setIfInBounds_toArray, List.set_cons_zero, List.set_cons_succ]
      first
        | (refine wpAnyH_take (i := 12) (v := ?_) at12 (by kernel_rfl) (by kernel_rfl) (by kernel_rfl) (fun _ _ _ h => h) (Or.inl ⟨by rfl, ?_⟩) (by assumption) ?_
           rotate_left
           · intro w hSw; (try dsimp only at hSw); go_simp; try with_reducible rfl)
        | fail "take 12"
      try simp only [Act.put, List.setIfInBounds_toArray, List.set_cons_zero, List.set_cons_succ]
      first
        | (refine wpAnyH_take (i := 13) (v := ?_) at13 (by kernel_rfl) (by kernel_rfl) (by kernel_rfl) (fun _ _ _ h => h) (Or.inl ⟨by rfl, ?_⟩) (by assumption) ?_
           rotate_left
           · intro w hSw; (try dsimp only at hSw); go_simp; try with_reducible rfl)
        | fail "take 13"
      try simp only [Act.put, List.setIfInBounds_toArray, List.set_cons_zero, List.set_cons_succ]
      first
        | (refine wpAnyH_take (i := 14) (v := ?_) at14 (by kernel_rfl) (by kernel_rfl) (by kernel_rfl) (fun _ _ _ h => h) (Or.inl ⟨by rfl, ?_⟩) (by assumption) ?_
           rotate_left
           · intro w hSw; (try dsimp only at hSw); go_simp; try with_reducible rfl)
        | fail "take 14"
      try simp only [Act.put, List.setIfInBounds_toArray, List.set_cons_zero, List.set_cons_succ]
      first
        | (refine wpAnyH_take (i := 15) (v := ?_) at15 (by kernel_rfl) (by kernel_rfl) (by kernel_rfl) (fun _ _ _ h => h) (Or.inl ⟨by rfl, ?_⟩) (by assumption) ?_
           rotate_left
           · intro w hSw; (try dsimp only at hSw); go_simp; try with_reducible rfl)
        | fail "take 15"
      try simp only [Act.put, List.setIfInBounds_toArray, List.set_cons_zero, List.set_cons_succ]
      first
        | (refine wpAnyH_take (i := 16) (v := ?_) at16 (by kernel_rfl) (by kernel_rfl) (by kernel_rfl) (fun _ _ _ h => h) (Or.inl ⟨by rfl, ?_⟩) (by assumption) ?_
           rotate_left
           · intro w hSw; (try dsimp only at hSw); go_simp; try with_reducible rfl)
        | fail "take 16"
      try simp only [Act.put, List.setIfInBounds_toArray, List.set_cons_zero, List.set_cons_succ]
      first
        | (refine wpAnyH_take (i := 17) (v := ?_) at17 (by kernel_rfl) (by kernel_rfl) (by kernel_rfl) (fun _ _ _ h => h) (Or.inl ⟨by rfl, ?_⟩) (by assumption) ?_
           rotate_left
           · intro w hSw; (try dsimp only at hSw); go_simp; try with_reducible rfl)
        | fail "take 17"
      try simp only [Act.put, List.setIfInBounds_toArray, List.set_cons_zero, List.set_cons_succ]
      refine wpAnyH_ready (rs := [18]) (by kernel_rfl) (by simp) ?_
      refine AllReadyH.cons (i := 18) at18 (fun K hK => ?_) AllReadyH.nil
      go_simp
      refine hit.mono ?_
      rintro e z ⟨rfl, rfl⟩
      go_wp2_with fail
      refine hK.out _ _ ?_ (fun hNew => ?_)
      · first | exact hHeld | go_keep
      clear hK K hHeld
      have hHeld := hNew
      clear hNew
      try simp only [Act.put, List.setIfInBounds_toArray, List.set_cons_zero, List.set_cons_succ]
      first
        | (refine wpAnyH_take (i := 19) (v := ?_) at19 (by kernel_rfl) (by kernel_rfl) (by kernel_rfl) (fun _ _ _ h => h) (Or.inl ⟨by rfl, ?_⟩) (by assumption) ?_
           rotate_left
           · intro w hSw; (try dsimp only at hSw); go_simp; try with_reducible rfl)
        | fail "take 19"
      try simp only [Act.put, List.setIfInBounds_toArray, List.set_cons_zero, List.set_cons_succ]
      refine wpAnyH_ready (rs := [20]) (by kernel_rfl) (by simp) ?_
      refine AllReadyH.cons (i := 20) at20 (fun K hK => ?_) AllReadyH.nil
      go_simp
      refine hK.out _ _ ?_ (fun hNew => ?_)
      · first | exact hHeld | go_keep
      clear hK K hHeld
      have hHeld := hNew
      clear hNew
      try simp only [Act.put, List.setIfInBounds_toArray, List.set_cons_zero, List.set_cons_succ]
      refine tail_list (is := [21, 22]) (l := _) (by kernel_rfl) (by kernel_rfl) (by kernel_rfl) rfl ?_
      simp only [List.filterMap_cons, List.filterMap_nil, at21, at22]
      show wpList _ _ _ (_ :: _) _ _
      go_wp2_with (first
        | (at_builtin; go_loud (refine wpList_append_own _ rfl _ _ 39 rfl w.heap.size 9 i0 (.string ⟨#[]⟩) 1 16 Tryd.underlying39 hi hz0 hz1 hz2 rfl (by decide) _ _ _ rfl (hrow.out.alloc _) ⟨wr.heap.size, 0, none⟩ 1 1 [.string ln] rfl rfl (cells_new wr.drew [_] _) (by simp [Value.oneCell']) (by unfold maxLen; omega) (by omega) (by have := hB.out.size; simp; omega) ?_); intro v' w4 hown' hg4 hnil4)
        | fail)
      have hB4 := hidden ((hB.out.drew.alloc hB.out.size (.cells #[.string ln] 9)).grown hg4 (by have := hB.out.size; simp; omega) (fun j hj => (hrow.out.lt j hj).1))
      rw [show tx ((L.take k).map lineC) ++ [.string ln] = tx ((L.take (k + 1)).map lineC) by rw [htk.out]; simp [tx]] at hown'
      replace hown' := hidden hown'
      clear hg4 hnil4 hrow htk hcnt
      go_wp2
      go_roundw
      case rel => exact ⟨k + 1, by go_num, by omega, hown', hB4⟩
      case measure => simp [intOf]; omega
    · have hlt' : ¬ (k : Int) < (N : Int) := by omega
      obtain rfl : k = N := by omega
      have htk : L.take k = L := List.take_of_length_le (by rw [← hN.out]; exact Nat.le_refl _)
      rw [htk] at hrow
      have hall := rall_c wr hM2.out hF.out hm2 (by have := hlenL.out; omega)
      have hit := rNum_c (sumC L) wr (by omega) (by omega)
      have hI : (bt (Lib.itoa (sumC L))).size ≤ 21 := by rw [bt_size]; exact itoa_len _ (by omega) (by omega)
      have hlc : Hid (linesC L = L.map lineC ++ [(⟨#[97, 108, 108, 32]⟩ : ByteArray) ++ bt (Lib.itoa (sumC L))]) := hidden rfl
      have hll : Hid ((linesC L).length = k + 1) := by show _ = _; rw [linesC_len, ← hN.out]
      have e4 : (⟨#[97, 108, 108, 32]⟩ : ByteArray).size = 4 := rfl
      generalize bt (Lib.itoa (sumC L)) = I at *
      obtain ⟨LL, hLL⟩ : ∃ LL, Hid (linesC L = LL) := ⟨_, hidden rfl⟩
      rw [hLL.out] at hlc hll
      have ho1 : ¬ 9223372036854775807 < (⟨#[97, 108, 108, 32]⟩ : ByteArray).size + I.size := by rw [e4]; omega
      obtain ⟨ln, hln⟩ : ∃ ln, (⟨#[97, 108, 108, 32]⟩ : ByteArray) ++ I = ln := ⟨_, rfl⟩
      rw [hln] at hlc
      clear hM2
      go_wp2_with fail
      refine hall.mono ?_
      rintro e w5 ⟨rfl, rfl⟩
      go_wp2_with fail
      refine hit.mono ?_
      rintro e w5 ⟨rfl, rfl⟩
      clear hall hit
      go_wp2_with (first
        | (at_builtin; go_loud (refine wpList_append_own _ rfl _ _ 39 rfl w.heap.size 9 i0 (.string ⟨#[]⟩) 1 16 Tryd.underlying39 hi hz0 hz1 hz2 rfl (by decide) _ _ _ rfl (hrow.out.alloc _) ⟨_, 0, none⟩ 1 1 [.string ln] rfl rfl (cells_new _ [_] _) (by simp [Value.oneCell']) (by unfold maxLen; omega) (by omega) (by have := hB.out.size; simp; omega) ?_); intro v' w4 hown' hg4 hnil4)
        | fail)
      have hB4 := hidden ((hB.out.alloc hB.out.size (.cells #[.string ln] 9)).grown hg4 (by have := hB.out.size; simp; omega) (fun j hj => (hrow.out.lt j hj).1))
      rw [show tx (L.map lineC) ++ [.string ln] = tx LL by rw [hlc.out]; simp [tx], ← hll.out] at hown'
      obtain ⟨a9, c9, rfl⟩ := own_shapeT hown'
      have hfin := hidden hown'
      clear hg4 hnil4 hrow hown'
      go_wp2
      go_ret
      exact ⟨a9, c9, by rw [hLL.out]; rfl, by rw [hLL.out]; exact hfin.out, hB4.out⟩
end Go.Proofs.YtoijkbnjcnedjaaDoor
