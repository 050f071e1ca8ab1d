/-
  METERS: Join and Clear, by contract.
-/
import Derived.Test.YtoijkbnjcnedjaaDoorMet3
import Derived.Test.YtoijkbnjcnedjaaDoorParts
import Derived.Test.YtoijkbnjcnedjaaDoorRec
import Derived.Test.YtoijkbnjcnedjaaDoorSl
import Derived.Deep.RegionHeld3
import Derived.Deep.AppendLies
namespace Go.Proofs.YtoijkbnjcnedjaaDoor
open Go.ChangeShapes Go.WideShapes Go.ChangeAt Go.RowKit Go.Maps

noncomputable def joinC (L M : List Ct) : List Ct := M.foldl (fun a c => addC c.s c.k a) L
theorem joinC_snoc (L M : List Ct) (k : Nat) (hk : k < M.length) : joinC L (M.take (k + 1)) = addC (M.getD k Ct.none).s (M.getD k Ct.none).k (joinC L (M.take k)) := by
  unfold joinC
  rw [take_snocR M Ct.none k hk, List.foldl_append]
  rfl
theorem sum_join : ∀ (M L : List Ct), sumC (joinC L M) = sumC L + sumC M
  | [], L => by simp [joinC, sumC]
  | c :: r, L => by
    have := sum_join r (addC c.s c.k L)
    rw [sum_add] at this
    show sumC (joinC (addC c.s c.k L) r) = _
    rw [this]; simp only [sumC]; omega
theorem sum_app : ∀ (M R : List Ct), sumC (M ++ R) = sumC M + sumC R
  | [], R => by simp [sumC]
  | c :: r, R => by simp only [List.cons_append, sumC, sum_app r R]; omega
theorem sum_takeC (M : List Ct) (k : Nat) (h : ∀ c ∈ M, 0 < c.k ∧ c.s.size ≤ 40) : sumC (M.take k) ≤ sumC M := by
  have h1 := sum_app (M.take k) (M.drop k)
  rw [List.take_append_drop] at h1
  have h2 := (sum_pos (L := M.drop k) (fun c hc => h c (List.mem_of_mem_drop hc))).1
  omega
theorem Fine.join {m : Int} {L : List Ct} (h : Fine m L) : ∀ M : List Ct, (∀ c ∈ M, 0 < c.k ∧ c.s.size ≤ 40) → sumC M ≤ m - sumC L → Fine m (joinC L M)
  | [], _, _ => h
  | c :: r, hp, hs => by
    have hc := hp c List.mem_cons_self
    have hr := (sum_pos (L := r) (fun d hd => hp d (List.mem_cons_of_mem _ hd))).1
    simp only [sumC] at hs
    exact (h.add hc.1 hc.2 (by omega)).join r (fun d hd => hp d (List.mem_cons_of_mem _ hd)) (by rw [sum_add]; omega)
/-- A row that is filled. -/
def prow (d : Value) (xs : List Value) (k : Nat) : List Value := xs.take k ++ List.replicate (xs.length - k) d
theorem prow_len (d : Value) (xs : List Value) (k : Nat) (hk : k ≤ xs.length) : (prow d xs k).length = xs.length := by
  simp [prow, List.length_take]; omega
theorem prow_zero (d : Value) (xs : List Value) : prow d xs 0 = List.replicate xs.length d := by simp [prow]
theorem prow_full (d : Value) (xs : List Value) : prow d xs xs.length = xs := by simp [prow]
theorem prow_set (d : Value) (xs : List Value) (k : Nat) (y : Value) (hk : k < xs.length) (hy : xs[k]? = some y) : (prow d xs k).set k y = prow d xs (k + 1) := by
  apply List.ext_getElem?
  intro j
  rw [List.getElem?_set]
  have hl := prow_len d xs k (by omega)
  by_cases hj : k = j
  · subst hj
    rw [if_pos rfl, if_pos (by rw [hl]; exact hk)]
    unfold prow
    rw [List.getElem?_append_left (by simp [List.length_take]; omega)]
    simp [hy]
  · rw [if_neg hj]
    unfold prow
    by_cases hlt : j < k
    · rw [List.getElem?_append_left (by simp [List.length_take]; omega), List.getElem?_append_left (by simp [List.length_take]; omega)]
      simp [hlt, show j < k + 1 by omega]
    · rw [List.getElem?_append_right (by simp [List.length_take]; omega), List.getElem?_append_right (by simp [List.length_take]; omega)]
      simp only [List.length_take, List.getElem?_replicate]
      by_cases h2 : j < xs.length
      · rw [if_pos (by omega), if_pos (by omega)]
      · rw [if_neg (by omega), if_neg (by omega)]
theorem infoI : (Tryd.prog.info? 3).map (fun i => (i.zero, i.size, i.bytes)) = some (some (.int .i64 0), 1, 8) := by kernel_rfl
def ksC (L : List Ct) : List Value := L.map fun c => .int .i64 c.k
theorem ksC_len (L : List Ct) : (ksC L).length = L.length := by simp [ksC]
theorem ksC_at (L : List Ct) (k : Nat) (hk : k < L.length) : (ksC L)[k]? = some (.int .i64 (L.getD k Ct.none).k) := by simp [ksC, hk]
set_option maxRecDepth 100000 in
set_option maxHeartbeats 3200000 in
theorem mjoinFull_c {b g n b2 g2 n2 : Nat} {D D2 : DataW Unit} {m m2 : Int} {L M : List Ct} (w : World) (hM : MtAt w b g n D m L) (hO : MtAt w b2 g2 n2 D2 m2 M) (hF : Fine m L) (hm : 0 ≤ m) (hm2 : m ≤ 1000000000000) (hful : m - sumC L < sumC M) :
    Calls Tryd.prog 10 #[.pointer (some ⟨b, 0, none⟩), .pointer (some ⟨b2, 0, none⟩)] w fun e w' => e = .returned (.int .i64 3) ∧ Hid (Below w.heap.size w w') := by
  obtain ⟨⟨q0, q1, q2⟩, -⟩ := cell_map hO.box
  have hleft := mleft_c w.drew (hM.below (Below.refl _ _).drew) hm hm2 hF.nonneg hF.small
  clear hM hO hF
  go_enter Tryd.func10, Tryd.ntmps10
  go_wp2
  go_region_held3 (fun z => z.cell? ⟨b2, 1, none⟩ = some (.int .i64 (sumC M))) (first | assumption | go_keep) (first
    | (go_at_call 18; refine hleft.mono ?_; rintro e w1 ⟨rfl, hB⟩; have hc : w1.cell? ⟨b2, 1, none⟩ = some (.int .i64 (sumC M)) := (hB.out.cell (p := ⟨b2, 1, none⟩) (World.block_lt_of_cell? _ _ q1)).trans q1)
    | fail)
  go_wp2
  go_ret
  exact ⟨rfl, (Below.refl _ _).drew.trans hB.out⟩
set_option maxRecDepth 100000 in
set_option maxHeartbeats 6400000 in
theorem mjoin_c {b g n b2 g2 n2 : Nat} {D D2 : DataW Unit} {m m2 : Int} {L M : List Ct} (w : World) (hM : MtAt w b g n D m L) (hO : MtAt w b2 g2 n2 D2 m2 M) (hF : Fine m L) (hG : Fine m2 M) (hm : 0 ≤ m) (hm2 : m ≤ 1000000000000) (hful : sumC M ≤ m - sumC L) (hbg : b ≠ g) (hn : n ≤ 100000) (hl : M.length ≤ 1000) :
    Calls Tryd.prog 10 #[.pointer (some ⟨b, 0, none⟩), .pointer (some ⟨b2, 0, none⟩)] w fun e w' => ∃ (n' : Nat) (D' : DataW Unit), e = .returned (.int .i64 0) ∧ Hid (MtAt w' b g n' D' m (joinC L M)) ∧ Hid (SaveL [b, g] w w') ∧ Hid (n' ≤ n + M.length) := by
  obtain ⟨i0, hi, hz0, hz1, hz2⟩ := info_parts infoI
  obtain ⟨⟨q0, q1, q2⟩, -⟩ := cell_map hO.box
  have hleft := mleft_c w.drew (hM.below (Below.refl _ _).drew) hm hm2 hF.nonneg hF.small
  have hnle : ¬ m - sumC L < sumC M := by omega
  have hbl : Hid (b < w.heap.size) := (Array.getElem?_eq_some_iff.1 hM.box).1
  have hgl : Hid (g < w.heap.size) := by obtain ⟨es, cl, hh, _⟩ := hM.own; exact (Array.getElem?_eq_some_iff.1 hh).1
  obtain ⟨N, hN⟩ : ∃ N, N = M.length := ⟨_, rfl⟩
  have hnm := fun z (hz : Below w.heap.size w z) => mnames_c z (hO.below hz) (by omega) hG.strict
  rw [← hN] at hnm hl
  replace hN := hidden hN
  replace hM := hidden hM
  replace hO := hidden hO
  replace hF := hidden hF
  replace hG := hidden hG
  replace hful := hidden hful
  go_enter Tryd.func10, Tryd.ntmps10
  go_wp2
  go_region_held3 (fun z => z.cell? ⟨b2, 1, none⟩ = some (.int .i64 (sumC M))) (first | assumption | go_keep) (first
    | (go_at_call 18; refine hleft.mono ?_; rintro e w0 ⟨rfl, hB0⟩; have hc : w0.cell? ⟨b2, 1, none⟩ = some (.int .i64 (sumC M)) := (hB0.out.cell (p := ⟨b2, 1, none⟩) (World.block_lt_of_cell? _ _ q1)).trans q1)
    | fail)
  have hBa : Hid (Below w.heap.size w w0) := (Below.refl _ _).drew.trans hB0.out
  have hnm0 := hnm w0 hBa.out
  clear hnm hleft hB0 q0 q1 q2
  go_wp2_with fail
  refine hnm0.mono ?_
  rintro e w1 ⟨gn, capn, rfl, hrow, hB1⟩
  have hrow1 := hidden hrow
  have hBb := hidden (hBa.out.trans (hB1.mono hBa.out.size))
  have hw0 : Hid (w.heap.size ≤ w0.heap.size) := hBa.out.size
  clear hnm0 hrow hB1 hBa hc
  go_wp2_with (refine wpList_make_full _ rfl _ _ 51 rfl w1.heap.size 3 i0 (.int .i64 0) 1 Tryd.underlying51 hi hz0 hz1 .i64 .i64 _ _ N rfl rfl ?d1 ?d2 ?d3 ?d4 ?d5 ?_)
  case d1 => rfl
  case d2 => rfl
  case d3 => rw [hz2]; omega
  case d4 => unfold maxLen; omega
  case d5 => omega
  intro w2 hown2 hgrow2
  have hB2 : Hid (Below w1.heap.size w1 w2) := (Below.refl _ _).grown hgrow2 (Nat.le_refl _) (fun j hj => by cases hj)
  have hown3 : Hid (w2.ownsRow w1.heap.size 3 1 (.slice (some ⟨w1.heap.size, 0, none⟩) N N) N (prow (.int .i64 0) (ksC M) 0)) := by
    show World.ownsRow _ _ _ _ _ _ _
    rw [prow_zero, ksC_len, ← hN.out]
    simpa [madeCells, Value.cells, Nat.mod_one, List.map_const'] using hown2
  clear hown2 hgrow2
  go_wp2
  go_loopw [31] (fun i x => ∃ k : Nat, i = .int .i64 k ∧ k ≤ N ∧ Hid (x.ownsRow w1.heap.size 3 1 (.slice (some ⟨w1.heap.size, 0, none⟩) N N) N (prow (.int .i64 0) (ksC M) k)) ∧ Hid (Below w1.heap.size w1 x)) (fun i _ => N - (intOf i).toNat)
  case atStart => exact ⟨0, rfl, Nat.zero_le _, hown3, hB2⟩
  case round =>
    clear hown3 hB2
    obtain ⟨k, rfl, hk, hown, hB⟩ := hrel
    have hBx := hidden (hBb.out.trans (hB.out.mono hBb.out.size))
    by_cases hlt : k < N
    · have hlt' : (k : Int) < (N : Int) := by omega
      have hkL : k < M.length := by rw [← hN.out]; exact hlt
      have hO2 := hidden (hO.out.below hBx.out)
      obtain ⟨⟨q0, q1, q2⟩, -⟩ := cell_map hO2.out.box
      have hc1 : wr.cell? ⟨gn, k, none⟩ = some (.string (M.getD k Ct.none).s) := by
        have h1 := hrow1.out.cellAt k (by omega)
        rw [tx_getL M k hkL] at h1
        have hgl : gn < w1.heap.size := (hrow1.out.lt gn rfl).2
        exact (hB.out.cell (p := ⟨gn, k, none⟩) hgl).trans h1
      have hin : (M.getD k Ct.none) ∈ M := by
        rw [show M.getD k Ct.none = M[k] by simp [List.getD, hkL]]
        exact List.getElem_mem _
      have hat := hidden (ofC_at M k hG.out.strict hkL)
      have hps := hG.out.pos _ hin
      have hval := hidden (hO2.out.val (M.getD k Ct.none).s)
      have hks := hidden (ksC_at M k hkL)
      generalize M.getD k Ct.none = c at *
      obtain ⟨cs, ck⟩ := c
      simp only at hat hps hval hc1 hks
      have hkey := hidden (key_txt (s := cs) (by unfold maxLen; omega))
      clear hps hin
      obtain ⟨u1, hcs1⟩ : ∃ u, wr.cell? ⟨w1.heap.size, k, none⟩ = some u := ⟨_, by rw [hown.out.cellAt k (by omega)]; exact List.getElem?_eq_getElem (by rw [prow_len _ _ _ (by rw [ksC_len, ← hN.out]; omega), ksC_len, ← hN.out]; exact hlt)⟩
      have hfr : wr.frozen? ⟨w1.heap.size, k, none⟩ = false := hown.out.frozenAt k
      have hst := (hown.out.stored k (.int .i64 ck)).1
      rw [prow_set _ _ _ _ (by rw [ksC_len, ← hN.out]; exact hlt) hks.out] at hst
      replace hst := hidden hst
      have hBs := hidden (hB.out.setCell (p := ⟨w1.heap.size, k, none⟩) (Nat.le_refl _) (.int .i64 ck))
      clear hown
      go_wp2_with (first
        | (at_lookup; go_loud (refine wpList_lookup_own_int _ rfl _ _ 47 rfl 9 3 .i64 lawK Tryd.underlying47 Tryd.underlying3 (zeroInt _) g2 n2 D2 rfl hO2.out.own _ _ rfl hkey.out ?_); intro cc hatc hwc; have hcc := hatc.symm.trans hval.out; simp only [DataW.lit.injEq, Lit.int.injEq, true_and] at hcc; rw [hat.out] at hcc; subst hcc; clear hatc hwc)
        | fail)
      go_roundw
      case rel => exact ⟨k + 1, by go_num, by omega, hst, hBs⟩
      case measure => simp [intOf]; omega
    · have hlt' : ¬ (k : Int) < (N : Int) := by omega
      obtain rfl : k = N := by omega
      have hown4 : Hid (wr.ownsRow w1.heap.size 3 1 (.slice (some ⟨w1.heap.size, 0, none⟩) k k) k (ksC M)) := by
        have h := hown.out
        rw [show prow (.int .i64 0) (ksC M) k = ksC M by have := prow_full (.int .i64 0) (ksC M); rwa [ksC_len, ← hN.out] at this] at h
        exact h
      clear hown hO
      rename World => w5
      have hrow5 := hidden (owns_keepT hrow1.out hB.out)
      have hM5 := hidden (hM.out.below hBx.out)
      have hbl5 : Hid (b < w1.heap.size) := Nat.lt_of_lt_of_le hbl.out hBb.out.size
      have hgl5 : Hid (g < w1.heap.size) := Nat.lt_of_lt_of_le hgl.out hBb.out.size
      clear hB hrow1 hM
      go_wp2
      go_loopw [48] (fun i x => ∃ (j n' : Nat) (D' : DataW Unit), i = .int .i64 j ∧ j ≤ k ∧ Hid (MtAt x b g n' D' m (joinC L (M.take j))) ∧ Hid (SaveL [b, g] w5 x) ∧ Hid (n' ≤ n + j)) (fun i _ => k - (intOf i).toNat)
      case atStart => exact ⟨0, n, D, rfl, Nat.zero_le _, by rw [List.take_zero]; exact hM5, SaveL.refl _ _, Nat.le_refl _⟩
      case round =>
        clear hM5
        obtain ⟨j, n', D', rfl, hj, hM, hS, hn'⟩ := hrel
        by_cases hlt : j < k
        · have hlt2 : (j : Int) < (k : Int) := by omega
          have hkL : j < M.length := by rw [← hN.out]; exact hlt
          have hgnl : gn ≠ b ∧ gn ≠ g ∧ gn < w5.heap.size := by
            have h1 := hrow5.out.lt gn rfl
            exact ⟨fun e => by have := hbl.out; have := hw0.out; omega, fun e => by have := hgl.out; have := hw0.out; omega, h1.2⟩
          have hc1 : wr.cell? ⟨gn, j, none⟩ = some (.string (M.getD j Ct.none).s) := by
            have h1 := hrow5.out.cellAt j (by omega)
            rw [tx_getL M j hkL] at h1
            rw [← h1]
            simp only [World.cell?, hS.out.block gn hgnl.2.2 (by simp [hgnl.1, hgnl.2.1])]
          have hw1l : w1.heap.size ≠ b ∧ w1.heap.size ≠ g ∧ w1.heap.size < w5.heap.size := by
            have h1 := hown4.out.lt _ rfl
            exact ⟨fun e => by have := hbl5.out; omega, fun e => by have := hgl5.out; omega, h1.2⟩
          have hc2 : wr.cell? ⟨w1.heap.size, j, none⟩ = some (.int .i64 (M.getD j Ct.none).k) := by
            have h1 := hown4.out.cellAt j (by omega)
            rw [ksC_at M j hkL] at h1
            rw [← h1]
            simp only [World.cell?, hS.out.block w1.heap.size hw1l.2.2 (by simp [hw1l.1, hw1l.2.1])]
          have hin : (M.getD j Ct.none) ∈ M := by
            rw [show M.getD j Ct.none = M[j] by simp [List.getD, hkL]]
            exact List.getElem_mem _
          have hps := hG.out.pos _ hin
          have hJ : Hid (Fine m (joinC L (M.take j))) := hF.out.join _ (fun c hc => hG.out.pos c (List.mem_of_mem_take hc)) (Int.le_trans (sum_takeC M j hG.out.pos) hful.out)
          have hJ2 : Hid (Fine m (joinC L (M.take (j + 1)))) := hF.out.join _ (fun c hc => hG.out.pos c (List.mem_of_mem_take hc)) (Int.le_trans (sum_takeC M (j + 1) hG.out.pos) hful.out)
          have hsn := hidden (joinC_snoc L M j hkL)
          rw [hsn.out] at hJ2
          generalize M.getD j Ct.none = c at *
          obtain ⟨cs, ck⟩ := c
          simp only at hps hc1 hc2 hsn hJ2
          have hkey := hidden (key_txt (s := cs) (by unfold maxLen; omega))
          generalize joinC L (M.take j) = J at *
          have hval := hidden (hM.out.val cs)
          have hof := hJ.out.of cs
          have hJs := hJ.out.small
          have hJ2s := hJ2.out.small
          rw [sum_add] at hJ2s
          have hJn := hJ.out.nonneg
          have hw1 : IntKind.i64.wrap (ofC cs J + ck) = ofC cs J + ck := by rw [IntKind.wrap_i64]; omega
          have hw2 : IntKind.i64.wrap (sumC J + ck) = sumC J + ck := by rw [IntKind.wrap_i64]; omega
          have hwf := hidden (show (Lit.int .i64 (ofC cs J + ck)).wf = true by rw [← hw1, show IntKind.i64.wrap (ofC cs J + ck) = wrap64 (ofC cs J + ck) from Go.IntWalk.i64_left _]; exact wrap64_wf _)
          have hnm : n' < maxLen := by have := hn'.out; unfold maxLen; omega
          have hsm : cs.size ≤ maxLen := by unfold maxLen; omega
          obtain ⟨⟨c0, c1, c2⟩, -⟩ := cell_map hM.out.box
          have hownD : wr.drew.ownsMap Tryd.prog 9 (plainElem Tryd.prog 3) g n' D' := hM.out.own
          obtain ⟨cc, hrun, hatc, hwc⟩ := hownD.lookup_int lawK Tryd.underlying47 Tryd.underlying3 (zeroInt _) hkey.out
          have hcc := hatc.symm.trans hval.out
          simp only [DataW.lit.injEq, Lit.int.injEq, true_and] at hcc
          subst hcc
          clear hatc hwc hF hG hJ2 hin hps hful
          go_wp2_with fail
          refine wp_region_parts (S := (fun z => z.cell? ⟨b, 2, none⟩ = some (.map (some g)) ∧ z.cell? ⟨w1.heap.size, j, none⟩ = some (.int .i64 ck))) #[false, false, false, false, false, false, false, false, false, false, false, true] #[true, true, true, true, true, true, true, true, true, true, true, false] [11] 40 11 (by kernel_rfl) (by kernel_rfl) (by kernel_rfl) (by rfl) ?_ (fun hHeld => ?_)
          · go_keep
          first
            | (refine wpAnyH_take (i := 0) (v := ?_) at0 (by kernel_rfl) (by kernel_rfl) (by kernel_rfl) (fun _ _ _ h => h) (Or.inl ⟨by rfl, ?_⟩) (by assumption) ?_
               rotate_left
               · intro w hSw; (try dsimp only at hSw); go_simp; try with_reducible rfl)
            | fail "take 0"
          try simp only [Act.put, List.setIfInBounds_toArray, List.set_cons_zero, List.set_cons_succ]
          first
            | (refine wpAnyH_take (i := 1) (v := ?_) at1 (by kernel_rfl) (by kernel_rfl) (by kernel_rfl) (fun _ _ _ h => h) (Or.inl ⟨by rfl, ?_⟩) (by assumption) ?_
               rotate_left
               · intro w hSw; (try dsimp only at hSw); go_simp; try with_reducible rfl)
            | fail "take 1"
          try simp only [Act.put, List.setIfInBounds_toArray, List.set_cons_zero, List.set_cons_succ]
          first
            | (refine wpAnyH_take (i := 2) (v := ?_) at2 (by kernel_rfl) (by kernel_rfl) (by kernel_rfl) (fun _ _ _ h => h) (Or.inl ⟨by rfl, ?_⟩) (by assumption) ?_
               rotate_left
               · intro w hSw; (try dsimp only at hSw); go_simp; try with_reducible rfl)
            | fail "take 2"
          try simp only [Act.put, List.setIfInBounds_toArray, List.set_cons_zero, List.set_cons_succ]
          first
            | (refine wpAnyH_take (i := 3) (v := ?_) at3 (by kernel_rfl) (by kernel_rfl) (by kernel_rfl) (fun _ _ _ h => h) (Or.inl ⟨by rfl, ?_⟩) (by assumption) ?_
               rotate_left
               · intro w hSw; (try dsimp only at hSw); go_simp; try with_reducible rfl)
            | fail "take 3"
          try simp only [Act.put, List.setIfInBounds_toArray, List.set_cons_zero, List.set_cons_succ]
          first
            | (refine wpAnyH_take (i := 4) (v := ?_) at4 (by kernel_rfl) (by kernel_rfl) (by kernel_rfl) (fun _ _ _ h => h) (Or.inl ⟨by rfl, ?_⟩) (by assumption) ?_
               rotate_left
               · intro w hSw; (try dsimp only at hSw); go_simp; try with_reducible rfl)
            | fail "take 4"
          try simp only [Act.put, List.setIfInBounds_toArray, List.set_cons_zero, List.set_cons_succ]
          first
            | (refine wpAnyH_take (i := 6) (v := ?_) at6 (by kernel_rfl) (by kernel_rfl) (by kernel_rfl) (fun _ _ _ h => h) (Or.inl ⟨by rfl, ?_⟩) (by assumption) ?_
               rotate_left
               · intro w hSw; (try dsimp only at hSw); go_simp; try with_reducible rfl)
            | fail "take 6"
          try simp only [Act.put, List.setIfInBounds_toArray, List.set_cons_zero, List.set_cons_succ]
          first
            | (refine wpAnyH_take (i := 7) (v := ?_) at7 (by kernel_rfl) (by kernel_rfl) (by kernel_rfl) (fun _ _ _ h => h) (Or.inl ⟨by rfl, ?_⟩) (by assumption) ?_
               rotate_left
               · intro w hSw; (try dsimp only at hSw); go_simp; try with_reducible rfl)
            | fail "take 7"
          try simp only [Act.put, List.setIfInBounds_toArray, List.set_cons_zero, List.set_cons_succ]
          first
            | (refine wpAnyH_take (i := 8) (v := ?_) at8 (by kernel_rfl) (by kernel_rfl) (by kernel_rfl) (fun _ _ _ h => h) (Or.inl ⟨by rfl, ?_⟩) (by assumption) ?_
               rotate_left
               · intro w hSw; (try dsimp only at hSw); go_simp; try with_reducible rfl)
            | fail "take 8"
          try simp only [Act.put, List.setIfInBounds_toArray, List.set_cons_zero, List.set_cons_succ]
          first
            | (refine wpAnyH_take (i := 9) (v := ?_) at9 (by kernel_rfl) (by kernel_rfl) (by kernel_rfl) (fun _ _ _ h => h) (Or.inl ⟨by rfl, ?_⟩) (by assumption) ?_
               rotate_left
               · intro w hSw; (try dsimp only at hSw); go_simp; try with_reducible rfl)
            | fail "take 9"
          try simp only [Act.put, List.setIfInBounds_toArray, List.set_cons_zero, List.set_cons_succ]
          refine wpAnyH_ready (rs := [5]) (by kernel_rfl) (by simp) ?_
          refine AllReadyH.cons (i := 5) at5 (fun K hK => ?_) AllReadyH.nil
          go_simp
          refine hK.out _ _ ?_ (fun hNew => ?_)
          · first | exact hHeld | go_keep
          clear hK K hHeld
          have hHeld := hNew
          clear hNew
          try simp only [Act.put, List.setIfInBounds_toArray, List.set_cons_zero, List.set_cons_succ]
          first
            | (refine wpAnyH_take (i := 10) (v := ?_) at10 (by kernel_rfl) (by kernel_rfl) (by kernel_rfl) (fun _ _ _ h => h) (Or.inl ⟨by rfl, ?_⟩) (by assumption) ?_
               rotate_left
               · intro w hSw; (try dsimp only at hSw); go_simp; try with_reducible rfl)
            | fail "take 10"
          try simp only [Act.put, List.setIfInBounds_toArray, List.set_cons_zero, List.set_cons_succ]
          refine tail_list (is := [11]) (l := _) (by kernel_rfl) (by kernel_rfl) (by kernel_rfl) rfl ?_
          simp only [List.filterMap_cons, List.filterMap_nil, at11]
          show wpList _ _ _ (_ :: _) _ _
          go_wp2_with (first
            | (at_mapUpdate; go_loud (refine wpList_mapUpdate_own _ rfl _ _ _ 47 rfl 9 3 lawK Tryd.underlying47 _ g n' _ rfl hownD hnm _ _ _ rfl rfl hkey.out _ [] (plainElem_int Tryd.underlying3 hwf.out) ?_); intro w6 hown6 hgrow6)
            | fail)
          have hgr : wr.drew.grownBy w6.drew (some g) := ⟨hgrow6.os, hgrow6.tape, hgrow6.output, hgrow6.size, hgrow6.block⟩
          have hput := hidden ((hM.out.below (Below.refl _ _).drew).put (k := ck) (w' := w6.drew) hsm hJ.out.strict hbg hown6 hgr)
          have hb6 : w6.heap[b]? = some (.cells #[.int .i64 m, .int .i64 (sumC J), .map (some g)] 49) := (hgrow6.block b (Array.getElem?_eq_some_iff.1 hM.out.box).1 (fun e => by cases e; exact hbg rfl)).trans hM.out.box
          obtain ⟨⟨e0, e1, e2⟩, f1, -⟩ := cell_map hb6
          have hw1g : Hid (w1.heap.size < wr.heap.size) := Nat.lt_of_lt_of_le hw1l.2.2 hS.out.size
          have e3 : w6.cell? ⟨w1.heap.size, j, none⟩ = some (.int .i64 ck) := by
            rw [← hc2]
            simp only [World.cell?, hgrow6.block w1.heap.size hw1g.out (fun e => by cases e; exact hw1l.2.1 rfl)]
            rfl
          have hS2 := hidden ((hS.out.trans (SaveL.of_below (Below.refl _ _).drew)).trans hput.out.2)
          clear hown6 hgrow6 hgr hb6 c0 c1 c2 hc1 hc2 hHeld hownD hrun hM hwf
          go_wp2_with fail
          go_region
          go_wp2
          go_roundw
          case rel => exact ⟨j + 1, n' + 1, _, by go_num, by omega, by rw [hsn.out]; exact hput.out.1, hS2, Nat.succ_le_succ hn'.out⟩
          case measure => simp [intOf]; omega
          case roundEnd => exact ⟨⟨j + 1, n' + 1, _, by go_num, by omega, by rw [hsn.out]; exact hput.out.1, hS2, Nat.succ_le_succ hn'.out⟩, by simp [intOf]; omega⟩
        · have hlt2 : ¬ (j : Int) < (k : Int) := by omega
          obtain rfl : j = k := by omega
          have ht : M.take j = M := List.take_of_length_le (by rw [← hN.out]; exact Nat.le_refl _)
          rw [ht] at hM
          have hfs := hidden ((SaveL.of_below (S := [b, g]) hBx.out).trans hS.out)
          have hjn := hidden (show n' ≤ n + M.length by rw [← hN.out]; exact hn'.out)
          clear hrow5 hown4 hS hF hG hful
          go_wp2
          go_ret
          exact ⟨rfl, n', ⟨D', hM⟩, hfs, hjn⟩
set_option maxHeartbeats 800000 in
theorem mjoinNone_c {b g n : Nat} {D : DataW Unit} {m : Int} {L : List Ct} (w : World) (_h : MtAt w b g n D m L) :
    Calls Tryd.prog 10 #[.pointer (some ⟨b, 0, none⟩), .pointer none] w fun e w' => e = .returned (.int .i64 1) ∧ w' = w := by
  go_enter Tryd.func10, Tryd.ntmps10
  go_wp2
  go_ret
  exact ⟨rfl, rfl⟩
end Go.Proofs.YtoijkbnjcnedjaaDoor
/-
  ROWS OF RECORDS: cut, and appended to own rows of records, whatever they are. No function is named here.
-/
namespace Go.Proofs.YtoijkbnjcnedjaaDoor
open Go.ChangeShapes Go.WideShapes Go.ChangeAt Go.RowKit

variable {α : Type} {R : Rec α}
theorem SlR.nil (w : World) : SlR R w (.slice none 0 0) [] := ⟨none, 0, rfl, Nat.le_refl _, fun _ => rfl, fun _ e => (by cases e), .inl rfl⟩
theorem SlR.to' {w : World} {g og n cap : Nat} {ps : List α} (h : SlR R w (.slice (some ⟨g, og, none⟩) n cap) ps) (l : Nat) (hl : l ≤ n) : SlR R w (.slice (some ⟨g, og, none⟩) l cap) (ps.take l) := by
  obtain ⟨a, cap', h1, h2, h3, h4, h5⟩ := h
  simp only [Value.slice.injEq] at h1
  obtain ⟨rfl, rfl, rfl⟩ := h1
  have hlen : (ps.take l).length = l := by rw [List.length_take]; omega
  exact ⟨_, cap, by rw [hlen], by rw [hlen]; omega, h3, h4, h5.toR l hl⟩
theorem SlR.from' {w : World} {g og n cap : Nat} {ps : List α} (h : SlR R w (.slice (some ⟨g, og, none⟩) n cap) ps) (l : Nat) (hl : l ≤ n) :
    SlR R w (.slice (if cap = l then some ⟨g, og, none⟩ else some ⟨g, og + l * R.n, none⟩) (n - l) (cap - l)) (ps.drop l) := by
  obtain ⟨a, cap', h1, h2, h3, h4, h5⟩ := h
  simp only [Value.slice.injEq] at h1
  obtain ⟨rfl, rfl, rfl⟩ := h1
  have hlen : (ps.drop l).length = ps.length - l := by rw [List.length_drop]
  have hr := h5.fromR l hl
  simp only [Option.map_some, add_plain] at hr
  by_cases hc : cap = l
  · have hz : ps.length - l = 0 := by omega
    rw [if_pos hc]
    have hd : ps.drop l = [] := List.eq_nil_of_length_eq_zero (by omega)
    refine ⟨_, cap - l, by rw [hlen], by rw [hlen]; omega, fun e => (by cases e), fun _ e => (by cases e; rfl), ?_⟩
    rw [hd]; exact .inl rfl
  · rw [if_neg hc]
    exact ⟨_, cap - l, by rw [hlen], by rw [hlen]; omega, fun e => (by cases e), fun _ e => (by cases e; rfl), hr⟩
theorem SlR.oneR (w : World) (x : α) (e : TypeId) : SlR R (w.alloc (.cells (R.enc x).toArray e)) (.slice (some ⟨w.heap.size, 0, none⟩) 1 1) [x] := by
  refine ⟨_, 1, rfl, Nat.le_refl _, fun e => (by cases e), fun _ h => (by cases h; rfl), .inr ⟨_, _, rfl, by simp, fun j u hj => ?_⟩⟩
  rw [Rec.flat_one] at hj
  have := cells_new w (R.enc x) e j u hj
  rwa [add_plain] at this
theorem SlR.alloc {w : World} {v : Value} {ps : List α} (h : SlR R w v ps) (o : Obj) : SlR R (w.alloc o) v ps := h.below ((Below.refl _ _).alloc (Nat.le_refl _) o)
theorem SlR.grownR {w w' : World} {b off n c : Nat} {ps : List α} {row : Option Nat} (h : SlR R w (.slice (some ⟨b, off, none⟩) n c) ps) (hg : w.grownBy w' row) (hne : row ≠ some b) : SlR R w' (.slice (some ⟨b, off, none⟩) n c) ps := by
  obtain ⟨a, cap, h1, h2, h3, h4, h5⟩ := h
  simp only [Value.slice.injEq] at h1
  obtain ⟨rfl, rfl, rfl⟩ := h1
  refine ⟨_, _, rfl, h2, h3, h4, ?_⟩
  rcases h5 with h5 | ⟨b', o', e, hb, hc⟩
  · exact .inl h5
  · simp only [Option.some.injEq, Addr.mk.injEq, and_true] at e
    obtain ⟨rfl, rfl⟩ := e
    refine .inr ⟨b, off, rfl, Nat.lt_of_lt_of_le hb hg.size, fun j u hj => ?_⟩
    have := hc j u hj
    simp only [World.cell?] at this ⊢
    rw [hg.block b hb (Ne.symm hne)]
    exact this
theorem run_appR {P : Program} (w : World) (base : Nat) (t ty e : TypeId) (i : TypeInfo) (z : Value) (size bytes : Nat) (ht : P.underlying t = some (.slice e)) (hi : P.info? e = some i) (hz : i.zero = some z)
    (hsize : i.size = size) (hby : i.bytes = bytes) (hzs : z.cells.size = size) (hR : R.n = size) {v : Value} {n : Nat} {xs : List Value} (hown : w.ownsRow base e size v n xs) {vx : Value} {qs : List α} (hx : SlR R w vx qs)
    (b1 : n + qs.length ≤ maxLen) (b2 : (n + qs.length) * bytes ≤ 140737488355328) (hbase : base ≤ w.heap.size) :
    ∃ v' w', (Builtin.append_ #[t, t] ty #[v, vx]).run P w = .ok v' w' ∧ w'.ownsRow base e size v' (n + qs.length) (xs ++ R.flat qs) ∧ w.grownBy w' v.ownBlock ∧ (v' = .slice none 0 0 → v = .slice none 0 0) := by
  obtain ⟨a, cap, rfl, hl, hn, hs, hrow⟩ := hx
  have hpos := R.pos
  cases a with
  | none =>
    obtain rfl := hn rfl
    obtain rfl : qs = [] := List.eq_nil_of_length_eq_zero (by omega)
    refine ⟨v, w, run_append_owned_none (P := P) (w := w) base t ty e i size ht hi v n xs hown, by simpa [Rec.flat] using hown, World.grownBy.refl _ _, fun h => h⟩
  | some ad =>
    obtain ⟨b, off, sb⟩ := ad
    obtain rfl : sb = none := hs _ rfl
    have hc : ∀ j u, (R.flat qs)[j]? = some u → w.cell? (Addr.add ⟨b, off, none⟩ j) = some u := fun j u hj => by
      rcases hrow with h0 | ⟨b', off', h1, _, h3⟩
      · rw [h0] at hj; cases hj
      · cases h1; rw [add_plain]; exact h3 j u hj
    obtain ⟨v', w', h1, h2, h3, h4⟩ := run_append_own (P := P) w base t ty e i z size bytes ht hi hz hsize hby hzs (by omega) v n xs hown ⟨b, off, none⟩ qs.length cap (R.flat qs) (by rw [Rec.flat_len, hR]) hc (Rec.flat_one_cell qs) b1 b2 hbase
    exact ⟨v', w', h1, h2, h3, fun h => (h4.1 h).1⟩
/-- append to an own row of records, of whatever slice, as one step of a region that draws. -/
theorem step_appR {P : Program} {ops : Array Oper} {o : Oper} {a : Act} {w : World} {K : Act → World → Prop} {Q : Exit → Act → World → Prop} {E : Prop} (R : Rec α)
    (hg : o.guard = none) (s x : Operand) (t : TypeId) (hop : o.op = Op.call { callee := Callee.builtin Builtin.append, args := #[s, x], argTypes := #[t, t] })
    (base : Nat) (e : TypeId) (i : TypeInfo) (z : Value) (size bytes : Nat) (h1 : P.underlying t = some (.slice e)) (h2 : P.info? e = some i) (h3 : i.zero = some z) (h4 : i.size = size) (h5 : i.bytes = bytes) (h6 : z.cells.size = size) (hR : R.n = size)
    {v : Value} {n : Nat} {xs : List Value} (hs : a.eval s = v) (hown : w.ownsRow base e size v n xs) {vx : Value} {qs : List α} (hx : a.eval x = vx) (hsl : SlR R w vx qs)
    (b1 : n + qs.length ≤ maxLen) (b2 : (n + qs.length) * bytes ≤ 140737488355328) (hbase : base ≤ w.heap.size)
    (hK : ∀ v' w', w'.ownsRow base e size v' (n + qs.length) (xs ++ R.flat qs) → w.grownBy w' v.ownBlock → (v' = .slice none 0 0 → v = .slice none 0 0) → K (a.put o.dst v') w') :
    if Region.wanted o (yielded ops a.tmps) = true then Oper.wp P o a w K Q else E := by
  have hw : Region.wanted o (yielded ops a.tmps) = true := by simp [Region.wanted, hg]
  rw [if_pos hw]
  obtain ⟨v', w', hr, r2, r3, r4⟩ := run_appR (P := P) (R := R) w base t o.type e i z size bytes h1 h2 h3 h4 h5 h6 hR hown hsl b1 b2 hbase
  unfold Oper.wp execOp
  simp only [hop, resolve, invoke, builtin, Sem.run_bind, Sem.run_pure, Result.andThen_ok, List.map_toArray, List.map_cons, List.map_nil, hs, hx, hr]
  exact hK v' w' r2 r3 r4
end Go.Proofs.YtoijkbnjcnedjaaDoor
/-
  METERS: the reference's, as it lies; All, by contract.
-/
namespace Go.Proofs.YtoijkbnjcnedjaaDoor
open Go.ChangeShapes Go.WideShapes Go.ChangeAt Go.RowKit Go.Maps

def countR : Rec Ct := ⟨fun p => [.string p.s, .int .i64 p.k], 2, by decide, fun _ => rfl, fun p u hu => by simp at hu; rcases hu with rfl | rfl <;> rfl, Ct.none⟩
theorem infoC : (Tryd.prog.info? 42).map (fun i => (i.zero, i.size, i.bytes)) = some (some (.agg #[.string ⟨#[]⟩, .int .i64 0]), 2, 24) := by kernel_rfl
theorem count_at {w : World} {a : Option Addr} {L : List Ct} (h : RowAt w a (countR.flat L)) {k : Nat} (hk : k < L.length) :
    ∃ b off, a = some ⟨b, off, none⟩ ∧ b < w.heap.size ∧ w.cell? ⟨b, off + k * 2, none⟩ = some (.string (L.getD k Ct.none).s) ∧ w.cell? ⟨b, off + k * 2 + 1, none⟩ = some (.int .i64 (L.getD k Ct.none).k) := by
  obtain ⟨b, off, h1, h2, h3⟩ := rec_at h hk
  exact ⟨b, off, h1, h2, h3 0 _ rfl, h3 1 _ rfl⟩
/-- The reference's meter, as it lies. -/
structure RMt (B : Nat) (w : World) (b : Nat) (a : Option Addr) (c : Nat) (m : Int) (L : List Ct) : Prop where
  box : w.heap[b]? = some (.cells #[.slice a L.length c, .int .i64 m] 31)
  row : w.ownsRow B 42 2 (.slice a L.length c) L.length (countR.flat L)
  low : b < B
theorem RMt.at {B : Nat} {w : World} {b : Nat} {a : Option Addr} {c : Nat} {m : Int} {L : List Ct} (h : RMt B w b a c m L) : RowAt w a (countR.flat L) := by
  obtain ⟨a', c', he, hr⟩ := holdsR_of_owns (R := countR) h.row
  simp only [Value.slice.injEq] at he
  obtain ⟨rfl, _, _⟩ := he
  exact hr
theorem RMt.save {S : List Nat} {B : Nat} {w w' : World} {b : Nat} {a : Option Addr} {c : Nat} {m : Int} {L : List Ct} (h : RMt B w b a c m L) (hs : SaveL S w w') (hb : b ∉ S) (hr : ∀ g, (Value.slice a L.length c).ownBlock = some g → g ∉ S) : RMt B w' b a c m L := by
  refine ⟨(hs.block b (Array.getElem?_eq_some_iff.1 h.box).1 hb).trans h.box, ?_, h.low⟩
  obtain ⟨h1, h2⟩ := h.row
  refine ⟨h1, ?_⟩
  rcases h2 with h2 | ⟨g, cap, cur, e1, e2, e3, e4⟩
  · exact .inl h2
  · exact .inr ⟨g, cap, cur, e1, e2, (hs.block g (Array.getElem?_eq_some_iff.1 e3).1 (hr g (by rw [e1]; rfl))).trans e3, e4⟩
theorem RMt.below {B : Nat} {w w' : World} {b : Nat} {a : Option Addr} {c : Nat} {m : Int} {L : List Ct} (h : RMt B w b a c m L) (hs : Below w.heap.size w w') : RMt B w' b a c m L :=
  h.save (S := []) (.of_below hs) (by simp) (fun _ _ => by simp)
theorem rbox {w : World} {b : Nat} {v : Value} {m : Int} (h : w.heap[b]? = some (.cells #[v, .int .i64 m] 31)) :
    (w.cell? ⟨b, 0, none⟩ = some v ∧ w.cell? ⟨b, 1, none⟩ = some (.int .i64 m)) ∧ w.frozen? ⟨b, 0, none⟩ = false := by
  simp [World.cell?, World.frozen?, h]
set_option maxHeartbeats 1600000 in
theorem rall_c {B : Nat} {b : Nat} {a : Option Addr} {c : Nat} {m : Int} {L : List Ct} (w : World) (h : RMt B w b a c m L) (hF : Fine m L) (hm : m ≤ 1000000000000) (hl : L.length ≤ 1000000) :
    Calls Tryd.prog 11 #[.pointer (some ⟨b, 0, none⟩)] w fun e w' => e = .returned (.int .i64 (sumC L)) ∧ w' = w := by
  obtain ⟨⟨c0, c1⟩, -⟩ := rbox h.box
  have hrow := hidden h.at
  obtain ⟨N, hN⟩ : ∃ N, N = L.length := ⟨_, rfl⟩
  rw [← hN] at hl c0
  replace hN := hidden hN
  have hS1 := hF.small
  replace hF := hidden hF
  clear h
  go_enter Tryd.func11, Tryd.ntmps11
  go_wp2
  go_loop [3, 4] (fun n i => ∃ (k : Nat) (z : Int), i = .int .i64 k ∧ k ≤ N ∧ n = .int .i64 z ∧ Hid (z = sumC (L.take k))) (fun _ i => N - (intOf i).toNat)
  case atStart => exact ⟨0, 0, rfl, Nat.zero_le _, rfl, rfl⟩
  case round =>
    obtain ⟨k, z, rfl, hk, rfl, hz⟩ := hrel
    by_cases hlt : k < N
    · have hlt' : (k : Int) < (N : Int) := by omega
      have hkL : k < L.length := by rw [← hN.out]; exact hlt
      obtain ⟨g, off, rfl, hg, -, d1⟩ := count_at hrow.out hkL
      have htk : Hid (sumC (L.take (k + 1)) = z + (L.getD k Ct.none).k) := by
        show _ = _
        rw [take_snocR L Ct.none k hkL, sum_app, ← hz.out]; simp [sumC]
      have h1 := (sum_pos (L := L.take k) (fun c hc => hF.out.pos c (List.mem_of_mem_take hc))).1
      have h2 := sum_takeC L (k + 1) hF.out.pos
      have h3 := (sum_pos (L := L.take (k + 1)) (fun c hc => hF.out.pos c (List.mem_of_mem_take hc))).1
      rw [← hz.out] at h1
      rw [htk.out] at h2 h3
      generalize (L.getD k Ct.none).k = ck at *
      have hw : IntKind.i64.wrap (z + ck) = z + ck := by rw [IntKind.wrap_i64]; omega
      have hz2 : Hid (z + ck = sumC (L.take (k + 1))) := htk.out.symm
      clear hz htk h1 h2 h3
      go_wp2
      go_round
      case rel => exact ⟨k + 1, z + ck, by go_num, by omega, rfl, hz2⟩
      case measure => simp [intOf]; omega
    · have hlt' : ¬ (k : Int) < (N : Int) := by omega
      have hfin : Hid (z = sumC L) := by
        show _ = _
        rw [hz.out, List.take_of_length_le (by rw [← hN.out]; omega)]
      clear hz
      go_wp2
      go_ret
      exact ⟨by rw [← hfin.out]; rfl, rfl⟩
end Go.Proofs.YtoijkbnjcnedjaaDoor
