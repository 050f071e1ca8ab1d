/-
  A COPY OF A SET; THE WORDS OF A SET, WITHOUT THOSE THAT ARE 0 AT THE END: by contract.
-/
import Derived.Test.YtfjhiaafabmpbagDoorSetAdd
import Derived.Test.YtfjhiaafabmpbagDoorSetNew
namespace Go.Proofs.YtfjhiaafabmpbagDoor
open Go.ChangeShapes Go.WideShapes Go.ChangeAt Go.RowKit

/-- Any words, laid where a set's words are. -/
theorem copied_wv (ws : List Nat) : (splice (wv (List.replicate ws.length 0)).toList 0 (wv ws).toList).toArray = wv ws := by
  rw [splice_wv]; simp
set_option maxHeartbeats 1600000 in
theorem copy_c (b : Nat) (g : Option Nat) (ws : List Nat) (w : World) (hf : Fit ws) (h : SetAt w b g ws) : Calls Tryd.prog 6 #[.pointer (some ⟨b, 0, none⟩)] w fun e w' =>
    ∃ b', e = .returned (.pointer (some ⟨b', 0, none⟩)) ∧ ∃ g', SetAt w' b' g' ws ∧ Below w.heap.size w w' ∧ w.heap.size ≤ b' ∧ ∀ x, g' = some x → w.heap.size ≤ x := by
  have hw := wide_c b g ws w h
  have hmk := fun w => makeW ws.length w hf.short
  have hlen := hf.short
  have hcl : (wv ws).toList.length = ws.length := by simp [wv]
  have hzl : (wv (List.replicate ws.length 0)).toList.length = ws.length := by simp [wv]
  have hone : ∀ v ∈ (wv ws).toList, v.oneCell' = true := fun v hv => by simp [wv] at hv; obtain ⟨x, _, rfl⟩ := hv; rfl
  go_enter Tryd.func6, Tryd.ntmps6
  go_wp2_with fail
  refine hw.mono ?_
  rintro e w' ⟨rfl, rfl⟩
  clear hw
  go_wp2_with fail
  have hB1 : Below w'.heap.size w' ((w'.alloc (.cells (wv (List.replicate ws.length 0)) 31)).alloc (.cells #[.slice (some ⟨w'.heap.size, 0, none⟩) ws.length ws.length] 37)) :=
    ((Below.refl _ _).alloc (Nat.le_refl _) _).alloc (by show _ ≤ (w'.heap.push _).size; simp) _
  have k1 : ((w'.alloc (.cells (wv (List.replicate ws.length 0)) 31)).alloc (.cells #[.slice (some ⟨w'.heap.size, 0, none⟩) ws.length ws.length] 37)).heap[w'.heap.size + 1]? = some (.cells #[.slice (some ⟨w'.heap.size, 0, none⟩) ws.length ws.length] 37) := heap_alloc2_new _ _ _
  have k0 : ((w'.alloc (.cells (wv (List.replicate ws.length 0)) 31)).alloc (.cells #[.slice (some ⟨w'.heap.size, 0, none⟩) ws.length ws.length] 37)).heap[w'.heap.size]? = some (.cells (wv (List.replicate ws.length 0)) 31) := by
    refine (heap_alloc_old _ _ ?_).trans (heap_alloc_new _ _)
    show _ < (w'.heap.push _).size; simp
  obtain ⟨w2, hw2⟩ : ∃ w2, w2 = ((w'.alloc (.cells (wv (List.replicate ws.length 0)) 31)).alloc (.cells #[.slice (some ⟨w'.heap.size, 0, none⟩) ws.length ws.length] 37)).drew := ⟨_, rfl⟩
  have hB2 : Below w'.heap.size w' w2 := by rw [hw2]; exact hB1.drew
  have k0 : w2.heap[w'.heap.size]? = some (.cells (wv (List.replicate ws.length 0)) 31) := by rw [hw2]; exact k0
  have k1 : w2.heap[w'.heap.size + 1]? = some (.cells #[.slice (some ⟨w'.heap.size, 0, none⟩) ws.length ws.length] 37) := by rw [hw2]; exact k1
  have h2 := h.below hB2
  have c0 := h2.cell0
  have c1 : w2.cell? ⟨w'.heap.size + 1, 0, none⟩ = some (.slice (some ⟨w'.heap.size, 0, none⟩) ws.length ws.length) := by simp [World.cell?, k1]
  have hcells : ∀ x, g = some x → ∀ j v, (wv ws).toList[j]? = some v → w2.cell? ((⟨x, 0, none⟩ : Addr).add j) = some v := fun x hx j v hv => by
    rw [add_plain, Nat.zero_add]
    simp only [World.cell?, h2.row x hx]
    simpa using hv
  obtain ⟨sp, sl, sc, hrv, hrl, hsp⟩ : ∃ sp sl sc, Hid (rowV ws.length g = .slice sp sl sc) ∧ Hid (sl = ws.length) ∧ (0 < ws.length → ∃ x, g = some x ∧ sp = some ⟨x, 0, none⟩) := by
    cases g with
    | none => have hn := h.empty rfl; subst hn; exact ⟨_, _, _, (rfl : _ = _), (rfl : _ = _), fun e => by simp at e⟩
    | some x => exact ⟨_, _, _, (rfl : _ = _), (rfl : _ = _), fun _ => ⟨x, rfl, rfl⟩⟩
  rw [hrv.out] at c0
  refine still_tail2 8 (by kernel_rfl) (by kernel_rfl) w2 hw2 ?_
  clear hw2 hB1 h h2 hf hmk
  simp only [List.take_succ_cons, List.take_zero, List.drop_succ_cons, List.drop_zero]
  repeat still_step
  refine wpStill_nil ?_
  by_cases h0 : ws.length = 0
  · have hmin : Nat.min sl ws.length = 0 := by rw [h0]; exact Nat.min_zero _
    have hfin : Hid (SetAt w2 (w'.heap.size + 1) (some w'.heap.size) ws) := ⟨k1, (fun e => by cases e), fun x hx => by
      cases hx
      obtain rfl : ws = [] := List.eq_nil_of_length_eq_zero h0
      exact k0⟩
    replace hB2 := hidden hB2
    clear k0 k1 hcells hcl hzl hone
    refine wpList_copy_nothing rfl (.tmp 14) (.tmp 18) 29 29 rfl 31 Tryd.underlying29 (by kernel_rfl) (some ⟨w'.heap.size, 0, none⟩) sp ws.length ws.length sl sc rfl rfl hmin ?_
    go_wp2
    go_ret
    exact ⟨_, rfl, some w'.heap.size, hfin.out, hB2.out, by omega, fun x hx => by cases hx; omega⟩
  · obtain ⟨x, hgx, hspx⟩ := hsp (by omega)
    subst hspx
    have hc2 := hcells x hgx
    have hset : SetAt (w2.setRow w'.heap.size ((wv (List.replicate ws.length 0)).toList.take 0 ++ ((wv ws).toList ++ (wv (List.replicate ws.length 0)).toList.drop (0 + (wv ws).toList.length))).toArray) (w'.heap.size + 1) (some w'.heap.size) ws := by
      refine ⟨(setRow_other w2 _ _ _ (by omega)).trans k1, (fun e => by cases e), fun y hy => ?_⟩
      cases hy
      rw [setRow_heap w2 _ _ _ _ (0, 0) k0]
      have := copied_wv ws
      simp only [splice] at this
      rw [this]
    have hbl : Below w'.heap.size w' (w2.setRow w'.heap.size ((wv (List.replicate ws.length 0)).toList.take 0 ++ ((wv ws).toList ++ (wv (List.replicate ws.length 0)).toList.drop (0 + (wv ws).toList.length))).toArray) := below_setRow hB2 (Nat.le_refl _) _
    replace hset := hidden hset
    replace hbl := hidden hbl
    refine wpList_copy_own rfl (.tmp 14) (.tmp 18) 29 29 rfl 31 Tryd.underlying29 (by kernel_rfl) w'.heap.size 0 ws.length ws.length ⟨x, 0, none⟩ sl sc rfl rfl (wv (List.replicate ws.length 0)) 31 k0 (wv ws).toList (by rw [hcl, hrl.out]; exact (Nat.min_self _).symm) hc2 (by rw [hcl, wv_size, List.length_replicate]; omega) hone ?_
    generalize w2.setRow w'.heap.size ((wv (List.replicate ws.length 0)).toList.take 0 ++ ((wv ws).toList ++ (wv (List.replicate ws.length 0)).toList.drop (0 + (wv ws).toList.length))).toArray = w3 at *
    clear k0 k1 hcells hcl hzl hone hc2 hB2 c0 c1
    go_wp2
    go_ret
    exact ⟨_, rfl, some w'.heap.size, hset.out, hbl.out, by omega, fun x hx => by cases hx; omega⟩

/-- How many words are left. -/
structure Trim (ws : List Nat) (m : Nat) : Prop where
  le : m ≤ ws.length
  zero : ∀ i, m ≤ i → ws.getD i 0 = 0
  last : 0 < m → ws.getD (m - 1) 0 ≠ 0
theorem wv_get (ws : List Nat) (j : Nat) (hj : j < ws.length) : (wv ws)[j]? = some (.int .u64 ((ws.getD j 0 : Nat) : Int)) := by simp [wv, hj, List.getD]
theorem wv_one (ws : List Nat) : ∀ v ∈ (wv ws).toList, v.oneCell' = true := fun v hv => by
  simp only [wv, List.mem_map] at hv
  obtain ⟨x, _, rfl⟩ := hv
  rfl
set_option maxHeartbeats 1600000 in
theorem words_c (b : Nat) (g : Option Nat) (ws : List Nat) (w : World) (hf : Fit ws) (h : SetAt w b g ws) : Calls Tryd.prog 10 #[.pointer (some ⟨b, 0, none⟩)] w fun e w' =>
    ∃ m x, e = .returned (.slice (some ⟨x, 0, none⟩) m m) ∧ Trim ws m ∧ w.heap.size ≤ x ∧ w'.heap[x]? = some (.cells (wv (ws.take m)) 31) ∧ Below w.heap.size w w' := by
  have hw := wide_c b g ws w h
  have hlen := hf.short
  have c0 := h.cell0
  have h := hidden h
  go_enter Tryd.func10, Tryd.ntmps10
  go_wp2_with fail
  refine hw.mono ?_
  rintro e w' ⟨rfl, rfl⟩
  clear hw
  go_wp2_with fail
  go_loop [3] (fun u => ∃ j : Nat, j ≤ ws.length ∧ u = .int .i64 (j : Int) ∧ Hid (∀ i, j ≤ i → ws.getD i 0 = 0)) (fun u => (intOf u).toNat)
  case atStart => exact ⟨ws.length, Nat.le_refl _, rfl, (fun i hi => by rw [List.getD_eq_getElem?_getD, List.getElem?_eq_none hi]; rfl : ∀ i, ws.length ≤ i → ws.getD i 0 = 0)⟩
  case round =>
    obtain ⟨j, hj, rfl, hz⟩ := hrel
    by_cases h0 : j = 0
    · subst h0
      have hmk : ∀ w, (Instr.makeSlice 29 (.int .i64 0) (.int .i64 0)).run Tryd.prog w = .ok (.slice (some ⟨w.heap.size, 0, none⟩) 0 0) (w.alloc (.cells (wv (List.replicate 0 0)) 31)) := fun w => makeW 0 w (by omega)
      have hT : Hid (Trim ws 0) := ⟨Nat.zero_le _, hz.out, fun h => absurd h (by omega)⟩
      have hB1 : Hid (Below w'.heap.size w' (w'.alloc (.cells (wv (List.replicate 0 0)) 31))) := (Below.refl _ _).alloc (Nat.le_refl _) _
      have k0 : Hid ((w'.alloc (.cells (wv (List.replicate 0 0)) 31)).heap[w'.heap.size]? = some (.cells (wv (ws.take 0)) 31)) := by
        show _ = _
        rw [List.take_zero]; exact heap_alloc_new _ _
      clear hz
      go_wp2
      go_ret
      exact ⟨0, _, rfl, hT.out, Nat.le_refl _, k0.out, hB1.out⟩
    · have hj1 : (0 : Int) < (j : Int) := by omega
      cases g with
      | none => have hn := h.out.empty rfl; subst hn; simp at hj; omega
      | some g =>
        simp only [rowV] at c0
        have c1 := h.out.cell (j - 1) (by omega)
        have hnx : ws.getD (j - 1) 0 = 0 → Hid (∀ i, j - 1 ≤ i → ws.getD i 0 = 0) := fun hx i hi => by
          rcases Nat.lt_or_ge i j with h1 | h1
          · obtain rfl : i = j - 1 := by omega
            exact hx
          · exact hz.out i h1
        have e1 : (j : Int) - 1 = ((j - 1 : Nat) : Int) := by omega
        have e2 : wrap64 ((j - 1 : Nat) : Int) = ((j - 1 : Nat) : Int) := IntWalk.wrap64_in _ (by omega)
        have hj2 : ((j - 1 : Nat) : Int) < (ws.length : Int) := by omega
        by_cases hx : ws.getD (j - 1) 0 = 0
        · have hnx := hnx hx
          rw [hx] at c1
          clear hx hz
          generalize hq : j - 1 = q at *
          go_wp2
          go_round
          case rel => exact ⟨q, by omega, rfl, hnx⟩
          case measure => simp [intOf]; omega
        · have hT : Hid (Trim ws j) := ⟨hj, hz.out, fun _ => hx⟩
          have hxb : (((ws.getD (j - 1) 0 : Nat) : Int) == 0) = false := beq_eq_false_iff_ne.2 (fun e => hx (by omega))
          generalize ws.getD (j - 1) 0 = x at *
          clear hz hx hnx
          generalize hq : j - 1 = q at *
          have hmk := fun w => makeW j w (by omega)
          have hblt := h.out.lt
          have c0a : ∀ O, (w'.alloc O).cell? ⟨b, 0, none⟩ = some (.slice (some ⟨g, 0, none⟩) ws.length ws.length) := fun O => (((Below.refl w'.heap.size w').alloc (Nat.le_refl _) O).cell (p := ⟨b, 0, none⟩) hblt).trans c0
          have hrow := h.out.row g rfl
          have hglt := h.out.glt
          have hcells : ∀ O, ∀ i v, (wv (ws.take j)).toList[i]? = some v → (w'.alloc O).cell? ((⟨g, 0, none⟩ : Addr).add i) = some v := fun O i v hv => by
            rw [add_plain, Nat.zero_add]
            simp only [World.cell?, (heap_alloc_old w' O hglt).trans hrow]
            have hi : i < j := by
              have := (List.getElem?_eq_some_iff.1 hv).1
              simp [wv] at this; omega
            rw [show (wv ws)[i]? = (wv (ws.take j))[i]? by simp [wv, hi]]
            simpa using hv
          have hcl : (wv (ws.take j)).toList.length = j := by simp [wv]; omega
          have hzl : (wv (List.replicate j 0)).size = j := by simp [wv]
          have hone := wv_one (ws.take j)
          have hB1 : Below w'.heap.size w' (w'.alloc (.cells (wv (List.replicate j 0)) 31)) := (Below.refl _ _).alloc (Nat.le_refl _) _
          have k0 : (w'.alloc (.cells (wv (List.replicate j 0)) 31)).heap[w'.heap.size]? = some (.cells (wv (List.replicate j 0)) 31) := heap_alloc_new _ _
          have hzl2 : (wv (List.replicate j 0)).toList.length = j := by simp [wv]
          have hmin : (wv (ws.take j)).toList.length = Nat.min j j := by rw [hcl]; exact (Nat.min_self _).symm
          have hpos : 0 < (wv (ws.take j)).toList.length → some (⟨w'.heap.size, 0, none⟩ : Addr) = some ⟨w'.heap.size, 0, none⟩ ∧ ∃ ad, some (⟨g, 0, none⟩ : Addr) = some ad ∧ ∀ i v, (wv (ws.take j)).toList[i]? = some v → (w'.alloc (.cells (wv (List.replicate j 0)) 31)).cell? (ad.add i) = some v := fun _ => ⟨rfl, _, rfl, hcells _⟩
          have hfit : 0 + (wv (ws.take j)).toList.length ≤ (wv (List.replicate j 0)).toList.length := by rw [hcl, hzl2]; omega
          have hinfo : (Tryd.prog.info? 31).map (·.size) = some 1 := by kernel_rfl
          have hB1' := hidden hB1
          replace hpos := hidden hpos
          replace hfit := hidden hfit
          replace hmin := hidden hmin
          replace k0 : Hid ((w'.alloc (.cells (wv (List.replicate j 0)) 31)).heap[w'.heap.size]? = some (.cells (wv (List.replicate j 0)).toList.toArray 31 (0, 0))) := heap_alloc_new _ _
          replace hone := hidden hone
          replace hinfo := hidden hinfo
          replace hcl := hidden hcl
          clear hcells hzl hzl2
          have hjn : (j : Int) ≤ (ws.length : Int) := by omega
          have hglt := hidden hglt
          have hblt := hidden hblt
          clear hB1 h hf hrow
          go_wp2_with (with_reducible refine wpList_copy_splice rfl (.tmp 26) (.tmp 32) 29 29 rfl 31 Tryd.underlying29 hinfo.out (some ⟨w'.heap.size, 0, none⟩) (some ⟨g, 0, none⟩) j j j ws.length rfl rfl w'.heap.size 0 (wv (List.replicate j 0)).toList 31 k0.out (wv (ws.take j)).toList hmin.out hpos.out hfit.out hone.out w'.heap.size (w'.alloc (.cells (wv (List.replicate j 0)) 31)) (Below.refl _ _) (Nat.le_refl _) ?_; intro w4 hg4 hB4)
          have hst : Hid (w4.heap[w'.heap.size]? = some (.cells (wv (ws.take j)) 31)) := by
            have h4 := hg4.out
            have := copied_wv (ws.take j)
            rw [List.length_take, Nat.min_eq_left hj] at this
            rw [this] at h4
            exact h4
          have hbl := hidden (hB1'.out.trans hB4)
          clear hmk c0a k0 c0 c1 hB4 hg4
          go_wp2
          go_ret
          exact ⟨j, _, rfl, hT.out, Nat.le_refl _, hst.out, hbl.out⟩
end Go.Proofs.YtfjhiaafabmpbagDoor
