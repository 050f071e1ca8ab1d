/-
  THE REFERENCE's LIST THAT RISES, by its contract.
-/
import Derived.Test.YtfjhiaafabmpbaeSl
import Derived.Test.YtfjhiaafabmpbaeRMath
import Derived.Test.YtfjhiaafabmpbaeFewU
namespace Go.Proofs.Ytfjhiaafabmpbae
open Go.ChangeShapes Go.WideShapes Go.ChangeAt Go.RowKit

theorem owns_keeps {w w' : World} {base : Nat} {e : TypeId} {size : Nat} {v : Value} {n : Nat} {xs : List Value} (h : w.ownsRow base e size v n xs) (hb : Below w.heap.size w w') : w'.ownsRow base e size v n xs := by
  refine ⟨h.1, ?_⟩
  rcases h.2 with h2 | ⟨g, cap, cur, h1, h2, h3, h4⟩
  · exact .inl h2
  · exact .inr ⟨g, cap, cur, h1, h2, (hb.block g (Array.getElem?_eq_some_iff.1 h3).1).trans h3, h4⟩
theorem u64_cells (l : List Int) : ∀ u ∈ l.map (Value.int .u64), u.oneCell' = true := fun u hu => by
  obtain ⟨z, _, rfl⟩ := List.mem_map.1 hu; rfl
theorem slice_shape {w : World} {v : Value} {xs : List Value} (h : Sl w v xs) : ∃ a c, v = .slice a xs.length c ∧ xs.length ≤ c := by
  obtain ⟨a, c, h1, h2, _⟩ := h; exact ⟨a, c, h1, h2⟩

set_option maxHeartbeats 1600000 in
set_option maxRecDepth 1000000 in
theorem rise_c (v : Value) (zs : List Int) (w : World) (hv : Holds w v (zs.map (Value.int .u64))) (hz : zs.length ≤ 1000) :
    Calls Try.prog 5 #[v] w fun e w' =>
      ∃ v', e = .returned v' ∧ w'.ownsRow w.heap.size 23 1 v' (rise zs).length ((rise zs).map (Value.int .u64)) ∧ Below w.heap.size w w' := by
  obtain ⟨a, cap, rfl, hrow⟩ := hv
  rw [List.length_map]
  obtain ⟨i0, hi, hz0, hz1, hz2⟩ := info_parts infoU
  go_enter Try.func5, Try.ntmps5
  go_wp2
  go_loopw [3, 4] (fun u i wr => ∃ k : Nat, ∃ os : List Int, Hid (os = rise (zs.take k)) ∧ u ≠ .slice none 0 0 ∧ os.length ≤ k ∧ k ≤ zs.length ∧ i = .int .i64 k ∧ wr.ownsRow w.heap.size 23 1 u os.length (os.map (Value.int .u64)) ∧ Below w.heap.size w wr)
    (fun _ i _ => zs.length - (intOf i).toNat)
  case atStart => exact ⟨0, [], rfl, (fun h => by cases h), Nat.zero_le _, Nat.zero_le _, rfl, World.ownsRow_made w #[] 0 (Nat.le_refl _) (by unfold maxLen; omega) rfl, (Below.refl _ _).alloc (Nat.le_refl _) _⟩
  case round =>
    obtain ⟨k, os, hos, hun, hol, hk, rfl, hown, hnx⟩ := hrel
    by_cases hlt : k < zs.length
    · rcases hrow with h0 | ⟨b, off, rfl, hb, hc⟩
      · simp only [List.map_eq_nil_iff] at h0; subst h0; simp at hlt
      have hcx : wr.cell? ⟨b, off + k, none⟩ = some (.int .u64 (zs.getD k 0)) := (hnx.cell (by exact hb)).trans (hc k _ (by simp [hlt]))
      have hbr : b < wr.heap.size := Nat.lt_of_lt_of_le hb hnx.size
      have hos2 : Hid (ins os (zs.getD k 0) = rise (zs.take (k + 1))) := by
        show _ = _
        rw [rise_succ zs k hlt, hos.out]
      clear hc hos
      generalize zs.getD k 0 = z at *
      have hsl := sl_of_owns hown
      obtain ⟨g, co, rfl, _, hco⟩ := own_some hown hun
      clear hun
      generalize wr = wo at *
      go_wp2
      go_loopw [5] (fun x wq => ∃ n : Nat, n ≤ os.length ∧ x = .int .i64 n ∧ (∀ j, j < n → os.getD j 0 < z) ∧ Below wo.heap.size wo wq)
        (fun x _ => os.length - (intOf x).toNat)
      case atStart => exact ⟨0, Nat.zero_le _, rfl, fun j hj => by omega, Below.refl _ _⟩
      case round =>
        obtain ⟨n, hn, rfl, hlow, hq⟩ := hrel
        have hcz : wr.cell? ⟨b, off + k, none⟩ = some (.int .u64 z) := (hq.cell (by exact hbr)).trans hcx
        have hlowN : Hid (∀ j, j < n → os.getD j 0 < z) := hlow
        by_cases hn1 : n < os.length
        · have hgc : wr.cell? ⟨g, 0 + n, none⟩ = some (.int .u64 (os.getD n 0)) := by
            have hgl := (hown.lt g rfl).2
            refine (hq.cell (by exact hgl)).trans ?_
            rw [Nat.zero_add, hown.cellAt n (by omega)]
            simp [hn1]
          rw [Nat.zero_add] at hgc
          have hlow1 : os.getD n 0 < z → Hid (∀ j, j < n + 1 → os.getD j 0 < z) := fun h j hj => by
            rcases Nat.lt_or_ge j n with h' | h'
            · exact hlow j h'
            · obtain rfl : j = n := by omega
              exact h
          have hend : ¬ os.getD n 0 < z → Hid (IsLow os z n) := fun h => ⟨hn, hlow, fun _ => h⟩
          clear hlow hcx hlowN
          by_cases hyz : os.getD n 0 < z
          · have h1 := hlow1 hyz
            have hd : decide (os.getD n 0 < z) = true := decide_eq_true hyz
            clear hlow1 hend
            generalize os.getD n 0 = y at *
            go_wp2
            go_quiet (fail)
            go_wp2
            go_roundw
            case rel => exact ⟨n + 1, by omega, by go_num, h1.out, below_drewN hq _⟩
            case measure => simp [intOf]; omega
          · have hlowF := hend hyz
            have hat := ins_at os z n hlowF.out
            have htk : (os.take n).map (Value.int .u64) = (os.map (Value.int .u64)).take n := List.map_take
            have hdr : (os.drop n).map (Value.int .u64) = (os.map (Value.int .u64)).drop n := List.map_drop
            clear hlow1 hend hlowF
            generalize os.getD n 0 = y at *
            have hd : decide (y < z) = false := decide_eq_false hyz
            have hne : ((n : Int) == (os.length : Int)) = false := by rw [beq_eq_false_iff_ne]; omega
            go_wp2
            go_quiet (fail)
            generalize nq = q1
            go_wp2
            by_cases hyz2 : y = z
            · have hos3 : Hid (os = rise (zs.take (k + 1))) := by
                show _ = _
                rw [← hos2.out, hat.1 ⟨hn1, hyz2⟩]
              have hd2 : (y != z) = false := by simp [hyz2]
              clear hat hos2
              go_quiet (fail)
              go_wp2
              go_roundw
              case rel => exact ⟨k + 1, os, hos3, (fun h => by cases h), by omega, by omega, by go_num, owns_keeps hown (below_drewN hq _), below_drewN (hnx.trans (hq.mono hnx.size)) _⟩
              case measure => simp [intOf]; omega
            · have hos3 : Hid (os.take n ++ [z] ++ os.drop n = rise (zs.take (k + 1))) := by
                show _ = _
                rw [← hos2.out, hat.2 fun h => hyz2 h.2]
              have hd2 : (y != z) = true := by simp [hyz2]
              clear hat hos2
              go_quiet (fail)
              go_wp2
              have hqq := below_drewN (hnx.trans (hq.mono hnx.size)) (q1 + nq)
              have hcz9 : (wr.drewN (q1 + nq)).cell? ⟨b, off + k, none⟩ = some (.int .u64 z) := hcz
              have hsl9 : Sl (wr.drewN (q1 + nq)) _ _ := (hsl.below hq : Sl wr _ _)
              have hS1 := hsl9.to' n (by omega)
              have hS2 := hsl9.from' n (by omega)
              have hbq : b < (wr.drewN (q1 + nq)).heap.size := Nat.lt_of_lt_of_le hbr hq.size
              have hwq : w.heap.size ≤ (wr.drewN (q1 + nq)).heap.size := hqq.size
              rw [← htk] at hS1
              rw [← hdr] at hS2
              have hl1 : ((os.take n).map (Value.int .u64)).length = n := by rw [List.length_map, List.length_take]; omega
              have hl2 : ((os.drop n).map (Value.int .u64)).length = os.length - n := by rw [List.length_map, List.length_drop]
              have hc1 := u64_cells (os.take n)
              have hc2 := u64_cells (os.drop n)
              generalize hwq : World.drewN wr _ = wq at *
              clear hown hsl hsl9 hcz hq hnx htk hdr
              generalize hT1 : (os.take n).map (Value.int .u64) = T1 at *
              generalize hT2 : (os.drop n).map (Value.int .u64) = T2 at *
              have hT : Hid ((os.take n ++ [z] ++ os.drop n).map (Value.int .u64) = T1 ++ [.int .u64 z] ++ T2) := by
                show _ = _
                rw [List.map_append, List.map_append, hT1, hT2]; rfl
              have hTl : Hid ((os.take n ++ [z] ++ os.drop n).length = os.length + 1) := by
                show _ = _
                simp <;> omega
              have hnco : n ≤ co := by omega
              clear hT1 hT2
              go_region_law (first
                | (refine step_app rfl (.tmp 45) (.tmp 48) 22 rfl wq.heap.size 23 i0 (.int .u64 0) 8 Try.underlying22 hi hz0 hz1 hz2 rfl (by simp [Act.eval]) (World.ownsRow_made wq.drew #[] 0 (Nat.le_refl _) (by unfold maxLen; omega) rfl) (by simp [Act.eval]) (hS1.below ((Below.refl wq.heap.size wq).drew.alloc (Nat.le_refl _) _)) hc1 (by rw [hl1]; unfold maxLen; omega) (by rw [hl1]; omega) (by simp <;> omega) ?_; intro v1 w1 hown1 hgrow1 hsm1; have hB1 := ((Below.refl wq.heap.size wq).drew.alloc (Nat.le_refl _) _).grown hgrow1 (by simp <;> omega) (fun j hj => by cases hj; simp); have hcw1 : w1.cell? ⟨b, off + k, none⟩ = some (.int .u64 z) := (hB1.cell (by exact hbq)).trans hcz9)
                | (refine step_app rfl (.tmp 45) (.tmp 48) 22 rfl wq.heap.size 23 i0 (.int .u64 0) 8 Try.underlying22 hi hz0 hz1 hz2 rfl (by simp [Act.eval]) ((World.ownsRow_made wq.drew #[] 0 (Nat.le_refl _) (by unfold maxLen; omega) rfl).alloc (.cells #[.int .u64 z] 23)) (by simp [Act.eval]) (hS1.below (((Below.refl wq.heap.size wq).drew.alloc (Nat.le_refl _) _).alloc (by simp) _)) hc1 (by rw [hl1]; unfold maxLen; omega) (by rw [hl1]; omega) (by simp <;> omega) ?_; intro v1 w1 hown1 hgrow1 hsm1; have hB1 := (((Below.refl wq.heap.size wq).drew.alloc (Nat.le_refl _) _).alloc (by simp) _).grown hgrow1 (by simp <;> omega) (fun j hj => by cases hj; simp); have hcw1 : w1.cell? ⟨b, off + k, none⟩ = some (.int .u64 z) := (hB1.cell (by exact hbq)).trans hcz9; have h54 := (Sl.one (wq.drew.alloc (.cells #[] 23)) (.int .u64 z) 23).grown hgrow1 (by simp [Value.ownBlock]))
                | (refine step_app rfl (.tmp 45) (.tmp 48) 22 rfl wq.heap.size 23 i0 (.int .u64 0) 8 Try.underlying22 hi hz0 hz1 hz2 rfl (by simp [Act.eval]) (World.ownsRow_made (wq.drew.alloc (.cells #[.int .u64 z] 23)) #[] 0 (by simp) (by unfold maxLen; omega) rfl) (by simp [Act.eval]) (hS1.below (((Below.refl wq.heap.size wq).drew.alloc (Nat.le_refl _) _).alloc (by simp) _)) hc1 (by rw [hl1]; unfold maxLen; omega) (by rw [hl1]; omega) (by simp <;> omega) ?_; intro v1 w1 hown1 hgrow1 hsm1; have hB1 := (((Below.refl wq.heap.size wq).drew.alloc (Nat.le_refl _) _).alloc (by simp) _).grown hgrow1 (by simp <;> omega) (fun j hj => by cases hj; simp); have hcw1 : w1.cell? ⟨b, off + k, none⟩ = some (.int .u64 z) := (hB1.cell (by exact hbq)).trans hcz9; have h54 := ((Sl.one wq.drew (.int .u64 z) 23).alloc (.cells #[] 23)).grown hgrow1 (by simp [Value.ownBlock]))
                | (refine step_app rfl (.tmp 49) (.tmp 54) 22 rfl wq.heap.size 23 i0 (.int .u64 0) 8 Try.underlying22 hi hz0 hz1 hz2 rfl (by simp [Act.eval]) (hown1.alloc _) (by simp [Act.eval]) (Sl.one w1 (.int .u64 z) 23) (fun u hu => by simp at hu; subst hu; rfl) (by simp only [hl1, List.length_cons, List.length_nil]; unfold maxLen; omega) (by simp only [hl1, List.length_cons, List.length_nil]; omega) (by first | exact hB1.size | (simp; exact Nat.le_succ_of_le hB1.size)) ?_; intro v2 w2 hown2 hgrow2 hsm2; have hB2 := (hB1.alloc hB1.size _).grown hgrow2 (by first | exact hB1.size | (simp; exact Nat.le_succ_of_le hB1.size)) (fun j hj => (hown1.lt j hj).1))
                | (refine step_app rfl (.tmp 49) (.tmp 54) 22 rfl wq.heap.size 23 i0 (.int .u64 0) 8 Try.underlying22 hi hz0 hz1 hz2 rfl (by simp [Act.eval]) hown1 (by simp [Act.eval]) h54 (fun u hu => by simp at hu; subst hu; rfl) (by simp only [hl1, List.length_cons, List.length_nil]; unfold maxLen; omega) (by simp only [hl1, List.length_cons, List.length_nil]; omega) (by first | exact hB1.size | (simp; exact Nat.le_succ_of_le hB1.size)) ?_; intro v2 w2 hown2 hgrow2 hsm2; have hB2 := hB1.grown hgrow2 (by first | exact hB1.size | (simp; exact Nat.le_succ_of_le hB1.size)) (fun j hj => (hown1.lt j hj).1))
                | (refine step_app rfl (.tmp 55) (.tmp 58) 22 rfl wq.heap.size 23 i0 (.int .u64 0) 8 Try.underlying22 hi hz0 hz1 hz2 rfl (by simp [Act.eval]) hown2 (by simp [Act.eval]) (hS2.below hB2) hc2 (by simp only [hl1, hl2, List.length_cons, List.length_nil]; unfold maxLen; omega) (by simp only [hl1, hl2, List.length_cons, List.length_nil]; omega) hB2.size ?_; intro v3 w3 hown3 hgrow3 hsm3))
              all_goals
                have hB3 := hB2.grown hgrow3 hB2.size (fun j hj => (hown2.lt j hj).1)
                have hlen3 : 0 + T1.length + 1 + T2.length = os.length + 1 := by omega
                have hown4 : w3.ownsRow w.heap.size 23 1 v3 (os.take n ++ [z] ++ os.drop n).length ((os.take n ++ [z] ++ os.drop n).map (Value.int .u64)) := by
                  rw [hT.out, hTl.out, ← hlen3]
                  refine ⟨hown3.1, ?_⟩
                  rcases hown3.2 with h | ⟨g, cap, cur, h1, h2, h3⟩
                  · exact .inl h
                  · exact .inr ⟨g, cap, cur, h1, by omega, h3⟩
                clear hown1 hown2 hown3 hgrow1 hgrow2 hgrow3 hB1 hB2 hS1 hS2
                go_wp2
                go_roundw
                case rel => exact ⟨k + 1, _, hos3, (fun h => by have := hsm1 (hsm2 (hsm3 h)); cases this), by rw [hTl.out]; omega, by omega, by go_num, hown4, hqq.trans (hB3.mono hwq)⟩
                case measure => simp [intOf]; omega
        · obtain rfl : n = os.length := by omega
          have hat := ins_at os z os.length ⟨hn, hlow, fun h => absurd h hn1⟩
          have htk : (os.take os.length).map (Value.int .u64) = (os.map (Value.int .u64)).take os.length := List.map_take
          have hdr : (os.drop os.length).map (Value.int .u64) = (os.map (Value.int .u64)).drop os.length := List.map_drop
          have hos3 : Hid (os.take os.length ++ [z] ++ os.drop os.length = rise (zs.take (k + 1))) := by
            show _ = _
            rw [← hos2.out, hat.2 fun h => hn1 h.1]
          have hne : ((os.length : Int) == (os.length : Int)) = true := by simp
          have hd0 : decide ((os.length : Int) < (os.length : Int)) = false := by simp
          clear hat hos2 hlow hlowN
          go_wp2
          go_quiet (fail)
          generalize nq = q1
          go_wp2
          go_quiet (fail)
          go_wp2
          have hqq := below_drewN (hnx.trans (hq.mono hnx.size)) (q1 + nq)
          have hcz9 : (wr.drewN (q1 + nq)).cell? ⟨b, off + k, none⟩ = some (.int .u64 z) := hcz
          have hsl9 : Sl (wr.drewN (q1 + nq)) _ _ := (hsl.below hq : Sl wr _ _)
          have hS1 := hsl9.to' os.length (by omega)
          have hS2 := hsl9.from' os.length (by omega)
          have hbq : b < (wr.drewN (q1 + nq)).heap.size := Nat.lt_of_lt_of_le hbr hq.size
          have hwq : w.heap.size ≤ (wr.drewN (q1 + nq)).heap.size := hqq.size
          rw [← htk] at hS1
          rw [← hdr] at hS2
          have hl1 : ((os.take os.length).map (Value.int .u64)).length = os.length := by rw [List.length_map, List.length_take]; omega
          have hl2 : ((os.drop os.length).map (Value.int .u64)).length = os.length - os.length := by rw [List.length_map, List.length_drop]
          have hc1 := u64_cells (os.take os.length)
          have hc2 := u64_cells (os.drop os.length)
          generalize hwq : World.drewN wr _ = wq at *
          clear hown hsl hsl9 hcz hq hnx htk hdr
          generalize hT1 : (os.take os.length).map (Value.int .u64) = T1 at *
          generalize hT2 : (os.drop os.length).map (Value.int .u64) = T2 at *
          have hT : Hid ((os.take os.length ++ [z] ++ os.drop os.length).map (Value.int .u64) = T1 ++ [.int .u64 z] ++ T2) := by
            show _ = _
            rw [List.map_append, List.map_append, hT1, hT2]; rfl
          have hTl : Hid ((os.take os.length ++ [z] ++ os.drop os.length).length = os.length + 1) := by
            show _ = _
            simp <;> omega
          have hnco : os.length ≤ co := by omega
          clear hT1 hT2
          go_region_law (first
            | (refine step_app rfl (.tmp 45) (.tmp 48) 22 rfl wq.heap.size 23 i0 (.int .u64 0) 8 Try.underlying22 hi hz0 hz1 hz2 rfl (by simp [Act.eval]) (World.ownsRow_made wq.drew #[] 0 (Nat.le_refl _) (by unfold maxLen; omega) rfl) (by simp [Act.eval]) (hS1.below ((Below.refl wq.heap.size wq).drew.alloc (Nat.le_refl _) _)) hc1 (by rw [hl1]; unfold maxLen; omega) (by rw [hl1]; omega) (by simp <;> omega) ?_; intro v1 w1 hown1 hgrow1 hsm1; have hB1 := ((Below.refl wq.heap.size wq).drew.alloc (Nat.le_refl _) _).grown hgrow1 (by simp <;> omega) (fun j hj => by cases hj; simp); have hcw1 : w1.cell? ⟨b, off + k, none⟩ = some (.int .u64 z) := (hB1.cell (by exact hbq)).trans hcz9)
            | (refine step_app rfl (.tmp 45) (.tmp 48) 22 rfl wq.heap.size 23 i0 (.int .u64 0) 8 Try.underlying22 hi hz0 hz1 hz2 rfl (by simp [Act.eval]) ((World.ownsRow_made wq.drew #[] 0 (Nat.le_refl _) (by unfold maxLen; omega) rfl).alloc (.cells #[.int .u64 z] 23)) (by simp [Act.eval]) (hS1.below (((Below.refl wq.heap.size wq).drew.alloc (Nat.le_refl _) _).alloc (by simp) _)) hc1 (by rw [hl1]; unfold maxLen; omega) (by rw [hl1]; omega) (by simp <;> omega) ?_; intro v1 w1 hown1 hgrow1 hsm1; have hB1 := (((Below.refl wq.heap.size wq).drew.alloc (Nat.le_refl _) _).alloc (by simp) _).grown hgrow1 (by simp <;> omega) (fun j hj => by cases hj; simp); have hcw1 : w1.cell? ⟨b, off + k, none⟩ = some (.int .u64 z) := (hB1.cell (by exact hbq)).trans hcz9; have h54 := (Sl.one (wq.drew.alloc (.cells #[] 23)) (.int .u64 z) 23).grown hgrow1 (by simp [Value.ownBlock]))
            | (refine step_app rfl (.tmp 45) (.tmp 48) 22 rfl wq.heap.size 23 i0 (.int .u64 0) 8 Try.underlying22 hi hz0 hz1 hz2 rfl (by simp [Act.eval]) (World.ownsRow_made (wq.drew.alloc (.cells #[.int .u64 z] 23)) #[] 0 (by simp) (by unfold maxLen; omega) rfl) (by simp [Act.eval]) (hS1.below (((Below.refl wq.heap.size wq).drew.alloc (Nat.le_refl _) _).alloc (by simp) _)) hc1 (by rw [hl1]; unfold maxLen; omega) (by rw [hl1]; omega) (by simp <;> omega) ?_; intro v1 w1 hown1 hgrow1 hsm1; have hB1 := (((Below.refl wq.heap.size wq).drew.alloc (Nat.le_refl _) _).alloc (by simp) _).grown hgrow1 (by simp <;> omega) (fun j hj => by cases hj; simp); have hcw1 : w1.cell? ⟨b, off + k, none⟩ = some (.int .u64 z) := (hB1.cell (by exact hbq)).trans hcz9; have h54 := ((Sl.one wq.drew (.int .u64 z) 23).alloc (.cells #[] 23)).grown hgrow1 (by simp [Value.ownBlock]))
            | (refine step_app rfl (.tmp 49) (.tmp 54) 22 rfl wq.heap.size 23 i0 (.int .u64 0) 8 Try.underlying22 hi hz0 hz1 hz2 rfl (by simp [Act.eval]) (hown1.alloc _) (by simp [Act.eval]) (Sl.one w1 (.int .u64 z) 23) (fun u hu => by simp at hu; subst hu; rfl) (by simp only [hl1, List.length_cons, List.length_nil]; unfold maxLen; omega) (by simp only [hl1, List.length_cons, List.length_nil]; omega) (by first | exact hB1.size | (simp; exact Nat.le_succ_of_le hB1.size)) ?_; intro v2 w2 hown2 hgrow2 hsm2; have hB2 := (hB1.alloc hB1.size _).grown hgrow2 (by first | exact hB1.size | (simp; exact Nat.le_succ_of_le hB1.size)) (fun j hj => (hown1.lt j hj).1))
            | (refine step_app rfl (.tmp 49) (.tmp 54) 22 rfl wq.heap.size 23 i0 (.int .u64 0) 8 Try.underlying22 hi hz0 hz1 hz2 rfl (by simp [Act.eval]) hown1 (by simp [Act.eval]) h54 (fun u hu => by simp at hu; subst hu; rfl) (by simp only [hl1, List.length_cons, List.length_nil]; unfold maxLen; omega) (by simp only [hl1, List.length_cons, List.length_nil]; omega) (by first | exact hB1.size | (simp; exact Nat.le_succ_of_le hB1.size)) ?_; intro v2 w2 hown2 hgrow2 hsm2; have hB2 := hB1.grown hgrow2 (by first | exact hB1.size | (simp; exact Nat.le_succ_of_le hB1.size)) (fun j hj => (hown1.lt j hj).1))
            | (refine step_app rfl (.tmp 55) (.tmp 58) 22 rfl wq.heap.size 23 i0 (.int .u64 0) 8 Try.underlying22 hi hz0 hz1 hz2 rfl (by simp [Act.eval]) hown2 (by simp [Act.eval]) (hS2.below hB2) hc2 (by simp only [hl1, hl2, List.length_cons, List.length_nil]; unfold maxLen; omega) (by simp only [hl1, hl2, List.length_cons, List.length_nil]; omega) hB2.size ?_; intro v3 w3 hown3 hgrow3 hsm3))
          all_goals
            have hB3 := hB2.grown hgrow3 hB2.size (fun j hj => (hown2.lt j hj).1)
            have hlen3 : 0 + T1.length + 1 + T2.length = os.length + 1 := by omega
            have hown4 : w3.ownsRow w.heap.size 23 1 v3 (os.take os.length ++ [z] ++ os.drop os.length).length ((os.take os.length ++ [z] ++ os.drop os.length).map (Value.int .u64)) := by
              rw [hT.out, hTl.out, ← hlen3]
              refine ⟨hown3.1, ?_⟩
              rcases hown3.2 with h | ⟨g, cap, cur, h1, h2, h3⟩
              · exact .inl h
              · exact .inr ⟨g, cap, cur, h1, by omega, h3⟩
            clear hown1 hown2 hown3 hgrow1 hgrow2 hgrow3 hB1 hB2 hS1 hS2
            go_wp2
            go_roundw
            case rel => exact ⟨k + 1, _, hos3, (fun h => by have := hsm1 (hsm2 (hsm3 h)); cases this), by rw [hTl.out]; omega, by omega, by go_num, hown4, hqq.trans (hB3.mono hwq)⟩
            case measure => simp [intOf]; omega
    · obtain rfl : k = zs.length := by omega
      have e : os = rise zs := by rw [hos.out, List.take_length]
      subst e
      go_wp2
      go_ret
      exact ⟨_, rfl, hown, hnx⟩
end Go.Proofs.Ytfjhiaafabmpbae
