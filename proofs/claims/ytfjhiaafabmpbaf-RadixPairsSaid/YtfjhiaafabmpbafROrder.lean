/-
  THE REFERENCE's ORDER OF KEYS, by contract.
-/
import Derived.Test.YtfjhiaafabmpbafSl
import Derived.Test.YtfjhiaafabmpbafOrder
namespace Go.Proofs.Ytfjhiaafabmpbaf
open Go.ChangeShapes Go.WideShapes Go.ChangeAt Go.RowKit

theorem nats_cells (l : List Nat) : ∀ u ∈ natsV l, u.oneCell' = true := fun u hu => by
  obtain ⟨z, _, rfl⟩ := List.mem_map.1 hu; rfl
theorem ordered_insert {K : Nat → Nat} {k : Nat} {os : List Nat} (h : Ordered K k os) {n : Nat} (hn : n ≤ os.length) (hup : ∀ j, n ≤ j → j < os.length → K k < K (os.getD j 0)) (hlow : 0 < n → K (os.getD (n - 1) 0) ≤ K k) :
    Ordered K (k + 1) (os.take n ++ [k] ++ os.drop n) := by
  have hsplit : os.take n ++ os.drop n = os := List.take_append_drop n os
  have hpw : (os.take n ++ os.drop n).Pairwise (KeyLt K) := by rw [hsplit]; exact h.1
  rw [List.pairwise_append] at hpw
  obtain ⟨p1, p2, p3⟩ := hpw
  have hx : ∀ x ∈ os.take n, KeyLt K x k := fun x hx => by
    obtain ⟨j, hj, rfl⟩ := List.mem_iff_getElem.1 hx
    have hj' : j < n := by rw [List.length_take] at hj; omega
    have hjl : j < os.length := by omega
    have hxk : os[j] < k := (h.2 _).1 (List.getElem_mem hjl)
    have hle : K os[j] ≤ K k := by
      have hlow := hlow (by omega)
      rcases Nat.lt_or_ge j (n - 1) with hjn | hjn
      · have := List.pairwise_iff_getElem.1 h.1 j (n - 1) hjl (by omega) hjn
        have e : os.getD (n - 1) 0 = os[n - 1] := by simp [List.getD, show n - 1 < os.length by omega]
        rw [e] at hlow
        rcases this with h' | h' <;> omega
      · have e : os.getD (n - 1) 0 = os[j] := by
          have : n - 1 = j := by omega
          subst this
          simp [List.getD, hjl]
        rwa [e] at hlow
    rw [List.getElem_take]
    rcases Nat.lt_or_ge (K os[j]) (K k) with h' | h'
    · exact .inl h'
    · exact .inr ⟨by omega, hxk⟩
  have hy : ∀ y ∈ os.drop n, KeyLt K k y := fun y hy => by
    obtain ⟨j, hj, rfl⟩ := List.mem_iff_getElem.1 hy
    have hjl : n + j < os.length := by rw [List.length_drop] at hj; omega
    have := hup (n + j) (by omega) hjl
    have e : os.getD (n + j) 0 = os[n + j] := by simp [List.getD, hjl]
    rw [e] at this
    rw [List.getElem_drop]
    exact .inl this
  refine ⟨?_, fun p => ?_⟩
  · rw [List.append_assoc, List.pairwise_append]
    refine ⟨p1, List.pairwise_cons.2 ⟨hy, p2⟩, fun x hx' y hy' => ?_⟩
    rcases List.mem_cons.1 hy' with rfl | hy'
    · exact hx x hx'
    · exact p3 x hx' y hy'
  · have hm := h.2 p
    rw [← hsplit, List.mem_append] at hm
    simp only [List.mem_append, List.mem_singleton]
    constructor
    · rintro ((h1 | h1) | h1)
      · have := hm.1 (.inl h1); omega
      · omega
      · have := hm.1 (.inr h1); omega
    · intro hp
      rcases Nat.lt_or_ge p k with h1 | h1
      · rcases hm.2 h1 with h2 | h2
        · exact .inl (.inl h2)
        · exact .inr h2
      · exact .inl (.inr (by omega))

set_option maxHeartbeats 3200000 in
set_option maxRecDepth 1000000 in
theorem rorder_c (vk : Value) (keys : List Int) (w : World) (hk : Holds w vk (keys.map (Value.int .u64))) (hn1 : keys.length ≤ 1000) (hwf : ∀ z ∈ keys, (Lit.int .u64 z).wf = true) :
    Calls Try.prog 7 #[vk] w fun e w' => ∃ v' l, e = .returned v' ∧ Ordered (keyOf keys) keys.length l ∧ w'.ownsRow w.heap.size 3 1 v' keys.length (natsV l) ∧ Below w.heap.size w w' := by
  obtain ⟨ak, ck, rfl, hrk⟩ := hk
  rw [List.length_map]
  obtain ⟨i0, hi, hz0, hz1, hz2⟩ := info_parts infoI
  have hkc : ∀ p, p < keys.length → ∃ b off, ak = some ⟨b, off, none⟩ ∧ b < w.heap.size ∧ w.cell? ⟨b, off + p, none⟩ = some (.int .u64 (keyOf keys p : Nat)) := fun p hp => by
    obtain ⟨h0', _⟩ := bounds_u64 (hwf _ (getD_mem hp))
    have e : ((keyOf keys p : Nat) : Int) = keys.getD p 0 := by unfold keyOf; omega
    rw [e]
    rcases hrk with h0 | ⟨b, off, rfl, hb, hc⟩
    · simp only [List.map_eq_nil_iff] at h0; subst h0; simp at hp
    · exact ⟨b, off, rfl, hb, hc p _ (by rw [List.getElem?_map, getD_some hp]; rfl)⟩
  clear hrk hwf
  go_enter Try.func7, Try.ntmps7
  go_wp2
  go_loopw [3, 4] (fun u i wr => ∃ k : Nat, ∃ os : List Nat, Hid (Ordered (keyOf keys) k os) ∧ u ≠ .slice none 0 0 ∧ k ≤ keys.length ∧ i = .int .i64 k ∧ wr.ownsRow w.heap.size 3 1 u k (natsV os) ∧ Below w.heap.size w wr)
    (fun _ i _ => keys.length - (intOf i).toNat)
  case atStart => exact ⟨0, [], ⟨List.Pairwise.nil, fun p => by simp⟩, (fun h => by cases h), Nat.zero_le _, rfl, World.ownsRow_made w #[] 0 (Nat.le_refl _) (by unfold maxLen; omega) rfl, (Below.refl _ _).alloc (Nat.le_refl _) _⟩
  case round =>
    obtain ⟨k, os, hos, hun, hk, rfl, hown, hnx⟩ := hrel
    by_cases hlt : k < keys.length
    · have hol : os.length = k := hos.out.len
      have hbelow : ∀ p ∈ os, p < k := fun p hp => (hos.out.2 p).1 hp
      have hsl := sl_of_owns hown
      obtain ⟨g, co, rfl, _, hco⟩ := own_some hown hun
      clear hun
      obtain ⟨bk, ok, rfl, hbk, hckk⟩ := hkc k hlt
      generalize wr = wo at *
      have hbko : bk < wo.heap.size := Nat.lt_of_lt_of_le hbk hnx.size
      go_wp2
      go_loopw [5] (fun x wq => ∃ n : Nat, n ≤ k ∧ x = .int .i64 n ∧ Hid (∀ j, n ≤ j → j < os.length → keyOf keys k < keyOf keys (os.getD j 0)) ∧ Below wo.heap.size wo wq)
        (fun x _ => (intOf x).toNat)
      case atStart => exact ⟨k, Nat.le_refl _, rfl, fun j h1 h2 => by omega, Below.refl _ _⟩
      case round =>
        obtain ⟨n, hn, rfl, hup, hq⟩ := hrel
        have hqw := hnx.trans (hq.mono hnx.size)
        by_cases hn0 : 0 < n
        · have hpm : os.getD (n - 1) 0 ∈ os := by simp [List.getD, show n - 1 < os.length by omega]
          have hpk := hbelow _ hpm
          obtain ⟨_, _, hab, _, hckp⟩ := hkc (os.getD (n - 1) 0) (by omega)
          cases hab
          have hck1 : wr.cell? ⟨bk, ok + k, none⟩ = some (.int .u64 (keyOf keys k : Nat)) := (hqw.cell (by exact hbk)).trans hckk
          have hck2 : wr.cell? ⟨bk, ok + os.getD (n - 1) 0, none⟩ = some (.int .u64 (keyOf keys (os.getD (n - 1) 0) : Nat)) := (hqw.cell (by exact hbk)).trans hckp
          have hgl := (hown.lt g rfl).2
          have hcg : wr.cell? ⟨g, n - 1, none⟩ = some (.int .i64 (os.getD (n - 1) 0 : Nat)) := by
            refine (hq.cell (by exact hgl)).trans ?_
            rw [hown.cellAt (n - 1) (by omega)]
            simp [natsV, List.getD, show n - 1 < os.length by omega]
          have hnm : ((n : Int) - 1).toNat = n - 1 := by omega
          have hup2 : keyOf keys k < keyOf keys (os.getD (n - 1) 0) → Hid (∀ j, n - 1 ≤ j → j < os.length → keyOf keys k < keyOf keys (os.getD j 0)) := fun h j h1 h2 => by
            rcases Nat.lt_or_ge j n with h' | h'
            · obtain rfl : j = n - 1 := by omega
              exact h
            · exact hup.out j h' h2
          have hins0 : ¬ keyOf keys k < keyOf keys (os.getD (n - 1) 0) → Hid (Ordered (keyOf keys) (k + 1) (os.take n ++ [k] ++ os.drop n)) := fun h => ordered_insert hos.out (by omega) hup.out (fun _ => by omega)
          clear hckp hpm hbelow hup hos hkc
          generalize os.getD (n - 1) 0 = p at *
          generalize keyOf keys k = kk at *
          generalize keyOf keys p = kp at *
          by_cases hgt : kk < kp
          · have hd : decide ((kk : Int) < (kp : Int)) = true := by simp; omega
            have hu := hup2 hgt
            clear hup2 hins0
            go_wp2
            go_quiet (fail)
            go_wp2
            go_roundw
            case rel => exact ⟨n - 1, by omega, by first | go_num | (congr 1; omega), hu, below_drewN hq _⟩
            case measure => simp [intOf]; omega
          · have hd : decide ((kk : Int) < (kp : Int)) = false := by simp; omega
            have hins := hins0 hgt
            clear hup2 hins0
            go_wp2
            go_quiet (fail)
            go_wp2
            have hqq := below_drewN (hnx.trans (hq.mono hnx.size)) nq
            have hsl9 : Sl (wr.drewN nq) _ _ := (hsl.below hq : Sl wr _ _)
            have hS1 := hsl9.to' n (by omega)
            have hS2 := hsl9.from' n (by omega)
            have hwq : w.heap.size ≤ (wr.drewN nq).heap.size := hqq.size
            have hl1 : ((natsV os).take n).length = n := by simp [natsV]; omega
            have hl2 : ((natsV os).drop n).length = k - n := by simp [natsV, hol]
            have hc1 : ∀ u ∈ (natsV os).take n, u.oneCell' = true := fun u hu => nats_cells os u (List.mem_of_mem_take hu)
            have hc2 : ∀ u ∈ (natsV os).drop n, u.oneCell' = true := fun u hu => nats_cells os u (List.mem_of_mem_drop hu)
            generalize wr.drewN nq = wq at *
            clear hown hsl hsl9 hq hnx
            have hT : Hid (natsV (os.take n ++ [k] ++ os.drop n) = (natsV os).take n ++ [(.int .i64 (k : Int))] ++ (natsV os).drop n) := by
              show _ = _
              simp [natsV, List.map_take, List.map_drop]
            generalize (natsV os).take n = T1 at *
            generalize (natsV os).drop n = T2 at *
            have hnco : n ≤ co := by omega
            go_wp2
            go_region_law (first
              | (refine step_app rfl (.tmp 34) (.tmp 37) 25 rfl wq.heap.size 3 i0 (.int .i64 0) 8 Try.underlying25 hi hz0 hz1 hz2 rfl (by simp [Act.eval]) (World.ownsRow_made wq.drew #[] 0 (Nat.le_refl _) (by unfold maxLen; omega) rfl) (by simp [Act.eval]) (hS1.below ((Below.refl wq.heap.size wq).drew.alloc (Nat.le_refl _) _)) hc1 (by rw [hl1]; unfold maxLen; omega) (by rw [hl1]; omega) (by simp <;> omega) ?_; intro v1 w1 hown1 hgrow1 hsm1; have hB1 := ((Below.refl wq.heap.size wq).drew.alloc (Nat.le_refl _) _).grown hgrow1 (by simp <;> omega) (fun j hj => by cases hj; simp))
              | (refine step_app rfl (.tmp 34) (.tmp 37) 25 rfl wq.heap.size 3 i0 (.int .i64 0) 8 Try.underlying25 hi hz0 hz1 hz2 rfl (by simp [Act.eval]) ((World.ownsRow_made wq.drew #[] 0 (Nat.le_refl _) (by unfold maxLen; omega) rfl).alloc (.cells #[(.int .i64 (k : Int))] 3)) (by simp [Act.eval]) (hS1.below (((Below.refl wq.heap.size wq).drew.alloc (Nat.le_refl _) _).alloc (by simp) _)) hc1 (by rw [hl1]; unfold maxLen; omega) (by rw [hl1]; omega) (by simp <;> omega) ?_; intro v1 w1 hown1 hgrow1 hsm1; have hB1 := (((Below.refl wq.heap.size wq).drew.alloc (Nat.le_refl _) _).alloc (by simp) _).grown hgrow1 (by simp <;> omega) (fun j hj => by cases hj; simp); have h54 := (Sl.one (wq.drew.alloc (.cells #[] 3)) (.int .i64 (k : Int)) 3).grown hgrow1 (by simp [Value.ownBlock]))
              | (refine step_app rfl (.tmp 34) (.tmp 37) 25 rfl wq.heap.size 3 i0 (.int .i64 0) 8 Try.underlying25 hi hz0 hz1 hz2 rfl (by simp [Act.eval]) (World.ownsRow_made (wq.drew.alloc (.cells #[(.int .i64 (k : Int))] 3)) #[] 0 (by simp) (by unfold maxLen; omega) rfl) (by simp [Act.eval]) (hS1.below (((Below.refl wq.heap.size wq).drew.alloc (Nat.le_refl _) _).alloc (by simp) _)) hc1 (by rw [hl1]; unfold maxLen; omega) (by rw [hl1]; omega) (by simp <;> omega) ?_; intro v1 w1 hown1 hgrow1 hsm1; have hB1 := (((Below.refl wq.heap.size wq).drew.alloc (Nat.le_refl _) _).alloc (by simp) _).grown hgrow1 (by simp <;> omega) (fun j hj => by cases hj; simp); have h54 := ((Sl.one wq.drew (.int .i64 (k : Int)) 3).alloc (.cells #[] 3)).grown hgrow1 (by simp [Value.ownBlock]))
              | (refine step_app rfl (.tmp 38) (.tmp 40) 25 rfl wq.heap.size 3 i0 (.int .i64 0) 8 Try.underlying25 hi hz0 hz1 hz2 rfl (by simp [Act.eval]) (hown1.alloc _) (by simp [Act.eval]) (Sl.one w1 (.int .i64 (k : Int)) 3) (fun u hu => by simp at hu; subst hu; rfl) (by simp only [hl1, List.length_cons, List.length_nil]; unfold maxLen; omega) (by simp only [hl1, List.length_cons, List.length_nil]; omega) (by first | exact hB1.size | (simp; exact Nat.le_succ_of_le hB1.size)) ?_; intro v2 w2 hown2 hgrow2 hsm2; have hB2 := (hB1.alloc hB1.size _).grown hgrow2 (by first | exact hB1.size | (simp; exact Nat.le_succ_of_le hB1.size)) (fun j hj => (hown1.lt j hj).1))
              | (refine step_app rfl (.tmp 38) (.tmp 40) 25 rfl wq.heap.size 3 i0 (.int .i64 0) 8 Try.underlying25 hi hz0 hz1 hz2 rfl (by simp [Act.eval]) hown1 (by simp [Act.eval]) h54 (fun u hu => by simp at hu; subst hu; rfl) (by simp only [hl1, List.length_cons, List.length_nil]; unfold maxLen; omega) (by simp only [hl1, List.length_cons, List.length_nil]; omega) (by first | exact hB1.size | (simp; exact Nat.le_succ_of_le hB1.size)) ?_; intro v2 w2 hown2 hgrow2 hsm2; have hB2 := hB1.grown hgrow2 (by first | exact hB1.size | (simp; exact Nat.le_succ_of_le hB1.size)) (fun j hj => (hown1.lt j hj).1))
              | (refine step_app rfl (.tmp 41) (.tmp 44) 25 rfl wq.heap.size 3 i0 (.int .i64 0) 8 Try.underlying25 hi hz0 hz1 hz2 rfl (by simp [Act.eval]) hown2 (by simp [Act.eval]) (hS2.below hB2) hc2 (by simp only [hl1, hl2, List.length_cons, List.length_nil]; unfold maxLen; omega) (by simp only [hl1, hl2, List.length_cons, List.length_nil]; omega) hB2.size ?_; intro v3 w3 hown3 hgrow3 hsm3))
            all_goals
              have hB3 := hB2.grown hgrow3 hB2.size (fun j hj => (hown2.lt j hj).1)
              have hlen3 : 0 + T1.length + 1 + T2.length = k + 1 := by omega
              have hown4 : w3.ownsRow w.heap.size 3 1 v3 (k + 1) (natsV (os.take n ++ [k] ++ os.drop n)) := by
                rw [hT.out, ← hlen3]
                refine ⟨hown3.1, ?_⟩
                rcases hown3.2 with h | ⟨g, cap, cur, h1, h2, h3⟩
                · exact .inl h
                · exact .inr ⟨g, cap, cur, h1, by omega, h3⟩
              clear hown1 hown2 hown3 hgrow1 hgrow2 hgrow3 hB1 hB2 hS1 hS2
              go_wp2
              go_roundw
              case rel => exact ⟨k + 1, _, hins, (fun h => by have := hsm1 (hsm2 (hsm3 h)); cases this), by omega, by go_num, hown4, hqq.trans (hB3.mono hwq)⟩
              case measure => simp [intOf]; omega
        · have hins : Hid (Ordered (keyOf keys) (k + 1) (os.take n ++ [k] ++ os.drop n)) := ordered_insert hos.out (by omega) hup.out (fun h => absurd h hn0)
          clear hbelow hup hos hkc
          go_wp2
          go_quiet (fail)
          go_wp2
          have hqq := below_drewN (hnx.trans (hq.mono hnx.size)) nq
          have hsl9 : Sl (wr.drewN nq) _ _ := (hsl.below hq : Sl wr _ _)
          have hS1 := hsl9.to' n (by omega)
          have hS2 := hsl9.from' n (by omega)
          have hwq : w.heap.size ≤ (wr.drewN nq).heap.size := hqq.size
          have hl1 : ((natsV os).take n).length = n := by simp [natsV]; omega
          have hl2 : ((natsV os).drop n).length = k - n := by simp [natsV, hol]
          have hc1 : ∀ u ∈ (natsV os).take n, u.oneCell' = true := fun u hu => nats_cells os u (List.mem_of_mem_take hu)
          have hc2 : ∀ u ∈ (natsV os).drop n, u.oneCell' = true := fun u hu => nats_cells os u (List.mem_of_mem_drop hu)
          generalize wr.drewN nq = wq at *
          clear hown hsl hsl9 hq hnx
          have hT : Hid (natsV (os.take n ++ [k] ++ os.drop n) = (natsV os).take n ++ [(.int .i64 (k : Int))] ++ (natsV os).drop n) := by
            show _ = _
            simp [natsV, List.map_take, List.map_drop]
          generalize (natsV os).take n = T1 at *
          generalize (natsV os).drop n = T2 at *
          have hnco : n ≤ co := by omega
          go_wp2
          go_region_law (first
            | (refine step_app rfl (.tmp 34) (.tmp 37) 25 rfl wq.heap.size 3 i0 (.int .i64 0) 8 Try.underlying25 hi hz0 hz1 hz2 rfl (by simp [Act.eval]) (World.ownsRow_made wq.drew #[] 0 (Nat.le_refl _) (by unfold maxLen; omega) rfl) (by simp [Act.eval]) (hS1.below ((Below.refl wq.heap.size wq).drew.alloc (Nat.le_refl _) _)) hc1 (by rw [hl1]; unfold maxLen; omega) (by rw [hl1]; omega) (by simp <;> omega) ?_; intro v1 w1 hown1 hgrow1 hsm1; have hB1 := ((Below.refl wq.heap.size wq).drew.alloc (Nat.le_refl _) _).grown hgrow1 (by simp <;> omega) (fun j hj => by cases hj; simp))
            | (refine step_app rfl (.tmp 34) (.tmp 37) 25 rfl wq.heap.size 3 i0 (.int .i64 0) 8 Try.underlying25 hi hz0 hz1 hz2 rfl (by simp [Act.eval]) ((World.ownsRow_made wq.drew #[] 0 (Nat.le_refl _) (by unfold maxLen; omega) rfl).alloc (.cells #[(.int .i64 (k : Int))] 3)) (by simp [Act.eval]) (hS1.below (((Below.refl wq.heap.size wq).drew.alloc (Nat.le_refl _) _).alloc (by simp) _)) hc1 (by rw [hl1]; unfold maxLen; omega) (by rw [hl1]; omega) (by simp <;> omega) ?_; intro v1 w1 hown1 hgrow1 hsm1; have hB1 := (((Below.refl wq.heap.size wq).drew.alloc (Nat.le_refl _) _).alloc (by simp) _).grown hgrow1 (by simp <;> omega) (fun j hj => by cases hj; simp); have h54 := (Sl.one (wq.drew.alloc (.cells #[] 3)) (.int .i64 (k : Int)) 3).grown hgrow1 (by simp [Value.ownBlock]))
            | (refine step_app rfl (.tmp 34) (.tmp 37) 25 rfl wq.heap.size 3 i0 (.int .i64 0) 8 Try.underlying25 hi hz0 hz1 hz2 rfl (by simp [Act.eval]) (World.ownsRow_made (wq.drew.alloc (.cells #[(.int .i64 (k : Int))] 3)) #[] 0 (by simp) (by unfold maxLen; omega) rfl) (by simp [Act.eval]) (hS1.below (((Below.refl wq.heap.size wq).drew.alloc (Nat.le_refl _) _).alloc (by simp) _)) hc1 (by rw [hl1]; unfold maxLen; omega) (by rw [hl1]; omega) (by simp <;> omega) ?_; intro v1 w1 hown1 hgrow1 hsm1; have hB1 := (((Below.refl wq.heap.size wq).drew.alloc (Nat.le_refl _) _).alloc (by simp) _).grown hgrow1 (by simp <;> omega) (fun j hj => by cases hj; simp); have h54 := ((Sl.one wq.drew (.int .i64 (k : Int)) 3).alloc (.cells #[] 3)).grown hgrow1 (by simp [Value.ownBlock]))
            | (refine step_app rfl (.tmp 38) (.tmp 40) 25 rfl wq.heap.size 3 i0 (.int .i64 0) 8 Try.underlying25 hi hz0 hz1 hz2 rfl (by simp [Act.eval]) (hown1.alloc _) (by simp [Act.eval]) (Sl.one w1 (.int .i64 (k : Int)) 3) (fun u hu => by simp at hu; subst hu; rfl) (by simp only [hl1, List.length_cons, List.length_nil]; unfold maxLen; omega) (by simp only [hl1, List.length_cons, List.length_nil]; omega) (by first | exact hB1.size | (simp; exact Nat.le_succ_of_le hB1.size)) ?_; intro v2 w2 hown2 hgrow2 hsm2; have hB2 := (hB1.alloc hB1.size _).grown hgrow2 (by first | exact hB1.size | (simp; exact Nat.le_succ_of_le hB1.size)) (fun j hj => (hown1.lt j hj).1))
            | (refine step_app rfl (.tmp 38) (.tmp 40) 25 rfl wq.heap.size 3 i0 (.int .i64 0) 8 Try.underlying25 hi hz0 hz1 hz2 rfl (by simp [Act.eval]) hown1 (by simp [Act.eval]) h54 (fun u hu => by simp at hu; subst hu; rfl) (by simp only [hl1, List.length_cons, List.length_nil]; unfold maxLen; omega) (by simp only [hl1, List.length_cons, List.length_nil]; omega) (by first | exact hB1.size | (simp; exact Nat.le_succ_of_le hB1.size)) ?_; intro v2 w2 hown2 hgrow2 hsm2; have hB2 := hB1.grown hgrow2 (by first | exact hB1.size | (simp; exact Nat.le_succ_of_le hB1.size)) (fun j hj => (hown1.lt j hj).1))
            | (refine step_app rfl (.tmp 41) (.tmp 44) 25 rfl wq.heap.size 3 i0 (.int .i64 0) 8 Try.underlying25 hi hz0 hz1 hz2 rfl (by simp [Act.eval]) hown2 (by simp [Act.eval]) (hS2.below hB2) hc2 (by simp only [hl1, hl2, List.length_cons, List.length_nil]; unfold maxLen; omega) (by simp only [hl1, hl2, List.length_cons, List.length_nil]; omega) hB2.size ?_; intro v3 w3 hown3 hgrow3 hsm3))
          all_goals
            have hB3 := hB2.grown hgrow3 hB2.size (fun j hj => (hown2.lt j hj).1)
            have hlen3 : 0 + T1.length + 1 + T2.length = k + 1 := by omega
            have hown4 : w3.ownsRow w.heap.size 3 1 v3 (k + 1) (natsV (os.take n ++ [k] ++ os.drop n)) := by
              rw [hT.out, ← hlen3]
              refine ⟨hown3.1, ?_⟩
              rcases hown3.2 with h | ⟨g, cap, cur, h1, h2, h3⟩
              · exact .inl h
              · exact .inr ⟨g, cap, cur, h1, by omega, h3⟩
            clear hown1 hown2 hown3 hgrow1 hgrow2 hgrow3 hB1 hB2 hS1 hS2
            go_wp2
            go_roundw
            case rel => exact ⟨k + 1, _, hins, (fun h => by have := hsm1 (hsm2 (hsm3 h)); cases this), by omega, by go_num, hown4, hqq.trans (hB3.mono hwq)⟩
            case measure => simp [intOf]; omega
    · obtain rfl : k = keys.length := by omega
      go_wp2
      go_ret
      exact ⟨_, os, rfl, hos.out, hown, hnx⟩
end Go.Proofs.Ytfjhiaafabmpbaf
