/-
  ONE TEXT MORE IN A RISING LIST (the reference's Put), by contract.
-/
import Derived.Test.YtikajhpgoehboaaLabelsN
import Derived.Test.YtikajhpgoehboaaRec
import Derived.Laws.AppendOwnNone
import Derived.Test.YtikajhpgoehboaaCsNew
import Derived.Deep.QuietTactic
import Derived.BigQuiet
namespace Go.Proofs.Ytikajhpgoehboaa
open Go.ChangeShapes Go.WideShapes Go.ChangeAt Go.RowKit

theorem infoTx : (Try.prog.info? 9).map (fun i => (i.zero, i.size, i.bytes)) = some (some (.string ⟨#[]⟩), 1, 16) := by kernel_rfl
set_option maxRecDepth 100000 in
set_option maxHeartbeats 3200000 in
theorem rputT_c (s : ByteArray) (L : List ByteArray) (g og cap : Nat) (w : World) (hsl : Sl w (.slice (some ⟨g, og, none⟩) L.length cap) (tx L)) (hl : L.length ≤ 100000) :
    Calls Try.prog 69 #[.slice (some ⟨g, og, none⟩) L.length cap, .string s] w fun e w' =>
      ∃ g' og' cap' L', e = .returned (.slice (some ⟨g', og', none⟩) (List.length L') cap') ∧ Sl w' (.slice (some ⟨g', og', none⟩) L'.length cap') (tx L') ∧ PutT s L L' ∧ Below w.heap.size w w' := by
  obtain ⟨i0, hi, hz0, hz1, hz2⟩ := info_parts infoTx
  obtain ⟨N, hN⟩ : ∃ N, N = L.length := ⟨_, rfl⟩
  rw [← hN] at hsl hl ⊢
  replace hN := hidden hN
  replace hsl := hidden hsl
  go_enter Try.func69, Try.ntmps69
  go_wp2
  go_loop [5] (fun u => ∃ j : Nat, j ≤ N ∧ u = .int .i64 (j : Int) ∧ Hid (∀ i, i < j → Op.bytesLess (L.getD i ⟨#[]⟩).toList s.toList = true)) (fun u => N - (intOf u).toNat)
  case atStart => exact ⟨0, Nat.zero_le _, rfl, (fun i hi => absurd hi (Nat.not_lt_zero i) : ∀ i, i < 0 → Op.bytesLess (L.getD i ⟨#[]⟩).toList s.toList = true)⟩
  case round =>
    obtain ⟨j, hj, rfl, hlow⟩ := hrel
    by_cases hlt : j < N
    · have hlt' : (j : Int) < (N : Int) := by omega
      have hcx : w.cell? ⟨g, og + j, none⟩ = some (.string (L.getD j ⟨#[]⟩)) := by
        obtain ⟨a, c, h1, _, _, _, h5⟩ := hsl.out
        simp only [Value.slice.injEq] at h1
        obtain ⟨rfl, _, _⟩ := h1
        rcases h5 with h5 | ⟨b, off, h6, _, h8⟩
        · have := congrArg List.length h5
          rw [tx_len, ← hN.out] at this
          simp only [List.length_nil] at this; omega
        · simp only [Option.some.injEq, Addr.mk.injEq, and_true] at h6
          obtain ⟨rfl, rfl⟩ := h6
          exact h8 j _ (tx_at L _ j (by rw [← hN.out]; exact hlt))
      have hnext : Hid (Op.bytesLess (L.getD j ⟨#[]⟩).toList s.toList = true → ∀ i, i < j + 1 → Op.bytesLess (L.getD i ⟨#[]⟩).toList s.toList = true) := fun h i hi => by
        rcases Nat.lt_or_ge i j with h1 | h1
        · exact hlow.out i h1
        · obtain rfl : i = j := by omega
          exact h
      have hsame : Hid ((L.getD j ⟨#[]⟩).toList = s.toList → PutT s L L) := fun h => put_same (by rw [← hN.out]; exact hlt) h
      have hnew : Hid (Op.bytesLess (L.getD j ⟨#[]⟩).toList s.toList = false → ¬ (L.getD j ⟨#[]⟩).toList = s.toList → PutT s L (L.take j ++ [s] ++ L.drop j)) := fun h1 h2 => put_new (d := ⟨#[]⟩) (by rw [← hN.out]; exact hj) hlow.out fun _ => ⟨h1, h2⟩
      clear hlow
      generalize L.getD j ⟨#[]⟩ = y at *
      cases hb : Op.bytesLess y.toList s.toList with
      | true =>
        have hlow2 := hidden (hnext.out hb)
        clear hnext hsame hnew
        go_wp2
        go_round
        case rel => exact ⟨j + 1, by omega, by go_num, hlow2⟩
        case measure => simp [intOf]; omega
      | false =>
        clear hnext
        by_cases hs : y.toList = s.toList
        · have hput := hidden (hsame.out hs)
          have hs1 : (y.toList == s.toList) = true := by simp [hs]
          clear hs hsame hnew
          go_wp2
          go_ret
          exact ⟨g, og, cap, L, by rw [hN.out]; first | done | rfl, by rw [← hN.out]; exact hsl.out, hput.out, Below.refl _ _⟩
        · have hput := hidden (hnew.out hb hs)
          have hs1 : (y.toList == s.toList) = false := by simp [hs]
          clear hs hsame hnew
          have hjl : j ≤ N := hj
          have hS1 := hsl.out.to' j hjl
          have hS2 := hsl.out.from' j hjl
          have hnco : j ≤ cap := by
            obtain ⟨_, cap', hcc, hnco, -⟩ := hsl.out
            rw [tx_len, ← hN.out] at hnco
            simp only [Value.slice.injEq] at hcc
            omega
          have hlL := hN
          have hl1 : ((tx L).take j).length = j := by rw [List.length_take, tx_len, ← hN.out]; omega
          have hl2 : ((tx L).drop j).length = N - j := by rw [List.length_drop, tx_len, ← hN.out]
          have hc1 : ∀ u ∈ (tx L).take j, u.oneCell' = true := fun u hu => tx_one _ u (List.mem_of_mem_take hu)
          have hc2 : ∀ u ∈ (tx L).drop j, u.oneCell' = true := fun u hu => tx_one _ u (List.mem_of_mem_drop hu)
          obtain ⟨L', hL'⟩ : ∃ L', Hid (L' = L.take j ++ [s] ++ L.drop j) := ⟨_, hidden rfl⟩
          have hT : Hid (tx L' = (tx L).take j ++ [(.string s)] ++ (tx L).drop j) := by
            show _ = _
            rw [hL'.out]; simp [tx, List.map_take, List.map_drop]
          have hlen' : Hid (L'.length = N + 1) := by
            show _ = _
            have := hN.out; rw [hL'.out, hN.out]; simp; first | done | omega
          have hputL : Hid (PutT s L L') := by show PutT ..; rw [hL'.out]; exact hput.out
          clear hput
          generalize (tx L).take j = T1 at *
          generalize (tx L).drop j = T2 at *
          clear hsl hlL
          have hjN : (j : Int) ≤ (N : Int) := by omega
          have hjC : (j : Int) ≤ (cap : Int) := by omega
          go_wp2_with fail
          clear hs1
          go_region_law (first
            | (refine step_app rfl (.tmp 33) (.tmp 36) 54 rfl w.heap.size 9 i0 (.string ⟨#[]⟩) 16 Try.underlying54 hi hz0 hz1 hz2 rfl (by simp [Act.eval]) (World.ownsRow_made w.drew #[] 0 (Nat.le_refl _) (by unfold maxLen; omega) rfl) (by simp [Act.eval]) (hS1.below ((Below.refl w.heap.size w).drew.alloc (Nat.le_refl _) _)) hc1 (by rw [hl1]; unfold maxLen; omega) (by rw [hl1]; omega) (by simp <;> omega) ?_; intro v1 w1 hown1 hgrow1 hsm1; have hB1 := ((Below.refl w.heap.size w).drew.alloc (Nat.le_refl _) _).grown hgrow1 (by simp <;> omega) (fun j hj => by cases hj; simp))
            | (refine step_app rfl (.tmp 33) (.tmp 36) 54 rfl w.heap.size 9 i0 (.string ⟨#[]⟩) 16 Try.underlying54 hi hz0 hz1 hz2 rfl (by simp [Act.eval]) ((World.ownsRow_made w.drew #[] 0 (Nat.le_refl _) (by unfold maxLen; omega) rfl).alloc (.cells #[(.string s)] 9)) (by simp [Act.eval]) (hS1.below (((Below.refl w.heap.size w).drew.alloc (Nat.le_refl _) _).alloc (by simp) _)) hc1 (by rw [hl1]; unfold maxLen; omega) (by rw [hl1]; omega) (by simp <;> omega) ?_; intro v1 w1 hown1 hgrow1 hsm1; have hB1 := (((Below.refl w.heap.size w).drew.alloc (Nat.le_refl _) _).alloc (by simp) _).grown hgrow1 (by simp <;> omega) (fun j hj => by cases hj; simp); have h54 := (Sl.one (w.drew.alloc (.cells #[] 9)) (.string s) 9).grown hgrow1 (by simp [Value.ownBlock]))
            | (refine step_app rfl (.tmp 33) (.tmp 36) 54 rfl w.heap.size 9 i0 (.string ⟨#[]⟩) 16 Try.underlying54 hi hz0 hz1 hz2 rfl (by simp [Act.eval]) (World.ownsRow_made (w.drew.alloc (.cells #[(.string s)] 9)) #[] 0 (by simp) (by unfold maxLen; omega) rfl) (by simp [Act.eval]) (hS1.below (((Below.refl w.heap.size w).drew.alloc (Nat.le_refl _) _).alloc (by simp) _)) hc1 (by rw [hl1]; unfold maxLen; omega) (by rw [hl1]; omega) (by simp <;> omega) ?_; intro v1 w1 hown1 hgrow1 hsm1; have hB1 := (((Below.refl w.heap.size w).drew.alloc (Nat.le_refl _) _).alloc (by simp) _).grown hgrow1 (by simp <;> omega) (fun j hj => by cases hj; simp); have h54 := ((Sl.one w.drew (.string s) 9).alloc (.cells #[] 9)).grown hgrow1 (by simp [Value.ownBlock]))
            | (refine step_app rfl (.tmp 37) (.tmp 39) 54 rfl w.heap.size 9 i0 (.string ⟨#[]⟩) 16 Try.underlying54 hi hz0 hz1 hz2 rfl (by simp [Act.eval]) (hown1.alloc _) (by simp [Act.eval]) (Sl.one w1 (.string s) 9) (fun u hu => by simp at hu; subst hu; rfl) (by simp only [hl1, List.length_cons, List.length_nil]; unfold maxLen; omega) (by simp only [hl1, List.length_cons, List.length_nil]; omega) (by first | exact hB1.size | (simp; exact Nat.le_succ_of_le hB1.size)) ?_; intro v2 w2 hown2 hgrow2 hsm2; have hB2 := (hB1.alloc hB1.size _).grown hgrow2 (by first | exact hB1.size | (simp; exact Nat.le_succ_of_le hB1.size)) (fun j hj => (hown1.lt j hj).1))
            | (refine step_app rfl (.tmp 37) (.tmp 39) 54 rfl w.heap.size 9 i0 (.string ⟨#[]⟩) 16 Try.underlying54 hi hz0 hz1 hz2 rfl (by simp [Act.eval]) hown1 (by simp [Act.eval]) h54 (fun u hu => by simp at hu; subst hu; rfl) (by simp only [hl1, List.length_cons, List.length_nil]; unfold maxLen; omega) (by simp only [hl1, List.length_cons, List.length_nil]; omega) (by first | exact hB1.size | (simp; exact Nat.le_succ_of_le hB1.size)) ?_; intro v2 w2 hown2 hgrow2 hsm2; have hB2 := hB1.grown hgrow2 (by first | exact hB1.size | (simp; exact Nat.le_succ_of_le hB1.size)) (fun j hj => (hown1.lt j hj).1))
            | (refine step_app rfl (.tmp 40) (.tmp 43) 54 rfl w.heap.size 9 i0 (.string ⟨#[]⟩) 16 Try.underlying54 hi hz0 hz1 hz2 rfl (by simp [Act.eval]) hown2 (by simp [Act.eval]) (hS2.below hB2) hc2 (by simp only [hl1, hl2, List.length_cons, List.length_nil]; unfold maxLen; omega) (by simp only [hl1, hl2, List.length_cons, List.length_nil]; omega) hB2.size ?_; intro v3 w3 hown3 hgrow3 hsm3))
          all_goals
            have hB3 := hB2.grown hgrow3 hB2.size (fun j hj => (hown2.lt j hj).1)
            have hown4 : w3.ownsRow w.heap.size 9 1 v3 (0 + T1.length + 1 + T2.length) (tx L') := by rw [hT.out]; exact hown3
            have hne3 : v3 ≠ .slice none 0 0 := fun h => by have := hsm1 (hsm2 (hsm3 h)); cases this
            have hnn : 0 + T1.length + 1 + T2.length = L'.length := by rw [hl1, hl2, hlen'.out]; omega
            rw [hnn] at hown4
            obtain ⟨gg, cc, rfl, -, -⟩ := own_some hown4 hne3
            have hfin := hidden (sl_of_owns hown4)
            have hfb := hidden hB3
            clear hown1 hown2 hown3 hown4 hgrow1 hgrow2 hgrow3 hB1 hB2 hB3 hS1 hS2 hnn hne3
            go_wp2
            all_goals
              go_ret
              exact ⟨gg, 0, cc, L', rfl, hfin.out, hputL.out, hfb.out⟩
    · have hlt' : ¬ (j : Int) < (N : Int) := by omega
      obtain rfl : j = N := by omega
      have hput := hidden (put_new (L := L) (s := s) (d := ⟨#[]⟩) (k := j) (by rw [← hN.out]; exact Nat.le_refl _) hlow.out (fun h => absurd h (by rw [← hN.out]; omega)))
      clear hlow
      have hs1 : True := trivial
      have hjl : j ≤ j := hj
      have hS1 := hsl.out.to' j hjl
      have hS2 := hsl.out.from' j hjl
      have hnco : j ≤ cap := by
        obtain ⟨_, cap', hcc, hnco, -⟩ := hsl.out
        rw [tx_len, ← hN.out] at hnco
        simp only [Value.slice.injEq] at hcc
        omega
      have hlL := hN
      have hl1 : ((tx L).take j).length = j := by rw [List.length_take, tx_len, ← hN.out]; omega
      have hl2 : ((tx L).drop j).length = j - j := by rw [List.length_drop, tx_len, ← hN.out]
      have hc1 : ∀ u ∈ (tx L).take j, u.oneCell' = true := fun u hu => tx_one _ u (List.mem_of_mem_take hu)
      have hc2 : ∀ u ∈ (tx L).drop j, u.oneCell' = true := fun u hu => tx_one _ u (List.mem_of_mem_drop hu)
      obtain ⟨L', hL'⟩ : ∃ L', Hid (L' = L.take j ++ [s] ++ L.drop j) := ⟨_, hidden rfl⟩
      have hT : Hid (tx L' = (tx L).take j ++ [(.string s)] ++ (tx L).drop j) := by
        show _ = _
        rw [hL'.out]; simp [tx, List.map_take, List.map_drop]
      have hlen' : Hid (L'.length = j + 1) := by
        show _ = _
        have := hN.out; rw [hL'.out, hN.out]; simp; first | done | omega
      have hputL : Hid (PutT s L L') := by show PutT ..; rw [hL'.out]; exact hput.out
      clear hput
      generalize (tx L).take j = T1 at *
      generalize (tx L).drop j = T2 at *
      clear hsl hlL
      have hjN : (j : Int) ≤ (j : Int) := by omega
      have hjC : (j : Int) ≤ (cap : Int) := by omega
      go_wp2_with fail
      clear hs1
      go_region_law (first
        | (refine step_app rfl (.tmp 33) (.tmp 36) 54 rfl w.heap.size 9 i0 (.string ⟨#[]⟩) 16 Try.underlying54 hi hz0 hz1 hz2 rfl (by simp [Act.eval]) (World.ownsRow_made w.drew #[] 0 (Nat.le_refl _) (by unfold maxLen; omega) rfl) (by simp [Act.eval]) (hS1.below ((Below.refl w.heap.size w).drew.alloc (Nat.le_refl _) _)) hc1 (by rw [hl1]; unfold maxLen; omega) (by rw [hl1]; omega) (by simp <;> omega) ?_; intro v1 w1 hown1 hgrow1 hsm1; have hB1 := ((Below.refl w.heap.size w).drew.alloc (Nat.le_refl _) _).grown hgrow1 (by simp <;> omega) (fun j hj => by cases hj; simp))
        | (refine step_app rfl (.tmp 33) (.tmp 36) 54 rfl w.heap.size 9 i0 (.string ⟨#[]⟩) 16 Try.underlying54 hi hz0 hz1 hz2 rfl (by simp [Act.eval]) ((World.ownsRow_made w.drew #[] 0 (Nat.le_refl _) (by unfold maxLen; omega) rfl).alloc (.cells #[(.string s)] 9)) (by simp [Act.eval]) (hS1.below (((Below.refl w.heap.size w).drew.alloc (Nat.le_refl _) _).alloc (by simp) _)) hc1 (by rw [hl1]; unfold maxLen; omega) (by rw [hl1]; omega) (by simp <;> omega) ?_; intro v1 w1 hown1 hgrow1 hsm1; have hB1 := (((Below.refl w.heap.size w).drew.alloc (Nat.le_refl _) _).alloc (by simp) _).grown hgrow1 (by simp <;> omega) (fun j hj => by cases hj; simp); have h54 := (Sl.one (w.drew.alloc (.cells #[] 9)) (.string s) 9).grown hgrow1 (by simp [Value.ownBlock]))
        | (refine step_app rfl (.tmp 33) (.tmp 36) 54 rfl w.heap.size 9 i0 (.string ⟨#[]⟩) 16 Try.underlying54 hi hz0 hz1 hz2 rfl (by simp [Act.eval]) (World.ownsRow_made (w.drew.alloc (.cells #[(.string s)] 9)) #[] 0 (by simp) (by unfold maxLen; omega) rfl) (by simp [Act.eval]) (hS1.below (((Below.refl w.heap.size w).drew.alloc (Nat.le_refl _) _).alloc (by simp) _)) hc1 (by rw [hl1]; unfold maxLen; omega) (by rw [hl1]; omega) (by simp <;> omega) ?_; intro v1 w1 hown1 hgrow1 hsm1; have hB1 := (((Below.refl w.heap.size w).drew.alloc (Nat.le_refl _) _).alloc (by simp) _).grown hgrow1 (by simp <;> omega) (fun j hj => by cases hj; simp); have h54 := ((Sl.one w.drew (.string s) 9).alloc (.cells #[] 9)).grown hgrow1 (by simp [Value.ownBlock]))
        | (refine step_app rfl (.tmp 37) (.tmp 39) 54 rfl w.heap.size 9 i0 (.string ⟨#[]⟩) 16 Try.underlying54 hi hz0 hz1 hz2 rfl (by simp [Act.eval]) (hown1.alloc _) (by simp [Act.eval]) (Sl.one w1 (.string s) 9) (fun u hu => by simp at hu; subst hu; rfl) (by simp only [hl1, List.length_cons, List.length_nil]; unfold maxLen; omega) (by simp only [hl1, List.length_cons, List.length_nil]; omega) (by first | exact hB1.size | (simp; exact Nat.le_succ_of_le hB1.size)) ?_; intro v2 w2 hown2 hgrow2 hsm2; have hB2 := (hB1.alloc hB1.size _).grown hgrow2 (by first | exact hB1.size | (simp; exact Nat.le_succ_of_le hB1.size)) (fun j hj => (hown1.lt j hj).1))
        | (refine step_app rfl (.tmp 37) (.tmp 39) 54 rfl w.heap.size 9 i0 (.string ⟨#[]⟩) 16 Try.underlying54 hi hz0 hz1 hz2 rfl (by simp [Act.eval]) hown1 (by simp [Act.eval]) h54 (fun u hu => by simp at hu; subst hu; rfl) (by simp only [hl1, List.length_cons, List.length_nil]; unfold maxLen; omega) (by simp only [hl1, List.length_cons, List.length_nil]; omega) (by first | exact hB1.size | (simp; exact Nat.le_succ_of_le hB1.size)) ?_; intro v2 w2 hown2 hgrow2 hsm2; have hB2 := hB1.grown hgrow2 (by first | exact hB1.size | (simp; exact Nat.le_succ_of_le hB1.size)) (fun j hj => (hown1.lt j hj).1))
        | (refine step_app rfl (.tmp 40) (.tmp 43) 54 rfl w.heap.size 9 i0 (.string ⟨#[]⟩) 16 Try.underlying54 hi hz0 hz1 hz2 rfl (by simp [Act.eval]) hown2 (by simp [Act.eval]) (hS2.below hB2) hc2 (by simp only [hl1, hl2, List.length_cons, List.length_nil]; unfold maxLen; omega) (by simp only [hl1, hl2, List.length_cons, List.length_nil]; omega) hB2.size ?_; intro v3 w3 hown3 hgrow3 hsm3))
      all_goals
        have hB3 := hB2.grown hgrow3 hB2.size (fun j hj => (hown2.lt j hj).1)
        have hown4 : w3.ownsRow w.heap.size 9 1 v3 (0 + T1.length + 1 + T2.length) (tx L') := by rw [hT.out]; exact hown3
        have hne3 : v3 ≠ .slice none 0 0 := fun h => by have := hsm1 (hsm2 (hsm3 h)); cases this
        have hnn : 0 + T1.length + 1 + T2.length = L'.length := by rw [hl1, hl2, hlen'.out]; omega
        rw [hnn] at hown4
        obtain ⟨gg, cc, rfl, -, -⟩ := own_some hown4 hne3
        have hfin := hidden (sl_of_owns hown4)
        have hfb := hidden hB3
        clear hown1 hown2 hown3 hown4 hgrow1 hgrow2 hgrow3 hB1 hB2 hB3 hS1 hS2 hnn hne3
        go_wp2
        all_goals
          go_ret
          exact ⟨gg, 0, cc, L', rfl, hfin.out, hputL.out, hfb.out⟩
end Go.Proofs.Ytikajhpgoehboaa
/-
  ALL LABELS AND NAMES OF A GRAPH, each once, rising: the reference's, by contract.
-/
namespace Go.Proofs.Ytikajhpgoehboaa
open Go.ChangeShapes Go.WideShapes Go.ChangeAt Go.RowKit

/-- The list so far: whose members these are. -/
structure TL (w x : World) (g og cap : Nat) (L own : List ByteArray) : Prop where
  sl : Sl x (.slice (some ⟨g, og, none⟩) L.length cap) (tx L)
  strict : StrictT L
  mem : ∀ y, y ∈ L ↔ y ∈ own
  len : L.length ≤ own.length
  below : Below w.heap.size w x
theorem TL.put {w x z : World} {g og cap g' og' cap' : Nat} {L L' own : List ByteArray} {s : ByteArray} (h : TL w x g og cap L own) (hs : Sl z (.slice (some ⟨g', og', none⟩) L'.length cap') (tx L')) (hp : PutT s L L') (hB : Below x.heap.size x z) : TL w z g' og' cap' L' (own ++ [s]) := by
  refine ⟨hs, hp.strict h.strict, fun y => ?_, ?_, h.below.trans (hB.mono h.below.size)⟩
  · rw [hp.mem, h.mem, List.mem_append, List.mem_singleton]
    exact Or.comm
  · have h1 := hp.len
    have h2 := h.len
    simp only [List.length_append, List.length_cons, List.length_nil]
    omega
theorem tl_made (w : World) (o : Obj) : TL w ((w.alloc o).alloc (.cells #[] 9)) (w.heap.size + 1) 0 0 [] [] :=
  ⟨⟨_, 0, rfl, Nat.le_refl _, fun e => (by cases e), fun _ e => (by cases e; rfl), .inl rfl⟩, .nil, fun _ => Iff.rfl, Nat.le_refl _, ((Below.refl _ _).alloc (Nat.le_refl _) _).alloc (by simp) _⟩
set_option maxRecDepth 100000 in
set_option maxHeartbeats 3200000 in
theorem rlabels_c (es : List Eg) (na : Option Addr) (nn nc : Nat) (a : Option Addr) (c : Nat) (w : World) (he : RowAt w a (edgeR.flat es)) (hl : es.length ≤ 90000) :
    Calls Try.prog 57 #[.agg #[.slice na nn nc, .slice a es.length c]] w fun e w' => ∃ (g og cap : Nat) (L : List ByteArray), e = .returned (.slice (some ⟨g, og, none⟩) (List.length L) cap) ∧ TL w w' g og cap L (es.map Eg.l) := by
  obtain ⟨N, hN⟩ : ∃ N, N = es.length := ⟨_, rfl⟩
  rw [← hN] at hl ⊢
  replace hN := hidden hN
  replace he := hidden he
  have hT0 := hidden (tl_made w (.cells #[.slice na nn nc, .slice a N c] 25))
  have hX := heap_alloc_old (w.alloc (.cells #[.slice na nn nc, .slice a N c] 25)) (.cells #[] 9) (by simp) |>.trans (heap_alloc_new w (.cells #[.slice na nn nc, .slice a N c] 25))
  obtain ⟨⟨x0, x1⟩, -⟩ := box2f hX
  replace hX := hidden hX
  go_enter Try.func57, Try.ntmps57
  go_wp2
  clear x0 x1
  go_loopw [3, 4] (fun u i x => ∃ (g og cap k : Nat) (L : List ByteArray), u = .slice (some ⟨g, og, none⟩) L.length cap ∧ i = .int .i64 k ∧ k ≤ N ∧ Hid (TL w x g og cap L ((es.take k).map Eg.l)) ∧ Hid (x.heap[w.heap.size]? = some (.cells #[.slice na nn nc, .slice a N c] 25))) (fun _ i _ => N - (intOf i).toNat)
  case atStart => exact ⟨_, _, _, 0, _, rfl, rfl, Nat.zero_le _, hT0, hX⟩
  case round =>
    clear hT0 hX
    obtain ⟨g, og, cap, k, L, rfl, rfl, hk, hT, hX⟩ := hrel
    obtain ⟨⟨x0, x1⟩, -⟩ := box2f hX.out
    by_cases hlt : k < N
    · have hlt' : (k : Int) < (N : Int) := by omega
      have hlE : k < es.length := by rw [← hN.out]; exact hlt
      obtain ⟨b5, o5, rfl, hb5, -, -, e2, -⟩ := edge_at (he.out.below hT.out.below) hlE
      have htk : Hid ((es.take (k + 1)).map Eg.l = (es.take k).map Eg.l ++ [(es.getD k Eg.none).l]) := by
        show _ = _
        rw [take_snocR es Eg.none k hlE, List.map_append]; rfl
      generalize (es.getD k Eg.none).l = s at *
      have hput := rputT_c s L g og cap wr hT.out.sl (by have := hT.out.len; rw [List.length_map, List.length_take] at this; omega)
      go_wp2_with fail
      refine hput.mono ?_
      rintro e z ⟨g', og', cap', L', rfl, hS, hP, hBz⟩
      have hT2 := hT.out.put hS hP hBz
      rw [← htk.out] at hT2
      replace hT2 := hidden hT2
      have hX2 := hidden (box_below hX.out hBz)
      clear hT hX hput hS hP hBz x0 x1
      go_wp2
      go_roundw
      case rel => exact ⟨g', og', cap', k + 1, L', rfl, by go_num, by omega, hT2, hX2⟩
      case measure => simp [intOf]; omega
    · have hlt' : ¬ (k : Int) < (N : Int) := by omega
      have hT2 : Hid (TL w wr g og cap L (es.map Eg.l)) := by
        have h := hT.out
        rw [List.take_of_length_le (l := es) (i := k) (by rw [← hN.out]; omega)] at h
        exact h
      clear hT
      go_wp2
      go_ret
      exact ⟨g, og, cap, L, rfl, hT2.out⟩
end Go.Proofs.Ytikajhpgoehboaa
/-
  ROWS OF RECORDS: cut, and appended to own rows of records, whatever they are. No function is named here.
-/
namespace Go.Proofs.Ytikajhpgoehboaa
open Go.ChangeShapes Go.WideShapes Go.ChangeAt Go.RowKit

variable {α : Type} {R : Rec α}
theorem SlR.nil (w : World) : SlR R w (.slice none 0 0) [] := ⟨none, 0, rfl, Nat.le_refl _, fun _ => rfl, fun _ e => (by cases e), .inl rfl⟩
theorem SlR.to' {w : World} {g og n cap : Nat} {ps : List α} (h : SlR R w (.slice (some ⟨g, og, none⟩) n cap) ps) (l : Nat) (hl : l ≤ n) : SlR R w (.slice (some ⟨g, og, none⟩) l cap) (ps.take l) := by
  obtain ⟨a, cap', h1, h2, h3, h4, h5⟩ := h
  simp only [Value.slice.injEq] at h1
  obtain ⟨rfl, rfl, rfl⟩ := h1
  have hlen : (ps.take l).length = l := by rw [List.length_take]; omega
  exact ⟨_, cap, by rw [hlen], by rw [hlen]; omega, h3, h4, h5.toR l hl⟩
theorem SlR.from' {w : World} {g og n cap : Nat} {ps : List α} (h : SlR R w (.slice (some ⟨g, og, none⟩) n cap) ps) (l : Nat) (hl : l ≤ n) :
    SlR R w (.slice (if cap = l then some ⟨g, og, none⟩ else some ⟨g, og + l * R.n, none⟩) (n - l) (cap - l)) (ps.drop l) := by
  obtain ⟨a, cap', h1, h2, h3, h4, h5⟩ := h
  simp only [Value.slice.injEq] at h1
  obtain ⟨rfl, rfl, rfl⟩ := h1
  have hlen : (ps.drop l).length = ps.length - l := by rw [List.length_drop]
  have hr := h5.fromR l hl
  simp only [Option.map_some, add_plain] at hr
  by_cases hc : cap = l
  · have hz : ps.length - l = 0 := by omega
    rw [if_pos hc]
    have hd : ps.drop l = [] := List.eq_nil_of_length_eq_zero (by omega)
    refine ⟨_, cap - l, by rw [hlen], by rw [hlen]; omega, fun e => (by cases e), fun _ e => (by cases e; rfl), ?_⟩
    rw [hd]; exact .inl rfl
  · rw [if_neg hc]
    exact ⟨_, cap - l, by rw [hlen], by rw [hlen]; omega, fun e => (by cases e), fun _ e => (by cases e; rfl), hr⟩
theorem SlR.oneR (w : World) (x : α) (e : TypeId) : SlR R (w.alloc (.cells (R.enc x).toArray e)) (.slice (some ⟨w.heap.size, 0, none⟩) 1 1) [x] := by
  refine ⟨_, 1, rfl, Nat.le_refl _, fun e => (by cases e), fun _ h => (by cases h; rfl), .inr ⟨_, _, rfl, by simp, fun j u hj => ?_⟩⟩
  rw [Rec.flat_one] at hj
  have := cells_new w (R.enc x) e j u hj
  rwa [add_plain] at this
theorem SlR.alloc {w : World} {v : Value} {ps : List α} (h : SlR R w v ps) (o : Obj) : SlR R (w.alloc o) v ps := h.below ((Below.refl _ _).alloc (Nat.le_refl _) o)
theorem SlR.grownR {w w' : World} {b off n c : Nat} {ps : List α} {row : Option Nat} (h : SlR R w (.slice (some ⟨b, off, none⟩) n c) ps) (hg : w.grownBy w' row) (hne : row ≠ some b) : SlR R w' (.slice (some ⟨b, off, none⟩) n c) ps := by
  obtain ⟨a, cap, h1, h2, h3, h4, h5⟩ := h
  simp only [Value.slice.injEq] at h1
  obtain ⟨rfl, rfl, rfl⟩ := h1
  refine ⟨_, _, rfl, h2, h3, h4, ?_⟩
  rcases h5 with h5 | ⟨b', o', e, hb, hc⟩
  · exact .inl h5
  · simp only [Option.some.injEq, Addr.mk.injEq, and_true] at e
    obtain ⟨rfl, rfl⟩ := e
    refine .inr ⟨b, off, rfl, Nat.lt_of_lt_of_le hb hg.size, fun j u hj => ?_⟩
    have := hc j u hj
    simp only [World.cell?] at this ⊢
    rw [hg.block b hb (Ne.symm hne)]
    exact this
theorem run_appR {P : Program} (w : World) (base : Nat) (t ty e : TypeId) (i : TypeInfo) (z : Value) (size bytes : Nat) (ht : P.underlying t = some (.slice e)) (hi : P.info? e = some i) (hz : i.zero = some z)
    (hsize : i.size = size) (hby : i.bytes = bytes) (hzs : z.cells.size = size) (hR : R.n = size) {v : Value} {n : Nat} {xs : List Value} (hown : w.ownsRow base e size v n xs) {vx : Value} {qs : List α} (hx : SlR R w vx qs)
    (b1 : n + qs.length ≤ maxLen) (b2 : (n + qs.length) * bytes ≤ 140737488355328) (hbase : base ≤ w.heap.size) :
    ∃ v' w', (Builtin.append_ #[t, t] ty #[v, vx]).run P w = .ok v' w' ∧ w'.ownsRow base e size v' (n + qs.length) (xs ++ R.flat qs) ∧ w.grownBy w' v.ownBlock ∧ (v' = .slice none 0 0 → v = .slice none 0 0) := by
  obtain ⟨a, cap, rfl, hl, hn, hs, hrow⟩ := hx
  have hpos := R.pos
  cases a with
  | none =>
    obtain rfl := hn rfl
    obtain rfl : qs = [] := List.eq_nil_of_length_eq_zero (by omega)
    refine ⟨v, w, run_append_owned_none (P := P) (w := w) base t ty e i size ht hi v n xs hown, by simpa [Rec.flat] using hown, World.grownBy.refl _ _, fun h => h⟩
  | some ad =>
    obtain ⟨b, off, sb⟩ := ad
    obtain rfl : sb = none := hs _ rfl
    have hc : ∀ j u, (R.flat qs)[j]? = some u → w.cell? (Addr.add ⟨b, off, none⟩ j) = some u := fun j u hj => by
      rcases hrow with h0 | ⟨b', off', h1, _, h3⟩
      · rw [h0] at hj; cases hj
      · cases h1; rw [add_plain]; exact h3 j u hj
    obtain ⟨v', w', h1, h2, h3, h4⟩ := run_append_own (P := P) w base t ty e i z size bytes ht hi hz hsize hby hzs (by omega) v n xs hown ⟨b, off, none⟩ qs.length cap (R.flat qs) (by rw [Rec.flat_len, hR]) hc (Rec.flat_one_cell qs) b1 b2 hbase
    exact ⟨v', w', h1, h2, h3, fun h => (h4.1 h).1⟩
/-- append to an own row of records, of whatever slice, as one step of a region that draws. -/
theorem step_appR {P : Program} {ops : Array Oper} {o : Oper} {a : Act} {w : World} {K : Act → World → Prop} {Q : Exit → Act → World → Prop} {E : Prop} (R : Rec α)
    (hg : o.guard = none) (s x : Operand) (t : TypeId) (hop : o.op = Op.call { callee := Callee.builtin Builtin.append, args := #[s, x], argTypes := #[t, t] })
    (base : Nat) (e : TypeId) (i : TypeInfo) (z : Value) (size bytes : Nat) (h1 : P.underlying t = some (.slice e)) (h2 : P.info? e = some i) (h3 : i.zero = some z) (h4 : i.size = size) (h5 : i.bytes = bytes) (h6 : z.cells.size = size) (hR : R.n = size)
    {v : Value} {n : Nat} {xs : List Value} (hs : a.eval s = v) (hown : w.ownsRow base e size v n xs) {vx : Value} {qs : List α} (hx : a.eval x = vx) (hsl : SlR R w vx qs)
    (b1 : n + qs.length ≤ maxLen) (b2 : (n + qs.length) * bytes ≤ 140737488355328) (hbase : base ≤ w.heap.size)
    (hK : ∀ v' w', w'.ownsRow base e size v' (n + qs.length) (xs ++ R.flat qs) → w.grownBy w' v.ownBlock → (v' = .slice none 0 0 → v = .slice none 0 0) → K (a.put o.dst v') w') :
    if Region.wanted o (yielded ops a.tmps) = true then Oper.wp P o a w K Q else E := by
  have hw : Region.wanted o (yielded ops a.tmps) = true := by simp [Region.wanted, hg]
  rw [if_pos hw]
  obtain ⟨v', w', hr, r2, r3, r4⟩ := run_appR (P := P) (R := R) w base t o.type e i z size bytes h1 h2 h3 h4 h5 h6 hR hown hsl b1 b2 hbase
  unfold Oper.wp execOp
  simp only [hop, resolve, invoke, builtin, Sem.run_bind, Sem.run_pure, Result.andThen_ok, List.map_toArray, List.map_cons, List.map_nil, hs, hx, hr]
  exact hK v' w' r2 r3 r4
end Go.Proofs.Ytikajhpgoehboaa
/-
  WHAT IS TOLD OF A GRAPH's ROWS: one node's row, both ways, and the ends of an edge (csr.rows.of, row, Out, In, Degree, Ends, Nodes, Edges), by contract.
-/
namespace Go.Proofs.Ytikajhpgoehboaa
open Go.ChangeShapes Go.WideShapes Go.ChangeAt Go.RowKit Go.Maps

/-- Whose arcs they are, in order. -/
def rowI (D : Nat → Nat) (l : List Nat) (N : Nat) (n : Int) : List Nat := if 0 ≤ n ∧ n < N then part D l n.toNat else []
theorem below_le_sorted (D : Nat → Nat) (l : List Nat) {b M : Nat} (h : b ≤ M) : below D l b ≤ (sorted D l M).length := below_mono D l h
theorem row_cut {α : Type} (D : Nat → Nat) (l : List Nat) (f : Nat → α) (b M : Nat) (h : b < M) : (((sorted D l M).map f).take (below D l (b + 1))).drop (below D l b) = (part D l b).map f := by
  have hm : below D l (b + 1) ≤ (sorted D l M).length := below_le_sorted D l h
  have hs := below_succ D l b
  apply List.ext_getElem?
  intro j
  rw [List.getElem?_drop, List.getElem?_take]
  by_cases hj : j < (part D l b).length
  · rw [if_pos (by omega), List.getElem?_map, sorted_at D l M b j h hj, List.getElem?_map]
  · rw [if_neg (by omega), List.getElem?_eq_none (by simp; omega)]
theorem row_cut_len (D : Nat → Nat) (l : List Nat) (b : Nat) : below D l (b + 1) - below D l b = (part D l b).length := by
  rw [below_succ]; omega
theorem nat_at {w : World} {a : Option Addr} {M : Nat} {f : Nat → Nat} (h : RowAt w a (cellsN M f)) {k : Nat} (hk : k < M) : ∃ b o, a = some ⟨b, o, none⟩ ∧ b < w.heap.size ∧ w.cell? ⟨b, o + k, none⟩ = some (.int .i64 (f k : Nat)) := by
  rcases h with h0 | ⟨b, o, rfl, hb, hc⟩
  · have := congrArg List.length h0
    rw [cellsN_len] at this
    simp at this; omega
  · exact ⟨b, o, rfl, hb, hc k _ (cellsN_at f hk)⟩
set_option maxHeartbeats 1600000 in
set_option maxRecDepth 100000 in
theorem of_c (D : Nat → Nat) (l : List Nat) (f : Nat → Ar) (N : Nat) (sa : Option Addr) (sc : Nat) (aa : Option Addr) (ak ac : Nat) (n : Int) (w : World) (hN : N ≤ 1000) (hst : RowAt w sa (cellsN (N + 1) (below D l))) (har : SlR arR w (.slice aa ak ac) ((sorted D l (N + 1)).map f)) (hl : (sorted D l (N + 1)).length ≤ 1000) :
    Calls Try.prog 52 #[.agg #[.slice sa (N + 1) sc, .slice aa ak ac], .int .i64 n] w fun e w' => ∃ a' n' c', e = .returned (.slice a' n' c') ∧ SlR arR w' (.slice a' n' c') ((rowI D l N n).map f) ∧ Below w.heap.size w w' := by
  have hB0 : Hid (Below w.heap.size w (w.alloc (.cells #[.slice sa (N + 1) sc, .slice aa ak ac] 60))) := (Below.refl _ _).alloc (Nat.le_refl _) _
  obtain ⟨⟨b0, b1⟩, -⟩ := box2f (heap_alloc_new w (.cells #[.slice sa (N + 1) sc, .slice aa ak ac] 60))
  by_cases hneg : n < 0
  · have hr : Hid (rowI D l N n = []) := hidden (if_neg (by omega))
    go_enter Try.func52, Try.ntmps52
    go_wp2
    go_ret
    refine ⟨none, 0, 0, rfl, ?_, hB0.out⟩
    rw [hr.out]
    exact ⟨none, 0, rfl, Nat.le_refl _, fun _ => rfl, fun _ e => (by cases e), .inl rfl⟩
  · by_cases hge : (N : Int) ≤ n
    · have hr : Hid (rowI D l N n = []) := hidden (if_neg (by omega))
      go_enter Try.func52, Try.ntmps52
      go_wp2
      go_ret
      refine ⟨none, 0, 0, rfl, ?_, hB0.out⟩
      rw [hr.out]
      exact ⟨none, 0, rfl, Nat.le_refl _, fun _ => rfl, fun _ e => (by cases e), .inl rfl⟩
    · obtain ⟨b, rfl⟩ := Int.eq_ofNat_of_zero_le (show 0 ≤ n by omega)
      have hbN : b < N := by omega
      have hr : Hid ((rowI D l N (b : Int)).map f = (part D l b).map f) := hidden (by unfold rowI; rw [if_pos (by omega)]; rfl)
      have hcut := hidden (row_cut D l f b (N + 1) (by omega))
      have hlo : below D l b ≤ below D l (b + 1) := below_mono D l (Nat.le_succ b)
      have hhi : below D l (b + 1) ≤ (sorted D l (N + 1)).length := below_le_sorted D l (by omega)
      obtain ⟨g1, o1, rfl, hb1, c0⟩ := nat_at hst (k := b) (by omega)
      obtain ⟨g2, o2, h2, hb2, c1⟩ := nat_at hst (k := b + 1) (by omega)
      cases h2
      have hAB := (Below.refl w.heap.size w).alloc (Nat.le_refl _) (.cells #[.slice (some ⟨g1, o1, none⟩) (N + 1) sc, .slice aa ak ac] 60)
      have d0 := (hAB.cell (p := ⟨g1, o1 + b, none⟩) hb1).trans c0
      have d1 := (hAB.cell (p := ⟨g1, o1 + (b + 1), none⟩) hb1).trans c1
      have d2 := d1
      rw [← Nat.add_assoc] at d2
      have hbi : (b : Int) < (N : Int) + 1 := by omega
      have hbi2 : (b : Int) + 1 < (N : Int) + 1 := by omega
      have hsl := har.calm (.of_below hAB)
      obtain ⟨a', c', he, hk1, hk2, hk3, hk4⟩ := id har
      simp only [Value.slice.injEq, List.length_map] at he
      obtain ⟨rfl, rfl, rfl⟩ := he
      rw [List.length_map] at hk1
      replace hk3 := hidden hk3
      replace hk4 := hidden hk4
      replace hsl := hidden hsl
      have c2 := c1
      rw [← Nat.add_assoc] at c2
      clear hst har hAB
      generalize below D l b = lo at *
      generalize below D l (b + 1) = hi at *
      replace hneg : (0 : Int) ≤ b := by omega
      have hb9 : b < 1000 := by omega
      have hi9 : hi ≤ 1000 := by omega
      have hfin : Hid (SlR arR (w.alloc (.cells #[.slice (some ⟨g1, o1, none⟩) (N + 1) sc, .slice aa (sorted D l (N + 1)).length ac] 60)) (.slice (if ac = lo then aa else aa.map (·.add (lo * 4))) (hi - lo) (ac - lo)) ((rowI D l N (b : Int)).map f)) := by
        rw [hr.out, ← hcut.out]
        have hlen : (((sorted D l (N + 1)).map f).take hi).length = hi := by rw [List.length_take, List.length_map]; omega
        obtain ⟨a', c', he, q1, q2, q3, q4⟩ := hsl.out
        simp only [Value.slice.injEq] at he
        obtain ⟨rfl, _, rfl⟩ := he
        have hrow := (q4.toR hi (by rw [List.length_map]; omega)).fromR lo (by rw [hlen]; omega)
        refine ⟨_, _, by rw [List.length_drop, hlen], by rw [List.length_drop, hlen]; omega, fun e => ?_, fun x e => ?_, ?_⟩
        · split at e
          · omega
          · have := q2 (by simpa using e); omega
        · split at e
          · exact q3 x e
          · obtain ⟨y, hy, rfl⟩ := Option.map_eq_some_iff.1 e
            have := q3 y hy
            obtain ⟨b', off, sb⟩ := y
            simp only at this
            subst this
            rw [add_plain]
        · split
          · rename_i hc
            have h0 : (((sorted D l (N + 1)).map f).take hi).drop lo = [] := List.drop_eq_nil_of_le (by rw [hlen]; omega)
            rw [h0]
            exact .inl rfl
          · exact hrow
      clear hr hcut hsl
      generalize (rowI D l N (b : Int)).map f = R at *
      by_cases hcl : ac = lo
      · subst hcl
        simp only [if_true, Nat.sub_self] at hfin
        go_enter Try.func52, Try.ntmps52
        go_wp2
        go_region
        go_wp2
        go_ret
        exact ⟨_, _, _, rfl, hfin.out, hB0.out.drew⟩
      · rw [if_neg hcl] at hfin
        go_enter Try.func52, Try.ntmps52
        go_wp2
        go_region
        go_wp2
        go_ret
        exact ⟨_, _, _, rfl, hfin.out, hB0.out.drew⟩
set_option maxHeartbeats 3200000 in
set_option maxRecDepth 100000 in
theorem aclone_c (a : Option Addr) (c : Nat) (ps : List Ar) (w : World) (hv : RowAt w a (arR.flat ps)) (hx : ps.length ≤ 1000) (hc : a = none → c = 0) :
    Calls Try.prog 37 #[.slice a ps.length c] w fun e w' => ∃ a' c', e = .returned (.slice a' ps.length c') ∧ w'.ownsRow w.heap.size 67 4 (.slice a' ps.length c') ps.length (arR.flat ps) ∧ Below w.heap.size w w' := by
  obtain ⟨i0, hi, hz0, hz1, hz2⟩ := info_parts infoA
  match a, hv, hc with
  | none, hv, hc =>
    obtain rfl := hc rfl
    obtain rfl : ps = [] := by
      rcases hv with h0 | ⟨b, off, h, _⟩
      · have := congrArg List.length h0
        rw [Rec.flat_len] at this
        have : ps.length * 4 = 0 := this
        exact List.eq_nil_of_length_eq_zero (by omega)
      · cases h
    have hB : Hid (Below w.heap.size w w) := Below.refl _ _
    have hne : ∀ x : World, Sem.run Try.prog (binOp BinOp.eql 58 (.slice none 0 0) (.slice none 0 0)) x = .ok (.bool true) x := fun x => by rfl
    simp only [List.length_nil]
    go_enter Try.func37, Try.ntmps37
    go_wp2
    go_ret
    exact ⟨_, _, rfl, ⟨rfl, .inl ⟨rfl, rfl⟩⟩, hB.out⟩
  | some ad, hv, _ =>
    have hnews : ∀ j u, (arR.flat ps)[j]? = some u → w.cell? (ad.add j) = some u := by
      intro j u hj
      rcases hv with h0 | ⟨b, off, h, _, h3⟩
      · rw [h0] at hj; cases hj
      · cases h
        rw [add_plain]; exact h3 j u hj
    have hbl : ∀ j u, (arR.flat ps)[j]? = some u → (w.alloc (.cells #[] 67)).cell? (ad.add j) = some u := fun j u hj => by
      have h := hnews j u hj
      rcases hv with h0 | ⟨b, off, h', hb, h3⟩
      · rw [h0] at hj; cases hj
      · cases h'
        exact (((Below.refl w.heap.size w).alloc (Nat.le_refl _) _).cell (p := (⟨b, off, none⟩ : Addr).add j) (by rw [add_plain]; exact hb)).trans h
    have hne : ∀ x : World, Sem.run Try.prog (binOp BinOp.eql 58 (.slice (some ad) ps.length c) (.slice none 0 0)) x = .ok (.bool false) x := fun x => by rfl
    replace hnews := hidden hnews
    replace hv := hidden hv
    replace hbl := hidden hbl
    go_enter Try.func37, Try.ntmps37
    go_wp2_with (at_builtin; go_loud (refine wpList_append_own _ rfl _ _ 58 rfl w.heap.size 67 i0 (.agg #[.int .i64 0, .int .i64 0, .int .i64 0, .int .i64 0]) 4 32 Try.underlying58 hi hz0 hz1 hz2 rfl (by decide) _ _ _ rfl (World.ownsRow_made w #[] 0 (Nat.le_refl _) (by unfold maxLen; omega) rfl) ad ps.length c (arR.flat ps) rfl (Rec.flat_len ps) hbl.out (Rec.flat_one_cell ps) (by unfold maxLen; omega) (by omega) (by simp) ?_); intro v' w1 hown' hgrow _)
    have hB3 : Hid (Below w.heap.size w w1) := ((Below.refl _ _).alloc (Nat.le_refl _) _).grown hgrow (by simp) (fun j hj => by cases hj; exact Nat.le_refl _)
    simp only [Nat.zero_add, List.nil_append] at hown'
    obtain ⟨a1, c1, rfl⟩ := own_shape hown'
    have hr1 := hidden hown'
    clear hgrow hown'
    go_wp2
    go_ret
    exact ⟨_, _, rfl, hr1.out, hB3.out⟩
def CsX.l (C : CsX) : Bool → List Nat
  | true => C.l2
  | false => C.l1
/-- A node's arcs. -/
def rowA (g : Gr) (C : CsX) (back : Bool) (n : Int) : List Ar := (rowI (whoOf g.es back) (C.l back) g.ns.length n).map fun p => (arcsL C.L g.es back).getD p Ar.none
theorem sorted_len (D : Nat → Nat) {l : List Nat} {n M : Nat} (hl : l.Perm (List.range n)) (hD : ∀ p, D p < M) : (sorted D l M).length = n := by
  have h := below_allM hD l
  rw [hl.length_eq, List.length_range] at h
  exact h
theorem part_len_le (D : Nat → Nat) (l : List Nat) (b : Nat) : (part D l b).length ≤ l.length := by unfold part; exact List.length_filter_le _ _
theorem rowA_len (g : Gr) (C : CsX) (back : Bool) (n : Int) : (rowA g C back n).length ≤ (C.l back).length := by
  unfold rowA rowI
  split
  · rw [List.length_map]; exact part_len_le _ _ _
  · simp
set_option maxHeartbeats 1600000 in
set_option maxRecDepth 100000 in
theorem row_c (g : Gr) (C : CsX) (B : Nat) (back : Bool) (n : Int) (w : World) (hC : CsrAt g C B w) (hok : (checkG g).2 = 0) (hn : g.ns.length ≤ 1000) (he : g.es.length ≤ 1000) :
    Calls Try.prog 35 #[.pointer (some ⟨C.b, 0, none⟩), .int .i64 n, .bool back] w fun e w' => ∃ a' n' c', e = .returned (.slice a' n' c') ∧ SlR arR w' (.slice a' n' c') (rowA g C back n) ∧ Below w.heap.size w w' := by
  have hge := good_edges hok
  have hD : ∀ bk p, whoOf g.es bk p < g.ns.length + 1 := fun bk p => by
    by_cases hp : p < g.es.length
    · obtain ⟨v1, v2, v3, v4, v5, v6⟩ := hge _ (getD_memG (d := Eg.none) hp)
      cases bk
      · show fromOf g.es p < _; unfold fromOf; omega
      · show toOf g.es p < _; unfold toOf; omega
    · cases bk
      · show fromOf g.es p < _; unfold fromOf; rw [getD_out (by omega)]; exact Nat.succ_pos _
      · show toOf g.es p < _; unfold toOf; rw [getD_out (by omega)]; exact Nat.succ_pos _
  obtain ⟨b, lc, gl, ge, s1, a1, s2, a2, L, l1, l2⟩ := C
  have hp1 := hC.o1.perm
  have hp2 := hC.o2.perm
  have hl1 := sorted_len (whoOf g.es false) hp1 (hD false)
  have hl2 := sorted_len (whoOf g.es true) hp2 (hD true)
  obtain ⟨hbox, -, -, -, -, -, -, -, st1, st2, ar1, ar2⟩ := hC
  simp only at hbox hp1 hp2 hl1 hl2 st1 st2 ar1 ar2
  obtain ⟨sa, sc, rfl⟩ := own_shape st1
  obtain ⟨aa, ac, rfl⟩ := own_shape ar1
  obtain ⟨sb, sd, rfl⟩ := own_shape st2
  obtain ⟨ab, ad, rfl⟩ := own_shape ar2
  have hf1 := of_c (whoOf g.es false) l1 (fun p => (arcsL L g.es false).getD p Ar.none) g.ns.length sa sc aa g.es.length ac n w hn (by
    obtain ⟨a', c', h1, h2⟩ := holds_of_owns st1
    simp only [Value.slice.injEq] at h1
    obtain ⟨rfl, _, _⟩ := h1
    rw [show cellsN (g.ns.length + 1) (Go.Proofs.Ytikajhpgoehboaa.below (whoOf g.es false) l1) = cellsN (g.ns.length + 1) (Go.Proofs.Ytikajhpgoehboaa.below (whoOf g.es false) (List.range g.es.length)) from congrArg _ (funext fun i => below_perm hp1 i)]
    exact h2) (slR_of_owns (by rw [List.length_map, hl1]; exact ar1)) (by rw [hl1]; exact he)
  have hf2 := of_c (whoOf g.es true) l2 (fun p => (arcsL L g.es true).getD p Ar.none) g.ns.length sb sd ab g.es.length ad n w hn (by
    obtain ⟨a', c', h1, h2⟩ := holds_of_owns st2
    simp only [Value.slice.injEq] at h1
    obtain ⟨rfl, _, _⟩ := h1
    rw [show cellsN (g.ns.length + 1) (Go.Proofs.Ytikajhpgoehboaa.below (whoOf g.es true) l2) = cellsN (g.ns.length + 1) (Go.Proofs.Ytikajhpgoehboaa.below (whoOf g.es true) (List.range g.es.length)) from congrArg _ (funext fun i => below_perm hp2 i)]
    exact h2) (slR_of_owns (by rw [List.length_map, hl2]; exact ar2)) (by rw [hl2]; exact he)
  obtain ⟨⟨-, -, -, c3, c4, c5, c6⟩, -⟩ := box7c hbox
  have e1 : Hid (rowA g ⟨b, lc, gl, ge, .slice sa (g.ns.length + 1) sc, .slice aa g.es.length ac, .slice sb (g.ns.length + 1) sd, .slice ab g.es.length ad, L, l1, l2⟩ false n = (rowI (whoOf g.es false) l1 g.ns.length n).map fun p => (arcsL L g.es false).getD p Ar.none) := hidden rfl
  have e2 : Hid (rowA g ⟨b, lc, gl, ge, .slice sa (g.ns.length + 1) sc, .slice aa g.es.length ac, .slice sb (g.ns.length + 1) sd, .slice ab g.es.length ad, L, l1, l2⟩ true n = (rowI (whoOf g.es true) l2 g.ns.length n).map fun p => (arcsL L g.es true).getD p Ar.none) := hidden rfl
  clear hge hD hp1 hp2 hl1 hl2 hbox st1 st2 ar1 ar2
  simp only
  cases back
  · rw [e1.out]
    clear hf2 c5 c6 e1 e2
    generalize (rowI (whoOf g.es false) l1 g.ns.length n).map _ = R at *
    go_enter Try.func35, Try.ntmps35
    go_wp2_with fail
    refine hf1.mono ?_
    rintro e w1 ⟨a', n', c', rfl, hS, hB⟩
    replace hS := hidden hS
    replace hB := hidden hB
    go_wp2
    go_ret
    exact ⟨_, _, _, rfl, hS.out, hB.out⟩
  · rw [e2.out]
    clear hf1 c3 c4 e1 e2
    generalize (rowI (whoOf g.es true) l2 g.ns.length n).map _ = R at *
    go_enter Try.func35, Try.ntmps35
    go_wp2_with fail
    refine hf2.mono ?_
    rintro e w1 ⟨a', n', c', rfl, hS, hB⟩
    replace hS := hidden hS
    replace hB := hidden hB
    go_wp2
    go_ret
    exact ⟨_, _, _, rfl, hS.out, hB.out⟩
end Go.Proofs.Ytikajhpgoehboaa
/-
  THE REFERENCE's ROWS: a text's place, which arc stands first, and the mathematics of a row that is kept in order.
-/
namespace Go.Proofs.Ytikajhpgoehboaa
open Go.ChangeShapes Go.WideShapes Go.ChangeAt Go.RowKit

theorem placeL_first : ∀ {L : List ByteArray} {s : ByteArray} {k : Nat}, (∀ j, j < k → ∀ x, L[j]? = some x → x ≠ s) → L[k]? = some s → placeL L s = k
  | [], s, k, _, h => by simp at h
  | x :: r, s, 0, _, h => by
    simp only [List.getElem?_cons_zero, Option.some.injEq] at h
    subst h
    unfold placeL
    rw [if_pos rfl]
  | x :: r, s, k + 1, hn, h => by
    have h0 := hn 0 (by omega) x rfl
    unfold placeL
    rw [if_neg (fun e => h0 (txt_inj e)), placeL_first (k := k) (fun j hj y hy => hn (j + 1) (by omega) y (by simpa using hy)) (by simpa using h)]
open Classical in
noncomputable def placeI (L : List ByteArray) (s : ByteArray) : Int := if s ∈ L then (placeL L s : Nat) else -1
theorem txt_at' {w : World} {a : Option Addr} {L : List ByteArray} (h : RowAt w a (tx L)) {k : Nat} (hk : k < L.length) : ∃ b off, a = some ⟨b, off, none⟩ ∧ b < w.heap.size ∧ w.cell? ⟨b, off + k, none⟩ = some (.string (L.getD k ⟨#[]⟩)) := by
  rcases h with h0 | ⟨b, off, rfl, hb, hc⟩
  · have h1 : (tx L).length = 0 := by rw [h0]; rfl
    rw [tx_len] at h1
    omega
  · exact ⟨b, off, rfl, hb, hc k _ (tx_at L ⟨#[]⟩ k hk)⟩
set_option maxRecDepth 100000 in
set_option maxHeartbeats 1600000 in
theorem rplace_c (L : List ByteArray) (s : ByteArray) (a : Option Addr) (c : Nat) (w : World) (h : RowAt w a (tx L)) (hl : L.length ≤ 90000) :
    Calls Try.prog 58 #[.slice a L.length c, .string s] w fun e w' => e = .returned (.int .i64 (placeI L s)) ∧ w' = w := by
  obtain ⟨N, hN⟩ : ∃ N, N = L.length := ⟨_, rfl⟩
  rw [← hN] at hl ⊢
  replace hN := hidden hN
  replace h := hidden h
  obtain ⟨Z, hZ⟩ : ∃ Z, Hid (Z = placeI L s) := ⟨_, hidden rfl⟩
  rw [← hZ.out]
  go_enter Try.func58, Try.ntmps58
  go_wp2
  go_loop [5] (fun i => ∃ k : Nat, i = .int .i64 k ∧ k ≤ N ∧ Hid (∀ j, j < k → ∀ x, L[j]? = some x → x ≠ s)) (fun i => N - (intOf i).toNat)
  case atStart => exact ⟨0, rfl, Nat.zero_le _, fun j hj => absurd hj (Nat.not_lt_zero _)⟩
  case round =>
    obtain ⟨k, rfl, hk, hno⟩ := hrel
    by_cases hlt : k < N
    · have hj1 : (k : Int) < (N : Int) := by omega
      have hkp : k < L.length := by rw [← hN.out]; exact hlt
      obtain ⟨b, off, rfl, hb, f0⟩ := txt_at' h.out hkp
      have hget : Hid (L[k]? = some (L.getD k ⟨#[]⟩)) := hidden (by simp [List.getD, hkp])
      generalize L.getD k ⟨#[]⟩ = p at *
      by_cases hs : p = s
      · subst hs
        have hr : Hid (Z = (k : Int)) := hidden (by
          rw [hZ.out]
          unfold placeI
          rw [if_pos (List.mem_of_getElem? hget.out), placeL_first hno.out hget.out])
        go_wp2
        go_ret
        exact ⟨by rw [hr.out]; first | done | rfl, rfl⟩
      · have he2 : ¬ p.toList = s.toList := fun h => hs (txt_inj h)
        have he1 : (p.toList == s.toList) = false := by simpa using he2
        have hno2 : Hid (∀ j, j < k + 1 → ∀ x, L[j]? = some x → x ≠ s) := by
          intro j hj x hx
          by_cases hjk : j < k
          · exact hno.out j hjk x hx
          · obtain rfl : j = k := by omega
            rw [hget.out] at hx
            cases hx
            exact hs
        clear hno hs hget
        go_wp2
        go_round
        case rel => exact ⟨k + 1, by go_num, by omega, hno2⟩
        case measure => simp [intOf]; omega
    · have hj1 : ¬ (k : Int) < (N : Int) := by omega
      have hr : Hid (Z = -1) := hidden (by
        rw [hZ.out]
        unfold placeI
        rw [if_neg]
        intro hm
        obtain ⟨j, hj, he⟩ := List.getElem_of_mem hm
        exact hno.out j (by have := hN.out; omega) s (by rw [List.getElem?_eq_getElem hj, he]) rfl)
      go_wp2
      go_ret
      exact ⟨by rw [hr.out]; first | done | rfl, rfl⟩
theorem heap_new2' (w : World) (o1 o2 : Obj) : ((w.alloc o1).alloc o2).heap[w.heap.size + 1]? = some o2 := by
  have h := heap_alloc_new (w.alloc o1) o2
  have h8 : (w.alloc o1).heap.size = w.heap.size + 1 := by show (w.heap.push _).size = _; simp
  rw [h8] at h
  exact h
/-- Which arc stands first. -/
def LtA (p q : Ar) : Prop := p.lb < q.lb ∨ (p.lb = q.lb ∧ (p.to < q.to ∨ (p.to = q.to ∧ (p.wt < q.wt ∨ (p.wt = q.wt ∧ p.ed < q.ed)))))
open Classical in
noncomputable def ltA (p q : Ar) : Bool := decide (LtA p q)
set_option maxHeartbeats 1600000 in
set_option maxRecDepth 100000 in
theorem less_c (p q : Ar) (w : World) :
    Calls Try.prog 59 #[.agg #[.int .i64 (p.lb : Int), .int .i64 (p.to : Int), .int .i64 (p.wt : Int), .int .i64 (p.ed : Int)], .agg #[.int .i64 (q.lb : Int), .int .i64 (q.to : Int), .int .i64 (q.wt : Int), .int .i64 (q.ed : Int)]] w fun e w' => e = .returned (.bool (ltA p q)) ∧ Below w.heap.size w w' := by
  obtain ⟨pl, pt, pw, pe⟩ := p
  obtain ⟨ql, qt, qw, qe⟩ := q
  obtain ⟨Z, hZ⟩ : ∃ Z, Hid (Z = ltA ⟨pl, pt, pw, pe⟩ ⟨ql, qt, qw, qe⟩) := ⟨_, hidden rfl⟩
  rw [← hZ.out]
  have hL : Hid (LtA ⟨pl, pt, pw, pe⟩ ⟨ql, qt, qw, qe⟩ ↔ (pl < ql ∨ (pl = ql ∧ (pt < qt ∨ (pt = qt ∧ (pw < qw ∨ (pw = qw ∧ pe < qe))))))) := hidden Iff.rfl
  have hB0 : Hid (Below w.heap.size w ((w.alloc (.cells #[.int .i64 (pl : Int), .int .i64 (pt : Int), .int .i64 (pw : Int), .int .i64 (pe : Int)] 67)).alloc (.cells #[.int .i64 (ql : Int), .int .i64 (qt : Int), .int .i64 (qw : Int), .int .i64 (qe : Int)] 67))) := ((Below.refl _ _).alloc (Nat.le_refl _) _).alloc (by simp) _
  obtain ⟨⟨x0, x1, x2, x3⟩, -⟩ := box4f (heap_alloc_old (w.alloc (.cells #[.int .i64 (pl : Int), .int .i64 (pt : Int), .int .i64 (pw : Int), .int .i64 (pe : Int)] 67)) (.cells #[.int .i64 (ql : Int), .int .i64 (qt : Int), .int .i64 (qw : Int), .int .i64 (qe : Int)] 67) (by simp) |>.trans (heap_alloc_new w (.cells #[.int .i64 (pl : Int), .int .i64 (pt : Int), .int .i64 (pw : Int), .int .i64 (pe : Int)] 67)))
  obtain ⟨⟨y0, y1, y2, y3⟩, -⟩ := box4f (heap_new2' w (.cells #[.int .i64 (pl : Int), .int .i64 (pt : Int), .int .i64 (pw : Int), .int .i64 (pe : Int)] 67) (.cells #[.int .i64 (ql : Int), .int .i64 (qt : Int), .int .i64 (qw : Int), .int .i64 (qe : Int)] 67))
  have key : ∀ (b : Bool) (P : Prop), (P ↔ LtA ⟨pl, pt, pw, pe⟩ ⟨ql, qt, qw, qe⟩) → (b = true ↔ P) → b = Z := fun b P h1 h2 => by
    rw [hZ.out]
    unfold ltA
    rw [Bool.eq_iff_iff, h2, h1]
    simp
  replace key := hidden key
  by_cases c1 : pl = ql
  · by_cases c2 : pt = qt
    · by_cases c3 : pw = qw
      · have r1 : Hid ((pe < qe) ↔ LtA ⟨pl, pt, pw, pe⟩ ⟨ql, qt, qw, qe⟩) := hidden (by rw [hL.out]; omega)
        subst c1 c2 c3
        go_enter Try.func59, Try.ntmps59
        go_wp2
        go_ret
        exact ⟨by refine ret_bool (key.out _ _ r1.out ?_); simp, hB0.out⟩
      · have r1 : Hid ((pw < qw) ↔ LtA ⟨pl, pt, pw, pe⟩ ⟨ql, qt, qw, qe⟩) := hidden (by rw [hL.out]; omega)
        have c3' : ((pw : Int) != (qw : Int)) = true := by simp; omega
        subst c1 c2
        replace c3 := hidden c3
        go_enter Try.func59, Try.ntmps59
        go_wp2
        go_ret
        exact ⟨by refine ret_bool (key.out _ _ r1.out ?_); simp, hB0.out⟩
    · have r1 : Hid ((pt < qt) ↔ LtA ⟨pl, pt, pw, pe⟩ ⟨ql, qt, qw, qe⟩) := hidden (by rw [hL.out]; omega)
      have c2' : ((pt : Int) != (qt : Int)) = true := by simp; omega
      subst c1
      replace c2 := hidden c2
      go_enter Try.func59, Try.ntmps59
      go_wp2
      go_ret
      exact ⟨by refine ret_bool (key.out _ _ r1.out ?_); simp, hB0.out⟩
  · have r1 : Hid ((pl < ql) ↔ LtA ⟨pl, pt, pw, pe⟩ ⟨ql, qt, qw, qe⟩) := hidden (by rw [hL.out]; omega)
    have c1' : ((pl : Int) != (ql : Int)) = true := by simp; omega
    replace c1 := hidden c1
    go_enter Try.func59, Try.ntmps59
    go_wp2
    go_ret
    exact ⟨by refine ret_bool (key.out _ _ r1.out ?_); simp, hB0.out⟩
theorem ltA_iff {p q : Ar} : ltA p q = true ↔ LtA p q := by simp [ltA]
/-- The keys of a graph's arcs say the same. -/
theorem key_lt {L : List ByteArray} {es : List Eg} {back : Bool} {i j : Nat} (hi : i < es.length) (hj : j < es.length) (oi : (arcOf L es back i).ok) (oj : (arcOf L es back j).ok) :
    KeyLt (keyOf (keysA (arcsL L es back))) i j ↔ LtA (arcOf L es back i) (arcOf L es back j) := by
  have key : ∀ k, k < es.length → keyOf (keysA (arcsL L es back)) k = (arcOf L es back k).key := fun k hk => by
    unfold keyOf keysA
    have : ((arcsL L es back).map fun p => ((p.key : Nat) : Int)).getD k 0 = (((arcOf L es back k).key : Nat) : Int) := by
      simp [List.getD, arcsL, hk]
    rw [this]; simp
  unfold KeyLt LtA
  rw [key i hi, key j hj]
  obtain ⟨a1, a2, a3⟩ := oi
  obtain ⟨b1, b2, b3⟩ := oj
  have e1 : (arcOf L es back i).ed = i := rfl
  have e2 : (arcOf L es back j).ed = j := rfl
  rw [e1, e2]
  unfold Ar.key
  generalize (arcOf L es back i).lb = x1 at *
  generalize (arcOf L es back i).to = x2 at *
  generalize (arcOf L es back i).wt = x3 at *
  generalize (arcOf L es back j).lb = z1 at *
  generalize (arcOf L es back j).to = z2 at *
  generalize (arcOf L es back j).wt = z3 at *
  omega
/-- A row in order, of those of the first k edges that are a node's. -/
structure RowQ (K : Nat → Nat) (D : Nat → Nat) (n : Int) (k : Nat) (Q : List Nat) : Prop where
  ord : Q.Pairwise (KeyLt K)
  mem : ∀ p, p ∈ Q ↔ p < k ∧ (D p : Int) = n
theorem KeyLt.trans {K : Nat → Nat} {p q r : Nat} (h1 : KeyLt K p q) (h2 : KeyLt K q r) : KeyLt K p r := by unfold KeyLt at *; omega
theorem KeyLt.tri {K : Nat → Nat} {p q : Nat} (h : ¬ KeyLt K p q) (hne : p ≠ q) : KeyLt K q p := by unfold KeyLt at *; omega
theorem RowQ.zero (K D : Nat → Nat) (n : Int) : RowQ K D n 0 [] := ⟨List.Pairwise.nil, fun p => ⟨fun h => (by cases h), fun h => (by omega)⟩⟩
theorem RowQ.skip {K D : Nat → Nat} {n : Int} {k : Nat} {Q : List Nat} (h : RowQ K D n k Q) (hn : (D k : Int) ≠ n) : RowQ K D n (k + 1) Q :=
  ⟨h.ord, fun p => (h.mem p).trans ⟨fun h => ⟨by omega, h.2⟩, fun h1 => by
    rcases Nat.lt_or_ge p k with h2 | h2
    · exact ⟨h2, h1.2⟩
    · obtain rfl : p = k := by omega
      exact absurd h1.2 hn⟩⟩
/-- One more is put where it belongs. -/
theorem RowQ.put {K D : Nat → Nat} {n : Int} {k : Nat} {Q : List Nat} (h : RowQ K D n k Q) (hn : (D k : Int) = n) {t : Nat} (ht : t ≤ Q.length) (hup : ∀ j, t ≤ j → j < Q.length → KeyLt K k (Q.getD j 0)) (hlow : 0 < t → ¬ KeyLt K k (Q.getD (t - 1) 0)) :
    RowQ K D n (k + 1) (Q.take t ++ k :: Q.drop t) := by
  have hg : ∀ j (hj : j < Q.length), Q.getD j 0 = Q[j] := fun j hj => by simp [List.getD, hj]
  have hnk : ∀ p ∈ Q, p ≠ k := fun p hp e => by have := ((h.mem p).1 hp).1; omega
  have hup2 : ∀ p ∈ Q.drop t, KeyLt K k p := fun p hp => by
    obtain ⟨j, hj, rfl⟩ := List.mem_iff_getElem.1 hp
    rw [List.length_drop] at hj
    rw [List.getElem_drop]
    have := hup (t + j) (by omega) (by omega)
    rwa [hg _ (by omega)] at this
  have hlow2 : ∀ p ∈ Q.take t, KeyLt K p k := fun p hp => by
    obtain ⟨j, hj, rfl⟩ := List.mem_iff_getElem.1 hp
    rw [List.length_take] at hj
    rw [List.getElem_take]
    have h1 := hlow (by omega)
    rw [hg _ (by omega)] at h1
    have h2 := KeyLt.tri h1 (fun e => hnk _ (List.getElem_mem (show t - 1 < Q.length by omega)) e.symm)
    rcases Nat.lt_or_ge j (t - 1) with h3 | h3
    · exact (List.pairwise_iff_getElem.1 h.ord j (t - 1) (by omega) (by omega) h3).trans h2
    · obtain rfl : j = t - 1 := by omega
      exact h2
  have hp : Q.Pairwise (KeyLt K) := h.ord
  rw [← List.take_append_drop t Q, List.pairwise_append] at hp
  refine ⟨?_, fun p => ?_⟩
  · rw [List.pairwise_append, List.pairwise_cons]
    refine ⟨hp.1, ⟨hup2, hp.2.1⟩, fun x hx y hy => ?_⟩
    rcases List.mem_cons.1 hy with rfl | hy
    · exact hlow2 x hx
    · exact hp.2.2 x hx y hy
  · have : p ∈ Q.take t ++ k :: Q.drop t ↔ p ∈ Q ∨ p = k := by
      conv => rhs; rw [← List.take_append_drop t Q]
      simp only [List.mem_append, List.mem_cons]
      constructor
      · rintro (h | rfl | h)
        · exact .inl (.inl h)
        · exact .inr rfl
        · exact .inl (.inr h)
      · rintro ((h | h) | rfl)
        · exact .inl h
        · exact .inr (.inr h)
        · exact .inr (.inl rfl)
    rw [this, h.mem]
    constructor
    · rintro (h | rfl)
      · exact ⟨by omega, h.2⟩
      · exact ⟨by omega, hn⟩
    · rintro ⟨h1, h2⟩
      rcases Nat.lt_or_ge p k with h3 | h3
      · exact .inl ⟨h3, h2⟩
      · exact .inr (by omega)
/-- The program's row is the same. -/
theorem RowQ.is {K D : Nat → Nat} {n : Int} {m N : Nat} {Q l : List Nat} (h : RowQ K D n m Q) (ho : Ordered K m l) (hD : ∀ p, p < m → D p < N) : Q = rowI D l N n := by
  refine ordered_ext Q _ h.ord ?_ fun p => ?_
  · unfold rowI
    split
    · exact ho.1.sublist List.filter_sublist
    · exact List.Pairwise.nil
  · rw [h.mem]
    unfold rowI
    split
    · rename_i hn
      rw [mem_part, ho.2]
      constructor
      · rintro ⟨h1, h2⟩; exact ⟨h1, by omega⟩
      · rintro ⟨h1, h2⟩; exact ⟨h1, by omega⟩
    · rename_i hn
      constructor
      · rintro ⟨h1, h2⟩
        have := hD p h1
        exact absurd ⟨by omega, by omega⟩ hn
      · intro h; cases h
end Go.Proofs.Ytikajhpgoehboaa
/-
  A REGION THAT DRAWS ITS ORDER, WHOSE OPERATIONS READ AND WHOSE CALLEES MAKE MEMORY BUT WRITE NONE THAT WAS THERE: one walk. No function is named here.
-/
namespace Go.Proofs.Ytikajhpgoehboaa
open Go.ChangeShapes Go.WideShapes Go.ChangeAt Go.RowKit

/-- A world of the class. -/
structure In (C : World → Prop) where
  w : World
  h : C w
theorem wp_region_later {P : Program} {id : Nat} {Q : Exit → Act → World → Prop} {a : Act} {w : World} {l : List Oper} (C : World → Prop) (hm : P.follows .mixedOrders = true) (hB : Region.lexB .any l.toArray = true) (hC : C w.drew)
    (h : ∀ _ : Nonempty (In C), wpQuiet P l.toArray (fun w' => ∃ x : In C, w' = x.w) (fun a' => ∀ w', C w' → Q .normal a' w') l a) : (Code.region id l.toArray true).wp P Q a w := by
  refine wp_region_quiet (C := C) hm hB hC ?_
  have h := h ⟨⟨_, hC⟩⟩
  have e : (fun w' => ∃ x : In C, w' = x.w) = C := by
    funext w'
    exact propext ⟨fun ⟨x, hx⟩ => hx ▸ x.h, fun h => ⟨⟨w', h⟩, rfl⟩⟩
  rw [e] at h
  simpa using h
theorem later_of {P : Program} {C : World → Prop} {f : FuncId} {args : Array Value} {v : Value} {x : In C} (h : Calls P f args x.w fun e w' => e = .returned v ∧ C w') :
    Calls P f args x.w fun e w'' => e = .returned v ∧ ∃ y : In C, w'' = y.w :=
  h.mono fun _ w' ⟨he, hw⟩ => ⟨he, ⟨w', hw⟩, rfl⟩

/-- All that lay in w lies as it lay, and these cells hold these values. -/
def Keeps (w : World) (F : List (Addr × Value)) (x : World) : Prop := Below w.heap.size w x ∧ ∀ p ∈ F, x.cell? p.1 = some p.2
theorem Keeps.below {w x y : World} {F : List (Addr × Value)} (h : Keeps w F x) (hb : Below x.heap.size x y) : Keeps w F y :=
  ⟨h.1.trans (hb.mono h.1.size), fun p hp => (hb.cell (World.block_lt_of_cell? x p.1 (h.2 p hp))).trans (h.2 p hp)⟩
theorem Keeps.drew {w x : World} {F : List (Addr × Value)} (h : Keeps w F x) : Keeps w F x.drew := ⟨h.1.drew, fun p hp => h.2 p hp⟩
theorem Keeps.at {w : World} {F : List (Addr × Value)} (j : Nat) {p : Addr × Value} (hj : F[j]? = some p) (x : In (Keeps w F)) : x.w.cell? p.1 = some p.2 :=
  x.h.2 p (List.mem_of_getElem? hj)
/-- A callee by its contract, in a world of the class. -/
theorem Keeps.calls {P : Program} {w : World} {F : List (Addr × Value)} {f : FuncId} {args : Array Value} {v : Value} (h : ∀ w, Calls P f args w fun e w' => e = .returned v ∧ Below w.heap.size w w') (x : In (Keeps w F)) :
    Calls P f args x.w fun e w'' => e = .returned v ∧ ∃ y : In (Keeps w F), w'' = y.w :=
  later_of ((h x.w).mono fun _ _ ⟨he, hb⟩ => ⟨he, x.h.below hb⟩)
end Go.Proofs.Ytikajhpgoehboaa
/-
  THE REFERENCE's ROW OF A NODE: edge by edge, kept in order, by contract.
-/
namespace Go.Proofs.Ytikajhpgoehboaa
open Go.ChangeShapes Go.WideShapes Go.ChangeAt Go.RowKit

/-- append to an own row of records, of whatever slice. -/
theorem wpList_appR {P : Program} (w : World) {ops : Array Oper} {rest : List Oper} {o : Oper} {a : Act} {Q : Exit → Act → World → Prop} {α : Type} (R : Rec α)
    (hg : o.guard = none) (s x : Operand) (t : TypeId) (hop : o.op = Op.call { callee := Callee.builtin Builtin.append, args := #[s, x], argTypes := #[t, t] })
    (base : Nat) (e : TypeId) (i : TypeInfo) (z : Value) (size bytes : Nat) (h1 : P.underlying t = some (.slice e)) (h2 : P.info? e = some i) (h3 : i.zero = some z) (h4 : i.size = size) (h5 : i.bytes = bytes) (h6 : z.cells.size = size) (hR : R.n = size)
    {v : Value} {n : Nat} {xs : List Value} (hs : a.eval s = v) (hown : w.ownsRow base e size v n xs) {vx : Value} {qs : List α} (hx : a.eval x = vx) (hsl : SlR R w vx qs)
    (b1 : n + qs.length ≤ maxLen) (b2 : (n + qs.length) * bytes ≤ 140737488355328) (hbase : base ≤ w.heap.size)
    (hK : ∀ v' w', w'.ownsRow base e size v' (n + qs.length) (xs ++ R.flat qs) → w.grownBy w' v.ownBlock → wpList P ops Q rest (a.put o.dst v') w') : wpList P ops Q (o :: rest) a w := by
  refine wpList_plain hg fun K hK' => ?_
  obtain ⟨v', w', hr, r2, r3, r4⟩ := run_appR (P := P) (R := R) w base t o.type e i z size bytes h1 h2 h3 h4 h5 h6 hR hown hsl b1 b2 hbase
  unfold Oper.wp execOp
  simp only [hop, resolve, invoke, builtin, Sem.run_bind, Sem.run_pure, Result.andThen_ok, List.map_toArray, List.map_cons, List.map_nil, hs, hx, hr]
  exact hK' _ _ (hK v' w' r2 r3)
/-- The row that comes of it. -/
theorem row_put {x : World} {B : Nat} {v : Value} {Q : List Nat} {A : Nat → Ar} {t k q : Nat} (ht : t ≤ q) (hq : q = Q.length)
    (h : x.ownsRow B 67 4 v (0 + t + 1 + (q - t)) ((([] ++ arR.flat ((Q.map A).take t)) ++ arR.flat [A k]) ++ arR.flat ((Q.map A).drop t))) :
    ∃ g c, v = .slice (some ⟨g, 0, none⟩) (q + 1) c ∧ x.ownsRow 0 67 4 (.slice (some ⟨g, 0, none⟩) (q + 1) c) (q + 1) (arR.flat ((Q.take t ++ k :: Q.drop t).map A)) := by
  have e : arR.flat ((Q.take t ++ k :: Q.drop t).map A) = (([] ++ arR.flat ((Q.map A).take t)) ++ arR.flat [A k]) ++ arR.flat ((Q.map A).drop t) := by
    rw [List.map_append, List.map_cons, Rec.flat_app, Rec.flat_cons, List.map_take, List.map_drop, Rec.flat_one]
    simp
  rw [← e, show 0 + t + 1 + (q - t) = q + 1 by omega] at h
  have h0 := own0 h
  rcases id h.2 with ⟨_, h1⟩ | ⟨g, cap, cur, e1, _⟩
  · omega
  · subst e1
    exact ⟨g, cap, rfl, h0⟩
/-- Two arcs, one in a box, one in a row. -/
def eightA (b1 b2 o2 : Nat) (x y : Ar) : List (Addr × Value) := [(⟨b1, 0, none⟩, .int .i64 (x.lb : Int)), (⟨b1, 1, none⟩, .int .i64 (x.to : Int)), (⟨b1, 2, none⟩, .int .i64 (x.wt : Int)), (⟨b1, 3, none⟩, .int .i64 (x.ed : Int)),
  (⟨b2, o2, none⟩, .int .i64 (y.lb : Int)), (⟨b2, o2 + 1, none⟩, .int .i64 (y.to : Int)), (⟨b2, o2 + 2, none⟩, .int .i64 (y.wt : Int)), (⟨b2, o2 + 3, none⟩, .int .i64 (y.ed : Int))]
/-- What lies while a row is made. -/
structure RW (w : World) (g : Gr) (L : List ByteArray) (back : Bool) (n : Int) (i0 i1 : Value) (la : Option Addr) (lc : Nat) (gq cq k : Nat) (Q : List Nat) (x : World) : Prop where
  box : x.heap[w.heap.size]? = some (.cells #[i0, i1] 25)
  lab : RowAt x la (tx L)
  row : x.ownsRow 0 67 4 (.slice (some ⟨gq, 0, none⟩) Q.length cq) Q.length (arR.flat (Q.map (arcOf L g.es back)))
  ord : RowQ (keyOf (keysA (arcsL L g.es back))) (whoOf g.es back) n k Q
  below : Below w.heap.size w x
section
variable {w : World} {g : Gr} {L : List ByteArray} {back : Bool} {n : Int} {i0 i1 : Value} {la : Option Addr} {lc gq cq k : Nat} {Q : List Nat} {x z : World}
theorem RW.step (h : RW w g L back n i0 i1 la lc gq cq k Q x) (hB : Below x.heap.size x z) : RW w g L back n i0 i1 la lc gq cq k Q z :=
  ⟨box_below h.box hB, h.lab.below hB, owns_keep h.row hB, h.ord, h.below.trans (hB.mono h.below.size)⟩
theorem RW.skip (h : RW w g L back n i0 i1 la lc gq cq k Q x) (hn : (whoOf g.es back k : Int) ≠ n) : RW w g L back n i0 i1 la lc gq cq (k + 1) Q x := ⟨h.box, h.lab, h.row, h.ord.skip hn, h.below⟩
theorem RW.le (h : RW w g L back n i0 i1 la lc gq cq k Q x) : Q.length ≤ k := by
  have := nodup_len Q (List.range k) (h.ord.ord.imp fun h => h.irrefl) (fun p hp => List.mem_range.2 ((h.ord.mem p).1 hp).1)
  rwa [List.length_range] at this
end
set_option maxHeartbeats 32000000 in
set_option maxRecDepth 100000 in
theorem rrow_c (g : Gr) (vs : List NdV) (a : Option Addr) (N c : Nat) (b : Option Addr) (m d : Nat) (w : World) (hg : OwnG g vs a N c b m d w) (hs : g.sm) (hok : (checkG g).2 = 0) (n : Int) (back : Bool) (L : List ByteArray) (hL1 : StrictT L) (hL2 : ∀ s, s ∈ L ↔ s ∈ g.es.map Eg.l) :
    Calls Try.prog 40 #[.agg #[.slice a N c, .slice b m d], .int .i64 n, .bool back] w fun e w' => ∃ (g' c' : Nat) (Q : List Nat), e = .returned (.slice (some ⟨g', 0, none⟩) (List.length Q) c') ∧ RowQ (keyOf (keysA (arcsL L g.es back))) (whoOf g.es back) n g.es.length Q ∧ w'.ownsRow 0 67 4 (.slice (some ⟨g', 0, none⟩) Q.length c') Q.length (arR.flat (Q.map (arcOf L g.es back))) ∧ Below w.heap.size w w' := by
  obtain ⟨ia, hia, ha0, ha1, ha2⟩ := info_parts infoA
  obtain ⟨hgn, hgm⟩ := hg.len
  have hM0 : m ≤ 1000 := by rw [hgm]; exact hs.2.2.1
  have hX := hidden (heap_alloc_new w (.cells #[.slice a N c, .slice b m d] 25))
  have hB0 : Hid (Below w.heap.size w (w.alloc (.cells #[.slice a N c, .slice b m d] 25))) := (Below.refl _ _).alloc (Nat.le_refl _) _
  have hlab := rlabels_c g.es a N c b d (w.alloc (.cells #[.slice a N c, .slice b m d] 25)) (hg.calm hB0.out).edge (by omega)
  rw [← hgm] at hlab
  have hge := hidden (good_edges hok)
  have hLl : Hid (L.length ≤ 1000) := by
    have h := nodup_len L _ hL1.nodup (fun x hx => (hL2 x).1 hx)
    show _ ≤ _
    rw [List.length_map] at h
    omega
  have hL9 : L.length ≤ 1000 := hLl.out
  have hedge : Hid (∀ z, Below w.heap.size w z → RowAt z b (edgeR.flat g.es)) := hidden fun z hz => (hg.calm hz).edge
  have hke : Hid (∀ i j, i < g.es.length → j < g.es.length → (KeyLt (keyOf (keysA (arcsL L g.es back))) i j ↔ LtA (arcOf L g.es back i) (arcOf L g.es back j))) := hidden fun i j hi hj => by
    have hokA : ∀ k, k < g.es.length → (arcOf L g.es back k).ok := fun k hk => by
      obtain ⟨v1, v2, v3, v4, v5, v6⟩ := hge.out _ (getD_memG (d := Eg.none) hk)
      have hp := (placeL_mem ((hL2 _).2 (List.mem_map.2 ⟨_, getD_memG (d := Eg.none) hk, rfl⟩))).1
      have h1 := hs.1
      refine ⟨?_, ?_, ?_⟩
      · show placeL L _ < _; omega
      · show (if back = true then fromOf g.es k else toOf g.es k) < _
        unfold fromOf toOf
        split <;> omega
      · show (g.es.getD k Eg.none).w.toNat < _; omega
    exact key_lt hi hj (hokA i hi) (hokA j hj)
  obtain ⟨⟨b0, b1⟩, -⟩ := box2f hX.out
  replace hgm := hidden hgm
  replace hL1 := hidden hL1
  replace hL2 := hidden hL2
  clear hg hs hok hgn hLl
  go_enter Try.func40, Try.ntmps40
  go_wp2_with fail
  refine hlab.mono ?_
  rintro e w1 ⟨lg, lo, lc, L', rfl, hTL⟩
  obtain rfl : L' = L := hTL.strict.same hL1.out fun x => (hTL.mem x).trans (hL2.out x).symm
  have hR0 : Hid (RW w g L' back n (.slice a N c) (.slice b m d) (some ⟨lg, lo, none⟩) lc w1.heap.size 0 0 [] (w1.alloc (.cells #[] 67))) := by
    have hA := (Below.refl w1.heap.size w1).alloc (Nat.le_refl _) (.cells #[] 67)
    refine hidden ⟨box_below (box_below hX.out hTL.below) hA, ?_, World.ownsRow_made (base := 0) (e := 67) (size := 4) w1 #[] 0 (Nat.zero_le _) (by unfold maxLen; omega) rfl, RowQ.zero _ _ _, (hB0.out.trans (hTL.below.mono hB0.out.size)).trans (hA.mono (Nat.le_trans hB0.out.size hTL.below.size))⟩
    obtain ⟨a', c', h1, _, _, _, h2⟩ := hTL.sl
    simp only [Value.slice.injEq] at h1
    obtain ⟨rfl, _, _⟩ := h1
    exact h2.below hA
  clear hlab hTL hX hB0 b0 b1
  go_wp2_with fail
  generalize hw2 : w1.alloc (.cells #[] 67) = w2 at *
  clear hw2
  generalize w1.heap.size = gi at *
  go_loopw [8, 9] (fun v i x => ∃ (k gq cq : Nat) (Q : List Nat), v = .slice (some ⟨gq, 0, none⟩) Q.length cq ∧ k ≤ m ∧ i = .int .i64 k ∧ Hid (RW w g L' back n (.slice a N c) (.slice b m d) (some ⟨lg, lo, none⟩) lc gq cq k Q x)) (fun _ i _ => m - (intOf i).toNat)
  case atStart => exact ⟨0, gi, 0, [], rfl, Nat.zero_le _, rfl, hR0⟩
  case round =>
    clear hR0
    obtain ⟨k, gq, cq, Q, rfl, hk, rfl, hR⟩ := hrel
    obtain ⟨⟨x0, x1⟩, -⟩ := box2f hR.out.box
    have hQk := hidden hR.out.le
    by_cases hlt : k < m
    · have hlt' : (k : Int) < (m : Int) := by omega
      have hlE : k < g.es.length := by rw [← hgm.out]; exact hlt
      obtain ⟨b5, o5, rfl, hb5, e0, e1, e2, e3⟩ := edge_at (hedge.out _ hR.out.below) hlE
      obtain ⟨v1, v2, v3, v4, v5, v6⟩ := hge.out _ (getD_memG (d := Eg.none) hlE)
      have hqf : Hid ((g.es.getD k Eg.none).f = ((fromOf g.es k : Nat) : Int)) := hidden (by unfold fromOf; omega)
      have hqt : Hid ((g.es.getD k Eg.none).t = ((toOf g.es k : Nat) : Int)) := hidden (by unfold toOf; omega)
      have hqw : Hid ((g.es.getD k Eg.none).w = (((arcOf L' g.es back k).wt : Nat) : Int)) := hidden (by show _ = (((g.es.getD k Eg.none).w.toNat : Nat) : Int); omega)
      have hpl : Hid (placeI L' (g.es.getD k Eg.none).l = (((arcOf L' g.es back k).lb : Nat) : Int)) := hidden (by
        unfold placeI
        rw [if_pos ((hL2.out _).2 (List.mem_map.2 ⟨_, getD_memG (d := Eg.none) hlE, rfl⟩))]; rfl)
      have hA : Hid (arcOf L' g.es back k = ⟨(arcOf L' g.es back k).lb, if back then fromOf g.es k else toOf g.es k, (arcOf L' g.es back k).wt, k⟩) := hidden rfl
      have hD : Hid (whoOf g.es back k = if back then toOf g.es k else fromOf g.es k) := hidden (by cases back <;> rfl)
      rw [hqf.out] at e0
      rw [hqt.out] at e1
      rw [hqw.out] at e3
      have hplace := hidden fun z (hz : RowAt z (some ⟨lg, lo, none⟩) (tx L')) => rplace_c L' (g.es.getD k Eg.none).l _ lc z hz (by omega)
      rw [hpl.out] at hplace
      clear hqf hqt hqw hpl v1 v2 v3 v4 v5 v6
      generalize (arcOf L' g.es back k).lb = Alb at *
      generalize (arcOf L' g.es back k).wt = Awt at *
      generalize fromOf g.es k = vf at *
      generalize toOf g.es k = vt at *
      generalize (g.es.getD k Eg.none).l = ql at *
      have hwe := (Below.refl wr.heap.size wr).alloc (Nat.le_refl _) (.cells #[.int .i64 (vf : Int), .int .i64 (vt : Int), .string ql, .int .i64 (Awt : Int)] 51)
      obtain ⟨⟨p0, p1, p2, p3⟩, -⟩ := box4f (heap_alloc_new wr (.cells #[.int .i64 (vf : Int), .int .i64 (vt : Int), .string ql, .int .i64 (Awt : Int)] 51))
      have hR2 := hidden (hR.out.step hwe)
      clear hR hwe
      cases back
      · simp only [if_false, Bool.false_eq_true] at hA hD
        go_wp2_with fail
        go_region
        by_cases hn : ((vf : Nat) : Int) = n
        · subst hn
          go_wp2_with fail
          have hlb := hidden hR2.out.lab
          obtain ⟨R, hR⟩ : ∃ R : Act → World → Prop, Hid (∀ a' x, R a' x ↔ (a' = ({ tmps := List.toArray ((Value.agg #[Value.slice a N c, Value.slice (some { block := b5, off := o5 }) m d]) :: (Value.int IntKind.i64 ↑vf) :: (Value.bool false) :: (Value.pointer (some { block := w.heap.size, off := 0 })) :: undef :: undef :: (Value.slice none 0 0) :: (Value.slice (some { block := lg, off := lo }) L'.length lc) :: (Value.slice (some { block := gq, off := 0 }) Q.length cq) :: (Value.int IntKind.i64 ↑k) :: (Value.pointer (some { block := wr.heap.size, off := 0 })) :: (Value.int IntKind.i64 ↑vf) :: (Value.int IntKind.i64 ↑vt) :: (Value.pointer (some { block := wr.heap.size + 1, off := 0 })) :: u14 :: (Value.agg #[Value.slice a N c, Value.slice (some { block := b5, off := o5 }) m d]) :: (Value.slice (some { block := lg, off := lo }) L'.length lc) :: (Value.slice (some { block := gi, off := 0 }) 0 0) :: (Value.int IntKind.i64 ↑k) :: (Value.pointer (some { block := w.heap.size, off := 1 })) :: (Value.slice (some { block := b5, off := o5 }) m d) :: (Value.int IntKind.i64 ↑m) :: (Value.bool true) :: u23 :: u24 :: (Value.pointer (some { block := w.heap.size, off := 1 })) :: (Value.slice (some { block := b5, off := o5 }) m d) :: (Value.int IntKind.i64 ↑k) :: (Value.pointer (some { block := b5, off := o5 + k * 4 })) :: (Value.agg #[Value.int IntKind.i64 ↑vf, Value.int IntKind.i64 ↑vt, Value.string ql, Value.int IntKind.i64 ↑Awt]) :: (Value.pointer (some { block := wr.heap.size, off := 0 })) :: (Value.int IntKind.i64 ↑vf) :: (Value.pointer (some { block := wr.heap.size, off := 1 })) :: (Value.int IntKind.i64 ↑vt) :: (Value.bool false) :: u35 :: u36 :: (Value.int IntKind.i64 ↑vf) :: (Value.int IntKind.i64 ↑vf) :: (Value.bool false) :: (Value.slice (some { block := lg, off := lo }) L'.length lc) :: (Value.pointer (some { block := wr.heap.size, off := 2 })) :: (Value.string ql) :: (Value.int IntKind.i64 ↑Alb) :: (Value.int IntKind.i64 ↑vt) :: (Value.pointer (some { block := wr.heap.size, off := 3 })) :: (Value.int IntKind.i64 ↑Awt) :: (Value.int IntKind.i64 ↑k) :: (Value.agg #[Value.int IntKind.i64 ↑Alb, Value.int IntKind.i64 ↑vt, Value.int IntKind.i64 ↑Awt, Value.int IntKind.i64 ↑k]) :: u49 :: u50 :: u51 :: u52 :: u53 :: u54 :: u55 :: u56 :: u57 :: u58 :: u59 :: u60 :: u61 :: u62 :: u63 :: u64 :: u65 :: u66 :: u67 :: u68 :: u69 :: u70 :: u71 :: u72 :: u73 :: u74 :: u75 :: undef :: []), defers := [] } : Act) ∧ x = (((wr.alloc (.cells #[.int .i64 (vf : Int), .int .i64 (vt : Int), .string ql, .int .i64 (Awt : Int)] 51)).alloc (.cells #[.int .i64 (Alb : Int), .int .i64 (vt : Int), .int .i64 (Awt : Int), .int .i64 (k : Int)] 67)).drew.drew))) := ⟨_, hidden fun _ _ => Iff.rfl⟩
          refine wp_only R ?h ?hq
          case h =>
            go_region_with (first
              | (go_at_call 58; refine (hplace.out _ (by first | exact hlb.out | exact hlb.out.below (((Below.refl _ _).alloc (Nat.le_refl _) _).drew.drew))).mono ?_; rintro e z9 ⟨rfl, rfl⟩)
              | fail)
            all_goals
              exact (hR.out _ _).2 ⟨rfl, rfl⟩
          case hq =>
            intro a' x hx
            obtain ⟨rfl, rfl⟩ := (hR.out _ _).1 hx
            clear hx hR
            have hAb : Hid ((((wr.alloc (.cells #[.int .i64 (vf : Int), .int .i64 (vt : Int), .string ql, .int .i64 (Awt : Int)] 51)).alloc (.cells #[.int .i64 (Alb : Int), .int .i64 (vt : Int), .int .i64 (Awt : Int), .int .i64 (k : Int)] 67)).drew.drew).heap[wr.heap.size + 1]? = some (.cells #[.int .i64 (Alb : Int), .int .i64 (vt : Int), .int .i64 (Awt : Int), .int .i64 (k : Int)] 67)) := hidden (heap_new2' wr _ _)
            have hR3 : Hid (RW w g L' false ((vf : Nat) : Int) (.slice a N c) (.slice (some ⟨b5, o5, none⟩) m d) (some ⟨lg, lo, none⟩) lc gq cq k Q (((wr.alloc (.cells #[.int .i64 (vf : Int), .int .i64 (vt : Int), .string ql, .int .i64 (Awt : Int)] 51)).alloc (.cells #[.int .i64 (Alb : Int), .int .i64 (vt : Int), .int .i64 (Awt : Int), .int .i64 (k : Int)] 67)).drew.drew)) := hidden (hR2.out.step ((Below.refl _ _).alloc (Nat.le_refl _) _).drew.drew)
            clear hR2 hplace hlb p0 p1 p2 p3 e0 e1 e2 e3 x0 x1
            generalize ((wr.alloc (.cells #[.int .i64 (vf : Int), .int .i64 (vt : Int), .string ql, .int .i64 (Awt : Int)] 51)).alloc (.cells #[.int .i64 (Alb : Int), .int .i64 (vt : Int), .int .i64 (Awt : Int), .int .i64 (k : Int)] 67)).drew.drew = x2 at *
            generalize wr.heap.size + 1 = gb2 at *
            have hq9 : Q.length ≤ 1000 := by have := hQk.out; omega
            have hkE : Hid (k < g.es.length) := hidden hlE
            go_wp2_with fail
            go_loopw [14] (fun i x => ∃ t : Nat, t ≤ Q.length ∧ i = .int .i64 t ∧ Hid (∀ j, t ≤ j → j < Q.length → KeyLt (keyOf (keysA (arcsL L' g.es false))) k (Q.getD j 0)) ∧ Hid (RW w g L' false ((vf : Nat) : Int) (.slice a N c) (.slice (some ⟨b5, o5, none⟩) m d) (some ⟨lg, lo, none⟩) lc gq cq k Q x) ∧ Hid (x.heap[gb2]? = some (.cells #[.int .i64 (Alb : Int), .int .i64 (vt : Int), .int .i64 (Awt : Int), .int .i64 (k : Int)] 67))) (fun i _ => (intOf i).toNat)
            case atStart => exact ⟨Q.length, Nat.le_refl _, rfl, hidden (fun j h1 h2 => by omega), hR3, hAb⟩
            case round =>
              clear hR3 hAb
              obtain ⟨t, ht, rfl, hup, hR, hAb⟩ := hrel
              obtain ⟨⟨p0, p1, p2, p3⟩, -⟩ := box4f hAb.out
              by_cases ht0 : t = 0
              · have hput2 : Hid (RowQ (keyOf (keysA (arcsL L' g.es false))) (whoOf g.es false) ((vf : Nat) : Int) (k + 1) (Q.take t ++ k :: Q.drop t)) := hidden (hR.out.ord.put (by rw [hD.out]) ht hup.out (fun h => absurd h (by omega)))
                have hgt0 : ¬ (t : Int) > 0 := by omega
                have hgt1 : ¬ (0 : Int) < (t : Int) := by omega
                have hgt2 : ¬ 0 < t := by omega
                replace ht0 := hidden ht0
                have hkk : Keeps wr [] wr.drew := Keeps.drew ⟨Below.refl _ _, fun p hp => by cases hp⟩
                clear hup p0 p1 p2 p3
                rename World => wq
                go_wp2_with fail
                refine wp_region_later (Keeps wq []) (by kernel_rfl) (by kernel_rfl) hkk (fun hne => ?_)
                repeat (go_big_quiet_step (fail))
                refine wpQuiet_nil ?_
                intro wL hL
                have hR4 := hidden (hR.out.step hL.1)
                have hAb4 := hidden (box_below hAb.out hL.1)
                clear hkk hL hR hAb hgt0 hgt1 hgt2
                go_wp2_with fail
                have hsl4 := slR_of_owns (R := arR) (ps := Q.map (arcOf L' g.es false)) (v := .slice (some ⟨gq, 0, none⟩) Q.length cq) (by rw [List.length_map]; exact hR4.out.row)
                have hroom : Q.length ≤ cq := by
                  obtain ⟨_, _, h1, h2, _⟩ := id hsl4
                  simp only [Value.slice.injEq, List.length_map] at h1 h2
                  omega
                have hsq1 : Hid (∀ z, Below wL.heap.size wL z → SlR arR z (.slice (some ⟨gq, 0, none⟩) t cq) ((Q.map (arcOf L' g.es false)).take t)) := hidden fun z hz => (hsl4.below hz).to' t ht
                have hsq2 : Hid (∀ z, Below wL.heap.size wL z → SlR arR z (.slice (if cq = t then some ⟨gq, 0, none⟩ else some ⟨gq, t * 4, none⟩) (Q.length - t) (cq - t)) ((Q.map (arcOf L' g.es false)).drop t)) := hidden fun z hz => by
                  have h := (hsl4.below hz).from' t ht
                  rw [Nat.zero_add] at h
                  exact h
                have hlt1q : Hid (((Q.map (arcOf L' g.es false)).take t).length = t) := hidden (by rw [List.length_take, List.length_map]; omega)
                have hlt2q : Hid (((Q.map (arcOf L' g.es false)).drop t).length = Q.length - t) := hidden (by rw [List.length_drop, List.length_map])
                have htc : (t : Int) ≤ (cq : Int) := by omega
                have htq9 : (t : Int) ≤ (Q.length : Int) := by omega
                have hqc : (Q.length : Int) ≤ (cq : Int) := by omega
                obtain ⟨hSn, -⟩ := box4f hAb4.out
                clear hsl4
                refine wp_region_parts (S := (fun z => z.cell? ⟨gb2, 0, none⟩ = some (.int .i64 (Alb : Int)) ∧ z.cell? ⟨gb2, 1, none⟩ = some (.int .i64 (vt : Int)) ∧ z.cell? ⟨gb2, 2, none⟩ = some (.int .i64 (Awt : Int)) ∧ z.cell? ⟨gb2, 3, none⟩ = some (.int .i64 (k : Int)))) #[false, false, false, false, false, false, false, false, false, false, false, true, true] #[true, true, true, true, true, true, true, true, true, true, true, false, false] [11, 12] 40 11 (by kernel_rfl) (by kernel_rfl) (by kernel_rfl) (by rfl) ?_ (fun hHeld => ?_)
                · go_keep
                first
                  | (refine wpAnyH_take (i := 1) (v := ?_) at1 (by kernel_rfl) (by kernel_rfl) (by kernel_rfl) (fun _ _ _ h => h) (Or.inl ⟨by rfl, ?_⟩) (by assumption) ?_
                     rotate_left
                     · intro w hSw; (try dsimp only at hSw); go_simp; try with_reducible rfl)
                  | fail "take 1"
                try simp only [Act.put, List.setIfInBounds_toArray, List.set_cons_zero, List.set_cons_succ]
                first
                  | (refine wpAnyH_take (i := 2) (v := ?_) at2 (by kernel_rfl) (by kernel_rfl) (by kernel_rfl) (fun _ _ _ h => h) (Or.inl ⟨by rfl, ?_⟩) (by assumption) ?_
                     rotate_left
                     · intro w hSw; (try dsimp only at hSw); go_simp; try with_reducible rfl)
                  | fail "take 2"
                try simp only [Act.put, List.setIfInBounds_toArray, List.set_cons_zero, List.set_cons_succ]
                first
                  | (refine wpAnyH_take (i := 3) (v := ?_) at3 (by kernel_rfl) (by kernel_rfl) (by kernel_rfl) (fun _ _ _ h => h) (Or.inl ⟨by rfl, ?_⟩) (by assumption) ?_
                     rotate_left
                     · intro w hSw; (try dsimp only at hSw); go_simp; try with_reducible rfl)
                  | fail "take 3"
                try simp only [Act.put, List.setIfInBounds_toArray, List.set_cons_zero, List.set_cons_succ]
                first
                  | (refine wpAnyH_take (i := 5) (v := ?_) at5 (by kernel_rfl) (by kernel_rfl) (by kernel_rfl) (fun _ _ _ h => h) (Or.inl ⟨by rfl, ?_⟩) (by assumption) ?_
                     rotate_left
                     · intro w hSw; (try dsimp only at hSw); go_simp; try with_reducible rfl)
                  | fail "take 5"
                try simp only [Act.put, List.setIfInBounds_toArray, List.set_cons_zero, List.set_cons_succ]
                first
                  | (refine wpAnyH_take (i := 8) (v := ?_) at8 (by kernel_rfl) (by kernel_rfl) (by kernel_rfl) (fun _ _ _ h => h) (Or.inl ⟨by rfl, ?_⟩) (by assumption) ?_
                     rotate_left
                     · intro w hSw; (try dsimp only at hSw); go_simp; try with_reducible rfl)
                  | fail "take 8"
                try simp only [Act.put, List.setIfInBounds_toArray, List.set_cons_zero, List.set_cons_succ]
                first
                  | (refine wpAnyH_take (i := 9) (v := ?_) at9 (by kernel_rfl) (by kernel_rfl) (by kernel_rfl) (fun _ _ _ h => h) (Or.inl ⟨by rfl, ?_⟩) (by assumption) ?_
                     rotate_left
                     · intro w hSw; (try dsimp only at hSw); go_simp; try with_reducible rfl)
                  | fail "take 9"
                try simp only [Act.put, List.setIfInBounds_toArray, List.set_cons_zero, List.set_cons_succ]
                first
                  | (refine wpAnyH_take (i := 10) (v := ?_) at10 (by kernel_rfl) (by kernel_rfl) (by kernel_rfl) (fun _ _ _ h => h) (Or.inl ⟨by rfl, ?_⟩) (by assumption) ?_
                     rotate_left
                     · intro w hSw; (try dsimp only at hSw); go_simp; try with_reducible rfl)
                  | fail "take 10"
                try simp only [Act.put, List.setIfInBounds_toArray, List.set_cons_zero, List.set_cons_succ]
                refine wpAnyH_ready (rs := [0, 6]) (by kernel_rfl) (by simp) ?_
                refine AllReadyH.cons (i := 0) at0 (fun K hK => ?_) ?_
                · go_simp
                  generalize hz : World.drew (World.alloc wL (.cells #[] 67)) = y1
                  have hbn : Below (World.drew wL).heap.size (World.drew wL) y1 := by
                    rw [← hz]
                    first | exact (Below.refl _ _).alloc (Nat.le_refl _) _ | exact ((Below.refl _ _).alloc (Nat.le_refl _) _).drew
                  have hlt1 : wL.heap.size < y1.heap.size := by rw [← hz]; first | exact Nat.lt_of_lt_of_eq (Nat.lt_succ_self _) (by simp) | simp
                  have hm0 : Hid (World.ownsRow y1 wL.heap.size 67 4 (.slice (some ⟨wL.heap.size, 0, none⟩) 0 0) 0 []) := hidden (by rw [← hz]; exact World.ownsRow_made (World.drew wL) #[] 0 (Below.size ((Below.refl wL.heap.size wL).drew)) (by unfold maxLen; omega) rfl)
                  have kk1 : Hid (Below wL.heap.size wL y1) := Below.trans ((Below.refl wL.heap.size wL).drew) (hbn.mono (Below.size ((Below.refl wL.heap.size wL).drew)))
                  clear hz hbn
                  obtain ⟨hSn, -⟩ := box4f (box_below hAb4.out kk1.out)
                  refine hK.out _ _ ?_ (fun hNew => ?_)
                  · exact hSn
                  clear hK K hHeld
                  have hHeld := hNew
                  clear hNew
                  try simp only [List.setIfInBounds_toArray, List.set_cons_zero]
                  refine wpAnyH_ready (rs := [4, 6]) (by kernel_rfl) (by simp) ?_
                  refine AllReadyH.cons (i := 4) at4 (fun K hK => ?_) ?_
                  · refine step_appR arR rfl (.tmp 64) (.tmp 67) 58 rfl wL.heap.size 67 ia (.agg #[.int .i64 0, .int .i64 0, .int .i64 0, .int .i64 0]) 4 32 Try.underlying58 hia ha0 ha1 ha2 rfl rfl (by simp [Act.eval]) hm0.out (by simp [Act.eval]) (hsq1.out _ (kk1.out)) (by rw [hlt1q.out]; unfold maxLen; omega) (by rw [hlt1q.out]; omega) (Below.size (kk1.out)) ?_
                    intro v1 y2 hown1 hgrow1 _
                    rw [hlt1q.out] at hown1
                    have kk2 : Hid (Below wL.heap.size wL y2) := Below.grown (kk1.out) hgrow1 (Below.size (kk1.out)) (fun j hj => (hm0.out.lt j hj).1)
                    replace hown1 := hidden hown1
                    clear hgrow1 hm0
                    obtain ⟨hSn, -⟩ := box4f (box_below hAb4.out kk2.out)
                    refine hK.out _ _ ?_ (fun hNew => ?_)
                    · exact hSn
                    clear hK K hHeld
                    have hHeld := hNew
                    clear hNew
                    try simp only [Act.put, List.setIfInBounds_toArray, List.set_cons_zero, List.set_cons_succ]
                    refine wpAnyH_ready (rs := [6]) (by kernel_rfl) (by simp) ?_
                    refine AllReadyH.cons (i := 6) at6 (fun K hK => ?_) ?_
                    · go_simp
                      generalize hz : World.alloc y2 (.cells #[.int .i64 (Alb : Int), .int .i64 (vt : Int), .int .i64 (Awt : Int), .int .i64 (k : Int)] 67) = y3
                      have hbn : Below y2.heap.size y2 y3 := by
                        rw [← hz]
                        first | exact (Below.refl _ _).alloc (Nat.le_refl _) _ | exact ((Below.refl _ _).alloc (Nat.le_refl _) _).drew
                      have hlt3 : y2.heap.size < y3.heap.size := by rw [← hz]; first | exact Nat.lt_of_lt_of_eq (Nat.lt_succ_self _) (by simp) | simp
                      have hone : Hid (SlR arR y3 (.slice (some ⟨y2.heap.size, 0, none⟩) 1 1) [⟨Alb, vt, Awt, k⟩]) := hidden (by rw [← hz]; exact SlR.oneR (R := arR) y2 ⟨Alb, vt, Awt, k⟩ 67)
                      replace hown1 := hidden (owns_keep hown1.out hbn)
                      have kk3 : Hid (Below wL.heap.size wL y3) := Below.trans (kk2.out) (hbn.mono (Below.size (kk2.out)))
                      clear hz hbn
                      obtain ⟨hSn, -⟩ := box4f (box_below hAb4.out kk3.out)
                      refine hK.out _ _ ?_ (fun hNew => ?_)
                      · exact hSn
                      clear hK K hHeld
                      have hHeld := hNew
                      clear hNew
                      try simp only [List.setIfInBounds_toArray, List.set_cons_zero, List.set_cons_succ]
                      refine wpAnyH_ready (rs := [7]) (by kernel_rfl) (by simp) ?_
                      refine AllReadyH.cons (i := 7) at7 (fun K hK => ?_) ?_
                      · refine step_appR arR rfl (.tmp 68) (.tmp 70) 58 rfl wL.heap.size 67 ia (.agg #[.int .i64 0, .int .i64 0, .int .i64 0, .int .i64 0]) 4 32 Try.underlying58 hia ha0 ha1 ha2 rfl rfl (by simp [Act.eval]) hown1.out (by simp [Act.eval]) hone.out (by show _ + 1 ≤ _; unfold maxLen; omega) (by show (_ + 1) * 32 ≤ _; omega) (Below.size (kk3.out)) ?_
                        intro v2 y4 hown2 hgrow2 _
                        have kk4 : Hid (Below wL.heap.size wL y4) := Below.grown (kk3.out) hgrow2 (Below.size (kk3.out)) (fun j hj => (hown1.out.lt j hj).1)
                        replace hown2 := hidden hown2
                        clear hgrow2 hown1 hone
                        obtain ⟨hSn, -⟩ := box4f (box_below hAb4.out kk4.out)
                        refine hK.out _ _ ?_ (fun hNew => ?_)
                        · exact hSn
                        clear hK K hHeld
                        have hHeld := hNew
                        clear hNew
                        try simp only [Act.put, List.setIfInBounds_toArray, List.set_cons_zero, List.set_cons_succ]
                        refine tail_list (is := [11, 12]) (l := _) (by kernel_rfl) (by kernel_rfl) (by kernel_rfl) rfl ?_
                        simp only [List.filterMap_cons, List.filterMap_nil, at11, at12]
                        show wpList _ _ _ (_ :: _) _ _
                        go_wp2_with (at_builtin; go_loud (refine wpList_appR _ arR rfl _ _ 58 rfl wL.heap.size 67 ia (.agg #[.int .i64 0, .int .i64 0, .int .i64 0, .int .i64 0]) 4 32 Try.underlying58 hia ha0 ha1 ha2 rfl rfl rfl hown2.out rfl (by first | exact hsq2.out _ kk4.out | simpa using hsq2.out _ kk4.out) (by show _ + 1 + _ ≤ _; rw [hlt2q.out]; unfold maxLen; omega) (by show (_ + 1 + _) * 32 ≤ _; rw [hlt2q.out]; omega) (Below.size kk4.out) ?_); intro v3 y5 hown3 hgrow3)
                        rw [hlt2q.out] at hown3
                        have kk5 : Hid (Below wL.heap.size wL y5) := Below.grown kk4.out hgrow3 (Below.size kk4.out) (fun j hj => (hown2.out.lt j hj).1)
                        rw [← hA.out] at hown3
                        obtain ⟨g9, c9, rfl, hrow9⟩ := row_put (A := arcOf L' g.es false) (Q := Q) (k := k) ht rfl hown3
                        have hln : Hid ((Q.take t ++ k :: Q.drop t).length = Q.length + 1) := hidden (by simp; omega)
                        have hR9 : Hid (RW w g L' false ((vf : Nat) : Int) (.slice a N c) (.slice (some ⟨b5, o5, none⟩) m d) (some ⟨lg, lo, none⟩) lc g9 c9 (k + 1) (Q.take t ++ k :: Q.drop t) y5) := by
                          have h5 := hR4.out.step kk5.out
                          refine hidden ⟨h5.box, h5.lab, by rw [hln.out]; exact hrow9, hput2.out, h5.below⟩
                        clear hown3 hgrow3 hown2 hrow9 hR4 hAb4 hSn hput2
                        go_wp2
                        go_roundw
                        case rel => exact ⟨k + 1, g9, c9, _, by rw [hln.out], by omega, by go_num, hR9⟩
                        case measure => simp [intOf]; omega
                      exact AllReadyH.nil
                    exact AllReadyH.nil
                  refine AllReadyH.cons (i := 6) at6 (fun K hK => ?_) ?_
                  · go_simp
                    generalize hz : World.alloc y1 (.cells #[.int .i64 (Alb : Int), .int .i64 (vt : Int), .int .i64 (Awt : Int), .int .i64 (k : Int)] 67) = y2
                    have hbn : Below y1.heap.size y1 y2 := by
                      rw [← hz]
                      first | exact (Below.refl _ _).alloc (Nat.le_refl _) _ | exact ((Below.refl _ _).alloc (Nat.le_refl _) _).drew
                    have hlt2 : y1.heap.size < y2.heap.size := by rw [← hz]; first | exact Nat.lt_of_lt_of_eq (Nat.lt_succ_self _) (by simp) | simp
                    have hone : Hid (SlR arR y2 (.slice (some ⟨y1.heap.size, 0, none⟩) 1 1) [⟨Alb, vt, Awt, k⟩]) := hidden (by rw [← hz]; exact SlR.oneR (R := arR) y1 ⟨Alb, vt, Awt, k⟩ 67)
                    replace hm0 := hidden (owns_keep hm0.out hbn)
                    have kk2 : Hid (Below wL.heap.size wL y2) := Below.trans (kk1.out) (hbn.mono (Below.size (kk1.out)))
                    clear hz hbn
                    obtain ⟨hSn, -⟩ := box4f (box_below hAb4.out kk2.out)
                    refine hK.out _ _ ?_ (fun hNew => ?_)
                    · exact hSn
                    clear hK K hHeld
                    have hHeld := hNew
                    clear hNew
                    try simp only [List.setIfInBounds_toArray, List.set_cons_zero, List.set_cons_succ]
                    refine wpAnyH_ready (rs := [4]) (by kernel_rfl) (by simp) ?_
                    refine AllReadyH.cons (i := 4) at4 (fun K hK => ?_) ?_
                    · refine step_appR arR rfl (.tmp 64) (.tmp 67) 58 rfl wL.heap.size 67 ia (.agg #[.int .i64 0, .int .i64 0, .int .i64 0, .int .i64 0]) 4 32 Try.underlying58 hia ha0 ha1 ha2 rfl rfl (by simp [Act.eval]) hm0.out (by simp [Act.eval]) (hsq1.out _ (kk2.out)) (by rw [hlt1q.out]; unfold maxLen; omega) (by rw [hlt1q.out]; omega) (Below.size (kk2.out)) ?_
                      intro v1 y3 hown1 hgrow1 _
                      rw [hlt1q.out] at hown1
                      have kk3 : Hid (Below wL.heap.size wL y3) := Below.grown (kk2.out) hgrow1 (Below.size (kk2.out)) (fun j hj => (hm0.out.lt j hj).1)
                      replace hone := hidden (hone.out.grownR hgrow1 (fun e => by simp only [Value.ownBlock, Option.some.injEq] at e; omega))
                      replace hown1 := hidden hown1
                      clear hgrow1 hm0
                      obtain ⟨hSn, -⟩ := box4f (box_below hAb4.out kk3.out)
                      refine hK.out _ _ ?_ (fun hNew => ?_)
                      · exact hSn
                      clear hK K hHeld
                      have hHeld := hNew
                      clear hNew
                      try simp only [Act.put, List.setIfInBounds_toArray, List.set_cons_zero, List.set_cons_succ]
                      refine wpAnyH_ready (rs := [7]) (by kernel_rfl) (by simp) ?_
                      refine AllReadyH.cons (i := 7) at7 (fun K hK => ?_) ?_
                      · refine step_appR arR rfl (.tmp 68) (.tmp 70) 58 rfl wL.heap.size 67 ia (.agg #[.int .i64 0, .int .i64 0, .int .i64 0, .int .i64 0]) 4 32 Try.underlying58 hia ha0 ha1 ha2 rfl rfl (by simp [Act.eval]) hown1.out (by simp [Act.eval]) hone.out (by show _ + 1 ≤ _; unfold maxLen; omega) (by show (_ + 1) * 32 ≤ _; omega) (Below.size (kk3.out)) ?_
                        intro v2 y4 hown2 hgrow2 _
                        have kk4 : Hid (Below wL.heap.size wL y4) := Below.grown (kk3.out) hgrow2 (Below.size (kk3.out)) (fun j hj => (hown1.out.lt j hj).1)
                        replace hown2 := hidden hown2
                        clear hgrow2 hown1 hone
                        obtain ⟨hSn, -⟩ := box4f (box_below hAb4.out kk4.out)
                        refine hK.out _ _ ?_ (fun hNew => ?_)
                        · exact hSn
                        clear hK K hHeld
                        have hHeld := hNew
                        clear hNew
                        try simp only [Act.put, List.setIfInBounds_toArray, List.set_cons_zero, List.set_cons_succ]
                        refine tail_list (is := [11, 12]) (l := _) (by kernel_rfl) (by kernel_rfl) (by kernel_rfl) rfl ?_
                        simp only [List.filterMap_cons, List.filterMap_nil, at11, at12]
                        show wpList _ _ _ (_ :: _) _ _
                        go_wp2_with (at_builtin; go_loud (refine wpList_appR _ arR rfl _ _ 58 rfl wL.heap.size 67 ia (.agg #[.int .i64 0, .int .i64 0, .int .i64 0, .int .i64 0]) 4 32 Try.underlying58 hia ha0 ha1 ha2 rfl rfl rfl hown2.out rfl (by first | exact hsq2.out _ kk4.out | simpa using hsq2.out _ kk4.out) (by show _ + 1 + _ ≤ _; rw [hlt2q.out]; unfold maxLen; omega) (by show (_ + 1 + _) * 32 ≤ _; rw [hlt2q.out]; omega) (Below.size kk4.out) ?_); intro v3 y5 hown3 hgrow3)
                        rw [hlt2q.out] at hown3
                        have kk5 : Hid (Below wL.heap.size wL y5) := Below.grown kk4.out hgrow3 (Below.size kk4.out) (fun j hj => (hown2.out.lt j hj).1)
                        rw [← hA.out] at hown3
                        obtain ⟨g9, c9, rfl, hrow9⟩ := row_put (A := arcOf L' g.es false) (Q := Q) (k := k) ht rfl hown3
                        have hln : Hid ((Q.take t ++ k :: Q.drop t).length = Q.length + 1) := hidden (by simp; omega)
                        have hR9 : Hid (RW w g L' false ((vf : Nat) : Int) (.slice a N c) (.slice (some ⟨b5, o5, none⟩) m d) (some ⟨lg, lo, none⟩) lc g9 c9 (k + 1) (Q.take t ++ k :: Q.drop t) y5) := by
                          have h5 := hR4.out.step kk5.out
                          refine hidden ⟨h5.box, h5.lab, by rw [hln.out]; exact hrow9, hput2.out, h5.below⟩
                        clear hown3 hgrow3 hown2 hrow9 hR4 hAb4 hSn hput2
                        go_wp2
                        go_roundw
                        case rel => exact ⟨k + 1, g9, c9, _, by rw [hln.out], by omega, by go_num, hR9⟩
                        case measure => simp [intOf]; omega
                      exact AllReadyH.nil
                    exact AllReadyH.nil
                  exact AllReadyH.nil
                refine AllReadyH.cons (i := 6) at6 (fun K hK => ?_) ?_
                · go_simp
                  generalize hz : World.drew (World.alloc wL (.cells #[.int .i64 (Alb : Int), .int .i64 (vt : Int), .int .i64 (Awt : Int), .int .i64 (k : Int)] 67)) = y1
                  have hbn : Below (World.drew wL).heap.size (World.drew wL) y1 := by
                    rw [← hz]
                    first | exact (Below.refl _ _).alloc (Nat.le_refl _) _ | exact ((Below.refl _ _).alloc (Nat.le_refl _) _).drew
                  have hlt1 : wL.heap.size < y1.heap.size := by rw [← hz]; first | exact Nat.lt_of_lt_of_eq (Nat.lt_succ_self _) (by simp) | simp
                  have hone : Hid (SlR arR y1 (.slice (some ⟨wL.heap.size, 0, none⟩) 1 1) [⟨Alb, vt, Awt, k⟩]) := hidden (by rw [← hz]; exact SlR.oneR (R := arR) (World.drew wL) ⟨Alb, vt, Awt, k⟩ 67)
                  have kk1 : Hid (Below wL.heap.size wL y1) := Below.trans ((Below.refl wL.heap.size wL).drew) (hbn.mono (Below.size ((Below.refl wL.heap.size wL).drew)))
                  clear hz hbn
                  obtain ⟨hSn, -⟩ := box4f (box_below hAb4.out kk1.out)
                  refine hK.out _ _ ?_ (fun hNew => ?_)
                  · exact hSn
                  clear hK K hHeld
                  have hHeld := hNew
                  clear hNew
                  try simp only [List.setIfInBounds_toArray, List.set_cons_zero, List.set_cons_succ]
                  refine wpAnyH_ready (rs := [0]) (by kernel_rfl) (by simp) ?_
                  refine AllReadyH.cons (i := 0) at0 (fun K hK => ?_) ?_
                  · go_simp
                    generalize hz : World.alloc y1 (.cells #[] 67) = y2
                    have hbn : Below y1.heap.size y1 y2 := by
                      rw [← hz]
                      first | exact (Below.refl _ _).alloc (Nat.le_refl _) _ | exact ((Below.refl _ _).alloc (Nat.le_refl _) _).drew
                    have hlt2 : y1.heap.size < y2.heap.size := by rw [← hz]; first | exact Nat.lt_of_lt_of_eq (Nat.lt_succ_self _) (by simp) | simp
                    have hm0 : Hid (World.ownsRow y2 wL.heap.size 67 4 (.slice (some ⟨y1.heap.size, 0, none⟩) 0 0) 0 []) := hidden (by rw [← hz]; exact World.ownsRow_made y1 #[] 0 (Below.size (kk1.out)) (by unfold maxLen; omega) rfl)
                    replace hone := hidden (hone.out.below hbn)
                    have kk2 : Hid (Below wL.heap.size wL y2) := Below.trans (kk1.out) (hbn.mono (Below.size (kk1.out)))
                    clear hz hbn
                    obtain ⟨hSn, -⟩ := box4f (box_below hAb4.out kk2.out)
                    refine hK.out _ _ ?_ (fun hNew => ?_)
                    · exact hSn
                    clear hK K hHeld
                    have hHeld := hNew
                    clear hNew
                    try simp only [List.setIfInBounds_toArray, List.set_cons_zero]
                    refine wpAnyH_ready (rs := [4]) (by kernel_rfl) (by simp) ?_
                    refine AllReadyH.cons (i := 4) at4 (fun K hK => ?_) ?_
                    · refine step_appR arR rfl (.tmp 64) (.tmp 67) 58 rfl wL.heap.size 67 ia (.agg #[.int .i64 0, .int .i64 0, .int .i64 0, .int .i64 0]) 4 32 Try.underlying58 hia ha0 ha1 ha2 rfl rfl (by simp [Act.eval]) hm0.out (by simp [Act.eval]) (hsq1.out _ (kk2.out)) (by rw [hlt1q.out]; unfold maxLen; omega) (by rw [hlt1q.out]; omega) (Below.size (kk2.out)) ?_
                      intro v1 y3 hown1 hgrow1 _
                      rw [hlt1q.out] at hown1
                      have kk3 : Hid (Below wL.heap.size wL y3) := Below.grown (kk2.out) hgrow1 (Below.size (kk2.out)) (fun j hj => (hm0.out.lt j hj).1)
                      replace hone := hidden (hone.out.grownR hgrow1 (fun e => by simp only [Value.ownBlock, Option.some.injEq] at e; omega))
                      replace hown1 := hidden hown1
                      clear hgrow1 hm0
                      obtain ⟨hSn, -⟩ := box4f (box_below hAb4.out kk3.out)
                      refine hK.out _ _ ?_ (fun hNew => ?_)
                      · exact hSn
                      clear hK K hHeld
                      have hHeld := hNew
                      clear hNew
                      try simp only [Act.put, List.setIfInBounds_toArray, List.set_cons_zero, List.set_cons_succ]
                      refine wpAnyH_ready (rs := [7]) (by kernel_rfl) (by simp) ?_
                      refine AllReadyH.cons (i := 7) at7 (fun K hK => ?_) ?_
                      · refine step_appR arR rfl (.tmp 68) (.tmp 70) 58 rfl wL.heap.size 67 ia (.agg #[.int .i64 0, .int .i64 0, .int .i64 0, .int .i64 0]) 4 32 Try.underlying58 hia ha0 ha1 ha2 rfl rfl (by simp [Act.eval]) hown1.out (by simp [Act.eval]) hone.out (by show _ + 1 ≤ _; unfold maxLen; omega) (by show (_ + 1) * 32 ≤ _; omega) (Below.size (kk3.out)) ?_
                        intro v2 y4 hown2 hgrow2 _
                        have kk4 : Hid (Below wL.heap.size wL y4) := Below.grown (kk3.out) hgrow2 (Below.size (kk3.out)) (fun j hj => (hown1.out.lt j hj).1)
                        replace hown2 := hidden hown2
                        clear hgrow2 hown1 hone
                        obtain ⟨hSn, -⟩ := box4f (box_below hAb4.out kk4.out)
                        refine hK.out _ _ ?_ (fun hNew => ?_)
                        · exact hSn
                        clear hK K hHeld
                        have hHeld := hNew
                        clear hNew
                        try simp only [Act.put, List.setIfInBounds_toArray, List.set_cons_zero, List.set_cons_succ]
                        refine tail_list (is := [11, 12]) (l := _) (by kernel_rfl) (by kernel_rfl) (by kernel_rfl) rfl ?_
                        simp only [List.filterMap_cons, List.filterMap_nil, at11, at12]
                        show wpList _ _ _ (_ :: _) _ _
                        go_wp2_with (at_builtin; go_loud (refine wpList_appR _ arR rfl _ _ 58 rfl wL.heap.size 67 ia (.agg #[.int .i64 0, .int .i64 0, .int .i64 0, .int .i64 0]) 4 32 Try.underlying58 hia ha0 ha1 ha2 rfl rfl rfl hown2.out rfl (by first | exact hsq2.out _ kk4.out | simpa using hsq2.out _ kk4.out) (by show _ + 1 + _ ≤ _; rw [hlt2q.out]; unfold maxLen; omega) (by show (_ + 1 + _) * 32 ≤ _; rw [hlt2q.out]; omega) (Below.size kk4.out) ?_); intro v3 y5 hown3 hgrow3)
                        rw [hlt2q.out] at hown3
                        have kk5 : Hid (Below wL.heap.size wL y5) := Below.grown kk4.out hgrow3 (Below.size kk4.out) (fun j hj => (hown2.out.lt j hj).1)
                        rw [← hA.out] at hown3
                        obtain ⟨g9, c9, rfl, hrow9⟩ := row_put (A := arcOf L' g.es false) (Q := Q) (k := k) ht rfl hown3
                        have hln : Hid ((Q.take t ++ k :: Q.drop t).length = Q.length + 1) := hidden (by simp; omega)
                        have hR9 : Hid (RW w g L' false ((vf : Nat) : Int) (.slice a N c) (.slice (some ⟨b5, o5, none⟩) m d) (some ⟨lg, lo, none⟩) lc g9 c9 (k + 1) (Q.take t ++ k :: Q.drop t) y5) := by
                          have h5 := hR4.out.step kk5.out
                          refine hidden ⟨h5.box, h5.lab, by rw [hln.out]; exact hrow9, hput2.out, h5.below⟩
                        clear hown3 hgrow3 hown2 hrow9 hR4 hAb4 hSn hput2
                        go_wp2
                        go_roundw
                        case rel => exact ⟨k + 1, g9, c9, _, by rw [hln.out], by omega, by go_num, hR9⟩
                        case measure => simp [intOf]; omega
                      exact AllReadyH.nil
                    exact AllReadyH.nil
                  exact AllReadyH.nil
                exact AllReadyH.nil
              · obtain ⟨r, hmm⟩ : ∃ r, t - 1 = r := ⟨_, rfl⟩
                have hrQ : r < Q.length := by omega
                have hgt : (t : Int) > 0 := by omega
                have hgt2 : 0 < t := by omega
                have hgt3 : (0 : Int) < (t : Int) := by omega
                have ht9 : (t : Int) ≤ 1000 := by omega
                have htq : (t : Int) - 1 < (Q.length : Int) := by omega
                have hmemr : Q.getD r 0 < k := by
                  have h1 : Q.getD r 0 ∈ Q := by rw [show Q.getD r 0 = Q[r] by simp [List.getD, hrQ]]; exact List.getElem_mem _
                  exact ((hR.out.ord.mem _).1 h1).1
                have hcell : ∀ j u, (arR.enc (arcOf L' g.es false (Q.getD r 0)))[j]? = some u → wr.cell? ⟨gq, r * 4 + j, none⟩ = some u := fun j u hu => by
                  have hj : j < 4 := by have := (List.getElem?_eq_some_iff.1 hu).1; rw [arR.len] at this; exact this
                  rw [hR.out.row.cellAt _ (by omega)]
                  have h1 := Rec.flat_at (R := arR) (Q.map (arcOf L' g.es false)) r j (by rw [List.length_map]; exact hrQ) hj
                  refine (show _ = _ from h1).trans ?_
                  rw [show (Q.map (arcOf L' g.es false)).getD r arR.dflt = arcOf L' g.es false (Q.getD r 0) by simp [List.getD, hrQ]]
                  exact hu
                have hkl := hidden (hke.out k (Q.getD r 0) hkE.out (by have := hkE.out; omega))
                rw [hA.out] at hkl
                have hstep : Hid (KeyLt (keyOf (keysA (arcsL L' g.es false))) k (Q.getD r 0) → ∀ j, r ≤ j → j < Q.length → KeyLt (keyOf (keysA (arcsL L' g.es false))) k (Q.getD j 0)) := hidden fun h j h1 h2 => by
                  rcases Nat.lt_or_ge r j with h3 | h3
                  · exact hup.out j (by omega) h2
                  · obtain rfl : j = r := by omega
                    exact h
                have hput : Hid (¬ KeyLt (keyOf (keysA (arcsL L' g.es false))) k (Q.getD r 0) → RowQ (keyOf (keysA (arcsL L' g.es false))) (whoOf g.es false) ((vf : Nat) : Int) (k + 1) (Q.take t ++ k :: Q.drop t)) := hidden fun h => hR.out.ord.put (by rw [hD.out]) ht hup.out (fun _ => by rw [show t - 1 = r by omega]; exact h)
                generalize arcOf L' g.es false (Q.getD r 0) = y at *
                obtain ⟨yl, yt, yw, ye⟩ := y
                have c0 := hcell 0 _ rfl
                have c1 := hcell 1 _ rfl
                have c2 := hcell 2 _ rfl
                have c3 := hcell 3 _ rfl
                rw [Nat.add_zero] at c0
                simp only at c0 c1 c2 c3
                have hkk : Keeps wr (eightA gb2 gq (r * 4) ⟨Alb, vt, Awt, k⟩ ⟨yl, yt, yw, ye⟩) wr.drew := by
                  refine Keeps.drew ⟨Below.refl _ _, fun p hp => ?_⟩
                  simp only [eightA, List.mem_cons, List.not_mem_nil, or_false] at hp
                  rcases hp with rfl | rfl | rfl | rfl | rfl | rfl | rfl | rfl <;> assumption
                have hcall : ∀ z : In (Keeps wr (eightA gb2 gq (r * 4) ⟨Alb, vt, Awt, k⟩ ⟨yl, yt, yw, ye⟩)), Calls Try.prog 59 #[.agg #[.int .i64 (Alb : Int), .int .i64 (vt : Int), .int .i64 (Awt : Int), .int .i64 (k : Int)], .agg #[.int .i64 (yl : Int), .int .i64 (yt : Int), .int .i64 (yw : Int), .int .i64 (ye : Int)]] z.w fun e w'' => e = .returned (.bool (ltA ⟨Alb, vt, Awt, k⟩ ⟨yl, yt, yw, ye⟩)) ∧ ∃ u : In (Keeps wr (eightA gb2 gq (r * 4) ⟨Alb, vt, Awt, k⟩ ⟨yl, yt, yw, ye⟩)), w'' = u.w := fun z => Keeps.calls (fun w => less_c ⟨Alb, vt, Awt, k⟩ ⟨yl, yt, yw, ye⟩ w) z
                rw [← ltA_iff] at hkl
                generalize ltA ⟨Alb, vt, Awt, k⟩ ⟨yl, yt, yw, ye⟩ = bb at *
                have f0 : ∀ z : In (Keeps wr (eightA gb2 gq (r * 4) ⟨Alb, vt, Awt, k⟩ ⟨yl, yt, yw, ye⟩)), _ := Keeps.at 0 rfl
                have f1 : ∀ z : In (Keeps wr (eightA gb2 gq (r * 4) ⟨Alb, vt, Awt, k⟩ ⟨yl, yt, yw, ye⟩)), _ := Keeps.at 1 rfl
                have f2 : ∀ z : In (Keeps wr (eightA gb2 gq (r * 4) ⟨Alb, vt, Awt, k⟩ ⟨yl, yt, yw, ye⟩)), _ := Keeps.at 2 rfl
                have f3 : ∀ z : In (Keeps wr (eightA gb2 gq (r * 4) ⟨Alb, vt, Awt, k⟩ ⟨yl, yt, yw, ye⟩)), _ := Keeps.at 3 rfl
                have f4 : ∀ z : In (Keeps wr (eightA gb2 gq (r * 4) ⟨Alb, vt, Awt, k⟩ ⟨yl, yt, yw, ye⟩)), _ := Keeps.at 4 rfl
                have f5 : ∀ z : In (Keeps wr (eightA gb2 gq (r * 4) ⟨Alb, vt, Awt, k⟩ ⟨yl, yt, yw, ye⟩)), _ := Keeps.at 5 rfl
                have f6 : ∀ z : In (Keeps wr (eightA gb2 gq (r * 4) ⟨Alb, vt, Awt, k⟩ ⟨yl, yt, yw, ye⟩)), _ := Keeps.at 6 rfl
                have f7 : ∀ z : In (Keeps wr (eightA gb2 gq (r * 4) ⟨Alb, vt, Awt, k⟩ ⟨yl, yt, yw, ye⟩)), _ := Keeps.at 7 rfl
                dsimp only at f0 f1 f2 f3 f4 f5 f6 f7
                generalize eightA gb2 gq (r * 4) ⟨Alb, vt, Awt, k⟩ ⟨yl, yt, yw, ye⟩ = F at *
                have hmm9 := hidden hmm
                replace hrQ := hidden hrQ
                replace ht0 := hidden ht0
                clear hcell hup hmemr p0 p1 p2 p3 c0 c1 c2 c3
                cases bb
                · have hput2 := hidden (hput.out (fun h => by have := hkl.out.1 h; cases this))
                  clear hput hkl hstep
                  rename World => wq
                  go_wp2_with fail
                  refine wp_region_later (Keeps wq F) (by kernel_rfl) (by kernel_rfl) hkk (fun hne => ?_)
                  repeat (go_big_quiet_step (exact hcall _))
                  refine wpQuiet_nil ?_
                  intro wL hL
                  have hR4 := hidden (hR.out.step hL.1)
                  have hAb4 := hidden (box_below hAb.out hL.1)
                  clear f0 f1 f2 f3 f4 f5 f6 f7 hkk hcall hL hR hAb
                  clear hgt hgt2 hgt3 ht9 htq hmm
                  go_wp2_with fail
                  have hsl4 := slR_of_owns (R := arR) (ps := Q.map (arcOf L' g.es false)) (v := .slice (some ⟨gq, 0, none⟩) Q.length cq) (by rw [List.length_map]; exact hR4.out.row)
                  have hroom : Q.length ≤ cq := by
                    obtain ⟨_, _, h1, h2, _⟩ := id hsl4
                    simp only [Value.slice.injEq, List.length_map] at h1 h2
                    omega
                  have hsq1 : Hid (∀ z, Below wL.heap.size wL z → SlR arR z (.slice (some ⟨gq, 0, none⟩) t cq) ((Q.map (arcOf L' g.es false)).take t)) := hidden fun z hz => (hsl4.below hz).to' t ht
                  have hsq2 : Hid (∀ z, Below wL.heap.size wL z → SlR arR z (.slice (if cq = t then some ⟨gq, 0, none⟩ else some ⟨gq, t * 4, none⟩) (Q.length - t) (cq - t)) ((Q.map (arcOf L' g.es false)).drop t)) := hidden fun z hz => by
                    have h := (hsl4.below hz).from' t ht
                    rw [Nat.zero_add] at h
                    exact h
                  have hlt1q : Hid (((Q.map (arcOf L' g.es false)).take t).length = t) := hidden (by rw [List.length_take, List.length_map]; omega)
                  have hlt2q : Hid (((Q.map (arcOf L' g.es false)).drop t).length = Q.length - t) := hidden (by rw [List.length_drop, List.length_map])
                  have htc : (t : Int) ≤ (cq : Int) := by omega
                  have htq9 : (t : Int) ≤ (Q.length : Int) := by omega
                  have hqc : (Q.length : Int) ≤ (cq : Int) := by omega
                  obtain ⟨hSn, -⟩ := box4f hAb4.out
                  clear hsl4
                  refine wp_region_parts (S := (fun z => z.cell? ⟨gb2, 0, none⟩ = some (.int .i64 (Alb : Int)) ∧ z.cell? ⟨gb2, 1, none⟩ = some (.int .i64 (vt : Int)) ∧ z.cell? ⟨gb2, 2, none⟩ = some (.int .i64 (Awt : Int)) ∧ z.cell? ⟨gb2, 3, none⟩ = some (.int .i64 (k : Int)))) #[false, false, false, false, false, false, false, false, false, false, false, true, true] #[true, true, true, true, true, true, true, true, true, true, true, false, false] [11, 12] 40 11 (by kernel_rfl) (by kernel_rfl) (by kernel_rfl) (by rfl) ?_ (fun hHeld => ?_)
                  · go_keep
                  first
                    | (refine wpAnyH_take (i := 1) (v := ?_) at1 (by kernel_rfl) (by kernel_rfl) (by kernel_rfl) (fun _ _ _ h => h) (Or.inl ⟨by rfl, ?_⟩) (by assumption) ?_
                       rotate_left
                       · intro w hSw; (try dsimp only at hSw); go_simp; try with_reducible rfl)
                    | fail "take 1"
                  try simp only [Act.put, List.setIfInBounds_toArray, List.set_cons_zero, List.set_cons_succ]
                  first
                    | (refine wpAnyH_take (i := 2) (v := ?_) at2 (by kernel_rfl) (by kernel_rfl) (by kernel_rfl) (fun _ _ _ h => h) (Or.inl ⟨by rfl, ?_⟩) (by assumption) ?_
                       rotate_left
                       · intro w hSw; (try dsimp only at hSw); go_simp; try with_reducible rfl)
                    | fail "take 2"
                  try simp only [Act.put, List.setIfInBounds_toArray, List.set_cons_zero, List.set_cons_succ]
                  first
                    | (refine wpAnyH_take (i := 3) (v := ?_) at3 (by kernel_rfl) (by kernel_rfl) (by kernel_rfl) (fun _ _ _ h => h) (Or.inl ⟨by rfl, ?_⟩) (by assumption) ?_
                       rotate_left
                       · intro w hSw; (try dsimp only at hSw); go_simp; try with_reducible rfl)
                    | fail "take 3"
                  try simp only [Act.put, List.setIfInBounds_toArray, List.set_cons_zero, List.set_cons_succ]
                  first
                    | (refine wpAnyH_take (i := 5) (v := ?_) at5 (by kernel_rfl) (by kernel_rfl) (by kernel_rfl) (fun _ _ _ h => h) (Or.inl ⟨by rfl, ?_⟩) (by assumption) ?_
                       rotate_left
                       · intro w hSw; (try dsimp only at hSw); go_simp; try with_reducible rfl)
                    | fail "take 5"
                  try simp only [Act.put, List.setIfInBounds_toArray, List.set_cons_zero, List.set_cons_succ]
                  first
                    | (refine wpAnyH_take (i := 8) (v := ?_) at8 (by kernel_rfl) (by kernel_rfl) (by kernel_rfl) (fun _ _ _ h => h) (Or.inl ⟨by rfl, ?_⟩) (by assumption) ?_
                       rotate_left
                       · intro w hSw; (try dsimp only at hSw); go_simp; try with_reducible rfl)
                    | fail "take 8"
                  try simp only [Act.put, List.setIfInBounds_toArray, List.set_cons_zero, List.set_cons_succ]
                  first
                    | (refine wpAnyH_take (i := 9) (v := ?_) at9 (by kernel_rfl) (by kernel_rfl) (by kernel_rfl) (fun _ _ _ h => h) (Or.inl ⟨by rfl, ?_⟩) (by assumption) ?_
                       rotate_left
                       · intro w hSw; (try dsimp only at hSw); go_simp; try with_reducible rfl)
                    | fail "take 9"
                  try simp only [Act.put, List.setIfInBounds_toArray, List.set_cons_zero, List.set_cons_succ]
                  first
                    | (refine wpAnyH_take (i := 10) (v := ?_) at10 (by kernel_rfl) (by kernel_rfl) (by kernel_rfl) (fun _ _ _ h => h) (Or.inl ⟨by rfl, ?_⟩) (by assumption) ?_
                       rotate_left
                       · intro w hSw; (try dsimp only at hSw); go_simp; try with_reducible rfl)
                    | fail "take 10"
                  try simp only [Act.put, List.setIfInBounds_toArray, List.set_cons_zero, List.set_cons_succ]
                  refine wpAnyH_ready (rs := [0, 6]) (by kernel_rfl) (by simp) ?_
                  refine AllReadyH.cons (i := 0) at0 (fun K hK => ?_) ?_
                  · go_simp
                    generalize hz : World.drew (World.alloc wL (.cells #[] 67)) = y1
                    have hbn : Below (World.drew wL).heap.size (World.drew wL) y1 := by
                      rw [← hz]
                      first | exact (Below.refl _ _).alloc (Nat.le_refl _) _ | exact ((Below.refl _ _).alloc (Nat.le_refl _) _).drew
                    have hlt1 : wL.heap.size < y1.heap.size := by rw [← hz]; first | exact Nat.lt_of_lt_of_eq (Nat.lt_succ_self _) (by simp) | simp
                    have hm0 : Hid (World.ownsRow y1 wL.heap.size 67 4 (.slice (some ⟨wL.heap.size, 0, none⟩) 0 0) 0 []) := hidden (by rw [← hz]; exact World.ownsRow_made (World.drew wL) #[] 0 (Below.size ((Below.refl wL.heap.size wL).drew)) (by unfold maxLen; omega) rfl)
                    have kk1 : Hid (Below wL.heap.size wL y1) := Below.trans ((Below.refl wL.heap.size wL).drew) (hbn.mono (Below.size ((Below.refl wL.heap.size wL).drew)))
                    clear hz hbn
                    obtain ⟨hSn, -⟩ := box4f (box_below hAb4.out kk1.out)
                    refine hK.out _ _ ?_ (fun hNew => ?_)
                    · exact hSn
                    clear hK K hHeld
                    have hHeld := hNew
                    clear hNew
                    try simp only [List.setIfInBounds_toArray, List.set_cons_zero]
                    refine wpAnyH_ready (rs := [4, 6]) (by kernel_rfl) (by simp) ?_
                    refine AllReadyH.cons (i := 4) at4 (fun K hK => ?_) ?_
                    · refine step_appR arR rfl (.tmp 64) (.tmp 67) 58 rfl wL.heap.size 67 ia (.agg #[.int .i64 0, .int .i64 0, .int .i64 0, .int .i64 0]) 4 32 Try.underlying58 hia ha0 ha1 ha2 rfl rfl (by simp [Act.eval]) hm0.out (by simp [Act.eval]) (hsq1.out _ (kk1.out)) (by rw [hlt1q.out]; unfold maxLen; omega) (by rw [hlt1q.out]; omega) (Below.size (kk1.out)) ?_
                      intro v1 y2 hown1 hgrow1 _
                      rw [hlt1q.out] at hown1
                      have kk2 : Hid (Below wL.heap.size wL y2) := Below.grown (kk1.out) hgrow1 (Below.size (kk1.out)) (fun j hj => (hm0.out.lt j hj).1)
                      replace hown1 := hidden hown1
                      clear hgrow1 hm0
                      obtain ⟨hSn, -⟩ := box4f (box_below hAb4.out kk2.out)
                      refine hK.out _ _ ?_ (fun hNew => ?_)
                      · exact hSn
                      clear hK K hHeld
                      have hHeld := hNew
                      clear hNew
                      try simp only [Act.put, List.setIfInBounds_toArray, List.set_cons_zero, List.set_cons_succ]
                      refine wpAnyH_ready (rs := [6]) (by kernel_rfl) (by simp) ?_
                      refine AllReadyH.cons (i := 6) at6 (fun K hK => ?_) ?_
                      · go_simp
                        generalize hz : World.alloc y2 (.cells #[.int .i64 (Alb : Int), .int .i64 (vt : Int), .int .i64 (Awt : Int), .int .i64 (k : Int)] 67) = y3
                        have hbn : Below y2.heap.size y2 y3 := by
                          rw [← hz]
                          first | exact (Below.refl _ _).alloc (Nat.le_refl _) _ | exact ((Below.refl _ _).alloc (Nat.le_refl _) _).drew
                        have hlt3 : y2.heap.size < y3.heap.size := by rw [← hz]; first | exact Nat.lt_of_lt_of_eq (Nat.lt_succ_self _) (by simp) | simp
                        have hone : Hid (SlR arR y3 (.slice (some ⟨y2.heap.size, 0, none⟩) 1 1) [⟨Alb, vt, Awt, k⟩]) := hidden (by rw [← hz]; exact SlR.oneR (R := arR) y2 ⟨Alb, vt, Awt, k⟩ 67)
                        replace hown1 := hidden (owns_keep hown1.out hbn)
                        have kk3 : Hid (Below wL.heap.size wL y3) := Below.trans (kk2.out) (hbn.mono (Below.size (kk2.out)))
                        clear hz hbn
                        obtain ⟨hSn, -⟩ := box4f (box_below hAb4.out kk3.out)
                        refine hK.out _ _ ?_ (fun hNew => ?_)
                        · exact hSn
                        clear hK K hHeld
                        have hHeld := hNew
                        clear hNew
                        try simp only [List.setIfInBounds_toArray, List.set_cons_zero, List.set_cons_succ]
                        refine wpAnyH_ready (rs := [7]) (by kernel_rfl) (by simp) ?_
                        refine AllReadyH.cons (i := 7) at7 (fun K hK => ?_) ?_
                        · refine step_appR arR rfl (.tmp 68) (.tmp 70) 58 rfl wL.heap.size 67 ia (.agg #[.int .i64 0, .int .i64 0, .int .i64 0, .int .i64 0]) 4 32 Try.underlying58 hia ha0 ha1 ha2 rfl rfl (by simp [Act.eval]) hown1.out (by simp [Act.eval]) hone.out (by show _ + 1 ≤ _; unfold maxLen; omega) (by show (_ + 1) * 32 ≤ _; omega) (Below.size (kk3.out)) ?_
                          intro v2 y4 hown2 hgrow2 _
                          have kk4 : Hid (Below wL.heap.size wL y4) := Below.grown (kk3.out) hgrow2 (Below.size (kk3.out)) (fun j hj => (hown1.out.lt j hj).1)
                          replace hown2 := hidden hown2
                          clear hgrow2 hown1 hone
                          obtain ⟨hSn, -⟩ := box4f (box_below hAb4.out kk4.out)
                          refine hK.out _ _ ?_ (fun hNew => ?_)
                          · exact hSn
                          clear hK K hHeld
                          have hHeld := hNew
                          clear hNew
                          try simp only [Act.put, List.setIfInBounds_toArray, List.set_cons_zero, List.set_cons_succ]
                          refine tail_list (is := [11, 12]) (l := _) (by kernel_rfl) (by kernel_rfl) (by kernel_rfl) rfl ?_
                          simp only [List.filterMap_cons, List.filterMap_nil, at11, at12]
                          show wpList _ _ _ (_ :: _) _ _
                          go_wp2_with (at_builtin; go_loud (refine wpList_appR _ arR rfl _ _ 58 rfl wL.heap.size 67 ia (.agg #[.int .i64 0, .int .i64 0, .int .i64 0, .int .i64 0]) 4 32 Try.underlying58 hia ha0 ha1 ha2 rfl rfl rfl hown2.out rfl (by first | exact hsq2.out _ kk4.out | simpa using hsq2.out _ kk4.out) (by show _ + 1 + _ ≤ _; rw [hlt2q.out]; unfold maxLen; omega) (by show (_ + 1 + _) * 32 ≤ _; rw [hlt2q.out]; omega) (Below.size kk4.out) ?_); intro v3 y5 hown3 hgrow3)
                          rw [hlt2q.out] at hown3
                          have kk5 : Hid (Below wL.heap.size wL y5) := Below.grown kk4.out hgrow3 (Below.size kk4.out) (fun j hj => (hown2.out.lt j hj).1)
                          rw [← hA.out] at hown3
                          obtain ⟨g9, c9, rfl, hrow9⟩ := row_put (A := arcOf L' g.es false) (Q := Q) (k := k) ht rfl hown3
                          have hln : Hid ((Q.take t ++ k :: Q.drop t).length = Q.length + 1) := hidden (by simp; omega)
                          have hR9 : Hid (RW w g L' false ((vf : Nat) : Int) (.slice a N c) (.slice (some ⟨b5, o5, none⟩) m d) (some ⟨lg, lo, none⟩) lc g9 c9 (k + 1) (Q.take t ++ k :: Q.drop t) y5) := by
                            have h5 := hR4.out.step kk5.out
                            refine hidden ⟨h5.box, h5.lab, by rw [hln.out]; exact hrow9, hput2.out, h5.below⟩
                          clear hown3 hgrow3 hown2 hrow9 hR4 hAb4 hSn hput2
                          go_wp2
                          go_roundw
                          case rel => exact ⟨k + 1, g9, c9, _, by rw [hln.out], by omega, by go_num, hR9⟩
                          case measure => simp [intOf]; omega
                        exact AllReadyH.nil
                      exact AllReadyH.nil
                    refine AllReadyH.cons (i := 6) at6 (fun K hK => ?_) ?_
                    · go_simp
                      generalize hz : World.alloc y1 (.cells #[.int .i64 (Alb : Int), .int .i64 (vt : Int), .int .i64 (Awt : Int), .int .i64 (k : Int)] 67) = y2
                      have hbn : Below y1.heap.size y1 y2 := by
                        rw [← hz]
                        first | exact (Below.refl _ _).alloc (Nat.le_refl _) _ | exact ((Below.refl _ _).alloc (Nat.le_refl _) _).drew
                      have hlt2 : y1.heap.size < y2.heap.size := by rw [← hz]; first | exact Nat.lt_of_lt_of_eq (Nat.lt_succ_self _) (by simp) | simp
                      have hone : Hid (SlR arR y2 (.slice (some ⟨y1.heap.size, 0, none⟩) 1 1) [⟨Alb, vt, Awt, k⟩]) := hidden (by rw [← hz]; exact SlR.oneR (R := arR) y1 ⟨Alb, vt, Awt, k⟩ 67)
                      replace hm0 := hidden (owns_keep hm0.out hbn)
                      have kk2 : Hid (Below wL.heap.size wL y2) := Below.trans (kk1.out) (hbn.mono (Below.size (kk1.out)))
                      clear hz hbn
                      obtain ⟨hSn, -⟩ := box4f (box_below hAb4.out kk2.out)
                      refine hK.out _ _ ?_ (fun hNew => ?_)
                      · exact hSn
                      clear hK K hHeld
                      have hHeld := hNew
                      clear hNew
                      try simp only [List.setIfInBounds_toArray, List.set_cons_zero, List.set_cons_succ]
                      refine wpAnyH_ready (rs := [4]) (by kernel_rfl) (by simp) ?_
                      refine AllReadyH.cons (i := 4) at4 (fun K hK => ?_) ?_
                      · refine step_appR arR rfl (.tmp 64) (.tmp 67) 58 rfl wL.heap.size 67 ia (.agg #[.int .i64 0, .int .i64 0, .int .i64 0, .int .i64 0]) 4 32 Try.underlying58 hia ha0 ha1 ha2 rfl rfl (by simp [Act.eval]) hm0.out (by simp [Act.eval]) (hsq1.out _ (kk2.out)) (by rw [hlt1q.out]; unfold maxLen; omega) (by rw [hlt1q.out]; omega) (Below.size (kk2.out)) ?_
                        intro v1 y3 hown1 hgrow1 _
                        rw [hlt1q.out] at hown1
                        have kk3 : Hid (Below wL.heap.size wL y3) := Below.grown (kk2.out) hgrow1 (Below.size (kk2.out)) (fun j hj => (hm0.out.lt j hj).1)
                        replace hone := hidden (hone.out.grownR hgrow1 (fun e => by simp only [Value.ownBlock, Option.some.injEq] at e; omega))
                        replace hown1 := hidden hown1
                        clear hgrow1 hm0
                        obtain ⟨hSn, -⟩ := box4f (box_below hAb4.out kk3.out)
                        refine hK.out _ _ ?_ (fun hNew => ?_)
                        · exact hSn
                        clear hK K hHeld
                        have hHeld := hNew
                        clear hNew
                        try simp only [Act.put, List.setIfInBounds_toArray, List.set_cons_zero, List.set_cons_succ]
                        refine wpAnyH_ready (rs := [7]) (by kernel_rfl) (by simp) ?_
                        refine AllReadyH.cons (i := 7) at7 (fun K hK => ?_) ?_
                        · refine step_appR arR rfl (.tmp 68) (.tmp 70) 58 rfl wL.heap.size 67 ia (.agg #[.int .i64 0, .int .i64 0, .int .i64 0, .int .i64 0]) 4 32 Try.underlying58 hia ha0 ha1 ha2 rfl rfl (by simp [Act.eval]) hown1.out (by simp [Act.eval]) hone.out (by show _ + 1 ≤ _; unfold maxLen; omega) (by show (_ + 1) * 32 ≤ _; omega) (Below.size (kk3.out)) ?_
                          intro v2 y4 hown2 hgrow2 _
                          have kk4 : Hid (Below wL.heap.size wL y4) := Below.grown (kk3.out) hgrow2 (Below.size (kk3.out)) (fun j hj => (hown1.out.lt j hj).1)
                          replace hown2 := hidden hown2
                          clear hgrow2 hown1 hone
                          obtain ⟨hSn, -⟩ := box4f (box_below hAb4.out kk4.out)
                          refine hK.out _ _ ?_ (fun hNew => ?_)
                          · exact hSn
                          clear hK K hHeld
                          have hHeld := hNew
                          clear hNew
                          try simp only [Act.put, List.setIfInBounds_toArray, List.set_cons_zero, List.set_cons_succ]
                          refine tail_list (is := [11, 12]) (l := _) (by kernel_rfl) (by kernel_rfl) (by kernel_rfl) rfl ?_
                          simp only [List.filterMap_cons, List.filterMap_nil, at11, at12]
                          show wpList _ _ _ (_ :: _) _ _
                          go_wp2_with (at_builtin; go_loud (refine wpList_appR _ arR rfl _ _ 58 rfl wL.heap.size 67 ia (.agg #[.int .i64 0, .int .i64 0, .int .i64 0, .int .i64 0]) 4 32 Try.underlying58 hia ha0 ha1 ha2 rfl rfl rfl hown2.out rfl (by first | exact hsq2.out _ kk4.out | simpa using hsq2.out _ kk4.out) (by show _ + 1 + _ ≤ _; rw [hlt2q.out]; unfold maxLen; omega) (by show (_ + 1 + _) * 32 ≤ _; rw [hlt2q.out]; omega) (Below.size kk4.out) ?_); intro v3 y5 hown3 hgrow3)
                          rw [hlt2q.out] at hown3
                          have kk5 : Hid (Below wL.heap.size wL y5) := Below.grown kk4.out hgrow3 (Below.size kk4.out) (fun j hj => (hown2.out.lt j hj).1)
                          rw [← hA.out] at hown3
                          obtain ⟨g9, c9, rfl, hrow9⟩ := row_put (A := arcOf L' g.es false) (Q := Q) (k := k) ht rfl hown3
                          have hln : Hid ((Q.take t ++ k :: Q.drop t).length = Q.length + 1) := hidden (by simp; omega)
                          have hR9 : Hid (RW w g L' false ((vf : Nat) : Int) (.slice a N c) (.slice (some ⟨b5, o5, none⟩) m d) (some ⟨lg, lo, none⟩) lc g9 c9 (k + 1) (Q.take t ++ k :: Q.drop t) y5) := by
                            have h5 := hR4.out.step kk5.out
                            refine hidden ⟨h5.box, h5.lab, by rw [hln.out]; exact hrow9, hput2.out, h5.below⟩
                          clear hown3 hgrow3 hown2 hrow9 hR4 hAb4 hSn hput2
                          go_wp2
                          go_roundw
                          case rel => exact ⟨k + 1, g9, c9, _, by rw [hln.out], by omega, by go_num, hR9⟩
                          case measure => simp [intOf]; omega
                        exact AllReadyH.nil
                      exact AllReadyH.nil
                    exact AllReadyH.nil
                  refine AllReadyH.cons (i := 6) at6 (fun K hK => ?_) ?_
                  · go_simp
                    generalize hz : World.drew (World.alloc wL (.cells #[.int .i64 (Alb : Int), .int .i64 (vt : Int), .int .i64 (Awt : Int), .int .i64 (k : Int)] 67)) = y1
                    have hbn : Below (World.drew wL).heap.size (World.drew wL) y1 := by
                      rw [← hz]
                      first | exact (Below.refl _ _).alloc (Nat.le_refl _) _ | exact ((Below.refl _ _).alloc (Nat.le_refl _) _).drew
                    have hlt1 : wL.heap.size < y1.heap.size := by rw [← hz]; first | exact Nat.lt_of_lt_of_eq (Nat.lt_succ_self _) (by simp) | simp
                    have hone : Hid (SlR arR y1 (.slice (some ⟨wL.heap.size, 0, none⟩) 1 1) [⟨Alb, vt, Awt, k⟩]) := hidden (by rw [← hz]; exact SlR.oneR (R := arR) (World.drew wL) ⟨Alb, vt, Awt, k⟩ 67)
                    have kk1 : Hid (Below wL.heap.size wL y1) := Below.trans ((Below.refl wL.heap.size wL).drew) (hbn.mono (Below.size ((Below.refl wL.heap.size wL).drew)))
                    clear hz hbn
                    obtain ⟨hSn, -⟩ := box4f (box_below hAb4.out kk1.out)
                    refine hK.out _ _ ?_ (fun hNew => ?_)
                    · exact hSn
                    clear hK K hHeld
                    have hHeld := hNew
                    clear hNew
                    try simp only [List.setIfInBounds_toArray, List.set_cons_zero, List.set_cons_succ]
                    refine wpAnyH_ready (rs := [0]) (by kernel_rfl) (by simp) ?_
                    refine AllReadyH.cons (i := 0) at0 (fun K hK => ?_) ?_
                    · go_simp
                      generalize hz : World.alloc y1 (.cells #[] 67) = y2
                      have hbn : Below y1.heap.size y1 y2 := by
                        rw [← hz]
                        first | exact (Below.refl _ _).alloc (Nat.le_refl _) _ | exact ((Below.refl _ _).alloc (Nat.le_refl _) _).drew
                      have hlt2 : y1.heap.size < y2.heap.size := by rw [← hz]; first | exact Nat.lt_of_lt_of_eq (Nat.lt_succ_self _) (by simp) | simp
                      have hm0 : Hid (World.ownsRow y2 wL.heap.size 67 4 (.slice (some ⟨y1.heap.size, 0, none⟩) 0 0) 0 []) := hidden (by rw [← hz]; exact World.ownsRow_made y1 #[] 0 (Below.size (kk1.out)) (by unfold maxLen; omega) rfl)
                      replace hone := hidden (hone.out.below hbn)
                      have kk2 : Hid (Below wL.heap.size wL y2) := Below.trans (kk1.out) (hbn.mono (Below.size (kk1.out)))
                      clear hz hbn
                      obtain ⟨hSn, -⟩ := box4f (box_below hAb4.out kk2.out)
                      refine hK.out _ _ ?_ (fun hNew => ?_)
                      · exact hSn
                      clear hK K hHeld
                      have hHeld := hNew
                      clear hNew
                      try simp only [List.setIfInBounds_toArray, List.set_cons_zero]
                      refine wpAnyH_ready (rs := [4]) (by kernel_rfl) (by simp) ?_
                      refine AllReadyH.cons (i := 4) at4 (fun K hK => ?_) ?_
                      · refine step_appR arR rfl (.tmp 64) (.tmp 67) 58 rfl wL.heap.size 67 ia (.agg #[.int .i64 0, .int .i64 0, .int .i64 0, .int .i64 0]) 4 32 Try.underlying58 hia ha0 ha1 ha2 rfl rfl (by simp [Act.eval]) hm0.out (by simp [Act.eval]) (hsq1.out _ (kk2.out)) (by rw [hlt1q.out]; unfold maxLen; omega) (by rw [hlt1q.out]; omega) (Below.size (kk2.out)) ?_
                        intro v1 y3 hown1 hgrow1 _
                        rw [hlt1q.out] at hown1
                        have kk3 : Hid (Below wL.heap.size wL y3) := Below.grown (kk2.out) hgrow1 (Below.size (kk2.out)) (fun j hj => (hm0.out.lt j hj).1)
                        replace hone := hidden (hone.out.grownR hgrow1 (fun e => by simp only [Value.ownBlock, Option.some.injEq] at e; omega))
                        replace hown1 := hidden hown1
                        clear hgrow1 hm0
                        obtain ⟨hSn, -⟩ := box4f (box_below hAb4.out kk3.out)
                        refine hK.out _ _ ?_ (fun hNew => ?_)
                        · exact hSn
                        clear hK K hHeld
                        have hHeld := hNew
                        clear hNew
                        try simp only [Act.put, List.setIfInBounds_toArray, List.set_cons_zero, List.set_cons_succ]
                        refine wpAnyH_ready (rs := [7]) (by kernel_rfl) (by simp) ?_
                        refine AllReadyH.cons (i := 7) at7 (fun K hK => ?_) ?_
                        · refine step_appR arR rfl (.tmp 68) (.tmp 70) 58 rfl wL.heap.size 67 ia (.agg #[.int .i64 0, .int .i64 0, .int .i64 0, .int .i64 0]) 4 32 Try.underlying58 hia ha0 ha1 ha2 rfl rfl (by simp [Act.eval]) hown1.out (by simp [Act.eval]) hone.out (by show _ + 1 ≤ _; unfold maxLen; omega) (by show (_ + 1) * 32 ≤ _; omega) (Below.size (kk3.out)) ?_
                          intro v2 y4 hown2 hgrow2 _
                          have kk4 : Hid (Below wL.heap.size wL y4) := Below.grown (kk3.out) hgrow2 (Below.size (kk3.out)) (fun j hj => (hown1.out.lt j hj).1)
                          replace hown2 := hidden hown2
                          clear hgrow2 hown1 hone
                          obtain ⟨hSn, -⟩ := box4f (box_below hAb4.out kk4.out)
                          refine hK.out _ _ ?_ (fun hNew => ?_)
                          · exact hSn
                          clear hK K hHeld
                          have hHeld := hNew
                          clear hNew
                          try simp only [Act.put, List.setIfInBounds_toArray, List.set_cons_zero, List.set_cons_succ]
                          refine tail_list (is := [11, 12]) (l := _) (by kernel_rfl) (by kernel_rfl) (by kernel_rfl) rfl ?_
                          simp only [List.filterMap_cons, List.filterMap_nil, at11, at12]
                          show wpList _ _ _ (_ :: _) _ _
                          go_wp2_with (at_builtin; go_loud (refine wpList_appR _ arR rfl _ _ 58 rfl wL.heap.size 67 ia (.agg #[.int .i64 0, .int .i64 0, .int .i64 0, .int .i64 0]) 4 32 Try.underlying58 hia ha0 ha1 ha2 rfl rfl rfl hown2.out rfl (by first | exact hsq2.out _ kk4.out | simpa using hsq2.out _ kk4.out) (by show _ + 1 + _ ≤ _; rw [hlt2q.out]; unfold maxLen; omega) (by show (_ + 1 + _) * 32 ≤ _; rw [hlt2q.out]; omega) (Below.size kk4.out) ?_); intro v3 y5 hown3 hgrow3)
                          rw [hlt2q.out] at hown3
                          have kk5 : Hid (Below wL.heap.size wL y5) := Below.grown kk4.out hgrow3 (Below.size kk4.out) (fun j hj => (hown2.out.lt j hj).1)
                          rw [← hA.out] at hown3
                          obtain ⟨g9, c9, rfl, hrow9⟩ := row_put (A := arcOf L' g.es false) (Q := Q) (k := k) ht rfl hown3
                          have hln : Hid ((Q.take t ++ k :: Q.drop t).length = Q.length + 1) := hidden (by simp; omega)
                          have hR9 : Hid (RW w g L' false ((vf : Nat) : Int) (.slice a N c) (.slice (some ⟨b5, o5, none⟩) m d) (some ⟨lg, lo, none⟩) lc g9 c9 (k + 1) (Q.take t ++ k :: Q.drop t) y5) := by
                            have h5 := hR4.out.step kk5.out
                            refine hidden ⟨h5.box, h5.lab, by rw [hln.out]; exact hrow9, hput2.out, h5.below⟩
                          clear hown3 hgrow3 hown2 hrow9 hR4 hAb4 hSn hput2
                          go_wp2
                          go_roundw
                          case rel => exact ⟨k + 1, g9, c9, _, by rw [hln.out], by omega, by go_num, hR9⟩
                          case measure => simp [intOf]; omega
                        exact AllReadyH.nil
                      exact AllReadyH.nil
                    exact AllReadyH.nil
                  exact AllReadyH.nil
                · have hup2 := hidden (hstep.out (hkl.out.2 rfl))
                  clear hput hkl hstep
                  go_wp2_with fail
                  refine wp_region_later (Keeps wr F) (by kernel_rfl) (by kernel_rfl) hkk (fun hne => ?_)
                  repeat (go_big_quiet_step (exact hcall _))
                  refine wpQuiet_nil ?_
                  intro wL hL
                  have hR4 := hidden (hR.out.step hL.1)
                  have hAb4 := hidden (box_below hAb.out hL.1)
                  clear f0 f1 f2 f3 f4 f5 f6 f7 hkk hcall hL hR hAb
                  go_wp2
                  go_roundw
                  case rel => exact ⟨r, by omega, by first | done | rfl | (congr 1; omega), hup2, hR4, hAb4⟩
                  case measure => have := hmm9.out; have := ht0.out; simp [intOf]; omega
        · have hn1 : (((vf : Nat) : Int) != n) = true := by simp [hn]
          have hR3 := hidden ((hR2.out.skip (by rw [hD.out]; exact hn)).step (Below.refl _ _).drew)
          replace hn := hidden hn
          clear hR2 hplace p0 p1 p2 p3 e0 e1 e2 e3 x0 x1
          go_wp2
          go_roundw
          case rel => exact ⟨k + 1, gq, cq, Q, rfl, by omega, by go_num, hR3⟩
          case measure => simp [intOf]; omega
      · simp only [if_true] at hA hD
        go_wp2_with fail
        go_region
        by_cases hn : ((vt : Nat) : Int) = n
        · subst hn
          go_wp2_with fail
          have hlb := hidden hR2.out.lab
          obtain ⟨R, hR⟩ : ∃ R : Act → World → Prop, Hid (∀ a' x, R a' x ↔ (a' = ({ tmps := List.toArray ((Value.agg #[Value.slice a N c, Value.slice (some { block := b5, off := o5 }) m d]) :: (Value.int IntKind.i64 ↑vt) :: (Value.bool true) :: (Value.pointer (some { block := w.heap.size, off := 0 })) :: undef :: undef :: (Value.slice none 0 0) :: (Value.slice (some { block := lg, off := lo }) L'.length lc) :: (Value.slice (some { block := gq, off := 0 }) Q.length cq) :: (Value.int IntKind.i64 ↑k) :: (Value.pointer (some { block := wr.heap.size, off := 0 })) :: (Value.int IntKind.i64 ↑vt) :: (Value.int IntKind.i64 ↑vf) :: (Value.pointer (some { block := wr.heap.size + 1, off := 0 })) :: u14 :: (Value.agg #[Value.slice a N c, Value.slice (some { block := b5, off := o5 }) m d]) :: (Value.slice (some { block := lg, off := lo }) L'.length lc) :: (Value.slice (some { block := gi, off := 0 }) 0 0) :: (Value.int IntKind.i64 ↑k) :: (Value.pointer (some { block := w.heap.size, off := 1 })) :: (Value.slice (some { block := b5, off := o5 }) m d) :: (Value.int IntKind.i64 ↑m) :: (Value.bool true) :: u23 :: u24 :: (Value.pointer (some { block := w.heap.size, off := 1 })) :: (Value.slice (some { block := b5, off := o5 }) m d) :: (Value.int IntKind.i64 ↑k) :: (Value.pointer (some { block := b5, off := o5 + k * 4 })) :: (Value.agg #[Value.int IntKind.i64 ↑vf, Value.int IntKind.i64 ↑vt, Value.string ql, Value.int IntKind.i64 ↑Awt]) :: (Value.pointer (some { block := wr.heap.size, off := 0 })) :: (Value.int IntKind.i64 ↑vf) :: (Value.pointer (some { block := wr.heap.size, off := 1 })) :: (Value.int IntKind.i64 ↑vt) :: (Value.bool true) :: (Value.int IntKind.i64 ↑vt) :: (Value.int IntKind.i64 ↑vf) :: (Value.int IntKind.i64 ↑vt) :: (Value.int IntKind.i64 ↑vt) :: (Value.bool false) :: (Value.slice (some { block := lg, off := lo }) L'.length lc) :: (Value.pointer (some { block := wr.heap.size, off := 2 })) :: (Value.string ql) :: (Value.int IntKind.i64 ↑Alb) :: (Value.int IntKind.i64 ↑vf) :: (Value.pointer (some { block := wr.heap.size, off := 3 })) :: (Value.int IntKind.i64 ↑Awt) :: (Value.int IntKind.i64 ↑k) :: (Value.agg #[Value.int IntKind.i64 ↑Alb, Value.int IntKind.i64 ↑vf, Value.int IntKind.i64 ↑Awt, Value.int IntKind.i64 ↑k]) :: u49 :: u50 :: u51 :: u52 :: u53 :: u54 :: u55 :: u56 :: u57 :: u58 :: u59 :: u60 :: u61 :: u62 :: u63 :: u64 :: u65 :: u66 :: u67 :: u68 :: u69 :: u70 :: u71 :: u72 :: u73 :: u74 :: u75 :: undef :: []), defers := [] } : Act) ∧ x = (((wr.alloc (.cells #[.int .i64 (vf : Int), .int .i64 (vt : Int), .string ql, .int .i64 (Awt : Int)] 51)).alloc (.cells #[.int .i64 (Alb : Int), .int .i64 (vf : Int), .int .i64 (Awt : Int), .int .i64 (k : Int)] 67)).drew.drew))) := ⟨_, hidden fun _ _ => Iff.rfl⟩
          refine wp_only R ?h ?hq
          case h =>
            go_region_with (first
              | (go_at_call 58; refine (hplace.out _ (by first | exact hlb.out | exact hlb.out.below (((Below.refl _ _).alloc (Nat.le_refl _) _).drew.drew))).mono ?_; rintro e z9 ⟨rfl, rfl⟩)
              | fail)
            all_goals
              exact (hR.out _ _).2 ⟨rfl, rfl⟩
          case hq =>
            intro a' x hx
            obtain ⟨rfl, rfl⟩ := (hR.out _ _).1 hx
            clear hx hR
            have hAb : Hid ((((wr.alloc (.cells #[.int .i64 (vf : Int), .int .i64 (vt : Int), .string ql, .int .i64 (Awt : Int)] 51)).alloc (.cells #[.int .i64 (Alb : Int), .int .i64 (vf : Int), .int .i64 (Awt : Int), .int .i64 (k : Int)] 67)).drew.drew).heap[wr.heap.size + 1]? = some (.cells #[.int .i64 (Alb : Int), .int .i64 (vf : Int), .int .i64 (Awt : Int), .int .i64 (k : Int)] 67)) := hidden (heap_new2' wr _ _)
            have hR3 : Hid (RW w g L' true ((vt : Nat) : Int) (.slice a N c) (.slice (some ⟨b5, o5, none⟩) m d) (some ⟨lg, lo, none⟩) lc gq cq k Q (((wr.alloc (.cells #[.int .i64 (vf : Int), .int .i64 (vt : Int), .string ql, .int .i64 (Awt : Int)] 51)).alloc (.cells #[.int .i64 (Alb : Int), .int .i64 (vf : Int), .int .i64 (Awt : Int), .int .i64 (k : Int)] 67)).drew.drew)) := hidden (hR2.out.step ((Below.refl _ _).alloc (Nat.le_refl _) _).drew.drew)
            clear hR2 hplace hlb p0 p1 p2 p3 e0 e1 e2 e3 x0 x1
            generalize ((wr.alloc (.cells #[.int .i64 (vf : Int), .int .i64 (vt : Int), .string ql, .int .i64 (Awt : Int)] 51)).alloc (.cells #[.int .i64 (Alb : Int), .int .i64 (vf : Int), .int .i64 (Awt : Int), .int .i64 (k : Int)] 67)).drew.drew = x2 at *
            generalize wr.heap.size + 1 = gb2 at *
            have hq9 : Q.length ≤ 1000 := by have := hQk.out; omega
            have hkE : Hid (k < g.es.length) := hidden hlE
            go_wp2_with fail
            go_loopw [14] (fun i x => ∃ t : Nat, t ≤ Q.length ∧ i = .int .i64 t ∧ Hid (∀ j, t ≤ j → j < Q.length → KeyLt (keyOf (keysA (arcsL L' g.es true))) k (Q.getD j 0)) ∧ Hid (RW w g L' true ((vt : Nat) : Int) (.slice a N c) (.slice (some ⟨b5, o5, none⟩) m d) (some ⟨lg, lo, none⟩) lc gq cq k Q x) ∧ Hid (x.heap[gb2]? = some (.cells #[.int .i64 (Alb : Int), .int .i64 (vf : Int), .int .i64 (Awt : Int), .int .i64 (k : Int)] 67))) (fun i _ => (intOf i).toNat)
            case atStart => exact ⟨Q.length, Nat.le_refl _, rfl, hidden (fun j h1 h2 => by omega), hR3, hAb⟩
            case round =>
              clear hR3 hAb
              obtain ⟨t, ht, rfl, hup, hR, hAb⟩ := hrel
              obtain ⟨⟨p0, p1, p2, p3⟩, -⟩ := box4f hAb.out
              by_cases ht0 : t = 0
              · have hput2 : Hid (RowQ (keyOf (keysA (arcsL L' g.es true))) (whoOf g.es true) ((vt : Nat) : Int) (k + 1) (Q.take t ++ k :: Q.drop t)) := hidden (hR.out.ord.put (by rw [hD.out]) ht hup.out (fun h => absurd h (by omega)))
                have hgt0 : ¬ (t : Int) > 0 := by omega
                have hgt1 : ¬ (0 : Int) < (t : Int) := by omega
                have hgt2 : ¬ 0 < t := by omega
                replace ht0 := hidden ht0
                have hkk : Keeps wr [] wr.drew := Keeps.drew ⟨Below.refl _ _, fun p hp => by cases hp⟩
                clear hup p0 p1 p2 p3
                rename World => wq
                go_wp2_with fail
                refine wp_region_later (Keeps wq []) (by kernel_rfl) (by kernel_rfl) hkk (fun hne => ?_)
                repeat (go_big_quiet_step (fail))
                refine wpQuiet_nil ?_
                intro wL hL
                have hR4 := hidden (hR.out.step hL.1)
                have hAb4 := hidden (box_below hAb.out hL.1)
                clear hkk hL hR hAb hgt0 hgt1 hgt2
                go_wp2_with fail
                have hsl4 := slR_of_owns (R := arR) (ps := Q.map (arcOf L' g.es true)) (v := .slice (some ⟨gq, 0, none⟩) Q.length cq) (by rw [List.length_map]; exact hR4.out.row)
                have hroom : Q.length ≤ cq := by
                  obtain ⟨_, _, h1, h2, _⟩ := id hsl4
                  simp only [Value.slice.injEq, List.length_map] at h1 h2
                  omega
                have hsq1 : Hid (∀ z, Below wL.heap.size wL z → SlR arR z (.slice (some ⟨gq, 0, none⟩) t cq) ((Q.map (arcOf L' g.es true)).take t)) := hidden fun z hz => (hsl4.below hz).to' t ht
                have hsq2 : Hid (∀ z, Below wL.heap.size wL z → SlR arR z (.slice (if cq = t then some ⟨gq, 0, none⟩ else some ⟨gq, t * 4, none⟩) (Q.length - t) (cq - t)) ((Q.map (arcOf L' g.es true)).drop t)) := hidden fun z hz => by
                  have h := (hsl4.below hz).from' t ht
                  rw [Nat.zero_add] at h
                  exact h
                have hlt1q : Hid (((Q.map (arcOf L' g.es true)).take t).length = t) := hidden (by rw [List.length_take, List.length_map]; omega)
                have hlt2q : Hid (((Q.map (arcOf L' g.es true)).drop t).length = Q.length - t) := hidden (by rw [List.length_drop, List.length_map])
                have htc : (t : Int) ≤ (cq : Int) := by omega
                have htq9 : (t : Int) ≤ (Q.length : Int) := by omega
                have hqc : (Q.length : Int) ≤ (cq : Int) := by omega
                obtain ⟨hSn, -⟩ := box4f hAb4.out
                clear hsl4
                refine wp_region_parts (S := (fun z => z.cell? ⟨gb2, 0, none⟩ = some (.int .i64 (Alb : Int)) ∧ z.cell? ⟨gb2, 1, none⟩ = some (.int .i64 (vf : Int)) ∧ z.cell? ⟨gb2, 2, none⟩ = some (.int .i64 (Awt : Int)) ∧ z.cell? ⟨gb2, 3, none⟩ = some (.int .i64 (k : Int)))) #[false, false, false, false, false, false, false, false, false, false, false, true, true] #[true, true, true, true, true, true, true, true, true, true, true, false, false] [11, 12] 40 11 (by kernel_rfl) (by kernel_rfl) (by kernel_rfl) (by rfl) ?_ (fun hHeld => ?_)
                · go_keep
                first
                  | (refine wpAnyH_take (i := 1) (v := ?_) at1 (by kernel_rfl) (by kernel_rfl) (by kernel_rfl) (fun _ _ _ h => h) (Or.inl ⟨by rfl, ?_⟩) (by assumption) ?_
                     rotate_left
                     · intro w hSw; (try dsimp only at hSw); go_simp; try with_reducible rfl)
                  | fail "take 1"
                try simp only [Act.put, List.setIfInBounds_toArray, List.set_cons_zero, List.set_cons_succ]
                first
                  | (refine wpAnyH_take (i := 2) (v := ?_) at2 (by kernel_rfl) (by kernel_rfl) (by kernel_rfl) (fun _ _ _ h => h) (Or.inl ⟨by rfl, ?_⟩) (by assumption) ?_
                     rotate_left
                     · intro w hSw; (try dsimp only at hSw); go_simp; try with_reducible rfl)
                  | fail "take 2"
                try simp only [Act.put, List.setIfInBounds_toArray, List.set_cons_zero, List.set_cons_succ]
                first
                  | (refine wpAnyH_take (i := 3) (v := ?_) at3 (by kernel_rfl) (by kernel_rfl) (by kernel_rfl) (fun _ _ _ h => h) (Or.inl ⟨by rfl, ?_⟩) (by assumption) ?_
                     rotate_left
                     · intro w hSw; (try dsimp only at hSw); go_simp; try with_reducible rfl)
                  | fail "take 3"
                try simp only [Act.put, List.setIfInBounds_toArray, List.set_cons_zero, List.set_cons_succ]
                first
                  | (refine wpAnyH_take (i := 5) (v := ?_) at5 (by kernel_rfl) (by kernel_rfl) (by kernel_rfl) (fun _ _ _ h => h) (Or.inl ⟨by rfl, ?_⟩) (by assumption) ?_
                     rotate_left
                     · intro w hSw; (try dsimp only at hSw); go_simp; try with_reducible rfl)
                  | fail "take 5"
                try simp only [Act.put, List.setIfInBounds_toArray, List.set_cons_zero, List.set_cons_succ]
                first
                  | (refine wpAnyH_take (i := 8) (v := ?_) at8 (by kernel_rfl) (by kernel_rfl) (by kernel_rfl) (fun _ _ _ h => h) (Or.inl ⟨by rfl, ?_⟩) (by assumption) ?_
                     rotate_left
                     · intro w hSw; (try dsimp only at hSw); go_simp; try with_reducible rfl)
                  | fail "take 8"
                try simp only [Act.put, List.setIfInBounds_toArray, List.set_cons_zero, List.set_cons_succ]
                first
                  | (refine wpAnyH_take (i := 9) (v := ?_) at9 (by kernel_rfl) (by kernel_rfl) (by kernel_rfl) (fun _ _ _ h => h) (Or.inl ⟨by rfl, ?_⟩) (by assumption) ?_
                     rotate_left
                     · intro w hSw; (try dsimp only at hSw); go_simp; try with_reducible rfl)
                  | fail "take 9"
                try simp only [Act.put, List.setIfInBounds_toArray, List.set_cons_zero, List.set_cons_succ]
                first
                  | (refine wpAnyH_take (i := 10) (v := ?_) at10 (by kernel_rfl) (by kernel_rfl) (by kernel_rfl) (fun _ _ _ h => h) (Or.inl ⟨by rfl, ?_⟩) (by assumption) ?_
                     rotate_left
                     · intro w hSw; (try dsimp only at hSw); go_simp; try with_reducible rfl)
                  | fail "take 10"
                try simp only [Act.put, List.setIfInBounds_toArray, List.set_cons_zero, List.set_cons_succ]
                refine wpAnyH_ready (rs := [0, 6]) (by kernel_rfl) (by simp) ?_
                refine AllReadyH.cons (i := 0) at0 (fun K hK => ?_) ?_
                · go_simp
                  generalize hz : World.drew (World.alloc wL (.cells #[] 67)) = y1
                  have hbn : Below (World.drew wL).heap.size (World.drew wL) y1 := by
                    rw [← hz]
                    first | exact (Below.refl _ _).alloc (Nat.le_refl _) _ | exact ((Below.refl _ _).alloc (Nat.le_refl _) _).drew
                  have hlt1 : wL.heap.size < y1.heap.size := by rw [← hz]; first | exact Nat.lt_of_lt_of_eq (Nat.lt_succ_self _) (by simp) | simp
                  have hm0 : Hid (World.ownsRow y1 wL.heap.size 67 4 (.slice (some ⟨wL.heap.size, 0, none⟩) 0 0) 0 []) := hidden (by rw [← hz]; exact World.ownsRow_made (World.drew wL) #[] 0 (Below.size ((Below.refl wL.heap.size wL).drew)) (by unfold maxLen; omega) rfl)
                  have kk1 : Hid (Below wL.heap.size wL y1) := Below.trans ((Below.refl wL.heap.size wL).drew) (hbn.mono (Below.size ((Below.refl wL.heap.size wL).drew)))
                  clear hz hbn
                  obtain ⟨hSn, -⟩ := box4f (box_below hAb4.out kk1.out)
                  refine hK.out _ _ ?_ (fun hNew => ?_)
                  · exact hSn
                  clear hK K hHeld
                  have hHeld := hNew
                  clear hNew
                  try simp only [List.setIfInBounds_toArray, List.set_cons_zero]
                  refine wpAnyH_ready (rs := [4, 6]) (by kernel_rfl) (by simp) ?_
                  refine AllReadyH.cons (i := 4) at4 (fun K hK => ?_) ?_
                  · refine step_appR arR rfl (.tmp 64) (.tmp 67) 58 rfl wL.heap.size 67 ia (.agg #[.int .i64 0, .int .i64 0, .int .i64 0, .int .i64 0]) 4 32 Try.underlying58 hia ha0 ha1 ha2 rfl rfl (by simp [Act.eval]) hm0.out (by simp [Act.eval]) (hsq1.out _ (kk1.out)) (by rw [hlt1q.out]; unfold maxLen; omega) (by rw [hlt1q.out]; omega) (Below.size (kk1.out)) ?_
                    intro v1 y2 hown1 hgrow1 _
                    rw [hlt1q.out] at hown1
                    have kk2 : Hid (Below wL.heap.size wL y2) := Below.grown (kk1.out) hgrow1 (Below.size (kk1.out)) (fun j hj => (hm0.out.lt j hj).1)
                    replace hown1 := hidden hown1
                    clear hgrow1 hm0
                    obtain ⟨hSn, -⟩ := box4f (box_below hAb4.out kk2.out)
                    refine hK.out _ _ ?_ (fun hNew => ?_)
                    · exact hSn
                    clear hK K hHeld
                    have hHeld := hNew
                    clear hNew
                    try simp only [Act.put, List.setIfInBounds_toArray, List.set_cons_zero, List.set_cons_succ]
                    refine wpAnyH_ready (rs := [6]) (by kernel_rfl) (by simp) ?_
                    refine AllReadyH.cons (i := 6) at6 (fun K hK => ?_) ?_
                    · go_simp
                      generalize hz : World.alloc y2 (.cells #[.int .i64 (Alb : Int), .int .i64 (vf : Int), .int .i64 (Awt : Int), .int .i64 (k : Int)] 67) = y3
                      have hbn : Below y2.heap.size y2 y3 := by
                        rw [← hz]
                        first | exact (Below.refl _ _).alloc (Nat.le_refl _) _ | exact ((Below.refl _ _).alloc (Nat.le_refl _) _).drew
                      have hlt3 : y2.heap.size < y3.heap.size := by rw [← hz]; first | exact Nat.lt_of_lt_of_eq (Nat.lt_succ_self _) (by simp) | simp
                      have hone : Hid (SlR arR y3 (.slice (some ⟨y2.heap.size, 0, none⟩) 1 1) [⟨Alb, vf, Awt, k⟩]) := hidden (by rw [← hz]; exact SlR.oneR (R := arR) y2 ⟨Alb, vf, Awt, k⟩ 67)
                      replace hown1 := hidden (owns_keep hown1.out hbn)
                      have kk3 : Hid (Below wL.heap.size wL y3) := Below.trans (kk2.out) (hbn.mono (Below.size (kk2.out)))
                      clear hz hbn
                      obtain ⟨hSn, -⟩ := box4f (box_below hAb4.out kk3.out)
                      refine hK.out _ _ ?_ (fun hNew => ?_)
                      · exact hSn
                      clear hK K hHeld
                      have hHeld := hNew
                      clear hNew
                      try simp only [List.setIfInBounds_toArray, List.set_cons_zero, List.set_cons_succ]
                      refine wpAnyH_ready (rs := [7]) (by kernel_rfl) (by simp) ?_
                      refine AllReadyH.cons (i := 7) at7 (fun K hK => ?_) ?_
                      · refine step_appR arR rfl (.tmp 68) (.tmp 70) 58 rfl wL.heap.size 67 ia (.agg #[.int .i64 0, .int .i64 0, .int .i64 0, .int .i64 0]) 4 32 Try.underlying58 hia ha0 ha1 ha2 rfl rfl (by simp [Act.eval]) hown1.out (by simp [Act.eval]) hone.out (by show _ + 1 ≤ _; unfold maxLen; omega) (by show (_ + 1) * 32 ≤ _; omega) (Below.size (kk3.out)) ?_
                        intro v2 y4 hown2 hgrow2 _
                        have kk4 : Hid (Below wL.heap.size wL y4) := Below.grown (kk3.out) hgrow2 (Below.size (kk3.out)) (fun j hj => (hown1.out.lt j hj).1)
                        replace hown2 := hidden hown2
                        clear hgrow2 hown1 hone
                        obtain ⟨hSn, -⟩ := box4f (box_below hAb4.out kk4.out)
                        refine hK.out _ _ ?_ (fun hNew => ?_)
                        · exact hSn
                        clear hK K hHeld
                        have hHeld := hNew
                        clear hNew
                        try simp only [Act.put, List.setIfInBounds_toArray, List.set_cons_zero, List.set_cons_succ]
                        refine tail_list (is := [11, 12]) (l := _) (by kernel_rfl) (by kernel_rfl) (by kernel_rfl) rfl ?_
                        simp only [List.filterMap_cons, List.filterMap_nil, at11, at12]
                        show wpList _ _ _ (_ :: _) _ _
                        go_wp2_with (at_builtin; go_loud (refine wpList_appR _ arR rfl _ _ 58 rfl wL.heap.size 67 ia (.agg #[.int .i64 0, .int .i64 0, .int .i64 0, .int .i64 0]) 4 32 Try.underlying58 hia ha0 ha1 ha2 rfl rfl rfl hown2.out rfl (by first | exact hsq2.out _ kk4.out | simpa using hsq2.out _ kk4.out) (by show _ + 1 + _ ≤ _; rw [hlt2q.out]; unfold maxLen; omega) (by show (_ + 1 + _) * 32 ≤ _; rw [hlt2q.out]; omega) (Below.size kk4.out) ?_); intro v3 y5 hown3 hgrow3)
                        rw [hlt2q.out] at hown3
                        have kk5 : Hid (Below wL.heap.size wL y5) := Below.grown kk4.out hgrow3 (Below.size kk4.out) (fun j hj => (hown2.out.lt j hj).1)
                        rw [← hA.out] at hown3
                        obtain ⟨g9, c9, rfl, hrow9⟩ := row_put (A := arcOf L' g.es true) (Q := Q) (k := k) ht rfl hown3
                        have hln : Hid ((Q.take t ++ k :: Q.drop t).length = Q.length + 1) := hidden (by simp; omega)
                        have hR9 : Hid (RW w g L' true ((vt : Nat) : Int) (.slice a N c) (.slice (some ⟨b5, o5, none⟩) m d) (some ⟨lg, lo, none⟩) lc g9 c9 (k + 1) (Q.take t ++ k :: Q.drop t) y5) := by
                          have h5 := hR4.out.step kk5.out
                          refine hidden ⟨h5.box, h5.lab, by rw [hln.out]; exact hrow9, hput2.out, h5.below⟩
                        clear hown3 hgrow3 hown2 hrow9 hR4 hAb4 hSn hput2
                        go_wp2
                        go_roundw
                        case rel => exact ⟨k + 1, g9, c9, _, by rw [hln.out], by omega, by go_num, hR9⟩
                        case measure => simp [intOf]; omega
                      exact AllReadyH.nil
                    exact AllReadyH.nil
                  refine AllReadyH.cons (i := 6) at6 (fun K hK => ?_) ?_
                  · go_simp
                    generalize hz : World.alloc y1 (.cells #[.int .i64 (Alb : Int), .int .i64 (vf : Int), .int .i64 (Awt : Int), .int .i64 (k : Int)] 67) = y2
                    have hbn : Below y1.heap.size y1 y2 := by
                      rw [← hz]
                      first | exact (Below.refl _ _).alloc (Nat.le_refl _) _ | exact ((Below.refl _ _).alloc (Nat.le_refl _) _).drew
                    have hlt2 : y1.heap.size < y2.heap.size := by rw [← hz]; first | exact Nat.lt_of_lt_of_eq (Nat.lt_succ_self _) (by simp) | simp
                    have hone : Hid (SlR arR y2 (.slice (some ⟨y1.heap.size, 0, none⟩) 1 1) [⟨Alb, vf, Awt, k⟩]) := hidden (by rw [← hz]; exact SlR.oneR (R := arR) y1 ⟨Alb, vf, Awt, k⟩ 67)
                    replace hm0 := hidden (owns_keep hm0.out hbn)
                    have kk2 : Hid (Below wL.heap.size wL y2) := Below.trans (kk1.out) (hbn.mono (Below.size (kk1.out)))
                    clear hz hbn
                    obtain ⟨hSn, -⟩ := box4f (box_below hAb4.out kk2.out)
                    refine hK.out _ _ ?_ (fun hNew => ?_)
                    · exact hSn
                    clear hK K hHeld
                    have hHeld := hNew
                    clear hNew
                    try simp only [List.setIfInBounds_toArray, List.set_cons_zero, List.set_cons_succ]
                    refine wpAnyH_ready (rs := [4]) (by kernel_rfl) (by simp) ?_
                    refine AllReadyH.cons (i := 4) at4 (fun K hK => ?_) ?_
                    · refine step_appR arR rfl (.tmp 64) (.tmp 67) 58 rfl wL.heap.size 67 ia (.agg #[.int .i64 0, .int .i64 0, .int .i64 0, .int .i64 0]) 4 32 Try.underlying58 hia ha0 ha1 ha2 rfl rfl (by simp [Act.eval]) hm0.out (by simp [Act.eval]) (hsq1.out _ (kk2.out)) (by rw [hlt1q.out]; unfold maxLen; omega) (by rw [hlt1q.out]; omega) (Below.size (kk2.out)) ?_
                      intro v1 y3 hown1 hgrow1 _
                      rw [hlt1q.out] at hown1
                      have kk3 : Hid (Below wL.heap.size wL y3) := Below.grown (kk2.out) hgrow1 (Below.size (kk2.out)) (fun j hj => (hm0.out.lt j hj).1)
                      replace hone := hidden (hone.out.grownR hgrow1 (fun e => by simp only [Value.ownBlock, Option.some.injEq] at e; omega))
                      replace hown1 := hidden hown1
                      clear hgrow1 hm0
                      obtain ⟨hSn, -⟩ := box4f (box_below hAb4.out kk3.out)
                      refine hK.out _ _ ?_ (fun hNew => ?_)
                      · exact hSn
                      clear hK K hHeld
                      have hHeld := hNew
                      clear hNew
                      try simp only [Act.put, List.setIfInBounds_toArray, List.set_cons_zero, List.set_cons_succ]
                      refine wpAnyH_ready (rs := [7]) (by kernel_rfl) (by simp) ?_
                      refine AllReadyH.cons (i := 7) at7 (fun K hK => ?_) ?_
                      · refine step_appR arR rfl (.tmp 68) (.tmp 70) 58 rfl wL.heap.size 67 ia (.agg #[.int .i64 0, .int .i64 0, .int .i64 0, .int .i64 0]) 4 32 Try.underlying58 hia ha0 ha1 ha2 rfl rfl (by simp [Act.eval]) hown1.out (by simp [Act.eval]) hone.out (by show _ + 1 ≤ _; unfold maxLen; omega) (by show (_ + 1) * 32 ≤ _; omega) (Below.size (kk3.out)) ?_
                        intro v2 y4 hown2 hgrow2 _
                        have kk4 : Hid (Below wL.heap.size wL y4) := Below.grown (kk3.out) hgrow2 (Below.size (kk3.out)) (fun j hj => (hown1.out.lt j hj).1)
                        replace hown2 := hidden hown2
                        clear hgrow2 hown1 hone
                        obtain ⟨hSn, -⟩ := box4f (box_below hAb4.out kk4.out)
                        refine hK.out _ _ ?_ (fun hNew => ?_)
                        · exact hSn
                        clear hK K hHeld
                        have hHeld := hNew
                        clear hNew
                        try simp only [Act.put, List.setIfInBounds_toArray, List.set_cons_zero, List.set_cons_succ]
                        refine tail_list (is := [11, 12]) (l := _) (by kernel_rfl) (by kernel_rfl) (by kernel_rfl) rfl ?_
                        simp only [List.filterMap_cons, List.filterMap_nil, at11, at12]
                        show wpList _ _ _ (_ :: _) _ _
                        go_wp2_with (at_builtin; go_loud (refine wpList_appR _ arR rfl _ _ 58 rfl wL.heap.size 67 ia (.agg #[.int .i64 0, .int .i64 0, .int .i64 0, .int .i64 0]) 4 32 Try.underlying58 hia ha0 ha1 ha2 rfl rfl rfl hown2.out rfl (by first | exact hsq2.out _ kk4.out | simpa using hsq2.out _ kk4.out) (by show _ + 1 + _ ≤ _; rw [hlt2q.out]; unfold maxLen; omega) (by show (_ + 1 + _) * 32 ≤ _; rw [hlt2q.out]; omega) (Below.size kk4.out) ?_); intro v3 y5 hown3 hgrow3)
                        rw [hlt2q.out] at hown3
                        have kk5 : Hid (Below wL.heap.size wL y5) := Below.grown kk4.out hgrow3 (Below.size kk4.out) (fun j hj => (hown2.out.lt j hj).1)
                        rw [← hA.out] at hown3
                        obtain ⟨g9, c9, rfl, hrow9⟩ := row_put (A := arcOf L' g.es true) (Q := Q) (k := k) ht rfl hown3
                        have hln : Hid ((Q.take t ++ k :: Q.drop t).length = Q.length + 1) := hidden (by simp; omega)
                        have hR9 : Hid (RW w g L' true ((vt : Nat) : Int) (.slice a N c) (.slice (some ⟨b5, o5, none⟩) m d) (some ⟨lg, lo, none⟩) lc g9 c9 (k + 1) (Q.take t ++ k :: Q.drop t) y5) := by
                          have h5 := hR4.out.step kk5.out
                          refine hidden ⟨h5.box, h5.lab, by rw [hln.out]; exact hrow9, hput2.out, h5.below⟩
                        clear hown3 hgrow3 hown2 hrow9 hR4 hAb4 hSn hput2
                        go_wp2
                        go_roundw
                        case rel => exact ⟨k + 1, g9, c9, _, by rw [hln.out], by omega, by go_num, hR9⟩
                        case measure => simp [intOf]; omega
                      exact AllReadyH.nil
                    exact AllReadyH.nil
                  exact AllReadyH.nil
                refine AllReadyH.cons (i := 6) at6 (fun K hK => ?_) ?_
                · go_simp
                  generalize hz : World.drew (World.alloc wL (.cells #[.int .i64 (Alb : Int), .int .i64 (vf : Int), .int .i64 (Awt : Int), .int .i64 (k : Int)] 67)) = y1
                  have hbn : Below (World.drew wL).heap.size (World.drew wL) y1 := by
                    rw [← hz]
                    first | exact (Below.refl _ _).alloc (Nat.le_refl _) _ | exact ((Below.refl _ _).alloc (Nat.le_refl _) _).drew
                  have hlt1 : wL.heap.size < y1.heap.size := by rw [← hz]; first | exact Nat.lt_of_lt_of_eq (Nat.lt_succ_self _) (by simp) | simp
                  have hone : Hid (SlR arR y1 (.slice (some ⟨wL.heap.size, 0, none⟩) 1 1) [⟨Alb, vf, Awt, k⟩]) := hidden (by rw [← hz]; exact SlR.oneR (R := arR) (World.drew wL) ⟨Alb, vf, Awt, k⟩ 67)
                  have kk1 : Hid (Below wL.heap.size wL y1) := Below.trans ((Below.refl wL.heap.size wL).drew) (hbn.mono (Below.size ((Below.refl wL.heap.size wL).drew)))
                  clear hz hbn
                  obtain ⟨hSn, -⟩ := box4f (box_below hAb4.out kk1.out)
                  refine hK.out _ _ ?_ (fun hNew => ?_)
                  · exact hSn
                  clear hK K hHeld
                  have hHeld := hNew
                  clear hNew
                  try simp only [List.setIfInBounds_toArray, List.set_cons_zero, List.set_cons_succ]
                  refine wpAnyH_ready (rs := [0]) (by kernel_rfl) (by simp) ?_
                  refine AllReadyH.cons (i := 0) at0 (fun K hK => ?_) ?_
                  · go_simp
                    generalize hz : World.alloc y1 (.cells #[] 67) = y2
                    have hbn : Below y1.heap.size y1 y2 := by
                      rw [← hz]
                      first | exact (Below.refl _ _).alloc (Nat.le_refl _) _ | exact ((Below.refl _ _).alloc (Nat.le_refl _) _).drew
                    have hlt2 : y1.heap.size < y2.heap.size := by rw [← hz]; first | exact Nat.lt_of_lt_of_eq (Nat.lt_succ_self _) (by simp) | simp
                    have hm0 : Hid (World.ownsRow y2 wL.heap.size 67 4 (.slice (some ⟨y1.heap.size, 0, none⟩) 0 0) 0 []) := hidden (by rw [← hz]; exact World.ownsRow_made y1 #[] 0 (Below.size (kk1.out)) (by unfold maxLen; omega) rfl)
                    replace hone := hidden (hone.out.below hbn)
                    have kk2 : Hid (Below wL.heap.size wL y2) := Below.trans (kk1.out) (hbn.mono (Below.size (kk1.out)))
                    clear hz hbn
                    obtain ⟨hSn, -⟩ := box4f (box_below hAb4.out kk2.out)
                    refine hK.out _ _ ?_ (fun hNew => ?_)
                    · exact hSn
                    clear hK K hHeld
                    have hHeld := hNew
                    clear hNew
                    try simp only [List.setIfInBounds_toArray, List.set_cons_zero]
                    refine wpAnyH_ready (rs := [4]) (by kernel_rfl) (by simp) ?_
                    refine AllReadyH.cons (i := 4) at4 (fun K hK => ?_) ?_
                    · refine step_appR arR rfl (.tmp 64) (.tmp 67) 58 rfl wL.heap.size 67 ia (.agg #[.int .i64 0, .int .i64 0, .int .i64 0, .int .i64 0]) 4 32 Try.underlying58 hia ha0 ha1 ha2 rfl rfl (by simp [Act.eval]) hm0.out (by simp [Act.eval]) (hsq1.out _ (kk2.out)) (by rw [hlt1q.out]; unfold maxLen; omega) (by rw [hlt1q.out]; omega) (Below.size (kk2.out)) ?_
                      intro v1 y3 hown1 hgrow1 _
                      rw [hlt1q.out] at hown1
                      have kk3 : Hid (Below wL.heap.size wL y3) := Below.grown (kk2.out) hgrow1 (Below.size (kk2.out)) (fun j hj => (hm0.out.lt j hj).1)
                      replace hone := hidden (hone.out.grownR hgrow1 (fun e => by simp only [Value.ownBlock, Option.some.injEq] at e; omega))
                      replace hown1 := hidden hown1
                      clear hgrow1 hm0
                      obtain ⟨hSn, -⟩ := box4f (box_below hAb4.out kk3.out)
                      refine hK.out _ _ ?_ (fun hNew => ?_)
                      · exact hSn
                      clear hK K hHeld
                      have hHeld := hNew
                      clear hNew
                      try simp only [Act.put, List.setIfInBounds_toArray, List.set_cons_zero, List.set_cons_succ]
                      refine wpAnyH_ready (rs := [7]) (by kernel_rfl) (by simp) ?_
                      refine AllReadyH.cons (i := 7) at7 (fun K hK => ?_) ?_
                      · refine step_appR arR rfl (.tmp 68) (.tmp 70) 58 rfl wL.heap.size 67 ia (.agg #[.int .i64 0, .int .i64 0, .int .i64 0, .int .i64 0]) 4 32 Try.underlying58 hia ha0 ha1 ha2 rfl rfl (by simp [Act.eval]) hown1.out (by simp [Act.eval]) hone.out (by show _ + 1 ≤ _; unfold maxLen; omega) (by show (_ + 1) * 32 ≤ _; omega) (Below.size (kk3.out)) ?_
                        intro v2 y4 hown2 hgrow2 _
                        have kk4 : Hid (Below wL.heap.size wL y4) := Below.grown (kk3.out) hgrow2 (Below.size (kk3.out)) (fun j hj => (hown1.out.lt j hj).1)
                        replace hown2 := hidden hown2
                        clear hgrow2 hown1 hone
                        obtain ⟨hSn, -⟩ := box4f (box_below hAb4.out kk4.out)
                        refine hK.out _ _ ?_ (fun hNew => ?_)
                        · exact hSn
                        clear hK K hHeld
                        have hHeld := hNew
                        clear hNew
                        try simp only [Act.put, List.setIfInBounds_toArray, List.set_cons_zero, List.set_cons_succ]
                        refine tail_list (is := [11, 12]) (l := _) (by kernel_rfl) (by kernel_rfl) (by kernel_rfl) rfl ?_
                        simp only [List.filterMap_cons, List.filterMap_nil, at11, at12]
                        show wpList _ _ _ (_ :: _) _ _
                        go_wp2_with (at_builtin; go_loud (refine wpList_appR _ arR rfl _ _ 58 rfl wL.heap.size 67 ia (.agg #[.int .i64 0, .int .i64 0, .int .i64 0, .int .i64 0]) 4 32 Try.underlying58 hia ha0 ha1 ha2 rfl rfl rfl hown2.out rfl (by first | exact hsq2.out _ kk4.out | simpa using hsq2.out _ kk4.out) (by show _ + 1 + _ ≤ _; rw [hlt2q.out]; unfold maxLen; omega) (by show (_ + 1 + _) * 32 ≤ _; rw [hlt2q.out]; omega) (Below.size kk4.out) ?_); intro v3 y5 hown3 hgrow3)
                        rw [hlt2q.out] at hown3
                        have kk5 : Hid (Below wL.heap.size wL y5) := Below.grown kk4.out hgrow3 (Below.size kk4.out) (fun j hj => (hown2.out.lt j hj).1)
                        rw [← hA.out] at hown3
                        obtain ⟨g9, c9, rfl, hrow9⟩ := row_put (A := arcOf L' g.es true) (Q := Q) (k := k) ht rfl hown3
                        have hln : Hid ((Q.take t ++ k :: Q.drop t).length = Q.length + 1) := hidden (by simp; omega)
                        have hR9 : Hid (RW w g L' true ((vt : Nat) : Int) (.slice a N c) (.slice (some ⟨b5, o5, none⟩) m d) (some ⟨lg, lo, none⟩) lc g9 c9 (k + 1) (Q.take t ++ k :: Q.drop t) y5) := by
                          have h5 := hR4.out.step kk5.out
                          refine hidden ⟨h5.box, h5.lab, by rw [hln.out]; exact hrow9, hput2.out, h5.below⟩
                        clear hown3 hgrow3 hown2 hrow9 hR4 hAb4 hSn hput2
                        go_wp2
                        go_roundw
                        case rel => exact ⟨k + 1, g9, c9, _, by rw [hln.out], by omega, by go_num, hR9⟩
                        case measure => simp [intOf]; omega
                      exact AllReadyH.nil
                    exact AllReadyH.nil
                  exact AllReadyH.nil
                exact AllReadyH.nil
              · obtain ⟨r, hmm⟩ : ∃ r, t - 1 = r := ⟨_, rfl⟩
                have hrQ : r < Q.length := by omega
                have hgt : (t : Int) > 0 := by omega
                have hgt2 : 0 < t := by omega
                have hgt3 : (0 : Int) < (t : Int) := by omega
                have ht9 : (t : Int) ≤ 1000 := by omega
                have htq : (t : Int) - 1 < (Q.length : Int) := by omega
                have hmemr : Q.getD r 0 < k := by
                  have h1 : Q.getD r 0 ∈ Q := by rw [show Q.getD r 0 = Q[r] by simp [List.getD, hrQ]]; exact List.getElem_mem _
                  exact ((hR.out.ord.mem _).1 h1).1
                have hcell : ∀ j u, (arR.enc (arcOf L' g.es true (Q.getD r 0)))[j]? = some u → wr.cell? ⟨gq, r * 4 + j, none⟩ = some u := fun j u hu => by
                  have hj : j < 4 := by have := (List.getElem?_eq_some_iff.1 hu).1; rw [arR.len] at this; exact this
                  rw [hR.out.row.cellAt _ (by omega)]
                  have h1 := Rec.flat_at (R := arR) (Q.map (arcOf L' g.es true)) r j (by rw [List.length_map]; exact hrQ) hj
                  refine (show _ = _ from h1).trans ?_
                  rw [show (Q.map (arcOf L' g.es true)).getD r arR.dflt = arcOf L' g.es true (Q.getD r 0) by simp [List.getD, hrQ]]
                  exact hu
                have hkl := hidden (hke.out k (Q.getD r 0) hkE.out (by have := hkE.out; omega))
                rw [hA.out] at hkl
                have hstep : Hid (KeyLt (keyOf (keysA (arcsL L' g.es true))) k (Q.getD r 0) → ∀ j, r ≤ j → j < Q.length → KeyLt (keyOf (keysA (arcsL L' g.es true))) k (Q.getD j 0)) := hidden fun h j h1 h2 => by
                  rcases Nat.lt_or_ge r j with h3 | h3
                  · exact hup.out j (by omega) h2
                  · obtain rfl : j = r := by omega
                    exact h
                have hput : Hid (¬ KeyLt (keyOf (keysA (arcsL L' g.es true))) k (Q.getD r 0) → RowQ (keyOf (keysA (arcsL L' g.es true))) (whoOf g.es true) ((vt : Nat) : Int) (k + 1) (Q.take t ++ k :: Q.drop t)) := hidden fun h => hR.out.ord.put (by rw [hD.out]) ht hup.out (fun _ => by rw [show t - 1 = r by omega]; exact h)
                generalize arcOf L' g.es true (Q.getD r 0) = y at *
                obtain ⟨yl, yt, yw, ye⟩ := y
                have c0 := hcell 0 _ rfl
                have c1 := hcell 1 _ rfl
                have c2 := hcell 2 _ rfl
                have c3 := hcell 3 _ rfl
                rw [Nat.add_zero] at c0
                simp only at c0 c1 c2 c3
                have hkk : Keeps wr (eightA gb2 gq (r * 4) ⟨Alb, vf, Awt, k⟩ ⟨yl, yt, yw, ye⟩) wr.drew := by
                  refine Keeps.drew ⟨Below.refl _ _, fun p hp => ?_⟩
                  simp only [eightA, List.mem_cons, List.not_mem_nil, or_false] at hp
                  rcases hp with rfl | rfl | rfl | rfl | rfl | rfl | rfl | rfl <;> assumption
                have hcall : ∀ z : In (Keeps wr (eightA gb2 gq (r * 4) ⟨Alb, vf, Awt, k⟩ ⟨yl, yt, yw, ye⟩)), Calls Try.prog 59 #[.agg #[.int .i64 (Alb : Int), .int .i64 (vf : Int), .int .i64 (Awt : Int), .int .i64 (k : Int)], .agg #[.int .i64 (yl : Int), .int .i64 (yt : Int), .int .i64 (yw : Int), .int .i64 (ye : Int)]] z.w fun e w'' => e = .returned (.bool (ltA ⟨Alb, vf, Awt, k⟩ ⟨yl, yt, yw, ye⟩)) ∧ ∃ u : In (Keeps wr (eightA gb2 gq (r * 4) ⟨Alb, vf, Awt, k⟩ ⟨yl, yt, yw, ye⟩)), w'' = u.w := fun z => Keeps.calls (fun w => less_c ⟨Alb, vf, Awt, k⟩ ⟨yl, yt, yw, ye⟩ w) z
                rw [← ltA_iff] at hkl
                generalize ltA ⟨Alb, vf, Awt, k⟩ ⟨yl, yt, yw, ye⟩ = bb at *
                have f0 : ∀ z : In (Keeps wr (eightA gb2 gq (r * 4) ⟨Alb, vf, Awt, k⟩ ⟨yl, yt, yw, ye⟩)), _ := Keeps.at 0 rfl
                have f1 : ∀ z : In (Keeps wr (eightA gb2 gq (r * 4) ⟨Alb, vf, Awt, k⟩ ⟨yl, yt, yw, ye⟩)), _ := Keeps.at 1 rfl
                have f2 : ∀ z : In (Keeps wr (eightA gb2 gq (r * 4) ⟨Alb, vf, Awt, k⟩ ⟨yl, yt, yw, ye⟩)), _ := Keeps.at 2 rfl
                have f3 : ∀ z : In (Keeps wr (eightA gb2 gq (r * 4) ⟨Alb, vf, Awt, k⟩ ⟨yl, yt, yw, ye⟩)), _ := Keeps.at 3 rfl
                have f4 : ∀ z : In (Keeps wr (eightA gb2 gq (r * 4) ⟨Alb, vf, Awt, k⟩ ⟨yl, yt, yw, ye⟩)), _ := Keeps.at 4 rfl
                have f5 : ∀ z : In (Keeps wr (eightA gb2 gq (r * 4) ⟨Alb, vf, Awt, k⟩ ⟨yl, yt, yw, ye⟩)), _ := Keeps.at 5 rfl
                have f6 : ∀ z : In (Keeps wr (eightA gb2 gq (r * 4) ⟨Alb, vf, Awt, k⟩ ⟨yl, yt, yw, ye⟩)), _ := Keeps.at 6 rfl
                have f7 : ∀ z : In (Keeps wr (eightA gb2 gq (r * 4) ⟨Alb, vf, Awt, k⟩ ⟨yl, yt, yw, ye⟩)), _ := Keeps.at 7 rfl
                dsimp only at f0 f1 f2 f3 f4 f5 f6 f7
                generalize eightA gb2 gq (r * 4) ⟨Alb, vf, Awt, k⟩ ⟨yl, yt, yw, ye⟩ = F at *
                have hmm9 := hidden hmm
                replace hrQ := hidden hrQ
                replace ht0 := hidden ht0
                clear hcell hup hmemr p0 p1 p2 p3 c0 c1 c2 c3
                cases bb
                · have hput2 := hidden (hput.out (fun h => by have := hkl.out.1 h; cases this))
                  clear hput hkl hstep
                  rename World => wq
                  go_wp2_with fail
                  refine wp_region_later (Keeps wq F) (by kernel_rfl) (by kernel_rfl) hkk (fun hne => ?_)
                  repeat (go_big_quiet_step (exact hcall _))
                  refine wpQuiet_nil ?_
                  intro wL hL
                  have hR4 := hidden (hR.out.step hL.1)
                  have hAb4 := hidden (box_below hAb.out hL.1)
                  clear f0 f1 f2 f3 f4 f5 f6 f7 hkk hcall hL hR hAb
                  clear hgt hgt2 hgt3 ht9 htq hmm
                  go_wp2_with fail
                  have hsl4 := slR_of_owns (R := arR) (ps := Q.map (arcOf L' g.es true)) (v := .slice (some ⟨gq, 0, none⟩) Q.length cq) (by rw [List.length_map]; exact hR4.out.row)
                  have hroom : Q.length ≤ cq := by
                    obtain ⟨_, _, h1, h2, _⟩ := id hsl4
                    simp only [Value.slice.injEq, List.length_map] at h1 h2
                    omega
                  have hsq1 : Hid (∀ z, Below wL.heap.size wL z → SlR arR z (.slice (some ⟨gq, 0, none⟩) t cq) ((Q.map (arcOf L' g.es true)).take t)) := hidden fun z hz => (hsl4.below hz).to' t ht
                  have hsq2 : Hid (∀ z, Below wL.heap.size wL z → SlR arR z (.slice (if cq = t then some ⟨gq, 0, none⟩ else some ⟨gq, t * 4, none⟩) (Q.length - t) (cq - t)) ((Q.map (arcOf L' g.es true)).drop t)) := hidden fun z hz => by
                    have h := (hsl4.below hz).from' t ht
                    rw [Nat.zero_add] at h
                    exact h
                  have hlt1q : Hid (((Q.map (arcOf L' g.es true)).take t).length = t) := hidden (by rw [List.length_take, List.length_map]; omega)
                  have hlt2q : Hid (((Q.map (arcOf L' g.es true)).drop t).length = Q.length - t) := hidden (by rw [List.length_drop, List.length_map])
                  have htc : (t : Int) ≤ (cq : Int) := by omega
                  have htq9 : (t : Int) ≤ (Q.length : Int) := by omega
                  have hqc : (Q.length : Int) ≤ (cq : Int) := by omega
                  obtain ⟨hSn, -⟩ := box4f hAb4.out
                  clear hsl4
                  refine wp_region_parts (S := (fun z => z.cell? ⟨gb2, 0, none⟩ = some (.int .i64 (Alb : Int)) ∧ z.cell? ⟨gb2, 1, none⟩ = some (.int .i64 (vf : Int)) ∧ z.cell? ⟨gb2, 2, none⟩ = some (.int .i64 (Awt : Int)) ∧ z.cell? ⟨gb2, 3, none⟩ = some (.int .i64 (k : Int)))) #[false, false, false, false, false, false, false, false, false, false, false, true, true] #[true, true, true, true, true, true, true, true, true, true, true, false, false] [11, 12] 40 11 (by kernel_rfl) (by kernel_rfl) (by kernel_rfl) (by rfl) ?_ (fun hHeld => ?_)
                  · go_keep
                  first
                    | (refine wpAnyH_take (i := 1) (v := ?_) at1 (by kernel_rfl) (by kernel_rfl) (by kernel_rfl) (fun _ _ _ h => h) (Or.inl ⟨by rfl, ?_⟩) (by assumption) ?_
                       rotate_left
                       · intro w hSw; (try dsimp only at hSw); go_simp; try with_reducible rfl)
                    | fail "take 1"
                  try simp only [Act.put, List.setIfInBounds_toArray, List.set_cons_zero, List.set_cons_succ]
                  first
                    | (refine wpAnyH_take (i := 2) (v := ?_) at2 (by kernel_rfl) (by kernel_rfl) (by kernel_rfl) (fun _ _ _ h => h) (Or.inl ⟨by rfl, ?_⟩) (by assumption) ?_
                       rotate_left
                       · intro w hSw; (try dsimp only at hSw); go_simp; try with_reducible rfl)
                    | fail "take 2"
                  try simp only [Act.put, List.setIfInBounds_toArray, List.set_cons_zero, List.set_cons_succ]
                  first
                    | (refine wpAnyH_take (i := 3) (v := ?_) at3 (by kernel_rfl) (by kernel_rfl) (by kernel_rfl) (fun _ _ _ h => h) (Or.inl ⟨by rfl, ?_⟩) (by assumption) ?_
                       rotate_left
                       · intro w hSw; (try dsimp only at hSw); go_simp; try with_reducible rfl)
                    | fail "take 3"
                  try simp only [Act.put, List.setIfInBounds_toArray, List.set_cons_zero, List.set_cons_succ]
                  first
                    | (refine wpAnyH_take (i := 5) (v := ?_) at5 (by kernel_rfl) (by kernel_rfl) (by kernel_rfl) (fun _ _ _ h => h) (Or.inl ⟨by rfl, ?_⟩) (by assumption) ?_
                       rotate_left
                       · intro w hSw; (try dsimp only at hSw); go_simp; try with_reducible rfl)
                    | fail "take 5"
                  try simp only [Act.put, List.setIfInBounds_toArray, List.set_cons_zero, List.set_cons_succ]
                  first
                    | (refine wpAnyH_take (i := 8) (v := ?_) at8 (by kernel_rfl) (by kernel_rfl) (by kernel_rfl) (fun _ _ _ h => h) (Or.inl ⟨by rfl, ?_⟩) (by assumption) ?_
                       rotate_left
                       · intro w hSw; (try dsimp only at hSw); go_simp; try with_reducible rfl)
                    | fail "take 8"
                  try simp only [Act.put, List.setIfInBounds_toArray, List.set_cons_zero, List.set_cons_succ]
                  first
                    | (refine wpAnyH_take (i := 9) (v := ?_) at9 (by kernel_rfl) (by kernel_rfl) (by kernel_rfl) (fun _ _ _ h => h) (Or.inl ⟨by rfl, ?_⟩) (by assumption) ?_
                       rotate_left
                       · intro w hSw; (try dsimp only at hSw); go_simp; try with_reducible rfl)
                    | fail "take 9"
                  try simp only [Act.put, List.setIfInBounds_toArray, List.set_cons_zero, List.set_cons_succ]
                  first
                    | (refine wpAnyH_take (i := 10) (v := ?_) at10 (by kernel_rfl) (by kernel_rfl) (by kernel_rfl) (fun _ _ _ h => h) (Or.inl ⟨by rfl, ?_⟩) (by assumption) ?_
                       rotate_left
                       · intro w hSw; (try dsimp only at hSw); go_simp; try with_reducible rfl)
                    | fail "take 10"
                  try simp only [Act.put, List.setIfInBounds_toArray, List.set_cons_zero, List.set_cons_succ]
                  refine wpAnyH_ready (rs := [0, 6]) (by kernel_rfl) (by simp) ?_
                  refine AllReadyH.cons (i := 0) at0 (fun K hK => ?_) ?_
                  · go_simp
                    generalize hz : World.drew (World.alloc wL (.cells #[] 67)) = y1
                    have hbn : Below (World.drew wL).heap.size (World.drew wL) y1 := by
                      rw [← hz]
                      first | exact (Below.refl _ _).alloc (Nat.le_refl _) _ | exact ((Below.refl _ _).alloc (Nat.le_refl _) _).drew
                    have hlt1 : wL.heap.size < y1.heap.size := by rw [← hz]; first | exact Nat.lt_of_lt_of_eq (Nat.lt_succ_self _) (by simp) | simp
                    have hm0 : Hid (World.ownsRow y1 wL.heap.size 67 4 (.slice (some ⟨wL.heap.size, 0, none⟩) 0 0) 0 []) := hidden (by rw [← hz]; exact World.ownsRow_made (World.drew wL) #[] 0 (Below.size ((Below.refl wL.heap.size wL).drew)) (by unfold maxLen; omega) rfl)
                    have kk1 : Hid (Below wL.heap.size wL y1) := Below.trans ((Below.refl wL.heap.size wL).drew) (hbn.mono (Below.size ((Below.refl wL.heap.size wL).drew)))
                    clear hz hbn
                    obtain ⟨hSn, -⟩ := box4f (box_below hAb4.out kk1.out)
                    refine hK.out _ _ ?_ (fun hNew => ?_)
                    · exact hSn
                    clear hK K hHeld
                    have hHeld := hNew
                    clear hNew
                    try simp only [List.setIfInBounds_toArray, List.set_cons_zero]
                    refine wpAnyH_ready (rs := [4, 6]) (by kernel_rfl) (by simp) ?_
                    refine AllReadyH.cons (i := 4) at4 (fun K hK => ?_) ?_
                    · refine step_appR arR rfl (.tmp 64) (.tmp 67) 58 rfl wL.heap.size 67 ia (.agg #[.int .i64 0, .int .i64 0, .int .i64 0, .int .i64 0]) 4 32 Try.underlying58 hia ha0 ha1 ha2 rfl rfl (by simp [Act.eval]) hm0.out (by simp [Act.eval]) (hsq1.out _ (kk1.out)) (by rw [hlt1q.out]; unfold maxLen; omega) (by rw [hlt1q.out]; omega) (Below.size (kk1.out)) ?_
                      intro v1 y2 hown1 hgrow1 _
                      rw [hlt1q.out] at hown1
                      have kk2 : Hid (Below wL.heap.size wL y2) := Below.grown (kk1.out) hgrow1 (Below.size (kk1.out)) (fun j hj => (hm0.out.lt j hj).1)
                      replace hown1 := hidden hown1
                      clear hgrow1 hm0
                      obtain ⟨hSn, -⟩ := box4f (box_below hAb4.out kk2.out)
                      refine hK.out _ _ ?_ (fun hNew => ?_)
                      · exact hSn
                      clear hK K hHeld
                      have hHeld := hNew
                      clear hNew
                      try simp only [Act.put, List.setIfInBounds_toArray, List.set_cons_zero, List.set_cons_succ]
                      refine wpAnyH_ready (rs := [6]) (by kernel_rfl) (by simp) ?_
                      refine AllReadyH.cons (i := 6) at6 (fun K hK => ?_) ?_
                      · go_simp
                        generalize hz : World.alloc y2 (.cells #[.int .i64 (Alb : Int), .int .i64 (vf : Int), .int .i64 (Awt : Int), .int .i64 (k : Int)] 67) = y3
                        have hbn : Below y2.heap.size y2 y3 := by
                          rw [← hz]
                          first | exact (Below.refl _ _).alloc (Nat.le_refl _) _ | exact ((Below.refl _ _).alloc (Nat.le_refl _) _).drew
                        have hlt3 : y2.heap.size < y3.heap.size := by rw [← hz]; first | exact Nat.lt_of_lt_of_eq (Nat.lt_succ_self _) (by simp) | simp
                        have hone : Hid (SlR arR y3 (.slice (some ⟨y2.heap.size, 0, none⟩) 1 1) [⟨Alb, vf, Awt, k⟩]) := hidden (by rw [← hz]; exact SlR.oneR (R := arR) y2 ⟨Alb, vf, Awt, k⟩ 67)
                        replace hown1 := hidden (owns_keep hown1.out hbn)
                        have kk3 : Hid (Below wL.heap.size wL y3) := Below.trans (kk2.out) (hbn.mono (Below.size (kk2.out)))
                        clear hz hbn
                        obtain ⟨hSn, -⟩ := box4f (box_below hAb4.out kk3.out)
                        refine hK.out _ _ ?_ (fun hNew => ?_)
                        · exact hSn
                        clear hK K hHeld
                        have hHeld := hNew
                        clear hNew
                        try simp only [List.setIfInBounds_toArray, List.set_cons_zero, List.set_cons_succ]
                        refine wpAnyH_ready (rs := [7]) (by kernel_rfl) (by simp) ?_
                        refine AllReadyH.cons (i := 7) at7 (fun K hK => ?_) ?_
                        · refine step_appR arR rfl (.tmp 68) (.tmp 70) 58 rfl wL.heap.size 67 ia (.agg #[.int .i64 0, .int .i64 0, .int .i64 0, .int .i64 0]) 4 32 Try.underlying58 hia ha0 ha1 ha2 rfl rfl (by simp [Act.eval]) hown1.out (by simp [Act.eval]) hone.out (by show _ + 1 ≤ _; unfold maxLen; omega) (by show (_ + 1) * 32 ≤ _; omega) (Below.size (kk3.out)) ?_
                          intro v2 y4 hown2 hgrow2 _
                          have kk4 : Hid (Below wL.heap.size wL y4) := Below.grown (kk3.out) hgrow2 (Below.size (kk3.out)) (fun j hj => (hown1.out.lt j hj).1)
                          replace hown2 := hidden hown2
                          clear hgrow2 hown1 hone
                          obtain ⟨hSn, -⟩ := box4f (box_below hAb4.out kk4.out)
                          refine hK.out _ _ ?_ (fun hNew => ?_)
                          · exact hSn
                          clear hK K hHeld
                          have hHeld := hNew
                          clear hNew
                          try simp only [Act.put, List.setIfInBounds_toArray, List.set_cons_zero, List.set_cons_succ]
                          refine tail_list (is := [11, 12]) (l := _) (by kernel_rfl) (by kernel_rfl) (by kernel_rfl) rfl ?_
                          simp only [List.filterMap_cons, List.filterMap_nil, at11, at12]
                          show wpList _ _ _ (_ :: _) _ _
                          go_wp2_with (at_builtin; go_loud (refine wpList_appR _ arR rfl _ _ 58 rfl wL.heap.size 67 ia (.agg #[.int .i64 0, .int .i64 0, .int .i64 0, .int .i64 0]) 4 32 Try.underlying58 hia ha0 ha1 ha2 rfl rfl rfl hown2.out rfl (by first | exact hsq2.out _ kk4.out | simpa using hsq2.out _ kk4.out) (by show _ + 1 + _ ≤ _; rw [hlt2q.out]; unfold maxLen; omega) (by show (_ + 1 + _) * 32 ≤ _; rw [hlt2q.out]; omega) (Below.size kk4.out) ?_); intro v3 y5 hown3 hgrow3)
                          rw [hlt2q.out] at hown3
                          have kk5 : Hid (Below wL.heap.size wL y5) := Below.grown kk4.out hgrow3 (Below.size kk4.out) (fun j hj => (hown2.out.lt j hj).1)
                          rw [← hA.out] at hown3
                          obtain ⟨g9, c9, rfl, hrow9⟩ := row_put (A := arcOf L' g.es true) (Q := Q) (k := k) ht rfl hown3
                          have hln : Hid ((Q.take t ++ k :: Q.drop t).length = Q.length + 1) := hidden (by simp; omega)
                          have hR9 : Hid (RW w g L' true ((vt : Nat) : Int) (.slice a N c) (.slice (some ⟨b5, o5, none⟩) m d) (some ⟨lg, lo, none⟩) lc g9 c9 (k + 1) (Q.take t ++ k :: Q.drop t) y5) := by
                            have h5 := hR4.out.step kk5.out
                            refine hidden ⟨h5.box, h5.lab, by rw [hln.out]; exact hrow9, hput2.out, h5.below⟩
                          clear hown3 hgrow3 hown2 hrow9 hR4 hAb4 hSn hput2
                          go_wp2
                          go_roundw
                          case rel => exact ⟨k + 1, g9, c9, _, by rw [hln.out], by omega, by go_num, hR9⟩
                          case measure => simp [intOf]; omega
                        exact AllReadyH.nil
                      exact AllReadyH.nil
                    refine AllReadyH.cons (i := 6) at6 (fun K hK => ?_) ?_
                    · go_simp
                      generalize hz : World.alloc y1 (.cells #[.int .i64 (Alb : Int), .int .i64 (vf : Int), .int .i64 (Awt : Int), .int .i64 (k : Int)] 67) = y2
                      have hbn : Below y1.heap.size y1 y2 := by
                        rw [← hz]
                        first | exact (Below.refl _ _).alloc (Nat.le_refl _) _ | exact ((Below.refl _ _).alloc (Nat.le_refl _) _).drew
                      have hlt2 : y1.heap.size < y2.heap.size := by rw [← hz]; first | exact Nat.lt_of_lt_of_eq (Nat.lt_succ_self _) (by simp) | simp
                      have hone : Hid (SlR arR y2 (.slice (some ⟨y1.heap.size, 0, none⟩) 1 1) [⟨Alb, vf, Awt, k⟩]) := hidden (by rw [← hz]; exact SlR.oneR (R := arR) y1 ⟨Alb, vf, Awt, k⟩ 67)
                      replace hm0 := hidden (owns_keep hm0.out hbn)
                      have kk2 : Hid (Below wL.heap.size wL y2) := Below.trans (kk1.out) (hbn.mono (Below.size (kk1.out)))
                      clear hz hbn
                      obtain ⟨hSn, -⟩ := box4f (box_below hAb4.out kk2.out)
                      refine hK.out _ _ ?_ (fun hNew => ?_)
                      · exact hSn
                      clear hK K hHeld
                      have hHeld := hNew
                      clear hNew
                      try simp only [List.setIfInBounds_toArray, List.set_cons_zero, List.set_cons_succ]
                      refine wpAnyH_ready (rs := [4]) (by kernel_rfl) (by simp) ?_
                      refine AllReadyH.cons (i := 4) at4 (fun K hK => ?_) ?_
                      · refine step_appR arR rfl (.tmp 64) (.tmp 67) 58 rfl wL.heap.size 67 ia (.agg #[.int .i64 0, .int .i64 0, .int .i64 0, .int .i64 0]) 4 32 Try.underlying58 hia ha0 ha1 ha2 rfl rfl (by simp [Act.eval]) hm0.out (by simp [Act.eval]) (hsq1.out _ (kk2.out)) (by rw [hlt1q.out]; unfold maxLen; omega) (by rw [hlt1q.out]; omega) (Below.size (kk2.out)) ?_
                        intro v1 y3 hown1 hgrow1 _
                        rw [hlt1q.out] at hown1
                        have kk3 : Hid (Below wL.heap.size wL y3) := Below.grown (kk2.out) hgrow1 (Below.size (kk2.out)) (fun j hj => (hm0.out.lt j hj).1)
                        replace hone := hidden (hone.out.grownR hgrow1 (fun e => by simp only [Value.ownBlock, Option.some.injEq] at e; omega))
                        replace hown1 := hidden hown1
                        clear hgrow1 hm0
                        obtain ⟨hSn, -⟩ := box4f (box_below hAb4.out kk3.out)
                        refine hK.out _ _ ?_ (fun hNew => ?_)
                        · exact hSn
                        clear hK K hHeld
                        have hHeld := hNew
                        clear hNew
                        try simp only [Act.put, List.setIfInBounds_toArray, List.set_cons_zero, List.set_cons_succ]
                        refine wpAnyH_ready (rs := [7]) (by kernel_rfl) (by simp) ?_
                        refine AllReadyH.cons (i := 7) at7 (fun K hK => ?_) ?_
                        · refine step_appR arR rfl (.tmp 68) (.tmp 70) 58 rfl wL.heap.size 67 ia (.agg #[.int .i64 0, .int .i64 0, .int .i64 0, .int .i64 0]) 4 32 Try.underlying58 hia ha0 ha1 ha2 rfl rfl (by simp [Act.eval]) hown1.out (by simp [Act.eval]) hone.out (by show _ + 1 ≤ _; unfold maxLen; omega) (by show (_ + 1) * 32 ≤ _; omega) (Below.size (kk3.out)) ?_
                          intro v2 y4 hown2 hgrow2 _
                          have kk4 : Hid (Below wL.heap.size wL y4) := Below.grown (kk3.out) hgrow2 (Below.size (kk3.out)) (fun j hj => (hown1.out.lt j hj).1)
                          replace hown2 := hidden hown2
                          clear hgrow2 hown1 hone
                          obtain ⟨hSn, -⟩ := box4f (box_below hAb4.out kk4.out)
                          refine hK.out _ _ ?_ (fun hNew => ?_)
                          · exact hSn
                          clear hK K hHeld
                          have hHeld := hNew
                          clear hNew
                          try simp only [Act.put, List.setIfInBounds_toArray, List.set_cons_zero, List.set_cons_succ]
                          refine tail_list (is := [11, 12]) (l := _) (by kernel_rfl) (by kernel_rfl) (by kernel_rfl) rfl ?_
                          simp only [List.filterMap_cons, List.filterMap_nil, at11, at12]
                          show wpList _ _ _ (_ :: _) _ _
                          go_wp2_with (at_builtin; go_loud (refine wpList_appR _ arR rfl _ _ 58 rfl wL.heap.size 67 ia (.agg #[.int .i64 0, .int .i64 0, .int .i64 0, .int .i64 0]) 4 32 Try.underlying58 hia ha0 ha1 ha2 rfl rfl rfl hown2.out rfl (by first | exact hsq2.out _ kk4.out | simpa using hsq2.out _ kk4.out) (by show _ + 1 + _ ≤ _; rw [hlt2q.out]; unfold maxLen; omega) (by show (_ + 1 + _) * 32 ≤ _; rw [hlt2q.out]; omega) (Below.size kk4.out) ?_); intro v3 y5 hown3 hgrow3)
                          rw [hlt2q.out] at hown3
                          have kk5 : Hid (Below wL.heap.size wL y5) := Below.grown kk4.out hgrow3 (Below.size kk4.out) (fun j hj => (hown2.out.lt j hj).1)
                          rw [← hA.out] at hown3
                          obtain ⟨g9, c9, rfl, hrow9⟩ := row_put (A := arcOf L' g.es true) (Q := Q) (k := k) ht rfl hown3
                          have hln : Hid ((Q.take t ++ k :: Q.drop t).length = Q.length + 1) := hidden (by simp; omega)
                          have hR9 : Hid (RW w g L' true ((vt : Nat) : Int) (.slice a N c) (.slice (some ⟨b5, o5, none⟩) m d) (some ⟨lg, lo, none⟩) lc g9 c9 (k + 1) (Q.take t ++ k :: Q.drop t) y5) := by
                            have h5 := hR4.out.step kk5.out
                            refine hidden ⟨h5.box, h5.lab, by rw [hln.out]; exact hrow9, hput2.out, h5.below⟩
                          clear hown3 hgrow3 hown2 hrow9 hR4 hAb4 hSn hput2
                          go_wp2
                          go_roundw
                          case rel => exact ⟨k + 1, g9, c9, _, by rw [hln.out], by omega, by go_num, hR9⟩
                          case measure => simp [intOf]; omega
                        exact AllReadyH.nil
                      exact AllReadyH.nil
                    exact AllReadyH.nil
                  refine AllReadyH.cons (i := 6) at6 (fun K hK => ?_) ?_
                  · go_simp
                    generalize hz : World.drew (World.alloc wL (.cells #[.int .i64 (Alb : Int), .int .i64 (vf : Int), .int .i64 (Awt : Int), .int .i64 (k : Int)] 67)) = y1
                    have hbn : Below (World.drew wL).heap.size (World.drew wL) y1 := by
                      rw [← hz]
                      first | exact (Below.refl _ _).alloc (Nat.le_refl _) _ | exact ((Below.refl _ _).alloc (Nat.le_refl _) _).drew
                    have hlt1 : wL.heap.size < y1.heap.size := by rw [← hz]; first | exact Nat.lt_of_lt_of_eq (Nat.lt_succ_self _) (by simp) | simp
                    have hone : Hid (SlR arR y1 (.slice (some ⟨wL.heap.size, 0, none⟩) 1 1) [⟨Alb, vf, Awt, k⟩]) := hidden (by rw [← hz]; exact SlR.oneR (R := arR) (World.drew wL) ⟨Alb, vf, Awt, k⟩ 67)
                    have kk1 : Hid (Below wL.heap.size wL y1) := Below.trans ((Below.refl wL.heap.size wL).drew) (hbn.mono (Below.size ((Below.refl wL.heap.size wL).drew)))
                    clear hz hbn
                    obtain ⟨hSn, -⟩ := box4f (box_below hAb4.out kk1.out)
                    refine hK.out _ _ ?_ (fun hNew => ?_)
                    · exact hSn
                    clear hK K hHeld
                    have hHeld := hNew
                    clear hNew
                    try simp only [List.setIfInBounds_toArray, List.set_cons_zero, List.set_cons_succ]
                    refine wpAnyH_ready (rs := [0]) (by kernel_rfl) (by simp) ?_
                    refine AllReadyH.cons (i := 0) at0 (fun K hK => ?_) ?_
                    · go_simp
                      generalize hz : World.alloc y1 (.cells #[] 67) = y2
                      have hbn : Below y1.heap.size y1 y2 := by
                        rw [← hz]
                        first | exact (Below.refl _ _).alloc (Nat.le_refl _) _ | exact ((Below.refl _ _).alloc (Nat.le_refl _) _).drew
                      have hlt2 : y1.heap.size < y2.heap.size := by rw [← hz]; first | exact Nat.lt_of_lt_of_eq (Nat.lt_succ_self _) (by simp) | simp
                      have hm0 : Hid (World.ownsRow y2 wL.heap.size 67 4 (.slice (some ⟨y1.heap.size, 0, none⟩) 0 0) 0 []) := hidden (by rw [← hz]; exact World.ownsRow_made y1 #[] 0 (Below.size (kk1.out)) (by unfold maxLen; omega) rfl)
                      replace hone := hidden (hone.out.below hbn)
                      have kk2 : Hid (Below wL.heap.size wL y2) := Below.trans (kk1.out) (hbn.mono (Below.size (kk1.out)))
                      clear hz hbn
                      obtain ⟨hSn, -⟩ := box4f (box_below hAb4.out kk2.out)
                      refine hK.out _ _ ?_ (fun hNew => ?_)
                      · exact hSn
                      clear hK K hHeld
                      have hHeld := hNew
                      clear hNew
                      try simp only [List.setIfInBounds_toArray, List.set_cons_zero]
                      refine wpAnyH_ready (rs := [4]) (by kernel_rfl) (by simp) ?_
                      refine AllReadyH.cons (i := 4) at4 (fun K hK => ?_) ?_
                      · refine step_appR arR rfl (.tmp 64) (.tmp 67) 58 rfl wL.heap.size 67 ia (.agg #[.int .i64 0, .int .i64 0, .int .i64 0, .int .i64 0]) 4 32 Try.underlying58 hia ha0 ha1 ha2 rfl rfl (by simp [Act.eval]) hm0.out (by simp [Act.eval]) (hsq1.out _ (kk2.out)) (by rw [hlt1q.out]; unfold maxLen; omega) (by rw [hlt1q.out]; omega) (Below.size (kk2.out)) ?_
                        intro v1 y3 hown1 hgrow1 _
                        rw [hlt1q.out] at hown1
                        have kk3 : Hid (Below wL.heap.size wL y3) := Below.grown (kk2.out) hgrow1 (Below.size (kk2.out)) (fun j hj => (hm0.out.lt j hj).1)
                        replace hone := hidden (hone.out.grownR hgrow1 (fun e => by simp only [Value.ownBlock, Option.some.injEq] at e; omega))
                        replace hown1 := hidden hown1
                        clear hgrow1 hm0
                        obtain ⟨hSn, -⟩ := box4f (box_below hAb4.out kk3.out)
                        refine hK.out _ _ ?_ (fun hNew => ?_)
                        · exact hSn
                        clear hK K hHeld
                        have hHeld := hNew
                        clear hNew
                        try simp only [Act.put, List.setIfInBounds_toArray, List.set_cons_zero, List.set_cons_succ]
                        refine wpAnyH_ready (rs := [7]) (by kernel_rfl) (by simp) ?_
                        refine AllReadyH.cons (i := 7) at7 (fun K hK => ?_) ?_
                        · refine step_appR arR rfl (.tmp 68) (.tmp 70) 58 rfl wL.heap.size 67 ia (.agg #[.int .i64 0, .int .i64 0, .int .i64 0, .int .i64 0]) 4 32 Try.underlying58 hia ha0 ha1 ha2 rfl rfl (by simp [Act.eval]) hown1.out (by simp [Act.eval]) hone.out (by show _ + 1 ≤ _; unfold maxLen; omega) (by show (_ + 1) * 32 ≤ _; omega) (Below.size (kk3.out)) ?_
                          intro v2 y4 hown2 hgrow2 _
                          have kk4 : Hid (Below wL.heap.size wL y4) := Below.grown (kk3.out) hgrow2 (Below.size (kk3.out)) (fun j hj => (hown1.out.lt j hj).1)
                          replace hown2 := hidden hown2
                          clear hgrow2 hown1 hone
                          obtain ⟨hSn, -⟩ := box4f (box_below hAb4.out kk4.out)
                          refine hK.out _ _ ?_ (fun hNew => ?_)
                          · exact hSn
                          clear hK K hHeld
                          have hHeld := hNew
                          clear hNew
                          try simp only [Act.put, List.setIfInBounds_toArray, List.set_cons_zero, List.set_cons_succ]
                          refine tail_list (is := [11, 12]) (l := _) (by kernel_rfl) (by kernel_rfl) (by kernel_rfl) rfl ?_
                          simp only [List.filterMap_cons, List.filterMap_nil, at11, at12]
                          show wpList _ _ _ (_ :: _) _ _
                          go_wp2_with (at_builtin; go_loud (refine wpList_appR _ arR rfl _ _ 58 rfl wL.heap.size 67 ia (.agg #[.int .i64 0, .int .i64 0, .int .i64 0, .int .i64 0]) 4 32 Try.underlying58 hia ha0 ha1 ha2 rfl rfl rfl hown2.out rfl (by first | exact hsq2.out _ kk4.out | simpa using hsq2.out _ kk4.out) (by show _ + 1 + _ ≤ _; rw [hlt2q.out]; unfold maxLen; omega) (by show (_ + 1 + _) * 32 ≤ _; rw [hlt2q.out]; omega) (Below.size kk4.out) ?_); intro v3 y5 hown3 hgrow3)
                          rw [hlt2q.out] at hown3
                          have kk5 : Hid (Below wL.heap.size wL y5) := Below.grown kk4.out hgrow3 (Below.size kk4.out) (fun j hj => (hown2.out.lt j hj).1)
                          rw [← hA.out] at hown3
                          obtain ⟨g9, c9, rfl, hrow9⟩ := row_put (A := arcOf L' g.es true) (Q := Q) (k := k) ht rfl hown3
                          have hln : Hid ((Q.take t ++ k :: Q.drop t).length = Q.length + 1) := hidden (by simp; omega)
                          have hR9 : Hid (RW w g L' true ((vt : Nat) : Int) (.slice a N c) (.slice (some ⟨b5, o5, none⟩) m d) (some ⟨lg, lo, none⟩) lc g9 c9 (k + 1) (Q.take t ++ k :: Q.drop t) y5) := by
                            have h5 := hR4.out.step kk5.out
                            refine hidden ⟨h5.box, h5.lab, by rw [hln.out]; exact hrow9, hput2.out, h5.below⟩
                          clear hown3 hgrow3 hown2 hrow9 hR4 hAb4 hSn hput2
                          go_wp2
                          go_roundw
                          case rel => exact ⟨k + 1, g9, c9, _, by rw [hln.out], by omega, by go_num, hR9⟩
                          case measure => simp [intOf]; omega
                        exact AllReadyH.nil
                      exact AllReadyH.nil
                    exact AllReadyH.nil
                  exact AllReadyH.nil
                · have hup2 := hidden (hstep.out (hkl.out.2 rfl))
                  clear hput hkl hstep
                  go_wp2_with fail
                  refine wp_region_later (Keeps wr F) (by kernel_rfl) (by kernel_rfl) hkk (fun hne => ?_)
                  repeat (go_big_quiet_step (exact hcall _))
                  refine wpQuiet_nil ?_
                  intro wL hL
                  have hR4 := hidden (hR.out.step hL.1)
                  have hAb4 := hidden (box_below hAb.out hL.1)
                  clear f0 f1 f2 f3 f4 f5 f6 f7 hkk hcall hL hR hAb
                  go_wp2
                  go_roundw
                  case rel => exact ⟨r, by omega, by first | done | rfl | (congr 1; omega), hup2, hR4, hAb4⟩
                  case measure => have := hmm9.out; have := ht0.out; simp [intOf]; omega
        · have hn1 : (((vt : Nat) : Int) != n) = true := by simp [hn]
          have hR3 := hidden ((hR2.out.skip (by rw [hD.out]; exact hn)).step (Below.refl _ _).drew)
          replace hn := hidden hn
          clear hR2 hplace p0 p1 p2 p3 e0 e1 e2 e3 x0 x1
          go_wp2
          go_roundw
          case rel => exact ⟨k + 1, gq, cq, Q, rfl, by omega, by go_num, hR3⟩
          case measure => simp [intOf]; omega
    · have hlt' : ¬ (k : Int) < (m : Int) := by omega
      obtain rfl : k = m := by omega
      have hRf := hidden hR.out.row
      have hRo := hidden hR.out.ord
      have hRb := hidden hR.out.below
      clear hR
      go_wp2
      go_ret
      exact ⟨_, _, Q, rfl, by rw [← hgm.out]; exact hRo.out, hRf.out, hRb.out⟩
end Go.Proofs.Ytikajhpgoehboaa
