/-
  METERS: Clear, and the reference's Of, Names and Twice, by contract.
-/
import Derived.Test.YtoijkbnjcnedjaaDoorMetL
namespace Go.Proofs.YtoijkbnjcnedjaaDoor
open Go.ChangeShapes Go.WideShapes Go.ChangeAt Go.RowKit Go.Maps

theorem run_clear_map {P : Program} {w : World} {g : Nat} {es : Array MapEntry} {clock : Nat} {t k e : TypeId} (ht : P.underlying t = some (.map k e)) (hb : w.heap[g]? = some (.map es clock)) (ty : TypeId) :
    (Builtin.clear_ #[t] ty #[.map (some g)]).run P w = .ok (.tuple #[]) { w with heap := w.heap.setIfInBounds g (.map #[] clock) } := by
  simp [Builtin.clear_, run_underlying ht, Go.MapKept.run_getObj_map hb, Go.MapKept.run_setObj_map _ hb, Result.andThen]
theorem mt_cleared {w : World} {b g n : Nat} {D : DataW Unit} {m : Int} {L : List Ct} (h : MtAt w b g n D m L) (hbg : b ≠ g) : ∃ (es : Array MapEntry) (clock : Nat), (w.setCell ⟨b, 1, none⟩ (.int .i64 0)).heap[g]? = some (.map es clock) ∧
    MtAt { (w.setCell ⟨b, 1, none⟩ (.int .i64 0)) with heap := (w.setCell ⟨b, 1, none⟩ (.int .i64 0)).heap.setIfInBounds g (.map #[] clock) } b g 0 (.map []) m [] ∧ SaveL [b, g] w { (w.setCell ⟨b, 1, none⟩ (.int .i64 0)) with heap := (w.setCell ⟨b, 1, none⟩ (.int .i64 0)).heap.setIfInBounds g (.map #[] clock) } := by
  obtain ⟨es, clock, hh, hf⟩ := h.own
  have hg : (w.setCell ⟨b, 1, none⟩ (.int .i64 0)).heap[g]? = some (.map es clock) := by rw [Below.heap_setCell _ _ _ g hbg.symm]; exact hh
  have hbx : (w.setCell ⟨b, 1, none⟩ (.int .i64 0)).heap[b]? = some (.cells #[.int .i64 m, .int .i64 0, .map (some g)] 49) := by
    simp [World.setCell, Array.getElem?_modify, h.box]
  refine ⟨es, clock, hg, ⟨?_, ⟨#[], clock, ?_, ⟨by simp, Go.MapKept.stamped_empty clock, by simp⟩, Nat.le_refl _, rfl⟩, fun x => by simp [Maps.has, namesC], fun x => rfl, by simp [Maps.size]⟩, ?_⟩
  · exact (Go.ChangeMaps.heap_setBlock_other hg (.map #[] clock) hbg).trans hbx
  · exact Go.ChangeMaps.heap_setBlock_same hg (.map #[] clock)
  · refine (SaveL.setCell (S := [b, g]) ⟨b, 1, none⟩ (.int .i64 0) (by simp)).trans ⟨rfl, rfl, rfl, by simp, fun k hk hS => ?_⟩
    exact Go.ChangeMaps.heap_setBlock_other hg (.map #[] clock) (fun e => hS (by simp [e]))
set_option maxHeartbeats 1600000 in
theorem mclear_c {b g n : Nat} {D : DataW Unit} {m : Int} {L : List Ct} (w : World) (h : MtAt w b g n D m L) (hbg : b ≠ g) :
    Calls Tryd.prog 16 #[.pointer (some ⟨b, 0, none⟩)] w fun e w' => e = .returned (.int .i64 (sumC L)) ∧ Hid (MtAt w' b g 0 (.map []) m []) ∧ Hid (SaveL [b, g] w w') := by
  obtain ⟨⟨c0, c1, c2⟩, f1, -⟩ := cell_map h.box
  obtain ⟨es, clock, hg, h1, h2⟩ := mt_cleared h hbg
  have hcl := run_clear_map (P := Tryd.prog) Tryd.underlying47 hg
  replace h1 := hidden h1
  replace h2 := hidden h2
  have e2 : (w.setCell ⟨b, 1, none⟩ (.int .i64 0)).cell? ⟨b, 2, none⟩ = some (.map (some g)) := by
    have hbx : (w.setCell ⟨b, 1, none⟩ (.int .i64 0)).heap[b]? = some (.cells #[.int .i64 m, .int .i64 0, .map (some g)] 49) := by
      simp [World.setCell, Array.getElem?_modify, h.box]
    exact (cell_map hbx).1.2.2
  clear h hg
  go_enter Tryd.func16, Tryd.ntmps16
  go_wp2
  go_ret
  exact ⟨rfl, h1, h2⟩
theorem ofC_skip (s : ByteArray) : ∀ (L : List Ct) (k : Nat), k ≤ L.length → (∀ j, j < k → (L.getD j Ct.none).s ≠ s) → ofC s L = ofC s (L.drop k)
  | L, 0, _, _ => by simp
  | c :: r, k + 1, hk, h => by
    have h0 : c.s ≠ s := h 0 (Nat.succ_pos k)
    rw [List.drop_succ_cons, ← ofC_skip s r k (by simpa using hk) fun j hj => by simpa using h (j + 1) (by omega)]
    unfold ofC
    rw [if_neg h0]
    cases r <;> rfl
set_option maxHeartbeats 1600000 in
theorem rof_c {B : Nat} {b : Nat} {a : Option Addr} {c : Nat} {m : Int} {L : List Ct} (s : ByteArray) (w : World) (h : RMt B w b a c m L) (hl : L.length ≤ 1000000) :
    Calls Tryd.prog 20 #[.pointer (some ⟨b, 0, none⟩), .string s] w fun e w' => e = .returned (.int .i64 (ofC s L)) ∧ w' = w := by
  obtain ⟨⟨c0, c1⟩, -⟩ := rbox h.box
  have hrow := hidden h.at
  obtain ⟨N, hN⟩ : ∃ N, N = L.length := ⟨_, rfl⟩
  rw [← hN] at hl c0
  replace hN := hidden hN
  clear h
  go_enter Tryd.func20, Tryd.ntmps20
  go_wp2
  go_loop [5] (fun i => ∃ k : Nat, i = .int .i64 k ∧ k ≤ N ∧ Hid (∀ j, j < k → (L.getD j Ct.none).s ≠ s)) (fun i => N - (intOf i).toNat)
  case atStart => exact ⟨0, rfl, Nat.zero_le _, fun j hj => absurd hj (Nat.not_lt_zero j)⟩
  case round =>
    obtain ⟨k, rfl, hk, hno⟩ := hrel
    by_cases hlt : k < N
    · have hlt' : (k : Int) < (N : Int) := by omega
      have hkL : k < L.length := by rw [← hN.out]; exact hlt
      obtain ⟨g, off, rfl, hg, d0, d1⟩ := count_at hrow.out hkL
      have hsk := hidden (ofC_skip s L k (by omega) hno.out)
      have hdr := hidden (show L.drop k = L.getD k Ct.none :: L.drop (k + 1) by rw [List.drop_eq_getElem_cons hkL]; simp [List.getD, hkL])
      have hno2 : Hid ((L.getD k Ct.none).s ≠ s → ∀ j, j < k + 1 → (L.getD j Ct.none).s ≠ s) := fun h j hj => by
        rcases Nat.lt_or_ge j k with h2 | h2
        · exact hno.out j h2
        · obtain rfl : j = k := by omega
          exact h
      rw [hdr.out] at hsk
      generalize L.getD k Ct.none = cc at *
      obtain ⟨cs, ck⟩ := cc
      simp only at d0 d1 hno2
      by_cases hs : cs = s
      · subst hs
        have he1 : (cs.toList == cs.toList) = true := by simp
        have hfin : Hid (ofC cs L = ck) := by show _ = _; rw [hsk.out]; simp [ofC]
        clear hsk hdr hno2 hno
        go_wp2
        go_ret
        exact ⟨by rw [hfin.out]; rfl, rfl⟩
      · have he2 : ¬ cs.toList = s.toList := fun h => hs (txt_inj h)
        have he1 : (cs.toList == s.toList) = false := by simpa using he2
        have hno3 := hidden (hno2.out hs)
        clear hsk hdr hno2 hno hs
        go_wp2
        go_round
        case rel => exact ⟨k + 1, by go_num, by omega, hno3⟩
        case measure => simp [intOf]; omega
    · have hlt' : ¬ (k : Int) < (N : Int) := by omega
      have hfin : Hid (ofC s L = 0) := by
        show _ = _
        rw [ofC_skip s L k (by rw [← hN.out]; exact hk) hno.out, List.drop_of_length_le (by rw [← hN.out]; omega)]
        rfl
      clear hno
      go_wp2
      go_ret
      exact ⟨by rw [hfin.out]; rfl, rfl⟩
set_option maxRecDepth 100000 in
set_option maxHeartbeats 3200000 in
theorem rnames_c {B : Nat} {b : Nat} {a : Option Addr} {c : Nat} {m : Int} {L : List Ct} (w : World) (h : RMt B w b a c m L) (hlen : L.length ≤ 100000) :
    Calls Tryd.prog 22 #[.pointer (some ⟨b, 0, none⟩)] w fun e w' => ∃ a c, e = .returned (.slice a L.length c) ∧
      w'.ownsRow w.heap.size 9 1 (.slice a L.length c) L.length (tx (namesC L)) ∧ Below w.heap.size w w' := by
  obtain ⟨i0, hi, hz0, hz1, hz2⟩ := info_parts infoTy
  obtain ⟨N, hN⟩ : ∃ N, N = L.length := ⟨_, rfl⟩
  have hNL := hidden hN
  rw [← hN] at hlen
  replace hN := hidden hN
  replace h := hidden h
  have hR0 := hidden (World.ownsRow_lit (base := w.heap.size) (e := 9) (size := 1) w #[] 0 (Nat.le_refl _) (by decide) rfl)
  have hB0 : Hid (Below w.heap.size w (w.alloc (.cells #[] 9))) := (Below.refl _ _).alloc (Nat.le_refl _) _
  go_enter Tryd.func22, Tryd.ntmps22
  go_wp2
  go_loopw [3, 4] (fun v i x => ∃ k : Nat, i = .int .i64 k ∧ k ≤ N ∧ Hid (x.ownsRow w.heap.size 9 1 v k (tx (namesC (L.take k)))) ∧ Hid (Below w.heap.size w x)) (fun _ i _ => N - (intOf i).toNat)
  case atStart => exact ⟨0, rfl, Nat.zero_le _, hR0.out, hB0⟩
  case round =>
    clear hR0 hB0
    obtain ⟨k, rfl, hk, hrow, hB⟩ := hrel
    have hM2 := hidden (h.out.below hB.out)
    obtain ⟨⟨q0, q1⟩, -⟩ := rbox hM2.out.box
    rw [← hN.out] at q0
    obtain ⟨va, vc, rfl⟩ := own_shapeT hrow.out
    by_cases hlt : k < N
    · have hlt' : (k : Int) < (N : Int) := by omega
      have hkL : k < L.length := by rw [← hN.out]; exact hlt
      obtain ⟨g, off, rfl, hg, d0, d1⟩ := count_at hM2.out.at hkL
      have htk : Hid (namesC (L.take (k + 1)) = namesC (L.take k) ++ [(L.getD k Ct.none).s]) := by
        show _ = _
        rw [take_snocR L Ct.none k hkL]
        simp [namesC]
      generalize (L.getD k Ct.none).s = ln at *
      clear hM2 q1 d1
      go_wp2_with (first
        | (at_builtin; go_loud (refine wpList_append_own _ rfl _ _ 39 rfl w.heap.size 9 i0 (.string ⟨#[]⟩) 1 16 Tryd.underlying39 hi hz0 hz1 hz2 rfl (by decide) _ _ _ rfl (hrow.out.alloc _) ⟨wr.heap.size, 0, none⟩ 1 1 [.string ln] rfl rfl (cells_new wr [_] _) (by simp [Value.oneCell']) (by unfold maxLen; omega) (by omega) (by have := hB.out.size; simp; omega) ?_); intro v' w4 hown' hg4 hnil4)
        | fail)
      all_goals
        first
          | (have hrowd := hown'; skip)
          | skip
      have hB4 := hidden ((hB.out.alloc hB.out.size (.cells #[.string ln] 9)).grown hg4 (by have := hB.out.size; simp; omega) (fun j hj => (hrow.out.lt j hj).1))
      rw [show tx (namesC (L.take k)) ++ [.string ln] = tx (namesC (L.take (k + 1))) by rw [htk.out]; simp [tx]] at hown'
      replace hown' := hidden hown'
      clear hg4 hnil4 hrow htk hrowd
      go_wp2
      go_roundw
      case rel => exact ⟨k + 1, by go_num, by omega, hown', hB4⟩
      case measure => simp [intOf]; omega
    · have hlt' : ¬ (k : Int) < (N : Int) := by omega
      obtain rfl : k = N := by omega
      have htk : L.take k = L := List.take_of_length_le (by rw [← hN.out]; exact Nat.le_refl _)
      rw [htk] at hrow
      clear hM2
      go_wp2
      go_ret
      exact ⟨va, vc, by rw [← hNL.out]; rfl, by rw [← hNL.out]; exact hrow.out, hB.out⟩
def dblC (L : List Ct) : List Ct := L.map fun c => ⟨c.s, 2 * c.k⟩
theorem join_self (L : List Ct) (hs : StrictT (namesC L)) : ∀ k, k ≤ L.length → joinC L (L.take k) = dblC (L.take k) ++ L.drop k
  | 0, _ => by simp [joinC, dblC]
  | k + 1, hk => by
    have hkL : k < L.length := by omega
    rw [joinC_snoc L L k hkL, join_self L hs k (by omega)]
    have hl : (dblC (L.take k)).length = k := by simp [dblC]; omega
    have hd : L.drop k = L.getD k Ct.none :: L.drop (k + 1) := by rw [List.drop_eq_getElem_cons hkL]; simp [List.getD, hkL]
    have hat : (dblC (L.take k) ++ L.drop k).getD k Ct.none = L.getD k Ct.none := by
      rw [hd]
      simp [List.getD, hl, List.getElem?_append_right]
    rw [addC_same _ _ _ k (by rw [List.length_append, hl, List.length_drop]; omega) (fun i hi => ?_) (by rw [hat]), hat]
    · rw [List.set_append_right _ _ (by omega), hl, Nat.sub_self, hd, List.set_cons_zero, take_snocR L Ct.none k hkL]
      simp only [dblC, List.map_append, List.map_cons, List.map_nil, List.append_assoc, List.singleton_append]
      congr 2
      have : (L.getD k Ct.none).k + (L.getD k Ct.none).k = 2 * (L.getD k Ct.none).k := by omega
      rw [this]
    · have h1 : (dblC (L.take k) ++ L.drop k).getD i Ct.none = ⟨(L.getD i Ct.none).s, 2 * (L.getD i Ct.none).k⟩ := by
        have hiL : i < L.length := by omega
        have e : (dblC (L.take k) ++ L.drop k)[i]? = some ⟨(L.getD i Ct.none).s, 2 * (L.getD i Ct.none).k⟩ := by
          rw [List.getElem?_append_left (by rw [hl]; exact hi)]
          simp [dblC, hi, hiL, List.getD, List.getElem?_take]
        rw [List.getD, e]; rfl
      rw [h1]
      have hp := List.pairwise_iff_getElem.1 hs i k (by simp [namesC]; omega) (by simpa [namesC] using hkL) hi
      simp only [namesC, List.getElem_map] at hp
      have hiL : i < L.length := by omega
      simpa [List.getD, hiL, hkL] using hp
theorem dbl_same (L : List Ct) (hs : StrictT (namesC L)) : joinC L L = dblC L := by
  have h := join_self L hs L.length (Nat.le_refl _)
  rwa [List.take_length, List.drop_length, List.append_nil] at h
end Go.Proofs.YtoijkbnjcnedjaaDoor
