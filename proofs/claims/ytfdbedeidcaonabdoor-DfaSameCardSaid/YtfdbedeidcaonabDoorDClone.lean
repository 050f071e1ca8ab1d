/-
  AN AUTOMATON IN MEMORY OF ITS OWN: rows copied, by contract.
-/
import Derived.Test.YtfdbedeidcaonabDoorDRel
namespace Go.Proofs.YtfdbedeidcaonabDoor
open Go.ChangeShapes Go.WideShapes Go.ChangeAt Go.RowKit

theorem infoSC : (Tryd.prog.info? 33).map (fun i => (i.zero, i.size, i.bytes)) = some (some (.agg #[.string ⟨#[]⟩, .bool false]), 2, 24) := by kernel_rfl
theorem infoIC : (Tryd.prog.info? 3).map (fun i => (i.zero, i.size, i.bytes)) = some (some (.int .i64 0), 1, 8) := by kernel_rfl
theorem infoBC : (Tryd.prog.info? 4).map (fun i => (i.zero, i.size, i.bytes)) = some (some (.bool false), 1, 1) := by kernel_rfl
set_option maxHeartbeats 3200000 in
set_option maxRecDepth 100000 in
theorem symclone_c (a : Option Addr) (c : Nat) (ps : List Sy) (w : World) (hv : RowAt w a (symR.flat ps)) (hx : ps.length ≤ 1000) (hc : a = none → c = 0) :
    Calls Tryd.prog 11 #[.slice a ps.length c] w fun e w' => ∃ a' c', e = .returned (.slice a' ps.length c') ∧ w'.ownsRow w.heap.size 33 2 (.slice a' ps.length c') ps.length (symR.flat ps) ∧ Below w.heap.size w w' := by
  obtain ⟨i0, hi, hz0, hz1, hz2⟩ := info_parts infoSC
  match a, hv, hc with
  | none, hv, hc =>
    obtain rfl := hc rfl
    obtain rfl : ps = [] := by
      rcases hv with h0 | ⟨b, off, h, _⟩
      · have := congrArg List.length h0
        rw [Rec.flat_len] at this
        have : ps.length * 2 = 0 := this
        exact List.eq_nil_of_length_eq_zero (by omega)
      · cases h
    have hB : Hid (Below w.heap.size w w) := Below.refl _ _
    have hne : ∀ x : World, Sem.run Tryd.prog (binOp BinOp.eql 22 (.slice none 0 0) (.slice none 0 0)) x = .ok (.bool true) x := fun x => by rfl
    simp only [List.length_nil]
    go_enter Tryd.func11, Tryd.ntmps11
    go_wp2
    go_ret
    exact ⟨_, _, rfl, World.ownsRow_nil .., hB.out⟩
  | some ad, hv, _ =>
    have hnews : ∀ j u, (symR.flat ps)[j]? = some u → w.cell? (ad.add j) = some u := by
      intro j u hj
      rcases hv with h0 | ⟨b, off, h, _, h3⟩
      · rw [h0] at hj; cases hj
      · cases h
        rw [add_plain]; exact h3 j u hj
    have hbl : ∀ j u, (symR.flat ps)[j]? = some u → (w.alloc (.cells #[] 33)).cell? (ad.add j) = some u := fun j u hj => by
      have h := hnews j u hj
      rcases hv with h0 | ⟨b, off, h', hb, h3⟩
      · rw [h0] at hj; cases hj
      · cases h'
        exact (((Below.refl w.heap.size w).alloc (Nat.le_refl _) _).cell (p := (⟨b, off, none⟩ : Addr).add j) (by rw [add_plain]; exact hb)).trans h
    have hne : ∀ x : World, Sem.run Tryd.prog (binOp BinOp.eql 22 (.slice (some ad) ps.length c) (.slice none 0 0)) x = .ok (.bool false) x := fun x => by rfl
    replace hnews := hidden hnews
    replace hv := hidden hv
    replace hbl := hidden hbl
    go_enter Tryd.func11, Tryd.ntmps11
    go_wp2_with (at_builtin; go_loud (refine wpList_append_own _ rfl _ _ 22 rfl w.heap.size 33 i0 (.agg #[.string ⟨#[]⟩, .bool false]) 2 24 Tryd.underlying22 hi hz0 hz1 hz2 rfl (by decide) _ _ _ rfl (World.ownsRow_made w #[] 0 (Nat.le_refl _) (by unfold maxLen; omega) rfl) ad ps.length c (symR.flat ps) rfl (Rec.flat_len ps) hbl.out (Rec.flat_one_cell ps) (by unfold maxLen; omega) (by omega) (by simp) ?_); intro v' w1 hown' hgrow _)
    have hB3 : Hid (Below w.heap.size w w1) := ((Below.refl _ _).alloc (Nat.le_refl _) _).grown hgrow (by simp) (fun j hj => by cases hj; exact Nat.le_refl _)
    simp only [Nat.zero_add, List.nil_append] at hown'
    have hH := hidden hown'
    have hS := hidden (slR_of_owns hown')
    obtain ⟨a1, c1, rfl⟩ : ∃ a c, v' = .slice a ps.length c := by
      obtain ⟨a, c, h, _⟩ := hS.out
      exact ⟨a, c, h⟩
    clear hgrow hown' hS
    go_wp2
    go_ret
    exact ⟨_, _, rfl, hH.out, hB3.out⟩
set_option maxHeartbeats 3200000 in
set_option maxRecDepth 100000 in
theorem boolclone_c (a : Option Addr) (c : Nat) (ps : List Bool) (w : World) (hv : RowAt w a (boolR.flat ps)) (hx : ps.length ≤ 1000) (hc : a = none → c = 0) :
    Calls Tryd.prog 12 #[.slice a ps.length c] w fun e w' => ∃ a' c', e = .returned (.slice a' ps.length c') ∧ w'.ownsRow w.heap.size 4 1 (.slice a' ps.length c') ps.length (boolR.flat ps) ∧ Below w.heap.size w w' := by
  obtain ⟨i0, hi, hz0, hz1, hz2⟩ := info_parts infoBC
  match a, hv, hc with
  | none, hv, hc =>
    obtain rfl := hc rfl
    obtain rfl : ps = [] := by
      rcases hv with h0 | ⟨b, off, h, _⟩
      · have := congrArg List.length h0
        rw [Rec.flat_len] at this
        have : ps.length * 1 = 0 := this
        exact List.eq_nil_of_length_eq_zero (by omega)
      · cases h
    have hB : Hid (Below w.heap.size w w) := Below.refl _ _
    have hne : ∀ x : World, Sem.run Tryd.prog (binOp BinOp.eql 24 (.slice none 0 0) (.slice none 0 0)) x = .ok (.bool true) x := fun x => by rfl
    simp only [List.length_nil]
    go_enter Tryd.func12, Tryd.ntmps12
    go_wp2
    go_ret
    exact ⟨_, _, rfl, World.ownsRow_nil .., hB.out⟩
  | some ad, hv, _ =>
    have hnews : ∀ j u, (boolR.flat ps)[j]? = some u → w.cell? (ad.add j) = some u := by
      intro j u hj
      rcases hv with h0 | ⟨b, off, h, _, h3⟩
      · rw [h0] at hj; cases hj
      · cases h
        rw [add_plain]; exact h3 j u hj
    have hbl : ∀ j u, (boolR.flat ps)[j]? = some u → (w.alloc (.cells #[] 4)).cell? (ad.add j) = some u := fun j u hj => by
      have h := hnews j u hj
      rcases hv with h0 | ⟨b, off, h', hb, h3⟩
      · rw [h0] at hj; cases hj
      · cases h'
        exact (((Below.refl w.heap.size w).alloc (Nat.le_refl _) _).cell (p := (⟨b, off, none⟩ : Addr).add j) (by rw [add_plain]; exact hb)).trans h
    have hne : ∀ x : World, Sem.run Tryd.prog (binOp BinOp.eql 24 (.slice (some ad) ps.length c) (.slice none 0 0)) x = .ok (.bool false) x := fun x => by rfl
    replace hnews := hidden hnews
    replace hv := hidden hv
    replace hbl := hidden hbl
    go_enter Tryd.func12, Tryd.ntmps12
    go_wp2_with (at_builtin; go_loud (refine wpList_append_own _ rfl _ _ 24 rfl w.heap.size 4 i0 (.bool false) 1 1 Tryd.underlying24 hi hz0 hz1 hz2 rfl (by decide) _ _ _ rfl (World.ownsRow_made w #[] 0 (Nat.le_refl _) (by unfold maxLen; omega) rfl) ad ps.length c (boolR.flat ps) rfl (Rec.flat_len ps) hbl.out (Rec.flat_one_cell ps) (by unfold maxLen; omega) (by omega) (by simp) ?_); intro v' w1 hown' hgrow _)
    have hB3 : Hid (Below w.heap.size w w1) := ((Below.refl _ _).alloc (Nat.le_refl _) _).grown hgrow (by simp) (fun j hj => by cases hj; exact Nat.le_refl _)
    simp only [Nat.zero_add, List.nil_append] at hown'
    have hH := hidden hown'
    have hS := hidden (slR_of_owns hown')
    obtain ⟨a1, c1, rfl⟩ : ∃ a c, v' = .slice a ps.length c := by
      obtain ⟨a, c, h, _⟩ := hS.out
      exact ⟨a, c, h⟩
    clear hgrow hown' hS
    go_wp2
    go_ret
    exact ⟨_, _, rfl, hH.out, hB3.out⟩
set_option maxHeartbeats 3200000 in
set_option maxRecDepth 100000 in
theorem intclone_c (a : Option Addr) (c : Nat) (ps : List Int) (w : World) (hv : RowAt w a (intR.flat ps)) (hx : ps.length ≤ 1000) (hc : a = none → c = 0) :
    Calls Tryd.prog 13 #[.slice a ps.length c] w fun e w' => ∃ a' c', e = .returned (.slice a' ps.length c') ∧ w'.ownsRow w.heap.size 3 1 (.slice a' ps.length c') ps.length (intR.flat ps) ∧ Below w.heap.size w w' := by
  obtain ⟨i0, hi, hz0, hz1, hz2⟩ := info_parts infoIC
  match a, hv, hc with
  | none, hv, hc =>
    obtain rfl := hc rfl
    obtain rfl : ps = [] := by
      rcases hv with h0 | ⟨b, off, h, _⟩
      · have := congrArg List.length h0
        rw [Rec.flat_len] at this
        have : ps.length * 1 = 0 := this
        exact List.eq_nil_of_length_eq_zero (by omega)
      · cases h
    have hB : Hid (Below w.heap.size w w) := Below.refl _ _
    have hne : ∀ x : World, Sem.run Tryd.prog (binOp BinOp.eql 28 (.slice none 0 0) (.slice none 0 0)) x = .ok (.bool true) x := fun x => by rfl
    simp only [List.length_nil]
    go_enter Tryd.func13, Tryd.ntmps13
    go_wp2
    go_ret
    exact ⟨_, _, rfl, World.ownsRow_nil .., hB.out⟩
  | some ad, hv, _ =>
    have hnews : ∀ j u, (intR.flat ps)[j]? = some u → w.cell? (ad.add j) = some u := by
      intro j u hj
      rcases hv with h0 | ⟨b, off, h, _, h3⟩
      · rw [h0] at hj; cases hj
      · cases h
        rw [add_plain]; exact h3 j u hj
    have hbl : ∀ j u, (intR.flat ps)[j]? = some u → (w.alloc (.cells #[] 3)).cell? (ad.add j) = some u := fun j u hj => by
      have h := hnews j u hj
      rcases hv with h0 | ⟨b, off, h', hb, h3⟩
      · rw [h0] at hj; cases hj
      · cases h'
        exact (((Below.refl w.heap.size w).alloc (Nat.le_refl _) _).cell (p := (⟨b, off, none⟩ : Addr).add j) (by rw [add_plain]; exact hb)).trans h
    have hne : ∀ x : World, Sem.run Tryd.prog (binOp BinOp.eql 28 (.slice (some ad) ps.length c) (.slice none 0 0)) x = .ok (.bool false) x := fun x => by rfl
    replace hnews := hidden hnews
    replace hv := hidden hv
    replace hbl := hidden hbl
    go_enter Tryd.func13, Tryd.ntmps13
    go_wp2_with (at_builtin; go_loud (refine wpList_append_own _ rfl _ _ 28 rfl w.heap.size 3 i0 (.int .i64 0) 1 8 Tryd.underlying28 hi hz0 hz1 hz2 rfl (by decide) _ _ _ rfl (World.ownsRow_made w #[] 0 (Nat.le_refl _) (by unfold maxLen; omega) rfl) ad ps.length c (intR.flat ps) rfl (Rec.flat_len ps) hbl.out (Rec.flat_one_cell ps) (by unfold maxLen; omega) (by omega) (by simp) ?_); intro v' w1 hown' hgrow _)
    have hB3 : Hid (Below w.heap.size w w1) := ((Below.refl _ _).alloc (Nat.le_refl _) _).grown hgrow (by simp) (fun j hj => by cases hj; exact Nat.le_refl _)
    simp only [Nat.zero_add, List.nil_append] at hown'
    have hH := hidden hown'
    have hS := hidden (slR_of_owns hown')
    obtain ⟨a1, c1, rfl⟩ : ∃ a c, v' = .slice a ps.length c := by
      obtain ⟨a, c, h, _⟩ := hS.out
      exact ⟨a, c, h⟩
    clear hgrow hown' hS
    go_wp2
    go_ret
    exact ⟨_, _, rfl, hH.out, hB3.out⟩
end Go.Proofs.YtfdbedeidcaonabDoor
