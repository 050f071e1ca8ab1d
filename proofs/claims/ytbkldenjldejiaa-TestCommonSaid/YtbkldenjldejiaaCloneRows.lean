/-
  A SLICE OF SLICES CLONED, by contract.
-/
import Derived.Test.YtbkldenjldejiaaSl
import Derived.Test.YtbkldenjldejiaaRefBase
import Derived.BigQuiet
namespace Go.Proofs.Ytbkldenjldejiaa
open Go.ChangeShapes Go.WideShapes Go.ChangeAt Go.RowKit

theorem infoRow : (Try.prog.info? 22).map (fun i => (i.zero, i.size, i.bytes)) = some (some (.slice none 0 0), 1, 24) := by kernel_rfl
set_option maxRecDepth 20000 in
set_option maxHeartbeats 800000 in
theorem clone_c (g og cap : Nat) (rows : List Value) (w : World) (h : Sl w (.slice (some ⟨g, og, none⟩) rows.length cap) rows) (hc1 : ∀ u ∈ rows, u.oneCell' = true) (hl : rows.length ≤ 1000) :
    Calls Try.prog 12 #[.slice (some ⟨g, og, none⟩) rows.length cap] w fun e w' =>
      ∃ c k, e = .returned (.slice (some ⟨c, 0, none⟩) rows.length k) ∧ w'.ownsRow w.heap.size 22 1 (.slice (some ⟨c, 0, none⟩) rows.length k) rows.length rows ∧ Below w.heap.size w w' := by
  obtain ⟨i0, hi, hz0, hz1, hz2⟩ := info_parts infoRow
  have hne : ∀ x : World, Sem.run Try.prog (binOp BinOp.eql 32 (.slice (some ⟨g, og, none⟩) rows.length cap) (.slice none 0 0)) x = .ok (.bool false) x := fun x => by rfl
  go_enter Try.func12, Try.ntmps12
  have hw := (Below.refl w.heap.size w).alloc (Nat.le_refl _) (.cells #[] 22)
  have hown := World.ownsRow_made (base := w.heap.size) (e := 22) (size := 1) w #[] 0 (Nat.le_refl _) (by unfold maxLen; omega) rfl
  have hsz : w.heap.size ≤ (w.alloc (.cells #[] 22)).heap.size := hw.size
  replace hw := hidden hw
  replace hown := hidden hown
  replace hsz := hidden hsz
  go_wp2_with (at_builtin; refine wpList_app rfl _ _ 32 rfl w.heap.size 22 i0 (.slice none 0 0) 24 Try.underlying32 hi hz0 hz1 hz2 rfl (by rfl) hown.out (by rfl) (h.below hw.out) hc1 (by unfold maxLen; omega) (by omega) hsz.out ?_; intro v1 w1 hown1 hgrow1 hsm1)
  have hB1 := hw.out.grown hgrow1 hsz.out (fun j hj => (hown.out.lt j hj).1)
  have hne1 : v1 ≠ .slice none 0 0 := fun h => by have := hsm1 h; cases this
  obtain ⟨c, k, rfl, -, -⟩ := own_some hown1 hne1
  have hfin := hidden hown1
  have hfb := hidden hB1
  clear hown1 hgrow1 hsm1 hB1 hw hown hsz
  go_wp2
  go_ret
  refine ⟨c, k, ?_, ?_, hfb.out⟩
  · simp
  · simpa using hfin.out
end Go.Proofs.Ytbkldenjldejiaa
