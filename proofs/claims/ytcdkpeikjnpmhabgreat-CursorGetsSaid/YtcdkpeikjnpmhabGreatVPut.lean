/-
  A NUMBER's BYTES: Put, the reference's and the program's, by contract.
-/
import Derived.Test.YtcdkpeikjnpmhabGreatVMath
import Derived.Laws.BytesString
import Derived.Laws.Concat
namespace Go.Proofs.YtcdkpeikjnpmhabGreat
open Go.ChangeShapes Go.WideShapes Go.ChangeAt Go.RowKit

def str (l : List UInt8) : Value := .string ⟨l.toArray⟩
theorem str_append (a b : List UInt8) : (⟨a.toArray⟩ : ByteArray) ++ (⟨b.toArray⟩ : ByteArray) = ⟨(a ++ b).toArray⟩ := by
  apply ByteArray.ext
  simp

theorem add_str (a b : List UInt8) (W : World) (h : a.length + b.length ≤ 9223372036854775807) :
    (binOp .add 9 (str a) (str b)).run Tryz.prog W = .ok (str (a ++ b)) W := by
  have e := run_string_add_sum (P := Tryz.prog) W ⟨a.toArray⟩ ⟨b.toArray⟩ (by simpa [ByteArray.size] using h)
  rw [ByteArray.mk_append_mk] at e
  unfold str
  simp [binOp, e]
theorem conv_cell (W : World) (b x : Nat) (h : W.cell? ⟨b, 0, none⟩ = some (.int .u8 (x : Int))) :
    (convert 80 9 (.slice (some ⟨b, 0, none⟩) 1 1)).run Tryz.prog W = .ok (str [UInt8.ofNat x]) W := by
  rw [run_convert_bytes_string (P := Tryz.prog) _ 80 9 5 _ _ _ Tryz.underlying80 Tryz.underlying5 Tryz.underlying9]
  rw [run_bytesToString (P := Tryz.prog) W ⟨b, 0, none⟩ 1 1 [(x : Int)] (by
    have h := run_loadCells (P := Tryz.prog) W ⟨b, 0, none⟩ 1 (fun _ => .int .u8 (x : Int)) (fun j hj => by
      obtain rfl : j = 0 := by omega
      simpa [Addr.add] using h)
    simpa using h)]
  rfl
theorem cell_new (W : World) (x : Value) (t : TypeId) : (W.alloc (.cells #[x] t)).cell? ⟨W.heap.size, 0, none⟩ = some x := by
  exact cell_one_new W x t 0 x rfl
theorem conv_one (W : World) (x : Nat) :
    (convert 80 9 (.slice (some ⟨W.heap.size, 0, none⟩) 1 1)).run Tryz.prog (W.alloc (.cells #[.int .u8 (x : Int)] 5)) = .ok (str [UInt8.ofNat x]) (W.alloc (.cells #[.int .u8 (x : Int)] 5)) :=
  conv_cell _ _ _ (cell_new _ _ _)

set_option maxHeartbeats 800000 in
set_option maxRecDepth 100000 in
theorem rput_small (u : Nat) (w : World) (hu : u < 128) :
    Calls Tryz.prog 21 #[.int .u64 u] w fun e w' => e = .returned (str [UInt8.ofNat u]) ∧ Below w.heap.size w w' := by
  have hc := conv_one w u
  go_enter Tryz.func21, Tryz.ntmps21
  go_wp2
  go_ret
  exact ⟨rfl, (Below.refl _ _).alloc (Nat.le_refl _) _⟩
set_option maxHeartbeats 800000 in
set_option maxRecDepth 100000 in
theorem rput_c : ∀ (f u : Nat) (w : World), f ≤ 99 → u < 128 ^ (f + 1) → u < 18446744073709551616 →
    Calls Tryz.prog 21 #[.int .u64 u] w fun e w' => e = .returned (str (putF (f + 1) u)) ∧ Below w.heap.size w w'
  | f, u, w, hf0, h, hu => by
    by_cases hs : u < 128
    · have e : putF (f + 1) u = [UInt8.ofNat u] := by simp [putF, hs]
      rw [e]; exact rput_small u w hs
    · obtain ⟨f, rfl⟩ : ∃ g, f = g + 1 := by
        cases f with
        | zero => simp at h; omega
        | succ g => exact ⟨g, rfl⟩
      have ih := fun w => rput_c f (u / 128) w (by omega) (by rw [Nat.div_lt_iff_lt_mul (by decide)]; rwa [Nat.pow_succ] at h) (by omega)
      have e : putF (f + 1 + 1) u = UInt8.ofNat (128 + u % 128) :: putF (f + 1) (u / 128) := by rw [putF, if_neg hs]
      rw [e]
      have hrl := putF_len (f + 1) (u / 128)
      have hff : f ≤ 99 := by omega
      generalize putF (f + 1) (u / 128) = r at *
      have hX : IntKind.u8.wrap (IntKind.u64.wrap (128 + (u : Int).tmod 128)) = ((128 + u % 128 : Nat) : Int) := by
        rw [IntKind.wrap_u64, IntKind.wrap_u8, Int.tmod_eq_emod_of_nonneg (by omega)]; omega
      have hD : IntKind.u64.wrap ((u : Int) / 128) = ((u / 128 : Nat) : Int) := by rw [IntKind.wrap_u64]; omega
      generalize u / 128 = v at *
      have hc := fun W => conv_one W (128 + u % 128)
      generalize 128 + u % 128 = x at *
      have hc2 : ∀ W : World, (convert 80 9 (.slice (some ⟨W.heap.size, 0, none⟩) 1 1)).run Tryz.prog (W.alloc (.cells #[.int .u8 (x : Int)] 5)).drew = .ok (str [UInt8.ofNat x]) (W.alloc (.cells #[.int .u8 (x : Int)] 5)).drew := fun W => hc W.drew
      have ha := fun W => add_str [UInt8.ofNat x] r W (by have := hrl; simp; omega)
      go_enter Tryz.func21, Tryz.ntmps21
      go_wp2_with fail
      go_region_with (go_at_call 21; refine (ih _).mono ?_; rintro e w' ⟨rfl, hB⟩; try (have hcw := conv_cell w' w.heap.size x ((hB.cell (p := ⟨w.heap.size, 0, none⟩) (by simp)).trans (cell_new w (.int .u8 (x : Int)) 5))))
      all_goals go_wp2
      all_goals go_ret
      all_goals first
        | exact ⟨rfl, (((Below.refl _ _).alloc (Nat.le_refl _) _).drew).trans (hB.mono (by simp))⟩
        | exact ⟨rfl, ((Below.refl w.heap.size w).drew.trans hB).alloc (by have := hB.size; simpa using this) _⟩
end Go.Proofs.YtcdkpeikjnpmhabGreat
