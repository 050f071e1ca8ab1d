/-
  THE PROGRAM's Put: all numbers' bytes, one behind the other, by its contract.
-/
import Derived.Test.YtcdkpeikjnpmhabGreatVPut
namespace Go.Proofs.YtcdkpeikjnpmhabGreat
open Go.ChangeShapes Go.WideShapes Go.ChangeAt Go.RowKit

def u8v (c : UInt8) : Value := .int .u8 (c.toNat : Int)
def bts (us : List Nat) : List UInt8 := us.flatMap put
theorem bts_snoc (us : List Nat) (u : Nat) : bts (us ++ [u]) = bts us ++ put u := by simp [bts]
theorem infoU8 : (Tryz.prog.info? 5).map (fun i => (i.zero, i.size, i.bytes)) = some (some (.int .u8 0), 1, 1) := by kernel_rfl

theorem or128 : ∀ n : Fin 256, bits .or .u8 (n.val : Int) 128 = ((128 + n.val % 128 : Nat) : Int) := by decide +kernel
theorem high (u : Nat) : bits .or .u8 ((u : Int) % 256) 128 = ((UInt8.ofNat (128 + u % 128)).toNat : Int) := by
  have e : (u : Int) % 256 = ((u % 256 : Nat) : Int) := by omega
  have h : bits .or .u8 ((u % 256 : Nat) : Int) 128 = ((128 + u % 256 % 128 : Nat) : Int) := or128 ⟨u % 256, by omega⟩
  have h2 : u % 256 % 128 = u % 128 := by omega
  have h3 : 128 + u % 128 < 256 := by omega
  rw [e, h, UInt8.toNat_ofNat', h2, Nat.mod_eq_of_lt h3]
theorem low (u : Nat) (h : u < 128) : IntKind.u8.wrap (u : Int) = ((UInt8.ofNat u).toNat : Int) := by
  rw [IntKind.wrap_u8, UInt8.toNat_ofNat', Nat.mod_eq_of_lt (by omega)]; omega

theorem pushes : ∀ (acc : List UInt8) (r : ByteArray), (acc.map fun c => (c.toNat : Int)).foldl (fun r n => r.push (UInt8.ofNat n.toNat)) r = ⟨(r.data.toList ++ acc).toArray⟩
  | [], r => by simp
  | c :: acc, r => by
    rw [List.map_cons, List.foldl_cons, pushes acc]
    congr 1
    simp [ByteArray.push]
theorem conv_row (W : World) (base : Nat) (v : Value) (acc : List UInt8) (h : W.ownsRow base 5 1 v acc.length (acc.map u8v)) :
    (convert 80 9 v).run Tryz.prog W = .ok (str acc) W := by
  rcases h.2 with ⟨rfl, h0⟩ | ⟨g, cap, cur, rfl, hb, hg, hn, hm, hs, ht⟩
  · obtain rfl : acc = [] := List.eq_nil_of_length_eq_zero h0
    rw [run_convert_bytes_string (P := Tryz.prog) _ 80 9 5 _ _ _ Tryz.underlying80 Tryz.underlying5 Tryz.underlying9]
    rfl
  · rw [run_convert_bytes_string (P := Tryz.prog) _ 80 9 5 _ _ _ Tryz.underlying80 Tryz.underlying5 Tryz.underlying9]
    have hc : ∀ j, j < acc.length → W.cell? ((⟨g, 0, none⟩ : Addr).add j) = some (Value.int .u8 ((acc.getD j 0).toNat : Int)) := fun j hj => by
      have h1 := h.cellAt j (by omega)
      have h2 : (⟨g, 0, none⟩ : Addr).add j = ⟨g, j, none⟩ := by
        by_cases h0 : j = 0
        · subst h0; simp [Addr.add]
        · simp [Addr.add, h0]
      rw [h2, h1]
      simp [u8v, List.getD, hj]
    rw [run_bytesToString (P := Tryz.prog) W ⟨g, 0, none⟩ acc.length cap (acc.map fun c => (c.toNat : Int)) (by
      rw [run_loadCells (P := Tryz.prog) W ⟨g, 0, none⟩ acc.length _ hc]
      congr 1
      apply Array.ext'
      apply List.ext_getElem?
      intro j
      by_cases hj : j < acc.length
      · simp [hj]
      · simp [hj])]
    rw [pushes]
    rfl

set_option maxHeartbeats 1600000 in
set_option maxRecDepth 1000000 in
theorem put_c (v : Value) (us : List Nat) (w : World) (hv : Holds w v (us.map fun (u : Nat) => Value.int .u64 (u : Int))) (hz : us.length ≤ 1000) (hus : ∀ u ∈ us, u < 18446744073709551616) :
    Calls Tryz.prog 22 #[v] w fun e w' => e = .returned (str (bts us)) ∧ Below w.heap.size w w' := by
  obtain ⟨a, cap, rfl, hrow⟩ := hv
  rw [List.length_map]
  obtain ⟨i0, hi, hz0, hz1, hz2⟩ := info_parts infoU8
  go_enter Tryz.func22, Tryz.ntmps22
  go_wp2
  go_loopw [3, 8] (fun b i wr => ∃ j : Nat, j ≤ us.length ∧ i = .int .i64 j ∧ wr.ownsRow w.heap.size 5 1 b (bts (us.take j)).length ((bts (us.take j)).map u8v) ∧ Hid ((bts (us.take j)).length ≤ 11 * j) ∧ Below w.heap.size w wr)
    (fun _ i _ => us.length - (intOf i).toNat)
  case atStart => exact ⟨0, Nat.zero_le _, rfl, World.ownsRow_nil _ _ _ _, Nat.le_refl _, Below.refl _ _⟩
  case round =>
    obtain ⟨j, hj, rfl, hown, hlen, hnx⟩ := hrel
    by_cases hlt : j < us.length
    · rcases hrow with h0 | ⟨b, off, rfl, hb, hc⟩
      · simp only [List.map_eq_nil_iff] at h0; subst h0; simp at hlt
      have hcx : wr.cell? ⟨b, off + j, none⟩ = some (.int .u64 ((us.getD j 0 : Nat) : Int)) := (hnx.cell (by exact hb)).trans (hc j _ (by simp [hlt]))
      have hu := hus (us.getD j 0) (by simp [List.getD, hlt])
      have htk : us.take (j + 1) = us.take j ++ [us.getD j 0] := by rw [List.take_add_one, List.getElem?_eq_getElem hlt]; simp [List.getD, hlt]
      have hT : Hid (bts (us.take (j + 1)) = bts (us.take j) ++ put (us.getD j 0)) := by rw [htk, bts_snoc]; rfl
      have hput : Hid ((put (us.getD j 0)).length ≤ 11) := putF_len 11 _
      clear hc htk
      generalize us.getD j 0 = u at *
      have hrel0 : ∃ f U : Nat, ∃ acc : List UInt8, (f ≤ 10 ∧ U < 128 ^ (f + 1)) ∧ U < 18446744073709551616 ∧ Hid (acc ++ putF (f + 1) U = bts (us.take (j + 1))) ∧ acc.length ≤ 11 * j + 11 ∧ u = U ∧ acc = bts (us.take j) :=
        ⟨10, u, _, ⟨by omega, Nat.lt_of_lt_of_le hu (by decide)⟩, hu, hT.out.symm, by have := hlen.out; omega, rfl, rfl⟩
      have hTot : Hid ((bts (us.take (j + 1))).length ≤ 11 * (j + 1)) := by
        show _ ≤ _
        have h1 := hlen.out
        have h2 := hput.out
        rw [hT.out, List.length_append]; omega
      clear hT hput
      go_wp2
      go_loopw [3, 5] (fun b uv wr2 => ∃ f U : Nat, ∃ acc : List UInt8, uv = .int .u64 (U : Int) ∧ U < 18446744073709551616 ∧ wr2.ownsRow w.heap.size 5 1 b acc.length (acc.map u8v) ∧ Hid (U < 128 ^ (f + 1) ∧ acc ++ putF (f + 1) U = bts (us.take (j + 1))) ∧ Below w.heap.size w wr2)
        (fun _ uv _ => (intOf uv).toNat)
      case atStart =>
        obtain ⟨f, U, acc, h1, h2, h3, h4, rfl, rfl⟩ := hrel0
        exact ⟨f, _, _, rfl, h2, hown, ⟨h1.2, h3.out⟩, hnx⟩
      case round =>
        obtain ⟨f, U, acc, rfl, hU, hown2, hH, hnx2⟩ := hrel
        have hal : acc.length ≤ 11 * j + 11 := by
          have h1 := congrArg List.length hH.out.2
          have h2 := hTot.out
          rw [List.length_append] at h1
          omega
        have hsz2 := hnx2.size
        clear hrel0 hcx hown hnx hu
        by_cases h128 : U < 128
        · have hU' : (U : Int) < 128 := by omega
          have hlo := low U h128
          have hT2 : Hid (bts (us.take (j + 1)) = acc ++ [UInt8.ofNat U]) := by
            show _ = _
            rw [← hH.out.2]
            have e : ∀ n v, putF (n + 1) v = if v < 128 then [UInt8.ofNat v] else UInt8.ofNat (128 + v % 128) :: putF n (v / 128) := fun _ _ => rfl
            rw [e, if_pos h128]
          have hcu : Hid (u8v (UInt8.ofNat U) = .int .u8 (U : Int)) := by
            show Value.int _ _ = _
            rw [← hlo, IntKind.wrap_u8]
            congr 1; omega
          clear hH hlo
          generalize UInt8.ofNat U = c at *
          go_wp2_with (at_builtin; refine wpList_append_own _ rfl _ _ 80 rfl w.heap.size 5 i0 (.int .u8 0) 1 1 Tryz.underlying80 hi hz0 hz1 hz2 rfl (by decide) _ _ _ rfl (hown2.alloc _) ⟨wr.heap.size, 0, none⟩ 1 1 [.int .u8 (U : Int)] rfl rfl (cell_one_new _ _ _) ?c2 ?c3 ?c4 ?c5 ?_)
          case c2 => intro x hx; simp at hx; subst hx; rfl
          case c3 => unfold maxLen; omega
          case c4 => omega
          case c5 => simp; omega
          · intro v' w1 hown' hgrow _
            have hB : Below w.heap.size w w1 := (hnx2.alloc (by omega) _).grown hgrow (by simp; omega) (fun j hj => by have := (hown2.lt j hj).1; omega)
            have hown3 : w1.ownsRow w.heap.size 5 1 v' (acc ++ [c]).length ((acc ++ [c]).map u8v) := by rw [List.map_append, List.map_singleton, hcu.out]; simpa using hown'
            clear hgrow hown2 hown' hnx2
            go_wp2
            go_roundw
            case rel => exact ⟨j + 1, by omega, by go_num, by rw [hT2.out]; exact hown3, hTot, hB⟩
            case measure => simp [intOf]; omega
        · have hU' : (128 : Int) ≤ U := by omega
          have hhi := high U
          have hf : ∃ g, f = g + 1 := by
            cases f with
            | zero => exact absurd hH.out.1 (by simp; omega)
            | succ g => exact ⟨g, rfl⟩
          obtain ⟨g, rfl⟩ := hf
          have hH2 : Hid (U / 128 < 128 ^ (g + 1) ∧ (acc ++ [UInt8.ofNat (128 + U % 128)]) ++ putF (g + 1) (U / 128) = bts (us.take (j + 1))) := by
            obtain ⟨h1, h2⟩ := hH.out
            refine ⟨by rw [Nat.div_lt_iff_lt_mul (by decide)]; rwa [Nat.pow_succ] at h1, ?_⟩
            rw [← h2, List.append_assoc]
            congr 1
            have e : ∀ n v, putF (n + 1) v = if v < 128 then [UInt8.ofNat v] else UInt8.ofNat (128 + v % 128) :: putF n (v / 128) := fun _ _ => rfl
            rw [e (g + 1), if_neg h128]; rfl
          clear hH
          generalize UInt8.ofNat (128 + U % 128) = c at *
          go_wp2_with (at_builtin; refine wpList_append_own _ rfl _ _ 80 rfl w.heap.size 5 i0 (.int .u8 0) 1 1 Tryz.underlying80 hi hz0 hz1 hz2 rfl (by decide) _ _ _ rfl (hown2.alloc _) ⟨wr.heap.size, 0, none⟩ 1 1 [.int .u8 (c.toNat : Int)] rfl rfl (cell_one_new _ _ _) ?c2 ?c3 ?c4 ?c5 ?_)
          case c2 => intro x hx; simp at hx; subst hx; rfl
          case c3 => unfold maxLen; omega
          case c4 => omega
          case c5 => simp; omega
          · intro v' w1 hown' hgrow _
            have hB : Below w.heap.size w w1 := (hnx2.alloc (by omega) _).grown hgrow (by simp; omega) (fun j hj => by have := (hown2.lt j hj).1; omega)
            have hown3 : w1.ownsRow w.heap.size 5 1 v' (acc ++ [c]).length ((acc ++ [c]).map u8v) := by
              have e : u8v c = .int .u8 (c.toNat : Int) := rfl
              rw [List.map_append, List.map_singleton, e]; simpa using hown'
            clear hgrow hown2 hown' hnx2 hhi hi hz0 hz1 hz2
            go_wp2
            go_roundw
            case rel => exact ⟨g, U / 128, _, by first | rfl | simp, by omega, hown3, hH2, hB⟩
            case measure => simp [intOf]; omega
    · obtain rfl : j = us.length := by omega
      rw [List.take_length] at hown
      have hcv := conv_row wr w.heap.size _ (bts us) hown
      go_wp2
      go_ret
      exact ⟨rfl, hnx⟩
end Go.Proofs.YtcdkpeikjnpmhabGreat
