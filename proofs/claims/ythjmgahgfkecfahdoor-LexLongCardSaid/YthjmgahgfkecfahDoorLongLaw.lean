/-
  THE LAW ITSELF, its own walk.
-/
import Derived.Test.YthjmgahgfkecfahDoorLongL
import Derived.Test.YthjmgahgfkecfahDoorXCodeG
namespace Go.Proofs.YthjmgahgfkecfahDoor
open Go.ChangeShapes Go.WideShapes Go.ChangeAt Go.RowKit

def u8v (c : UInt8) : Value := .int .u8 (c.toNat : Int)
def str (l : List UInt8) : Value := .string ⟨l.toArray⟩
theorem infoU8 : (Tryd.prog.info? 5).map (fun i => (i.zero, i.size, i.bytes)) = some (some (.int .u8 0), 1, 1) := by kernel_rfl
theorem pushes : ∀ (acc : List UInt8) (r : ByteArray), (acc.map fun c => (c.toNat : Int)).foldl (fun r n => r.push (UInt8.ofNat n.toNat)) r = ⟨(r.data.toList ++ acc).toArray⟩
  | [], r => by simp
  | c :: acc, r => by
    rw [List.map_cons, List.foldl_cons, pushes acc]
    congr 1
    simp [ByteArray.push]
theorem conv_row (W : World) (base : Nat) (v : Value) (acc : List UInt8) (h : W.ownsRow base 5 1 v acc.length (acc.map u8v)) :
    (convert 22 9 v).run Tryd.prog W = .ok (str acc) W := by
  rcases h.2 with ⟨rfl, h0⟩ | ⟨g, cap, cur, rfl, hb, hg, hn, hm, hs, ht⟩
  · obtain rfl : acc = [] := List.eq_nil_of_length_eq_zero h0
    rw [run_convert_bytes_string (P := Tryd.prog) _ 22 9 5 _ _ _ Tryd.underlying22 Tryd.underlying5 Tryd.underlying9]
    rfl
  · rw [run_convert_bytes_string (P := Tryd.prog) _ 22 9 5 _ _ _ Tryd.underlying22 Tryd.underlying5 Tryd.underlying9]
    have hc : ∀ j, j < acc.length → W.cell? ((⟨g, 0, none⟩ : Addr).add j) = some (Value.int .u8 ((acc.getD j 0).toNat : Int)) := fun j hj => by
      have h1 := h.cellAt j (by omega)
      have h2 : (⟨g, 0, none⟩ : Addr).add j = ⟨g, j, none⟩ := by
        by_cases h0 : j = 0
        · subst h0; simp [Addr.add]
        · simp [Addr.add, h0]
      rw [h2, h1]
      simp [u8v, List.getD, hj]
    rw [run_bytesToString (P := Tryd.prog) W ⟨g, 0, none⟩ acc.length cap (acc.map fun c => (c.toNat : Int)) (by
      rw [run_loadCells (P := Tryd.prog) W ⟨g, 0, none⟩ acc.length _ hc]
      congr 1
      apply Array.ext'
      apply List.ext_getElem?
      intro j
      by_cases hj : j < acc.length
      · simp [hj]
      · simp [hj])]
    rw [pushes]
    rfl

theorem cell_one_u8 (w : World) (a : Value) (t : TypeId) : ∀ j u, [a][j]? = some u → (w.alloc (.cells #[a] t)).cell? ((⟨w.heap.size, 0, none⟩ : Addr).add j) = some u := cell_one_new w a t
/-- The text that is made. -/
theorem rep_of (n : Nat) (c : UInt8) : Rep ⟨(List.replicate n c).toArray⟩ (⟨(List.replicate n c).toArray⟩ : ByteArray).size c := by
  have e : (⟨(List.replicate n c).toArray⟩ : ByteArray).size = n := by show (List.replicate n c).toArray.size = n; simp
  rw [e]; show (List.replicate n c).toArray.toList = _; simp
theorem rep_size (n : Nat) (c : UInt8) : (⟨(List.replicate n c).toArray⟩ : ByteArray).size = n := by show (List.replicate n c).toArray.size = n; simp
theorem calm_fin {w w1 w2 : World} (h : Below w.heap.size w w1) (hc : GoX.Calm w1 w2) : GoX.Calm w w2 := (GoX.Calm.of_below h).trans hc
/-- Where the bytes so far lie. -/
def Bts (w x : World) (v : Value) (k : Nat) (c : UInt8) : Prop := x.ownsRow w.heap.size 5 1 v k ((List.replicate k c).map u8v) ∧ Below w.heap.size w x
set_option maxHeartbeats 6400000 in
set_option maxRecDepth 100000 in
theorem law_c (u : Int) (wide : Bool) (w : World) (hu : 0 ≤ u) (hu2 : u ≤ 255) (hsig : ∀ k, k < 22 → w.cell? ⟨0, k, none⟩ = some (.string (siL.getD k ⟨#[]⟩)))
    (hlv : ∀ x, Below w.heap.size w x → Calls Tryd.prog 5 #[] x fun e w' => e = .returned (.bool true) ∧ GoX.Calm x w') :
    Calls Tryd.prog 3 #[.int .u8 u, .bool wide] w fun e w' => e = .returned (.bool true) ∧ GoX.Calm w w' := by
  obtain ⟨r, hr⟩ : ∃ r : Nat, (r : Int) = u % 10 := ⟨(u % 10).toNat, by omega⟩
  have hr2 : r < 10 := by omega
  have hg : 0 < w.heap.size := World.block_lt_of_cell? w ⟨0, 0, none⟩ (hsig 0 (by omega))
  have hsg := hiddenW (fun (x : World) (hB : Below w.heap.size w x) k (hk : k < 22) => (hB.cell (p := ⟨0, k, none⟩) hg).trans (hsig k hk))
  have hlv := hiddenW hlv
  clear hsig hg
  obtain ⟨i0, hi, hz0, hz1, hz2⟩ := info_parts infoU8
  have hrh := hiddenW hr
  cases wide with
  | true =>
    have hst : Hid (Bts w (w.alloc (.cells #[] 5)) (.slice (some ⟨w.heap.size, 0, none⟩) 0 0) 0 32) :=
      ⟨World.ownsRow_made w #[] 0 (Nat.le_refl _) (by unfold maxLen; omega) rfl, (Below.refl _ _).alloc (Nat.le_refl _) _⟩
    go_enter Tryd.func3, Tryd.ntmps3
    go_wp2_with fail
    go_loopw [5, 7] (fun v i x => ∃ k : Nat, (k : Int) ≤ 4091 + u % 10 ∧ i = .int .i64 k ∧ Hid (Bts w x v k 32))
      (fun _ i _ => (4091 + u % 10 - intOf i).toNat)
    case atStart => exact ⟨0, by omega, rfl, hst⟩
    case round =>
      obtain ⟨k, hk, rfl, hb⟩ := hrel
      by_cases hlt : (k : Int) < 4091 + u % 10
      · have hown := hb.out.1
        have hsz := hb.out.2.size
        go_wp2_with (at_builtin; refine wpList_append_own _ rfl _ _ 22 rfl w.heap.size 5 i0 (.int .u8 0) 1 1 Tryd.underlying22 hi hz0 hz1 hz2 rfl (by decide) _ _ _ rfl (hown.alloc _) ⟨wr.heap.size, 0, none⟩ 1 1 [.int .u8 32] rfl rfl (cell_one_new _ _ _) ?c2 ?c3 ?c4 ?c5 ?_)
        case c2 => intro u hu; simp at hu; subst hu; rfl
        case c3 => unfold maxLen; omega
        case c4 => omega
        case c5 => simp; omega
        intro v' w1 hown' hgrow _
        have hB : Below w.heap.size w w1 := (hb.out.2.alloc (by omega) _).grown hgrow (by simp; omega) (fun j hj => by have := (hown.lt j hj).1; omega)
        have hb2 : Hid (Bts w w1 v' (k + 1) 32) := ⟨by rw [List.replicate_succ', List.map_append, List.map_replicate]; exact hown', hB⟩
        clear hgrow hown hown' hB
        go_wp2
        go_roundw
        case rel => exact ⟨k + 1, by omega, by go_num, hb2⟩
        case measure => simp [intOf]; omega
      · have hkk : (k : Int) = 4091 + u % 10 := by omega
        have hown := hb.out.1
        have hcv := conv_row wr w.heap.size _ (List.replicate k 32) (by rw [List.length_replicate]; exact hown)
        unfold str at hcv
        have hrep := hiddenW (rep_of k 32)
        have hsz := rep_size k 32
        generalize (⟨(List.replicate k 32).toArray⟩ : ByteArray) = S at *
        have hB := hiddenW hb.out.2
        have hkr : Hid (k = 4091 + r) := by show _ = _; omega
        replace hrh := hiddenW hkk
        clear hown hb hk hr hlt
        rw [← hkk]
        by_cases h4096 : 4096 < k
        · have hwd := words_long S wr (by omega)
          have hk2 : (4096 : Int) < (k : Int) := by omega
          clear hkk
          go_wp2_with fail
          refine hwd.mono ?_
          rintro e w2 ⟨rfl, rfl⟩
          have hB2 := hB
          clear hwd hcv hkr hsz
          go_wp2_with fail
          refine (hlv.out _ hB2.out).mono ?_
          rintro e wz ⟨rfl, hC⟩
          have hfin := hiddenW (calm_fin hB2.out hC)
          clear hC
          go_wp2
          go_ret
          exact ⟨by simp, hfin.out⟩
        · have hwd := words_blank S wr hrep.out (by omega)
          have hk2 : ¬ (4096 : Int) < (k : Int) := by omega
          clear hkk
          go_wp2_with fail
          refine hwd.mono ?_
          rintro e w2 ⟨rfl, hBw⟩
          have hB2 := hiddenW (hB.out.trans (hBw.mono hB.out.size))
          clear hwd hBw hB hcv hkr hsz
          go_wp2_with fail
          refine (hlv.out _ hB2.out).mono ?_
          rintro e wz ⟨rfl, hC⟩
          have hfin := hiddenW (calm_fin hB2.out hC)
          clear hC
          go_wp2
          go_ret
          exact ⟨by simp, hfin.out⟩
  | false =>
    have hst : Hid (Bts w (w.alloc (.cells #[] 5)) (.slice (some ⟨w.heap.size, 0, none⟩) 0 0) 0 44) :=
      ⟨World.ownsRow_made w #[] 0 (Nat.le_refl _) (by unfold maxLen; omega) rfl, (Below.refl _ _).alloc (Nat.le_refl _) _⟩
    go_enter Tryd.func3, Tryd.ntmps3
    go_wp2_with fail
    go_loopw [5, 7] (fun v i x => ∃ k : Nat, (k : Int) ≤ 995 + u % 10 ∧ i = .int .i64 k ∧ Hid (Bts w x v k 44))
      (fun _ i _ => (995 + u % 10 - intOf i).toNat)
    case atStart => exact ⟨0, by omega, rfl, hst⟩
    case round =>
      obtain ⟨k, hk, rfl, hb⟩ := hrel
      by_cases hlt : (k : Int) < 995 + u % 10
      · have hown := hb.out.1
        have hsz := hb.out.2.size
        go_wp2_with (at_builtin; refine wpList_append_own _ rfl _ _ 22 rfl w.heap.size 5 i0 (.int .u8 0) 1 1 Tryd.underlying22 hi hz0 hz1 hz2 rfl (by decide) _ _ _ rfl (hown.alloc _) ⟨wr.heap.size, 0, none⟩ 1 1 [.int .u8 44] rfl rfl (cell_one_new _ _ _) ?c2 ?c3 ?c4 ?c5 ?_)
        case c2 => intro u hu; simp at hu; subst hu; rfl
        case c3 => unfold maxLen; omega
        case c4 => omega
        case c5 => simp; omega
        intro v' w1 hown' hgrow _
        have hB : Below w.heap.size w w1 := (hb.out.2.alloc (by omega) _).grown hgrow (by simp; omega) (fun j hj => by have := (hown.lt j hj).1; omega)
        have hb2 : Hid (Bts w w1 v' (k + 1) 44) := ⟨by rw [List.replicate_succ', List.map_append, List.map_replicate]; exact hown', hB⟩
        clear hgrow hown hown' hB
        go_wp2
        go_roundw
        case rel => exact ⟨k + 1, by omega, by go_num, hb2⟩
        case measure => simp [intOf]; omega
      · have hkk : (k : Int) = 995 + u % 10 := by omega
        have hown := hb.out.1
        have hcv := conv_row wr w.heap.size _ (List.replicate k 44) (by rw [List.length_replicate]; exact hown)
        unfold str at hcv
        have hrep := hiddenW (rep_of k 44)
        have hsz := rep_size k 44
        generalize (⟨(List.replicate k 44).toArray⟩ : ByteArray) = S at *
        have hB := hiddenW hb.out.2
        have hkr : Hid (k = 995 + r) := by show _ = _; omega
        replace hrh := hiddenW hkk
        clear hown hb hk hr hlt
        have hwd := words_comma S wr hrep.out (by have := hkr.out; omega) (hsg.out wr hB.out)
        rw [← hkk]
        by_cases h1000 : 1000 < k
        · have hk2 : (1000 : Int) < (k : Int) := by omega
          clear hkk
          go_wp2_with fail
          refine hwd.mono ?_
          rintro e w2 ⟨a, n, c, code, rfl, hR, hBw⟩
          obtain ⟨rfl, rfl⟩ := hR.1 (by omega)
          have hB2 := hiddenW (hB.out.trans (hBw.mono hB.out.size))
          clear hwd hBw hB hR hcv hkr hsz
          go_wp2_with fail
          refine (hlv.out _ hB2.out).mono ?_
          rintro e wz ⟨rfl, hC⟩
          have hfin := hiddenW (calm_fin hB2.out hC)
          clear hC
          go_wp2
          go_ret
          exact ⟨by simp, hfin.out⟩
        · have hk2 : ¬ (1000 : Int) < (k : Int) := by omega
          clear hkk
          go_wp2_with fail
          refine hwd.mono ?_
          rintro e w2 ⟨a, n, c, code, rfl, hR, hBw⟩
          obtain ⟨rfl, rfl⟩ := hR.2 (by omega)
          rw [hsz]
          have hB2 := hiddenW (hB.out.trans (hBw.mono hB.out.size))
          clear hwd hBw hB hR hcv hkr hsz
          go_wp2_with fail
          refine (hlv.out _ hB2.out).mono ?_
          rintro e wz ⟨rfl, hC⟩
          have hfin := hiddenW (calm_fin hB2.out hC)
          clear hC
          go_wp2
          go_ret
          exact ⟨by simp, hfin.out⟩
end Go.Proofs.YthjmgahgfkecfahDoor
