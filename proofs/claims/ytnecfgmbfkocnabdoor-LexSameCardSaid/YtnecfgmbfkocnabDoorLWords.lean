/-
  A QUERY'S WORDS IN MEMORY OF THEIR OWN, by contract.
-/
import Derived.Test.YtnecfgmbfkocnabDoorGCmp
import Derived.Test.YtnecfgmbfkocnabDoorCut
import Derived.WalkSmall
namespace Go.Proofs.YtnecfgmbfkocnabDoor
open Go.ChangeShapes Go.WideShapes Go.ChangeAt Go.RowKit

/-- A word: its kind and text, its value's kind, number and text, and its place. -/
structure Wd where
  k : Int
  t : ByteArray
  vk : Int
  vn : Int
  vt : ByteArray
  p : Int
def Wd.enc (x : Wd) : List Value := [.int .i64 x.k, .string x.t, .int .i64 x.vk, .int .i64 x.vn, .string x.vt, .int .i64 x.p]
def Wd.none : Wd := ⟨0, ⟨#[]⟩, 0, 0, ⟨#[]⟩, 0⟩
def wordR : Rec Wd := ⟨Wd.enc, 6, by decide, fun _ => rfl, fun x u hu => by simp [Wd.enc] at hu; rcases hu with rfl | rfl | rfl | rfl | rfl | rfl <;> rfl, Wd.none⟩
def Wd.cut (x : Wd) : Wd := ⟨x.k, cutB x.t 40, x.vk, x.vn, cutB x.vt 120, x.p⟩
theorem word_at {w : World} {a : Option Addr} {ps : List Wd} (h : RowAt w a (wordR.flat ps)) {k : Nat} (hk : k < ps.length) :
    ∃ b off, a = some ⟨b, off, none⟩ ∧ b < w.heap.size ∧ w.cell? ⟨b, off + k * 6, none⟩ = some (.int .i64 (ps.getD k Wd.none).k) ∧ w.cell? ⟨b, off + k * 6 + 1, none⟩ = some (.string (ps.getD k Wd.none).t) ∧ w.cell? ⟨b, off + k * 6 + 2, none⟩ = some (.int .i64 (ps.getD k Wd.none).vk) ∧
      w.cell? ⟨b, off + k * 6 + 3, none⟩ = some (.int .i64 (ps.getD k Wd.none).vn) ∧ w.cell? ⟨b, off + k * 6 + 4, none⟩ = some (.string (ps.getD k Wd.none).vt) ∧ w.cell? ⟨b, off + k * 6 + 5, none⟩ = some (.int .i64 (ps.getD k Wd.none).p) := by
  obtain ⟨b, off, h1, h2, h3⟩ := rec_at h hk
  exact ⟨b, off, h1, h2, h3 0 _ rfl, h3 1 _ rfl, h3 2 _ rfl, h3 3 _ rfl, h3 4 _ rfl, h3 5 _ rfl⟩
theorem box6f {x : World} {b : Nat} {c0 c1 c2 c3 c4 c5 : Value} {t : TypeId} (h : x.heap[b]? = some (.cells #[c0, c1, c2, c3, c4, c5] t)) :
    (x.cell? ⟨b, 0, none⟩ = some c0 ∧ x.cell? ⟨b, 1, none⟩ = some c1 ∧ x.cell? ⟨b, 2, none⟩ = some c2 ∧ x.cell? ⟨b, 3, none⟩ = some c3 ∧ x.cell? ⟨b, 4, none⟩ = some c4 ∧ x.cell? ⟨b, 5, none⟩ = some c5) ∧
    x.frozen? ⟨b, 0, none⟩ = false ∧ x.frozen? ⟨b, 1, none⟩ = false ∧ x.frozen? ⟨b, 2, none⟩ = false ∧ x.frozen? ⟨b, 3, none⟩ = false ∧ x.frozen? ⟨b, 4, none⟩ = false ∧ x.frozen? ⟨b, 5, none⟩ = false := by
  simp [World.cell?, World.frozen?, h]
theorem infoW : (Tryd.prog.info? 31).map (fun i => (i.zero, i.size, i.bytes)) = some (some (.agg #[.int .i64 0, .string ⟨#[]⟩, .int .i64 0, .int .i64 0, .string ⟨#[]⟩, .int .i64 0]), 6, 64) := by kernel_rfl
theorem heap_setW {x : World} {b : Nat} {cs : Array Value} {t : TypeId} (h : x.heap[b]? = some (.cells cs t)) (j : Nat) (v : Value) : (x.setCell ⟨b, j, none⟩ v).heap[b]? = some (.cells (cs.setIfInBounds j v) t) := by
  simp [World.setCell, Array.getElem?_modify, h]
set_option maxRecDepth 100000 in
set_option maxHeartbeats 1600000 in
theorem wfew_c (v : Value) (ps : List Wd) (w : World) (hv : HoldsR wordR w v ps) (_hz : ps.length ≤ 9223372036854775807) :
    Calls Tryd.prog 4 #[v] w fun e w' => ∃ a n c, e = .returned (.slice a n c) ∧ SlR wordR w' (.slice a n c) ((ps.take 10).map Wd.cut) ∧ Below w.heap.size w w' := by
  obtain ⟨a, cap, rfl, hrow⟩ := hv
  obtain ⟨i0, hi, hz0, hz1, hz2⟩ := info_parts infoW
  replace hrow := hidden hrow
  have hcut := fun s m x hm => cut_c s m x hm
  go_enter Tryd.func4, Tryd.ntmps4
  go_wp2
  go_loopw [3, 4] (fun u i wr => ∃ k : Nat, k ≤ ps.length ∧ k ≤ 10 ∧ i = .int .i64 k ∧ Hid (wr.ownsRow w.heap.size 31 6 u k (wordR.flat ((ps.take k).map Wd.cut))) ∧ u.oneCell' = true ∧ Hid (Below w.heap.size w wr))
    (fun _ i _ => ps.length - (intOf i).toNat)
  case atStart => exact ⟨0, Nat.zero_le _, Nat.zero_le _, rfl, World.ownsRow_made w #[] 0 (Nat.le_refl _) (by unfold maxLen; omega) rfl, rfl, (Below.refl _ _).alloc (Nat.le_refl _) _⟩
  case round =>
    obtain ⟨k, hk, hkm, rfl, hown, hone, hnx⟩ := hrel
    by_cases hlt : k < ps.length ∧ k < 10
    · obtain ⟨hk1, hk2⟩ := hlt
      obtain ⟨b, off, rfl, hb, hc1, hc2, hc3, hc4, hc5, hc6⟩ := word_at hrow.out hk1
      have hx1 := (hnx.out.cell (p := ⟨b, off + k * 6, none⟩) (by exact hb)).trans hc1
      have hx2 := (hnx.out.cell (p := ⟨b, off + k * 6 + 1, none⟩) (by exact hb)).trans hc2
      have hx3 := (hnx.out.cell (p := ⟨b, off + k * 6 + 2, none⟩) (by exact hb)).trans hc3
      have hx4 := (hnx.out.cell (p := ⟨b, off + k * 6 + 3, none⟩) (by exact hb)).trans hc4
      have hx5 := (hnx.out.cell (p := ⟨b, off + k * 6 + 4, none⟩) (by exact hb)).trans hc5
      have hx6 := (hnx.out.cell (p := ⟨b, off + k * 6 + 5, none⟩) (by exact hb)).trans hc6
      have hsz := hidden hnx.out.size
      have htk := hidden (take_snocR ps Wd.none k hk1)
      clear hc1 hc2 hc3 hc4 hc5 hc6
      generalize ps.getD k Wd.none = p at *
      obtain ⟨pk, pt, pvk, pvn, pvt, pp⟩ := p
      simp only at hx1 hx2 hx3 hx4 hx5 hx6
      have hX := hidden (heap_alloc_new wr (.cells #[.int .i64 pk, .string pt, .int .i64 pvk, .int .i64 pvn, .string pvt, .int .i64 pp] 31))
      obtain ⟨⟨b0, b1, b2, b3, b4, b5⟩, f0, f1, f2, f3, f4, f5⟩ := box6f hX.out
      have hcw := hidden (show wordR.flat ((ps.take (k + 1)).map Wd.cut) = wordR.flat ((ps.take k).map Wd.cut) ++ [.int .i64 pk, .string (cutB pt 40), .int .i64 pvk, .int .i64 pvn, .string (cutB pvt 120), .int .i64 pp] by
        rw [htk.out, List.map_append, Rec.flat_app]; rfl)
      have hc1 := fun x => hcut pt 40 x (by decide)
      have hc2 := fun x => hcut pvt 120 x (by decide)
      generalize cutB pt 40 = qt at *
      generalize cutB pvt 120 = qv at *
      have hX2 : Hid ((World.heap (wr.alloc (.cells #[.int .i64 pk, .string qt, .int .i64 pvk, .int .i64 pvn, .string qv, .int .i64 pp] 31)).drew)[wr.heap.size]? = some (.cells #[.int .i64 pk, .string qt, .int .i64 pvk, .int .i64 pvn, .string qv, .int .i64 pp] 31)) := heap_alloc_new wr _
      have hB2 : Hid (Below w.heap.size w (wr.alloc (.cells #[.int .i64 pk, .string qt, .int .i64 pvk, .int .i64 pvn, .string qv, .int .i64 pp] 31)).drew) := (hnx.out.alloc hsz.out _).drew
      have hown2 : Hid (World.ownsRow (wr.alloc (.cells #[.int .i64 pk, .string qt, .int .i64 pvk, .int .i64 pvn, .string qv, .int .i64 pp] 31)).drew w.heap.size 31 6 u3 k (wordR.flat ((ps.take k).map Wd.cut))) := owns_keep hown.out (((Below.refl _ _).alloc (Nat.le_refl _) _).drew)
      have hsz2 : Hid (w.heap.size ≤ (World.heap (wr.alloc (.cells #[.int .i64 pk, .string qt, .int .i64 pvk, .int .i64 pvn, .string qv, .int .i64 pp] 31)).drew).size) := by have := hsz.out; show _ ≤ (wr.heap.push _).size; simp; omega
      clear hcut htk hX hown
      go_wp2_with fail
      go_region_with (first
        | (go_at_call_of 10 (Value.string pt); refine (hc1 _).mono ?_; rintro e _ ⟨rfl, rfl⟩)
        | (go_at_call_of 10 (Value.string pvt); refine (hc2 _).mono ?_; rintro e _ ⟨rfl, rfl⟩))
      all_goals
        clear b0 b1 b2 b3 b4 b5 f0 f1 f2 f3 f4 f5 hx1 hx2 hx3 hx4 hx5 hx6 hc1 hc2 hnx
        generalize hwx : (wr.alloc (.cells #[.int .i64 pk, .string qt, .int .i64 pvk, .int .i64 pvn, .string qv, .int .i64 pp] 31)).drew = wx at *
        obtain ⟨⟨b0, b1, b2, b3, b4, b5⟩, -⟩ := box6f hX2.out
        replace hwx := hidden hwx
        go_wp2_with (at_builtin; go_loud (refine wpList_append_own _ rfl _ _ 22 rfl w.heap.size 31 i0 (.agg #[.int .i64 0, .string ⟨#[]⟩, .int .i64 0, .int .i64 0, .string ⟨#[]⟩, .int .i64 0]) 6 64 Tryd.underlying22 hi hz0 hz1 hz2 rfl (by decide) _ _ _ rfl (hown2.out.alloc _) ⟨wx.heap.size, 0, none⟩ 1 1 [.int .i64 pk, .string qt, .int .i64 pvk, .int .i64 pvn, .string qv, .int .i64 pp] rfl rfl (cells_new _ [_, _, _, _, _, _] _) (by intro u hu; simp at hu; rcases hu with rfl | rfl | rfl | rfl | rfl | rfl <;> rfl) (by unfold maxLen; omega) (by omega) (by have := hsz2.out; simp; omega) ?_); intro v' w1 hown' hgrow _)
        have hB3 : Hid (Below w.heap.size w w1) := (hB2.out.alloc hsz2.out _).grown hgrow (by have := hsz2.out; simp; omega) (fun j hj => by have := (hown2.out.lt j hj).1; omega)
        have hown3 : Hid (w1.ownsRow w.heap.size 31 6 v' (k + 1) (wordR.flat ((ps.take (k + 1)).map Wd.cut))) := by
          show World.ownsRow _ _ _ _ _ _ _
          rw [hcw.out]
          exact hown'
        have hone' : v'.oneCell' = true := by
          rcases hown'.2 with ⟨rfl, _⟩ | ⟨_, _, _, rfl, _⟩ <;> rfl
        clear hgrow hown' hown2 hB2 hX2 hwx b0 b1 b2 b3 b4 b5 hsz2 hsz hcw
        go_wp2
        go_roundw
        case rel => exact ⟨k + 1, by omega, by omega, by go_num, hown3, hone', hB3⟩
        case measure => simp [intOf]; omega
    · have hlen : ((ps.take k).map Wd.cut).length = k := by rw [List.length_map, List.length_take]; omega
      have hfin : Hid (SlR wordR wr u3 ((ps.take 10).map Wd.cut)) := by
        have e : ps.take 10 = ps.take k := by
          by_cases hk1 : k < ps.length
          · rw [show k = 10 by omega]
          · rw [List.take_of_length_le (by omega), List.take_of_length_le (by omega)]
        show SlR _ _ _ _
        rw [e]
        refine slR_of_owns (base := w.heap.size) (e := 31) ?_
        rw [hlen]; exact hown.out
      obtain ⟨a1, n1, c1, rfl⟩ : ∃ a n c, u3 = .slice a n c := by
        obtain ⟨a, c, h, _⟩ := hfin.out
        exact ⟨a, _, c, h⟩
      clear hown hlen
      by_cases hk1 : k < ps.length
      · have hk2 : ¬ k < 10 := fun h => hlt ⟨hk1, h⟩
        clear hlt
        go_wp2
        go_ret
        exact ⟨_, _, _, rfl, hfin.out, hnx.out⟩
      · clear hlt
        go_wp2
        go_ret
        exact ⟨_, _, _, rfl, hfin.out, hnx.out⟩
end Go.Proofs.YtnecfgmbfkocnabDoor
