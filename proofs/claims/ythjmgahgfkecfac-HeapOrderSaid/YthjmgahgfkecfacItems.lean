/-
  ITEMS COPIED, somewhat cut: by contract.
-/
import Derived.Test.YthjmgahgfkecfacOpenIL
import Derived.Test.YthjmgahgfkecfacItem
import Derived.Test.YthjmgahgfkecfacSl
namespace Go.Proofs.Ythjmgahgfkecfac
open Go.ChangeShapes Go.WideShapes Go.ChangeAt Go.RowKit

theorem infoIt : (Try.prog.info? 24).map (fun i => (i.zero, i.size, i.bytes)) = some (some (.agg #[.int .i64 0, .slice none 0 0, .int .i64 0, .int .i64 0]), 4, 48) := by kernel_rfl
theorem cell_four_new (w : World) (a b c d : Value) (t : TypeId) : ∀ j u, [a, b, c, d][j]? = some u → (w.alloc (.cells #[a, b, c, d] t)).cell? ((⟨w.heap.size, 0, none⟩ : Addr).add j) = some u := by
  intro j u hj
  have e : (w.alloc (.cells #[a, b, c, d] t)).heap[w.heap.size]? = some (.cells #[a, b, c, d] t) := by
    show (w.heap.push _)[w.heap.size]? = _
    simp
  rw [add_plainI, Nat.zero_add]
  simp only [World.cell?, e]
  simpa using hj
theorem take_snocY (ys : List It) (k : Nat) (hk : k < ys.length) : ys.take (k + 1) = ys.take k ++ [ys.getD k It.none] := by
  rw [List.take_add_one, List.getElem?_eq_getElem hk]; simp [List.getD, hk]
theorem hiddenY {p : Prop} (h : p) : Hid p := h
set_option maxHeartbeats 1600000 in
set_option maxRecDepth 20000 in
theorem items_c (v : Value) (ys : List It) (m : Nat) (w : World) (hv : HoldsIL w v ys) (hz : ys.length ≤ 9223372036854775807) (hzz : ∀ y ∈ ys, y.l.length ≤ 9223372036854775807) (hm : m ≤ 1000) :
    Calls Try.prog 5 #[v, .int .i64 m] w fun e w' =>
      ∃ v', e = .returned v' ∧ ∃ xs, w'.ownsRow w.heap.size 24 4 v' (ys.take m).length xs ∧ ItsIn 3 w' xs ((ys.take m).map fun y => y.few 5) ∧ Below w.heap.size w w' := by
  have hvk := hiddenY hv
  obtain ⟨a, cap, rfl, hrow⟩ := hv
  obtain ⟨i0, hi, hz0, hz1, hz2⟩ := info_parts infoIt
  replace hzz := hiddenY hzz
  go_enter Try.func5, Try.ntmps5
  go_wp2
  go_loopw [5, 6] (fun u i wr => ∃ (k : Nat) (xs : List Value), k ≤ ys.length ∧ k ≤ m ∧ i = .int .i64 k ∧ Hid (wr.ownsRow w.heap.size 24 4 u (ys.take k).length xs) ∧ Hid (ItsIn 3 wr xs ((ys.take k).map fun y => y.few 5)) ∧ Hid (Below w.heap.size w wr))
    (fun _ i _ => ys.length - (intOf i).toNat)
  case atStart => exact ⟨0, [], Nat.zero_le _, Nat.zero_le _, rfl, World.ownsRow_made w #[] 0 (Nat.le_refl _) (by unfold maxLen; omega) rfl, .nil, (Below.refl _ _).alloc (Nat.le_refl _) _⟩
  case round =>
    obtain ⟨k, xs, hk, hkm, rfl, hown, hits, hnx⟩ := hrel
    by_cases hlt : k < ys.length ∧ k < m
    · obtain ⟨hk1, hk2⟩ := hlt
      obtain ⟨b, off, rfl, nv, hit⟩ : ∃ b off, a = some ⟨b, off, none⟩ ∧ ∃ nv, ItAt wr b (off + k * 4) (ys.getD k It.none) nv := by
        rcases hrow with h0 | ⟨b, off, h1, hb, hc⟩
        · exact absurd h0 (fun e => by rw [e] at hk1; simp at hk1)
        · obtain ⟨nv, h⟩ := hc k hk1
          exact ⟨b, off, h1, nv, h.below (hnx.out.mono (Nat.le_refl _))⟩
      have hyl : Hid ((ys.getD k It.none).l.length ≤ 9223372036854775807) := by
        have e : ys.getD k It.none = ys[k] := by simp [List.getD, hk1]
        show _ ≤ _
        rw [e]
        exact hzz.out _ (List.getElem_mem hk1)
      have hsz := hnx.out.size
      have htk : (ys.take k).length = k := by rw [List.length_take]; omega
      have hts := hiddenY (take_snocY ys k hk1)
      generalize ys.getD k It.none = y at *
      obtain ⟨c0, c1, c2, c3, hn⟩ := hit
      have hcall := itemO_c y nv wr hn hyl.out
      obtain ⟨an, kn, hnv, -⟩ := hn
      generalize hnl : (y.l.map (Value.int .i64)).length = nl at hnv
      subst hnv
      have hj1 : (k : Int) < (ys.length : Int) := by omega
      have hj2 : (k : Int) < (m : Int) := by omega
      replace hnl := hiddenY hnl
      replace hsz := hiddenY hsz
      unfold itV at hcall
      go_wp2_with fail
      refine hcall.mono ?_
      rintro e w1 ⟨nv', rfl, hnv', hB1⟩
      clear hcall c0 c1 c2 c3
      have hown1 := owns_keep hown.out hB1
      have hits1 := hiddenY ((hits.out.kept hB1).snoc hnv')
      have hB2 : Hid (Below w.heap.size w w1) := hnx.out.trans (hB1.mono hsz.out)
      have hle : Hid (w.heap.size ≤ w1.heap.size) := hB2.out.size
      obtain ⟨a5, k5, rfl, -⟩ := holds_of_owns hnv'
      generalize (((y.few 5).l.map (Value.int .i64)).length) = n5 at *
      clear hown hits hnx hB1 hyl hnl hsz hnv'
      go_wp2_with (at_builtin; refine wpList_append_own _ rfl _ _ 25 rfl w.heap.size 24 i0 (.agg #[.int .i64 0, .slice none 0 0, .int .i64 0, .int .i64 0]) 4 48 Try.underlying25 hi hz0 hz1 hz2 rfl (by decide) _ _ _ rfl (hown1.alloc _) ⟨w1.heap.size, 0, none⟩ 1 1 [.int .i64 (y.few 5).c, .slice a5 n5 k5, .int .i64 (y.few 5).p, .int .i64 (y.few 5).r] rfl rfl (cell_four_new _ _ _ _ _ _) ?c2 ?c3 ?c4 ?c5 ?_)
      case c2 => intro u hu; simp at hu; rcases hu with rfl | rfl | rfl | rfl <;> rfl
      case c3 => rw [htk]; unfold maxLen; omega
      case c4 => rw [htk]; omega
      case c5 => have := hle.out; simp; omega
      · intro v' w2 hown' hgrow _
        have hlt2 : (ys.take (k + 1)).length = k + 1 := by rw [List.length_take]; omega
        have hB3 : Hid (Below w.heap.size w w2) := (hB2.out.alloc hle.out _).grown hgrow (by have := hle.out; simp; omega) (fun j hj => by have := (hown1.lt j hj).1; omega)
        have hits2 : Hid (ItsIn 3 w2 (xs ++ cellsI (y.few 5) (.slice a5 n5 k5)) ((ys.take (k + 1)).map fun y => y.few 5)) := by
          show ItsIn _ _ _ _
          rw [hts.out, List.map_append]
          exact (hits1.out.kept ((Below.refl _ _).alloc (Nat.le_refl _) _)).grown (hown1.alloc _) (by decide) hgrow
        have hown2 : Hid (w2.ownsRow w.heap.size 24 4 v' (ys.take (k + 1)).length (xs ++ cellsI (y.few 5) (.slice a5 n5 k5))) := by
          show World.ownsRow _ _ _ _ _ _ _
          rw [hlt2]; exact hown'
        clear hgrow hown1 hown' hits1 hB2
        go_wp2
        go_roundw
        case rel => exact ⟨k + 1, _, by omega, by omega, by go_num, hown2, hits2, hB3⟩
        case measure => simp [intOf]; omega
    · have e : ys.take m = ys.take k := by
        rcases Nat.lt_or_ge k ys.length with h | h
        · obtain rfl : k = m := by omega
          rfl
        · rw [List.take_of_length_le h, List.take_of_length_le (by omega)]
      have hfo : Hid (wr.ownsRow w.heap.size 24 4 u5 (min m ys.length) xs) := by
        have h := hown.out
        rwa [← e, List.length_take] at h
      have hfi : Hid (ItsIn 3 wr xs ((ys.take m).map fun y => y.few 5)) := by
        show ItsIn _ _ _ _
        rw [e]; exact hits.out
      clear hown hits e
      by_cases hk1 : k < ys.length
      · have hk2 : ¬ k < m := fun h => hlt ⟨hk1, h⟩
        have hj1 : (k : Int) < (ys.length : Int) := by omega
        have hj2 : ¬ (k : Int) < (m : Int) := by omega
        clear hlt
        go_wp2
        go_ret
        exact ⟨_, rfl, xs, hfo.out, by first | exact hfi.out | simpa using hfi.out, hnx.out⟩
      · have hj1 : ¬ (k : Int) < (ys.length : Int) := by omega
        clear hlt
        go_wp2
        go_ret
        exact ⟨_, rfl, xs, hfo.out, by first | exact hfi.out | simpa using hfi.out, hnx.out⟩
end Go.Proofs.Ythjmgahgfkecfac
