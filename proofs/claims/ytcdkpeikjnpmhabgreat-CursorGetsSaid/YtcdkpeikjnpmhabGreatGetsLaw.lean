/-
  BYTES THAT ARE GOT ARE JUST THOSE THAT ARE PUT: the law's own walk.
-/
import Derived.Test.YtcdkpeikjnpmhabGreatMkGet
namespace Go.Proofs.YtcdkpeikjnpmhabGreat
open Go.ChangeShapes Go.WideShapes Go.ChangeAt Go.RowKit

theorem calm_heapG {x y : World} {b : Nat} {o : Obj} (h : GoX.Calm x y) (hb : x.heap[b]? = some o) : y.heap[b]? = some o := (h.block _ (Array.getElem?_eq_some_iff.1 hb).1).trans hb
theorem min_of_good {n : Nat} (h : badZ (nodeG n) = false) : (nodeG n).toNat = n := by
  have := badZ_no h
  unfold nodeG at *
  omega
theorem rowG_back {l : List Nat} (h : (l.map nodeG).any badZ = false) : (l.map nodeG).map Int.toNat = l := by
  induction l with
  | nil => rfl
  | cons a l ih =>
    simp only [List.map_cons, List.any_cons, Bool.or_eq_false_iff] at h
    rw [List.map_cons, List.map_cons, ih h.2, min_of_good h.1]
theorem nums_back {us : List Nat} (hok : okG us = true) (hg : goodM (mkG us) = true) : numsM (mkG us) = us := by
  obtain ⟨h0, h1, h2, h3, h4⟩ := of_decide_eq_true hok
  have hrow : (((us.drop 4).take (us.length - 5)).map nodeG).any badZ = false := good_row hg
  have hb := rowG_back hrow
  match us, h0, h1, h3, h4 with
  | a :: b :: c :: d :: rest, h0, h1, h3, h4 =>
    simp only [List.getD_cons_zero, List.getD_cons_succ] at h1 h3 h4
    simp only [List.length_cons] at h0 h4 hb
    have hr : rest ≠ [] := fun e => by subst e; simp at h0
    have hd : d = rest.length - 1 := by omega
    unfold numsM mkG rowG
    simp only [List.length_cons, List.getD_cons_zero, List.getD_cons_succ]
    have e1 : rest.length + 1 + 1 + 1 + 1 - 5 = rest.length - 1 := by omega
    have e2 : (a :: b :: c :: d :: rest).drop 4 = rest := rfl
    rw [e1, e2] at hb ⊢
    have e3 : (a :: b :: c :: d :: rest).getD (rest.length + 1 + 1 + 1 + 1 - 1) 0 = rest.getLast hr := by
      have : rest.length + 1 + 1 + 1 + 1 - 1 = (rest.length - 1) + 4 := by
        have := List.length_pos_iff.2 hr
        omega
      rw [this]
      show rest.getD (rest.length - 1) 0 = _
      rw [List.getLast_eq_getElem]
      simp [List.getD, show rest.length - 1 < rest.length by have := List.length_pos_iff.2 hr; omega]
    rw [e3, hb]
    have e4 : (if (c == 1) = true then 1 else 0) = c := by
      by_cases h : c = 1
      · subst h; rfl
      · have : c = 0 := by omega
        subst this; rfl
    have e5 : ((rest.take (rest.length - 1)).map nodeG).length = d := by
      rw [List.length_map, List.length_take]; omega
    rw [e5]
    have e6 : rest.take (rest.length - 1) ++ [rest.getLast hr] = rest := by
      rw [← List.dropLast_eq_take]; exact List.dropLast_concat_getLast hr
    subst h1
    simp only [Int.toNat_natCast, e4, List.cons_append, List.nil_append]
    rw [e6]
theorem getG_some {us : List Nat} {ec : Nat} {m : Mk} (h : getG us ec = some m) : ec = 0 ∧ okG us = true ∧ goodM m = true ∧ m = mkG us := by
  unfold getG at h
  split at h
  · rename_i h1
    cases h
    exact ⟨h1.1, h1.2.1, h1.2.2, rfl⟩
  · cases h
set_option maxHeartbeats 3200000 in
set_option maxRecDepth 100000 in
theorem law_c (hlv : ∀ x, Calls Tryz.prog 8 #[] x fun e w' => e = .returned (.bool true) ∧ GoX.Calm x w') (s : ByteArray) (w : World) :
    Calls Tryz.prog 3 #[.string s] w fun e w' => e = .returned (.bool true) ∧ GoX.Calm w w' := by
  have hcut := cut_c s 60 w (by omega)
  have hsz := cutB_size s 60
  obtain ⟨L, hL⟩ : ∃ L, Hid (cutB s 60 = bytesOf L) := ⟨(cutB s 60).data.toList, (bytesOf_data _).symm⟩
  have hL60 : Hid (L.length ≤ 60) := by
    show _ ≤ _
    rw [← bytesOf_size, ← hL.out]; exact hsz
  have hget := fun x => cget_c L x (by have := hL60.out; omega)
  have hbts : Hid ((allS L).2 = 0 → bts (allS L).1 = L) := fun h => allS_bts L h
  have hnum : Hid (∀ u ∈ (allS L).1, u < 18446744073709551616) := fa_num L (L.length + 1) [] 0 (fun u hu => by cases hu)
  rw [hL.out] at hcut
  clear hsz hL
  generalize (allS L).1 = us at *
  generalize (allS L).2 = ec at *
  have hgs := hidden fun (m : Mk) (h : getG us ec = some m) => getG_some h
  go_enter Tryz.func3, Tryz.ntmps3
  go_wp2_with fail
  refine hcut.mono ?_
  rintro e w0 ⟨rfl, rfl⟩
  clear hcut
  go_wp2_with fail
  refine (hget w0).mono ?_
  rintro e w1 (⟨hn, rfl, hB⟩ | ⟨m, na, nc, hn, rfl, hrow, hB⟩)
  · have hC := hidden (GoX.Calm.of_below hB)
    have hsame : ∀ x, Calls Tryz.prog 9 #[mkS noM none 0 none 0, mkS noM none 0 none 0] x fun e w' => e = .returned (.bool true) ∧ GoX.Calm x w' := fun x => by
      refine (rsamem_c noM noM none none 0 0 none none 0 0 x (by simp [noM]) (by simp [noM]) ⟨none, 0, rfl, .inl rfl⟩ ⟨none, 0, rfl, .inl rfl⟩).mono fun e w' ⟨he, hB⟩ => ⟨?_, .of_below hB⟩
      rw [he]; simp [sameM]
    clear hB hgs hn hget hbts hnum
    unfold mkS noM at *
    simp only [List.length_nil] at *
    go_wp2_with fail
    refine (hsame _).mono ?_
    rintro e w2 ⟨rfl, hD⟩
    have hC2 := hidden (hC.out.trans ((calm_alloc w1 (.cells #[.int .i64 0, .bool false, .slice none 0 0, .int .u64 0, .slice none 0 0] 27)).trans hD))
    have hb2 := (calm_heapG hD (heap_alloc_new w1 (.cells #[.int .i64 0, .bool false, .slice none 0 0, .int .u64 0, .slice none 0 0] 27)))
    obtain ⟨⟨b0, b1, b2, b3, b4⟩, -⟩ := box5f hb2
    clear hb2 hD hC hsame
    go_wp2_with fail
    refine (hlv _).mono ?_
    rintro e w3 ⟨rfl, hD⟩
    have hC3 := hidden (hC2.out.trans hD)
    clear hD hC2
    go_wp2
    go_ret
    exact ⟨by first | done | rfl | simp, hC3.out⟩
  · obtain ⟨rfl, hok, hgm, rfl⟩ := hgs.out m hn
    have hnb := nums_back hok hgm
    have hbL := hbts.out rfl
    have hC := hidden (GoX.Calm.of_below hB)
    have hrest : Hid (0 ≤ (mkG us).rest ∧ (mkG us).rest < 18446744073709551616) := by
      show 0 ≤ ((us.getD (us.length - 1) 0 : Nat) : Int) ∧ ((us.getD (us.length - 1) 0 : Nat) : Int) < 18446744073709551616
      have h5 : 4 < us.length := (of_decide_eq_true hok).1
      have e : us.getD (us.length - 1) 0 = us[us.length - 1] := by simp [List.getD, show us.length - 1 < us.length by omega]
      have := hnum.out _ (List.getElem_mem (l := us) (show us.length - 1 < us.length by omega))
      rw [e]; omega
    have hlen12 := hidden (good_head hgm).2.2.2
    have hput : ∀ x, GoX.Calm w1 x → Calls Tryz.prog 7 #[mkS (mkG us) na nc none 0] x fun e w' => e = .returned (.string (bytesOf L)) ∧ GoX.Calm x w' := fun x hx =>
      (rput_m (mkG us) na nc none 0 x hgm hrest.out.1 hrest.out.2 (hrow.calm hx)).mono fun e w' ⟨he, hB⟩ => ⟨by rw [he, hnb, hbL], .of_below hB⟩
    have hgood : ∀ x, GoX.Calm w1 x → Calls Tryz.prog 6 #[mkS (mkG us) na nc none 0] x fun e w' => e = .returned (.bool true) ∧ GoX.Calm x w' := fun x hx =>
      (rgood_c (mkG us) na nc none 0 x (by have := hlen12.out; omega) hrest.out.1 (hrow.calm hx)).mono fun e w' ⟨he, hB⟩ => ⟨by rw [he, hgm], .of_below hB⟩
    have hz : Hid ((mkG us).items.length = 0) := hidden rfl
    clear hB hgs hn hget hbts hnum hok hgm hnb hbL hrest hlen12 hrow
    generalize mkG us = m at *
    unfold mkS at *
    rw [hz.out] at hput hgood
    have hb1 := heap_alloc_new w1 (.cells #[.int .i64 m.told, .bool m.over, .slice na m.nodes.length nc, .int .u64 m.rest, .slice none 0 0] 27)
    have hD1 := hidden (calm_alloc w1 (.cells #[.int .i64 m.told, .bool m.over, .slice na m.nodes.length nc, .int .u64 m.rest, .slice none 0 0] 27))
    rw [hz.out]
    have hg1 := hgood _ hD1.out
    go_wp2_with fail
    refine hg1.mono ?_
    rintro e w2 ⟨rfl, hD⟩
    have hD2 := hidden (hD1.out.trans hD)
    obtain ⟨⟨b0, b1, b2, b3, b4⟩, -⟩ := box5f (calm_heapG hD hb1)
    have hp2 := hput _ hD2.out
    clear hD hb1 hg1 hgood hput hD1
    go_wp2_with fail
    refine hp2.mono ?_
    rintro e w3 ⟨rfl, hD⟩
    have hD3 := hidden (hD2.out.trans hD)
    clear hD hp2 hD2 b0 b1 b2 b3 b4
    go_wp2_with fail
    refine (hlv _).mono ?_
    rintro e w4 ⟨rfl, hD⟩
    have hC4 := hidden (hC.out.trans (hD3.out.trans hD))
    clear hD hD3 hC
    go_wp2
    go_ret
    exact ⟨by first | done | rfl | simp, hC4.out⟩
end Go.Proofs.YtcdkpeikjnpmhabGreat
