/-
  THE WORD WITH WHICH A TEXT BEGINS: the reference's, by contract.
-/
import Derived.Test.YtddmdieeljjamaaDoorWWord
import Derived.Test.YtddmdieeljjamaaDoorLRSame
import Derived.Test.YtddmdieeljjamaaDoorWWords
import Derived.WalkSmall
namespace Go.Proofs.YtddmdieeljjamaaDoor
open Go.ChangeShapes Go.WideShapes Go.ChangeAt Go.RowKit

theorem rxdig_c (b : Int) (w : World) : Calls Tryd.prog 23 #[.int .u8 b] w fun e w' => e = .returned (.bool (isDig b)) ∧ w' = w := rrdig_c b w
theorem word_long (s : ByteArray) (h : 30 < nameLen s) : wordS s = .bad 2 := by unfold wordS; rw [if_pos h]
theorem word_key (s : ByteArray) (h : ¬ 30 < nameLen s) (h0 : 0 < nameLen s) (hk : keyB (s.extract 0 (nameLen s)) = true) : wordS s = ⟨2, s.extract 0 (nameLen s), 0, 0, ⟨#[]⟩, nameLen s, 0⟩ := by
  unfold wordS; rw [if_neg h, if_pos h0, hk]; rfl
theorem word_nokey (s : ByteArray) (h : ¬ 30 < nameLen s) (h0 : 0 < nameLen s) (hk : keyB (s.extract 0 (nameLen s)) = false) : wordS s = ⟨1, s.extract 0 (nameLen s), 0, 0, ⟨#[]⟩, nameLen s, 0⟩ := by
  unfold wordS; rw [if_neg h, if_pos h0, hk]; rfl
set_option maxHeartbeats 12800000 in
set_option maxRecDepth 100000 in
theorem rword_c (s : ByteArray) (w : World) (h0 : 0 < s.size) (hs : s.size ≤ 1000) :
    Calls Tryd.prog 12 #[.string s] w fun e w' => e = .returned (wordS s).v ∧ Below w.heap.size w w' := by
  have hlet := fun b w => lxrletter_c b w
  have hdig := fun b w => rxdig_c b w
  have ho : Hid (∀ j, okN s j = (isLt (byteAt s j) || (decide (0 < j) && (isDig (byteAt s j) || decide (byteAt s j = 95))))) := fun j => rfl
  have hq := hidden (fun n => nameLen_eq (s := s) (n := n))
  have hkey := fun n x => rkey_c (s.extract 0 n) x
  have hrd := fun x => rread_c s x hs
  have hsg := fun x => rsign_c s x
  have hL := hidden (word_long s)
  have hK := hidden (word_key s)
  have hNK := hidden (word_nokey s)
  have hWV := hidden (word_val s)
  have hWS := hidden (word_sign s)
  have hWays := hidden (val_ways s)
  obtain ⟨X, hX⟩ : ∃ X, Hid (wordS s = X) := ⟨_, (rfl : wordS s = _)⟩
  obtain ⟨R, hR⟩ : ∃ R, Hid (nameLen s = R) := ⟨_, (rfl : nameLen s = _)⟩
  rw [hX.out] at hL hK hNK hWV hWS ⊢
  rw [hR.out] at hL hK hNK hWV hWS
  obtain ⟨hA, hA', hB⟩ := two_boxes w #[.int .i64 0, .string ⟨#[]⟩, .int .i64 0, .int .i64 0, .string ⟨#[]⟩, .int .i64 0] #[.int .i64 0, .string ⟨#[]⟩, .int .i64 0, .int .i64 0, .string ⟨#[]⟩, .int .i64 0] 35 35
  have hB0 := hidden hB
  have hA0 := hidden hA
  have hN0 := hidden hA'
  clear hA hA' hB
  go_enter Tryd.func12, Tryd.ntmps12
  go_wp2_with fail
  go_loop [6] (fun i => ∃ k : Nat, k ≤ s.size ∧ i = .int .i64 k ∧ Hid (∀ j, j < k → okN s j = true)) (fun i => s.size - (intOf i).toNat)
  case atStart => exact ⟨0, Nat.zero_le _, rfl, hidden fun j hj => by omega⟩
  case round =>
    obtain ⟨k, hk, rfl, hall⟩ := hrel
    by_cases hlt : k < s.size
    · have hk2 : (k : Int) < (s.size : Int) := by omega
      have hbk := byteAt_eq (s := s) (k := k) hlt
      have hno : Hid (okN s k = false → R = k) := fun h => by
        rw [← hR.out]
        exact hq.out k hk hall.out (by rintro ⟨_, h2⟩; rw [h] at h2; cases h2)
      have hyes : Hid (okN s k = true → ∀ j, j < k + 1 → okN s j = true) := fun h j hj => by
        rcases Nat.lt_or_ge j k with h2 | h2
        · exact hall.out j h2
        · obtain rfl : j = k := by omega
          exact h
      have hok := hidden (ho.out k)
      clear hall
      have hlk := fun w => hlet (byteAt s k) w
      have hdk := fun w => hdig (byteAt s k) w
      cases h1 : isLt (byteAt s k) with
      | true =>
        have hn := hidden (hyes.out (by rw [hok.out, h1]; rfl))
        rw [h1] at hlk
        generalize byteAt s k = b at *
        clear hok hyes hno h1 hL hK hNK hWV hWS hWays
        go_wp2_with fail
        refine (hlk _).mono ?_
        rintro e w' ⟨rfl, rfl⟩
        go_wp2
        go_round
        case rel => exact ⟨k + 1, by omega, by go_num, hn⟩
        case measure => simp [intOf]; omega
      | false =>
        rw [h1] at hlk
        by_cases hk0 : k = 0
        · subst hk0
          have hn := hidden (hno.out (by rw [hok.out, h1]; rfl))
          rw [hn.out] at hWV hWS
          clear hok hyes hno h1 hL hK hNK hR
          have hd1 := fun x => hdig (byteAt s 1) x
          rcases hWays.out with ⟨e1, hv⟩ | ⟨e1, e2, hv⟩ | ⟨e1, e2, e3, e4, hv⟩ | ⟨e1, e2, e3, e4, hv⟩ | ⟨e1, e2, e3, hv⟩ <;> clear hWays
          · rw [e1] at hdk
            replace e1 := hidden e1
            clear hd1
            generalize byteAt s 0 = q0 at *
            have hwv := hidden (hWV.out rfl hv)
            replace hv := hidden hv
            clear hsg hWV hWS hkey hq
            generalize readS s = y at *
            obtain ⟨yk, yn, yt, ym, ye⟩ := y
            simp only [RR.v] at hrd
            simp only at hwv
            generalize tx yt = tt at *
            by_cases hye : ye = 0
            · have hf : Hid (X = ⟨3, ⟨#[]⟩, yk, yn, tt, ym, 0⟩) := by show _ = _; rw [hwv.out, if_pos hye]
              have hye2 : (ye != 0) = false := by simp [hye]
              replace hye := hidden hye
              clear hwv
              go_wp2_with fail
              refine (hlk _).mono ?_
              rintro e w' ⟨rfl, rfl⟩
              go_wp2_with fail
              refine (hdk _).mono ?_
              rintro e w' ⟨rfl, rfl⟩
              go_wp2_with fail
              refine (hrd _).mono ?_
              rintro e w1 ⟨rfl, hB1⟩
              have hA1 := hidden (box_below2 hA0.out hB1)
              have hN1 := hidden (box_below2 hN0.out hB1)
              have hB2 := hidden (hB0.out.trans (hB1.mono hB0.out.size))
              have hA2 := hidden ((heap_alloc_old w1 (.cells #[.int .i64 yk, .int .i64 yn, .string tt] 33) (Array.getElem?_eq_some_iff.1 hA1.out).1).trans hA1.out)
              have hN2 := hidden ((heap_alloc_old w1 (.cells #[.int .i64 yk, .int .i64 yn, .string tt] 33) (Array.getElem?_eq_some_iff.1 hN1.out).1).trans hN1.out)
              have hB3 : Hid (Below w.heap.size w (w1.alloc (.cells #[.int .i64 yk, .int .i64 yn, .string tt] 33))) := hB2.out.alloc hB2.out.size _
              have hV := hidden (heap_alloc_new w1 (.cells #[.int .i64 yk, .int .i64 yn, .string tt] 33))
              clear hrd hB1 hA1 hN1 hB2
              obtain ⟨⟨d0, d1, d2⟩, -⟩ := box3v hV.out
              obtain ⟨⟨b0, b1, b2, b3, b4, b5⟩, c0, c1, c2, c3, c4, c5⟩ := box6f hA2.out
              go_wp2
              have hRow := run_loadVar_row (P := Tryd.prog) _ w.heap.size 35 35 _ _ _ (set6 hA2.out (.int .i64 3) (.string ⟨#[]⟩) (.int .i64 yk) (.int .i64 yn) (.string tt) (.int .i64 0)) Tryd.underlying35 rfl (by kernel_rfl)
              exact bodyPost_ret ((results_cell_tmp2w rfl _ _ _).trans (by first | (simp [asAddr, hRow, Result.andThen]; done) | (simp [asAddr, hRow, Result.andThen]; rfl))) rfl ⟨by rw [hf.out]; rfl, set6_below hB3.out (Nat.le_refl _) _ _ _ _ _ _⟩
            · have hf : Hid (X = .bad ye) := by show _ = _; rw [hwv.out, if_neg hye]
              have hye2 : (ye != 0) = true := by simp [hye]
              replace hye := hidden hye
              clear hwv
              go_wp2_with fail
              refine (hlk _).mono ?_
              rintro e w' ⟨rfl, rfl⟩
              go_wp2_with fail
              refine (hdk _).mono ?_
              rintro e w' ⟨rfl, rfl⟩
              go_wp2_with fail
              refine (hrd _).mono ?_
              rintro e w1 ⟨rfl, hB1⟩
              have hA1 := hidden (box_below2 hA0.out hB1)
              have hN1 := hidden (box_below2 hN0.out hB1)
              have hB2 := hidden (hB0.out.trans (hB1.mono hB0.out.size))
              have hA2 := hidden ((heap_alloc_old w1 (.cells #[.int .i64 yk, .int .i64 yn, .string tt] 33) (Array.getElem?_eq_some_iff.1 hA1.out).1).trans hA1.out)
              have hN2 := hidden ((heap_alloc_old w1 (.cells #[.int .i64 yk, .int .i64 yn, .string tt] 33) (Array.getElem?_eq_some_iff.1 hN1.out).1).trans hN1.out)
              have hB3 : Hid (Below w.heap.size w (w1.alloc (.cells #[.int .i64 yk, .int .i64 yn, .string tt] 33))) := hB2.out.alloc hB2.out.size _
              have hV := hidden (heap_alloc_new w1 (.cells #[.int .i64 yk, .int .i64 yn, .string tt] 33))
              clear hrd hB1 hA1 hN1 hB2
              obtain ⟨⟨d0, d1, d2⟩, -⟩ := box3v hV.out
              obtain ⟨⟨b0, b1, b2, b3, b4, b5⟩, c0, c1, c2, c3, c4, c5⟩ := box6f hA2.out
              obtain ⟨⟨n0, n1, n2, n3, n4, n5⟩, -⟩ := box6f hN2.out
              go_wp2
              have hRow := run_loadVar_row (P := Tryd.prog) _ w.heap.size 35 35 _ _ _ (set6 hA2.out (.int .i64 0) (.string ⟨#[]⟩) (.int .i64 0) (.int .i64 0) (.string ⟨#[]⟩) (.int .i64 0)) Tryd.underlying35 rfl (by kernel_rfl)
              exact bodyPost_ret ((results_cell_tmp2w rfl _ _ _).trans (by first | (simp [asAddr, hRow, Result.andThen]; done) | (simp [asAddr, hRow, Result.andThen]; rfl))) rfl ⟨by rw [hf.out]; rfl, set6_below hB3.out (Nat.le_refl _) _ _ _ _ _ _⟩
          · rw [e1] at hdk
            replace e1 := hidden e1
            clear hd1
            generalize byteAt s 0 = q0 at *
            have hwv := hidden (hWV.out rfl hv)
            replace hv := hidden hv
            clear hsg hWV hWS hkey hq
            generalize readS s = y at *
            obtain ⟨yk, yn, yt, ym, ye⟩ := y
            simp only [RR.v] at hrd
            simp only at hwv
            generalize tx yt = tt at *
            by_cases hye : ye = 0
            · have hf : Hid (X = ⟨3, ⟨#[]⟩, yk, yn, tt, ym, 0⟩) := by show _ = _; rw [hwv.out, if_pos hye]
              have hye2 : (ye != 0) = false := by simp [hye]
              replace hye := hidden hye
              clear hwv
              go_wp2_with fail
              refine (hlk _).mono ?_
              rintro e w' ⟨rfl, rfl⟩
              go_wp2_with fail
              refine (hdk _).mono ?_
              rintro e w' ⟨rfl, rfl⟩
              go_wp2_with fail
              refine (hrd _).mono ?_
              rintro e w1 ⟨rfl, hB1⟩
              have hA1 := hidden (box_below2 hA0.out hB1)
              have hN1 := hidden (box_below2 hN0.out hB1)
              have hB2 := hidden (hB0.out.trans (hB1.mono hB0.out.size))
              have hA2 := hidden ((heap_alloc_old w1 (.cells #[.int .i64 yk, .int .i64 yn, .string tt] 33) (Array.getElem?_eq_some_iff.1 hA1.out).1).trans hA1.out)
              have hN2 := hidden ((heap_alloc_old w1 (.cells #[.int .i64 yk, .int .i64 yn, .string tt] 33) (Array.getElem?_eq_some_iff.1 hN1.out).1).trans hN1.out)
              have hB3 : Hid (Below w.heap.size w (w1.alloc (.cells #[.int .i64 yk, .int .i64 yn, .string tt] 33))) := hB2.out.alloc hB2.out.size _
              have hV := hidden (heap_alloc_new w1 (.cells #[.int .i64 yk, .int .i64 yn, .string tt] 33))
              clear hrd hB1 hA1 hN1 hB2
              obtain ⟨⟨d0, d1, d2⟩, -⟩ := box3v hV.out
              obtain ⟨⟨b0, b1, b2, b3, b4, b5⟩, c0, c1, c2, c3, c4, c5⟩ := box6f hA2.out
              go_wp2
              have hRow := run_loadVar_row (P := Tryd.prog) _ w.heap.size 35 35 _ _ _ (set6 hA2.out (.int .i64 3) (.string ⟨#[]⟩) (.int .i64 yk) (.int .i64 yn) (.string tt) (.int .i64 0)) Tryd.underlying35 rfl (by kernel_rfl)
              exact bodyPost_ret ((results_cell_tmp2w rfl _ _ _).trans (by first | (simp [asAddr, hRow, Result.andThen]; done) | (simp [asAddr, hRow, Result.andThen]; rfl))) rfl ⟨by rw [hf.out]; rfl, set6_below hB3.out (Nat.le_refl _) _ _ _ _ _ _⟩
            · have hf : Hid (X = .bad ye) := by show _ = _; rw [hwv.out, if_neg hye]
              have hye2 : (ye != 0) = true := by simp [hye]
              replace hye := hidden hye
              clear hwv
              go_wp2_with fail
              refine (hlk _).mono ?_
              rintro e w' ⟨rfl, rfl⟩
              go_wp2_with fail
              refine (hdk _).mono ?_
              rintro e w' ⟨rfl, rfl⟩
              go_wp2_with fail
              refine (hrd _).mono ?_
              rintro e w1 ⟨rfl, hB1⟩
              have hA1 := hidden (box_below2 hA0.out hB1)
              have hN1 := hidden (box_below2 hN0.out hB1)
              have hB2 := hidden (hB0.out.trans (hB1.mono hB0.out.size))
              have hA2 := hidden ((heap_alloc_old w1 (.cells #[.int .i64 yk, .int .i64 yn, .string tt] 33) (Array.getElem?_eq_some_iff.1 hA1.out).1).trans hA1.out)
              have hN2 := hidden ((heap_alloc_old w1 (.cells #[.int .i64 yk, .int .i64 yn, .string tt] 33) (Array.getElem?_eq_some_iff.1 hN1.out).1).trans hN1.out)
              have hB3 : Hid (Below w.heap.size w (w1.alloc (.cells #[.int .i64 yk, .int .i64 yn, .string tt] 33))) := hB2.out.alloc hB2.out.size _
              have hV := hidden (heap_alloc_new w1 (.cells #[.int .i64 yk, .int .i64 yn, .string tt] 33))
              clear hrd hB1 hA1 hN1 hB2
              obtain ⟨⟨d0, d1, d2⟩, -⟩ := box3v hV.out
              obtain ⟨⟨b0, b1, b2, b3, b4, b5⟩, c0, c1, c2, c3, c4, c5⟩ := box6f hA2.out
              obtain ⟨⟨n0, n1, n2, n3, n4, n5⟩, -⟩ := box6f hN2.out
              go_wp2
              have hRow := run_loadVar_row (P := Tryd.prog) _ w.heap.size 35 35 _ _ _ (set6 hA2.out (.int .i64 0) (.string ⟨#[]⟩) (.int .i64 0) (.int .i64 0) (.string ⟨#[]⟩) (.int .i64 0)) Tryd.underlying35 rfl (by kernel_rfl)
              exact bodyPost_ret ((results_cell_tmp2w rfl _ _ _).trans (by first | (simp [asAddr, hRow, Result.andThen]; done) | (simp [asAddr, hRow, Result.andThen]; rfl))) rfl ⟨by rw [hf.out]; rfl, set6_below hB3.out (Nat.le_refl _) _ _ _ _ _ _⟩
          · have e5 : (1 : Int) < (s.size : Int) := by omega
            have hb1 : ((s[1]).toNat : Int) = byteAt s 1 := byteAt_eq (s := s) (k := 1) e4
            rw [e1] at hdk
            replace e1 := hidden e1
            cases hq1 : isDig (byteAt s 1) with
            | true =>
              rw [hq1] at hv hd1
              replace hq1 := hidden hq1
              generalize byteAt s 0 = q0 at *
              generalize byteAt s 1 = q1 at *
              have hwv := hidden (hWV.out rfl hv)
              replace hv := hidden hv
              clear hsg hWV hWS hkey hq
              generalize readS s = y at *
              obtain ⟨yk, yn, yt, ym, ye⟩ := y
              simp only [RR.v] at hrd
              simp only at hwv
              generalize tx yt = tt at *
              by_cases hye : ye = 0
              · have hf : Hid (X = ⟨3, ⟨#[]⟩, yk, yn, tt, ym, 0⟩) := by show _ = _; rw [hwv.out, if_pos hye]
                have hye2 : (ye != 0) = false := by simp [hye]
                replace hye := hidden hye
                clear hwv
                go_wp2_with fail
                refine (hlk _).mono ?_
                rintro e w' ⟨rfl, rfl⟩
                go_wp2_with fail
                refine (hdk _).mono ?_
                rintro e w' ⟨rfl, rfl⟩
                go_wp2_with fail
                refine (hd1 _).mono ?_
                rintro e w' ⟨rfl, rfl⟩
                go_wp2_with fail
                refine (hrd _).mono ?_
                rintro e w1 ⟨rfl, hB1⟩
                have hA1 := hidden (box_below2 hA0.out hB1)
                have hN1 := hidden (box_below2 hN0.out hB1)
                have hB2 := hidden (hB0.out.trans (hB1.mono hB0.out.size))
                have hA2 := hidden ((heap_alloc_old w1 (.cells #[.int .i64 yk, .int .i64 yn, .string tt] 33) (Array.getElem?_eq_some_iff.1 hA1.out).1).trans hA1.out)
                have hN2 := hidden ((heap_alloc_old w1 (.cells #[.int .i64 yk, .int .i64 yn, .string tt] 33) (Array.getElem?_eq_some_iff.1 hN1.out).1).trans hN1.out)
                have hB3 : Hid (Below w.heap.size w (w1.alloc (.cells #[.int .i64 yk, .int .i64 yn, .string tt] 33))) := hB2.out.alloc hB2.out.size _
                have hV := hidden (heap_alloc_new w1 (.cells #[.int .i64 yk, .int .i64 yn, .string tt] 33))
                clear hrd hB1 hA1 hN1 hB2
                obtain ⟨⟨d0, d1, d2⟩, -⟩ := box3v hV.out
                obtain ⟨⟨b0, b1, b2, b3, b4, b5⟩, c0, c1, c2, c3, c4, c5⟩ := box6f hA2.out
                go_wp2
                have hRow := run_loadVar_row (P := Tryd.prog) _ w.heap.size 35 35 _ _ _ (set6 hA2.out (.int .i64 3) (.string ⟨#[]⟩) (.int .i64 yk) (.int .i64 yn) (.string tt) (.int .i64 0)) Tryd.underlying35 rfl (by kernel_rfl)
                exact bodyPost_ret ((results_cell_tmp2w rfl _ _ _).trans (by first | (simp [asAddr, hRow, Result.andThen]; done) | (simp [asAddr, hRow, Result.andThen]; rfl))) rfl ⟨by rw [hf.out]; rfl, set6_below hB3.out (Nat.le_refl _) _ _ _ _ _ _⟩
              · have hf : Hid (X = .bad ye) := by show _ = _; rw [hwv.out, if_neg hye]
                have hye2 : (ye != 0) = true := by simp [hye]
                replace hye := hidden hye
                clear hwv
                go_wp2_with fail
                refine (hlk _).mono ?_
                rintro e w' ⟨rfl, rfl⟩
                go_wp2_with fail
                refine (hdk _).mono ?_
                rintro e w' ⟨rfl, rfl⟩
                go_wp2_with fail
                refine (hd1 _).mono ?_
                rintro e w' ⟨rfl, rfl⟩
                go_wp2_with fail
                refine (hrd _).mono ?_
                rintro e w1 ⟨rfl, hB1⟩
                have hA1 := hidden (box_below2 hA0.out hB1)
                have hN1 := hidden (box_below2 hN0.out hB1)
                have hB2 := hidden (hB0.out.trans (hB1.mono hB0.out.size))
                have hA2 := hidden ((heap_alloc_old w1 (.cells #[.int .i64 yk, .int .i64 yn, .string tt] 33) (Array.getElem?_eq_some_iff.1 hA1.out).1).trans hA1.out)
                have hN2 := hidden ((heap_alloc_old w1 (.cells #[.int .i64 yk, .int .i64 yn, .string tt] 33) (Array.getElem?_eq_some_iff.1 hN1.out).1).trans hN1.out)
                have hB3 : Hid (Below w.heap.size w (w1.alloc (.cells #[.int .i64 yk, .int .i64 yn, .string tt] 33))) := hB2.out.alloc hB2.out.size _
                have hV := hidden (heap_alloc_new w1 (.cells #[.int .i64 yk, .int .i64 yn, .string tt] 33))
                clear hrd hB1 hA1 hN1 hB2
                obtain ⟨⟨d0, d1, d2⟩, -⟩ := box3v hV.out
                obtain ⟨⟨b0, b1, b2, b3, b4, b5⟩, c0, c1, c2, c3, c4, c5⟩ := box6f hA2.out
                obtain ⟨⟨n0, n1, n2, n3, n4, n5⟩, -⟩ := box6f hN2.out
                go_wp2
                have hRow := run_loadVar_row (P := Tryd.prog) _ w.heap.size 35 35 _ _ _ (set6 hA2.out (.int .i64 0) (.string ⟨#[]⟩) (.int .i64 0) (.int .i64 0) (.string ⟨#[]⟩) (.int .i64 0)) Tryd.underlying35 rfl (by kernel_rfl)
                exact bodyPost_ret ((results_cell_tmp2w rfl _ _ _).trans (by first | (simp [asAddr, hRow, Result.andThen]; done) | (simp [asAddr, hRow, Result.andThen]; rfl))) rfl ⟨by rw [hf.out]; rfl, set6_below hB3.out (Nat.le_refl _) _ _ _ _ _ _⟩
            | false =>
              rw [hq1] at hv hd1
              replace hq1 := hidden hq1
              generalize byteAt s 0 = q0 at *
              generalize byteAt s 1 = q1 at *
              have hws := hidden (hWS.out rfl hv)
              replace hv := hidden hv
              clear hrd hWV hWS hkey hq
              generalize bestOf s = B at *
              by_cases hB : B.size = 0
              · have hf : Hid (X = .bad 2) := by show _ = _; rw [hws.out, if_pos hB]
                have hBe : B = ⟨#[]⟩ := by
                  apply ByteArray.ext
                  exact Array.eq_empty_of_size_eq_zero hB
                subst hBe
                replace hB := hidden hB
                clear hws
                go_wp2_with fail
                refine (hlk _).mono ?_
                rintro e w' ⟨rfl, rfl⟩
                go_wp2_with fail
                refine (hdk _).mono ?_
                rintro e w' ⟨rfl, rfl⟩
                go_wp2_with fail
                refine (hd1 _).mono ?_
                rintro e w' ⟨rfl, rfl⟩
                go_wp2_with fail
                refine (hsg _).mono ?_
                rintro e w1 ⟨rfl, hB1⟩
                have hA1 := hidden (box_below2 hA0.out hB1)
                have hN1 := hidden (box_below2 hN0.out hB1)
                have hB2 := hidden (hB0.out.trans (hB1.mono hB0.out.size))
                clear hsg hB1
                obtain ⟨⟨b0, b1, b2, b3, b4, b5⟩, c0, c1, c2, c3, c4, c5⟩ := box6f hA1.out
                obtain ⟨⟨n0, n1, n2, n3, n4, n5⟩, -⟩ := box6f hN1.out
                go_wp2
                have hRow := run_loadVar_row (P := Tryd.prog) _ w.heap.size 35 35 _ _ _ (set6 hA1.out (.int .i64 0) (.string ⟨#[]⟩) (.int .i64 0) (.int .i64 0) (.string ⟨#[]⟩) (.int .i64 0)) Tryd.underlying35 rfl (by kernel_rfl)
                exact bodyPost_ret ((results_cell_tmp2w rfl _ _ _).trans (by first | (simp [asAddr, hRow, Result.andThen]; done) | (simp [asAddr, hRow, Result.andThen]; rfl))) rfl ⟨by rw [hf.out]; rfl, set6_below hB2.out (Nat.le_refl _) _ _ _ _ _ _⟩
              · have hf : Hid (X = ⟨4, B, 0, 0, ⟨#[]⟩, B.size, 0⟩) := by show _ = _; rw [hws.out, if_neg hB]
                have hBne : (B.toList == ([] : List UInt8)) = false := by
                  rw [Go.ByteArray.toList_eq, beq_eq_false_iff_ne]
                  intro h
                  apply hB
                  have : B.data.toList.length = 0 := by rw [h]; rfl
                  simpa using this
                replace hB := hidden hB
                clear hws
                go_wp2_with fail
                refine (hlk _).mono ?_
                rintro e w' ⟨rfl, rfl⟩
                go_wp2_with fail
                refine (hdk _).mono ?_
                rintro e w' ⟨rfl, rfl⟩
                go_wp2_with fail
                refine (hd1 _).mono ?_
                rintro e w' ⟨rfl, rfl⟩
                go_wp2_with fail
                refine (hsg _).mono ?_
                rintro e w1 ⟨rfl, hB1⟩
                have hA1 := hidden (box_below2 hA0.out hB1)
                have hB2 := hidden (hB0.out.trans (hB1.mono hB0.out.size))
                clear hsg hB1
                obtain ⟨⟨b0, b1, b2, b3, b4, b5⟩, c0, c1, c2, c3, c4, c5⟩ := box6f hA1.out
                go_wp2
                have hRow := run_loadVar_row (P := Tryd.prog) _ w.heap.size 35 35 _ _ _ (set6 hA1.out (.int .i64 4) (.string B) (.int .i64 0) (.int .i64 0) (.string ⟨#[]⟩) (.int .i64 0)) Tryd.underlying35 rfl (by kernel_rfl)
                exact bodyPost_ret ((results_cell_tmp2w rfl _ _ _).trans (by first | (simp [asAddr, hRow, Result.andThen]; done) | (simp [asAddr, hRow, Result.andThen]; rfl))) rfl ⟨by rw [hf.out]; rfl, set6_below hB2.out (Nat.le_refl _) _ _ _ _ _ _⟩
          · have e5 : ¬ (1 : Int) < (s.size : Int) := by omega
            rw [e1] at hdk
            replace e1 := hidden e1
            clear hd1
            generalize byteAt s 0 = q0 at *
            have hws := hidden (hWS.out rfl hv)
            replace hv := hidden hv
            clear hrd hWV hWS hkey hq
            generalize bestOf s = B at *
            by_cases hB : B.size = 0
            · have hf : Hid (X = .bad 2) := by show _ = _; rw [hws.out, if_pos hB]
              have hBe : B = ⟨#[]⟩ := by
                apply ByteArray.ext
                exact Array.eq_empty_of_size_eq_zero hB
              subst hBe
              replace hB := hidden hB
              clear hws
              go_wp2_with fail
              refine (hlk _).mono ?_
              rintro e w' ⟨rfl, rfl⟩
              go_wp2_with fail
              refine (hdk _).mono ?_
              rintro e w' ⟨rfl, rfl⟩
              go_wp2_with fail
              refine (hsg _).mono ?_
              rintro e w1 ⟨rfl, hB1⟩
              have hA1 := hidden (box_below2 hA0.out hB1)
              have hN1 := hidden (box_below2 hN0.out hB1)
              have hB2 := hidden (hB0.out.trans (hB1.mono hB0.out.size))
              clear hsg hB1
              obtain ⟨⟨b0, b1, b2, b3, b4, b5⟩, c0, c1, c2, c3, c4, c5⟩ := box6f hA1.out
              obtain ⟨⟨n0, n1, n2, n3, n4, n5⟩, -⟩ := box6f hN1.out
              go_wp2
              have hRow := run_loadVar_row (P := Tryd.prog) _ w.heap.size 35 35 _ _ _ (set6 hA1.out (.int .i64 0) (.string ⟨#[]⟩) (.int .i64 0) (.int .i64 0) (.string ⟨#[]⟩) (.int .i64 0)) Tryd.underlying35 rfl (by kernel_rfl)
              exact bodyPost_ret ((results_cell_tmp2w rfl _ _ _).trans (by first | (simp [asAddr, hRow, Result.andThen]; done) | (simp [asAddr, hRow, Result.andThen]; rfl))) rfl ⟨by rw [hf.out]; rfl, set6_below hB2.out (Nat.le_refl _) _ _ _ _ _ _⟩
            · have hf : Hid (X = ⟨4, B, 0, 0, ⟨#[]⟩, B.size, 0⟩) := by show _ = _; rw [hws.out, if_neg hB]
              have hBne : (B.toList == ([] : List UInt8)) = false := by
                rw [Go.ByteArray.toList_eq, beq_eq_false_iff_ne]
                intro h
                apply hB
                have : B.data.toList.length = 0 := by rw [h]; rfl
                simpa using this
              replace hB := hidden hB
              clear hws
              go_wp2_with fail
              refine (hlk _).mono ?_
              rintro e w' ⟨rfl, rfl⟩
              go_wp2_with fail
              refine (hdk _).mono ?_
              rintro e w' ⟨rfl, rfl⟩
              go_wp2_with fail
              refine (hsg _).mono ?_
              rintro e w1 ⟨rfl, hB1⟩
              have hA1 := hidden (box_below2 hA0.out hB1)
              have hB2 := hidden (hB0.out.trans (hB1.mono hB0.out.size))
              clear hsg hB1
              obtain ⟨⟨b0, b1, b2, b3, b4, b5⟩, c0, c1, c2, c3, c4, c5⟩ := box6f hA1.out
              go_wp2
              have hRow := run_loadVar_row (P := Tryd.prog) _ w.heap.size 35 35 _ _ _ (set6 hA1.out (.int .i64 4) (.string B) (.int .i64 0) (.int .i64 0) (.string ⟨#[]⟩) (.int .i64 0)) Tryd.underlying35 rfl (by kernel_rfl)
              exact bodyPost_ret ((results_cell_tmp2w rfl _ _ _).trans (by first | (simp [asAddr, hRow, Result.andThen]; done) | (simp [asAddr, hRow, Result.andThen]; rfl))) rfl ⟨by rw [hf.out]; rfl, set6_below hB2.out (Nat.le_refl _) _ _ _ _ _ _⟩
          · rw [e1] at hdk
            replace e1 := hidden e1
            clear hd1
            generalize byteAt s 0 = q0 at *
            have hws := hidden (hWS.out rfl hv)
            replace hv := hidden hv
            clear hrd hWV hWS hkey hq
            generalize bestOf s = B at *
            by_cases hB : B.size = 0
            · have hf : Hid (X = .bad 2) := by show _ = _; rw [hws.out, if_pos hB]
              have hBe : B = ⟨#[]⟩ := by
                apply ByteArray.ext
                exact Array.eq_empty_of_size_eq_zero hB
              subst hBe
              replace hB := hidden hB
              clear hws
              go_wp2_with fail
              refine (hlk _).mono ?_
              rintro e w' ⟨rfl, rfl⟩
              go_wp2_with fail
              refine (hdk _).mono ?_
              rintro e w' ⟨rfl, rfl⟩
              go_wp2_with fail
              refine (hsg _).mono ?_
              rintro e w1 ⟨rfl, hB1⟩
              have hA1 := hidden (box_below2 hA0.out hB1)
              have hN1 := hidden (box_below2 hN0.out hB1)
              have hB2 := hidden (hB0.out.trans (hB1.mono hB0.out.size))
              clear hsg hB1
              obtain ⟨⟨b0, b1, b2, b3, b4, b5⟩, c0, c1, c2, c3, c4, c5⟩ := box6f hA1.out
              obtain ⟨⟨n0, n1, n2, n3, n4, n5⟩, -⟩ := box6f hN1.out
              go_wp2
              have hRow := run_loadVar_row (P := Tryd.prog) _ w.heap.size 35 35 _ _ _ (set6 hA1.out (.int .i64 0) (.string ⟨#[]⟩) (.int .i64 0) (.int .i64 0) (.string ⟨#[]⟩) (.int .i64 0)) Tryd.underlying35 rfl (by kernel_rfl)
              exact bodyPost_ret ((results_cell_tmp2w rfl _ _ _).trans (by first | (simp [asAddr, hRow, Result.andThen]; done) | (simp [asAddr, hRow, Result.andThen]; rfl))) rfl ⟨by rw [hf.out]; rfl, set6_below hB2.out (Nat.le_refl _) _ _ _ _ _ _⟩
            · have hf : Hid (X = ⟨4, B, 0, 0, ⟨#[]⟩, B.size, 0⟩) := by show _ = _; rw [hws.out, if_neg hB]
              have hBne : (B.toList == ([] : List UInt8)) = false := by
                rw [Go.ByteArray.toList_eq, beq_eq_false_iff_ne]
                intro h
                apply hB
                have : B.data.toList.length = 0 := by rw [h]; rfl
                simpa using this
              replace hB := hidden hB
              clear hws
              go_wp2_with fail
              refine (hlk _).mono ?_
              rintro e w' ⟨rfl, rfl⟩
              go_wp2_with fail
              refine (hdk _).mono ?_
              rintro e w' ⟨rfl, rfl⟩
              go_wp2_with fail
              refine (hsg _).mono ?_
              rintro e w1 ⟨rfl, hB1⟩
              have hA1 := hidden (box_below2 hA0.out hB1)
              have hB2 := hidden (hB0.out.trans (hB1.mono hB0.out.size))
              clear hsg hB1
              obtain ⟨⟨b0, b1, b2, b3, b4, b5⟩, c0, c1, c2, c3, c4, c5⟩ := box6f hA1.out
              go_wp2
              have hRow := run_loadVar_row (P := Tryd.prog) _ w.heap.size 35 35 _ _ _ (set6 hA1.out (.int .i64 4) (.string B) (.int .i64 0) (.int .i64 0) (.string ⟨#[]⟩) (.int .i64 0)) Tryd.underlying35 rfl (by kernel_rfl)
              exact bodyPost_ret ((results_cell_tmp2w rfl _ _ _).trans (by first | (simp [asAddr, hRow, Result.andThen]; done) | (simp [asAddr, hRow, Result.andThen]; rfl))) rfl ⟨by rw [hf.out]; rfl, set6_below hB2.out (Nat.le_refl _) _ _ _ _ _ _⟩
        · have hkp : (0 : Int) < (k : Int) := by omega
          cases h2 : isDig (byteAt s k) with
          | true =>
            have hn := hidden (hyes.out (by rw [hok.out, h1, h2]; simp; omega))
            rw [h2] at hdk
            generalize byteAt s k = b at *
            clear hok hyes hno h1 h2 hL hK hNK hWV hWS hWays
            go_wp2_with fail
            refine (hlk _).mono ?_
            rintro e w' ⟨rfl, rfl⟩
            go_wp2_with fail
            refine (hdk _).mono ?_
            rintro e w' ⟨rfl, rfl⟩
            go_wp2
            go_round
            case rel => exact ⟨k + 1, by omega, by go_num, hn⟩
            case measure => simp [intOf]; omega
          | false =>
            rw [h2] at hdk
            by_cases h3 : byteAt s k = 95
            · have hn := hidden (hyes.out (by rw [hok.out, h1, h2]; simp; exact ⟨by omega, h3⟩))
              have e3 : (byteAt s k == 95) = true := by simp [h3]
              replace h3 := hidden h3
              generalize byteAt s k = b at *
              clear hok hyes hno h1 h2 h3 hL hK hNK hWV hWS hWays
              go_wp2_with fail
              refine (hlk _).mono ?_
              rintro e w' ⟨rfl, rfl⟩
              go_wp2_with fail
              refine (hdk _).mono ?_
              rintro e w' ⟨rfl, rfl⟩
              go_wp2
              go_round
              case rel => exact ⟨k + 1, by omega, by go_num, hn⟩
              case measure => simp [intOf]; omega
            · have hn := hidden (hno.out (by rw [hok.out, h1, h2]; simp [h3]))
              have e3 : (byteAt s k == 95) = false := by simp [h3]
              generalize byteAt s k = b at *
              rw [hn.out] at hL hK hNK
              clear hok hyes hno h1 h2 h3 hR hWV hWS hWays hn
              have hkk := fun x => hkey k x
              by_cases h30 : 30 < k
              · have hf := hidden (hL.out h30)
                have h30' : (30 : Int) < (k : Int) := by omega
                clear hL hK hNK hkk hkey hq
                go_wp2_with fail
                refine (hlk _).mono ?_
                rintro e w' ⟨rfl, rfl⟩
                go_wp2_with fail
                refine (hdk _).mono ?_
                rintro e w' ⟨rfl, rfl⟩
                obtain ⟨⟨b0, b1, b2, b3, b4, b5⟩, c0, c1, c2, c3, c4, c5⟩ := box6f hA0.out
                obtain ⟨⟨n0, n1, n2, n3, n4, n5⟩, -⟩ := box6f hN0.out
                go_wp2
                have hRow := run_loadVar_row (P := Tryd.prog) _ w.heap.size 35 35 _ _ _ hA0.out Tryd.underlying35 rfl (by kernel_rfl)
                exact bodyPost_ret ((results_cell_tmp2w rfl _ _ _).trans (by first | (simp [asAddr, hRow, Result.andThen]; done) | (simp [asAddr, hRow, Result.andThen]; rfl))) rfl ⟨by rw [hf.out]; rfl, hB0.out⟩
              · have h30' : ¬ (30 : Int) < (k : Int) := by omega
                have hkz : (k : Int) ≤ (s.size : Int) := by omega
                have hpos : 0 < k := by omega
                have hkp2 : (0 : Int) < (k : Int) := by omega
                cases hkc : keyB (s.extract 0 k) with
                | true =>
                  have hf := hidden (hK.out h30 hpos hkc)
                  rw [hkc] at hkk
                  replace hkc := hidden hkc
                  clear hL hK hNK hkey hq
                  go_wp2_with fail
                  refine (hlk _).mono ?_
                  rintro e w' ⟨rfl, rfl⟩
                  go_wp2_with fail
                  refine (hdk _).mono ?_
                  rintro e w' ⟨rfl, rfl⟩
                  go_wp2_with fail
                  refine (hkk _).mono ?_
                  rintro e w1 ⟨rfl, hB1⟩
                  have hA1 := hidden (box_below2 hA0.out hB1)
                  have hB2 := hidden (hB0.out.trans (hB1.mono hB0.out.size))
                  clear hkk hB1
                  obtain ⟨⟨b0, b1, b2, b3, b4, b5⟩, c0, c1, c2, c3, c4, c5⟩ := box6f hA1.out
                  go_wp2
                  have hRow := run_loadVar_row (P := Tryd.prog) _ w.heap.size 35 35 _ _ _ (set6 hA1.out (.int .i64 2) (.string (s.extract 0 k)) (.int .i64 0) (.int .i64 0) (.string ⟨#[]⟩) (.int .i64 0)) Tryd.underlying35 rfl (by kernel_rfl)
                  exact bodyPost_ret ((results_cell_tmp2w rfl _ _ _).trans (by first | (simp [asAddr, hRow, Result.andThen]; done) | (simp [asAddr, hRow, Result.andThen]; rfl))) rfl ⟨by rw [hf.out]; rfl, set6_below hB2.out (Nat.le_refl _) _ _ _ _ _ _⟩
                | false =>
                  have hf := hidden (hNK.out h30 hpos hkc)
                  rw [hkc] at hkk
                  replace hkc := hidden hkc
                  clear hL hK hNK hkey hq
                  go_wp2_with fail
                  refine (hlk _).mono ?_
                  rintro e w' ⟨rfl, rfl⟩
                  go_wp2_with fail
                  refine (hdk _).mono ?_
                  rintro e w' ⟨rfl, rfl⟩
                  go_wp2_with fail
                  refine (hkk _).mono ?_
                  rintro e w1 ⟨rfl, hB1⟩
                  have hA1 := hidden (box_below2 hA0.out hB1)
                  have hB2 := hidden (hB0.out.trans (hB1.mono hB0.out.size))
                  clear hkk hB1
                  obtain ⟨⟨b0, b1, b2, b3, b4, b5⟩, c0, c1, c2, c3, c4, c5⟩ := box6f hA1.out
                  go_wp2
                  have hRow := run_loadVar_row (P := Tryd.prog) _ w.heap.size 35 35 _ _ _ (set6 hA1.out (.int .i64 1) (.string (s.extract 0 k)) (.int .i64 0) (.int .i64 0) (.string ⟨#[]⟩) (.int .i64 0)) Tryd.underlying35 rfl (by kernel_rfl)
                  exact bodyPost_ret ((results_cell_tmp2w rfl _ _ _).trans (by first | (simp [asAddr, hRow, Result.andThen]; done) | (simp [asAddr, hRow, Result.andThen]; rfl))) rfl ⟨by rw [hf.out]; rfl, set6_below hB2.out (Nat.le_refl _) _ _ _ _ _ _⟩
    · have hk2 : ¬ (k : Int) < (s.size : Int) := by omega
      have hn : Hid (R = k) := by
        show _ = _
        rw [← hR.out]
        exact hq.out k hk hall.out (by rintro ⟨h2, _⟩; exact hlt h2)
      rw [hn.out] at hL hK hNK
      clear hall hR hWV hWS hWays hn
      have hkk := fun x => hkey k x
      by_cases h30 : 30 < k
      · have hf := hidden (hL.out h30)
        have h30' : (30 : Int) < (k : Int) := by omega
        clear hL hK hNK hkk hkey hq
        obtain ⟨⟨b0, b1, b2, b3, b4, b5⟩, c0, c1, c2, c3, c4, c5⟩ := box6f hA0.out
        obtain ⟨⟨n0, n1, n2, n3, n4, n5⟩, -⟩ := box6f hN0.out
        go_wp2
        have hRow := run_loadVar_row (P := Tryd.prog) _ w.heap.size 35 35 _ _ _ hA0.out Tryd.underlying35 rfl (by kernel_rfl)
        exact bodyPost_ret ((results_cell_tmp2w rfl _ _ _).trans (by first | (simp [asAddr, hRow, Result.andThen]; done) | (simp [asAddr, hRow, Result.andThen]; rfl))) rfl ⟨by rw [hf.out]; rfl, hB0.out⟩
      · have h30' : ¬ (30 : Int) < (k : Int) := by omega
        have hkz : (k : Int) ≤ (s.size : Int) := by omega
        have hpos : 0 < k := by omega
        have hkp2 : (0 : Int) < (k : Int) := by omega
        cases hkc : keyB (s.extract 0 k) with
        | true =>
          have hf := hidden (hK.out h30 hpos hkc)
          rw [hkc] at hkk
          replace hkc := hidden hkc
          clear hL hK hNK hkey hq
          go_wp2_with fail
          refine (hkk _).mono ?_
          rintro e w1 ⟨rfl, hB1⟩
          have hA1 := hidden (box_below2 hA0.out hB1)
          have hB2 := hidden (hB0.out.trans (hB1.mono hB0.out.size))
          clear hkk hB1
          obtain ⟨⟨b0, b1, b2, b3, b4, b5⟩, c0, c1, c2, c3, c4, c5⟩ := box6f hA1.out
          go_wp2
          have hRow := run_loadVar_row (P := Tryd.prog) _ w.heap.size 35 35 _ _ _ (set6 hA1.out (.int .i64 2) (.string (s.extract 0 k)) (.int .i64 0) (.int .i64 0) (.string ⟨#[]⟩) (.int .i64 0)) Tryd.underlying35 rfl (by kernel_rfl)
          exact bodyPost_ret ((results_cell_tmp2w rfl _ _ _).trans (by first | (simp [asAddr, hRow, Result.andThen]; done) | (simp [asAddr, hRow, Result.andThen]; rfl))) rfl ⟨by rw [hf.out]; rfl, set6_below hB2.out (Nat.le_refl _) _ _ _ _ _ _⟩
        | false =>
          have hf := hidden (hNK.out h30 hpos hkc)
          rw [hkc] at hkk
          replace hkc := hidden hkc
          clear hL hK hNK hkey hq
          go_wp2_with fail
          refine (hkk _).mono ?_
          rintro e w1 ⟨rfl, hB1⟩
          have hA1 := hidden (box_below2 hA0.out hB1)
          have hB2 := hidden (hB0.out.trans (hB1.mono hB0.out.size))
          clear hkk hB1
          obtain ⟨⟨b0, b1, b2, b3, b4, b5⟩, c0, c1, c2, c3, c4, c5⟩ := box6f hA1.out
          go_wp2
          have hRow := run_loadVar_row (P := Tryd.prog) _ w.heap.size 35 35 _ _ _ (set6 hA1.out (.int .i64 1) (.string (s.extract 0 k)) (.int .i64 0) (.int .i64 0) (.string ⟨#[]⟩) (.int .i64 0)) Tryd.underlying35 rfl (by kernel_rfl)
          exact bodyPost_ret ((results_cell_tmp2w rfl _ _ _).trans (by first | (simp [asAddr, hRow, Result.andThen]; done) | (simp [asAddr, hRow, Result.andThen]; rfl))) rfl ⟨by rw [hf.out]; rfl, set6_below hB2.out (Nat.le_refl _) _ _ _ _ _ _⟩

end Go.Proofs.YtddmdieeljjamaaDoor
/-
  THE WORDS OF ANY TEXT: the reference's Words, by contract.
-/
namespace Go.Proofs.YtddmdieeljjamaaDoor
open Go.ChangeShapes Go.WideShapes Go.ChangeAt Go.RowKit

theorem cells_new2w (w : World) (o : Obj) (xs : List Value) (t : TypeId) : ∀ j x, xs[j]? = some x → ((w.alloc o).alloc (.cells xs.toArray t)).cell? ((⟨w.heap.size + 1, 0, none⟩ : Addr).add j) = some x := fun j x hj => by
  have h := cells_new (w.alloc o) xs t j x hj
  rwa [show (w.alloc o).heap.size = w.heap.size + 1 by show (w.heap.push o).size = _; simp] at h
theorem bl_ways (b : Int) : ((b == 9) = true ∧ isBl b = true) ∨ ((b == 9) = false ∧ (b == 10) = true ∧ isBl b = true) ∨ ((b == 9) = false ∧ (b == 10) = false ∧ (b == 13) = true ∧ isBl b = true) ∨ ((b == 9) = false ∧ (b == 10) = false ∧ (b == 13) = false ∧ (b == 32) = true ∧ isBl b = true) ∨
    ((b == 9) = false ∧ (b == 10) = false ∧ (b == 13) = false ∧ (b == 32) = false ∧ isBl b = false) := by
  unfold isBl
  by_cases h1 : b = 9
  · exact .inl ⟨by simp [h1], by simp [h1]⟩
  · by_cases h2 : b = 10
    · exact .inr (.inl ⟨by simp [h1], by simp [h2], by simp [h2]⟩)
    · by_cases h3 : b = 13
      · exact .inr (.inr (.inl ⟨by simp [h1], by simp [h2], by simp [h3], by simp [h3]⟩))
      · by_cases h4 : b = 32
        · exact .inr (.inr (.inr (.inl ⟨by simp [h1], by simp [h2], by simp [h3], by simp [h4], by simp [h4]⟩)))
        · exact .inr (.inr (.inr (.inr ⟨by simp [h1], by simp [h2], by simp [h3], by simp [h4], by simp [h1, h2, h3, h4]⟩)))
set_option maxHeartbeats 6400000 in
set_option maxRecDepth 100000 in
theorem rwords_c (s : ByteArray) (w : World) (hn : s.size ≤ 1000) :
    Calls Tryd.prog 5 #[.string s] w fun e w' => ∃ v, e = .returned (.tuple #[v, .int .i64 ((allWords s).2.1 : Int), .int .i64 (allWords s).2.2]) ∧ SlR wordR w' v (allWords s).1 ∧ Below w.heap.size w w' := by
  obtain ⟨i0, hi, hz0, hz1, hz2⟩ := info_parts infoW
  have hsz : (s.size : Int) ≤ 1000 := by omega
  obtain ⟨R, hR⟩ : ∃ R, Hid (wordsS s s.size 0 [] = R) := ⟨_, (rfl : wordsS s s.size 0 [] = _)⟩
  have hRR : Hid (allWords s = R) := hR.out
  rw [hRR.out]
  clear hRR
  go_enter Tryd.func5, Tryd.ntmps5
  go_wp2_with fail
  go_loopw [5, 6] (fun u i x => ∃ (k f : Nat) (l : List Wd), i = .int .i64 k ∧ k ≤ s.size ∧ s.size ≤ k + f ∧ l.length ≤ k ∧ Hid (x.ownsRow w.heap.size 35 6 u l.length (wordR.flat l)) ∧ Hid (Below w.heap.size w x) ∧ Hid (wordsS s f k l = R))
    (fun _ i _ => s.size - (intOf i).toNat)
  case atStart => exact ⟨0, s.size, [], rfl, Nat.zero_le _, by omega, Nat.le_refl _, World.ownsRow_made w #[] 0 (Nat.le_refl _) (by unfold maxLen; omega) rfl, (Below.refl _ _).alloc (Nat.le_refl _) _, hR⟩
  case round =>
    clear hR
    obtain ⟨k, f, l, rfl, hk, hf, hlk, hown, hB, hR⟩ := hrel
    obtain ⟨a0, c0, rfl⟩ := own_len hown.out
    by_cases hlt : k < s.size
    · have hk2 : (k : Int) < (s.size : Int) := by omega
      have hbk := byteAt_eq (s := s) (k := k) hlt
      rcases bl_ways (byteAt s k) with ⟨e1, hb⟩ | ⟨e1, e2, hb⟩ | ⟨e1, e2, e3, hb⟩ | ⟨e1, e2, e3, e4, hb⟩ | ⟨e1, e2, e3, e4, hb⟩
      rotate_left 4
      · have hw := rword_c (s.extract k s.size) wr (by simp; omega) (by simp; omega)
        have herr := hidden (fun h => words_err (l := l) hf hlt hb h)
        have hokk := hidden (fun h => words_word (l := l) hf hlt hb h)
        rw [hR.out] at herr hokk
        generalize byteAt s k = b at *
        generalize wordS (s.extract k s.size) = X at *
        obtain ⟨qk, qt, qa, qn, qv, m, er⟩ := X
        simp only [WR.v] at hw
        replace hb := hidden hb
        generalize hLL : l.length = LL at *
        replace hLL := hidden hLL
        by_cases he : er = 0
        · obtain ⟨g, hg1, hg2, hg3, hst⟩ := hokk.out he
          replace hst := hidden (show R = wordsS s g (k + m) (l ++ [(⟨qk, qt, qa, qn, qv, (k : Int)⟩ : Wd)]) from hst)
          clear herr hokk hR
          simp only at hg1 hg2 hg3
          subst he
          go_wp2_with fail
          refine hw.mono ?_
          rintro e w1 ⟨rfl, hB1⟩
          have hBB := hidden (hB.out.trans (hB1.mono hB.out.size))
          have hown1 := hidden (owns_keep hown.out hB1)
          have hownA := hidden (owns_keep hown1.out ((Below.refl _ _).alloc (Nat.le_refl _) (.cells #[.int .i64 qk, .string qt, .int .i64 qa, .int .i64 qn, .string qv, .int .i64 (k : Int)] 35)))
          have hBA : Hid (Below w.heap.size w (w1.alloc (.cells #[.int .i64 qk, .string qt, .int .i64 qa, .int .i64 qn, .string qv, .int .i64 (k : Int)] 35))) := hBB.out.alloc hBB.out.size _
          clear hw hB hB1 hown hown1
          obtain ⟨⟨p0, p1, p2, p3, p4, p5⟩, s0, s1, s2, s3, s4, s5⟩ := box6f (heap_alloc_new w1 (.cells #[.int .i64 qk, .string qt, .int .i64 qa, .int .i64 qn, .string qv, .int .i64 0] 35))
          obtain ⟨⟨l0, l1, l2, l3, l4, l5⟩, -⟩ := box6f (heap_alloc_new w1 (.cells #[.int .i64 qk, .string qt, .int .i64 qa, .int .i64 qn, .string qv, .int .i64 (k : Int)] 35))
          go_wp2_with (at_builtin; go_loud (refine wpList_append_own _ rfl _ _ 23 rfl w.heap.size 35 i0 (.agg #[.int .i64 0, .string ⟨#[]⟩, .int .i64 0, .int .i64 0, .string ⟨#[]⟩, .int .i64 0]) 6 64 Tryd.underlying23 hi hz0 hz1 hz2 rfl (by decide) _ _ _ rfl (hownA.out.alloc _) ⟨w1.heap.size + 1, 0, none⟩ 1 1 [.int .i64 qk, .string qt, .int .i64 qa, .int .i64 qn, .string qv, .int .i64 (k : Int)] rfl rfl (cells_new2w w1 _ [_, _, _, _, _, _] _) (by intro x hx; simp at hx; rcases hx with rfl | rfl | rfl | rfl | rfl | rfl <;> rfl) (by unfold maxLen; omega) (by omega) (by have := hBA.out.size; simp at *; omega) ?_); intro v' w6 hown6 hgrow6 _; obtain ⟨a9, c9, rfl⟩ := own_len hown6)
          have hB6 := hidden ((hBA.out.alloc hBA.out.size (.cells #[.int .i64 qk, .string qt, .int .i64 qa, .int .i64 qn, .string qv, .int .i64 (k : Int)] 35)).grown hgrow6 (by have := hBA.out.size; show w.heap.size ≤ ((w1.heap.push _).push _).size; simp at *; omega) (fun j hj => (hownA.out.lt j hj).1))
          have hfl : Hid (wordR.flat l ++ [.int .i64 qk, .string qt, .int .i64 qa, .int .i64 qn, .string qv, .int .i64 (k : Int)] = wordR.flat (l ++ [⟨qk, qt, qa, qn, qv, k⟩])) := by
            show _ = _
            rw [Rec.flat_app, Rec.flat_one]; rfl
          rw [hfl.out] at hown6
          replace hown6 := hidden hown6
          clear hgrow6 hownA hBA hBB p0 p1 p2 p3 p4 p5 s0 s1 s2 s3 s4 s5 l0 l1 l2 l3 l4 l5 hfl
          go_wp2
          go_roundw
          case rel => exact ⟨k + m, g, l ++ [(⟨qk, qt, qa, qn, qv, (k : Int)⟩ : Wd)], by go_num, hg2, hg1, by have := hLL.out; simp; omega, by rw [List.length_append, hLL.out]; exact hown6, hB6, hst.out.symm⟩
          case measure => simp [intOf]; omega
        · have hfin := hidden (herr.out he)
          have he2 : (er != 0) = true := by simp [he]
          clear herr hokk hR
          go_wp2_with fail
          refine hw.mono ?_
          rintro e w1 ⟨rfl, hB1⟩
          have hBB := hidden (hB.out.trans (hB1.mono hB.out.size))
          clear hw hB hB1 hown
          go_wp2
          go_ret3
          exact ⟨.slice none 0 0, by rw [hfin.out]; rfl, by rw [hfin.out]; exact ⟨none, 0, rfl, Nat.le_refl _, fun _ => rfl, fun _ h => (by cases h), .inl rfl⟩, (hBB.out.alloc hBB.out.size _)⟩
      all_goals
        obtain ⟨g, hg, hst⟩ := words_blankS (l := l) hf hlt hb
        rw [hR.out] at hst
        replace hst := hidden hst
        replace hb := hidden hb
        generalize byteAt s k = b at *
        generalize hLL : l.length = LL at *
        replace hLL := hidden hLL
        clear hR
        go_wp2
        go_roundw
        case rel => exact ⟨k + 1, g, l, by go_num, by omega, hg, by have := hLL.out; omega, by rw [hLL.out]; exact hown, hB, hst.out.symm⟩
        case measure => simp [intOf]; omega
    · have hfin := hidden (words_done (f := f) (l := l) hlt)
      rw [hR.out] at hfin
      have hkk : ¬ (k : Int) < (s.size : Int) := by omega
      have h2 : ¬ (1000 : Int) < (l.length : Int) := by omega
      have hS := hidden (slR_of_owns hown.out)
      generalize hLL : l.length = LL at *
      replace hLL := hidden hLL
      clear hR
      go_wp2
      go_ret3
      exact ⟨.slice a0 LL c0, by rw [hfin.out]; rfl, by rw [hfin.out]; exact hS.out, hB.out⟩
end Go.Proofs.YtddmdieeljjamaaDoor
