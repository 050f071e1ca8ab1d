/-
  THE WORDS OF ANY TEXT, WITH THEIR PLACES: the law's own walk.
-/
import Derived.Test.YtfdbedeidcaonadDoorWRefs
import Derived.Test.YtfdbedeidcaonadDoorLRSame
import Derived.Test.YtfdbedeidcaonadDoorCut
namespace Go.Proofs.YtfdbedeidcaonadDoor
open Go.ChangeShapes Go.WideShapes Go.ChangeAt Go.RowKit

theorem wall_self (l : List Wd) : wall l l = true := wall_all rfl fun j _ => by simp [wsame]
theorem words_len (s : ByteArray) : ∀ f i l, l.length ≤ i → i ≤ s.size → (wordsS s f i l).1.length ≤ s.size
  | 0, i, l, h, hi => by show l.length ≤ _; omega
  | f + 1, i, l, h, hi => by
    rw [wordsS]
    split
    · rename_i h1
      split
      · exact words_len s f (i + 1) l (by omega) h1
      · split
        · rename_i h2
          have h3 := word_m _ h2
          have h4 : (s.extract i s.size).size = s.size - i := by simp
          exact words_len s f _ _ (by simp; omega) (by omega)
        · exact Nat.zero_le _
    · show l.length ≤ _; omega
theorem all_len (s : ByteArray) : (allWords s).1.length ≤ s.size := words_len s s.size 0 [] (Nat.le_refl _) (Nat.zero_le _)
set_option maxHeartbeats 3200000 in
set_option maxRecDepth 100000 in
theorem law_c (s : ByteArray) (w : World) (hsig : ∀ k, k < 22 → w.cell? ⟨0, k, none⟩ = some (.string (siL.getD k ⟨#[]⟩)))
    (hlv : ∀ x, GoX.Calm w x → Calls Tryd.prog 8 #[] x fun e w' => e = .returned (.bool true) ∧ GoX.Calm x w') :
    Calls Tryd.prog 3 #[.string s] w fun e w' => e = .returned (.bool true) ∧ GoX.Calm w w' := by
  have hc := fun w => cut_c s 300 w (by omega)
  have hsz := cutB_size s 300
  generalize cutB s 300 = c at *
  have h1 := words_c c w (by omega) hsig
  have h2 := fun x => rwords_c c x (by omega)
  have hlen := all_len c
  have hself := wall_self (allWords c).1
  have hsm : ∀ x u v, SlR wordR x u (allWords c).1 → SlR wordR x v (allWords c).1 → Calls Tryd.prog 7 #[u, v] x fun e w' => e = .returned (.bool true) ∧ GoX.Calm x w' := fun x u v h1 h2 =>
    (rlsame_c u v _ _ x h1 h2 (by omega)).mono fun e w' ⟨he, hB⟩ => ⟨by rw [he, hself], .of_below hB⟩
  generalize allWords c = X at *
  obtain ⟨L, p, q⟩ := X
  simp only at h1 h2 hlen hsm
  have hL : Hid (L.length ≤ 300) := by show _ ≤ _; omega
  clear hself hlen hsz hsig
  go_enter Tryd.func3, Tryd.ntmps3
  go_wp2_with fail
  refine (hc _).mono ?_
  rintro e w' ⟨rfl, rfl⟩
  clear hc
  go_wp2_with fail
  refine h1.mono ?_
  rintro e w1 ⟨v, rfl, hU, hB1⟩
  have k1 : Hid (GoX.Calm w' w1) := .of_below hB1
  obtain ⟨a1, c1, rfl, -⟩ := id hU
  replace hU := hidden hU
  clear h1 hB1
  go_wp2_with fail
  refine (h2 _).mono ?_
  rintro e w2 ⟨u, rfl, hV, hB2⟩
  have k2 : Hid (GoX.Calm w' w2) := k1.out.trans (.of_below hB2)
  have hU2 := hidden (hU.out.below hB2)
  obtain ⟨a2, c2, rfl, -⟩ := id hV
  have h3 := hsm w2 _ _ hU2.out hV
  replace hV := hidden hV
  have e1 : ((p : Int) != (p : Int)) = false := by simp
  have e2 : (q != q) = false := by simp
  clear h2 hB2 k1 hU hsm
  go_wp2_with fail
  refine h3.mono ?_
  rintro e w3 ⟨rfl, hD⟩
  have k3 : Hid (GoX.Calm w' w3) := k2.out.trans hD
  obtain ⟨a1', c1', he1, -, -, -, hr1⟩ := hU2.out.calm hD
  simp only [Value.slice.injEq] at he1
  obtain ⟨rfl, -, rfl⟩ := he1
  obtain ⟨a2', c2', he2, -, -, -, hr2⟩ := hV.out.calm hD
  simp only [Value.slice.injEq] at he2
  obtain ⟨rfl, -, rfl⟩ := he2
  replace hr1 := hidden hr1
  replace hr2 := hidden hr2
  clear h3 hD k2 hU2 hV e1 e2
  go_wp2_with fail
  go_loopw [9] (fun i x => ∃ k : Nat, k ≤ L.length ∧ i = .int .i64 k ∧ Hid (GoX.Calm w3 x)) (fun i _ => L.length - (intOf i).toNat)
  case atStart => exact ⟨0, Nat.zero_le _, rfl, GoX.Calm.refl _⟩
  case round =>
    obtain ⟨k, hk, rfl, hC⟩ := hrel
    by_cases hlt : k < L.length
    · obtain ⟨b1, o1, rfl, hb1, -, -, -, -, -, x5⟩ := word_at (hr1.out.calm hC.out) hlt
      obtain ⟨b2, o2, rfl, hb2, -, -, -, -, -, y5⟩ := word_at (hr2.out.calm hC.out) hlt
      generalize L.getD k Wd.none = y at *
      have hk2 : (k : Int) < (L.length : Int) := by omega
      have hk3 : (k : Int) ≤ 300 := by have := hL.out; omega
      have hCd := hidden (hC.out.trans (GoX.Calm.of_below (Below.refl wr.heap.size wr).drew))
      go_wp2_with fail
      go_region
      all_goals
        go_wp2
        go_roundw
        case rel => exact ⟨k + 1, by omega, by go_num, hCd⟩
        case measure => simp [intOf]; omega
    · have hk2 : ¬ (k : Int) < (L.length : Int) := by omega
      have h4 := hlv wr (k3.out.trans hC.out)
      clear hlv
      go_wp2_with fail
      refine h4.mono ?_
      rintro e w4 ⟨rfl, hD⟩
      have k4 := hidden ((k3.out.trans hC.out).trans hD)
      clear h4 hD
      go_wp2
      go_ret
      exact ⟨by first | done | rfl | simp, k4.out⟩
end Go.Proofs.YtfdbedeidcaonadDoor
