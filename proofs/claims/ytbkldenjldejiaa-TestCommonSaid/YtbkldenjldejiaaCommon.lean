/-
  WHAT SOME RISING LISTS HAVE IN COMMON, by contract.
-/
import Derived.Test.YtbkldenjldejiaaComMath
import Derived.Deep.LoopGhost
namespace Go.Proofs.Ytbkldenjldejiaa
open Go.ChangeShapes Go.WideShapes Go.ChangeAt Go.RowKit

set_option maxRecDepth 1000000 in
set_option maxHeartbeats 3200000 in
theorem common_c (g og cap : Nat) (a0 : Option Addr) (cap0 : Nat) (rows : List Value) (X : List Nat) (Y : Nat → List Nat) (F : Nat → Bool) (q : Nat → Nat → Bool) (w : World)
    (h : Sl w (.slice (some ⟨g, og, none⟩) (rows.length + 1) cap) (.slice a0 X.length cap0 :: rows)) (hc1 : ∀ u ∈ rows, u.oneCell' = true) (hl : rows.length ≤ 10)
    (h0 : Sl w (.slice a0 X.length cap0) (ints X)) (hY : ∀ i v, rows[i]? = some v → Sl w v (ints (Y i)))
    (hC : Hid (Com X Y rows.length F q)) :
    Calls Try.prog 8 #[.slice (some ⟨g, og, none⟩) (rows.length + 1) cap] w fun e w' =>
      ∃ v', e = .returned v' ∧ Holds w' v' (ints (X.filter F)) ∧ Below w.heap.size w w' := by
  obtain ⟨i0, hi, hz0, hz1, hz2⟩ := info_parts infoI
  have hlp := hC.out.lenX
  have hS1 := h.from' 1 (by omega)
  have hx0 : w.cell? ⟨g, og, none⟩ = some (.slice a0 X.length cap0) := by
    obtain ⟨a, c, e1, -, -, -, hr⟩ := h
    cases e1
    rcases hr with hr | ⟨b, off, e2, _, hr⟩
    · cases hr
    · cases e2
      exact hr 0 _ rfl
  have hnc : (1 : Int) ≤ (rows.length + 1 : Nat) := by omega
  have hcc : (1 : Int) ≤ (cap : Int) := by
    obtain ⟨a, c, e1, hle, -⟩ := h
    cases e1
    simp only [List.length_cons] at hle
    omega
  have hclone := fun g og cap h => clone_c g og cap rows w h hc1 (by omega)
  have hSa : Hid (cap ≠ 1 → Sl w (.slice (some ⟨g, og + 1, none⟩) rows.length (cap - 1)) rows) := fun h => by
    simpa [h] using hS1
  have hSb : Hid (cap = 1 → Sl w (.slice (some ⟨g, og, none⟩) rows.length 0) rows) := fun h => by
    simpa [h] using hS1
  have hrests : Hid (∀ w1 c k, w1.ownsRow w.heap.size 22 1 (.slice (some ⟨c, 0, none⟩) rows.length k) rows.length rows → Rests w w1 c rows.length fun i => (Y i)) := fun w1 c k hown => rests_of hown hY
  have hg0 : Hid (g < w.heap.size) := World.block_lt_of_cell? _ _ hx0
  clear hS1 h hc1
  generalize rows.length = N at *
  clear hY
  go_enter Try.func8, Try.ntmps8
  go_wp2_with fail
  go_step3
  go_wp2_with fail
  all_goals
    refine (hclone _ _ _ (by first | exact hSa.out (by omega) | exact hSb.out (by omega))).mono ?_
    rintro e w1 ⟨c, k, rfl, hown, hB1⟩
    have hR := hidden (hrests.out w1 c k hown)
    have hx1 := (hB1.cell (p := ⟨g, og, none⟩) hg0.out).trans hx0
    replace hB1 := hidden hB1
    have hc0 : Hid (c < w1.heap.size) := by
      obtain ⟨cs, hc, -⟩ := hR.out.lies
      exact (Array.getElem?_eq_some_iff.1 hc).1
    clear hclone hSa hSb hrests hown hx0
    go_wp2_with fail
    go_step3
    go_wp2_with fail
    go_loopg [4, 18] X.length (fun gg s4 s18 wx => ∃ (k : Nat) (d : Nat → Nat), k + gg = X.length ∧ s18 = .int .i64 (k : Int) ∧ Hid (Lows Y N d X k) ∧ Hid (Rests w wx c N fun i => (Y i).drop (d i)) ∧
      Hid (wx.ownsRow w1.heap.size 3 1 s4 ((X.take k).filter F).length (ints ((X.take k).filter F))) ∧ Hid (Below w.heap.size w wx) ∧ Hid (w1.heap.size ≤ wx.heap.size))
    case atStart => exact ⟨0, fun _ => 0, by omega, rfl, fun i _ => ⟨Nat.zero_le _, fun j hj => absurd hj (Nat.not_lt_zero _)⟩, hR, ⟨rfl, .inl ⟨rfl, rfl⟩⟩, hB1, Nat.le_refl _⟩
    case round =>
      obtain ⟨k, d, hkg, rfl, hLow, hRs, hown, hB, hsz⟩ := hrel
      cases gk with
      | zero =>
        obtain rfl : k = X.length := by omega
        have hj1 : ¬ ((X.length : Nat) : Int) < (X.length : Int) := by omega
        have hfin := hown.out
        rw [List.take_length] at hfin
        replace hfin := hidden (holds_of_owns hfin)
        have hfb := hB
        clear hown hB hRs hLow hx1 hsz
        go_wp2
        try rw [Exit.noGoto_ret]
        go_ret
        exact ⟨_, rfl, hfin.out, hfb.out⟩
      | succ gg =>
        have hk : k < X.length := by omega
        have hj1 : (k : Int) < (X.length : Int) := by omega
        obtain ⟨b0, o0, rfl, hcx⟩ : ∃ b0 o0, a0 = some ⟨b0, o0, none⟩ ∧ wr.cell? ⟨b0, o0 + k, none⟩ = some (.int .i64 ((X.getD k 0 : Nat) : Int)) := by
          obtain ⟨a, cp, e1, -, -, -, hr⟩ := h0
          simp only [Value.slice.injEq] at e1
          obtain ⟨rfl, -, rfl⟩ := e1
          rcases hr with hr | ⟨b, off, rfl, hb, hr⟩
          · have := congrArg List.length hr
            rw [ints_len] at this; simp only [List.length_nil] at this; omega
          · exact ⟨b, off, rfl, (hB.out.cell (p := ⟨b, off + k, none⟩) hb).trans (hr k _ (ints_at X k hk))⟩
        obtain ⟨x, hx⟩ : ∃ x, Hid (X.getD k 0 = x) := ⟨_, (rfl : _ = _)⟩
        rw [hx.out] at hcx
        go_wp2
        go_loopg [24] N (fun g2 s24 wy => ∃ (i : Nat) (d : Nat → Nat), i + g2 = N ∧ s24 = .int .i64 (i : Int) ∧ Hid (Lows Y N d X k) ∧ Hid (∀ i', i' < i → q i' x = true) ∧ Hid (Rests w wy c N fun i => (Y i).drop (d i)) ∧
          Hid (wy.ownsRow w1.heap.size 3 1 u4 ((X.take k).filter F).length (ints ((X.take k).filter F))) ∧ Hid (Below w.heap.size w wy) ∧ Hid (w1.heap.size ≤ wy.heap.size))
        case atStart => exact ⟨0, d, by omega, rfl, hLow, fun i' h => absurd h (Nat.not_lt_zero _), hRs, hown, hB, hsz⟩
        case round =>
          -- LOOP2
          obtain ⟨i, d, hig, rfl, hLow, hyes, hRs, hown, hB, hsz⟩ := hrel
          cases gk with
          | zero =>
            obtain rfl : i = N := by omega
            have hj2 : ¬ (i : Int) < (i : Int) := by omega
            have hF : F x = true := hC.out.all x hyes.out
            have hfl := filter_snoc X F k hk
            rw [hx.out, hF] at hfl
            simp only [if_true] at hfl
            have hfn : ((X.take k).filter F).length ≤ 65536 := by
              have h3 := List.length_filter_le F (X.take k)
              have h4 : (X.take k).length ≤ k := by rw [List.length_take]; omega
              omega
            replace hfl := hidden hfl
            have hfn2 := hidden hfn
            generalize (X.take k).filter F = fs at *
            have hown3 := hown.out
            have hsz3 := hidden hsz.out
            clear hF
            go_wp2_with (at_builtin; refine wpList_append_own _ rfl _ _ 22 rfl w1.heap.size 3 i0 (.int .i64 0) 1 8 Try.underlying22 hi hz0 hz1 hz2 rfl (by decide) _ _ _ rfl (hown3.alloc _) ⟨wr.heap.size, 0, none⟩ 1 1 [.int .i64 (x : Int)] rfl rfl (cell_one_new _ _ _) (fun u hu => by simp at hu; subst hu; rfl) (by unfold maxLen; omega) (by omega) (by have := hsz3.out; simp; omega) ?_; intro v' w3 hown' hgrow hnil3)
            have hne : u4.ownBlock ≠ some c := fun e => by
              have h1 := (hown3.lt c e).1
              have h2 := hc0.out
              omega
            have hnext : Hid (w3.ownsRow w1.heap.size 3 1 v' ((X.take (k + 1)).filter F).length (ints ((X.take (k + 1)).filter F))) := by
              rw [hfl.out, List.length_append, ints_snoc]; exact hown'
            have hR3 : Hid (Rests w w3 c i fun i => (Y i).drop (d i)) := ((hRs.out.grown (World.grownBy_alloc wr _ none) (by simp)).grown hgrow hne)
            have hB3 : Hid (Below w.heap.size w w3) := (hB.out.alloc hB.out.size _).grown hgrow (by have := hB.out.size; simp; omega) (fun m hm => by have := (hown3.lt m hm).1; have := hB1.out.size; omega)
            have hsz4 : Hid (w1.heap.size ≤ w3.heap.size) := by
              have h1 := hgrow.size
              have h2 := hsz3.out
              show _ ≤ _
              simp at h1
              omega
            have hLow2 := hidden hLow.out.next
            clear hown3 hown' hgrow hnil3 hne hRs hown hB hsz hsz3 hLow hfl
            go_wp2
            go_roundg gg
            case measure => omega
            case rel => exact ⟨k + 1, d, by omega, by first | rfl | go_num | simp, hLow2, hR3, hnext, hB3, hsz4⟩
          | succ g2 =>
            have hi2 : i < N := by omega
            have hj2 : (i : Int) < (N : Int) := by omega
            go_wp2
            go_loopg [] ((Y i).length - d i) (fun g3 wz => ∃ (d : Nat → Nat), d i + g3 = (Y i).length ∧ Hid (Lows Y N d X k) ∧ Hid (Rests w wz c N fun i => (Y i).drop (d i)) ∧
              Hid (wz.ownsRow w1.heap.size 3 1 u4 ((X.take k).filter F).length (ints ((X.take k).filter F))) ∧ Hid (Below w.heap.size w wz) ∧ Hid (w1.heap.size ≤ wz.heap.size))
            case atStart => exact ⟨d, by have := (hLow.out i hi2).1; omega, hLow, hRs, hown, hB, hsz⟩
            case round =>
              clear hRs hown hB hsz hLow
              obtain ⟨d, hdg, hLow, hRs, hown, hB, hsz⟩ := hrel
              obtain ⟨a, cp, hcl, hfr, hSl⟩ := hRs.out.get i hi2
              cases gk with
              | zero =>
                have hn : ((Y i).drop (d i)).length = 0 := by rw [List.length_drop]; omega
                rw [hn] at hcl
                have hfin := hown.out
                rw [hC.out.done d k i hLow.out hi2 (by omega)] at hfin
                replace hfin := hidden (holds_of_owns hfin)
                have hfb := hB
                clear hown hB hRs hLow hx1 hsz hSl hyes
                go_wp2
                try rw [Exit.noGoto_ret]
                go_ret
                exact ⟨_, rfl, hfin.out, hfb.out⟩
              | succ g3 =>
                have hd : d i < (Y i).length := by omega
                obtain ⟨m, hm⟩ : ∃ m, ((Y i).drop (d i)).length = m + 1 := ⟨(Y i).length - d i - 1, by rw [List.length_drop]; omega⟩
                rw [hm] at hcl hSl
                have hmb : m ≤ 65536 := by have := hC.out.lenY i; rw [List.length_drop] at hm; omega
                obtain ⟨b, o, rfl, hb, hcy⟩ : ∃ b o, a = some ⟨b, o, none⟩ ∧ b < w.heap.size ∧ w.cell? ⟨b, o, none⟩ = some (.int .i64 (((Y i).getD (d i) 0 : Nat) : Int)) := by
                  obtain ⟨a2, cp2, e1, -, -, -, hr⟩ := hSl
                  simp only [Value.slice.injEq] at e1
                  obtain ⟨rfl, -, rfl⟩ := e1
                  rcases hr with hr | ⟨b, off, rfl, hb, hr⟩
                  · have := congrArg List.length hr
                    rw [ints_len, hm] at this; simp only [List.length_nil] at this; omega
                  · refine ⟨b, off, rfl, hb, hr 0 _ ?_⟩
                    rw [ints_at _ 0 (by omega), List.getD_eq_getElem?_getD, List.getElem?_drop, List.getD_eq_getElem?_getD, Nat.add_zero]
                have hcyw := (hB.out.cell (p := ⟨b, o, none⟩) hb).trans hcy
                have hcp : (1 : Int) ≤ (cp : Int) := by
                  obtain ⟨a2, cp2, e1, hle, -⟩ := hSl
                  simp only [Value.slice.injEq] at e1
                  obtain ⟨-, -, rfl⟩ := e1
                  rw [ints_len, hm] at hle
                  omega
                have hfrom := hSl.from' 1 (by omega)
                rw [show (ints ((Y i).drop (d i))).drop 1 = ints ((Y i).drop (d i + 1)) by simp [ints, List.map_drop]] at hfrom
                have hsa : Hid (cp ≠ 1 → Sl w (.slice (some ⟨b, o + 1, none⟩) m (cp - 1)) (ints ((Y i).drop (d i + 1)))) := fun h => by simpa [h] using hfrom
                have hsb : Hid (cp = 1 → Sl w (.slice (some ⟨b, o, none⟩) m 0) (ints ((Y i).drop (d i + 1)))) := fun h => by simpa [h] using hfrom
                have hm1 : (0 : Int) < ((m + 1 : Nat) : Int) := by omega
                have hm2 : (1 : Int) ≤ ((m + 1 : Nat) : Int) := by omega
                clear hfrom hSl hcy hm
                obtain ⟨y, hy⟩ : ∃ y, Hid ((Y i).getD (d i) 0 = y) := ⟨_, (rfl : _ = _)⟩
                rw [hy.out] at hcyw
                have hne : Hid (u4.ownBlock ≠ some c) := fun e => by
                  have h1 := (hown.out.lt c e).1
                  have h2 := hc0.out
                  omega
                by_cases hlt : y < x
                · have hlt1 : (y : Int) < (x : Int) := by omega
                  have hLow2 := hidden (hLow.out)
                  have hLow3 : Hid (Lows Y N (fun j => if j = i then d i + 1 else d j) X k) := hC.out.more d k i hLow.out hd (by rw [hy.out, hx.out]; exact hlt)
                  have hRc : Hid (∀ v, Sl w v (ints ((Y i).drop (d i + 1))) → Rests w (wr.setCell ⟨c, i, none⟩ v) c N fun j => (Y j).drop (if j = i then d i + 1 else d j)) := fun v hv =>
                    (hRs.out.set i v _ hv).congr fun j _ => by
                      by_cases e : j = i
                      · subst e; simp
                      · simp [e]
                  have hown3 : Hid (∀ v, (wr.setCell ⟨c, i, none⟩ v).ownsRow w1.heap.size 3 1 u4 ((X.take k).filter F).length (ints ((X.take k).filter F))) := fun v => hown.out.kept (grownBy_set wr c i v) (.inr hne.out)
                  have hB3 : Hid (∀ v, Below w.heap.size w (wr.setCell ⟨c, i, none⟩ v)) := fun v => hB.out.setCell hRs.out.low v
                  have hsz3 : Hid (∀ v, w1.heap.size ≤ (wr.setCell ⟨c, i, none⟩ v).heap.size) := fun v => by
                    have := (grownBy_set wr c i v).size
                    exact Nat.le_trans hsz.out this
                  clear hRs hown hB hsz hLow hLow2
                  go_wp2
                  all_goals
                    go_roundg g3
                    case measure => omega
                    case rel => exact ⟨fun j => if j = i then d i + 1 else d j, by simp; omega, hLow3, hRc.out _ (by first | exact hsa.out (by omega) | exact hsb.out (by omega)), hown3.out _, hB3.out _, hsz3.out _⟩
                · have hlt1 : ¬ (y : Int) < (x : Int) := by omega
                  by_cases he : y = x
                  · subst he
                    have hyes2 : Hid (∀ i', i' < i + 1 → q i' y = true) := fun i' hi' => by
                      by_cases e : i' = i
                      · subst e
                        have := hC.out.yes d k i' hLow.out hk hi2 hd (by rw [hy.out, hx.out])
                        rwa [hx.out] at this
                      · exact hyes.out i' (by omega)
                    go_wp2
                    go_roundg g2
                    case measure => omega
                    case rel => exact ⟨i + 1, d, by omega, by first | rfl | go_num | simp, hLow, hyes2, hRs, hown, hB, hsz⟩
                  · have hne1 : ¬ (y : Int) = (x : Int) := by omega
                    have hbne : ((y : Int) != (x : Int)) = true := by simp; omega
                    have hnext : Hid (wr.ownsRow w1.heap.size 3 1 u4 ((X.take (k + 1)).filter F).length (ints ((X.take (k + 1)).filter F))) := by
                      have hF : F x = false := by
                        have := hC.out.no d k i hLow.out hk hi2 (by rw [hy.out, hx.out]; omega)
                        rwa [hx.out] at this
                      have hfl := filter_snoc X F k hk
                      rw [hx.out, hF] at hfl
                      simp only [Bool.false_eq_true, if_false, List.append_nil] at hfl
                      show wr.ownsRow _ _ _ _ _ _
                      rw [hfl]; exact hown.out
                    have hLow2 := hidden hLow.out.next
                    clear hown hLow
                    go_wp2
                    go_roundg gg
                    case measure => omega
                    case rel => exact ⟨k + 1, d, by omega, by first | rfl | go_num | simp, hLow2, hRs, hnext, hB, hsz⟩
end Go.Proofs.Ytbkldenjldejiaa
