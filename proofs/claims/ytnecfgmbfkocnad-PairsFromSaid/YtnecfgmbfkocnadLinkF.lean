/-
  LINKS LOOKED FOR, by contract.
-/
import Derived.Test.YtnecfgmbfkocnadLinkC
namespace Go.Proofs.Ytnecfgmbfkocnad
open Go.ChangeShapes Go.WideShapes Go.ChangeAt Go.RowKit

def cmpI (a b : Int) : Int := if a < b then -1 else if b < a then 1 else 0
theorem nani_c (a : Int) (w : World) : Calls Try.prog 25 #[.int .i64 a] w fun e w' => e = .returned (.bool false) ∧ w' = w := by
  go_enter Try.func25, Try.ntmps25
  go_wp2
  go_ret
  exact ⟨rfl, rfl⟩
theorem cmpi_c (a b : Int) (w : World) : Calls Try.prog 17 #[.int .i64 a, .int .i64 b] w fun e w' => e = .returned (.int .i64 (cmpI a b)) ∧ w' = w := by
  have h := fun a w => nani_c a w
  have key : (a < b ∧ Hid (cmpI a b = -1)) ∨ (¬ a < b ∧ b < a ∧ Hid (cmpI a b = 1)) ∨ (¬ a < b ∧ ¬ b < a ∧ Hid (cmpI a b = 0)) := by
    by_cases h1 : a < b
    · exact .inl ⟨h1, by show _ = _; simp [cmpI, h1]⟩
    · by_cases h2 : b < a
      · exact .inr (.inl ⟨h1, h2, by show _ = _; simp [cmpI, h1, h2]⟩)
      · exact .inr (.inr ⟨h1, h2, by show _ = _; simp [cmpI, h1, h2]⟩)
  rcases key with ⟨h1, e⟩ | ⟨h1, h2, e⟩ | ⟨h1, h2, e⟩ <;> rw [e.out] <;> clear e <;>
  · go_enter Try.func17, Try.ntmps17
    go_wp2_with fail
    refine (h a w).mono ?_
    rintro e w ⟨rfl, rfl⟩
    go_wp2_with fail
    refine (h b _).mono ?_
    rintro e w ⟨rfl, rfl⟩
    go_wp2
    go_ret
    exact ⟨rfl, rfl⟩
set_option maxHeartbeats 1600000 in
theorem bya_c (x : Lk) (n : Int) (w : World) : Calls Try.prog 16 #[.agg #[.int .i64 x.a, .int .i64 x.b, .int .i64 x.c, .int .u64 x.n], .int .i64 n] w fun e w' => e = .returned (.int .i64 (cmpI x.a n)) ∧ Below w.heap.size w w' := by
  obtain ⟨xa, xb, xc, xn⟩ := x
  have hX := heap_alloc_new w (.cells #[.int .i64 xa, .int .i64 xb, .int .i64 xc, .int .u64 xn] 28)
  obtain ⟨⟨b0, b1, b2, b3⟩, -⟩ := box4f hX
  have hB0 : Hid (Below w.heap.size w (w.alloc (.cells #[.int .i64 xa, .int .i64 xb, .int .i64 xc, .int .u64 xn] 28))) := (Below.refl _ _).alloc (Nat.le_refl _) _
  have hc := fun z => cmpi_c xa n z
  simp only
  generalize cmpI xa n = c at *
  clear hX
  go_enter Try.func16, Try.ntmps16
  go_wp2_with fail
  refine (hc _).mono ?_
  rintro e w2 ⟨rfl, rfl⟩
  go_wp2
  go_ret
  exact ⟨rfl, hB0.out⟩
/-- Links that rise by where they begin. -/
def Rises (ps : List Lk) : Prop := ∀ i j, i ≤ j → j < ps.length → (ps.getD i Lk.none).a ≤ (ps.getD j Lk.none).a
/-- What the search's answer says. -/
def BsRes (ps : List Lk) (n : Int) (e : Ending) : Prop := ∃ F : Nat, ∃ b, e = .returned (.tuple #[.int .i64 F, .bool b]) ∧ F ≤ ps.length ∧ (∀ t, t < F → (ps.getD t Lk.none).a < n) ∧ ∀ t, F ≤ t → t < ps.length → n ≤ (ps.getD t Lk.none).a
theorem cmpI_neg {a b : Int} (h : cmpI a b < 0) : a < b := by
  unfold cmpI at h
  split at h
  · assumption
  · split at h <;> omega
theorem cmpI_pos {a b : Int} (h : ¬ cmpI a b < 0) : b ≤ a := by
  unfold cmpI at h
  split at h
  · omega
  · omega
set_option maxHeartbeats 3200000 in
set_option maxRecDepth 100000 in
theorem bsf_c (v : Value) (n : Int) (ps : List Lk) (w : World) (hv : HoldsR linkR w v ps) (hx : ps.length ≤ 1000) (hs : Rises ps) :
    Calls Try.prog 18 #[v, .int .i64 n, .func (.func 16) #[] #[]] w fun e w' => BsRes ps n e ∧ Below w.heap.size w w' := by
  obtain ⟨a, cap, rfl, hra⟩ := hv
  replace hra := hidden hra
  replace hs := hidden hs
  go_enter Try.func18, Try.ntmps18
  go_wp2
  go_loopw [9, 10] (fun u9 u10 wr => ∃ lo hi : Nat, u9 = .int .i64 lo ∧ u10 = .int .i64 hi ∧ lo ≤ hi ∧ hi ≤ ps.length ∧ Hid (∀ t, t < lo → (ps.getD t Lk.none).a < n) ∧ Hid (∀ t, hi ≤ t → t < ps.length → n ≤ (ps.getD t Lk.none).a) ∧ Hid (Below w.heap.size w wr))
    (fun i j _ => (intOf j).toNat - (intOf i).toNat)
  case atStart => exact ⟨0, ps.length, rfl, rfl, Nat.zero_le _, Nat.le_refl _, fun t ht => by omega, fun t h1 h2 => by omega, Below.refl _ _⟩
  case round =>
    obtain ⟨lo, hi, rfl, rfl, hlh, hhi, h1, h2, hnx⟩ := hrel
    by_cases hlt : lo < hi
    · obtain ⟨b, off, rfl, hb, c0, c1, c2, c3⟩ := link_at (hra.out.below hnx.out) (k := (lo + hi) / 2) (by omega)
      have hlo := hidden (fun h : (ps.getD ((lo + hi) / 2) Lk.none).a < n => show ∀ t, t < (lo + hi) / 2 + 1 → (ps.getD t Lk.none).a < n from fun t ht => by
        have := hs.out t ((lo + hi) / 2) (by omega) (by omega); omega)
      have hhi2 := hidden (fun h : n ≤ (ps.getD ((lo + hi) / 2) Lk.none).a => show ∀ t, (lo + hi) / 2 ≤ t → t < ps.length → n ≤ (ps.getD t Lk.none).a from fun t ht ht2 => by
        have := hs.out ((lo + hi) / 2) t ht ht2; omega)
      generalize ps.getD ((lo + hi) / 2) Lk.none = p at *
      have hcall := fun z => bya_c p n z
      obtain ⟨pa, pb, pc, pn⟩ := p
      simp only at c0 c1 c2 c3 hcall hlo hhi2
      have hsz := hidden hnx.out.size
      by_cases hcm : cmpI pa n < 0
      · have hI := hidden (hlo.out (cmpI_neg hcm))
        clear hlo hhi2
        generalize cmpI pa n = c at *
        go_wp2_with fail
        refine (hcall _).mono ?_
        rintro e w1 ⟨rfl, hB1⟩
        have hBL := hidden (hnx.out.trans (hB1.mono hsz.out))
        clear hB1 hcall c0 c1 c2 c3 hnx
        go_wp2
        go_roundw
        case rel => exact ⟨(lo + hi) / 2 + 1, hi, by rw [show ((lo : Int) + (hi : Int)) / 2 + 1 = (((lo + hi) / 2 + 1 : Nat) : Int) by omega], rfl, by omega, hhi, hI, h2, hBL⟩
        case measure => simp [intOf]; omega
      · have hI := hidden (hhi2.out (cmpI_pos hcm))
        clear hlo hhi2
        generalize cmpI pa n = c at *
        go_wp2_with fail
        refine (hcall _).mono ?_
        rintro e w1 ⟨rfl, hB1⟩
        have hBL := hidden (hnx.out.trans (hB1.mono hsz.out))
        clear hB1 hcall c0 c1 c2 c3 hnx
        go_wp2
        go_roundw
        case rel => exact ⟨lo, (lo + hi) / 2, rfl, by rw [show ((lo : Int) + (hi : Int)) / 2 = (((lo + hi) / 2 : Nat) : Int) by omega], by omega, by omega, h1, hI, hBL⟩
        case measure => simp [intOf]; omega
    · obtain rfl : hi = lo := by omega
      have hR : ∀ b, Hid (BsRes ps n (.returned (.tuple #[.int .i64 hi, .bool b]))) := fun b => ⟨hi, b, rfl, hhi, h1.out, h2.out⟩
      by_cases hn : hi < ps.length
      · obtain ⟨b, off, rfl, hb, c0, c1, c2, c3⟩ := link_at (hra.out.below hnx.out) hn
        generalize ps.getD hi Lk.none = p at *
        have hcall := fun z => bya_c p n z
        obtain ⟨pa, pb, pc, pn⟩ := p
        simp only at c0 c1 c2 c3 hcall
        have hsz := hidden hnx.out.size
        generalize cmpI pa n = c at *
        go_wp2_with fail
        refine (hcall _).mono ?_
        rintro e w1 ⟨rfl, hB1⟩
        have hBL := hidden (hnx.out.trans (hB1.mono hsz.out))
        clear hB1 hcall c0 c1 c2 c3 hnx
        go_wp2
        all_goals
          go_ret2
          exact ⟨(hR _).out, hBL.out⟩
      · go_wp2
        go_ret2
        exact ⟨(hR _).out, hnx.out⟩
/-- Those that begin at a node. -/
def fromL (ps : List Lk) (n : Int) : List Lk := ps.filter fun p => decide (p.a = n)
theorem from_cut {ps : List Lk} {n : Int} (F L : Nat) (h1 : F ≤ L) (h2 : L ≤ ps.length) (a1 : ∀ t, t < F → (ps.getD t Lk.none).a < n) (a2 : ∀ t, F ≤ t → t < L → (ps.getD t Lk.none).a = n) (a3 : ∀ t, L ≤ t → t < ps.length → n < (ps.getD t Lk.none).a) :
    (ps.take L).drop F = fromL ps n := by
  have e : ps = ps.take F ++ ((ps.take L).drop F ++ ps.drop L) := by
    rw [← List.append_assoc]
    have : ps.take F ++ (ps.take L).drop F = ps.take L := by
      have h := List.take_append_drop F (ps.take L)
      rwa [List.take_take, Nat.min_eq_left h1] at h
    rw [this, List.take_append_drop]
  have hx : ∀ (k : Nat) (hk : k < ps.length), ps.getD k Lk.none = ps[k] := fun k hk => by simp [List.getD, hk]
  unfold fromL
  conv => rhs; rw [e]
  rw [List.filter_append, List.filter_append]
  have f1 : (ps.take F).filter (fun p => decide (p.a = n)) = [] := by
    rw [List.filter_eq_nil_iff]
    intro p hp
    obtain ⟨k, hk, rfl⟩ := List.mem_iff_getElem.1 hp
    rw [List.length_take] at hk
    have := a1 k (by omega)
    rw [hx k (by omega)] at this
    simp; omega
  have f2 : ((ps.take L).drop F).filter (fun p => decide (p.a = n)) = (ps.take L).drop F := by
    rw [List.filter_eq_self]
    intro p hp
    obtain ⟨k, hk, rfl⟩ := List.mem_iff_getElem.1 hp
    rw [List.length_drop, List.length_take] at hk
    have := a2 (F + k) (by omega) (by omega)
    rw [hx (F + k) (by omega)] at this
    simp; omega
  have f3 : (ps.drop L).filter (fun p => decide (p.a = n)) = [] := by
    rw [List.filter_eq_nil_iff]
    intro p hp
    obtain ⟨k, hk, rfl⟩ := List.mem_iff_getElem.1 hp
    rw [List.length_drop] at hk
    have := a3 (L + k) (by omega) (by omega)
    rw [hx (L + k) (by omega)] at this
    simp; omega
  rw [f1, f2, f3]
  simp
set_option maxHeartbeats 3200000 in
set_option maxRecDepth 100000 in
theorem from_c (v : Value) (n : Int) (ps : List Lk) (w : World) (hv : SlR linkR w v ps) (hx : ps.length ≤ 1000) (hs : Rises ps) :
    Calls Try.prog 8 #[v, .int .i64 n] w fun e w' => ∃ a' n' c', e = .returned (.slice a' n' c') ∧ HoldsR linkR w' (.slice a' n' c') (fromL ps n) ∧ Below w.heap.size w w' := by
  have hb := bsf_c v n ps w hv.holds hx hs
  obtain ⟨a, cap, rfl, hcap, hnil, hsp, hra⟩ := hv
  replace hra := hidden hra
  go_enter Try.func8, Try.ntmps8
  go_wp2_with fail
  refine hb.mono ?_
  rintro e w1 ⟨⟨F, bb, rfl, hF, h1, h2⟩, hB1⟩
  replace h1 := hidden h1
  replace h2 := hidden h2
  replace hB1 := hidden hB1
  clear hb
  go_wp2
  go_loopw [8] (fun u8 wr => ∃ L : Nat, u8 = .int .i64 L ∧ F ≤ L ∧ L ≤ ps.length ∧ Hid (∀ t, F ≤ t → t < L → (ps.getD t Lk.none).a = n) ∧ Hid (Below w.heap.size w wr))
    (fun i _ => ps.length - (intOf i).toNat)
  case atStart => exact ⟨F, rfl, Nat.le_refl _, hF, fun t ha hb => by omega, hB1⟩
  case round =>
    clear hB1
    obtain ⟨L, rfl, hFL, hL, h3, hnx⟩ := hrel
    have hlast := hidden (fun hs2 : ∀ t, L ≤ t → t < ps.length → n < (ps.getD t Lk.none).a => from_cut F L hFL hL h1.out h3.out hs2)
    have hfin : Hid ((∀ t, L ≤ t → t < ps.length → n < (ps.getD t Lk.none).a) → Calls Try.prog 19 #[.slice (if cap = F then a else a.map (·.add (F * 4))) (L - F) (cap - F)] wr fun e w' => ∃ a' n' c', e = .returned (.slice a' n' c') ∧ HoldsR linkR w' (.slice a' n' c') (fromL ps n) ∧ Below wr.heap.size wr w') := fun hs2 => by
      have hr := ((hra.out.below hnx.out).toR L hL).fromR F (by rw [List.length_take]; omega)
      have e := hlast.out hs2
      rw [e] at hr
      have hl : (fromL ps n).length = L - F := by rw [← e, List.length_drop, List.length_take]; omega
      have hr2 : RowAt wr (if cap = F then a else a.map (·.add (F * 4))) (linkR.flat (fromL ps n)) := by
        split
        · rw [List.eq_nil_of_length_eq_zero (show (fromL ps n).length = 0 by omega)]
          exact .inl rfl
        · exact hr
      have h := lclone_c _ (cap - F) (fromL ps n) wr hr2 (by omega) (fun h => by
        cases a with
        | none => have := hnil rfl; omega
        | some _ => split at h <;> first | omega | cases h)
      rw [hl] at h
      exact h
    by_cases hlt : L < ps.length
    · obtain ⟨b, off, rfl, hb, c0, c1, c2, c3⟩ := link_at (hra.out.below hnx.out) hlt
      have hge := h2.out L hFL hlt
      have hup := hidden (fun h : n < (ps.getD L Lk.none).a => show ∀ t, L ≤ t → t < ps.length → n < (ps.getD t Lk.none).a from fun t ht ht2 => by
        have := hs L t ht ht2; omega)
      have hnext := hidden (fun h : (ps.getD L Lk.none).a = n => show ∀ t, F ≤ t → t < L + 1 → (ps.getD t Lk.none).a = n from fun t ha hb => by
        rcases Nat.lt_or_ge t L with h4 | h4
        · exact h3.out t ha h4
        · obtain rfl : t = L := by omega
          exact h)
      generalize ps.getD L Lk.none = p at *
      obtain ⟨pa, pb, pc, pn⟩ := p
      simp only at c0 c1 c2 c3 hup hnext hge
      by_cases he : pa = n
      · have hI := hidden (hnext.out he)
        subst he
        clear hup hnext hlast hfin
        go_wp2
        go_roundw
        case rel => exact ⟨L + 1, by go_num, by omega, by omega, hI, hnx⟩
        case measure => simp [intOf]; omega
      · have hfin2 := hfin.out (hup.out (by omega))
        have hcF : ¬ cap = F := by omega
        rw [if_neg hcF] at hfin2
        simp only [Option.map_some, add_plain] at hfin2
        clear hup hnext hlast hfin
        go_wp2_with fail
        refine hfin2.mono ?_
        rintro e w2 ⟨a', n', c', rfl, hH, hB2⟩
        have hBL := hidden (hnx.out.trans (hB2.mono hnx.out.size))
        replace hH := hidden hH
        clear hB2 hfin2 hnx c0 c1 c2 c3
        go_wp2
        go_ret
        exact ⟨_, _, _, rfl, hH.out, hBL.out⟩
    · have hfin2 := hfin.out (fun t h4 h5 => by omega)
      clear hlast hfin
      by_cases hcF : cap = F
      all_goals
        simp only [hcF, if_true, if_false, Nat.sub_self] at hfin2
      · subst hcF
        go_wp2_with fail
        refine hfin2.mono ?_
        rintro e w2 ⟨a', n', c', rfl, hH, hB2⟩
        have hBL := hidden (hnx.out.trans (hB2.mono hnx.out.size))
        replace hH := hidden hH
        clear hB2 hfin2 hnx
        go_wp2
        go_ret
        exact ⟨_, _, _, rfl, hH.out, hBL.out⟩
      · go_wp2_with fail
        refine hfin2.mono ?_
        rintro e w2 ⟨a', n', c', rfl, hH, hB2⟩
        have hBL := hidden (hnx.out.trans (hB2.mono hnx.out.size))
        replace hH := hidden hH
        clear hB2 hfin2 hnx
        go_wp2
        go_ret
        exact ⟨_, _, _, rfl, hH.out, hBL.out⟩
end Go.Proofs.Ytnecfgmbfkocnad
