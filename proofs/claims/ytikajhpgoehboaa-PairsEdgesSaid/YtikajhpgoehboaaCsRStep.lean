/-
  A LABEL'S PLACE, AND WHERE A LABEL'S ARCS BEGIN (the library's searches at texts and at arcs; csr.Label, firstOf), by contract.
-/
import Derived.Test.YtikajhpgoehboaaCsRow
import Derived.Laws.StructEq
namespace Go.Proofs.Ytikajhpgoehboaa
open Go.ChangeShapes Go.WideShapes Go.ChangeAt Go.RowKit Go.Maps

theorem nant_c (s : ByteArray) (w : World) : Calls Try.prog 80 #[.string s] w fun e w' => e = .returned (.bool false) ∧ w' = w := by
  go_enter Try.func80, Try.ntmps80
  go_wp2
  go_ret
  exact ⟨rfl, rfl⟩
theorem nans_c (s : ByteArray) (w : World) : Calls Try.prog 68 #[.string s] w fun e w' => e = .returned (.bool false) ∧ w' = w := by
  go_enter Try.func68, Try.ntmps68
  go_wp2
  go_ret
  exact ⟨rfl, rfl⟩
theorem lesst_c (a b : ByteArray) (w : World) : Calls Try.prog 67 #[.string a, .string b] w fun e w' => e = .returned (.bool (Op.bytesLess a.toList b.toList)) ∧ w' = w := by
  have h := fun a w => nant_c a w
  go_enter Try.func67, Try.ntmps67
  go_wp2_with fail
  refine (h a w).mono ?_
  rintro e w ⟨rfl, rfl⟩
  go_wp2
  go_ret
  exact ⟨rfl, rfl⟩
/-- A search's answer. -/
structure BsA where
  F : Nat
  b : Bool
/-- What the search of a text answers. -/
structure BsT (L : List ByteArray) (s : ByteArray) (F : Nat) (b : Bool) : Prop where
  yes : b = true → L[F]? = some s
  no : b = false → s ∉ L
theorem strict_lt {L : List ByteArray} (h : StrictT L) {i j : Nat} (hij : i < j) (hj : j < L.length) : Op.bytesLess (L.getD i ⟨#[]⟩).toList (L.getD j ⟨#[]⟩).toList = true := by
  have h1 := List.pairwise_iff_getElem.1 h i j (by omega) hj hij
  rw [show L.getD i ⟨#[]⟩ = L[i] by simp [List.getD, show i < L.length by omega], show L.getD j ⟨#[]⟩ = L[j] by simp [List.getD, hj]]
  exact h1
theorem bst_no {L : List ByteArray} {s : ByteArray} (hs : StrictT L) {F : Nat} (h1 : ∀ t, t < F → Op.bytesLess (L.getD t ⟨#[]⟩).toList s.toList = true) (h2 : ∀ t, F ≤ t → t < L.length → Op.bytesLess (L.getD t ⟨#[]⟩).toList s.toList = false) (h3 : F < L.length → L.getD F ⟨#[]⟩ ≠ s) : s ∉ L := fun hm => by
  obtain ⟨t, ht, he⟩ := List.getElem_of_mem hm
  have hg : L.getD t ⟨#[]⟩ = s := by simp [List.getD, ht, he]
  rcases Nat.lt_or_ge t F with h | h
  · have := h1 t h
    rw [hg, lt_b_irrefl] at this
    cases this
  · rcases Nat.lt_or_ge F t with h4 | h4
    · have h5 := strict_lt hs h4 ht
      rw [hg] at h5
      rw [h2 F (Nat.le_refl _) (by omega)] at h5
      cases h5
    · obtain rfl : t = F := by omega
      exact h3 ht hg
set_option maxHeartbeats 3200000 in
set_option maxRecDepth 100000 in
theorem bst_c (L : List ByteArray) (s : ByteArray) (a : Option Addr) (c : Nat) (w : World) (h : RowAt w a (tx L)) (hl : L.length ≤ 1000) (hs : StrictT L) :
    Calls Try.prog 51 #[.slice a L.length c, .string s] w fun e w' => ∃ q : BsA, e = .returned (.tuple #[.int .i64 (q.F : Nat), .bool q.b]) ∧ BsT L s q.F q.b ∧ w' = w := by
  obtain ⟨N, hN⟩ : ∃ N, N = L.length := ⟨_, rfl⟩
  rw [← hN] at hl ⊢
  replace hN := hidden hN
  replace h := hidden h
  replace hs := hidden hs
  have hless := hidden fun a w => lesst_c a s w
  have hnan := hidden fun a w => nans_c a w
  go_enter Try.func51, Try.ntmps51
  go_wp2
  go_loop [7, 8] (fun u v => ∃ lo hi : Nat, u = .int .i64 lo ∧ v = .int .i64 hi ∧ lo ≤ hi ∧ hi ≤ N ∧ Hid (∀ t, t < lo → Op.bytesLess (L.getD t ⟨#[]⟩).toList s.toList = true) ∧ Hid (∀ t, hi ≤ t → t < L.length → Op.bytesLess (L.getD t ⟨#[]⟩).toList s.toList = false))
    (fun i j => (intOf j).toNat - (intOf i).toNat)
  case atStart => exact ⟨0, N, rfl, rfl, Nat.zero_le _, Nat.le_refl _, fun t ht => by omega, fun t h1 h2 => by have := hN.out; omega⟩
  case round =>
    obtain ⟨lo, hi, rfl, rfl, hlh, hhi, h1, h2⟩ := hrel
    by_cases hlt : lo < hi
    · obtain ⟨b, off, rfl, hb, c0⟩ := txt_at' h.out (k := (lo + hi) / 2) (by have := hN.out; omega)
      have hlo := hidden (fun h : Op.bytesLess (L.getD ((lo + hi) / 2) ⟨#[]⟩).toList s.toList = true => show ∀ t, t < (lo + hi) / 2 + 1 → Op.bytesLess (L.getD t ⟨#[]⟩).toList s.toList = true from fun t ht => by
        rcases Nat.lt_or_ge t ((lo + hi) / 2) with h3 | h3
        · exact lt_b_trans _ _ _ (strict_lt hs.out h3 (by have := hN.out; omega)) h
        · obtain rfl : t = (lo + hi) / 2 := by omega
          exact h)
      have hhi2 := hidden (fun h : Op.bytesLess (L.getD ((lo + hi) / 2) ⟨#[]⟩).toList s.toList = false => show ∀ t, (lo + hi) / 2 ≤ t → t < L.length → Op.bytesLess (L.getD t ⟨#[]⟩).toList s.toList = false from fun t ht ht2 => by
        rcases Nat.lt_or_ge ((lo + hi) / 2) t with h3 | h3
        · cases hx : Op.bytesLess (L.getD t ⟨#[]⟩).toList s.toList with
          | false => rfl
          | true => rw [lt_b_trans _ _ _ (strict_lt hs.out h3 ht2) hx] at h; cases h
        · obtain rfl : t = (lo + hi) / 2 := by omega
          exact h)
      generalize L.getD ((lo + hi) / 2) ⟨#[]⟩ = p at *
      have hcall := fun w => hless.out p w
      cases hcm : Op.bytesLess p.toList s.toList with
      | true =>
        have hI := hidden (hlo.out hcm)
        rw [hcm] at hcall
        replace hcm := hidden hcm
        clear hlo hhi2
        go_wp2_with fail
        refine (hcall _).mono ?_
        rintro e w1 ⟨rfl, rfl⟩
        clear hcall c0
        go_wp2
        go_round
        case rel => exact ⟨(lo + hi) / 2 + 1, hi, by rw [show ((lo : Int) + (hi : Int)) / 2 + 1 = (((lo + hi) / 2 + 1 : Nat) : Int) by omega], rfl, by omega, hhi, hI, h2⟩
        case measure => simp [intOf]; omega
      | false =>
        have hI := hidden (hhi2.out hcm)
        rw [hcm] at hcall
        replace hcm := hidden hcm
        clear hlo hhi2
        go_wp2_with fail
        refine (hcall _).mono ?_
        rintro e w1 ⟨rfl, rfl⟩
        clear hcall c0
        go_wp2
        go_round
        case rel => exact ⟨lo, (lo + hi) / 2, rfl, by rw [show ((lo : Int) + (hi : Int)) / 2 = (((lo + hi) / 2 : Nat) : Int) by omega], by omega, by omega, h1, hI⟩
        case measure => simp [intOf]; omega
    · obtain rfl : hi = lo := by omega
      by_cases hn : hi < N
      · have hnL : hi < L.length := by have := hN.out; omega
        obtain ⟨b, off, rfl, hb, c0⟩ := txt_at' h.out hnL
        have hget : Hid (L[hi]? = some (L.getD hi ⟨#[]⟩)) := hidden (by simp [List.getD, hnL])
        have hno := hidden fun h3 => bst_no hs.out h1.out h2.out (fun _ => h3)
        generalize L.getD hi ⟨#[]⟩ = p at *
        by_cases he : p = s
        · subst he
          have hR : Hid (BsT L p hi true) := hidden ⟨fun _ => hget.out, fun h => (by cases h)⟩
          clear hno
          go_wp2
          go_ret2
          exact ⟨⟨hi, true⟩, rfl, hR.out, rfl⟩
        · have he1 : (p.toList == s.toList) = false := by simpa using fun h => he (txt_inj h)
          have he2 : ¬ p.toList = s.toList := fun h => he (txt_inj h)
          have hR : Hid (BsT L s hi false) := hidden ⟨fun h => (by cases h), fun _ => hno.out he⟩
          have hcall := fun w => hnan.out p w
          replace he := hidden he
          clear hno
          go_wp2_with fail
          refine (hcall _).mono ?_
          rintro e w1 ⟨rfl, rfl⟩
          go_wp2
          go_ret2
          exact ⟨⟨hi, false⟩, rfl, hR.out, rfl⟩
      · have hR : Hid (BsT L s hi false) := hidden ⟨fun h => (by cases h), fun _ => bst_no hs.out h1.out h2.out (fun h => absurd h (by have := hN.out; omega))⟩
        go_wp2
        go_ret2
        exact ⟨⟨hi, false⟩, rfl, hR.out, rfl⟩
theorem arc_at {w : World} {a : Option Addr} {ps : List Ar} (h : RowAt w a (arR.flat ps)) {k : Nat} (hk : k < ps.length) :
    ∃ b off, a = some ⟨b, off, none⟩ ∧ b < w.heap.size ∧ w.cell? ⟨b, off + k * 4, none⟩ = some (.int .i64 ((ps.getD k Ar.none).lb : Int)) ∧ w.cell? ⟨b, off + k * 4 + 1, none⟩ = some (.int .i64 ((ps.getD k Ar.none).to : Int)) ∧ w.cell? ⟨b, off + k * 4 + 2, none⟩ = some (.int .i64 ((ps.getD k Ar.none).wt : Int)) ∧ w.cell? ⟨b, off + k * 4 + 3, none⟩ = some (.int .i64 ((ps.getD k Ar.none).ed : Int)) := by
  obtain ⟨b, off, h1, h2, h3⟩ := rec_at h hk
  exact ⟨b, off, h1, h2, h3 0 _ rfl, h3 1 _ rfl, h3 2 _ rfl, h3 3 _ rfl⟩
set_option maxHeartbeats 1600000 in
theorem byl_c (x : Ar) (n : Int) (w : World) (hx : x.lb ≤ 100000) (h0 : 0 ≤ n) (h1 : n ≤ 100000) : Calls Try.prog 54 #[.agg #[.int .i64 (x.lb : Int), .int .i64 (x.to : Int), .int .i64 (x.wt : Int), .int .i64 (x.ed : Int)], .int .i64 n] w fun e w' => e = .returned (.int .i64 ((x.lb : Int) - n)) ∧ Below w.heap.size w w' := by
  obtain ⟨xa, xb, xc, xn⟩ := x
  simp only at hx
  have hX := heap_alloc_new w (.cells #[.int .i64 (xa : Int), .int .i64 (xb : Int), .int .i64 (xc : Int), .int .i64 (xn : Int)] 67)
  obtain ⟨⟨b0, b1, b2, b3⟩, -⟩ := box4f hX
  have hB0 : Hid (Below w.heap.size w (w.alloc (.cells #[.int .i64 (xa : Int), .int .i64 (xb : Int), .int .i64 (xc : Int), .int .i64 (xn : Int)] 67))) := (Below.refl _ _).alloc (Nat.le_refl _) _
  have hw1 : (xa : Int) - n ≤ 9223372036854775807 := by omega
  have hw2 : -9223372036854775808 ≤ (xa : Int) - n := by omega
  clear hX
  go_enter Try.func54, Try.ntmps54
  go_wp2
  go_ret
  exact ⟨by first | done | rfl, hB0.out⟩
/-- Arcs that rise by label. -/
def RisesA (ps : List Ar) : Prop := ∀ i j, i ≤ j → j < ps.length → ((ps.getD i Ar.none).lb : Int) ≤ ((ps.getD j Ar.none).lb : Int)
/-- What the search's answer says. -/
def BsResA (ps : List Ar) (n : Int) (e : Ending) : Prop := ∃ F : Nat, ∃ b, e = .returned (.tuple #[.int .i64 F, .bool b]) ∧ F ≤ ps.length ∧ (∀ t, t < F → ((ps.getD t Ar.none).lb : Int) < n) ∧ ∀ t, F ≤ t → t < ps.length → n ≤ ((ps.getD t Ar.none).lb : Int)
set_option maxHeartbeats 3200000 in
set_option maxRecDepth 100000 in
theorem bsfA_c (v : Value) (n : Int) (ps : List Ar) (w : World) (hv : HoldsR arR w v ps) (hx : ps.length ≤ 1000) (hs : RisesA ps) (hn0 : 0 ≤ n ∧ n ≤ 100000) (hlb : ∀ p ∈ ps, p.lb ≤ 100000) :
    Calls Try.prog 53 #[v, .int .i64 n, .func (.func 54) #[] #[]] w fun e w' => BsResA ps n e ∧ Below w.heap.size w w' := by
  obtain ⟨a, cap, rfl, hra⟩ := hv
  replace hra := hidden hra
  replace hs := hidden hs
  replace hlb := hidden hlb
  obtain ⟨hn1, hn2⟩ := hn0
  go_enter Try.func53, Try.ntmps53
  go_wp2
  go_loopw [9, 10] (fun u9 u10 wr => ∃ lo hi : Nat, u9 = .int .i64 lo ∧ u10 = .int .i64 hi ∧ lo ≤ hi ∧ hi ≤ ps.length ∧ Hid (∀ t, t < lo → ((ps.getD t Ar.none).lb : Int) < n) ∧ Hid (∀ t, hi ≤ t → t < ps.length → n ≤ ((ps.getD t Ar.none).lb : Int)) ∧ Hid (Below w.heap.size w wr))
    (fun i j _ => (intOf j).toNat - (intOf i).toNat)
  case atStart => exact ⟨0, ps.length, rfl, rfl, Nat.zero_le _, Nat.le_refl _, fun t ht => by omega, fun t h1 h2 => by omega, Below.refl _ _⟩
  case round =>
    obtain ⟨lo, hi, rfl, rfl, hlh, hhi, h1, h2, hnx⟩ := hrel
    by_cases hlt : lo < hi
    · obtain ⟨b, off, rfl, hb, c0, c1, c2, c3⟩ := arc_at (hra.out.below hnx.out) (k := (lo + hi) / 2) (by omega)
      have hlo := hidden (fun h : ((ps.getD ((lo + hi) / 2) Ar.none).lb : Int) < n => show ∀ t, t < (lo + hi) / 2 + 1 → ((ps.getD t Ar.none).lb : Int) < n from fun t ht => by
        have := hs.out t ((lo + hi) / 2) (by omega) (by omega); omega)
      have hhi2 := hidden (fun h : n ≤ ((ps.getD ((lo + hi) / 2) Ar.none).lb : Int) => show ∀ t, (lo + hi) / 2 ≤ t → t < ps.length → n ≤ ((ps.getD t Ar.none).lb : Int) from fun t ht ht2 => by
        have := hs.out ((lo + hi) / 2) t ht ht2; omega)
      have hpl : (ps.getD ((lo + hi) / 2) Ar.none).lb ≤ 100000 := hlb.out _ (by
        rw [show ps.getD ((lo + hi) / 2) Ar.none = ps[(lo + hi) / 2]'(by omega) by simp [List.getD, show (lo + hi) / 2 < ps.length by omega]]
        exact List.getElem_mem _)
      generalize ps.getD ((lo + hi) / 2) Ar.none = p at *
      have hcall := fun z => byl_c p n z hpl hn1 hn2
      obtain ⟨pa, pb, pc, pn⟩ := p
      simp only at c0 c1 c2 c3 hcall hlo hhi2 hpl
      have hsz := hidden hnx.out.size
      by_cases hcm : (pa : Int) - n < 0
      · have hI := hidden (hlo.out (by omega))
        clear hlo hhi2
        generalize (pa : Int) - n = c at *
        go_wp2_with fail
        refine (hcall _).mono ?_
        rintro e w1 ⟨rfl, hB1⟩
        have hBL := hidden (hnx.out.trans (hB1.mono hsz.out))
        clear hB1 hcall c0 c1 c2 c3 hnx
        go_wp2
        go_roundw
        case rel => exact ⟨(lo + hi) / 2 + 1, hi, by rw [show ((lo : Int) + (hi : Int)) / 2 + 1 = (((lo + hi) / 2 + 1 : Nat) : Int) by omega], rfl, by omega, hhi, hI, h2, hBL⟩
        case measure => simp [intOf]; omega
      · have hI := hidden (hhi2.out (by omega))
        clear hlo hhi2
        generalize (pa : Int) - n = c at *
        go_wp2_with fail
        refine (hcall _).mono ?_
        rintro e w1 ⟨rfl, hB1⟩
        have hBL := hidden (hnx.out.trans (hB1.mono hsz.out))
        clear hB1 hcall c0 c1 c2 c3 hnx
        go_wp2
        go_roundw
        case rel => exact ⟨lo, (lo + hi) / 2, rfl, by rw [show ((lo : Int) + (hi : Int)) / 2 = (((lo + hi) / 2 : Nat) : Int) by omega], by omega, by omega, h1, hI, hBL⟩
        case measure => simp [intOf]; omega
    · obtain rfl : hi = lo := by omega
      have hR : ∀ b, Hid (BsResA ps n (.returned (.tuple #[.int .i64 hi, .bool b]))) := fun b => ⟨hi, b, rfl, hhi, h1.out, h2.out⟩
      by_cases hn : hi < ps.length
      · obtain ⟨b, off, rfl, hb, c0, c1, c2, c3⟩ := arc_at (hra.out.below hnx.out) hn
        have hpl : (ps.getD hi Ar.none).lb ≤ 100000 := hlb.out _ (by
          rw [show ps.getD hi Ar.none = ps[hi] by simp [List.getD, hn]]
          exact List.getElem_mem _)
        generalize ps.getD hi Ar.none = p at *
        have hcall := fun z => byl_c p n z hpl hn1 hn2
        obtain ⟨pa, pb, pc, pn⟩ := p
        simp only at c0 c1 c2 c3 hcall hpl
        have hsz := hidden hnx.out.size
        generalize (pa : Int) - n = c at *
        go_wp2_with fail
        refine (hcall _).mono ?_
        rintro e w1 ⟨rfl, hB1⟩
        have hBL := hidden (hnx.out.trans (hB1.mono hsz.out))
        clear hB1 hcall c0 c1 c2 c3 hnx
        go_wp2
        all_goals
          go_ret2
          exact ⟨(hR _).out, hBL.out⟩
      · go_wp2
        go_ret2
        exact ⟨(hR _).out, hnx.out⟩
set_option maxHeartbeats 1600000 in
theorem firstOf_c (v : Value) (n : Int) (ps : List Ar) (w : World) (hv : HoldsR arR w v ps) (hx : ps.length ≤ 1000) (hs : RisesA ps) (hn0 : 0 ≤ n ∧ n ≤ 100000) (hlb : ∀ p ∈ ps, p.lb ≤ 100000) :
    Calls Try.prog 36 #[v, .int .i64 n] w fun e w' => ∃ F : Nat, e = .returned (.int .i64 F) ∧ F ≤ ps.length ∧ (∀ t, t < F → ((ps.getD t Ar.none).lb : Int) < n) ∧ (∀ t, F ≤ t → t < ps.length → n ≤ ((ps.getD t Ar.none).lb : Int)) ∧ Below w.heap.size w w' := by
  have hb := bsfA_c v n ps w hv hx hs hn0 hlb
  obtain ⟨a, cap, rfl, hra⟩ := hv
  replace hra := hidden hra
  go_enter Try.func36, Try.ntmps36
  go_wp2_with fail
  refine hb.mono ?_
  rintro e w1 ⟨⟨F, bb, rfl, hF, h1, h2⟩, hB1⟩
  replace h1 := hidden h1
  replace h2 := hidden h2
  replace hB1 := hidden hB1
  replace hF := hidden hF
  clear hb
  go_wp2
  go_ret
  exact ⟨F, rfl, hF.out, h1.out, h2.out, hB1.out⟩
end Go.Proofs.Ytikajhpgoehboaa
/-
  WHAT ELSE IS TOLD OF A GRAPH's ROWS: labels, their places, how many, and the edges of a step (csr's Labels, Label, Nodes, Edges, Degree, Step), by contract.
-/
namespace Go.Proofs.Ytikajhpgoehboaa
open Go.ChangeShapes Go.WideShapes Go.ChangeAt Go.RowKit Go.Maps

theorem placeL_at {L : List ByteArray} (hs : StrictT L) {s : ByteArray} {F : Nat} (h : L[F]? = some s) : placeL L s = F :=
  placeL_first (fun j hj x hx e => by
    subst e
    have h1 := (List.getElem?_eq_some_iff.1 h).1
    have h2 := strict_lt hs hj h1
    rw [show L.getD j ⟨#[]⟩ = x by simp [List.getD, hx], show L.getD F ⟨#[]⟩ = x by simp [List.getD, h], lt_b_irrefl] at h2
    cases h2) h
theorem placeL_inj {L : List ByteArray} {s t : ByteArray} (hs : s ∈ L) (ht : t ∈ L) (h : placeL L s = placeL L t) : s = t := by
  have h1 := (placeL_mem hs).2
  have h2 := (placeL_mem ht).2
  rw [h] at h1
  exact h1.symm.trans h2
section
variable (g : Gr) (C : CsX) (B : Nat)
set_option maxRecDepth 100000 in
theorem nodes_c (w : World) (hC : CsrAt g C B w) : Calls Try.prog 18 #[.pointer (some ⟨C.b, 0, none⟩)] w fun e w' => e = .returned (.int .i64 (g.ns.length : Int)) ∧ w' = w := by
  obtain ⟨⟨c0, -⟩, -⟩ := box7c hC.box
  clear hC
  go_enter Try.func18, Try.ntmps18
  go_wp2
  go_ret
  exact ⟨rfl, rfl⟩
set_option maxRecDepth 100000 in
theorem label_c (s : ByteArray) (w : World) (hC : CsrAt g C B w) (hl : C.L.length ≤ 1000) :
    Calls Try.prog 34 #[.pointer (some ⟨C.b, 0, none⟩), .string s] w fun e w' => ∃ q : BsA, e = .returned (.tuple #[.int .i64 (q.F : Nat), .bool q.b]) ∧ (q.b = true → s ∈ C.L ∧ q.F = placeL C.L s) ∧ (q.b = false → s ∉ C.L ∧ q.F = 0) ∧ w' = w := by
  obtain ⟨⟨-, c1, -⟩, -⟩ := box7c hC.box
  have hb := bst_c C.L s (some ⟨C.gl, 0, none⟩) C.lc w (by
    obtain ⟨a2, c2, h1, h2⟩ := holds_of_owns hC.lab
    simp only [Value.slice.injEq] at h1
    obtain ⟨rfl, _, _⟩ := h1
    exact h2) hl hC.strict
  have hst := hidden hC.strict
  clear hC
  go_enter Try.func34, Try.ntmps34
  go_wp2_with fail
  refine hb.mono ?_
  rintro e w1 ⟨⟨F, b⟩, rfl, hR, rfl⟩
  clear hb
  cases b with
  | true =>
    have h1 := hidden (hR.yes rfl)
    clear hR
    go_wp2
    go_ret2
    exact ⟨⟨F, true⟩, rfl, fun _ => ⟨List.mem_of_getElem? h1.out, (placeL_at hst.out h1.out).symm⟩, fun h => (by cases h), rfl⟩
  | false =>
    have h1 := hidden (hR.no rfl)
    clear hR
    go_wp2
    go_ret2
    exact ⟨⟨0, false⟩, rfl, fun h => (by cases h), fun _ => ⟨h1.out, rfl⟩, rfl⟩
end
/-- A row is told edge by edge. -/
theorem rowA_eq (g : Gr) (C : CsX) (back : Bool) (n : Int) (hl : ∀ p ∈ C.l back, p < g.es.length) : rowA g C back n = (rowI (whoOf g.es back) (C.l back) g.ns.length n).map (arcOf C.L g.es back) := by
  unfold rowA
  refine List.map_congr_left fun p hp => ?_
  refine arcsL_at _ _ _ (hl p ?_)
  unfold rowI at hp
  split at hp
  · exact (mem_part.1 hp).1
  · cases hp
/-- The edges of a step. -/
def stepI (g : Gr) (C : CsX) (back : Bool) (n : Int) (s : ByteArray) : List Nat := (rowI (whoOf g.es back) (C.l back) g.ns.length n).filter fun p => decide ((g.es.getD p Eg.none).l.toList = s.toList)
theorem cut_lb {ps : List Ar} {n : Nat} (F L : Nat) (h1 : F ≤ L) (h2 : L ≤ ps.length) (a1 : ∀ t, t < F → (ps.getD t Ar.none).lb < n) (a2 : ∀ t, F ≤ t → t < L → (ps.getD t Ar.none).lb = n) (a3 : ∀ t, L ≤ t → t < ps.length → n < (ps.getD t Ar.none).lb) :
    (ps.take L).drop F = ps.filter fun p => decide (p.lb = n) := by
  have e : ps = ps.take F ++ ((ps.take L).drop F ++ ps.drop L) := by
    rw [← List.append_assoc]
    have : ps.take F ++ (ps.take L).drop F = ps.take L := by
      have h := List.take_append_drop F (ps.take L)
      rwa [List.take_take, Nat.min_eq_left h1] at h
    rw [this, List.take_append_drop]
  have hx : ∀ (k : Nat) (hk : k < ps.length), ps.getD k Ar.none = ps[k] := fun k hk => by simp [List.getD, hk]
  conv => rhs; rw [e]
  rw [List.filter_append, List.filter_append]
  have f1 : (ps.take F).filter (fun p => decide (p.lb = n)) = [] := by
    rw [List.filter_eq_nil_iff]
    intro p hp
    obtain ⟨k, hk, rfl⟩ := List.mem_iff_getElem.1 hp
    rw [List.length_take] at hk
    have := a1 k (by omega)
    rw [hx k (by omega)] at this
    simp; omega
  have f2 : ((ps.take L).drop F).filter (fun p => decide (p.lb = n)) = (ps.take L).drop F := by
    rw [List.filter_eq_self]
    intro p hp
    obtain ⟨k, hk, rfl⟩ := List.mem_iff_getElem.1 hp
    rw [List.length_drop, List.length_take] at hk
    have := a2 (F + k) (by omega) (by omega)
    rw [hx (F + k) (by omega)] at this
    simp; omega
  have f3 : (ps.drop L).filter (fun p => decide (p.lb = n)) = [] := by
    rw [List.filter_eq_nil_iff]
    intro p hp
    obtain ⟨k, hk, rfl⟩ := List.mem_iff_getElem.1 hp
    rw [List.length_drop] at hk
    have := a3 (L + k) (by omega) (by omega)
    rw [hx (L + k) (by omega)] at this
    simp; omega
  rw [f1, f2, f3]
  simp
/-- What a graph's good rows keep: ahead of the walk of a step. -/
structure GoodC (g : Gr) (C : CsX) : Prop where
  ed : ∀ i, i < g.es.length → EdgeOk g C.L i
  len : C.L.length ≤ 1000
  ns : g.ns.length ≤ 1000
  es : g.es.length ≤ 1000
  ord : ∀ back, Ordered (keyOf (keysA (arcsL C.L g.es back))) g.es.length (C.l back)
  strict : StrictT C.L
  mem : ∀ s, s ∈ C.L ↔ s ∈ g.es.map Eg.l
theorem CsrAt.good {g : Gr} {C : CsX} {B : Nat} {w : World} (h : CsrAt g C B w) (hok : (checkG g).2 = 0) (hs : g.sm) : GoodC g C := by
  have hn := hs.1
  have he := hs.2.2.1
  refine ⟨fun i hi => ?_, ?_, hn, he, fun back => ?_, h.strict, h.mem⟩
  · obtain ⟨v1, v2, v3, v4, v5, v6⟩ := good_edges hok _ (getD_memG (d := Eg.none) hi)
    exact ⟨by unfold fromOf; omega, by unfold toOf; omega, by omega, (placeL_mem ((h.mem _).2 (List.mem_map.2 ⟨_, getD_memG (d := Eg.none) hi, rfl⟩))).1⟩
  · have h1 := nodup_len C.L _ h.strict.nodup (fun x hx => (h.mem x).1 hx)
    rw [List.length_map] at h1
    omega
  · cases back
    · exact h.o1
    · exact h.o2
theorem GoodC.ok {g : Gr} {C : CsX} (h : GoodC g C) (back : Bool) {i : Nat} (hi : i < g.es.length) : (arcOf C.L g.es back i).ok := by
  obtain ⟨q1, q2, q3, q4⟩ := h.ed i hi
  have h1 := h.len
  have h2 := h.ns
  refine ⟨?_, ?_, q3⟩
  · show placeL C.L _ < _; omega
  · show (if back = true then fromOf g.es i else toOf g.es i) < _
    split <;> omega
theorem rowI_mem {D : Nat → Nat} {l : List Nat} {N : Nat} {n : Int} {p : Nat} (h : p ∈ rowI D l N n) : p ∈ l := by
  unfold rowI at h
  split at h
  · exact (mem_part.1 h).1
  · cases h
theorem rowI_ord {D : Nat → Nat} {l : List Nat} {N : Nat} {n : Int} {K : Nat → Nat} {m : Nat} (ho : Ordered K m l) : (rowI D l N n).Pairwise (KeyLt K) := by
  unfold rowI
  split
  · exact ho.1.sublist List.filter_sublist
  · exact List.Pairwise.nil
theorem GoodC.rises {g : Gr} {C : CsX} (h : GoodC g C) (back : Bool) (n : Int) : RisesA ((rowI (whoOf g.es back) (C.l back) g.ns.length n).map (arcOf C.L g.es back)) := by
  intro i j hij hj
  rw [List.length_map] at hj
  have hm := fun p (hp : p ∈ rowI (whoOf g.es back) (C.l back) g.ns.length n) => ((h.ord back).2 p).1 (rowI_mem hp)
  rw [show ((rowI (whoOf g.es back) (C.l back) g.ns.length n).map (arcOf C.L g.es back)).getD i Ar.none = arcOf C.L g.es back ((rowI (whoOf g.es back) (C.l back) g.ns.length n)[i]'(by omega)) by simp [List.getD, show i < (rowI (whoOf g.es back) (C.l back) g.ns.length n).length by omega],
    show ((rowI (whoOf g.es back) (C.l back) g.ns.length n).map (arcOf C.L g.es back)).getD j Ar.none = arcOf C.L g.es back ((rowI (whoOf g.es back) (C.l back) g.ns.length n)[j]) by simp [List.getD, hj]]
  rcases Nat.lt_or_ge i j with h1 | h1
  · have hi := hm _ (List.getElem_mem (show i < (rowI (whoOf g.es back) (C.l back) g.ns.length n).length by omega))
    have hj' := hm _ (List.getElem_mem hj)
    have h2 := (key_lt hi hj' (h.ok back hi) (h.ok back hj')).1 (List.pairwise_iff_getElem.1 (rowI_ord (h.ord back)) i j (by omega) hj h1)
    unfold LtA at h2
    omega
  · obtain rfl : i = j := by omega
    exact Int.le_refl _
theorem GoodC.step {g : Gr} {C : CsX} (h : GoodC g C) (back : Bool) (n : Int) (s : ByteArray) (hs : s ∈ C.L) :
    ((rowI (whoOf g.es back) (C.l back) g.ns.length n).map (arcOf C.L g.es back)).filter (fun p => decide (p.lb = placeL C.L s)) = (stepI g C back n s).map (arcOf C.L g.es back) := by
  rw [List.filter_map]
  unfold stepI
  congr 1
  refine List.filter_congr fun p hp => ?_
  have hm := ((h.ord back).2 p).1 (rowI_mem hp)
  show decide (placeL C.L (g.es.getD p Eg.none).l = placeL C.L s) = _
  have hl : (g.es.getD p Eg.none).l ∈ C.L := (h.mem _).2 (List.mem_map.2 ⟨_, getD_memG (d := Eg.none) hm, rfl⟩)
  congr 1
  exact propext ⟨fun e => by rw [placeL_inj hl hs e], fun e => by rw [txt_inj e]⟩
theorem GoodC.none {g : Gr} {C : CsX} (h : GoodC g C) (back : Bool) (n : Int) (s : ByteArray) (hs : s ∉ C.L) : stepI g C back n s = [] := by
  unfold stepI
  rw [List.filter_eq_nil_iff]
  intro p hp hd
  have hm := ((h.ord back).2 p).1 (rowI_mem hp)
  have e := txt_inj (of_decide_eq_true hd)
  exact hs ((h.mem _).2 (List.mem_map.2 ⟨_, getD_memG (d := Eg.none) hm, e⟩))
end Go.Proofs.Ytikajhpgoehboaa
/-
  THE EDGES OF A STEP: the program's and the reference's; and rows of arcs held against each other (where they are the same), by contract.
-/
namespace Go.Proofs.Ytikajhpgoehboaa
open Go.ChangeShapes Go.WideShapes Go.ChangeAt Go.RowKit Go.Maps

theorem SlR.cutR {α : Type} {R : Rec α} {w : World} {a : Option Addr} {n c : Nat} {ps : List α} (h : SlR R w (.slice a n c) ps) {lo hi : Nat} (h1 : lo ≤ hi) (h2 : hi ≤ ps.length) : SlR R w (.slice (if c = lo then a else a.map (·.add (lo * R.n))) (hi - lo) (c - lo)) ((ps.take hi).drop lo) := by
  obtain ⟨a', c', he, q1, q2, q3, q4⟩ := h
  simp only [Value.slice.injEq] at he
  obtain ⟨rfl, rfl, rfl⟩ := he
  have hlen : (ps.take hi).length = hi := by rw [List.length_take]; omega
  have hrow := (q4.toR hi h2).fromR lo (by rw [hlen]; omega)
  refine ⟨_, _, by rw [List.length_drop, hlen], by rw [List.length_drop, hlen]; omega, fun e => ?_, fun x e => ?_, ?_⟩
  · split at e
    · omega
    · have := q2 (by simpa using e); omega
  · split at e
    · exact q3 x e
    · obtain ⟨y, hy, rfl⟩ := Option.map_eq_some_iff.1 e
      have := q3 y hy
      obtain ⟨b', off, sb⟩ := y
      simp only at this
      subst this
      rw [add_plain]
  · split
    · have h0 : (ps.take hi).drop lo = [] := List.drop_eq_nil_of_le (by rw [hlen]; omega)
      rw [h0]
      exact .inl rfl
    · exact hrow
theorem owns_low {w : World} {B B' t s n : Nat} {v : Value} {xs : List Value} (h : w.ownsRow B t s v n xs) (hb : B' ≤ B) : w.ownsRow B' t s v n xs := by
  obtain ⟨h1, h2⟩ := h
  refine ⟨h1, ?_⟩
  rcases h2 with h | ⟨g, cap, cur, q1, q2, q3, q4⟩
  · exact .inl h
  · exact .inr ⟨g, cap, cur, q1, Nat.le_trans hb q2, q3, q4⟩
set_option maxHeartbeats 3200000 in
set_option maxRecDepth 100000 in
theorem step_own (g : Gr) (C : CsX) (B : Nat) (n : Int) (s : ByteArray) (back : Bool) (w : World) (hC : CsrAt g C B w) (hok : (checkG g).2 = 0) (hg : GoodC g C) :
    Calls Try.prog 19 #[.pointer (some ⟨C.b, 0, none⟩), .int .i64 n, .agg #[.string s, .bool back]] w fun e w' => ∃ a' c', e = .returned (.slice a' (stepI g C back n s).length c') ∧ w'.ownsRow w.heap.size 67 4 (.slice a' (stepI g C back n s).length c') (stepI g C back n s).length (arR.flat ((stepI g C back n s).map (arcOf C.L g.es back))) ∧ Below w.heap.size w w' := by
  have hB0 : Hid (Below w.heap.size w (w.alloc (.cells #[.string s, .bool back] 27))) := (Below.refl _ _).alloc (Nat.le_refl _) _
  obtain ⟨⟨b0, b1⟩, -⟩ := box2f (heap_alloc_new w (.cells #[.string s, .bool back] 27))
  have hl := label_c g C B s _ (hC.step hB0.out) hg.len
  have hr := row_c g C B back n _ (hC.step hB0.out) hok hg.ns hg.es
  rw [rowA_eq g C back n (fun p hp => ((hg.ord back).2 p).1 hp)] at hr
  have hrl : ((rowI (whoOf g.es back) (C.l back) g.ns.length n).map (arcOf C.L g.es back)).length ≤ 1000 := by
    rw [List.length_map]
    have h1 := rowA_len g C back n
    rw [rowA_eq g C back n (fun p hp => ((hg.ord back).2 p).1 hp), List.length_map] at h1
    have h2 := (hg.ord back).len
    have h3 := hg.es
    omega
  have hrise := hidden (hg.rises back n)
  have hlb : Hid (∀ p ∈ (rowI (whoOf g.es back) (C.l back) g.ns.length n).map (arcOf C.L g.es back), p.lb ≤ 100000) := hidden fun p hp => by
    obtain ⟨i, hi, rfl⟩ := List.mem_map.1 hp
    have h1 := (hg.ok back (((hg.ord back).2 i).1 (rowI_mem hi))).lb
    omega
  have hst := hidden fun hs => hg.step back n s hs
  have hno := hidden fun hs => hg.none back n s hs
  have hpl : Hid (s ∈ C.L → placeL C.L s ≤ 1000) := hidden fun h => by
    have h1 := (placeL_mem h).1
    have h2 := hg.len
    omega
  generalize hRdef : (rowI (whoOf g.es back) (C.l back) g.ns.length n).map (arcOf C.L g.es back) = R at *
  have hSl : Hid (((stepI g C back n s).map (arcOf C.L g.es back)).length = (stepI g C back n s).length) := hidden (List.length_map ..)
  obtain ⟨X, hX⟩ : ∃ X, Hid (X = (stepI g C back n s).map (arcOf C.L g.es back)) := ⟨_, hidden rfl⟩
  rw [← hX.out] at hSl ⊢
  rw [← hX.out] at hst
  have hno2 : Hid (s ∉ C.L → X = []) := hidden fun h => by rw [hX.out, hno.out h]; rfl
  generalize (stepI g C back n s).length = SL at *
  clear hC hok hg hRdef hX hno
  go_enter Try.func19, Try.ntmps19
  go_wp2_with fail
  refine hl.mono ?_
  rintro e w1 ⟨⟨F, b⟩, rfl, hy, hn, rfl⟩
  clear hl
  cases b with
  | false =>
    obtain ⟨h1, h2⟩ := hn rfl
    have hXn := hidden (hno2.out h1)
    have hS0 : Hid (SL = 0) := hidden (by rw [← hSl.out, hXn.out]; rfl)
    clear hy hn hr hst h2
    go_wp2
    go_ret
    exact ⟨none, 0, by rw [hS0.out]; first | done | rfl, by rw [hXn.out, hS0.out]; exact World.ownsRow_nil .., hB0.out⟩
  | true =>
    obtain ⟨h1, h2⟩ := hy rfl
    simp only at h2
    have hst2 := hidden (hst.out h1)
    have hF9 : F ≤ 1000 := by rw [h2]; exact hpl.out h1
    rw [← h2] at hst2
    replace h2 := hidden h2
    replace h1 := hidden h1
    clear hy hn hst hno2 hpl
    go_wp2_with fail
    refine hr.mono ?_
    rintro e w2 ⟨ra, rn, rc, rfl, hS, hB2⟩
    have hBy : Hid (Below w.heap.size w w2) := hB0.out.trans (hB2.mono hB0.out.size)
    obtain ⟨hrn, hroom⟩ : rn = R.length ∧ rn ≤ rc := by
      obtain ⟨_, _, h3, h4, _⟩ := id hS
      simp only [Value.slice.injEq] at h3
      omega
    subst hrn
    have hf1 := firstOf_c _ (F : Int) R w2 hS.holds hrl hrise.out (by omega) hlb.out
    replace hS := hidden hS
    clear hr hB2 hB0 b0 b1
    go_wp2_with fail
    refine hf1.mono ?_
    rintro e w3 ⟨F1, rfl, hF1, q1, q2, hB3⟩
    replace hS := hidden (hS.out.below hB3)
    replace hBy : Hid (Below w.heap.size w w3) := hBy.out.trans (hB3.mono hBy.out.size)
    have hcut := hidden ((hS.out).cutR hF1 (Nat.le_refl _))
    rw [List.take_of_length_le (Nat.le_refl _)] at hcut
    have hris2 : RisesA (R.drop F1) := fun i j hij hj => by
      rw [List.length_drop] at hj
      have h := hrise.out (F1 + i) (F1 + j) (by omega) (by omega)
      simpa [List.getD, List.getElem?_drop] using h
    have hf2 := firstOf_c _ ((F : Int) + 1) (R.drop F1) w3 hcut.out.holds (by rw [List.length_drop]; omega) hris2 (by omega) (fun p hp => hlb.out p (List.mem_of_mem_drop hp))
    replace q1 := hidden q1
    replace q2 := hidden q2
    have hF1i : (F1 : Int) ≤ (R.length : Int) := by omega
    have hF1c : (F1 : Int) ≤ (rc : Int) := by omega
    have hRc : (R.length : Int) ≤ (rc : Int) := by omega
    have hFi : (F : Int) ≤ 1000 := by omega
    clear hf1 hB3 hris2 hcut
    have hRn : (arR.n : Nat) = 4 := rfl
    rw [hRn] at hf2
    clear hRn
    by_cases hcl : rc = F1
    · subst hcl
      rw [if_pos rfl, Nat.sub_self, show R.length - rc = 0 by omega] at hf2
      go_wp2_with fail
      refine hf2.mono ?_
      rintro e w4 ⟨F2, rfl, hF2, q3, q4, hB4⟩
      rw [List.length_drop] at hF2
      obtain rfl : F2 = 0 := by omega
      rw [show ((0 : Nat) : Int) = 0 from rfl]
      replace hS := hidden (hS.out.below hB4)
      replace hBy : Hid (Below w.heap.size w w4) := hBy.out.trans (hB4.mono hBy.out.size)
      have heq : Hid ((R.take (rc + 0)).drop rc = X) := hidden (by
        rw [← hst2.out]
        refine cut_lb rc (rc + 0) (by omega) (by omega) (fun t ht => by have := q1.out t ht; omega) (fun t ht1 ht2 => ?_) (fun t ht1 ht2 => ?_)
        · have h5 := q3 (t - rc) (by omega)
          have h6 := q2.out t ht1 (by omega)
          rw [show (R.drop rc).getD (t - rc) Ar.none = R.getD t Ar.none by simp only [List.getD, List.getElem?_drop]; rw [show rc + (t - rc) = t by omega]] at h5
          omega
        · have h5 := q4 (t - rc) (by omega) (by rw [List.length_drop]; omega)
          rw [show (R.drop rc).getD (t - rc) Ar.none = R.getD t Ar.none by simp only [List.getD, List.getElem?_drop]; rw [show rc + (t - rc) = t by omega]] at h5
          omega)
      have hcut := hS.out.cutR (lo := rc) (hi := rc + 0) (by omega) (by omega)
      rw [heq.out] at hcut
      have hXl : Hid (X.length = 0) := hidden (by rw [← heq.out, List.length_drop, List.length_take]; omega)
      obtain ⟨xa, xc, hx1, hx2, hx3, hx4, hx5⟩ := hcut
      simp only [Value.slice.injEq] at hx1
      obtain ⟨hxa, hxn, hxc⟩ := hx1
      have hcl2 := aclone_c xa xc X w4 hx5 (by rw [hXl.out]; omega) hx3
      rw [← hxa, ← hxc, hXl.out] at hcl2
      have hRn : (arR.n : Nat) = 4 := rfl
      rw [hRn] at hcl2
      have hS2 : Hid (SL = 0) := hidden (by rw [← hSl.out, hXl.out])
      have h0i : (rc : Int) + (0 : Int) ≤ (R.length : Int) := by omega
      have h0c : (rc : Int) + (0 : Int) ≤ (rc : Int) := by omega
      have hF3 : (rc : Int) + (0 : Int) ≤ 100000 := by omega
      have hsub : rc + 0 - rc = 0 := by omega
      clear hRn hxa hxn hxc hx2 hx3 hx4 hx5 hf2 hB4 q3 q4 heq
      simp only [if_true, Nat.sub_self] at hcl2
      go_wp2_with fail
      refine hcl2.mono ?_
      rintro e w5 ⟨a5, c5, rfl, ho5, hB5⟩
      have hr5 := hidden (owns_low ho5 hBy.out.size)
      replace hBy : Hid (Below w.heap.size w w5) := hBy.out.trans (hB5.mono hBy.out.size)
      clear ho5 hB5 hcl2
      go_wp2
      go_ret
      exact ⟨a5, c5, by rw [hS2.out]; first | done | rfl, by rw [hS2.out]; exact hr5.out, hBy.out⟩
    · rw [if_neg hcl] at hf2
      go_wp2_with fail
      refine hf2.mono ?_
      rintro e w4 ⟨F2, rfl, hF2, q3, q4, hB4⟩
      rw [List.length_drop] at hF2
      replace hS := hidden (hS.out.below hB4)
      replace hBy : Hid (Below w.heap.size w w4) := hBy.out.trans (hB4.mono hBy.out.size)
      have heq : Hid ((R.take (F1 + F2)).drop F1 = X) := hidden (by
        rw [← hst2.out]
        refine cut_lb F1 (F1 + F2) (by omega) (by omega) (fun t ht => by have := q1.out t ht; omega) (fun t ht1 ht2 => ?_) (fun t ht1 ht2 => ?_)
        · have h5 := q3 (t - F1) (by omega)
          have h6 := q2.out t ht1 (by omega)
          rw [show (R.drop F1).getD (t - F1) Ar.none = R.getD t Ar.none by simp only [List.getD, List.getElem?_drop]; rw [show F1 + (t - F1) = t by omega]] at h5
          omega
        · have h5 := q4 (t - F1) (by omega) (by rw [List.length_drop]; omega)
          rw [show (R.drop F1).getD (t - F1) Ar.none = R.getD t Ar.none by simp only [List.getD, List.getElem?_drop]; rw [show F1 + (t - F1) = t by omega]] at h5
          omega)
      have hcut := hS.out.cutR (lo := F1) (hi := F1 + F2) (by omega) (by omega)
      rw [heq.out] at hcut
      have hXl : Hid (X.length = F2) := hidden (by rw [← heq.out, List.length_drop, List.length_take]; omega)
      obtain ⟨xa, xc, hx1, hx2, hx3, hx4, hx5⟩ := hcut
      simp only [Value.slice.injEq] at hx1
      obtain ⟨hxa, hxn, hxc⟩ := hx1
      have hcl2 := aclone_c xa xc X w4 hx5 (by rw [hXl.out]; omega) hx3
      rw [← hxa, ← hxc, hXl.out] at hcl2
      have hRn : (arR.n : Nat) = 4 := rfl
      rw [hRn] at hcl2
      have hS2 : Hid (SL = F2) := hidden (by rw [← hSl.out, hXl.out])
      have hF2i : (F1 : Int) + (F2 : Int) ≤ (R.length : Int) := by omega
      have hF2c : (F1 : Int) + (F2 : Int) ≤ (rc : Int) := by omega
      have hF3 : (F1 : Int) + (F2 : Int) ≤ 100000 := by omega
      have hsub : F1 + F2 - F1 = F2 := by omega
      clear hRn hxa hxn hxc hx2 hx3 hx4 hx5 hf2 hB4 q3 q4 heq
      first | rw [if_neg hcl] at hcl2 | simp only [hcl, if_false] at hcl2
      go_wp2_with fail
      refine hcl2.mono ?_
      rintro e w5 ⟨a5, c5, rfl, ho5, hB5⟩
      have hr5 := hidden (owns_low ho5 hBy.out.size)
      replace hBy : Hid (Below w.heap.size w w5) := hBy.out.trans (hB5.mono hBy.out.size)
      clear ho5 hB5 hcl2
      go_wp2
      go_ret
      exact ⟨a5, c5, by rw [hS2.out]; first | done | rfl, by rw [hS2.out]; exact hr5.out, hBy.out⟩
/-- The same, as a row that is somewhere. -/
theorem step_c (g : Gr) (C : CsX) (B : Nat) (n : Int) (s : ByteArray) (back : Bool) (w : World) (hC : CsrAt g C B w) (hok : (checkG g).2 = 0) (hg : GoodC g C) :
    Calls Try.prog 19 #[.pointer (some ⟨C.b, 0, none⟩), .int .i64 n, .agg #[.string s, .bool back]] w fun e w' => ∃ a' c', e = .returned (.slice a' (stepI g C back n s).length c') ∧ RowAt w' a' (arR.flat ((stepI g C back n s).map (arcOf C.L g.es back))) ∧ Below w.heap.size w w' :=
  (step_own g C B n s back w hC hok hg).mono fun _ _ ⟨a, c, he, ho, hB⟩ => by
    obtain ⟨a', c', h1, h2⟩ := holdsR_of_owns (R := arR) (ps := (stepI g C back n s).map (arcOf C.L g.es back)) (by rw [List.length_map]; exact ho)
    simp only [Value.slice.injEq] at h1
    obtain ⟨rfl, _, _⟩ := h1
    exact ⟨a, c, he, h2, hB⟩
end Go.Proofs.Ytikajhpgoehboaa
/-
  THE REFERENCE's EDGES OF A STEP; rows of arcs held against each other (where they are the same), by contract.
-/
namespace Go.Proofs.Ytikajhpgoehboaa
open Go.ChangeShapes Go.WideShapes Go.ChangeAt Go.RowKit

/-- Those of a row whose edge has a label. -/
def hasL (es : List Eg) (s : ByteArray) (Q : List Nat) : List Nat := Q.filter fun p => decide ((es.getD p Eg.none).l.toList = s.toList)
theorem hasL_step (es : List Eg) (s : ByteArray) (Q : List Nat) (k : Nat) (hk : k < Q.length) : hasL es s (Q.take (k + 1)) = hasL es s (Q.take k) ++ (if (es.getD (Q.getD k 0) Eg.none).l.toList = s.toList then [Q.getD k 0] else []) := by
  unfold hasL
  rw [List.take_add_one, List.getElem?_eq_getElem hk, List.filter_append]
  congr 1
  rw [show Q.getD k 0 = Q[k] by simp [List.getD, hk]]
  simp only [Option.toList_some, List.filter_cons, List.filter_nil, decide_eq_true_eq]
set_option maxHeartbeats 6400000 in
set_option maxRecDepth 100000 in
theorem rstep_c (g : Gr) (vs : List NdV) (a : Option Addr) (N c : Nat) (b : Option Addr) (m d : Nat) (w : World) (hg : OwnG g vs a N c b m d w) (hs : g.sm) (hok : (checkG g).2 = 0) (n : Int) (s : ByteArray) (back : Bool) (L : List ByteArray) (hL1 : StrictT L) (hL2 : ∀ s, s ∈ L ↔ s ∈ g.es.map Eg.l) :
    Calls Try.prog 23 #[.agg #[.slice a N c, .slice b m d], .int .i64 n, .agg #[.string s, .bool back]] w fun e w' => ∃ (v : Value) (Q : List Nat), e = .returned v ∧ RowQ (keyOf (keysA (arcsL L g.es back))) (whoOf g.es back) n g.es.length Q ∧ HoldsR arR w' v ((hasL g.es s Q).map (arcOf L g.es back)) ∧ Below w.heap.size w w' := by
  obtain ⟨ia, hia, ha0, ha1, ha2⟩ := info_parts infoA
  obtain ⟨-, hgm⟩ := hg.len
  have hM0 : m ≤ 1000 := by rw [hgm]; exact hs.2.2.1
  obtain ⟨wb, hwb⟩ : ∃ wb, wb = (w.alloc (.cells #[.slice a N c, .slice b m d] 25)).alloc (.cells #[.string s, .bool back] 27) := ⟨_, rfl⟩
  have hB0 : Hid (Below w.heap.size w wb) := by rw [hwb]; exact ((Below.refl _ _).alloc (Nat.le_refl _) _).alloc (by simp) _
  have hX0 : Hid (wb.heap[w.heap.size]? = some (.cells #[.slice a N c, .slice b m d] 25)) := by
    rw [hwb]
    exact heap_alloc_old (w.alloc (.cells #[.slice a N c, .slice b m d] 25)) _ (by simp) |>.trans (heap_alloc_new w _)
  have hX1 : Hid (wb.heap[w.heap.size + 1]? = some (.cells #[.string s, .bool back] 27)) := by
    rw [hwb]; exact heap_new2' w _ _
  have hrow := rrow_c g vs a N c b m d wb (hg.calm hB0.out) hs hok n back L hL1 hL2
  have hedge : Hid (∀ z, Below w.heap.size w z → RowAt z b (edgeR.flat g.es)) := hidden fun z hz => (hg.calm hz).edge
  obtain ⟨⟨b0, b1⟩, -⟩ := box2f hX0.out
  obtain ⟨⟨c0, c1⟩, -⟩ := box2f hX1.out
  replace hgm := hidden hgm
  clear hg hs hok hL1 hL2
  go_enter Try.func23, Try.ntmps23
  go_wp2_with fail
  rw [← hwb]
  replace hwb := hidden hwb
  go_wp2_with fail
  refine hrow.mono ?_
  rintro e w2 ⟨gq, cq, Q, rfl, hQ, hrw, hB2⟩
  have hBy : Hid (Below w.heap.size w w2) := hB0.out.trans (hB2.mono hB0.out.size)
  replace hX0 := hidden (box_below hX0.out hB2)
  replace hX1 := hidden (box_below hX1.out hB2)
  have hQl : Q.length ≤ 1000 := by
    have h1 := nodup_len Q (List.range g.es.length) (hQ.ord.imp fun h => h.irrefl) (fun p hp => List.mem_range.2 ((hQ.mem p).1 hp).1)
    rw [List.length_range] at h1
    have := hgm.out
    omega
  replace hQ := hidden hQ
  replace hrw := hidden hrw
  have hO0 : Hid ((w2.alloc (.cells #[] 67)).ownsRow w2.heap.size 67 4 (.slice (some ⟨w2.heap.size, 0, none⟩) 0 0) (hasL g.es s (Q.take 0)).length (arR.flat ((hasL g.es s (Q.take 0)).map (arcOf L g.es back)))) := hidden (World.ownsRow_made (base := w2.heap.size) (e := 67) (size := 4) w2 #[] 0 (Nat.le_refl _) (by unfold maxLen; omega) rfl)
  have hk0 : Hid (Below w2.heap.size w2 (w2.alloc (.cells #[] 67))) := hidden ((Below.refl _ _).alloc (Nat.le_refl _) _)
  clear hrow hB2 hB0 b0 b1 c0 c1
  go_wp2_with fail
  generalize w2.alloc (.cells #[] 67) = w3 at *
  go_loopw [8, 9] (fun v i x => ∃ k : Nat, k ≤ Q.length ∧ i = .int .i64 k ∧ Hid (x.ownsRow w2.heap.size 67 4 v (hasL g.es s (Q.take k)).length (arR.flat ((hasL g.es s (Q.take k)).map (arcOf L g.es back)))) ∧ Hid (Below w2.heap.size w2 x)) (fun _ i _ => Q.length - (intOf i).toNat)
  case atStart => exact ⟨0, Nat.zero_le _, rfl, hO0, hk0⟩
  case round =>
    clear hO0 hk0
    obtain ⟨k, hk, rfl, hO, hkk⟩ := hrel
    obtain ⟨ov, oc, hov⟩ := own_shape hO.out
    subst hov
    by_cases hlt : k < Q.length
    · have hlt' : (k : Int) < (Q.length : Int) := by omega
      obtain ⟨⟨x0, x1⟩, -⟩ := box2f (box_below hX0.out hkk.out)
      obtain ⟨⟨y0, y1⟩, -⟩ := box2f (box_below hX1.out hkk.out)
      have hpm : Q.getD k 0 < g.es.length := by
        have h1 : Q.getD k 0 ∈ Q := by rw [show Q.getD k 0 = Q[k] by simp [List.getD, hlt]]; exact List.getElem_mem _
        exact ((hQ.out.mem _).1 h1).1
      have hcell : ∀ j u, (arR.enc (arcOf L g.es back (Q.getD k 0)))[j]? = some u → wr.cell? ⟨gq, k * 4 + j, none⟩ = some u := fun j u hu => by
        have hj : j < 4 := by have := (List.getElem?_eq_some_iff.1 hu).1; rw [arR.len] at this; exact this
        rw [(owns_keep hrw.out hkk.out).cellAt _ (by omega)]
        have h1 := Rec.flat_at (R := arR) (Q.map (arcOf L g.es back)) k j (by rw [List.length_map]; exact hlt) hj
        refine (show _ = _ from h1).trans ?_
        rw [show (Q.map (arcOf L g.es back)).getD k arR.dflt = arcOf L g.es back (Q.getD k 0) by simp [List.getD, hlt]]
        exact hu
      obtain ⟨b5, o5, rfl, hb5, -, -, e2, -⟩ := edge_at (hedge.out wr (hBy.out.trans (hkk.out.mono hBy.out.size))) hpm
      have hstep := hidden (hasL_step g.es s Q k hlt)
      have hed : (arcOf L g.es back (Q.getD k 0)).ed = Q.getD k 0 := rfl
      have hpM : Q.getD k 0 < m := by rw [hgm.out]; exact hpm
      have hX9 : (hasL g.es s (Q.take k)).length ≤ 1000 := by
        unfold hasL
        have h1 := List.length_filter_le (fun p => decide ((g.es.getD p Eg.none).l.toList = s.toList)) (Q.take k)
        rw [List.length_take] at h1
        omega
      have hsnoc : Hid (arR.flat ((hasL g.es s (Q.take k) ++ [Q.getD k 0]).map (arcOf L g.es back)) = arR.flat ((hasL g.es s (Q.take k)).map (arcOf L g.es back)) ++ arR.flat [arcOf L g.es back (Q.getD k 0)]) := hidden (by rw [List.map_append, Rec.flat_app]; rfl)
      generalize arcOf L g.es back (Q.getD k 0) = y at *
      obtain ⟨yl, yt, yw, ye⟩ := y
      simp only at hed
      have d0 := hcell 0 _ rfl
      have d1 := hcell 1 _ rfl
      have d2 := hcell 2 _ rfl
      have d3 := hcell 3 _ rfl
      rw [Nat.add_zero] at d0
      simp only at d0 d1 d2 d3
      subst hed
      generalize (g.es.getD (Q.getD k 0) Eg.none).l = ql at *
      generalize Q.getD k 0 = pp at *
      have hpM' : (pp : Int) < (m : Int) := by omega
      clear hcell hpm
      by_cases he : ql.toList = s.toList
      · have he1 : (ql.toList == s.toList) = true := by simpa using he
        rw [if_pos he] at hstep
        replace he := hidden he
        go_wp2_with fail
        go_region
        have hone := hidden (SlR.oneR (R := arR) wr.drew ⟨yl, yt, yw, pp⟩ 67)
        go_wp2_with (at_builtin; go_loud (refine wpList_appR _ arR rfl _ _ 58 rfl w2.heap.size 67 ia (.agg #[.int .i64 0, .int .i64 0, .int .i64 0, .int .i64 0]) 4 32 Try.underlying58 hia ha0 ha1 ha2 rfl rfl rfl (owns_keep hO.out ((Below.refl _ _).alloc (Nat.le_refl _) _).drew) rfl (hone.out) (by show _ + 1 ≤ _; unfold maxLen; omega) (by show (_ + 1) * 32 ≤ _; omega) (by have := hkk.out.size; show _ ≤ (wr.heap.push _).size; simp; omega) ?_); intro v' w5 hown5 hgrow5)
        have hk5 : Hid (Below w2.heap.size w2 w5) := hidden (((hkk.out.alloc hkk.out.size _).drew).grown hgrow5 (hkk.out.alloc hkk.out.size (.cells #[.int .i64 (yl : Int), .int .i64 (yt : Int), .int .i64 (yw : Int), .int .i64 (pp : Int)] 67)).size (fun j hj => (hO.out.lt j hj).1))
        have hO5 : Hid (w5.ownsRow w2.heap.size 67 4 v' (hasL g.es s (Q.take (k + 1))).length (arR.flat ((hasL g.es s (Q.take (k + 1))).map (arcOf L g.es back)))) := hidden (by
          rw [hstep.out, hsnoc.out, List.length_append]
          exact hown5)
        clear hown5 hgrow5 hO hkk hone
        go_roundw
        case rel => exact ⟨k + 1, by omega, by go_num, hO5, hk5⟩
        case measure => simp [intOf]; omega
      · have he1 : (ql.toList == s.toList) = false := by simpa using he
        rw [if_neg he, List.append_nil] at hstep
        replace he := hidden he
        go_wp2_with fail
        go_region
        have hO5 : Hid (wr.drew.ownsRow w2.heap.size 67 4 (.slice ov (hasL g.es s (Q.take k)).length oc) (hasL g.es s (Q.take (k + 1))).length (arR.flat ((hasL g.es s (Q.take (k + 1))).map (arcOf L g.es back)))) := hidden (by
          rw [hstep.out]
          exact owns_keep hO.out (Below.refl _ _).drew)
        have hk5 := hidden hkk.out.drew
        clear hO hkk
        go_wp2
        go_roundw
        case rel => exact ⟨k + 1, by omega, by go_num, hO5, hk5⟩
        case measure => simp [intOf]; omega
    · have hlt' : ¬ (k : Int) < (Q.length : Int) := by omega
      obtain rfl : k = Q.length := by omega
      have hH : Hid (HoldsR arR wr (.slice ov (hasL g.es s Q).length oc) ((hasL g.es s Q).map (arcOf L g.es back))) := hidden (by
        have h := holdsR_of_owns (R := arR) (ps := (hasL g.es s (Q.take Q.length)).map (arcOf L g.es back)) (by rw [List.length_map]; exact hO.out)
        rw [List.take_of_length_le (Nat.le_refl _)] at h
        exact h)
      have hk5 : Hid (Below w.heap.size w wr) := hBy.out.trans (hkk.out.mono hBy.out.size)
      clear hO hkk
      go_wp2
      go_ret
      exact ⟨_, rfl, Q, hQ.out, hH.out, hk5.out⟩
end Go.Proofs.Ytikajhpgoehboaa
