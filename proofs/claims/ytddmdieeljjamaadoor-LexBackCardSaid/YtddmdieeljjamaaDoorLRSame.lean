/-
  A QUERY'S WORDS IN MEMORY OF THEIR OWN, by contract.
-/
import Derived.Test.YtddmdieeljjamaaDoorGCmp
import Derived.Test.YtddmdieeljjamaaDoorCut
import Derived.WalkSmall
namespace Go.Proofs.YtddmdieeljjamaaDoor
open Go.ChangeShapes Go.WideShapes Go.ChangeAt Go.RowKit

/-- A word: its kind and text, its value's kind, number and text, and its place. -/
structure Wd where
  k : Int
  t : ByteArray
  vk : Int
  vn : Int
  vt : ByteArray
  p : Int
def Wd.enc (x : Wd) : List Value := [.int .i64 x.k, .string x.t, .int .i64 x.vk, .int .i64 x.vn, .string x.vt, .int .i64 x.p]
def Wd.none : Wd := ⟨0, ⟨#[]⟩, 0, 0, ⟨#[]⟩, 0⟩
def wordR : Rec Wd := ⟨Wd.enc, 6, by decide, fun _ => rfl, fun x u hu => by simp [Wd.enc] at hu; rcases hu with rfl | rfl | rfl | rfl | rfl | rfl <;> rfl, Wd.none⟩
def Wd.cut (x : Wd) : Wd := ⟨x.k, cutB x.t 40, x.vk, x.vn, cutB x.vt 120, x.p⟩
theorem word_at {w : World} {a : Option Addr} {ps : List Wd} (h : RowAt w a (wordR.flat ps)) {k : Nat} (hk : k < ps.length) :
    ∃ b off, a = some ⟨b, off, none⟩ ∧ b < w.heap.size ∧ w.cell? ⟨b, off + k * 6, none⟩ = some (.int .i64 (ps.getD k Wd.none).k) ∧ w.cell? ⟨b, off + k * 6 + 1, none⟩ = some (.string (ps.getD k Wd.none).t) ∧ w.cell? ⟨b, off + k * 6 + 2, none⟩ = some (.int .i64 (ps.getD k Wd.none).vk) ∧
      w.cell? ⟨b, off + k * 6 + 3, none⟩ = some (.int .i64 (ps.getD k Wd.none).vn) ∧ w.cell? ⟨b, off + k * 6 + 4, none⟩ = some (.string (ps.getD k Wd.none).vt) ∧ w.cell? ⟨b, off + k * 6 + 5, none⟩ = some (.int .i64 (ps.getD k Wd.none).p) := by
  obtain ⟨b, off, h1, h2, h3⟩ := rec_at h hk
  exact ⟨b, off, h1, h2, h3 0 _ rfl, h3 1 _ rfl, h3 2 _ rfl, h3 3 _ rfl, h3 4 _ rfl, h3 5 _ rfl⟩
theorem box6f {x : World} {b : Nat} {c0 c1 c2 c3 c4 c5 : Value} {t : TypeId} (h : x.heap[b]? = some (.cells #[c0, c1, c2, c3, c4, c5] t)) :
    (x.cell? ⟨b, 0, none⟩ = some c0 ∧ x.cell? ⟨b, 1, none⟩ = some c1 ∧ x.cell? ⟨b, 2, none⟩ = some c2 ∧ x.cell? ⟨b, 3, none⟩ = some c3 ∧ x.cell? ⟨b, 4, none⟩ = some c4 ∧ x.cell? ⟨b, 5, none⟩ = some c5) ∧
    x.frozen? ⟨b, 0, none⟩ = false ∧ x.frozen? ⟨b, 1, none⟩ = false ∧ x.frozen? ⟨b, 2, none⟩ = false ∧ x.frozen? ⟨b, 3, none⟩ = false ∧ x.frozen? ⟨b, 4, none⟩ = false ∧ x.frozen? ⟨b, 5, none⟩ = false := by
  simp [World.cell?, World.frozen?, h]
theorem infoW : (Tryd.prog.info? 35).map (fun i => (i.zero, i.size, i.bytes)) = some (some (.agg #[.int .i64 0, .string ⟨#[]⟩, .int .i64 0, .int .i64 0, .string ⟨#[]⟩, .int .i64 0]), 6, 64) := by kernel_rfl
theorem heap_setW {x : World} {b : Nat} {cs : Array Value} {t : TypeId} (h : x.heap[b]? = some (.cells cs t)) (j : Nat) (v : Value) : (x.setCell ⟨b, j, none⟩ v).heap[b]? = some (.cells (cs.setIfInBounds j v) t) := by
  simp [World.setCell, Array.getElem?_modify, h]
end Go.Proofs.YtddmdieeljjamaaDoor
/-
  TWO ROWS OF WORDS HELD AGAINST EACH OTHER: the program's and the reference's, by contract.
-/
namespace Go.Proofs.YtddmdieeljjamaaDoor
open Go.ChangeShapes Go.WideShapes Go.ChangeAt Go.RowKit

/-- Two words are the same, but for their places. -/
def wsame (x y : Wd) : Bool := decide (x.k = y.k ∧ x.t.toList = y.t.toList ∧ x.vk = y.vk ∧ x.vn = y.vn ∧ x.vt.toList = y.vt.toList)
theorem two_boxes (w : World) (a b : Array Value) (t u : TypeId) :
    ((w.alloc (.cells a t)).alloc (.cells b u)).heap[w.heap.size]? = some (.cells a t) ∧ ((w.alloc (.cells a t)).alloc (.cells b u)).heap[w.heap.size + 1]? = some (.cells b u) ∧ Below w.heap.size w ((w.alloc (.cells a t)).alloc (.cells b u)) := by
  refine ⟨?_, ?_, ((Below.refl _ _).alloc (Nat.le_refl _) _).alloc (by show _ ≤ (w.heap.push _).size; simp) _⟩
  · show ((w.heap.push _).push _)[_]? = _
    simp [Array.getElem?_push]
  · show ((w.heap.push _).push _)[_]? = _
    rw [Array.getElem?_push, if_pos (by simp)]
set_option maxHeartbeats 1600000 in
set_option maxRecDepth 100000 in
theorem wsame1_c (x y : Wd) (w : World) :
    Calls Tryd.prog 21 #[.agg #[.int .i64 x.k, .string x.t, .int .i64 x.vk, .int .i64 x.vn, .string x.vt, .int .i64 x.p], .agg #[.int .i64 y.k, .string y.t, .int .i64 y.vk, .int .i64 y.vn, .string y.vt, .int .i64 y.p]] w fun e w' => e = .returned (.bool (wsame x y)) ∧ Below w.heap.size w w' := by
  obtain ⟨xk, xt, xvk, xvn, xvt, xp⟩ := x
  obtain ⟨yk, yt, yvk, yvn, yvt, yp⟩ := y
  simp only [wsame]
  obtain ⟨hA, hA', hB⟩ := two_boxes w #[.int .i64 xk, .string xt, .int .i64 xvk, .int .i64 xvn, .string xvt, .int .i64 xp] #[.int .i64 yk, .string yt, .int .i64 yvk, .int .i64 yvn, .string yvt, .int .i64 yp] 35 35
  have hB0 : Hid _ := hidden hB
  obtain ⟨⟨b0, b1, b2, b3, b4, b5⟩, f0, f1, f2, f3, f4, f5⟩ := box6f hA
  obtain ⟨⟨c0, c1, c2, c3, c4, c5⟩, -⟩ := box6f hA'
  clear hA hA' hB
  go_enter Tryd.func21, Tryd.ntmps21
  go_wp2
  all_goals
    go_ret
    refine ⟨?_, ?_⟩
    · refine ret_bool ?_
      simp [*]
    · exact (two_boxes w _ _ _ _).2.2
theorem wsame_no {xs ys : List Wd} {k : Nat} (hk : k < xs.length) (h : wsame (xs.getD k Wd.none) (ys.getD k Wd.none) = false) (hl : xs.length = ys.length) : (decide (xs.length = ys.length) && (List.range xs.length).all fun j => wsame (xs.getD j Wd.none) (ys.getD j Wd.none)) = false := by
  rw [decide_eq_true hl, Bool.true_and, List.all_eq_false]
  exact ⟨k, List.mem_range.2 hk, by rw [h]; simp⟩
def wall (xs ys : List Wd) : Bool := decide (xs.length = ys.length) && (List.range xs.length).all fun j => wsame (xs.getD j Wd.none) (ys.getD j Wd.none)
theorem wall_len {xs ys : List Wd} (h : xs.length ≠ ys.length) : wall xs ys = false := by
  unfold wall; rw [decide_eq_false h]; rfl
theorem wall_all {xs ys : List Wd} (hl : xs.length = ys.length) (h : ∀ j, j < xs.length → wsame (xs.getD j Wd.none) (ys.getD j Wd.none) = true) : wall xs ys = true := by
  unfold wall
  rw [decide_eq_true hl, Bool.true_and, List.all_eq_true]
  exact fun j hj => h j (List.mem_range.1 hj)
set_option maxHeartbeats 1600000 in
set_option maxRecDepth 100000 in
theorem wsame_c (va vb : Value) (xs ys : List Wd) (w : World) (hva : SlR wordR w va xs) (hvb : SlR wordR w vb ys) (hx : xs.length ≤ 1000) :
    Calls Tryd.prog 20 #[va, vb, .func (.func 21) #[] #[]] w fun e w' => e = .returned (.bool (wall xs ys)) ∧ Below w.heap.size w w' := by
  obtain ⟨a, cap, rfl, -, -, -, hra⟩ := hva
  obtain ⟨b, cap', rfl, -, -, -, hrb⟩ := hvb
  by_cases hl : xs.length = ys.length
  · have hl1 : ((xs.length : Int) == (ys.length : Int)) = true := by simp [hl]
    replace hl := hidden hl
    go_enter Tryd.func20, Tryd.ntmps20
    go_wp2
    go_loopw [17] (fun i wr => ∃ k : Nat, k ≤ xs.length ∧ i = .int .i64 k ∧ Hid (∀ j, j < k → wsame (xs.getD j Wd.none) (ys.getD j Wd.none) = true) ∧ Hid (Below w.heap.size w wr))
      (fun i _ => xs.length - (intOf i).toNat)
    case atStart => exact ⟨0, Nat.zero_le _, rfl, fun j hj => by omega, Below.refl _ _⟩
    case round =>
      clear hl1
      rename_i h0 K0 a0
      clear h0
      obtain ⟨k, hk, rfl, ht, hnx⟩ := hrel
      by_cases hlt : k < xs.length
      · have hlt2 : k < ys.length := by have := hl.out; omega
        obtain ⟨b1, o1, rfl, hb1, c0, c1, c2, c3, c4, c5⟩ := word_at (hra.below hnx.out) hlt
        obtain ⟨b2, o2, rfl, hb2, d0, d1, d2, d3, d4, d5⟩ := word_at (hrb.below hnx.out) hlt2
        have hno := hidden fun h => wsame_no (xs := xs) (ys := ys) (k := k) hlt h hl.out
        have hok : Hid (wsame (xs.getD k Wd.none) (ys.getD k Wd.none) = true → ∀ j, j < k + 1 → wsame (xs.getD j Wd.none) (ys.getD j Wd.none) = true) := fun h j hj => by
          rcases Nat.lt_or_ge j k with h2 | h2
          · exact ht.out j h2
          · obtain rfl : j = k := by omega
            exact h
        generalize xs.getD k Wd.none = x at *
        generalize ys.getD k Wd.none = y at *
        have hcall := fun z => wsame1_c x y z
        obtain ⟨xk, xt, xvk, xvn, xvt, xp⟩ := x
        obtain ⟨yk, yt, yvk, yvn, yvt, yp⟩ := y
        simp only at c0 c1 c2 c3 c4 c5 d0 d1 d2 d3 d4 d5 hcall
        generalize wsame ⟨xk, xt, xvk, xvn, xvt, xp⟩ ⟨yk, yt, yvk, yvn, yvt, yp⟩ = c at *
        replace hra := hidden hra
        replace hrb := hidden hrb
        have hj1 : (k : Int) < (xs.length : Int) := by omega
        have hj2 : (k : Int) < (ys.length : Int) := by omega
        obtain ⟨hA, hA', hBB⟩ := two_boxes wr #[.int .i64 xk, .string xt, .int .i64 xvk, .int .i64 xvn, .string xvt, .int .i64 xp] #[.int .i64 yk, .string yt, .int .i64 yvk, .int .i64 yvn, .string yvt, .int .i64 yp] 35 35
        have hB0 := hidden hBB
        obtain ⟨⟨e0, e1, e2, e3, e4, e5⟩, -⟩ := box6f hA
        obtain ⟨⟨g0, g1, g2, g3, g4, g5⟩, -⟩ := box6f hA'
        clear hA hA' hBB
        go_wp2_with fail
        refine (hcall _).mono ?_
        rintro e w1 ⟨rfl, hB1⟩
        have hBL : Hid (Below w.heap.size w w1) := hnx.out.trans ((hB0.out.trans (hB1.mono hB0.out.size)).mono hnx.out.size)
        clear hB1 hcall c0 c1 c2 c3 c4 c5 d0 d1 d2 d3 d4 d5 e0 e1 e2 e3 e4 e5 g0 g1 g2 g3 g4 g5 hB0
        cases c with
        | true =>
          have hok2 := hidden (hok.out rfl)
          clear hok hno
          go_wp2
          go_roundw
          case rel => exact ⟨k + 1, by omega, by go_num, hok2, hBL⟩
          case measure => simp [intOf]; omega
        | false =>
          have hno2 : Hid (wall xs ys = false) := hno.out rfl
          clear hok hno
          go_wp2
          go_ret
          exact ⟨by rw [hno2.out]; first | done | rfl, hBL.out⟩
      · have hall := hidden (wall_all hl.out fun j hj => ht.out j (by omega))
        clear ht
        go_wp2
        go_ret
        exact ⟨by rw [hall.out]; first | done | rfl, hnx.out⟩
  · have e := hidden (wall_len hl)
    have hl' : ((xs.length : Int) == (ys.length : Int)) = false := by simp; omega
    go_enter Tryd.func20, Tryd.ntmps20
    go_wp2
    go_ret
    exact ⟨by rw [e.out]; first | done | rfl, Below.refl _ _⟩
theorem lsame_c (va vb : Value) (xs ys : List Wd) (w : World) (hva : SlR wordR w va xs) (hvb : SlR wordR w vb ys) (hx : xs.length ≤ 1000) :
    Calls Tryd.prog 11 #[va, vb] w fun e w' => e = .returned (.bool (wall xs ys)) ∧ Below w.heap.size w w' := by
  have h := wsame_c va vb xs ys w hva hvb hx
  obtain ⟨a, cap, rfl, -⟩ := hva
  obtain ⟨b, cap', rfl, -⟩ := hvb
  generalize wall xs ys = c at *
  go_enter Tryd.func11, Tryd.ntmps11
  go_wp2_with fail
  refine h.mono ?_
  rintro e w1 ⟨rfl, hB⟩
  replace hB := hidden hB
  go_wp2
  go_ret
  exact ⟨rfl, hB.out⟩
end Go.Proofs.YtddmdieeljjamaaDoor
/-
  TWO ROWS OF WORDS HELD AGAINST EACH OTHER: the reference's, by contract.
-/
namespace Go.Proofs.YtddmdieeljjamaaDoor
open Go.ChangeShapes Go.WideShapes Go.ChangeAt Go.RowKit

theorem ba_ext {s t : ByteArray} (h : s.toList = t.toList) : s = t := by
  rw [Go.ByteArray.toList_eq, Go.ByteArray.toList_eq] at h
  exact ByteArray.ext (Array.ext' h)
set_option maxHeartbeats 3200000 in
set_option maxRecDepth 100000 in
theorem rlsame_c (va vb : Value) (xs ys : List Wd) (w : World) (hva : SlR wordR w va xs) (hvb : SlR wordR w vb ys) (hx : xs.length ≤ 1000) :
    Calls Tryd.prog 10 #[va, vb] w fun e w' => e = .returned (.bool (wall xs ys)) ∧ Below w.heap.size w w' := by
  obtain ⟨a, cap, rfl, -, -, -, hra⟩ := hva
  obtain ⟨b, cap', rfl, -, -, -, hrb⟩ := hvb
  by_cases hl : xs.length = ys.length
  · have hl1 : ((xs.length : Int) != (ys.length : Int)) = false := by simp [hl]
    replace hl := hidden hl
    go_enter Tryd.func10, Tryd.ntmps10
    go_wp2
    go_loopw [5] (fun i wr => ∃ k : Nat, k ≤ xs.length ∧ i = .int .i64 k ∧ Hid (∀ j, j < k → wsame (xs.getD j Wd.none) (ys.getD j Wd.none) = true) ∧ Hid (Below w.heap.size w wr))
      (fun i _ => xs.length - (intOf i).toNat)
    case atStart => exact ⟨0, Nat.zero_le _, rfl, fun j hj => by omega, Below.refl _ _⟩
    case round =>
      clear hl1
      obtain ⟨k, hk, rfl, ht, hnx⟩ := hrel
      by_cases hlt : k < xs.length
      · have hlt2 : k < ys.length := by have := hl.out; omega
        obtain ⟨b1, o1, rfl, hb1, c0, c1, c2, c3, c4, c5⟩ := word_at (hra.below hnx.out) hlt
        obtain ⟨b2, o2, rfl, hb2, d0, d1, d2, d3, d4, d5⟩ := word_at (hrb.below hnx.out) hlt2
        have hno := hidden fun h => wsame_no (xs := xs) (ys := ys) (k := k) hlt h hl.out
        have hok : Hid (wsame (xs.getD k Wd.none) (ys.getD k Wd.none) = true → ∀ j, j < k + 1 → wsame (xs.getD j Wd.none) (ys.getD j Wd.none) = true) := fun h j hj => by
          rcases Nat.lt_or_ge j k with h2 | h2
          · exact ht.out j h2
          · obtain rfl : j = k := by omega
            exact h
        generalize xs.getD k Wd.none = x at *
        generalize ys.getD k Wd.none = y at *
        obtain ⟨xk, xt, xvk, xvn, xvt, xp⟩ := x
        obtain ⟨yk, yt, yvk, yvn, yvt, yp⟩ := y
        simp only at c0 c1 c2 c3 c4 c5 d0 d1 d2 d3 d4 d5
        replace hra := hidden hra
        replace hrb := hidden hrb
        have hj1 : (k : Int) < (xs.length : Int) := by omega
        have hj2 : (k : Int) < (ys.length : Int) := by omega
        clear c5 d5
        by_cases e1 : xk = yk
        · subst e1
          by_cases e2 : xt.toList = yt.toList
          · obtain rfl := ba_ext e2
            by_cases e3 : xvk = yvk
            · subst e3
              by_cases e4 : xvn = yvn
              · subst e4
                by_cases e5 : xvt.toList = yvt.toList
                · obtain rfl := ba_ext e5
                  have hok2 := hidden (hok.out (by simp [wsame]))
                  clear hok hno e5 e2
                  go_wp2
                  go_quiet (fail)
                  go_wp2
                  go_roundw
                  case rel => exact ⟨k + 1, by omega, by go_num, hok2, by first | exact hnx.out.drew | exact below_drewN hnx.out _⟩
                  case measure => simp [intOf]; omega
                · have hno2 : Hid (wall xs ys = false) := hno.out (by simp [wsame, e5])
                  clear hok hno
                  go_wp2
                  go_quiet (fail)
                  go_wp2
                  go_ret
                  exact ⟨by rw [hno2.out]; first | done | rfl, by first | exact hnx.out.drew | exact below_drewN hnx.out _⟩
              · have hno2 : Hid (wall xs ys = false) := hno.out (by simp [wsame, e4])
                clear hok hno
                go_wp2
                go_quiet (fail)
                go_wp2
                go_ret
                exact ⟨by rw [hno2.out]; first | done | rfl, by first | exact hnx.out.drew | exact below_drewN hnx.out _⟩
            · have hno2 : Hid (wall xs ys = false) := hno.out (by simp [wsame, e3])
              clear hok hno
              go_wp2
              go_quiet (fail)
              go_wp2
              go_ret
              exact ⟨by rw [hno2.out]; first | done | rfl, by first | exact hnx.out.drew | exact below_drewN hnx.out _⟩
          · have hno2 : Hid (wall xs ys = false) := hno.out (by simp [wsame, e2])
            have g2 : (xt.toList != yt.toList) = true := by simpa using e2
            clear hok hno
            go_wp2
            go_quiet (fail)
            go_wp2
            go_ret
            exact ⟨by rw [hno2.out]; first | done | rfl, by first | exact hnx.out.drew | exact below_drewN hnx.out _⟩
        · have hno2 : Hid (wall xs ys = false) := hno.out (by simp [wsame, e1])
          have g1 : (xk != yk) = true := by simpa using e1
          clear hok hno
          go_wp2
          go_quiet (fail)
          go_wp2
          go_ret
          exact ⟨by rw [hno2.out]; first | done | rfl, by first | exact hnx.out.drew | exact below_drewN hnx.out _⟩
      · have hall := hidden (wall_all hl.out fun j hj => ht.out j (by omega))
        clear ht
        go_wp2
        go_ret
        exact ⟨by rw [hall.out]; first | done | rfl, hnx.out⟩
  · have e := hidden (wall_len hl)
    have hl' : ((xs.length : Int) != (ys.length : Int)) = true := by simp; omega
    go_enter Tryd.func10, Tryd.ntmps10
    go_wp2
    go_ret
    exact ⟨by rw [e.out]; first | done | rfl, Below.refl _ _⟩
end Go.Proofs.YtddmdieeljjamaaDoor
