/-
  A NUMBER PUT INTO A SET, by contract.
-/
import Derived.Test.YtfjhiaafabmpbagDoorSetAt
import Derived.StillTailTactics
import Derived.Laws.CopyOwn
import Derived.WalkSmall
namespace Go.Proofs.YtfjhiaafabmpbagDoor
open Go.ChangeShapes Go.WideShapes Go.ChangeAt Go.RowKit

theorem still_tail2 {P : Program} {id : Nat} {Q : Exit → Act → World → Prop} {a : Act} {w : World} {l : List Oper} (n : Nat) (hm : P.follows .mixedOrders = true) (hB : Region.lexTailB .any l.toArray n = true) (w2 : World) (hw : w2 = w.drew)
    (h : wpStill P l.toArray w2 (fun a' => wpList P l.toArray Q (l.drop n) a' w2) (l.take n) a) : (Code.region id l.toArray true).wp P Q a w := by
  subst hw; exact wp_region_still_tail n hm hB h
def good (n : Int) : Bool := decide (0 ≤ n) && decide (n < 65536)
/-- What lies behind an addition. -/
structure Added (S : List Nat) (w w' : World) (b : Nat) (g g' : Option Nat) (ws ws' : List Nat) (p : Nat → Bool) : Prop where
  lies : SetAt w' b g' ws'
  fit : Fit ws'
  is : ∀ k, has ws' k = p k
  save : Save S w w'
  fresh : ∀ x, g' = some x → g = some x ∨ w.heap.size ≤ x
theorem SetAt.drew {w : World} {b : Nat} {g : Option Nat} {ws : List Nat} (h : SetAt w b g ws) : SetAt w.drew b g ws := ⟨h.head, h.empty, h.row⟩
set_option maxHeartbeats 1600000 in
set_option maxRecDepth 100000 in
theorem add_c (b : Nat) (g : Option Nat) (ws : List Nat) (n : Int) (w : World) (hf : Fit ws) (h : SetAt w b g ws) (hi : n ≤ 9223372036854775807) :
    Calls Tryd.prog 8 #[.pointer (some ⟨b, 0, none⟩), .int .i64 n] w fun e w' =>
      e = .returned (.bool (good n && !has ws n.toNat)) ∧ ∃ g' ws', Added (b :: g.toList) w w' b g g' ws ws' (fun k => has ws k || (good n && k == n.toNat)) := by
  have hh := fun w h => has_c b g ws n w hf h hi
  by_cases h0 : n < 0
  · have hg : good n = false := by simp [good]; omega
    clear hh
    rw [hg]
    go_enter Tryd.func8, Tryd.ntmps8
    go_wp2
    go_ret
    exact ⟨rfl, g, ws, h, hf, by simp, Save.refl _ _, fun x hx => .inl hx⟩
  obtain ⟨m, rfl⟩ := Int.eq_ofNat_of_zero_le (by omega : 0 ≤ n)
  have h0' : ¬ (m : Int) < 0 := h0
  by_cases h1 : (65536 : Int) ≤ (m : Int)
  · have hg : good m = false := by simp [good]; omega
    clear hh
    rw [hg]
    go_enter Tryd.func8, Tryd.ntmps8
    go_wp2
    go_ret
    exact ⟨rfl, g, ws, h, hf, by simp, Save.refl _ _, fun x hx => .inl hx⟩
  have hg : good m = true := by simp [good]; omega
  have hd : decide ((0 : Int) ≤ (m : Int)) = true := by simp
  simp only [hd, Bool.true_and, Int.toNat_natCast] at hh
  rw [hg]
  simp only [Bool.true_and, Int.toNat_natCast]
  cases hc : has ws m with
  | true =>
    rw [hc] at hh
    have hc := hidden hc
    go_enter Tryd.func8, Tryd.ntmps8
    go_wp2_with fail
    refine (hh _ h).mono ?_
    rintro e w' ⟨rfl, rfl⟩
    clear hh
    go_wp2
    go_ret
    refine ⟨rfl, g, ws, h, hf, fun k => ?_, Save.refl _ _, fun x hx => .inl hx⟩
    by_cases hk : k = m
    · subst hk; simp [hc.out]
    · simp [hk]
  | false =>
    rw [hc] at hh
    clear hc hg hd
    have hlen := hf.short
    have hnewA := fun (us : List Nat) h k => has_set_or us m k h
    have hp : 2 ^ (m % 64) < 18446744073709551616 := Nat.pow_lt_pow_right (n := 64) (by omega) (by omega)
    have hs : ∀ w, Calls Tryd.prog 18 #[.int .u64 1, .int .i64 ((m % 64 : Nat) : Int)] w fun e w' => e = .returned (.int .u64 ((2 ^ (m % 64) : Nat) : Int)) ∧ w' = w := fun w => shift_c (m % 64) w (by omega)
    have hol : ∀ x, x < 18446744073709551616 → x ||| 2 ^ (m % 64) < 18446744073709551616 := fun x hx => or_lt x _ hx (by omega)
    have q1 : (m : Int) / 64 = ((m / 64 : Nat) : Int) := by omega
    have q2 : (m : Int) % 64 = ((m % 64 : Nat) : Int) := by omega
    have q3 : (m : Int).tmod 64 = ((m % 64 : Nat) : Int) := by rw [Int.tmod_eq_emod_of_nonneg (by omega)]; omega
    have q4 : (m : Int).tdiv 64 = ((m / 64 : Nat) : Int) := by rw [Int.tdiv_eq_ediv_of_nonneg (by omega)]; omega
    have hi1 : m / 64 < 1024 := by omega
    clear h0
    generalize m / 64 = i at *
    generalize 2 ^ (m % 64) = y at *
    generalize m % 64 = r at *
    have e1 : wrap64 (i : Int) = i := IntWalk.wrap64_in _ (by omega)
    have e2 : wrap64 ((i : Int) + 1) = i + 1 := IntWalk.wrap64_in _ (by omega)
    have e3 : IntKind.i64.wrap (i : Int) = i := IntWalk.i64_in _ (by omega)
    have hi0 : (0 : Int) ≤ (i : Int) := by omega
    by_cases hroom : i < ws.length
    · cases g with
      | none => have := h.empty rfl; subst this; simp at hroom
      | some g =>
        have hr1 : ¬ (ws.length : Int) < (i : Int) + 1 := by omega
        have hr2 : (i : Int) < (ws.length : Int) := by omega
        have hx := hf.at i
        have c0 := h.cell0
        simp only [rowV] at c0
        have c1 := h.cell i hroom
        have z1 := h.frozen i
        have hor := u64_or_nat _ _ hx hp
        have hnew := hidden (hnewA ws hroom)
        have hput := hidden (h.drew.put i (ws.getD i 0 ||| y))
        have hfit := hidden (hf.set i _ (hol _ hx))
        generalize ws.getD i 0 ||| y = z at *
        generalize ws.getD i 0 = x at *
        clear hx hp hlen hi hi1 hol hnewA
        go_enter Tryd.func8, Tryd.ntmps8
        go_wp2_with fail
        refine (hh _ h).mono ?_
        rintro e w' ⟨rfl, rfl⟩
        clear hh h0' h1
        go_wp2_with fail
        obtain ⟨w2, hw2⟩ : ∃ w2, w2 = w'.drew := ⟨_, rfl⟩
        rw [← hw2] at hput
        have c0 : w2.cell? ⟨b, 0, none⟩ = some (.slice (some ⟨g, 0, none⟩) ws.length ws.length) := by rw [hw2]; exact c0
        have c1 : w2.cell? ⟨g, i, none⟩ = some (.int .u64 (x : Int)) := by rw [hw2]; exact c1
        have z1 : w2.frozen? ⟨g, i, none⟩ = false := by rw [hw2]; exact z1
        have hsv : Save (b :: [g]) w' w2 := by rw [hw2]; exact ⟨rfl, rfl, rfl, Nat.le_refl _, fun _ _ _ => rfl⟩
        refine still_tail2 13 (by kernel_rfl) (by kernel_rfl) w2 hw2 ?_
        clear hw2
        simp only [List.take_succ_cons, List.take_zero, List.drop_succ_cons, List.drop_zero]
        repeat still_step
        still_call (hs _)
        repeat still_step
        refine wpStill_nil ?_
        clear hs
        go_wp2
        go_ret
        refine ⟨rfl, some g, ws.set i z, hput.out.1, hfit.out, hnew.out, hsv.trans hput.out.2, fun x hx => .inl hx⟩
    · have hr1 : (ws.length : Int) < (i : Int) + 1 := by omega
      have e5 : wrap64 (2 * (ws.length : Int)) = 2 * ws.length := IntWalk.wrap64_in _ (by omega)
      obtain ⟨c, hc1, hc2, hcase⟩ : ∃ c : Nat, i < c ∧ c ≤ 1024 ∧ ((((i : Int) + 1 < 2 * (ws.length : Int)) ∧ (1024 : Int) ≤ 2 * (ws.length : Int) ∧ (c : Int) = 1024) ∨
          (((i : Int) + 1 < 2 * (ws.length : Int)) ∧ ¬ (1024 : Int) ≤ 2 * (ws.length : Int) ∧ (c : Int) = 2 * ws.length) ∨
          ((¬ (i : Int) + 1 < 2 * (ws.length : Int)) ∧ (1024 : Int) ≤ (i : Int) + 1 ∧ (c : Int) = 1024) ∨ ((¬ (i : Int) + 1 < 2 * (ws.length : Int)) ∧ ¬ (1024 : Int) ≤ (i : Int) + 1 ∧ (c : Int) = (i : Int) + 1)) := by
        by_cases a : (i : Int) + 1 < 2 * (ws.length : Int)
        · by_cases a2 : (1024 : Int) ≤ 2 * (ws.length : Int)
          · exact ⟨1024, by omega, by omega, .inl ⟨a, a2, rfl⟩⟩
          · exact ⟨2 * ws.length, by omega, by omega, .inr (.inl ⟨a, a2, by omega⟩)⟩
        · by_cases a2 : (1024 : Int) ≤ (i : Int) + 1
          · exact ⟨1024, by omega, by omega, .inr (.inr (.inl ⟨a, a2, rfl⟩))⟩
          · exact ⟨i + 1, by omega, by omega, .inr (.inr (.inr ⟨a, a2, by omega⟩))⟩
      have c0 := h.cell0
      have hmk := fun w => makeW c w hc2
      -- the words, longer
      have hzs : ∀ k, has (ws ++ List.replicate (c - ws.length) 0) k = has ws k := fun k => has_zeros ws _ k
      have hfz := hf.zeros (c - ws.length) (by omega)
      have hlz : (ws ++ List.replicate (c - ws.length) 0).length = c := by simp; omega
      have hmv := fun w3 w4 e3 h4 hB => SetAt.moved (w3 := w3) (w4 := w4) h (by omega : ws.length ≤ c) e3 h4 hB
      have hx := hfz.at i
      have hor := u64_or_nat _ _ hx hp
      have hnew := hidden fun k => (hnewA (ws ++ List.replicate (c - ws.length) 0) (by omega) k).trans (by rw [hzs k])
      have hfit := hidden (hfz.set i _ (hol _ hx))
      have hcl : (wv ws).toList.length = ws.length := by simp [wv]
      have hzl : (wv (List.replicate c 0)).toList.length = c := by simp [wv]
      have hone : ∀ v ∈ (wv ws).toList, v.oneCell' = true := fun v hv => by simp [wv] at hv; obtain ⟨x, _, rfl⟩ := hv; rfl
      have hcells : ∀ x, g = some x → ∀ j v, (wv ws).toList[j]? = some v → w.cell? ((⟨x, 0, none⟩ : Addr).add j) = some v := fun x hx j v hv => by
        rw [add_plain, Nat.zero_add]
        simp only [World.cell?, h.row x hx]
        simpa using hv
      generalize hus : ws ++ List.replicate (c - ws.length) 0 = us at *
      have hus := hidden hus
      clear hzs hfz hol hnewA hp
      generalize us.getD i 0 ||| y = z at *
      have hxe := hidden (rfl : us.getD i 0 = us.getD i 0)
      generalize hxd : us.getD i 0 = x at *
      have hxd := hidden hxd
      have hic : (i : Int) < (c : Int) := by omega
      clear hx hxe
      rcases hcase with ⟨a1, a2, a3⟩ | ⟨a1, a2, a3⟩ | ⟨a1, a2, a3⟩ | ⟨a1, a2, a3⟩
      all_goals
        rw [a3] at hmk
        replace a3 := hidden a3
        obtain ⟨sp, sl, sc, hrv, hrl, hsp⟩ : ∃ sp sl sc, Hid (rowV ws.length g = .slice sp sl sc) ∧ Hid (sl = ws.length) ∧ (0 < ws.length → ∃ x, g = some x ∧ sp = some ⟨x, 0, none⟩) := by
          cases g with
          | none => have hn := h.empty rfl; subst hn; exact ⟨_, _, _, (rfl : _ = _), (rfl : _ = _), fun e => by simp at e⟩
          | some x => exact ⟨_, _, _, (rfl : _ = _), (rfl : _ = _), fun _ => ⟨x, rfl, rfl⟩⟩
        rw [hrv.out] at c0
        have c0a : ∀ O, (w.alloc O).cell? ⟨b, 0, none⟩ = some (.slice sp sl sc) := fun O => (((Below.refl w.heap.size w).alloc (Nat.le_refl _) O).cell (p := ⟨b, 0, none⟩) h.lt).trans c0
        have hcells2 : ∀ O, ∀ x, g = some x → ∀ j v, (wv ws).toList[j]? = some v → (w.alloc O).cell? ((⟨x, 0, none⟩ : Addr).add j) = some v := fun O x hx j v hv => by
          have h1 := hcells x hx j v hv
          exact (((Below.refl w.heap.size w).alloc (Nat.le_refl _) O).cell (p := (⟨x, 0, none⟩ : Addr).add j) (World.block_lt_of_cell? w _ h1)).trans h1
        have hblt := h.lt
        have hrl' := hrl.out
        rw [← hrl'] at hr1 e5 a1
        try rw [← hrl'] at a2
        try rw [← hrl'] at hmk
        clear hrl' hcells
        go_enter Tryd.func8, Tryd.ntmps8
        go_wp2_with fail
        refine (hh _ h).mono ?_
        rintro e w' ⟨rfl, rfl⟩
        clear hh h0' h1
        go_wp2_with (with_reducible refine wpList_copy_splice rfl (.tmp 42) (.tmp 46) 29 29 rfl 31 ?a1 ?a2 (some ⟨w'.heap.size, 0, none⟩) sp c c sl sc ?d ?e w'.heap.size 0 (wv (List.replicate c 0)).toList 31 ?c1 (wv ws).toList ?c2 ?c3 ?c4 hone w'.heap.size (w'.alloc (.cells (wv (List.replicate c 0)) 31)) ?c6 (Nat.le_refl _) ?_)
        case a1 => exact Tryd.underlying29
        case a2 => kernel_rfl
        case d => rfl
        case e => rfl
        case c1 => exact heap_alloc_new _ _
        case c2 => rw [hcl, hrl.out]; exact (Nat.min_eq_left (by omega)).symm
        case c3 =>
          intro hp
          obtain ⟨x, hg, hx⟩ := hsp (by first | exact hp | (rw [hcl] at hp; exact hp))
          first | exact ⟨_, hx, fun j v hv => hcells2 _ x hg j v (by simpa using hv)⟩ | exact ⟨rfl, _, hx, fun j v hv => hcells2 _ x hg j v (by simpa using hv)⟩
        case c4 => rw [hcl, hzl]; omega
        case c6 => exact Below.refl _ _
        intro w4 hg4 hB4
        obtain ⟨hset, hsave, hfr⟩ := hmv _ w4 rfl hg4.out hB4
        have c4 : w4.cell? ⟨b, 0, none⟩ = some (.slice sp sl sc) := (hB4.cell (p := ⟨b, 0, none⟩) hblt).trans (c0a _)
        have hset := hidden hset
        have hsave := hidden hsave
        clear hB4 hg4 hmv hmk hcells2 hone hcl hzl c0a c0
        go_wp2_with fail
        obtain ⟨w5, hw5⟩ : ∃ w5, w5 = w4.setCell ⟨b, 0, none⟩ (.slice (some ⟨w'.heap.size, 0, none⟩) c c) := ⟨_, rfl⟩
        rw [← hw5] at hset hsave ⊢
        clear hw5
        obtain ⟨w2, hw2⟩ : ∃ w2, w2 = w5.drew := ⟨_, rfl⟩
        have hset2 : SetAt w2 b (some w'.heap.size) us := by rw [hw2]; exact hset.out.drew
        have hgl := hset.out.glt
        have d0 := hset2.cell0
        rw [hlz] at d0
        simp only [rowV] at d0
        have d1 := hset2.cell i (by omega)
        rw [hxd.out] at d1
        have d2 := hset2.frozen i
        have hput := hidden (hset2.put i z)
        have hsv : Save (b :: g.toList) w' w2 := (hsave.out.mono (by simp)).trans (by rw [hw2]; exact ⟨rfl, rfl, rfl, Nat.le_refl _, fun _ _ _ => rfl⟩)
        refine still_tail2 13 (by kernel_rfl) (by kernel_rfl) w2 hw2 ?_
        clear hw2 c4 hfr hset hsave hset2
        generalize hgs : w'.heap.size = G at *
        simp only [List.take_succ_cons, List.take_zero, List.drop_succ_cons, List.drop_zero]
        repeat still_step
        still_call (hs _)
        repeat still_step
        refine wpStill_nil ?_
        clear hs
        go_wp2
        go_ret
        refine ⟨rfl, some G, us.set i z, hput.out.1, hfit.out, hnew.out, ?_, fun x hx => .inr (by cases hx; omega)⟩
        have h9 := hput.out.2
        exact ⟨h9.os.trans hsv.os, h9.tape.trans hsv.tape, h9.output.trans hsv.output, Nat.le_trans hsv.size h9.size, fun k hk hS => (h9.block k (Nat.lt_of_lt_of_le hk hsv.size) (by
          intro hm
          simp only [List.mem_cons, List.not_mem_nil, or_false] at hm
          rcases hm with rfl | rfl
          · exact hS (by simp)
          · omega)).trans (hsv.block k hk hS)⟩
end Go.Proofs.YtfjhiaafabmpbagDoor
