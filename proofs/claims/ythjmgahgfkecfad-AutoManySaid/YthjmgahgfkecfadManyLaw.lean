/-
  WALKS OF AN AUTOMATON OF ONE STATE AND TWO STEPS, COUNTED.
-/
import Derived.Test.YthjmgahgfkecfadRows1
import Derived.Test.YthjmgahgfkecfadCalms
import Derived.BigQuiet
namespace Go.Proofs.Ythjmgahgfkecfad
open Go.ChangeShapes Go.WideShapes Go.ChangeAt Go.RowKit

def addS (a b : Int) : Int := min (min a 4611686018427387904 + min b 4611686018427387904) 4611686018427387904
theorem atMost_c (u : Int) (w : World) : Calls Try.prog 11 #[.int .u64 u] w fun e w' => e = .returned (.int .u64 (min u 4611686018427387904)) ∧ w' = w := by
  go_enter Try.func11, Try.ntmps11
  go_wp2
  all_goals go_ret
  all_goals exact ⟨ret_int (by omega), rfl⟩
theorem add_c {a b : Int} (h0 : 0 ≤ a) (h1 : 0 ≤ b) (w : World) : Calls Try.prog 7 #[.int .u64 a, .int .u64 b] w fun e w' => e = .returned (.int .u64 (addS a b)) ∧ w' = w := by
  go_enter Try.func7, Try.ntmps7
  go_wp2_with (go_at_call 11; refine (atMost_c _ _).mono ?_; rintro e w' ⟨rfl, rfl⟩)
  go_ret
  exact ⟨ret_int (by unfold addS; omega), rfl⟩

/-- How many walks there are of i steps. -/
def vv : Nat → Int
  | 0 => 1
  | i + 1 => min (2 * vv i) 4611686018427387904
theorem vv_range : ∀ i, 1 ≤ vv i ∧ vv i ≤ 4611686018427387904
  | 0 => by simp [vv]
  | i + 1 => by have := vv_range i; unfold vv; omega
theorem vv_add (i : Nat) : addS (addS 0 (vv i)) (vv i) = vv (i + 1) := by
  have := vv_range i
  show _ = min (2 * vv i) _
  unfold addS; omega
theorem vv_pow : ∀ i, vv i = ((2 ^ (min i 62) : Nat) : Int)
  | 0 => rfl
  | i + 1 => by
    have ih := vv_pow i
    unfold vv
    rw [ih]
    by_cases h : i < 62
    · rw [show min i 62 = i by omega, show min (i + 1) 62 = i + 1 by omega, Nat.pow_succ]
      have h2 := Nat.pow_le_pow_right (n := 2) (by decide) (show i + 1 ≤ 62 by omega)
      rw [Nat.pow_succ] at h2
      have e : (2 : Nat) ^ 62 = 4611686018427387904 := by decide
      rw [e] at h2
      generalize 2 ^ i = p at *
      omega
    · rw [show min i 62 = 62 by omega, show min (i + 1) 62 = 62 by omega]
      decide
theorem vv_step {i : Nat} (h : vv i < 4611686018427387904) : 2 * vv i = vv (i + 1) := by
  have h1 := vv_pow i
  by_cases hi : i < 62
  · rw [vv_pow i, vv_pow (i + 1), show min i 62 = i by omega, show min (i + 1) 62 = i + 1 by omega, Nat.pow_succ]
    generalize 2 ^ i = p at *
    omega
  · rw [h1, show min i 62 = 62 by omega] at h
    exact absurd h (by decide)
theorem vv_full {i : Nat} (h : ¬ vv i < 4611686018427387904) : ∀ j, vv (i + j) = 4611686018427387904
  | 0 => by have := vv_range i; show vv i = _; omega
  | j + 1 => by
    have ih := vv_full h j
    show min (2 * vv (i + j)) _ = _
    rw [ih]; decide

/-- What the next state's count is, q steps into a row. -/
def cur (j : Nat) : Nat → Int
  | 0 => 0
  | 1 => vv j
  | _ => vv (j + 1)
theorem cur_step (j q : Nat) (h : q < 2) : addS (cur j q) (vv j) = cur j (q + 1) := by
  have := vv_range j
  match q, h with
  | 0, _ => show addS 0 (vv j) = vv j; unfold addS; omega
  | 1, _ => show addS (vv j) (vv j) = min (2 * vv j) _; unfold addS; omega
theorem cur_lo (j q : Nat) : 0 ≤ cur j q := by
  have := vv_range j
  have := vv_range (j + 1)
  match q with
  | 0 => exact Int.le_refl _
  | 1 => show 0 ≤ vv j; omega
  | _ + 2 => show 0 ≤ vv (j + 1); omega
/-- The automaton's memory. -/
structure Mem (w : World) (s r n a : Nat) : Prop where
  hs : w.heap[s]? = some (.cells #[.string ⟨#[97]⟩, .bool false, .string ⟨#[98]⟩, .bool false] 24)
  hr : w.heap[r]? = some (.cells #[.int .i64 0, .int .i64 0] 3)
  hn : w.heap[n]? = some (.cells #[.slice (some ⟨r, 0, none⟩) 2 2] 26)
  ha : w.heap[a]? = some (.cells #[.bool true] 4)
theorem Mem.calm {w w' : World} {s r n a : Nat} (h : Mem w s r n a) (hc : GoX.Calm w w') : Mem w' s r n a :=
  have lt : ∀ {b : Nat} {o : Obj}, w.heap[b]? = some o → w'.heap[b]? = some o := fun h => (hc.block _ (Array.getElem?_eq_some_iff.1 h).1).trans h
  ⟨lt h.hs, lt h.hr, lt h.hn, lt h.ha⟩
def dV (s n a : Nat) : Value := .agg #[.slice (some ⟨s, 0, none⟩) 2 2, .slice (some ⟨n, 0, none⟩) 1 1, .slice (some ⟨a, 0, none⟩) 1 1]
theorem box3 {x : World} {b : Nat} {c0 c1 c2 : Value} {t : TypeId} (h : x.heap[b]? = some (.cells #[c0, c1, c2] t)) :
    x.cell? ⟨b, 0, none⟩ = some c0 ∧ x.cell? ⟨b, 1, none⟩ = some c1 ∧ x.cell? ⟨b, 2, none⟩ = some c2 := by
  simp [World.cell?, h]

theorem infoU64 : (Try.prog.info? 31).map (fun i => (i.zero, i.size, i.bytes)) = some (some (.int .u64 0), 1, 8) := by kernel_rfl
theorem make1 (w : World) : (Instr.makeSlice 36 (.int .i64 1) (.int .i64 1)).run Try.prog w =
    .ok (.slice (some ⟨w.heap.size, 0, none⟩) 1 1) (w.alloc (.cells #[.int .u64 0] 31)) := by
  obtain ⟨i, hi, hz0, hz1, hz2⟩ := info_parts infoU64
  rw [run_makeSlice w 36 31 i (.int .u64 0) Try.underlying36 hi hz0 .i64 .i64 1 1 (by omega) (Int.le_refl _) (by rw [hz1]; decide) (by rw [hz2]; decide) (by omega)]
  have e : madeCells (Value.int .u64 0).cells ((1 : Int).toNat * i.size) = #[.int .u64 0] := by
    apply Array.ext'
    rw [hz1]
    show (madeCells #[Value.int .u64 0] 1).toList = _
    rw [toList_madeCells_one]
    simp
  rw [e]
  rfl
/-- A block of one number. -/
structure One (w : World) (g : Nat) (v : Int) : Prop where
  at' : w.heap[g]? = some (.cells #[.int .u64 v] 31)
theorem One.cell {w : World} {g : Nat} {v : Int} (h : One w g v) : w.cell? ⟨g, 0, none⟩ = some (.int .u64 v) ∧ w.frozen? ⟨g, 0, none⟩ = false := by
  simp [World.cell?, World.frozen?, h.at']
theorem One.set {w : World} {g : Nat} {v : Int} (h : One w g v) (u : Int) : One (w.setCell ⟨g, 0, none⟩ (.int .u64 u)) g u := by
  refine ⟨?_⟩
  simp [World.setCell, Array.getElem?_modify, h.at']
theorem set_other {w : World} {g b : Nat} {o : Obj} (h : w.heap[b]? = some o) (hne : g ≠ b) (u : Value) : (w.setCell ⟨g, 0, none⟩ u).heap[b]? = some o := by
  simp [World.setCell, Array.getElem?_modify, hne, h]
theorem One.new (w : World) (u : Int) : One (w.alloc (.cells #[.int .u64 u] 31)) w.heap.size u := ⟨by show (w.heap.push _)[w.heap.size]? = _; simp⟩
theorem alloc_other {w : World} {b : Nat} {o : Obj} (h : w.heap[b]? = some o) (o' : Obj) : (w.alloc o').heap[b]? = some o := by
  show (w.heap.push _)[b]? = _
  rw [Array.getElem?_push, if_neg (by have := (Array.getElem?_eq_some_iff.1 h).1; omega)]
  exact h
/-- What lies while walks are counted: the automaton, its box. -/
structure Lay (w x : World) (s r n a : Nat) : Prop where
  calm : GoX.Calm w x
  mem : Mem x s r n a
  box : x.heap[w.heap.size]? = some (.cells #[.slice (some ⟨s, 0, none⟩) 2 2, .slice (some ⟨n, 0, none⟩) 1 1, .slice (some ⟨a, 0, none⟩) 1 1] 30)
theorem Lay.alloc {w x : World} {s r n a : Nat} (h : Lay w x s r n a) (o : Obj) : Lay w (x.alloc o) s r n a :=
  ⟨h.calm.trans (calm_alloc _ _), h.mem.calm (calm_alloc _ _), alloc_other h.box _⟩
theorem Lay.set {w x : World} {s r n a g : Nat} (h : Lay w x s r n a) (hg : w.heap.size < g) (h1 : g ≠ s) (h2 : g ≠ r) (h3 : g ≠ n) (h4 : g ≠ a) (u : Value) : Lay w (x.setCell ⟨g, 0, none⟩ u) s r n a :=
  ⟨calm_set h.calm (by omega) u, ⟨set_other h.mem.hs h1 u, set_other h.mem.hr h2 u, set_other h.mem.hn h3 u, set_other h.mem.ha h4 u⟩, set_other h.box (by omega) u⟩
theorem Lay.drew {w x : World} {s r n a : Nat} (h : Lay w x s r n a) : Lay w x.drew s r n a :=
  ⟨h.calm.trans (GoX.Calm.of_below (Below.refl _ _).drew), h.mem.calm (GoX.Calm.of_below (Below.refl _ _).drew), h.box⟩

set_option maxHeartbeats 1600000 in
set_option maxRecDepth 100000 in
theorem rows_c (k : Int) (s r n a : Nat) (w : World) (hk : 0 ≤ k) (hk2 : k ≤ 9223372036854775807) (hm : Mem w s r n a)
    (hgood : ∀ w, Mem w s r n a → Calls Try.prog 6 #[dV s n a] w fun e w' => e = .returned (.bool true) ∧ GoX.Calm w w') :
    Calls Try.prog 4 #[dV s n a, .int .i64 k] w fun e w' => e = .returned (.int .u64 (if k ≤ 1000 then vv k.toNat else 0)) ∧ GoX.Calm w w' := by
  unfold dV at *
  have hC0 := calm_alloc w (.cells #[.slice (some ⟨s, 0, none⟩) 2 2, .slice (some ⟨n, 0, none⟩) 1 1, .slice (some ⟨a, 0, none⟩) 1 1] 30)
  have hbx : (w.alloc (.cells #[.slice (some ⟨s, 0, none⟩) 2 2, .slice (some ⟨n, 0, none⟩) 1 1, .slice (some ⟨a, 0, none⟩) 1 1] 30)).heap[w.heap.size]? = some (.cells #[.slice (some ⟨s, 0, none⟩) 2 2, .slice (some ⟨n, 0, none⟩) 1 1, .slice (some ⟨a, 0, none⟩) 1 1] 30) := by
    show (w.heap.push _)[w.heap.size]? = _; simp
  have hm0 := hidden (hm.calm hC0)
  obtain ⟨b0, b1, b2⟩ := box3 hbx
  have hg1 : decide (k < 0) = false := by simp; omega
  clear hm
  by_cases hk1 : k ≤ 1000
  · rw [if_pos hk1]
    have hg2 : decide (1000 < k) = false := by simp; omega
    go_enter Try.func4, Try.ntmps4
    go_wp2_with fail
    refine (hgood _ hm0.out).mono ?_
    rintro e w1 ⟨rfl, hC1⟩
    replace hbx := (hC1.block _ (Array.getElem?_eq_some_iff.1 hbx).1).trans hbx
    replace hm0 := hidden (hm0.out.calm hC1)
    have hC := hidden (hC0.trans hC1)
    clear hC0 hC1 b0 b1 b2
    obtain ⟨b0, b1, b2⟩ := box3 hbx
    have hlay : Hid (Lay w w1 s r n a) := ⟨hC.out, hm0.out, hbx⟩
    have hw1 : w.heap.size < w1.heap.size := (Array.getElem?_eq_some_iff.1 hbx).1
    have hlow : Hid (s < w1.heap.size ∧ r < w1.heap.size ∧ n < w1.heap.size ∧ a < w1.heap.size) := ⟨(Array.getElem?_eq_some_iff.1 hm0.out.hs).1, (Array.getElem?_eq_some_iff.1 hm0.out.hr).1, (Array.getElem?_eq_some_iff.1 hm0.out.hn).1, (Array.getElem?_eq_some_iff.1 hm0.out.ha).1⟩
    have hk0 := hidden hk
    have hk1h := hidden hk1
    clear hk1 hC hm0 hbx hgood hk2
    have hmk := make1 w1
    have hO := One.new w1 0
    obtain ⟨c0, c1⟩ := hO.cell
    go_wp2_with fail
    have hO1 := hidden (One.new w1 1)
    have hl1 := hidden (hlay.out.alloc (.cells #[.int .u64 1] 31))
    clear hmk hO c0 c1 b0 b1 b2 hg1 hg2
    go_loopw [5, 32] (fun u i wr => ∃ (j : Nat) (g : Nat), (j : Int) ≤ k ∧ i = .int .i64 j ∧ u = .slice (some ⟨g, 0, none⟩) 1 1 ∧ Hid (w1.heap.size ≤ g) ∧ Hid (One wr g (vv j)) ∧ Hid (Lay w wr s r n a))
      (fun _ i _ => (k - intOf i).toNat)
    case atStart => exact ⟨0, w1.heap.size, hk0.out, rfl, rfl, Nat.le_refl _, hO1, hl1⟩
    case round =>
      obtain ⟨j, g, hj, rfl, rfl, hgl, hO, hl⟩ := hrel
      clear hO1 hl1
      by_cases hlt : (j : Int) < k
      · have hmk := make1 wr
        have hgw : g < wr.heap.size := (Array.getElem?_eq_some_iff.1 hO.out.at').1
        have hN := hidden (One.new wr 0)
        have hO2 : Hid (One (wr.alloc (.cells #[.int .u64 0] 31)) g (vv j)) := ⟨alloc_other hO.out.at' _⟩
        have hl2 := hidden (hl.out.alloc (.cells #[.int .u64 0] 31))
        have hsz : Hid (w1.heap.size ≤ wr.heap.size) := by have := hgl.out; show _ ≤ _; omega
        have hgh : Hid (g ≠ wr.heap.size) := by show _ ≠ _; omega
        have hne : Hid (wr.heap.size ≠ s ∧ wr.heap.size ≠ r ∧ wr.heap.size ≠ n ∧ wr.heap.size ≠ a ∧ w.heap.size < wr.heap.size) := by have := hlow.out; have := hsz.out; show _ ∧ _; omega
        clear hO hl hgw hw1
        obtain ⟨b0, b1, b2⟩ := box3 hl2.out.box
        go_wp2_with fail
        generalize wr.heap.size = h at *
        go_loopw [40] (fun i x => ∃ m : Int, (m = 0 ∨ m = 1) ∧ i = .int .i64 m ∧ Hid (One x h (if m = 0 then 0 else vv (j + 1))) ∧ Hid (One x g (vv j)) ∧ Hid (Lay w x s r n a))
          (fun i _ => (1 - intOf i).toNat)
        case atStart => exact ⟨0, .inl rfl, rfl, hN, hO2, hl2⟩
        case round =>
          obtain ⟨m, hm, rfl, hN, hO, hl⟩ := hrel
          clear hO2 hl2 b0 b1 b2 hmk
          by_cases hm0 : m = 0
          · subst hm0
            obtain ⟨d0, -⟩ := hO.out.cell
            have d1 : wr.cell? ⟨n, 0, none⟩ = some (.slice (some ⟨r, 0, none⟩) 2 2) := by simp [World.cell?, hl.out.mem.hn]
            have hv0 : (vv j == 0) = false := by have := vv_range j; simp; omega
            replace hN : Hid (One wr h (cur j 0)) := hN
            have hcs := hidden (cur_step j)
            have hcl := hidden (cur_lo j)
            have hvl : Hid (0 ≤ vv j) := by have := vv_range j; show _ ≤ _; omega
            have hc2 : Hid (cur j 2 = vv (j + 1)) := rfl
            generalize vv j = v at *
            go_wp2_with fail
            go_loopw [52] (fun i y => ∃ q : Nat, q ≤ 2 ∧ i = .int .i64 q ∧ Hid (One y h (cur j q)) ∧ Hid (One y g v) ∧ Hid (Lay w y s r n a))
              (fun i _ => 2 - (intOf i).toNat)
            case atStart => exact ⟨0, Nat.zero_le _, rfl, hN, hO, hl⟩
            case round =>
              obtain ⟨q, hq, rfl, hN, hO, hl⟩ := hrel
              clear d0 d1
              by_cases hq2 : q < 2
              · obtain ⟨d0, d1⟩ := hN.out.cell
                obtain ⟨d2, -⟩ := hO.out.cell
                have d3 : wr.cell? ⟨r, q, none⟩ = some (.int .i64 0) := by
                  have : q = 0 ∨ q = 1 := by omega
                  rcases this with rfl | rfl <;> simp [World.cell?, hl.out.mem.hr]
                have hst := hidden (hcs.out q hq2)
                have hx0 := hcl.out q
                have ha := fun w => add_c hx0 hvl.out w
                obtain ⟨x', hx'⟩ : ∃ x', Hid (x' = cur j (q + 1)) := ⟨_, (rfl : _ = _)⟩
                rw [hst.out, ← hx'.out] at ha
                have hN2 : Hid (One (wr.setCell ⟨h, 0, none⟩ (.int .u64 x')).drew h x') := ⟨(hN.out.set x').at'⟩
                have hO2 : Hid (One (wr.setCell ⟨h, 0, none⟩ (.int .u64 x')).drew g v) := ⟨set_other hO.out.at' (Ne.symm hgh.out) _⟩
                have hl2 := hidden (Lay.drew <| hl.out.set (g := h) hne.out.2.2.2.2 hne.out.1 hne.out.2.1 hne.out.2.2.1 hne.out.2.2.2.1 (.int .u64 x'))
                clear hst hx0 hN hO hl
                generalize cur j q = z at *
                go_wp2_with fail
                go_region_with (go_at_call 7; refine (ha _).mono ?_; rintro e w' ⟨rfl, rfl⟩)
                all_goals go_wp2
                · go_roundw
                  case rel => exact ⟨q + 1, by omega, by go_num, by rw [← hx'.out]; exact hN2, hO2, hl2⟩
                  case measure => simp [intOf]; omega
                · go_roundw
                  case rel => exact ⟨q + 1, by omega, by go_num, by rw [← hx'.out]; exact hN2, hO2, hl2⟩
                  case measure => simp [intOf]; omega
              · obtain rfl : q = 2 := by omega
                rw [hc2.out] at hN
                go_wp2
                go_roundw
                case rel => exact ⟨1, .inr rfl, by go_num, hN, hO, hl⟩
                case measure => simp [intOf]
          · obtain rfl : m = 1 := by omega
            clear hm0 hm
            replace hN : Hid (One wr h (vv (j + 1))) := hN
            have hkb := hk1h.out
            go_wp2
            go_roundw
            case rel => exact ⟨j + 1, h, by omega, by go_num, rfl, hsz, hN, hl⟩
            case measure => simp [intOf]; omega
      · obtain rfl : (j : Int) = k := by omega
        obtain ⟨b0, b1, b2⟩ := box3 hl.out.box
        clear hlt
        obtain ⟨d0, -⟩ := hO.out.cell
        have d1 : wr.cell? ⟨a, 0, none⟩ = some (.bool true) := by simp [World.cell?, hl.out.mem.ha]
        have ha := fun w => add_c (a := 0) (b := vv j) (Int.le_refl _) (by have := vv_range j; omega) w
        have hs : addS 0 (vv j) = vv j := cur_step j 0 (by omega)
        rw [hs] at ha
        clear hs
        obtain ⟨v, hv⟩ : ∃ v, Hid (v = vv j) := ⟨_, (rfl : _ = _)⟩
        rw [← hv.out] at d0 ha
        go_wp2_with fail
        go_loop [11, 77] (fun u i => ∃ m : Int, (m = 0 ∨ m = 1) ∧ i = .int .i64 m ∧ u = .int .u64 (if m = 0 then 0 else v))
          (fun _ i => (1 - intOf i).toNat)
        case atStart => exact ⟨0, .inl rfl, rfl, rfl⟩
        case round =>
          obtain ⟨m, hm, rfl, rfl⟩ := hrel
          by_cases hm0 : m = 0
          · subst hm0
            clear hm
            rw [if_pos rfl]
            go_wp2_with (go_at_call 7; refine (ha _).mono ?_; rintro e w' ⟨rfl, rfl⟩)
            go_round
            case rel => exact ⟨1, .inr rfl, by go_num, rfl⟩
            case measure => simp [intOf]
          · obtain rfl : m = 1 := by omega
            clear hm hm0
            rw [if_neg (by decide)]
            go_wp2
            go_ret
            exact ⟨by first | (rw [← hv.out]; done) | (rw [← hv.out]; rfl), hl.out.calm⟩
  · rw [if_neg hk1]
    have hg2 : decide (1000 < k) = true := by simp; omega
    go_enter Try.func4, Try.ntmps4
    go_wp2_with fail
    refine (hgood _ hm0.out).mono ?_
    rintro e w1 ⟨rfl, hC1⟩
    replace hbx := (hC1.block _ (Array.getElem?_eq_some_iff.1 hbx).1).trans hbx
    replace hm0 := hidden (hm0.out.calm hC1)
    have hC := hidden (hC0.trans hC1)
    clear hC0 hC1 b0 b1 b2
    obtain ⟨b0, b1, b2⟩ := box3 hbx
    clear hk1 hbx
    go_wp2
    go_ret
    exact ⟨rfl, hC.out⟩

set_option maxHeartbeats 1600000 in
set_option maxRecDepth 100000 in
theorem law_c (u : Int) (w : World) (hu : 0 ≤ u) (hu2 : u ≤ 65535)
    (hgood : ∀ s r n a w, Mem w s r n a → Calls Try.prog 6 #[dV s n a] w fun e w' => e = .returned (.bool true) ∧ GoX.Calm w w')
    (hlv : ∀ x, Calls Try.prog 5 #[] x fun e w' => e = .returned (.bool true) ∧ GoX.Calm x w') :
    Calls Try.prog 3 #[.int .u16 u] w fun e w' => e = .returned (.bool true) ∧ GoX.Calm w w' := by
  obtain ⟨k, hk⟩ : ∃ k : Nat, (k : Int) = u % 1002 := ⟨(u % 1002).toNat, by omega⟩
  have hk2 : k ≤ 1001 := by omega
  have at0 : ∀ (x : World) (o : Obj), (x.alloc o).heap[x.heap.size]? = some o := fun x o => by show (x.heap.push o)[x.heap.size]? = _; simp
  have hmem : Mem (((((w.alloc (.cells #[.string ⟨#[97]⟩, .bool false, .string ⟨#[98]⟩, .bool false] 24)).alloc (.cells #[.int .i64 0, .int .i64 0] 3)).alloc (.cells #[.slice (some ⟨w.heap.size + 1, 0, none⟩) 2 2] 26)).alloc (.cells #[.bool true] 4)).alloc
      (.cells #[.slice (some ⟨w.heap.size, 0, none⟩) 2 2, .slice (some ⟨w.heap.size + 1 + 1, 0, none⟩) 1 1, .slice (some ⟨w.heap.size + 1 + 1 + 1, 0, none⟩) 1 1] 30)) w.heap.size (w.heap.size + 1) (w.heap.size + 1 + 1) (w.heap.size + 1 + 1 + 1) := by
    have s1 : ∀ (x : World) (o : Obj), (x.alloc o).heap.size = x.heap.size + 1 := fun x o => by show (x.heap.push o).size = _; simp
    refine ⟨?_, ?_, ?_, ?_⟩
    · exact alloc_other (alloc_other (alloc_other (alloc_other (at0 _ _) _) _) _) _
    · have h := at0 (w.alloc (.cells #[.string ⟨#[97]⟩, .bool false, .string ⟨#[98]⟩, .bool false] 24)) (.cells #[.int .i64 0, .int .i64 0] 3)
      rw [s1] at h
      exact alloc_other (alloc_other (alloc_other h _) _) _
    · have h := at0 ((w.alloc (.cells #[.string ⟨#[97]⟩, .bool false, .string ⟨#[98]⟩, .bool false] 24)).alloc (.cells #[.int .i64 0, .int .i64 0] 3)) (.cells #[.slice (some ⟨w.heap.size + 1, 0, none⟩) 2 2] 26)
      rw [s1, s1] at h
      exact alloc_other (alloc_other h _) _
    · have h := at0 (((w.alloc (.cells #[.string ⟨#[97]⟩, .bool false, .string ⟨#[98]⟩, .bool false] 24)).alloc (.cells #[.int .i64 0, .int .i64 0] 3)).alloc (.cells #[.slice (some ⟨w.heap.size + 1, 0, none⟩) 2 2] 26)) (.cells #[.bool true] 4)
      rw [s1, s1, s1] at h
      exact alloc_other h _
  have hC : GoX.Calm w (((((w.alloc (.cells #[.string ⟨#[97]⟩, .bool false, .string ⟨#[98]⟩, .bool false] 24)).alloc (.cells #[.int .i64 0, .int .i64 0] 3)).alloc (.cells #[.slice (some ⟨w.heap.size + 1, 0, none⟩) 2 2] 26)).alloc (.cells #[.bool true] 4)).alloc
      (.cells #[.slice (some ⟨w.heap.size, 0, none⟩) 2 2, .slice (some ⟨w.heap.size + 1 + 1, 0, none⟩) 1 1, .slice (some ⟨w.heap.size + 1 + 1 + 1, 0, none⟩) 1 1] 30)) :=
    ((((calm_alloc _ _).trans (calm_alloc _ _)).trans (calm_alloc _ _)).trans (calm_alloc _ _)).trans (calm_alloc _ _)
  have hrows := rows_c k _ _ _ _ _ (by omega) (by omega) hmem (hgood _ _ _ _)
  unfold dV at hrows
  rw [hk] at hrows
  replace hC := hidden hC
  clear hmem at0 hgood
  by_cases hk1 : k ≤ 1000
  · have hk3 : decide (1000 < u % 1002) = false := by simp; omega
    rw [if_pos (by omega), ← hk, Int.toNat_natCast, hk] at hrows
    have hkk := hidden hk
    clear hk
    go_enter Try.func3, Try.ntmps3
    go_wp2_with fail
    refine hrows.mono ?_
    rintro e w1 ⟨rfl, hC1⟩
    replace hC := hidden (hC.out.trans hC1)
    clear hC1 hrows
    obtain ⟨V, hV⟩ : ∃ V, Hid (V = vv k) := ⟨_, (rfl : _ = _)⟩
    rw [← hV.out]
    go_wp2_with fail
    go_loop [6, 7] (fun x i => ∃ j : Nat, j ≤ k ∧ i = .int .i64 j ∧ x = .int .u64 (vv j))
      (fun _ i => k - (intOf i).toNat)
    case atStart => exact ⟨0, Nat.zero_le _, rfl, rfl⟩
    case round =>
      obtain ⟨j, hj, rfl, rfl⟩ := hrel
      have hkj : (k : Int) = u % 1002 := hkk.out
      have hr := vv_range j
      by_cases hlt : j < k
      · by_cases hf : vv j < 4611686018427387904
        · have hst := hidden (vv_step hf)
          generalize vv j = v at *
          go_wp2
          go_round
          case rel => exact ⟨j + 1, by omega, by go_num, by first | (rw [← hst.out]; done) | (rw [← hst.out]; exact congrArg _ (by omega))⟩
          case measure => simp [intOf]; omega
        · have hfull : V = vv j := by
            have h := vv_full hf (k - j)
            rw [show j + (k - j) = k by omega] at h
            rw [hV.out, h]; omega
          rw [← hfull] at hf hr ⊢
          go_wp2_with fail
          refine (hlv _).mono ?_
          rintro e wz ⟨rfl, hC2⟩
          have hfin := hidden (hC.out.trans hC2)
          clear hC2
          go_wp2
          go_ret
          exact ⟨by simp, hfin.out⟩
      · obtain rfl : j = k := by omega
        rw [← hV.out] at hr ⊢
        go_wp2_with fail
        refine (hlv _).mono ?_
        rintro e wz ⟨rfl, hC2⟩
        have hfin := hidden (hC.out.trans hC2)
        clear hC2
        go_wp2
        go_ret
        exact ⟨by simp, hfin.out⟩
  · have hk3 : decide (1000 < u % 1002) = true := by simp; omega
    rw [if_neg (by omega)] at hrows
    clear hk
    go_enter Try.func3, Try.ntmps3
    go_wp2_with fail
    refine hrows.mono ?_
    rintro e w1 ⟨rfl, hC1⟩
    replace hC := hidden (hC.out.trans hC1)
    clear hC1 hrows
    go_wp2_with fail
    refine (hlv _).mono ?_
    rintro e wz ⟨rfl, hC2⟩
    have hfin := hidden (hC.out.trans hC2)
    clear hC2
    go_wp2
    go_ret
    exact ⟨by simp, hfin.out⟩
end Go.Proofs.Ythjmgahgfkecfad
