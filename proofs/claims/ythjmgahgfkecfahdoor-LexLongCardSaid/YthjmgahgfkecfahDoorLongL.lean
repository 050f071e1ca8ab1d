/-
  THE WORDS OF A TEXT OF ONE BYTE, by contract.
-/
import Derived.Test.YthjmgahgfkecfahDoorLongP
namespace Go.Proofs.YthjmgahgfkecfahDoor
open Go.ChangeShapes Go.WideShapes Go.ChangeAt Go.RowKit

set_option maxHeartbeats 800000 in
set_option maxRecDepth 100000 in
/-- Too long. -/
theorem words_long (s : ByteArray) (w : World) (h : 4096 < s.size) : Calls Tryd.prog 4 #[.string s] w fun e w' => e = .returned (.tuple #[.slice none 0 0, .int .i64 0, .int .i64 5]) ∧ w' = w := by
  have h2 : (4096 : Int) < (s.size : Int) := by omega
  go_enter Tryd.func4, Tryd.ntmps4
  go_wp2
  go_ret3
  exact ⟨rfl, rfl⟩
theorem two_new (w : World) : (((w.alloc (.cells #[.slice none 0 0] 23)).alloc (.cells #[.int .i64 0] 3)).heap[w.heap.size]? = some (.cells #[.slice none 0 0] 23)) ∧
    (((w.alloc (.cells #[.slice none 0 0] 23)).alloc (.cells #[.int .i64 0] 3)).heap[w.heap.size + 1]? = some (.cells #[.int .i64 0] 3)) ∧
    Below w.heap.size w ((w.alloc (.cells #[.slice none 0 0] 23)).alloc (.cells #[.int .i64 0] 3)) := by
  have hs1 : (w.alloc (.cells #[.slice none 0 0] 23)).heap.size = w.heap.size + 1 := by show (w.heap.push _).size = _; simp
  refine ⟨alloc_oth (by show (w.heap.push _)[w.heap.size]? = _; simp) _, ?_, ((Below.refl _ _).alloc (Nat.le_refl _) _).alloc (by rw [hs1]; omega) _⟩
  have h : ∀ (x : World) (o : Obj), (x.alloc o).heap[x.heap.size]? = some o := fun x o => by show (x.heap.push _)[x.heap.size]? = _; simp
  have := h (w.alloc (.cells #[.slice none 0 0] 23)) (.cells #[.int .i64 0] 3)
  rwa [hs1] at this
/-- The number that lies at an address. -/
def numAt (w : World) (b : Nat) : Nat := (intOf ((w.cell? ⟨b, 0, none⟩).getD undef)).toNat
theorem numAt_of {w : World} {b k : Nat} {t : TypeId} (h : w.heap[b]? = some (.cells #[.int .i64 (k : Int)] t)) : numAt w b = k := by
  unfold numAt
  rw [(one_cell h).1]
  simp [intOf]

set_option maxHeartbeats 3200000 in
set_option maxRecDepth 100000 in
/-- Blanks. -/
theorem words_blank (s : ByteArray) (w : World) (h : Rep s s.size 32) (hn : s.size ≤ 4096) : Calls Tryd.prog 4 #[.string s] w fun e w' => e = .returned (.tuple #[.slice none 0 0, .int .i64 0, .int .i64 0]) ∧ Below w.heap.size w w' := by
  have hat := hiddenW (fun k (hk : k < s.size) => h.at' hk)
  clear h
  have hsz : (s.size : Int) ≤ 4096 := by omega
  obtain ⟨hL, hA, hB⟩ := two_new w
  have b0 := (one_cell hA)
  replace hL := hiddenW hL
  replace hA := hiddenW hA
  replace hB := hiddenW hB
  obtain ⟨b0, b1⟩ := b0
  go_enter Tryd.func4, Tryd.ntmps4
  go_wp2_with fail
  go_loopw [15] (fun _ x => ∃ k : Nat, k ≤ s.size ∧ Hid (x.heap[w.heap.size + 1]? = some (.cells #[.int .i64 (k : Int)] 3)) ∧ Hid (x.heap[w.heap.size]? = some (.cells #[.slice none 0 0] 23)) ∧ Hid (Below w.heap.size w x))
    (fun _ x => s.size - numAt x (w.heap.size + 1))
  case atStart => exact ⟨0, Nat.zero_le _, hA, hL, hB⟩
  case round =>
    obtain ⟨k, hk, hA, hL, hB⟩ := hrel
    clear b0 b1
    obtain ⟨b0, b1⟩ := one_cell hA.out
    have hnum := hiddenW (numAt_of hA.out)
    by_cases hlt : k < s.size
    · have hbk : ((s[k]).toNat : Int) = 32 := hat.out k hlt
      have hA2 := hiddenW (one_set hA.out (.int .i64 ((k : Int) + 1)))
      have hL2 := hiddenW (set_oth hL.out (show w.heap.size + 1 ≠ w.heap.size by omega) 0 (.int .i64 ((k : Int) + 1)))
      have hB2 := hiddenW (hB.out.setCell (p := ⟨w.heap.size + 1, 0, none⟩) (Nat.le_succ _) (.int .i64 ((k : Int) + 1)))
      clear hA hL hB
      go_wp2_with (go_at_call 7; refine (blank_c 32 _ (.inl rfl)).mono ?_; rintro e w' ⟨rfl, rfl⟩)
      go_roundw
      case rel => exact ⟨k + 1, by omega, hA2, hL2, hB2⟩
      case measure => rw [hnum.out, numAt_of (k := k + 1) hA2.out]; omega
    · obtain ⟨l0, l1⟩ := one_cell hL.out
      have hkk : ¬ (k : Int) < (s.size : Int) := by omega
      go_wp2
      go_ret3
      exact ⟨rfl, hB.out⟩

def wordsR (z n : Nat) (code : Int) : Prop := (1000 < z → n = 0 ∧ code = 5) ∧ (z ≤ 1000 → n = z ∧ code = 0)
theorem own_len {w : World} {B te s n : Nat} {v : Value} {xs : List Value} (h : w.ownsRow B te s v n xs) : ∃ a c, v = .slice a n c := by
  rcases h.2 with ⟨rfl, h0⟩ | ⟨g, cap, cur, rfl, _⟩
  · exact ⟨none, 0, by rw [h0]⟩
  · exact ⟨_, _, rfl⟩
set_option maxHeartbeats 6400000 in
set_option maxRecDepth 100000 in
/-- Commas. -/
theorem words_comma (s : ByteArray) (w : World) (h : Rep s s.size 44) (hn : s.size ≤ 4096) (hsig : ∀ k, k < 22 → w.cell? ⟨0, k, none⟩ = some (.string (siL.getD k ⟨#[]⟩))) :
    Calls Tryd.prog 4 #[.string s] w fun e w' => ∃ a n c code, e = .returned (.tuple #[.slice a n c, .int .i64 0, .int .i64 code]) ∧ wordsR s.size n code ∧ Below w.heap.size w w' := by
  have hat := hiddenW (fun k (hk : k < s.size) => h.at' hk)
  have hfrom := hiddenW (fun k => h.from k)
  have hg : 0 < w.heap.size := World.block_lt_of_cell? w ⟨0, 0, none⟩ (hsig 0 (by omega))
  have hsg := hiddenW (fun (x : World) (hB : Below w.heap.size w x) k (hk : k < 22) => (hB.cell (p := ⟨0, k, none⟩) hg).trans (hsig k hk))
  clear h hsig hg
  have hsz : (s.size : Int) ≤ 4096 := by omega
  obtain ⟨hL, hA, hB⟩ := two_new w
  have hP : Hid (Put w.heap.size ((w.alloc (.cells #[.slice none 0 0] 23)).alloc (.cells #[.int .i64 0] 3)) (w.heap.size + 1) w.heap.size 0 0 (.slice none 0 0) []) :=
    ⟨hA, hL, ⟨rfl, .inl ⟨rfl, rfl⟩⟩, Nat.le_succ _, Nat.le_refl _⟩
  obtain ⟨b0, b1⟩ := one_cell hA
  clear hL hA
  replace hB := hiddenW hB
  go_enter Tryd.func4, Tryd.ntmps4
  go_wp2_with fail
  go_loopw [15] (fun _ x => ∃ (k : Nat) (v : Value) (xs : List Value), k ≤ s.size ∧ Hid (Put w.heap.size x (w.heap.size + 1) w.heap.size k k v xs) ∧ Hid (Below w.heap.size w x))
    (fun _ x => s.size - numAt x (w.heap.size + 1))
  case atStart => exact ⟨0, _, _, Nat.zero_le _, hP, hB⟩
  case round =>
    obtain ⟨k, v, xs, hk, hP, hB⟩ := hrel
    clear b0 b1
    obtain ⟨b0, b1⟩ := one_cell hP.out.a
    have hnum := hiddenW (numAt_of hP.out.a)
    by_cases hlt : k < s.size
    · have hbk : ((s[k]).toNat : Int) = 44 := hat.out k hlt
      have hw := word_c (s.extract k s.size) (s.size - k - 1) wr (by have := hfrom.out k; rwa [show s.size - k = s.size - k - 1 + 1 by omega] at this) (hsg.out wr hB.out)
      unfold comma at hw
      go_wp2_with fail
      refine (blank_c 44 _ (.inr rfl)).mono ?_
      rintro e w' ⟨rfl, rfl⟩
      go_wp2_with fail
      refine hw.mono ?_
      rintro e w1 ⟨rfl, hB1⟩
      have hP1 := hiddenW (hP.out.below hB1)
      have hBB := hiddenW (hB.out.trans (hB1.mono hB.out.size))
      clear hP hB hB1 hw b0 b1
      obtain ⟨b0, b1⟩ := one_cell hP1.out.a
      have hal := (Below.refl w1.heap.size w1).alloc (Nat.le_refl _) (.cells #[.int .i64 4, .string ⟨#[44]⟩, .int .i64 0, .int .i64 0, .string ⟨#[]⟩, .int .i64 0] 32)
      have hP2 := hP1.out.below hal
      have hB2 := hiddenW (hBB.out.trans (hal.mono hBB.out.size))
      have hput := put_c w.heap.size (w.heap.size + 1) w.heap.size k k v xs _ hP2 hB2.out.size (by omega) (by omega)
      unfold comma at hput
      clear hal hP2
      go_wp2_with fail
      refine hput.mono ?_
      rintro e w3 ⟨rfl, hB3, v', xs', hP3⟩
      have hB4 := hiddenW (hB2.out.trans hB3)
      replace hP3 := hiddenW hP3
      clear hput hB3 hB2 hP1 hBB b0 b1
      go_wp2
      go_roundw
      case rel => exact ⟨k + 1, v', xs', by omega, hP3, hB4⟩
      case measure => rw [hnum.out, numAt_of (k := k + 1) hP3.out.a]; omega
    · obtain rfl : k = s.size := by omega
      obtain ⟨a, c, rfl⟩ := own_len hP.out.own
      obtain ⟨l0, l1⟩ := one_cell hP.out.l
      have hkk : ¬ (s.size : Int) < (s.size : Int) := by omega
      by_cases h1000 : 1000 < s.size
      · have h2 : (1000 : Int) < (s.size : Int) := by omega
        have hfin : wordsR s.size 0 5 := ⟨fun _ => ⟨rfl, rfl⟩, fun h => by omega⟩
        clear h1000
        go_wp2
        go_ret3
        exact ⟨none, 0, 0, 5, rfl, hfin, hB.out⟩
      · have h2 : ¬ (1000 : Int) < (s.size : Int) := by omega
        have hfin : wordsR s.size s.size 0 := ⟨fun h => by omega, fun _ => ⟨rfl, rfl⟩⟩
        clear h1000
        go_wp2
        go_ret3
        exact ⟨a, s.size, c, 0, rfl, hfin, hB.out⟩
end Go.Proofs.YthjmgahgfkecfahDoor
