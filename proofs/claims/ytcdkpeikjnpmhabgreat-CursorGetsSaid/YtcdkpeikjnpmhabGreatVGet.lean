/-
  THE NUMBER WITH WHICH A TEXT BEGINS: Get, the program's and the reference's, by one contract.
-/
import Derived.Test.YtcdkpeikjnpmhabGreatVMath
import Derived.Lib.VarintBits
import Derived.Laws.BitsAllLaws
namespace Go.Proofs.YtcdkpeikjnpmhabGreat
open Go.ChangeShapes Go.WideShapes Go.ChangeAt Go.RowKit

def gt (L : List UInt8) : Nat → Nat → Nat × Nat × Nat
  | 0, _ => (0, 0, 7)
  | f + 1, i => if i < L.length ∧ i < 10 then
      if i = 9 ∧ 1 < (L.getD i 0).toNat then (0, 0, 2)
      else if 128 ≤ (L.getD i 0).toNat then gt L f (i + 1)
      else if (L.getD i 0).toNat = 0 ∧ 0 < i then (0, 0, 2)
      else (val (L.take (i + 1)), i + 1, 0)
    else (0, 0, 7)
def getS (L : List UInt8) : Nat × Nat × Nat := gt L 11 0
def getAt (L : List UInt8) (k : Nat) : Nat × Nat × Nat := gt L (11 - k) k
theorem getAt_eq (L : List UInt8) {k : Nat} (hk : k ≤ 10) : getAt L k = if k < L.length ∧ k < 10 then
      if k = 9 ∧ 1 < (L.getD k 0).toNat then (0, 0, 2)
      else if 128 ≤ (L.getD k 0).toNat then getAt L (k + 1)
      else if (L.getD k 0).toNat = 0 ∧ 0 < k then (0, 0, 2)
      else (val (L.take (k + 1)), k + 1, 0)
    else (0, 0, 7) := by
  unfold getAt
  rw [show 11 - k = (11 - (k + 1)) + 1 by omega, gt]
def tupR (r : Nat × Nat × Nat) : Value := .tuple #[.int .u64 (r.1 : Nat), .int .i64 (r.2.1 : Nat), .int .i64 (r.2.2 : Nat)]
theorem take_snocU (L : List UInt8) (k : Nat) (hk : k < L.length) : L.take (k + 1) = L.take k ++ [L.getD k 0] := by
  rw [List.take_add_one, List.getElem?_eq_getElem hk]; simp [List.getD, hk]
theorem pow_128 (k : Nat) : (2 : Int) ^ (7 * k) = ((128 ^ k : Nat) : Int) := by
  rw [Int.pow_mul]; push_cast; rfl
theorem or_add (k : Nat) (u d : Nat) (hu : u < 128 ^ k) (hd : u + d * 128 ^ k < 18446744073709551616) :
    bits .or .u64 (u : Int) ((d * 128 ^ k : Nat) : Int) = ((u + d * 128 ^ k : Nat) : Int) := by
  rw [u64_or_nat u (d * 128 ^ k) (by omega) (by omega), Nat.or_comm]
  have e : 128 ^ k = 2 ^ (7 * k) := by rw [Nat.pow_mul]
  rw [nat_join (7 * k) (d * 128 ^ k) u (by rw [e]; exact Nat.mul_mod_left _ _) (by rw [← e]; exact hu), Nat.add_comm]

theorem or_step {k b u v : Nat} (hk : k ≤ 9) (hb : k = 9 → b ≤ 1) (hu : u < 128 ^ k) (hv : v = u + b % 128 * 128 ^ k) :
    bits .or .u64 (u : Int) (IntKind.u64.wrap ((b : Int) % 128 * 2 ^ (7 * k))) = (v : Int) ∧ v < 18446744073709551616 := by
  have hd := Nat.mod_lt b (show 0 < 128 by decide)
  have hbound : u + b % 128 * 128 ^ k < 18446744073709551616 := by
    by_cases h9 : k = 9
    · have := hb h9
      subst h9
      have e : (128 : Nat) ^ 9 = 9223372036854775808 := by decide
      rw [e] at hu ⊢
      omega
    · have h8 : 128 ^ k ≤ 72057594037927936 := Nat.le_trans (Nat.pow_le_pow_right (by decide) (show k ≤ 8 by omega)) (by decide)
      have h1 : b % 128 * 128 ^ k ≤ 127 * 128 ^ k := Nat.mul_le_mul_right _ (by omega)
      omega
  have e1 : ((b : Int) % 128 * 2 ^ (7 * k)) = ((b % 128 * 128 ^ k : Nat) : Int) := by rw [pow_128]; push_cast; rfl
  have e2 : IntKind.u64.wrap ((b % 128 * 128 ^ k : Nat) : Int) = ((b % 128 * 128 ^ k : Nat) : Int) := by rw [IntKind.wrap_u64]; omega
  rw [e1, e2, or_add k u (b % 128) hu hbound, hv]
  exact ⟨rfl, hbound⟩
theorem getAt_ways (s : ByteArray) {k : Nat} (hk : k < 10) (hs : k < s.size) :
    (k = 9 ∧ 1 < s[k].toNat → getAt s.data.toList k = (0, 0, 2)) ∧
    (¬ (k = 9 ∧ 1 < s[k].toNat) → 128 ≤ s[k].toNat → getAt s.data.toList k = getAt s.data.toList (k + 1)) ∧
    (¬ (k = 9 ∧ 1 < s[k].toNat) → s[k].toNat < 128 → s[k].toNat = 0 → 0 < k → getAt s.data.toList k = (0, 0, 2)) ∧
    (¬ (k = 9 ∧ 1 < s[k].toNat) → s[k].toNat < 128 → (s[k].toNat ≠ 0 ∨ k = 0) → getAt s.data.toList k = (val (s.data.toList.take (k + 1)), k + 1, 0)) := by
  have hl : k < s.data.toList.length := by simpa using hs
  have hd : s.data.toList.getD k 0 = s[k] := by
    rw [List.getD_eq_getElem?_getD, List.getElem?_eq_getElem hl]; rfl
  have h := getAt_eq s.data.toList (k := k) (by omega)
  rw [if_pos ⟨hl, hk⟩, hd] at h
  rw [h]
  refine ⟨fun h1 => by rw [if_pos h1], fun h1 h2 => by rw [if_neg h1, if_pos h2], fun h1 h2 h3 h4 => by rw [if_neg h1, if_neg (by omega), if_pos ⟨h3, h4⟩], fun h1 h2 h3 => by rw [if_neg h1, if_neg (by omega), if_neg (by omega)]⟩
theorem getAt_end (L : List UInt8) {k : Nat} (hk : k ≤ 10) (h : ¬ (k < L.length ∧ k < 10)) : getAt L k = (0, 0, 7) := by rw [getAt_eq L hk, if_neg h]
theorem take_at (s : ByteArray) {k : Nat} (hs : k < s.size) : s.data.toList.take (k + 1) = s.data.toList.take k ++ [s[k]] := by
  have hl : k < s.data.toList.length := by simpa using hs
  rw [take_snocU _ k hl, List.getD_eq_getElem?_getD, List.getElem?_eq_getElem hl]; rfl

set_option maxHeartbeats 800000 in
set_option maxRecDepth 100000 in
theorem get_c (s : ByteArray) (w : World) (hs : s.size ≤ 9223372036854775807) :
    Calls Tryz.prog 18 #[.string s] w fun e w' => e = .returned (tupR (getS s.data.toList)) ∧ w' = w := by
  have hR0 : Hid (getS s.data.toList = getAt s.data.toList 0) := rfl
  generalize getS s.data.toList = R at *
  go_enter Tryz.func18, Tryz.ntmps18
  go_wp2
  all_goals
    go_loop [5, 11] (fun u i => ∃ k : Nat, k ≤ 10 ∧ k ≤ s.size ∧ i = .int .i64 k ∧ u = .int .u64 (val (s.data.toList.take k) : Nat) ∧ Hid ((∀ x ∈ s.data.toList.take k, 128 ≤ x.toNat) ∧ R = getAt s.data.toList k))
      (fun _ i => 10 - (intOf i).toNat)
    case atStart => exact ⟨0, by omega, by omega, rfl, rfl, ⟨fun x hx => by simp at hx, hR0.out⟩⟩
    case round =>
      obtain ⟨k, hk, hks0, rfl, rfl, hH⟩ := hrel
      by_cases hlt : k < 10 ∧ k < s.size
      · obtain ⟨hk1, hk2⟩ := hlt
        have hw := getAt_ways s hk1 hk2
        have ht := take_at s hk2
        have hv := val_snoc (s.data.toList.take k) s[k]
        have hlen : (s.data.toList.take k).length = k := by rw [List.length_take]; simp; omega
        have hvl := val_lt (s.data.toList.take k)
        rw [← ht, hlen] at hv
        rw [hlen] at hvl
        have hb := s[k].toNat_lt
        have hp9 : 128 ^ k ≤ 9223372036854775808 := Nat.le_trans (Nat.pow_le_pow_right (by decide) (show k ≤ 9 by omega)) (by decide)
        have hnew : Hid ((∀ x ∈ s.data.toList.take k, 128 ≤ x.toNat) → 128 ≤ s[k].toNat → ∀ x ∈ s.data.toList.take (k + 1), 128 ≤ x.toNat) := fun h1 h2 x hx => by
          rw [ht] at hx
          rcases List.mem_append.1 hx with h | h
          · exact h1 x h
          · rw [List.mem_singleton.1 h]; exact h2
        have hA : bits .and .u8 (s[k].toNat : Int) 127 = (s[k].toNat : Int) % 128 := u8_and127 _ (by omega) (by omega)
        clear ht
        by_cases hc9 : k = 9 ∧ 1 < s[k].toNat
        · have hR : R = (0, 0, 2) := by rw [hH.out.2]; exact hw.1 hc9
          obtain ⟨rfl, h1⟩ := hc9
          have h1' : (1 : Int) < s[9].toNat := by omega
          clear hH hR0 hw hnew
          subst hR
          go_wp2
          go_ret3
          exact ⟨rfl, rfl⟩
        · have hst := or_step (k := k) (b := s[k].toNat) (by omega) (by omega) hvl hv
          have hO := hst.1
          by_cases hb8 : 128 ≤ s[k].toNat
          · have hk9 : k ≠ 9 := by omega
            have hb8' : (128 : Int) ≤ s[k].toNat := by omega
            have hH2 : Hid ((∀ x ∈ s.data.toList.take (k + 1), 128 ≤ x.toNat) ∧ R = getAt s.data.toList (k + 1)) := ⟨hnew.out hH.out.1 hb8, by rw [hH.out.2]; exact hw.2.1 hc9 hb8⟩
            clear hc9 hw hR0 hst hH hnew hv hvl hp9
            go_wp2
            go_round
            case rel => exact ⟨k + 1, by omega, by omega, by go_num, by first | rfl | rw [hO], hH2⟩
            case measure => simp [intOf]; omega
          · by_cases h0 : s[k].toNat = 0 ∧ 0 < k
            · have hR : R = (0, 0, 2) := by rw [hH.out.2]; exact hw.2.2.1 hc9 (by omega) h0.1 h0.2
              obtain ⟨h01, h02⟩ := h0
              have h01' : (s[k].toNat : Int) = 0 := by omega
              clear hH hR0 hw hnew hst hv hvl hp9 hc9 h01
              subst hR
              go_wp2
              all_goals go_ret3
              all_goals exact ⟨rfl, rfl⟩
            · have hR : R = (val (s.data.toList.take (k + 1)), k + 1, 0) := by rw [hH.out.2]; exact hw.2.2.2 hc9 (by omega) (by omega)
              clear hH hR0 hw hnew hst hv hvl hp9
              subst hR
              by_cases hk0 : k = 0
              · have hk1' : (k : Int) ≤ 0 := by omega
                clear hc9 h0 hk0
                go_wp2
                all_goals go_ret3
                all_goals exact ⟨by first | rfl | (rw [hO]; rfl), rfl⟩
              · have hbn : ¬ (s[k].toNat : Int) = 0 := by omega
                by_cases hk9 : k = 9
                · subst hk9
                  have hb1 : ¬ (1 : Int) < s[9].toNat := by omega
                  have hw9 : IntKind.u64.wrap ((s[9].toNat : Int) % 128 * 2 ^ (7 * 9)) = (s[9].toNat : Int) % 128 * 9223372036854775808 := by
                    have e : (2 : Int) ^ (7 * 9) = 9223372036854775808 := by decide
                    rw [e, IntKind.wrap_u64]; omega
                  rw [hw9] at hO
                  clear hc9 h0 hw9
                  go_wp2
                  all_goals go_ret3
                  all_goals exact ⟨by first | rfl | (rw [hO]; rfl), rfl⟩
                · clear hc9 h0
                  go_wp2
                  all_goals go_ret3
                  all_goals exact ⟨by first | rfl | (rw [hO]; rfl), rfl⟩
      · have hR : R = (0, 0, 7) := by rw [hH.out.2]; exact getAt_end _ hk (by simp; omega)
        clear hH hR0
        subst hR
        by_cases h1 : k < 10
        · have h2 : s.size ≤ k := by omega
          clear hlt
          go_wp2
          all_goals go_ret3
          all_goals exact ⟨rfl, rfl⟩
        · clear hlt
          go_wp2
          all_goals go_ret3
          all_goals exact ⟨rfl, rfl⟩
end Go.Proofs.YtcdkpeikjnpmhabGreat
