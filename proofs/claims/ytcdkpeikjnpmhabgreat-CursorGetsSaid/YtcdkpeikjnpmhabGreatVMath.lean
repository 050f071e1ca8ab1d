/-
  NUMBERS AS BYTES, as plain functions of lists. No program is named here.
-/
import Derived.Test.YtcdkpeikjnpmhabGreatRows1
namespace Go.Proofs.YtcdkpeikjnpmhabGreat
open Go.RowKit

def putF : Nat → Nat → List UInt8
  | 0, _ => []
  | f + 1, u => if u < 128 then [UInt8.ofNat u] else UInt8.ofNat (128 + u % 128) :: putF f (u / 128)
theorem putF_more : ∀ (f u g : Nat), u < 128 ^ (f + 1) → f ≤ g → putF (g + 1) u = putF (f + 1) u
  | 0, u, g, h, _ => by
    have : u < 128 := by simpa using h
    simp [putF, this]
  | f + 1, u, g, h, hg => by
    obtain ⟨g, rfl⟩ : ∃ g', g = g' + 1 := ⟨g - 1, by omega⟩
    by_cases hu : u < 128
    · simp [putF, hu]
    · have e : ∀ n v, putF (n + 1) v = if v < 128 then [UInt8.ofNat v] else UInt8.ofNat (128 + v % 128) :: putF n (v / 128) := fun _ _ => rfl
      rw [e (g + 1), if_neg hu, e (f + 1), if_neg hu, putF_more f (u / 128) g (by rw [Nat.div_lt_iff_lt_mul (by decide)]; rwa [Nat.pow_succ] at h) (by omega)]
def put (u : Nat) : List UInt8 := putF 11 u

/-- What some bytes come to, the lowest first. -/
def val : List UInt8 → Nat
  | [] => 0
  | b :: r => b.toNat % 128 + 128 * val r
theorem val_snoc : ∀ (l : List UInt8) (b : UInt8), val (l ++ [b]) = val l + b.toNat % 128 * 128 ^ l.length
  | [], b => by simp [val]
  | a :: l, b => by
    rw [List.cons_append, val, val, val_snoc l b, List.length_cons, Nat.pow_succ, Nat.mul_add]
    have : 128 * (b.toNat % 128 * 128 ^ l.length) = b.toNat % 128 * (128 ^ l.length * 128) := by ac_rfl
    omega
theorem val_lt : ∀ l : List UInt8, val l < 128 ^ l.length
  | [] => by simp [val]
  | b :: l => by
    have := val_lt l
    rw [val, List.length_cons, Nat.pow_succ]
    have h := Nat.mod_lt b.toNat (show 0 < 128 by decide)
    omega

theorem u8_mod (b : UInt8) (h : 128 ≤ b.toNat) : UInt8.ofNat (128 + b.toNat % 128) = b := by
  have h2 := b.toNat_lt
  apply UInt8.toNat_inj.1
  rw [UInt8.toNat_ofNat']
  have : 128 + b.toNat % 128 = b.toNat := by omega
  rw [this]
  exact Nat.mod_eq_of_lt h2
theorem u8_low (b : UInt8) (h : b.toNat < 128) : UInt8.ofNat (b.toNat % 128) = b := by
  apply UInt8.toNat_inj.1
  rw [UInt8.toNat_ofNat', Nat.mod_eq_of_lt h]
  exact Nat.mod_eq_of_lt b.toNat_lt

/-- Bytes of which all but the last say that more come, and the last says that none does. -/
def Ends (l : List UInt8) (b : UInt8) : Prop := (∀ x ∈ l, 128 ≤ x.toNat) ∧ b.toNat < 128
/-- They are put back just if the last one isn't 0, or stands alone. -/
theorem put_val : ∀ (l : List UInt8) (b : UInt8), Ends l b → ∀ f, l.length ≤ f → (l = [] ∨ b.toNat ≠ 0) → putF (f + 1) (val (l ++ [b])) = l ++ [b]
  | [], b, h, f, _, _ => by
    have h2 : val [b] = b.toNat := by simp [val, Nat.mod_eq_of_lt h.2]
    have h3 : b.toNat < 128 := h.2
    have h4 := u8_low b h3
    rw [Nat.mod_eq_of_lt h3] at h4
    simp [putF, h2, h3, h4]
  | a :: l, b, h, f, hf, hb => by
    have hb : b.toNat ≠ 0 := by simpa using hb
    have h' : Ends l b := ⟨fun x hx => h.1 x (by simp [hx]), h.2⟩
    obtain ⟨f, rfl⟩ : ∃ g, f = g + 1 := ⟨f - 1, by simp at hf; omega⟩
    have ih := put_val l b h' f (by simp at hf; omega) (.inr hb)
    have hpos : 1 ≤ val (l ++ [b]) := by
      rw [val_snoc, Nat.mod_eq_of_lt h.2]
      have : 1 ≤ b.toNat * 128 ^ l.length := Nat.mul_pos (by omega) (Nat.pow_pos (by decide))
      omega
    have ha := h.1 a (by simp)
    rw [List.cons_append, val, putF, if_neg (by omega)]
    have e1 : (a.toNat % 128 + 128 * val (l ++ [b])) % 128 = a.toNat % 128 := by omega
    have e2 : (a.toNat % 128 + 128 * val (l ++ [b])) / 128 = val (l ++ [b]) := by omega
    rw [e1, e2, ih, u8_mod a ha]
theorem putF_len : ∀ (f u : Nat), (putF f u).length ≤ f
  | 0, _ => by simp [putF]
  | f + 1, u => by
    rw [putF]; split
    · simp
    · simp; exact putF_len f _
/-- A text whose last byte is 0 and not the only one is put by no number. -/
theorem putF_last : ∀ (f u : Nat), u < 128 ^ f → ∀ l : List UInt8, l ≠ [] → putF f u ≠ l ++ [0]
  | 0, u, _, l, hl => by simp [putF]
  | f + 1, u, hu, l, hl => by
    rw [putF]
    split
    · intro h
      have := congrArg List.length h
      simp at this
      exact hl this
    · rename_i h128
      intro h
      cases l with
      | nil => exact hl rfl
      | cons a l =>
        rw [List.cons_append, List.cons.injEq] at h
        cases l with
        | nil =>
          have h0 : 1 ≤ u / 128 := by omega
          cases f with
          | zero => simp [putF] at h
          | succ f =>
            rw [putF] at h
            split at h
            · rename_i hlt
              have h2 := h.2
              simp only [List.nil_append, List.cons.injEq, and_true] at h2
              have := congrArg UInt8.toNat h2
              rw [UInt8.toNat_ofNat', Nat.mod_eq_of_lt (by omega)] at this
              simp at this
              omega
            · have h2 := congrArg List.length h.2
              simp only [List.length_cons, List.nil_append, List.length_nil] at h2
              cases f with
              | zero => rw [Nat.pow_succ, Nat.pow_one] at hu; omega
              | succ f =>
                rw [putF] at h2
                split at h2 <;> simp at h2
        | cons c l => exact putF_last f (u / 128) (by rw [Nat.div_lt_iff_lt_mul (by decide)]; rwa [Nat.pow_succ] at hu) (c :: l) (by simp) h.2
end Go.Proofs.YtcdkpeikjnpmhabGreat
