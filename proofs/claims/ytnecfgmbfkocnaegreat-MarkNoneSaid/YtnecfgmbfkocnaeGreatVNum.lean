/-
  NUMBERS AS BYTES, as plain functions of lists. No program is named here.
-/
import Derived.Test.YtnecfgmbfkocnaeGreatSl
import Derived.Lib.VarintBits
import Derived.Laws.BitsAllLaws
import Derived.Laws.BytesString
import Derived.Laws.Concat
namespace Go.Proofs.YtnecfgmbfkocnaeGreat
open Go.RowKit

def putF : Nat → Nat → List UInt8
  | 0, _ => []
  | f + 1, u => if u < 128 then [UInt8.ofNat u] else UInt8.ofNat (128 + u % 128) :: putF f (u / 128)
theorem putF_more : ∀ (f u g : Nat), u < 128 ^ (f + 1) → f ≤ g → putF (g + 1) u = putF (f + 1) u
  | 0, u, g, h, _ => by
    have : u < 128 := by simpa using h
    simp [putF, this]
  | f + 1, u, g, h, hg => by
    obtain ⟨g, rfl⟩ : ∃ g', g = g' + 1 := ⟨g - 1, by omega⟩
    by_cases hu : u < 128
    · simp [putF, hu]
    · have e : ∀ n v, putF (n + 1) v = if v < 128 then [UInt8.ofNat v] else UInt8.ofNat (128 + v % 128) :: putF n (v / 128) := fun _ _ => rfl
      rw [e (g + 1), if_neg hu, e (f + 1), if_neg hu, putF_more f (u / 128) g (by rw [Nat.div_lt_iff_lt_mul (by decide)]; rwa [Nat.pow_succ] at h) (by omega)]
def put (u : Nat) : List UInt8 := putF 11 u

/-- What some bytes come to, the lowest first. -/
def val : List UInt8 → Nat
  | [] => 0
  | b :: r => b.toNat % 128 + 128 * val r
theorem val_snoc : ∀ (l : List UInt8) (b : UInt8), val (l ++ [b]) = val l + b.toNat % 128 * 128 ^ l.length
  | [], b => by simp [val]
  | a :: l, b => by
    rw [List.cons_append, val, val, val_snoc l b, List.length_cons, Nat.pow_succ, Nat.mul_add]
    have : 128 * (b.toNat % 128 * 128 ^ l.length) = b.toNat % 128 * (128 ^ l.length * 128) := by ac_rfl
    omega
theorem val_lt : ∀ l : List UInt8, val l < 128 ^ l.length
  | [] => by simp [val]
  | b :: l => by
    have := val_lt l
    rw [val, List.length_cons, Nat.pow_succ]
    have h := Nat.mod_lt b.toNat (show 0 < 128 by decide)
    omega

theorem u8_mod (b : UInt8) (h : 128 ≤ b.toNat) : UInt8.ofNat (128 + b.toNat % 128) = b := by
  have h2 := b.toNat_lt
  apply UInt8.toNat_inj.1
  rw [UInt8.toNat_ofNat']
  have : 128 + b.toNat % 128 = b.toNat := by omega
  rw [this]
  exact Nat.mod_eq_of_lt h2
theorem u8_low (b : UInt8) (h : b.toNat < 128) : UInt8.ofNat (b.toNat % 128) = b := by
  apply UInt8.toNat_inj.1
  rw [UInt8.toNat_ofNat', Nat.mod_eq_of_lt h]
  exact Nat.mod_eq_of_lt b.toNat_lt

/-- Bytes of which all but the last say that more come, and the last says that none does. -/
def Ends (l : List UInt8) (b : UInt8) : Prop := (∀ x ∈ l, 128 ≤ x.toNat) ∧ b.toNat < 128
/-- They are put back just if the last one isn't 0, or stands alone. -/
theorem put_val : ∀ (l : List UInt8) (b : UInt8), Ends l b → ∀ f, l.length ≤ f → (l = [] ∨ b.toNat ≠ 0) → putF (f + 1) (val (l ++ [b])) = l ++ [b]
  | [], b, h, f, _, _ => by
    have h2 : val [b] = b.toNat := by simp [val, Nat.mod_eq_of_lt h.2]
    have h3 : b.toNat < 128 := h.2
    have h4 := u8_low b h3
    rw [Nat.mod_eq_of_lt h3] at h4
    simp [putF, h2, h3, h4]
  | a :: l, b, h, f, hf, hb => by
    have hb : b.toNat ≠ 0 := by simpa using hb
    have h' : Ends l b := ⟨fun x hx => h.1 x (by simp [hx]), h.2⟩
    obtain ⟨f, rfl⟩ : ∃ g, f = g + 1 := ⟨f - 1, by simp at hf; omega⟩
    have ih := put_val l b h' f (by simp at hf; omega) (.inr hb)
    have hpos : 1 ≤ val (l ++ [b]) := by
      rw [val_snoc, Nat.mod_eq_of_lt h.2]
      have : 1 ≤ b.toNat * 128 ^ l.length := Nat.mul_pos (by omega) (Nat.pow_pos (by decide))
      omega
    have ha := h.1 a (by simp)
    rw [List.cons_append, val, putF, if_neg (by omega)]
    have e1 : (a.toNat % 128 + 128 * val (l ++ [b])) % 128 = a.toNat % 128 := by omega
    have e2 : (a.toNat % 128 + 128 * val (l ++ [b])) / 128 = val (l ++ [b]) := by omega
    rw [e1, e2, ih, u8_mod a ha]
theorem putF_len : ∀ (f u : Nat), (putF f u).length ≤ f
  | 0, _ => by simp [putF]
  | f + 1, u => by
    rw [putF]; split
    · simp
    · simp; exact putF_len f _
/-- A text whose last byte is 0 and not the only one is put by no number. -/
theorem putF_last : ∀ (f u : Nat), u < 128 ^ f → ∀ l : List UInt8, l ≠ [] → putF f u ≠ l ++ [0]
  | 0, u, _, l, hl => by simp [putF]
  | f + 1, u, hu, l, hl => by
    rw [putF]
    split
    · intro h
      have := congrArg List.length h
      simp at this
      exact hl this
    · rename_i h128
      intro h
      cases l with
      | nil => exact hl rfl
      | cons a l =>
        rw [List.cons_append, List.cons.injEq] at h
        cases l with
        | nil =>
          have h0 : 1 ≤ u / 128 := by omega
          cases f with
          | zero => simp [putF] at h
          | succ f =>
            rw [putF] at h
            split at h
            · rename_i hlt
              have h2 := h.2
              simp only [List.nil_append, List.cons.injEq, and_true] at h2
              have := congrArg UInt8.toNat h2
              rw [UInt8.toNat_ofNat', Nat.mod_eq_of_lt (by omega)] at this
              simp at this
              omega
            · have h2 := congrArg List.length h.2
              simp only [List.length_cons, List.nil_append, List.length_nil] at h2
              cases f with
              | zero => rw [Nat.pow_succ, Nat.pow_one] at hu; omega
              | succ f =>
                rw [putF] at h2
                split at h2 <;> simp at h2
        | cons c l => exact putF_last f (u / 128) (by rw [Nat.div_lt_iff_lt_mul (by decide)]; rwa [Nat.pow_succ] at hu) (c :: l) (by simp) h.2
end Go.Proofs.YtnecfgmbfkocnaeGreat
/-
  THE NUMBER WITH WHICH A TEXT BEGINS: Get, the program's and the reference's, by one contract.
-/
namespace Go.Proofs.YtnecfgmbfkocnaeGreat
open Go.ChangeShapes Go.WideShapes Go.ChangeAt Go.RowKit

def gt (L : List UInt8) : Nat → Nat → Nat × Nat × Nat
  | 0, _ => (0, 0, 7)
  | f + 1, i => if i < L.length ∧ i < 10 then
      if i = 9 ∧ 1 < (L.getD i 0).toNat then (0, 0, 2)
      else if 128 ≤ (L.getD i 0).toNat then gt L f (i + 1)
      else if (L.getD i 0).toNat = 0 ∧ 0 < i then (0, 0, 2)
      else (val (L.take (i + 1)), i + 1, 0)
    else (0, 0, 7)
def getS (L : List UInt8) : Nat × Nat × Nat := gt L 11 0
def getAt (L : List UInt8) (k : Nat) : Nat × Nat × Nat := gt L (11 - k) k
theorem getAt_eq (L : List UInt8) {k : Nat} (hk : k ≤ 10) : getAt L k = if k < L.length ∧ k < 10 then
      if k = 9 ∧ 1 < (L.getD k 0).toNat then (0, 0, 2)
      else if 128 ≤ (L.getD k 0).toNat then getAt L (k + 1)
      else if (L.getD k 0).toNat = 0 ∧ 0 < k then (0, 0, 2)
      else (val (L.take (k + 1)), k + 1, 0)
    else (0, 0, 7) := by
  unfold getAt
  rw [show 11 - k = (11 - (k + 1)) + 1 by omega, gt]
def tupR (r : Nat × Nat × Nat) : Value := .tuple #[.int .u64 (r.1 : Nat), .int .i64 (r.2.1 : Nat), .int .i64 (r.2.2 : Nat)]
theorem take_snocU (L : List UInt8) (k : Nat) (hk : k < L.length) : L.take (k + 1) = L.take k ++ [L.getD k 0] := by
  rw [List.take_add_one, List.getElem?_eq_getElem hk]; simp [List.getD, hk]
theorem pow_128 (k : Nat) : (2 : Int) ^ (7 * k) = ((128 ^ k : Nat) : Int) := by
  rw [Int.pow_mul]; push_cast; rfl
theorem or_add (k : Nat) (u d : Nat) (hu : u < 128 ^ k) (hd : u + d * 128 ^ k < 18446744073709551616) :
    bits .or .u64 (u : Int) ((d * 128 ^ k : Nat) : Int) = ((u + d * 128 ^ k : Nat) : Int) := by
  rw [u64_or_nat u (d * 128 ^ k) (by omega) (by omega), Nat.or_comm]
  have e : 128 ^ k = 2 ^ (7 * k) := by rw [Nat.pow_mul]
  rw [nat_join (7 * k) (d * 128 ^ k) u (by rw [e]; exact Nat.mul_mod_left _ _) (by rw [← e]; exact hu), Nat.add_comm]

theorem or_step {k b u v : Nat} (hk : k ≤ 9) (hb : k = 9 → b ≤ 1) (hu : u < 128 ^ k) (hv : v = u + b % 128 * 128 ^ k) :
    bits .or .u64 (u : Int) (IntKind.u64.wrap ((b : Int) % 128 * 2 ^ (7 * k))) = (v : Int) ∧ v < 18446744073709551616 := by
  have hd := Nat.mod_lt b (show 0 < 128 by decide)
  have hbound : u + b % 128 * 128 ^ k < 18446744073709551616 := by
    by_cases h9 : k = 9
    · have := hb h9
      subst h9
      have e : (128 : Nat) ^ 9 = 9223372036854775808 := by decide
      rw [e] at hu ⊢
      omega
    · have h8 : 128 ^ k ≤ 72057594037927936 := Nat.le_trans (Nat.pow_le_pow_right (by decide) (show k ≤ 8 by omega)) (by decide)
      have h1 : b % 128 * 128 ^ k ≤ 127 * 128 ^ k := Nat.mul_le_mul_right _ (by omega)
      omega
  have e1 : ((b : Int) % 128 * 2 ^ (7 * k)) = ((b % 128 * 128 ^ k : Nat) : Int) := by rw [pow_128]; push_cast; rfl
  have e2 : IntKind.u64.wrap ((b % 128 * 128 ^ k : Nat) : Int) = ((b % 128 * 128 ^ k : Nat) : Int) := by rw [IntKind.wrap_u64]; omega
  rw [e1, e2, or_add k u (b % 128) hu hbound, hv]
  exact ⟨rfl, hbound⟩
theorem getAt_ways (s : ByteArray) {k : Nat} (hk : k < 10) (hs : k < s.size) :
    (k = 9 ∧ 1 < s[k].toNat → getAt s.data.toList k = (0, 0, 2)) ∧
    (¬ (k = 9 ∧ 1 < s[k].toNat) → 128 ≤ s[k].toNat → getAt s.data.toList k = getAt s.data.toList (k + 1)) ∧
    (¬ (k = 9 ∧ 1 < s[k].toNat) → s[k].toNat < 128 → s[k].toNat = 0 → 0 < k → getAt s.data.toList k = (0, 0, 2)) ∧
    (¬ (k = 9 ∧ 1 < s[k].toNat) → s[k].toNat < 128 → (s[k].toNat ≠ 0 ∨ k = 0) → getAt s.data.toList k = (val (s.data.toList.take (k + 1)), k + 1, 0)) := by
  have hl : k < s.data.toList.length := by simpa using hs
  have hd : s.data.toList.getD k 0 = s[k] := by
    rw [List.getD_eq_getElem?_getD, List.getElem?_eq_getElem hl]; rfl
  have h := getAt_eq s.data.toList (k := k) (by omega)
  rw [if_pos ⟨hl, hk⟩, hd] at h
  rw [h]
  refine ⟨fun h1 => by rw [if_pos h1], fun h1 h2 => by rw [if_neg h1, if_pos h2], fun h1 h2 h3 h4 => by rw [if_neg h1, if_neg (by omega), if_pos ⟨h3, h4⟩], fun h1 h2 h3 => by rw [if_neg h1, if_neg (by omega), if_neg (by omega)]⟩
theorem getAt_end (L : List UInt8) {k : Nat} (hk : k ≤ 10) (h : ¬ (k < L.length ∧ k < 10)) : getAt L k = (0, 0, 7) := by rw [getAt_eq L hk, if_neg h]
theorem take_at (s : ByteArray) {k : Nat} (hs : k < s.size) : s.data.toList.take (k + 1) = s.data.toList.take k ++ [s[k]] := by
  have hl : k < s.data.toList.length := by simpa using hs
  rw [take_snocU _ k hl, List.getD_eq_getElem?_getD, List.getElem?_eq_getElem hl]; rfl

set_option maxHeartbeats 800000 in
set_option maxRecDepth 100000 in
theorem get_c (s : ByteArray) (w : World) (hs : s.size ≤ 9223372036854775807) :
    Calls Tryz.prog 34 #[.string s] w fun e w' => e = .returned (tupR (getS s.data.toList)) ∧ w' = w := by
  have hR0 : Hid (getS s.data.toList = getAt s.data.toList 0) := rfl
  generalize getS s.data.toList = R at *
  go_enter Tryz.func34, Tryz.ntmps34
  go_wp2
  all_goals
    go_loop [5, 11] (fun u i => ∃ k : Nat, k ≤ 10 ∧ k ≤ s.size ∧ i = .int .i64 k ∧ u = .int .u64 (val (s.data.toList.take k) : Nat) ∧ Hid ((∀ x ∈ s.data.toList.take k, 128 ≤ x.toNat) ∧ R = getAt s.data.toList k))
      (fun _ i => 10 - (intOf i).toNat)
    case atStart => exact ⟨0, by omega, by omega, rfl, rfl, ⟨fun x hx => by simp at hx, hR0.out⟩⟩
    case round =>
      obtain ⟨k, hk, hks0, rfl, rfl, hH⟩ := hrel
      by_cases hlt : k < 10 ∧ k < s.size
      · obtain ⟨hk1, hk2⟩ := hlt
        have hw := getAt_ways s hk1 hk2
        have ht := take_at s hk2
        have hv := val_snoc (s.data.toList.take k) s[k]
        have hlen : (s.data.toList.take k).length = k := by rw [List.length_take]; simp; omega
        have hvl := val_lt (s.data.toList.take k)
        rw [← ht, hlen] at hv
        rw [hlen] at hvl
        have hb := s[k].toNat_lt
        have hp9 : 128 ^ k ≤ 9223372036854775808 := Nat.le_trans (Nat.pow_le_pow_right (by decide) (show k ≤ 9 by omega)) (by decide)
        have hnew : Hid ((∀ x ∈ s.data.toList.take k, 128 ≤ x.toNat) → 128 ≤ s[k].toNat → ∀ x ∈ s.data.toList.take (k + 1), 128 ≤ x.toNat) := fun h1 h2 x hx => by
          rw [ht] at hx
          rcases List.mem_append.1 hx with h | h
          · exact h1 x h
          · rw [List.mem_singleton.1 h]; exact h2
        have hA : bits .and .u8 (s[k].toNat : Int) 127 = (s[k].toNat : Int) % 128 := u8_and127 _ (by omega) (by omega)
        clear ht
        by_cases hc9 : k = 9 ∧ 1 < s[k].toNat
        · have hR : R = (0, 0, 2) := by rw [hH.out.2]; exact hw.1 hc9
          obtain ⟨rfl, h1⟩ := hc9
          have h1' : (1 : Int) < s[9].toNat := by omega
          clear hH hR0 hw hnew
          subst hR
          go_wp2
          go_ret3
          exact ⟨rfl, rfl⟩
        · have hst := or_step (k := k) (b := s[k].toNat) (by omega) (by omega) hvl hv
          have hO := hst.1
          by_cases hb8 : 128 ≤ s[k].toNat
          · have hk9 : k ≠ 9 := by omega
            have hb8' : (128 : Int) ≤ s[k].toNat := by omega
            have hH2 : Hid ((∀ x ∈ s.data.toList.take (k + 1), 128 ≤ x.toNat) ∧ R = getAt s.data.toList (k + 1)) := ⟨hnew.out hH.out.1 hb8, by rw [hH.out.2]; exact hw.2.1 hc9 hb8⟩
            clear hc9 hw hR0 hst hH hnew hv hvl hp9
            go_wp2
            go_round
            case rel => exact ⟨k + 1, by omega, by omega, by go_num, by first | rfl | rw [hO], hH2⟩
            case measure => simp [intOf]; omega
          · by_cases h0 : s[k].toNat = 0 ∧ 0 < k
            · have hR : R = (0, 0, 2) := by rw [hH.out.2]; exact hw.2.2.1 hc9 (by omega) h0.1 h0.2
              obtain ⟨h01, h02⟩ := h0
              have h01' : (s[k].toNat : Int) = 0 := by omega
              clear hH hR0 hw hnew hst hv hvl hp9 hc9 h01
              subst hR
              go_wp2
              all_goals go_ret3
              all_goals exact ⟨rfl, rfl⟩
            · have hR : R = (val (s.data.toList.take (k + 1)), k + 1, 0) := by rw [hH.out.2]; exact hw.2.2.2 hc9 (by omega) (by omega)
              clear hH hR0 hw hnew hst hv hvl hp9
              subst hR
              by_cases hk0 : k = 0
              · have hk1' : (k : Int) ≤ 0 := by omega
                clear hc9 h0 hk0
                go_wp2
                all_goals go_ret3
                all_goals exact ⟨by first | rfl | (rw [hO]; rfl), rfl⟩
              · have hbn : ¬ (s[k].toNat : Int) = 0 := by omega
                by_cases hk9 : k = 9
                · subst hk9
                  have hb1 : ¬ (1 : Int) < s[9].toNat := by omega
                  have hw9 : IntKind.u64.wrap ((s[9].toNat : Int) % 128 * 2 ^ (7 * 9)) = (s[9].toNat : Int) % 128 * 9223372036854775808 := by
                    have e : (2 : Int) ^ (7 * 9) = 9223372036854775808 := by decide
                    rw [e, IntKind.wrap_u64]; omega
                  rw [hw9] at hO
                  clear hc9 h0 hw9
                  go_wp2
                  all_goals go_ret3
                  all_goals exact ⟨by first | rfl | (rw [hO]; rfl), rfl⟩
                · clear hc9 h0
                  go_wp2
                  all_goals go_ret3
                  all_goals exact ⟨by first | rfl | (rw [hO]; rfl), rfl⟩
      · have hR : R = (0, 0, 7) := by rw [hH.out.2]; exact getAt_end _ hk (by simp; omega)
        clear hH hR0
        subst hR
        by_cases h1 : k < 10
        · have h2 : s.size ≤ k := by omega
          clear hlt
          go_wp2
          all_goals go_ret3
          all_goals exact ⟨rfl, rfl⟩
        · clear hlt
          go_wp2
          all_goals go_ret3
          all_goals exact ⟨rfl, rfl⟩
end Go.Proofs.YtnecfgmbfkocnaeGreat
/-
  A NUMBER's BYTES: Put, the reference's and the program's, by contract.
-/
namespace Go.Proofs.YtnecfgmbfkocnaeGreat
open Go.ChangeShapes Go.WideShapes Go.ChangeAt Go.RowKit

def str (l : List UInt8) : Value := .string ⟨l.toArray⟩
theorem str_append (a b : List UInt8) : (⟨a.toArray⟩ : ByteArray) ++ (⟨b.toArray⟩ : ByteArray) = ⟨(a ++ b).toArray⟩ := by
  apply ByteArray.ext
  simp

theorem add_str (a b : List UInt8) (W : World) (h : a.length + b.length ≤ 9223372036854775807) :
    (binOp .add 9 (str a) (str b)).run Tryz.prog W = .ok (str (a ++ b)) W := by
  have e := run_string_add_sum (P := Tryz.prog) W ⟨a.toArray⟩ ⟨b.toArray⟩ (by simpa [ByteArray.size] using h)
  rw [ByteArray.mk_append_mk] at e
  unfold str
  simp [binOp, e]
theorem conv_cell (W : World) (b x : Nat) (h : W.cell? ⟨b, 0, none⟩ = some (.int .u8 (x : Int))) :
    (convert 86 9 (.slice (some ⟨b, 0, none⟩) 1 1)).run Tryz.prog W = .ok (str [UInt8.ofNat x]) W := by
  rw [run_convert_bytes_string (P := Tryz.prog) _ 86 9 5 _ _ _ Tryz.underlying86 Tryz.underlying5 Tryz.underlying9]
  rw [run_bytesToString (P := Tryz.prog) W ⟨b, 0, none⟩ 1 1 [(x : Int)] (by
    have h := run_loadCells (P := Tryz.prog) W ⟨b, 0, none⟩ 1 (fun _ => .int .u8 (x : Int)) (fun j hj => by
      obtain rfl : j = 0 := by omega
      simpa [Addr.add] using h)
    simpa using h)]
  rfl
theorem cell_new (W : World) (x : Value) (t : TypeId) : (W.alloc (.cells #[x] t)).cell? ⟨W.heap.size, 0, none⟩ = some x := by
  exact cell_one_new W x t 0 x rfl
theorem conv_one (W : World) (x : Nat) :
    (convert 86 9 (.slice (some ⟨W.heap.size, 0, none⟩) 1 1)).run Tryz.prog (W.alloc (.cells #[.int .u8 (x : Int)] 5)) = .ok (str [UInt8.ofNat x]) (W.alloc (.cells #[.int .u8 (x : Int)] 5)) :=
  conv_cell _ _ _ (cell_new _ _ _)

end Go.Proofs.YtnecfgmbfkocnaeGreat
/-
  THE PROGRAM's Put: all numbers' bytes, one behind the other, by its contract.
-/
namespace Go.Proofs.YtnecfgmbfkocnaeGreat
open Go.ChangeShapes Go.WideShapes Go.ChangeAt Go.RowKit

def u8v (c : UInt8) : Value := .int .u8 (c.toNat : Int)
def bts (us : List Nat) : List UInt8 := us.flatMap put
theorem bts_snoc (us : List Nat) (u : Nat) : bts (us ++ [u]) = bts us ++ put u := by simp [bts]
theorem infoU8 : (Tryz.prog.info? 5).map (fun i => (i.zero, i.size, i.bytes)) = some (some (.int .u8 0), 1, 1) := by kernel_rfl

theorem or128 : ∀ n : Fin 256, bits .or .u8 (n.val : Int) 128 = ((128 + n.val % 128 : Nat) : Int) := by decide +kernel
theorem high (u : Nat) : bits .or .u8 ((u : Int) % 256) 128 = ((UInt8.ofNat (128 + u % 128)).toNat : Int) := by
  have e : (u : Int) % 256 = ((u % 256 : Nat) : Int) := by omega
  have h : bits .or .u8 ((u % 256 : Nat) : Int) 128 = ((128 + u % 256 % 128 : Nat) : Int) := or128 ⟨u % 256, by omega⟩
  have h2 : u % 256 % 128 = u % 128 := by omega
  have h3 : 128 + u % 128 < 256 := by omega
  rw [e, h, UInt8.toNat_ofNat', h2, Nat.mod_eq_of_lt h3]
theorem low (u : Nat) (h : u < 128) : IntKind.u8.wrap (u : Int) = ((UInt8.ofNat u).toNat : Int) := by
  rw [IntKind.wrap_u8, UInt8.toNat_ofNat', Nat.mod_eq_of_lt (by omega)]; omega

theorem pushes : ∀ (acc : List UInt8) (r : ByteArray), (acc.map fun c => (c.toNat : Int)).foldl (fun r n => r.push (UInt8.ofNat n.toNat)) r = ⟨(r.data.toList ++ acc).toArray⟩
  | [], r => by simp
  | c :: acc, r => by
    rw [List.map_cons, List.foldl_cons, pushes acc]
    congr 1
    simp [ByteArray.push]
theorem conv_row (W : World) (base : Nat) (v : Value) (acc : List UInt8) (h : W.ownsRow base 5 1 v acc.length (acc.map u8v)) :
    (convert 86 9 v).run Tryz.prog W = .ok (str acc) W := by
  rcases h.2 with ⟨rfl, h0⟩ | ⟨g, cap, cur, rfl, hb, hg, hn, hm, hs, ht⟩
  · obtain rfl : acc = [] := List.eq_nil_of_length_eq_zero h0
    rw [run_convert_bytes_string (P := Tryz.prog) _ 86 9 5 _ _ _ Tryz.underlying86 Tryz.underlying5 Tryz.underlying9]
    rfl
  · rw [run_convert_bytes_string (P := Tryz.prog) _ 86 9 5 _ _ _ Tryz.underlying86 Tryz.underlying5 Tryz.underlying9]
    have hc : ∀ j, j < acc.length → W.cell? ((⟨g, 0, none⟩ : Addr).add j) = some (Value.int .u8 ((acc.getD j 0).toNat : Int)) := fun j hj => by
      have h1 := h.cellAt j (by omega)
      have h2 : (⟨g, 0, none⟩ : Addr).add j = ⟨g, j, none⟩ := by
        by_cases h0 : j = 0
        · subst h0; simp [Addr.add]
        · simp [Addr.add, h0]
      rw [h2, h1]
      simp [u8v, List.getD, hj]
    rw [run_bytesToString (P := Tryz.prog) W ⟨g, 0, none⟩ acc.length cap (acc.map fun c => (c.toNat : Int)) (by
      rw [run_loadCells (P := Tryz.prog) W ⟨g, 0, none⟩ acc.length _ hc]
      congr 1
      apply Array.ext'
      apply List.ext_getElem?
      intro j
      by_cases hj : j < acc.length
      · simp [hj]
      · simp [hj])]
    rw [pushes]
    rfl

set_option maxHeartbeats 1600000 in
set_option maxRecDepth 1000000 in
theorem put_c (v : Value) (us : List Nat) (w : World) (hv : Holds w v (us.map fun (u : Nat) => Value.int .u64 (u : Int))) (hz : us.length ≤ 1000) (hus : ∀ u ∈ us, u < 18446744073709551616) :
    Calls Tryz.prog 16 #[v] w fun e w' => e = .returned (str (bts us)) ∧ Below w.heap.size w w' := by
  obtain ⟨a, cap, rfl, hrow⟩ := hv
  rw [List.length_map]
  obtain ⟨i0, hi, hz0, hz1, hz2⟩ := info_parts infoU8
  go_enter Tryz.func16, Tryz.ntmps16
  go_wp2
  go_loopw [3, 8] (fun b i wr => ∃ j : Nat, j ≤ us.length ∧ i = .int .i64 j ∧ wr.ownsRow w.heap.size 5 1 b (bts (us.take j)).length ((bts (us.take j)).map u8v) ∧ Hid ((bts (us.take j)).length ≤ 11 * j) ∧ Below w.heap.size w wr)
    (fun _ i _ => us.length - (intOf i).toNat)
  case atStart => exact ⟨0, Nat.zero_le _, rfl, World.ownsRow_nil _ _ _ _, Nat.le_refl _, Below.refl _ _⟩
  case round =>
    obtain ⟨j, hj, rfl, hown, hlen, hnx⟩ := hrel
    by_cases hlt : j < us.length
    · rcases hrow with h0 | ⟨b, off, rfl, hb, hc⟩
      · simp only [List.map_eq_nil_iff] at h0; subst h0; simp at hlt
      have hcx : wr.cell? ⟨b, off + j, none⟩ = some (.int .u64 ((us.getD j 0 : Nat) : Int)) := (hnx.cell (by exact hb)).trans (hc j _ (by simp [hlt]))
      have hu := hus (us.getD j 0) (by simp [List.getD, hlt])
      have htk : us.take (j + 1) = us.take j ++ [us.getD j 0] := by rw [List.take_add_one, List.getElem?_eq_getElem hlt]; simp [List.getD, hlt]
      have hT : Hid (bts (us.take (j + 1)) = bts (us.take j) ++ put (us.getD j 0)) := by rw [htk, bts_snoc]; rfl
      have hput : Hid ((put (us.getD j 0)).length ≤ 11) := putF_len 11 _
      clear hc htk
      generalize us.getD j 0 = u at *
      have hrel0 : ∃ f U : Nat, ∃ acc : List UInt8, (f ≤ 10 ∧ U < 128 ^ (f + 1)) ∧ U < 18446744073709551616 ∧ Hid (acc ++ putF (f + 1) U = bts (us.take (j + 1))) ∧ acc.length ≤ 11 * j + 11 ∧ u = U ∧ acc = bts (us.take j) :=
        ⟨10, u, _, ⟨by omega, Nat.lt_of_lt_of_le hu (by decide)⟩, hu, hT.out.symm, by have := hlen.out; omega, rfl, rfl⟩
      have hTot : Hid ((bts (us.take (j + 1))).length ≤ 11 * (j + 1)) := by
        show _ ≤ _
        have h1 := hlen.out
        have h2 := hput.out
        rw [hT.out, List.length_append]; omega
      clear hT hput
      go_wp2
      go_loopw [3, 5] (fun b uv wr2 => ∃ f U : Nat, ∃ acc : List UInt8, uv = .int .u64 (U : Int) ∧ U < 18446744073709551616 ∧ wr2.ownsRow w.heap.size 5 1 b acc.length (acc.map u8v) ∧ Hid (U < 128 ^ (f + 1) ∧ acc ++ putF (f + 1) U = bts (us.take (j + 1))) ∧ Below w.heap.size w wr2)
        (fun _ uv _ => (intOf uv).toNat)
      case atStart =>
        obtain ⟨f, U, acc, h1, h2, h3, h4, rfl, rfl⟩ := hrel0
        exact ⟨f, _, _, rfl, h2, hown, ⟨h1.2, h3.out⟩, hnx⟩
      case round =>
        obtain ⟨f, U, acc, rfl, hU, hown2, hH, hnx2⟩ := hrel
        have hal : acc.length ≤ 11 * j + 11 := by
          have h1 := congrArg List.length hH.out.2
          have h2 := hTot.out
          rw [List.length_append] at h1
          omega
        have hsz2 := hnx2.size
        clear hrel0 hcx hown hnx hu
        by_cases h128 : U < 128
        · have hU' : (U : Int) < 128 := by omega
          have hlo := low U h128
          have hT2 : Hid (bts (us.take (j + 1)) = acc ++ [UInt8.ofNat U]) := by
            show _ = _
            rw [← hH.out.2]
            have e : ∀ n v, putF (n + 1) v = if v < 128 then [UInt8.ofNat v] else UInt8.ofNat (128 + v % 128) :: putF n (v / 128) := fun _ _ => rfl
            rw [e, if_pos h128]
          have hcu : Hid (u8v (UInt8.ofNat U) = .int .u8 (U : Int)) := by
            show Value.int _ _ = _
            rw [← hlo, IntKind.wrap_u8]
            congr 1; omega
          clear hH hlo
          generalize UInt8.ofNat U = c at *
          go_wp2_with (at_builtin; refine wpList_append_own _ rfl _ _ 86 rfl w.heap.size 5 i0 (.int .u8 0) 1 1 Tryz.underlying86 hi hz0 hz1 hz2 rfl (by decide) _ _ _ rfl (hown2.alloc _) ⟨wr.heap.size, 0, none⟩ 1 1 [.int .u8 (U : Int)] rfl rfl (cell_one_new _ _ _) ?c2 ?c3 ?c4 ?c5 ?_)
          case c2 => intro x hx; simp at hx; subst hx; rfl
          case c3 => unfold maxLen; omega
          case c4 => omega
          case c5 => simp; omega
          · intro v' w1 hown' hgrow _
            have hB : Below w.heap.size w w1 := (hnx2.alloc (by omega) _).grown hgrow (by simp; omega) (fun j hj => by have := (hown2.lt j hj).1; omega)
            have hown3 : w1.ownsRow w.heap.size 5 1 v' (acc ++ [c]).length ((acc ++ [c]).map u8v) := by rw [List.map_append, List.map_singleton, hcu.out]; simpa using hown'
            clear hgrow hown2 hown' hnx2
            go_wp2
            go_roundw
            case rel => exact ⟨j + 1, by omega, by go_num, by rw [hT2.out]; exact hown3, hTot, hB⟩
            case measure => simp [intOf]; omega
        · have hU' : (128 : Int) ≤ U := by omega
          have hhi := high U
          have hf : ∃ g, f = g + 1 := by
            cases f with
            | zero => exact absurd hH.out.1 (by simp; omega)
            | succ g => exact ⟨g, rfl⟩
          obtain ⟨g, rfl⟩ := hf
          have hH2 : Hid (U / 128 < 128 ^ (g + 1) ∧ (acc ++ [UInt8.ofNat (128 + U % 128)]) ++ putF (g + 1) (U / 128) = bts (us.take (j + 1))) := by
            obtain ⟨h1, h2⟩ := hH.out
            refine ⟨by rw [Nat.div_lt_iff_lt_mul (by decide)]; rwa [Nat.pow_succ] at h1, ?_⟩
            rw [← h2, List.append_assoc]
            congr 1
            have e : ∀ n v, putF (n + 1) v = if v < 128 then [UInt8.ofNat v] else UInt8.ofNat (128 + v % 128) :: putF n (v / 128) := fun _ _ => rfl
            rw [e (g + 1), if_neg h128]; rfl
          clear hH
          generalize UInt8.ofNat (128 + U % 128) = c at *
          go_wp2_with (at_builtin; refine wpList_append_own _ rfl _ _ 86 rfl w.heap.size 5 i0 (.int .u8 0) 1 1 Tryz.underlying86 hi hz0 hz1 hz2 rfl (by decide) _ _ _ rfl (hown2.alloc _) ⟨wr.heap.size, 0, none⟩ 1 1 [.int .u8 (c.toNat : Int)] rfl rfl (cell_one_new _ _ _) ?c2 ?c3 ?c4 ?c5 ?_)
          case c2 => intro x hx; simp at hx; subst hx; rfl
          case c3 => unfold maxLen; omega
          case c4 => omega
          case c5 => simp; omega
          · intro v' w1 hown' hgrow _
            have hB : Below w.heap.size w w1 := (hnx2.alloc (by omega) _).grown hgrow (by simp; omega) (fun j hj => by have := (hown2.lt j hj).1; omega)
            have hown3 : w1.ownsRow w.heap.size 5 1 v' (acc ++ [c]).length ((acc ++ [c]).map u8v) := by
              have e : u8v c = .int .u8 (c.toNat : Int) := rfl
              rw [List.map_append, List.map_singleton, e]; simpa using hown'
            clear hgrow hown2 hown' hnx2 hhi hi hz0 hz1 hz2
            go_wp2
            go_roundw
            case rel => exact ⟨g, U / 128, _, by first | rfl | simp, by omega, hown3, hH2, hB⟩
            case measure => simp [intOf]; omega
    · obtain rfl : j = us.length := by omega
      rw [List.take_length] at hown
      have hcv := conv_row wr w.heap.size _ (bts us) hown
      go_wp2
      go_ret
      exact ⟨rfl, hnx⟩
end Go.Proofs.YtnecfgmbfkocnaeGreat
/-
  WHAT IS PUT IS GOT AGAIN: plain facts on lists.
-/
namespace Go.Proofs.YtnecfgmbfkocnaeGreat
open Go.RowKit

theorem put_parts : ∀ (f n : Nat), n < 128 ^ (f + 1) → ∃ l b, putF (f + 1) n = l ++ [b] ∧ Ends l b ∧ (l = [] ∨ b.toNat ≠ 0) ∧ val (l ++ [b]) = n ∧ l.length ≤ f
  | f, n, hn => by
    by_cases hs : n < 128
    · refine ⟨[], UInt8.ofNat n, by simp [putF, hs], ⟨fun x hx => by simp at hx, ?_⟩, .inl rfl, ?_, Nat.zero_le _⟩
      · rw [UInt8.toNat_ofNat', Nat.mod_eq_of_lt (by omega)]; exact hs
      · simp only [List.nil_append, val, UInt8.toNat_ofNat']; omega
    · obtain ⟨f, rfl⟩ : ∃ g, f = g + 1 := by
        cases f with
        | zero => simp at hn; omega
        | succ g => exact ⟨g, rfl⟩
      obtain ⟨l, b, h1, h2, h3, h4, h5⟩ := put_parts f (n / 128) (by rw [Nat.div_lt_iff_lt_mul (by decide)]; rwa [Nat.pow_succ] at hn)
      have e : putF (f + 1 + 1) n = UInt8.ofNat (128 + n % 128) :: putF (f + 1) (n / 128) := by rw [putF, if_neg hs]
      have ht : (UInt8.ofNat (128 + n % 128)).toNat = 128 + n % 128 := by rw [UInt8.toNat_ofNat', Nat.mod_eq_of_lt (by omega)]
      refine ⟨UInt8.ofNat (128 + n % 128) :: l, b, by rw [e, h1]; rfl, ⟨fun x hx => ?_, h2.2⟩, .inr ?_, ?_, by simp; omega⟩
      · rcases List.mem_cons.1 hx with rfl | hx
        · omega
        · exact h2.1 x hx
      · rcases h3 with rfl | h3
        · intro hb
          simp only [List.nil_append, val] at h4
          omega
        · exact h3
      · rw [List.cons_append, val, h4, ht]; omega

theorem get_skip (L : List UInt8) : ∀ k, k ≤ 9 → k ≤ L.length → (∀ j, j < k → 128 ≤ (L.getD j 0).toNat) → getS L = getAt L k
  | 0, _, _, _ => rfl
  | k + 1, hk, hl, h => by
    rw [get_skip L k (by omega) (by omega) fun j hj => h j (by omega), getAt_eq L (by omega), if_pos ⟨by omega, by omega⟩, if_neg (by omega), if_pos (h k (by omega))]

theorem get_put (n : Nat) (hn : n < 18446744073709551616) (rest : List UInt8) : getS (put n ++ rest) = (n, (put n).length, 0) := by
  obtain ⟨l, b, h1, h2, h3, h4, _⟩ := put_parts 10 n (Nat.lt_of_lt_of_le hn (by decide))
  have h1 : put n = l ++ [b] := h1
  have hv := val_snoc l b
  rw [h4, Nat.mod_eq_of_lt h2.2] at hv
  have hl9 : l.length ≤ 9 := by
    rcases h3 with rfl | h3
    · simp
    · refine Nat.le_of_not_lt fun h => ?_
      have : 128 ^ 10 ≤ 128 ^ l.length := Nat.pow_le_pow_right (by decide) h
      have h5 : 1 * 128 ^ l.length ≤ b.toNat * 128 ^ l.length := Nat.mul_le_mul_right _ (by omega)
      omega
  rw [h1]
  have hlen : (l ++ [b] ++ rest).length = l.length + 1 + rest.length := by simp; omega
  have hat : ∀ j, j < l.length → (l ++ [b] ++ rest).getD j 0 = l.getD j 0 := fun j hj => by
    simp only [List.getD_eq_getElem?_getD]
    rw [List.append_assoc, List.getElem?_append_left hj]
  have hb : (l ++ [b] ++ rest).getD l.length 0 = b := by
    simp [List.getD_eq_getElem?_getD, List.append_assoc]
  rw [get_skip _ l.length hl9 (by omega) fun j hj => by
    rw [hat j hj]
    have : l.getD j 0 = l[j] := by simp [List.getD, hj]
    rw [this]; exact h2.1 _ (List.getElem_mem hj)]
  rw [getAt_eq _ (by omega), if_pos ⟨by omega, by omega⟩, hb]
  have h9 : ¬ (l.length = 9 ∧ 1 < b.toNat) := fun ⟨h5, h6⟩ => by
    rw [h5] at hv
    have e : (128 : Nat) ^ 9 = 9223372036854775808 := by decide
    rw [e] at hv
    omega
  rw [if_neg h9, if_neg (by have := h2.2; omega), if_neg (by
    rintro ⟨h5, h6⟩
    rcases h3 with rfl | h3
    · simp at h6
    · exact h3 h5)]
  have ht : (l ++ [b] ++ rest).take (l.length + 1) = l ++ [b] := by
    have : (l ++ [b]).length = l.length + 1 := by simp
    rw [← this, List.take_left']
    rfl
  rw [ht, h4]
  simp
end Go.Proofs.YtnecfgmbfkocnaeGreat
/-
  TEXTS AS LISTS OF BYTES; and a cut text, by contract.
-/
namespace Go.Proofs.YtnecfgmbfkocnaeGreat
open Go.ChangeShapes Go.WideShapes Go.ChangeAt Go.RowKit

def bytesOf (l : List UInt8) : ByteArray := ⟨l.toArray⟩
theorem bytesOf_list (l : List UInt8) : (bytesOf l).data.toList = l := by simp [bytesOf]
theorem bytesOf_data (s : ByteArray) : bytesOf s.data.toList = s := by simp [bytesOf]
theorem bytesOf_append (a b : List UInt8) : bytesOf a ++ bytesOf b = bytesOf (a ++ b) := str_append a b
theorem bytesOf_size (l : List UInt8) : (bytesOf l).size = l.length := by simp [bytesOf, ByteArray.size]
def cutB (s : ByteArray) (m : Nat) : ByteArray := if m < s.size then s.extract 0 m else s
theorem cutB_size (s : ByteArray) (m : Nat) : (cutB s m).size ≤ m := by
  unfold cutB; split
  · simp; omega
  · omega

set_option maxHeartbeats 800000 in
theorem cut_c (s : ByteArray) (m : Nat) (w : World) (hm : m ≤ 1000) :
    Calls Tryz.prog 5 #[.string s, .int .i64 m] w fun e w' => e = .returned (.string (cutB s m)) ∧ w' = w := by
  unfold cutB
  by_cases h : m < s.size
  · rw [if_pos h]
    go_enter Tryz.func5, Tryz.ntmps5
    go_wp2
    go_ret
    exact ⟨rfl, rfl⟩
  · rw [if_neg h]
    go_enter Tryz.func5, Tryz.ntmps5
    go_wp2
    go_ret
    exact ⟨rfl, rfl⟩
end Go.Proofs.YtnecfgmbfkocnaeGreat
/-
  HOW GREAT what is got can be: plain facts on lists.
-/
namespace Go.Proofs.YtnecfgmbfkocnaeGreat
open Go.RowKit

theorem gt_bounds (L : List UInt8) : ∀ f i, f + i = 11 → (gt L f i).2.2 = 0 → (gt L f i).1 < 18446744073709551616 ∧ (gt L f i).2.1 ≤ L.length
  | 0, i, _, h => by simp [gt] at h
  | f + 1, i, hf, h => by
    rw [gt] at h ⊢
    split at h
    · rename_i h1
      rw [if_pos h1]
      split at h
      · cases h
      · rename_i h2
        rw [if_neg h2]
        split at h
        · rename_i h3
          rw [if_pos h3]
          exact gt_bounds L f (i + 1) (by omega) h
        · rename_i h3
          rw [if_neg h3]
          split at h
          · cases h
          · rename_i h4
            rw [if_neg h4]
            refine ⟨?_, h1.1⟩
            have ht := take_snocU L i h1.1
            have hv := val_snoc (L.take i) (L.getD i 0)
            have hl : (L.take i).length = i := by rw [List.length_take]; omega
            rw [← ht, hl] at hv
            exact (or_step (by omega) (by omega) (by have := val_lt (L.take i); rwa [hl] at this) hv).2
    · cases h
theorem getS_bounds (L : List UInt8) : (getS L).2.2 = 0 → (getS L).1 < 18446744073709551616 ∧ (getS L).2.1 ≤ L.length := gt_bounds L 11 0 rfl
theorem gt_zero (L : List UInt8) : ∀ f i, (gt L f i).2.2 ≠ 0 → (gt L f i).1 = 0
  | 0, i, _ => rfl
  | f + 1, i, h => by
    rw [gt] at h ⊢
    split at h
    · rename_i h1
      rw [if_pos h1]
      split at h
      · rename_i h2; rw [if_pos h2]
      · rename_i h2
        rw [if_neg h2]
        split at h
        · rename_i h3; rw [if_pos h3]; exact gt_zero L f (i + 1) h
        · rename_i h3
          rw [if_neg h3]
          split at h
          · rename_i h4; rw [if_pos h4]
          · exact absurd rfl h
    · rename_i h1; rw [if_neg h1]
theorem getS_num (L : List UInt8) : (getS L).1 < 18446744073709551616 := by
  by_cases h : (getS L).2.2 = 0
  · exact (getS_bounds L h).1
  · have e : (getS L).1 = 0 := gt_zero L 11 0 h
    omega
end Go.Proofs.YtnecfgmbfkocnaeGreat
/-
  NUMBERS AS BYTES: All, PutAll, by contract; that there is but one way to put them, and that they come back.
-/
namespace Go.Proofs.YtnecfgmbfkocnaeGreat
open Go.ChangeShapes Go.WideShapes Go.ChangeAt Go.RowKit

def u64v (u : Nat) : Value := .int .u64 (u : Int)
theorem infoU : (Tryz.prog.info? 23).map (fun i => (i.zero, i.size, i.bytes)) = some (some (.int .u64 0), 1, 8) := by kernel_rfl
theorem gt_pos (L : List UInt8) : ∀ f i, (gt L f i).2.2 = 0 → 1 ≤ (gt L f i).2.1
  | 0, i, h => by simp [gt] at h
  | f + 1, i, h => by
    rw [gt] at h ⊢
    split at h
    · rename_i h1
      rw [if_pos h1]
      split at h
      · cases h
      · rename_i h2
        rw [if_neg h2]
        split at h
        · rename_i h3; rw [if_pos h3]; exact gt_pos L f (i + 1) h
        · rename_i h3
          rw [if_neg h3]
          split at h
          · cases h
          · rename_i h4; rw [if_neg h4]; exact Nat.le_add_left _ _
    · cases h
theorem owns_below {w w' : World} {base : Nat} {e : TypeId} {size : Nat} {v : Value} {n : Nat} {xs : List Value} (h : w.ownsRow base e size v n xs) (hb : Below w.heap.size w w') : w'.ownsRow base e size v n xs := by
  refine ⟨h.1, ?_⟩
  rcases h.2 with h2 | ⟨g, cap, cur, h1, h2, h3, h4⟩
  · exact .inl h2
  · exact .inr ⟨g, cap, cur, h1, h2, (hb.block g (Array.getElem?_eq_some_iff.1 h3).1).trans h3, h4⟩
theorem slice_form {w : World} {base : Nat} {e : TypeId} {size : Nat} {v : Value} {n : Nat} {xs : List Value} (h : w.ownsRow base e size v n xs) : ∃ a c, v = .slice a n c := by
  rcases h.2 with ⟨h1, h2⟩ | ⟨g, c2, cur, h1, _⟩
  · exact ⟨none, 0, by rw [h1, h2]⟩
  · exact ⟨_, c2, h1⟩
theorem extract_from (l : List UInt8) (n : Nat) : (bytesOf l).extract n (bytesOf l).size = bytesOf (l.drop n) := by
  apply ByteArray.ext
  apply Array.ext'
  rw [ByteArray.data_extract, Array.toList_extract]
  simp only [bytesOf, List.extract]
  rw [show (ByteArray.mk l.toArray).size = l.length from by simp [ByteArray.size]]
  rw [List.take_of_length_le (by simp)]
theorem get_b (s : ByteArray) (w : World) (hs : s.size ≤ 9223372036854775807) :
    Calls Tryz.prog 34 #[.string s] w fun e w' => e = .returned (tupR (getS s.data.toList)) ∧ Below w.heap.size w w' :=
  (get_c s w hs).mono fun e w' h => ⟨h.1, by rw [h.2]; exact Below.refl _ _⟩
def fa (L : List UInt8) : Nat → List Nat → Nat → List Nat × Nat
  | 0, us, _ => (us, 0)
  | f + 1, us, A => if A < L.length then (if (getS (L.drop A)).2.2 ≠ 0 then ([], (getS (L.drop A)).2.2) else fa L f (us ++ [(getS (L.drop A)).1]) (A + (getS (L.drop A)).2.1)) else (us, 0)
def allS (L : List UInt8) : List Nat × Nat := fa L (L.length + 1) [] 0
theorem back_yes (L : List UInt8) {k : Nat} (c : UInt8) (hk : k ≤ 9) (hl : L.length = k) (ha : ∀ x ∈ L, 128 ≤ x.toNat) (hc : c.toNat < 128) (h : ¬ (c.toNat = 0 ∧ 0 < k)) : putF 11 (val (L ++ [c])) = L ++ [c] :=
  put_val L c ⟨ha, hc⟩ 10 (by omega) (by
    rcases Nat.eq_zero_or_pos k with h0 | h0
    · left; exact List.eq_nil_of_length_eq_zero (by omega)
    · right; omega)
theorem back_no (L : List UInt8) {k : Nat} (c : UInt8) (hk : k ≤ 9) (hl : L.length = k) (h : c.toNat = 0 ∧ 0 < k) : putF 11 (val (L ++ [c])) ≠ L ++ [c] := by
  have hc : c = 0 := UInt8.toNat_inj.1 (by simpa using h.1)
  subst hc
  refine putF_last 11 _ (Nat.lt_of_lt_of_le (val_lt _) (Nat.pow_le_pow_right (by decide) (by simp; omega))) L (fun e => by rw [e] at hl; simp at hl; omega)

set_option maxHeartbeats 500000 in
set_option maxRecDepth 1000000 in
theorem all_g (L : List UInt8) (w : World) (hL : L.length ≤ 1000) :
    Calls Tryz.prog 17 #[.string (bytesOf L)] w fun e w' => ∃ v', e = .returned (.tuple #[v', .int .i64 ((allS L).2 : Nat)]) ∧
      w'.ownsRow w.heap.size 23 1 v' (allS L).1.length ((allS L).1.map u64v) ∧ Below w.heap.size w w' := by
  have hSz : Hid ((bytesOf L).size = L.length) := bytesOf_size L
  have hext := extract_from L
  have hR0 : Hid (allS L = fa L (L.length + 1) [] 0) := rfl
  generalize allS L = R at *
  have hL0 : bytesOf L = bytesOf (L.drop 0) := by rw [List.drop_zero]
  rw [hL0]
  clear hL0 hSz hext
  obtain ⟨i0, hi, hz0, hz1, hz2⟩ := info_parts infoU
  go_enter Tryz.func17, Tryz.ntmps17
  go_wp2
  go_loopw [0, 4] (fun s l wr => ∃ A : Nat, ∃ us : List Nat, s = .string (bytesOf (L.drop A)) ∧ wr.ownsRow w.heap.size 23 1 l us.length (us.map u64v) ∧ Hid (∃ f, R = fa L f us A ∧ L.length + 1 ≤ f + A) ∧ us.length ≤ A ∧ A ≤ L.length ∧ Below w.heap.size w wr)
    (fun s _ _ => match s with | .string b => b.size | _ => 0)
  case atStart => exact ⟨0, [], rfl, World.ownsRow_nil _ _ _ _, ⟨_, hR0.out, Nat.le_refl _⟩, Nat.zero_le _, Nat.zero_le _, Below.refl _ _⟩
  case round =>
    obtain ⟨A, us, rfl, hown, hH, hle, hAL, hnx⟩ := hrel
    obtain ⟨a, c2, rfl⟩ := slice_form hown
    obtain ⟨f, hHf, hff⟩ := hH.out
    have hDz := bytesOf_size (L.drop A)
    rw [List.length_drop] at hDz
    by_cases hlt : A < L.length
    · have hgz : (bytesOf (L.drop A)).size ≤ 9223372036854775807 := by omega
      have hget := fun w => get_b (bytesOf (L.drop A)) w hgz
      rw [bytesOf_list] at hget
      have hbd := getS_bounds (L.drop A)
      have hps : (getS (L.drop A)).2.2 = 0 → 1 ≤ (getS (L.drop A)).2.1 := gt_pos (L.drop A) 11 0
      rw [List.length_drop] at hbd
      obtain ⟨g, rfl⟩ : ∃ g, f = g + 1 := ⟨f - 1, by omega⟩
      have hH2 : Hid (R = if (getS (L.drop A)).2.2 ≠ 0 then ([], (getS (L.drop A)).2.2) else fa L g (us ++ [(getS (L.drop A)).1]) (A + (getS (L.drop A)).2.1)) := by
        show _ = _
        rw [hHf, fa, if_pos hlt]
      have hxk := extract_from (L.drop A)
      have hDp : 0 < (bytesOf (L.drop A)).size := by omega
      have hDs : ∀ k, k ≤ L.length - A → k ≤ (bytesOf (L.drop A)).size := fun k hk => by omega
      have hDl : Hid ((bytesOf (L.drop A)).size = L.length - A) := hDz
      have hdd : ∀ k, (L.drop A).drop k = L.drop (A + k) := fun k => by rw [List.drop_drop]
      clear hgz hH hR0 hHf hDz
      generalize getS (L.drop A) = r at *
      obtain ⟨u, k, e⟩ := r
      have hxk := hxk k
      rw [hdd k] at hxk
      clear hdd
      unfold tupR at hget
      simp only at hget hbd hps
      have hsz := hnx.size
      by_cases he : e = 0
      · subst he
        obtain ⟨hu, hk⟩ := hbd rfl
        have hk1 := hps rfl
        have hk2 : A + k ≤ L.length := by omega
        have hks := hDs k hk
        have hm : Hid ((bytesOf (L.drop (A + k))).size < (bytesOf (L.drop A)).size) := by
          show _ < _
          rw [bytesOf_size, hDl.out, List.length_drop]; omega
        generalize bytesOf (L.drop A) = D at *
        have hH3 : Hid (∃ f, R = fa L f (us ++ [u]) (A + k) ∧ L.length + 1 ≤ f + (A + k)) := ⟨g, by rw [hH2.out, if_neg (by simp)], by omega⟩
        have hul : us.length ≤ 1000 := by omega
        clear hH2 hbd hps hk hDl hDs
        go_wp2_with (first
          | (go_at_call 34; refine (hget _).mono ?_; rintro e w' ⟨rfl, hB⟩; have hown2 := owns_below hown hB; have hnx2 := hnx.trans (hB.mono hnx.size); have hsz2 := hnx2.size)
          | (at_builtin; refine wpList_append_own _ rfl _ _ 50 rfl w.heap.size 23 i0 (.int .u64 0) 1 8 Tryz.underlying50 hi hz0 hz1 hz2 rfl (by decide) _ _ _ rfl (hown2.alloc _) ⟨w'.heap.size, 0, none⟩ 1 1 [.int .u64 (u : Int)] rfl rfl (cell_one_new _ _ _) ?c2 ?c3 ?c4 ?c5 ?_))
        case c2 => intro x hx; simp at hx; subst hx; rfl
        case c3 => unfold maxLen; omega
        case c4 => omega
        case c5 => simp; omega
        · intro v' w1 hown' hgrow _
          have hB1 : Below w.heap.size w w1 := (hnx2.alloc (by omega) _).grown hgrow (by simp; omega) (fun i hi => by have := (hown2.lt i hi).1; omega)
          have hl1 : (us ++ [u]).length = us.length + 1 := by simp
          have hown3 : w1.ownsRow w.heap.size 23 1 v' (us ++ [u]).length ((us ++ [u]).map u64v) := by rw [hl1, List.map_append]; exact hown'
          clear hgrow hown hown2 hown' hnx hnx2 hi hz0 hz1 hz2 hget hB
          go_wp2
          go_roundw
          case rel => exact ⟨A + k, us ++ [u], by first | rfl | rw [hxk], hown3, hH3, by rw [hl1]; omega, hk2, hB1⟩
          case measure => first | exact hm.out | (simp only [hxk]; exact hm.out)
      · have he' : ((e : Int) != 0) = true := by simp; omega
        have hR : R = ([], e) := by rw [hH2.out, if_pos he]
        clear hH2 hbd hps he hDl hDs hxk
        generalize bytesOf (L.drop A) = D at *
        subst hR
        go_wp2_with (go_at_call 34; refine (hget _).mono ?_; rintro e w' ⟨rfl, hB⟩)
        go_ret2
        exact ⟨_, rfl, World.ownsRow_nil _ _ _ _, hnx.trans (hB.mono hnx.size)⟩
    · have hR : R = (us, 0) := by
        rw [hHf]
        cases f with
        | zero => rfl
        | succ g => rw [fa, if_neg hlt]
      have hDn : (bytesOf (L.drop A)).size ≤ 0 := by omega
      clear hH hR0 hHf hDz
      generalize bytesOf (L.drop A) = D at *
      subst hR
      go_wp2
      go_ret2
      exact ⟨_, rfl, hown, hnx⟩
theorem gt_put (L : List UInt8) : ∀ f i, f + i = 11 → (∀ x ∈ L.take i, 128 ≤ x.toNat) → (gt L f i).2.2 = 0 → put (gt L f i).1 = L.take (gt L f i).2.1
  | 0, i, _, _, h => by simp [gt] at h
  | f + 1, i, hf, ha, h => by
    rw [gt] at h ⊢
    split at h
    · rename_i h1
      rw [if_pos h1]
      have ht := take_snocU L i h1.1
      split at h
      · cases h
      · rename_i h2
        rw [if_neg h2]
        split at h
        · rename_i h3
          rw [if_pos h3]
          refine gt_put L f (i + 1) (by omega) (fun x hx => ?_) h
          rw [ht] at hx
          rcases List.mem_append.1 hx with hx | hx
          · exact ha x hx
          · rw [List.mem_singleton.1 hx]; exact h3
        · rename_i h3
          rw [if_neg h3]
          split at h
          · cases h
          · rename_i h4
            rw [if_neg h4]
            show putF 11 (val (L.take (i + 1))) = L.take (i + 1)
            rw [ht]
            exact back_yes (L.take i) (L.getD i 0) (k := i) (by omega) (by rw [List.length_take]; omega) ha (by omega) h4
    · cases h
theorem getS_put (L : List UInt8) (h : (getS L).2.2 = 0) : put (getS L).1 = L.take (getS L).2.1 := gt_put L 11 0 rfl (fun x hx => by simp at hx) h
theorem fa_bts (L : List UInt8) : ∀ f us A, bts us = L.take A → A ≤ L.length → L.length + 1 ≤ f + A → (fa L f us A).2 = 0 → bts (fa L f us A).1 = L
  | 0, us, A, _, hA, hf, _ => by omega
  | f + 1, us, A, hb, hA, hf, h => by
    rw [fa] at h ⊢
    split at h
    · rename_i h1
      rw [if_pos h1]
      split at h
      · rename_i h2; exact absurd h h2
      · rename_i h2
        rw [if_neg h2]
        have h3 : (getS (L.drop A)).2.2 = 0 := by omega
        have hbd := getS_bounds (L.drop A) h3
        have hps : 1 ≤ (getS (L.drop A)).2.1 := gt_pos (L.drop A) 11 0 h3
        rw [List.length_drop] at hbd
        refine fa_bts L f _ _ ?_ (by omega) (by omega) h
        rw [bts_snoc, getS_put _ h3, hb, List.take_add]
    · rename_i h1
      rw [if_neg h1]
      rw [hb, List.take_of_length_le (by omega)]
theorem allS_bts (L : List UInt8) (h : (allS L).2 = 0) : bts (allS L).1 = L := fa_bts L _ [] 0 (by simp [bts]) (Nat.zero_le _) (by omega) h
theorem fa_num (L : List UInt8) : ∀ f us A, (∀ u ∈ us, u < 18446744073709551616) → ∀ u ∈ (fa L f us A).1, u < 18446744073709551616
  | 0, us, A, h => h
  | f + 1, us, A, h => by
    rw [fa]
    split
    · split
      · simp
      · refine fa_num L f _ _ fun u hu => ?_
        rcases List.mem_append.1 hu with hu | hu
        · exact h u hu
        · rw [List.mem_singleton.1 hu]; exact getS_num _
    · exact h
theorem fa_len (L : List UInt8) : ∀ f us A, us.length ≤ A → A ≤ L.length → (fa L f us A).1.length ≤ L.length
  | 0, us, A, h, h2 => by simp only [fa]; omega
  | f + 1, us, A, h, h2 => by
    rw [fa]
    split
    · split
      · simp
      · rename_i h4
        have h3 : (getS (L.drop A)).2.2 = 0 := by omega
        have hbd := getS_bounds (L.drop A) h3
        have hps : 1 ≤ (getS (L.drop A)).2.1 := gt_pos (L.drop A) 11 0 h3
        rw [List.length_drop] at hbd
        exact fa_len L f _ _ (by simp; omega) (by omega)
    · show us.length ≤ _; omega
theorem bts_len (us : List Nat) : (bts us).length ≤ 11 * us.length := by
  induction us with
  | nil => simp [bts]
  | cons u us ih =>
    have h := putF_len 11 u
    have e : (bts (u :: us)).length = (put u).length + (bts us).length := by simp [bts]
    rw [e, List.length_cons]
    have : (put u).length ≤ 11 := h
    omega
theorem bts_split (us : List Nat) (j : Nat) (hj : j < us.length) : bts us = bts (us.take j) ++ (put (us.getD j 0) ++ bts (us.drop (j + 1))) := by
  have e : us = us.take j ++ us.getD j 0 :: us.drop (j + 1) := by
    have : us.getD j 0 = us[j] := by simp [List.getD, hj]
    rw [this, List.getElem_cons_drop hj, List.take_append_drop]
  conv => lhs; rw [e]
  simp [bts]
end Go.Proofs.YtnecfgmbfkocnaeGreat
