/-
  THE WORDS OF A TEXT. Mathematics alone.
-/
import Derived.Test.YtddmdieeljjamaaDoorReadMath
import Derived.Test.YtddmdieeljjamaaDoorLexTab
import Derived.Test.YtddmdieeljjamaaDoorLRSame
import Derived.Test.YtddmdieeljjamaaDoorRRead2
import Derived.Test.YtddmdieeljjamaaDoorRead4
import Derived.Laws.ResultCell
namespace Go.Proofs.YtddmdieeljjamaaDoor
open Go.ChangeShapes Go.WideShapes Go.ChangeAt Go.RowKit

def isLt (b : Int) : Bool := (decide (97 ≤ b) && decide (b ≤ 122)) || (decide (65 ≤ b) && decide (b ≤ 90))
def isBl (b : Int) : Bool := decide (b = 9) || decide (b = 10) || decide (b = 13) || decide (b = 32)
def okN (s : ByteArray) (k : Nat) : Bool := isLt (byteAt s k) || (decide (0 < k) && (isDig (byteAt s k) || decide (byteAt s k = 95)))
def nameTo (s : ByteArray) : Nat → Nat → Nat
  | 0, k => k
  | f + 1, k => if k < s.size ∧ okN s k = true then nameTo s f (k + 1) else k
/-- How many bytes of a name a text begins with. -/
def nameLen (s : ByteArray) : Nat := nameTo s s.size 0
theorem nameTo_eq {s : ByteArray} {n : Nat} (hr : ∀ j, j < n → j < s.size ∧ okN s j = true) (hs : ¬ (n < s.size ∧ okN s n = true)) : ∀ f k, k ≤ n → n ≤ k + f → nameTo s f k = n
  | 0, k, h1, h2 => by show k = n; omega
  | f + 1, k, h1, h2 => by
    rw [nameTo]
    by_cases h : k = n
    · subst h; rw [if_neg hs]
    · rw [if_pos (hr k (by omega))]
      exact nameTo_eq hr hs f (k + 1) (by omega) (by omega)
theorem nameLen_eq {s : ByteArray} {n : Nat} (hn : n ≤ s.size) (hr : ∀ j, j < n → okN s j = true) (hs : ¬ (n < s.size ∧ okN s n = true)) : nameLen s = n :=
  nameTo_eq (fun j hj => ⟨by omega, hr j hj⟩) hs s.size 0 (Nat.zero_le _) (by omega)
theorem nameTo_le {s : ByteArray} : ∀ f k, k ≤ s.size → nameTo s f k ≤ s.size
  | 0, _, h => h
  | f + 1, k, h => by
    rw [nameTo]
    split
    · exact nameTo_le f (k + 1) (by omega)
    · exact h
theorem nameLen_le (s : ByteArray) : nameLen s ≤ s.size := nameTo_le _ _ (Nat.zero_le _)
/-- What is told of a word. -/
structure WR where
  k : Int
  t : ByteArray
  vk : Int
  vn : Int
  vt : ByteArray
  m : Nat
  e : Int
def WR.bad (e : Int) : WR := ⟨0, ⟨#[]⟩, 0, 0, ⟨#[]⟩, 0, e⟩
def WR.wd (x : WR) (p : Int) : Wd := ⟨x.k, x.t, x.vk, x.vn, x.vt, p⟩
def isVal (s : ByteArray) : Bool := isDig (byteAt s 0) || decide (byteAt s 0 = 39) || (decide (byteAt s 0 = 45) && (decide (1 < s.size) && isDig (byteAt s 1)))
/-- The word with which a text begins. -/
def wordS (s : ByteArray) : WR :=
  if 30 < nameLen s then .bad 2
  else if 0 < nameLen s then ⟨if keyB (s.extract 0 (nameLen s)) then 2 else 1, s.extract 0 (nameLen s), 0, 0, ⟨#[]⟩, nameLen s, 0⟩
  else if isVal s then (if (readS s).e = 0 then ⟨3, ⟨#[]⟩, (readS s).k, (readS s).n, tx (readS s).t, (readS s).m, 0⟩ else .bad (readS s).e)
  else if (bestOf s).size = 0 then .bad 2 else ⟨4, bestOf s, 0, 0, ⟨#[]⟩, (bestOf s).size, 0⟩
theorem text_m (s : ByteArray) : ∀ f i out, (textS s f i out).e = 0 → i < (textS s f i out).m ∧ (textS s f i out).m ≤ s.size
  | 0, _, _, h => by cases h
  | f + 1, i, out, h => by
    rw [textS] at h ⊢
    split at h
    · rename_i h1
      rw [if_pos h1]
      split at h
      · rename_i h2
        rw [if_pos h2]
        exact ⟨Nat.lt_succ_self _, h1⟩
      · rename_i h2
        rw [if_neg h2]
        split at h
        · rename_i h3
          rw [if_pos h3]
          split at h
          · rename_i h4
            rw [if_pos h4]
            split at h
            · rename_i h5
              rw [if_pos h5]
              split at h
              · cases h
              · rename_i h6
                rw [if_neg h6]
                have := text_m s f _ _ h
                exact ⟨by omega, this.2⟩
            · cases h
          · cases h
        · rename_i h3
          rw [if_neg h3]
          split at h
          · rename_i h4
            rw [if_pos h4]
            split at h
            · cases h
            · rename_i h6
              rw [if_neg h6]
              have := text_m s f _ _ h
              exact ⟨by omega, this.2⟩
          · cases h
    · cases h
theorem num_m (s : ByteArray) (neg : Bool) : ∀ f i n, i ≤ s.size → (numS s neg f i n).e = 0 → i ≤ (numS s neg f i n).m ∧ (numS s neg f i n).m ≤ s.size
  | 0, i, n, hi, _ => ⟨Nat.le_refl _, hi⟩
  | f + 1, i, n, hi, h => by
    rw [numS] at h ⊢
    split at h
    · rename_i h1
      rw [if_pos h1]
      split at h
      · rename_i h2
        rw [if_pos h2]
        have := num_m s neg f (i + 1) _ (by omega) h
        exact ⟨by omega, this.2⟩
      · cases h
    · rename_i h1
      rw [if_neg h1]
      exact ⟨Nat.le_refl _, hi⟩
theorem read_m (s : ByteArray) (h : (readS s).e = 0) : 1 ≤ (readS s).m ∧ (readS s).m ≤ s.size := by
  unfold readS at h ⊢
  split at h
  · cases h
  · rename_i h0
    rw [if_neg h0]
    have hs : 0 < s.size := by
      rcases Nat.eq_zero_or_pos s.size with h | h
      · exact absurd (.inl h) h0
      · exact h
    split at h
    · rename_i h1
      rw [if_pos h1]
      have := text_m s _ _ _ h
      exact ⟨by omega, this.2⟩
    · rename_i h1
      rw [if_neg h1]
      split at h
      · rename_i h2
        rw [if_pos h2]
        split at h
        · rename_i h3
          rw [if_pos h3]
          exact num_m s true _ 1 0 hs h
        · cases h
      · rename_i h2
        rw [if_neg h2]
        split at h
        · rename_i h3
          rw [if_pos h3]
          obtain ⟨f, hf⟩ : ∃ f, s.size = f + 1 := ⟨s.size - 1, by omega⟩
          have key : ∀ f', f' = f + 1 → (numS s false f' 0 0).e = 0 → 1 ≤ (numS s false f' 0 0).m ∧ (numS s false f' 0 0).m ≤ s.size := by
            rintro f' rfl h
            rw [numS, if_pos ⟨hs, h3⟩] at h ⊢
            split at h
            · rename_i h4
              rw [if_pos h4]
              exact num_m s false f 1 _ hs h
            · cases h
          exact key _ hf h
        · cases h
theorem bestTo_zero (s : ByteArray) : bestTo s 0 = ⟨#[]⟩ := rfl
theorem best_pref (s : ByteArray) : ∀ k, k ≤ 22 → (bestTo s k).size ≤ s.size
  | 0, _ => by rw [bestTo_zero]; exact Nat.zero_le _
  | k + 1, h => by
    rw [bestTo_succ s k (by omega)]
    unfold bestStep
    split
    · rename_i h2
      have := h2.2
      unfold pref at this
      simp only [Bool.and_eq_true, decide_eq_true_eq] at this
      exact this.1
    · exact best_pref s k (by omega)
theorem best_le (s : ByteArray) : (bestOf s).size ≤ s.size := by
  have h := best_pref s 22 (Nat.le_refl _)
  rwa [bestTo_all] at h
theorem word_m (s : ByteArray) (h : (wordS s).e = 0) : 1 ≤ (wordS s).m ∧ (wordS s).m ≤ s.size := by
  have hle := best_le s
  unfold wordS at h ⊢
  generalize bestOf s = B at *
  split at h
  · cases h
  · rename_i h1
    rw [if_neg h1]
    split at h
    · rename_i h2
      rw [if_pos h2]
      exact ⟨h2, nameLen_le s⟩
    · rename_i h2
      rw [if_neg h2]
      split at h
      · rename_i h3
        rw [if_pos h3]
        split at h
        · rename_i h4
          rw [if_pos h4]
          exact read_m s h4
        · rename_i h4
          exact absurd h h4
      · rename_i h3
        rw [if_neg h3]
        split at h
        · cases h
        · rename_i h4
          rw [if_neg h4]
          exact ⟨by show 1 ≤ B.size; omega, hle⟩
/-- All words from a place on, behind some. -/
def wordsS (s : ByteArray) : Nat → Nat → List Wd → List Wd × Nat × Int
  | 0, _, l => (l, 0, 0)
  | f + 1, i, l =>
    if i < s.size then
      (if isBl (byteAt s i) then wordsS s f (i + 1) l
      else if (wordS (s.extract i s.size)).e = 0 then wordsS s f (i + (wordS (s.extract i s.size)).m) (l ++ [(wordS (s.extract i s.size)).wd i])
      else ([], i, (wordS (s.extract i s.size)).e))
    else (l, 0, 0)
theorem words_blankS {s : ByteArray} {i f : Nat} {l : List Wd} (hf : s.size ≤ i + f) (hi : i < s.size) (hb : isBl (byteAt s i) = true) : ∃ g, s.size ≤ i + 1 + g ∧ wordsS s f i l = wordsS s g (i + 1) l := by
  obtain ⟨g, rfl⟩ : ∃ g, f = g + 1 := ⟨f - 1, by omega⟩
  exact ⟨g, by omega, by rw [wordsS, if_pos hi, if_pos hb]⟩
theorem words_err {s : ByteArray} {i f : Nat} {l : List Wd} (hf : s.size ≤ i + f) (hi : i < s.size) (hb : isBl (byteAt s i) = false) (he : (wordS (s.extract i s.size)).e ≠ 0) : wordsS s f i l = ([], i, (wordS (s.extract i s.size)).e) := by
  obtain ⟨g, rfl⟩ : ∃ g, f = g + 1 := ⟨f - 1, by omega⟩
  rw [wordsS, if_pos hi, hb, if_neg (by simp), if_neg he]
theorem words_word {s : ByteArray} {i f : Nat} {l : List Wd} (hf : s.size ≤ i + f) (hi : i < s.size) (hb : isBl (byteAt s i) = false) (he : (wordS (s.extract i s.size)).e = 0) :
    ∃ g, s.size ≤ i + (wordS (s.extract i s.size)).m + g ∧ i + (wordS (s.extract i s.size)).m ≤ s.size ∧ 1 ≤ (wordS (s.extract i s.size)).m ∧ wordsS s f i l = wordsS s g (i + (wordS (s.extract i s.size)).m) (l ++ [(wordS (s.extract i s.size)).wd i]) := by
  obtain ⟨g, rfl⟩ : ∃ g, f = g + 1 := ⟨f - 1, by omega⟩
  have h := word_m _ he
  have h2 : (s.extract i s.size).size = s.size - i := by simp
  exact ⟨g, by omega, by omega, h.1, by rw [wordsS, if_pos hi, hb, if_neg (by simp), if_pos he]⟩
theorem words_done {s : ByteArray} {i f : Nat} {l : List Wd} (hi : ¬ i < s.size) : wordsS s f i l = (l, 0, 0) := by
  cases f with
  | zero => rfl
  | succ f => rw [wordsS, if_neg hi]
/-- All words of a text. -/
def allWords (s : ByteArray) : List Wd × Nat × Int := wordsS s s.size 0 []
end Go.Proofs.YtddmdieeljjamaaDoor
/-
  LETTERS, BLANKS, NAMES OF A QUERY'S TEXT: the program's and the reference's, by contract.
-/
namespace Go.Proofs.YtddmdieeljjamaaDoor
open Go.ChangeShapes Go.WideShapes Go.ChangeAt Go.RowKit

theorem lxletter_c (b : Int) (w : World) : Calls Tryd.prog 46 #[.int .u8 b] w fun e w' => e = .returned (.bool (isLt b)) ∧ w' = w := by
  by_cases h1 : 97 ≤ b <;> by_cases h2 : b ≤ 122 <;> by_cases h3 : 65 ≤ b <;> by_cases h4 : b ≤ 90 <;> first | (exfalso; omega) | skip
  all_goals
    go_enter Tryd.func46, Tryd.ntmps46
    go_wp2
    go_ret
    exact ⟨ret_bool (by unfold isLt; simp [h1, h2, h3, h4]), rfl⟩
theorem lxrletter_c (b : Int) (w : World) : Calls Tryd.prog 22 #[.int .u8 b] w fun e w' => e = .returned (.bool (isLt b)) ∧ w' = w := by
  by_cases h1 : 97 ≤ b <;> by_cases h2 : b ≤ 122 <;> by_cases h3 : 65 ≤ b <;> by_cases h4 : b ≤ 90 <;> first | (exfalso; omega) | skip
  all_goals
    go_enter Tryd.func22, Tryd.ntmps22
    go_wp2
    go_ret
    exact ⟨ret_bool (by unfold isLt; simp [h1, h2, h3, h4]), rfl⟩
theorem lxdigit_c (b : Int) (w : World) : Calls Tryd.prog 35 #[.int .u8 b] w fun e w' => e = .returned (.bool (isDig b)) ∧ w' = w := by
  by_cases h1 : 48 ≤ b <;> by_cases h2 : b ≤ 57 <;> first | (exfalso; omega) | skip
  all_goals
    go_enter Tryd.func35, Tryd.ntmps35
    go_wp2
    go_ret
    exact ⟨ret_bool (by unfold isDig; simp [h1, h2]), rfl⟩
theorem lxblank_c (b : Int) (w : World) : Calls Tryd.prog 16 #[.int .u8 b] w fun e w' => e = .returned (.bool (isBl b)) ∧ w' = w := by
  by_cases h1 : b = 9
  · subst h1
    go_enter Tryd.func16, Tryd.ntmps16
    go_wp2
    go_ret
    exact ⟨rfl, rfl⟩
  · by_cases h2 : b = 10
    · subst h2
      go_enter Tryd.func16, Tryd.ntmps16
      go_wp2
      go_ret
      exact ⟨rfl, rfl⟩
    · by_cases h3 : b = 13
      · subst h3
        go_enter Tryd.func16, Tryd.ntmps16
        go_wp2
        go_ret
        exact ⟨rfl, rfl⟩
      · by_cases h4 : b = 32
        · subst h4
          go_enter Tryd.func16, Tryd.ntmps16
          go_wp2
          go_ret
          exact ⟨rfl, rfl⟩
        · have e1 : (b == 9) = false := by simp [h1]
          have e2 : (b == 10) = false := by simp [h2]
          have e3 : (b == 13) = false := by simp [h3]
          have e4 : (b == 32) = false := by simp [h4]
          go_enter Tryd.func16, Tryd.ntmps16
          go_wp2
          go_ret
          exact ⟨ret_bool (by unfold isBl; simp [h1, h2, h3, h4]), rfl⟩
set_option maxHeartbeats 1600000 in
set_option maxRecDepth 100000 in
theorem lxnamed_c (s : ByteArray) (w : World) (h0 : 0 < s.size) (hs : s.size ≤ 1000) : Calls Tryd.prog 33 #[.string s] w fun e w' => e = .returned (.int .i64 (nameLen s)) ∧ w' = w := by
  have hlet := fun b w => lxletter_c b w
  have hdig := fun b w => lxdigit_c b w
  have hb0 := byteAt_eq (s := s) (k := 0) h0
  have hb0 : ((s[0]).toNat : Int) = byteAt s 0 := hb0
  have ho : Hid (∀ j, okN s j = (isLt (byteAt s j) || (decide (0 < j) && (isDig (byteAt s j) || decide (byteAt s j = 95))))) := fun j => rfl
  have hq := hidden (fun n => nameLen_eq (s := s) (n := n))
  obtain ⟨R, hR⟩ : ∃ R, Hid (nameLen s = R) := ⟨_, (rfl : nameLen s = _)⟩
  rw [hR.out]
  cases hl0 : isLt (byteAt s 0) with
  | false =>
    have hz : Hid (R = 0) := by
      show _ = _
      rw [← hR.out]
      exact hq.out 0 (Nat.zero_le _) (fun j hj => by omega) (by rintro ⟨_, h⟩; rw [ho.out, hl0] at h; simp at h)
    have hc := fun w => hlet (byteAt s 0) w
    rw [hl0] at hc
    rw [hz.out]
    generalize byteAt s 0 = b at *
    clear hq hR hz
    go_enter Tryd.func33, Tryd.ntmps33
    go_wp2_with fail
    refine (hc _).mono ?_
    rintro e w' ⟨rfl, rfl⟩
    go_wp2
    go_ret
    exact ⟨rfl, rfl⟩
  | true =>
    have hc := fun w => hlet (byteAt s 0) w
    rw [hl0] at hc
    have hok0 : Hid (okN s 0 = true) := by show _ = _; rw [ho.out, hl0]; rfl
    generalize byteAt s 0 = b at *
    clear hl0
    go_enter Tryd.func33, Tryd.ntmps33
    go_wp2_with fail
    refine (hc _).mono ?_
    rintro e w' ⟨rfl, rfl⟩
    clear hc
    go_wp2_with fail
    go_loop [3] (fun i => ∃ k : Nat, 1 ≤ k ∧ k ≤ s.size ∧ i = .int .i64 k ∧ Hid (∀ j, j < k → okN s j = true)) (fun i => s.size - (intOf i).toNat)
    case atStart =>
      refine ⟨1, Nat.le_refl _, h0, rfl, hidden fun j hj => ?_⟩
      have hj0 : j = 0 := by omega
      rw [hj0]
      exact hok0.out
    case round =>
      obtain ⟨k, hk1, hk, rfl, hall⟩ := hrel
      by_cases hlt : k < s.size
      · have hk2 : (k : Int) < (s.size : Int) := by omega
        have hbk := byteAt_eq (s := s) (k := k) hlt
        have hno : Hid (okN s k = false → R = k) := fun h => by
          rw [← hR.out]
          exact hq.out k hk hall.out (by rintro ⟨_, h2⟩; rw [h] at h2; cases h2)
        have hyes : Hid (okN s k = true → ∀ j, j < k + 1 → okN s j = true) := fun h j hj => by
          rcases Nat.lt_or_ge j k with h2 | h2
          · exact hall.out j h2
          · obtain rfl : j = k := by omega
            exact h
        have hok := hidden (ho.out k)
        clear hall hok0
        have hlk := fun w => hlet (byteAt s k) w
        have hdk := fun w => hdig (byteAt s k) w
        cases h1 : isLt (byteAt s k) with
        | true =>
          have hn := hidden (hyes.out (by rw [hok.out, h1]; rfl))
          rw [h1] at hlk
          generalize byteAt s k = b at *
          clear hok hyes hno h1
          go_wp2_with fail
          refine (hlk _).mono ?_
          rintro e w' ⟨rfl, rfl⟩
          go_wp2
          go_round
          case rel => exact ⟨k + 1, by omega, by omega, by go_num, hn⟩
          case measure => simp [intOf]; omega
        | false =>
          rw [h1] at hlk
          cases h2 : isDig (byteAt s k) with
          | true =>
            have hn := hidden (hyes.out (by rw [hok.out, h1, h2]; simp; omega))
            rw [h2] at hdk
            generalize byteAt s k = b at *
            clear hok hyes hno h1 h2
            go_wp2_with fail
            refine (hlk _).mono ?_
            rintro e w' ⟨rfl, rfl⟩
            go_wp2_with fail
            refine (hdk _).mono ?_
            rintro e w' ⟨rfl, rfl⟩
            go_wp2
            go_round
            case rel => exact ⟨k + 1, by omega, by omega, by go_num, hn⟩
            case measure => simp [intOf]; omega
          | false =>
            rw [h2] at hdk
            by_cases h3 : byteAt s k = 95
            · have hn := hidden (hyes.out (by rw [hok.out, h1, h2]; simp; exact ⟨by omega, h3⟩))
              have e3 : (byteAt s k == 95) = true := by simp [h3]
              replace h3 := hidden h3
              generalize byteAt s k = b at *
              clear hok hyes hno h1 h2 h3
              go_wp2_with fail
              refine (hlk _).mono ?_
              rintro e w' ⟨rfl, rfl⟩
              go_wp2_with fail
              refine (hdk _).mono ?_
              rintro e w' ⟨rfl, rfl⟩
              go_wp2
              go_round
              case rel => exact ⟨k + 1, by omega, by omega, by go_num, hn⟩
              case measure => simp [intOf]; omega
            · have hn := hidden (hno.out (by rw [hok.out, h1, h2]; simp [h3]))
              have e3 : (byteAt s k == 95) = false := by simp [h3]
              generalize byteAt s k = b at *
              clear hok hyes hno h1 h2 h3 hR
              go_wp2_with fail
              refine (hlk _).mono ?_
              rintro e w' ⟨rfl, rfl⟩
              go_wp2_with fail
              refine (hdk _).mono ?_
              rintro e w' ⟨rfl, rfl⟩
              go_wp2
              go_ret
              exact ⟨by rw [hn.out]; first | done | rfl, rfl⟩
      · have hk2 : ¬ (k : Int) < (s.size : Int) := by omega
        have hn : Hid (R = k) := by
          show _ = _
          rw [← hR.out]
          exact hq.out k hk hall.out (by rintro ⟨h2, _⟩; exact hlt h2)
        clear hall hR hq hok0
        go_wp2
        go_ret
        exact ⟨by rw [hn.out]; first | done | rfl, rfl⟩
end Go.Proofs.YtddmdieeljjamaaDoor
/-
  THE WORD WITH WHICH A TEXT BEGINS: lex.word, by contract.
-/
namespace Go.Proofs.YtddmdieeljjamaaDoor
open Go.ChangeShapes Go.WideShapes Go.ChangeAt Go.RowKit

theorem results_cell_tmp2w {fn : Func} {p u v : Tmp} {ty : TypeId} (h : fn.results = #[.cell p ty, .tmp u, .tmp v]) (tmps : Array Value) (P : Program) (w : World) :
    (results fn tmps).run P w =
      ((asAddr (tmps.getD p undef)).run P w).andThen fun a w₁ => ((loadVar ty a).run P w₁).andThen fun x w₂ => .ok (.tuple #[x, tmps.getD u undef, tmps.getD v undef]) w₂ := by
  simp only [results, h]
  simp [Sem.run_bind, Result.andThen]
theorem new6 (w : World) (a b c d e f : Value) (t : TypeId) : (w.alloc (.cells #[a, b, c, d, e, f] t)).heap[w.heap.size]? = some (.cells #[a, b, c, d, e, f] t) := heap_alloc_new _ _
/-- What is told of a text that is a name. -/
def nameW (t : ByteArray) : WR := if keyB t then ⟨2, t, 0, 0, ⟨#[]⟩, t.size, 0⟩ else if 30 < t.size then .bad 2 else ⟨1, t, 0, 0, ⟨#[]⟩, t.size, 0⟩
def WR.v (x : WR) : Value := .tuple #[.agg #[.int .i64 x.k, .string x.t, .int .i64 x.vk, .int .i64 x.vn, .string x.vt, .int .i64 0], .int .i64 (x.m : Int), .int .i64 x.e]
set_option maxHeartbeats 1600000 in
set_option maxRecDepth 100000 in
theorem lxname_c (s : ByteArray) (w : World) : Calls Tryd.prog 34 #[.string s] w fun e w' => e = .returned (nameW s).v ∧ Below w.heap.size w w' := by
  have hk := fun x => key_c s x
  have hB : ∀ o, Below w.heap.size w (w.alloc o) := fun o => (Below.refl _ _).alloc (Nat.le_refl _) o
  cases h : keyB s with
  | true =>
    have e : Hid (nameW s = ⟨2, s, 0, 0, ⟨#[]⟩, s.size, 0⟩) := by show _ = _; unfold nameW; rw [h]; rfl
    rw [h] at hk
    replace h := hidden h
    go_enter Tryd.func34, Tryd.ntmps34
    go_wp2_with (go_at_call 47; refine (hk _).mono ?_; rintro e w' ⟨rfl, rfl⟩)
    have hRow := run_loadVar_row (P := Tryd.prog) _ w.heap.size 35 35 _ _ _ (new6 w (.int .i64 2) (.string s) (.int .i64 0) (.int .i64 0) (.string ⟨#[]⟩) (.int .i64 0) 35) Tryd.underlying35 rfl (by kernel_rfl)
    exact bodyPost_ret ((results_cell_tmp2w rfl _ _ _).trans (by simp [asAddr, hRow, Result.andThen]; rfl)) rfl ⟨by rw [e.out]; rfl, hB _⟩
  | false =>
    rw [h] at hk
    by_cases h30 : 30 < s.size
    · have e : Hid (nameW s = .bad 2) := by show _ = _; unfold nameW; rw [h]; simp [h30]
      have h30' : (30 : Int) < (s.size : Int) := by omega
      replace h := hidden h
      go_enter Tryd.func34, Tryd.ntmps34
      go_wp2_with (go_at_call 47; refine (hk _).mono ?_; rintro e w' ⟨rfl, rfl⟩)
      have hRow := run_loadVar_row (P := Tryd.prog) _ w.heap.size 35 35 _ _ _ (new6 w (.int .i64 0) (.string ⟨#[]⟩) (.int .i64 0) (.int .i64 0) (.string ⟨#[]⟩) (.int .i64 0) 35) Tryd.underlying35 rfl (by kernel_rfl)
      exact bodyPost_ret ((results_cell_tmp2w rfl _ _ _).trans (by simp [asAddr, hRow, Result.andThen]; rfl)) rfl ⟨by rw [e.out]; rfl, hB _⟩
    · have e : Hid (nameW s = ⟨1, s, 0, 0, ⟨#[]⟩, s.size, 0⟩) := by show _ = _; unfold nameW; rw [h]; simp [h30]
      have h30' : ¬ (30 : Int) < (s.size : Int) := by omega
      replace h := hidden h
      go_enter Tryd.func34, Tryd.ntmps34
      go_wp2_with (go_at_call 47; refine (hk _).mono ?_; rintro e w' ⟨rfl, rfl⟩)
      have hRow := run_loadVar_row (P := Tryd.prog) _ w.heap.size 35 35 _ _ _ (new6 w (.int .i64 1) (.string s) (.int .i64 0) (.int .i64 0) (.string ⟨#[]⟩) (.int .i64 0) 35) Tryd.underlying35 rfl (by kernel_rfl)
      exact bodyPost_ret ((results_cell_tmp2w rfl _ _ _).trans (by simp [asAddr, hRow, Result.andThen]; rfl)) rfl ⟨by rw [e.out]; rfl, hB _⟩
theorem key_small {s : ByteArray} (h : keyB s = true) : s.size ≤ 30 := by
  have h2 := (keyB_iff s).1 h
  have hall : (keyL.all fun t => decide (t.size ≤ 30)) = true := by decide +kernel
  simpa using List.all_eq_true.1 hall s h2
theorem ext_size (s : ByteArray) {n : Nat} (h : n ≤ s.size) : (s.extract 0 n).size = n := by simp; omega
theorem word_named (s : ByteArray) (h : 0 < nameLen s) : wordS s = nameW (s.extract 0 (nameLen s)) := by
  have hs := ext_size s (nameLen_le s)
  unfold wordS nameW
  rw [hs]
  by_cases h30 : 30 < nameLen s
  · rw [if_pos h30]
    cases hk : keyB (s.extract 0 (nameLen s)) with
    | true => have := key_small hk; omega
    | false => simp [h30]
  · rw [if_neg h30, if_pos h]
    cases keyB (s.extract 0 (nameLen s)) <;> simp [h30]
theorem word_val (s : ByteArray) (h : nameLen s = 0) (hv : isVal s = true) : wordS s = if (readS s).e = 0 then ⟨3, ⟨#[]⟩, (readS s).k, (readS s).n, tx (readS s).t, (readS s).m, 0⟩ else .bad (readS s).e := by
  unfold wordS
  rw [if_neg (by omega), if_neg (by omega), if_pos hv]
theorem word_sign (s : ByteArray) (h : nameLen s = 0) (hv : isVal s = false) : wordS s = if (bestOf s).size = 0 then .bad 2 else ⟨4, bestOf s, 0, 0, ⟨#[]⟩, (bestOf s).size, 0⟩ := by
  unfold wordS
  rw [if_neg (by omega), if_neg (by omega), if_neg (by simp [hv])]
/-- How it is told that a value stands there. -/
theorem val_ways (s : ByteArray) : (isDig (byteAt s 0) = true ∧ isVal s = true) ∨ (isDig (byteAt s 0) = false ∧ (byteAt s 0 == 39) = true ∧ isVal s = true) ∨
    (isDig (byteAt s 0) = false ∧ (byteAt s 0 == 39) = false ∧ (byteAt s 0 == 45) = true ∧ 1 < s.size ∧ isVal s = isDig (byteAt s 1)) ∨
    (isDig (byteAt s 0) = false ∧ (byteAt s 0 == 39) = false ∧ (byteAt s 0 == 45) = true ∧ ¬ 1 < s.size ∧ isVal s = false) ∨
    (isDig (byteAt s 0) = false ∧ (byteAt s 0 == 39) = false ∧ (byteAt s 0 == 45) = false ∧ isVal s = false) := by
  unfold isVal
  cases isDig (byteAt s 0) with
  | true => exact .inl ⟨rfl, rfl⟩
  | false =>
    by_cases h1 : byteAt s 0 = 39
    · exact .inr (.inl ⟨rfl, by simp [h1], by simp [h1]⟩)
    · by_cases h2 : byteAt s 0 = 45
      · by_cases h3 : 1 < s.size
        · exact .inr (.inr (.inl ⟨rfl, by simp [h1], by simp [h2], h3, by simp [h2, h3]⟩))
        · exact .inr (.inr (.inr (.inl ⟨rfl, by simp [h1], by simp [h2], h3, by simp [h1, h3]⟩)))
      · exact .inr (.inr (.inr (.inr ⟨rfl, by simp [h1], by simp [h2], by simp [h1, h2]⟩)))

theorem box_below2 {w w' : World} {b : Nat} {o : Obj} (h : w.heap[b]? = some o) (hB : Below w.heap.size w w') : w'.heap[b]? = some o := (hB.block _ (Array.getElem?_eq_some_iff.1 h).1).trans h
theorem set6 {x : World} {b : Nat} {a0 a1 a2 a3 a4 a5 : Value} {t : TypeId} (h : x.heap[b]? = some (.cells #[a0, a1, a2, a3, a4, a5] t)) (c0 c1 c2 c3 c4 c5 : Value) :
    ((((((x.setCell ⟨b, 0, none⟩ c0).setCell ⟨b, 1, none⟩ c1).setCell ⟨b, 2, none⟩ c2).setCell ⟨b, 3, none⟩ c3).setCell ⟨b, 4, none⟩ c4).setCell ⟨b, 5, none⟩ c5).heap[b]? = some (.cells #[c0, c1, c2, c3, c4, c5] t) := by
  have h0 := heap_setW h 0 c0
  have h1 := heap_setW h0 1 c1
  have h2 := heap_setW h1 2 c2
  have h3 := heap_setW h2 3 c3
  have h4 := heap_setW h3 4 c4
  have h5 := heap_setW h4 5 c5
  exact h5
theorem set6_below {w x : World} {b B : Nat} (h : Below B w x) (hb : B ≤ b) (c0 c1 c2 c3 c4 c5 : Value) :
    Below B w ((((((x.setCell ⟨b, 0, none⟩ c0).setCell ⟨b, 1, none⟩ c1).setCell ⟨b, 2, none⟩ c2).setCell ⟨b, 3, none⟩ c3).setCell ⟨b, 4, none⟩ c4).setCell ⟨b, 5, none⟩ c5) :=
  (((((h.setCell (p := ⟨b, 0, none⟩) hb c0).setCell (p := ⟨b, 1, none⟩) hb c1).setCell (p := ⟨b, 2, none⟩) hb c2).setCell (p := ⟨b, 3, none⟩) hb c3).setCell (p := ⟨b, 4, none⟩) hb c4).setCell (p := ⟨b, 5, none⟩) hb c5

set_option maxHeartbeats 3200000 in
set_option maxRecDepth 100000 in
/-- A name. -/
theorem word_name_c (s : ByteArray) (w : World) (h0 : 0 < s.size) (hs : s.size ≤ 1000) (hn : 0 < nameLen s) :
    Calls Tryd.prog 17 #[.string s] w fun e w' => e = .returned (wordS s).v ∧ Below w.heap.size w w' := by
  rw [word_named s hn]
  have hnm := fun x => lxnamed_c s x h0 hs
  have hna := fun x => lxname_c (s.extract 0 (nameLen s)) x
  have hle := nameLen_le s
  generalize nameW (s.extract 0 (nameLen s)) = X at *
  generalize nameLen s = n at *
  obtain ⟨xk, xt, xa, xn, xv, xm, xe⟩ := X
  simp only [WR.v] at hna ⊢
  have hB0 := hidden ((Below.refl w.heap.size w).alloc (Nat.le_refl _) (.cells #[.int .i64 0, .string ⟨#[]⟩, .int .i64 0, .int .i64 0, .string ⟨#[]⟩, .int .i64 0] 35))
  have hA0 := hidden (new6 w (.int .i64 0) (.string ⟨#[]⟩) (.int .i64 0) (.int .i64 0) (.string ⟨#[]⟩) (.int .i64 0) 35)
  have hn1 : (0 : Int) < (n : Int) := by omega
  have hn2 : (n : Int) ≤ (s.size : Int) := by omega
  go_enter Tryd.func17, Tryd.ntmps17
  go_wp2_with fail
  refine (hnm _).mono ?_
  rintro e w' ⟨rfl, rfl⟩
  clear hnm
  go_wp2_with fail
  refine (hna _).mono ?_
  rintro e w1 ⟨rfl, hB1⟩
  have hA1 := hidden (box_below2 hA0.out hB1)
  have hB2 := hidden (hB0.out.trans (hB1.mono hB0.out.size))
  clear hna hB1 hA0 hB0
  obtain ⟨⟨b0, b1, b2, b3, b4, b5⟩, c0, c1, c2, c3, c4, c5⟩ := box6f hA1.out
  go_wp2
  have hRow := run_loadVar_row (P := Tryd.prog) _ w.heap.size 35 35 _ _ _ (set6 hA1.out (.int .i64 xk) (.string xt) (.int .i64 xa) (.int .i64 xn) (.string xv) (.int .i64 0)) Tryd.underlying35 rfl (by kernel_rfl)
  exact bodyPost_ret ((results_cell_tmp2w rfl _ _ _).trans (by simp [asAddr, hRow, Result.andThen])) rfl ⟨rfl, set6_below hB2.out (Nat.le_refl _) _ _ _ _ _ _⟩
theorem box3v {x : World} {b : Nat} {c0 c1 c2 : Value} {t : TypeId} (h : x.heap[b]? = some (.cells #[c0, c1, c2] t)) : (x.cell? ⟨b, 0, none⟩ = some c0 ∧ x.cell? ⟨b, 1, none⟩ = some c1 ∧ x.cell? ⟨b, 2, none⟩ = some c2) ∧ x.frozen? ⟨b, 0, none⟩ = false ∧ x.frozen? ⟨b, 1, none⟩ = false ∧ x.frozen? ⟨b, 2, none⟩ = false := by
  simp [World.cell?, World.frozen?, h]
set_option maxHeartbeats 6400000 in
set_option maxRecDepth 100000 in
/-- No name. -/
theorem word_no_c (s : ByteArray) (w : World) (h0 : 0 < s.size) (hs : s.size ≤ 1000) (hz : nameLen s = 0) (hsig : ∀ k, k < 22 → w.cell? ⟨0, k, none⟩ = some (.string (siL.getD k ⟨#[]⟩))) :
    Calls Tryd.prog 17 #[.string s] w fun e w' => ∃ x : WR, e = .returned x.v ∧ x.e = (wordS s).e ∧ (x.e = 0 → x = wordS s) ∧ Below w.heap.size w w' := by
  have hg : 0 < w.heap.size := World.block_lt_of_cell? w ⟨0, 0, none⟩ (hsig 0 (by omega))
  have hsg : ∀ x, Below w.heap.size w x → Calls Tryd.prog 37 #[.string s] x fun e w' => e = .returned (.string (bestOf s)) ∧ w' = x := fun x hB => sign_c s x fun k hk => (hB.cell (p := ⟨0, k, none⟩) hg).trans (hsig k hk)
  clear hsig hg
  have hnm := fun x => lxnamed_c s x h0 hs
  rw [hz] at hnm
  have hrd := fun x => read_c s x hs
  have hb0 : ((s[0]).toNat : Int) = byteAt s 0 := byteAt_eq (s := s) (k := 0) h0
  have hd0 := fun x => lxdigit_c (byteAt s 0) x
  have hd1 := fun x => lxdigit_c (byteAt s 1) x
  have hB0 := hidden ((Below.refl w.heap.size w).alloc (Nat.le_refl _) (.cells #[.int .i64 0, .string ⟨#[]⟩, .int .i64 0, .int .i64 0, .string ⟨#[]⟩, .int .i64 0] 35))
  have hA0 := hidden (new6 w (.int .i64 0) (.string ⟨#[]⟩) (.int .i64 0) (.int .i64 0) (.string ⟨#[]⟩) (.int .i64 0) 35)
  have hsiz : (0 : Int) < (s.size : Int) := by omega
  rcases val_ways s with ⟨e1, hv⟩ | ⟨e1, e2, hv⟩ | ⟨e1, e2, e3, e4, hv⟩ | ⟨e1, e2, e3, e4, hv⟩ | ⟨e1, e2, e3, hv⟩
  · rw [e1] at hd0
    replace e1 := hidden e1
    clear hd1
    generalize byteAt s 0 = q0 at *
    have hwv := hidden (word_val s hz hv)
    replace hz := hidden hz
    replace hv := hidden hv
    rw [hwv.out]
    clear hwv hsg
    generalize readS s = y at *
    obtain ⟨yk, yn, yt, ym, ye⟩ := y
    simp only [RR.v] at hrd
    have hfin : Hid (∀ x : WR, x = ⟨3, ⟨#[]⟩, yk, yn, tx yt, ym, ye⟩ → x.e = (if ye = 0 then (⟨3, ⟨#[]⟩, yk, yn, tx yt, ym, 0⟩ : WR) else .bad ye).e ∧ (x.e = 0 → x = if ye = 0 then (⟨3, ⟨#[]⟩, yk, yn, tx yt, ym, 0⟩ : WR) else .bad ye)) := by
      rintro x rfl
      by_cases h : ye = 0
      · subst h; exact ⟨rfl, fun _ => rfl⟩
      · rw [if_neg h]; exact ⟨rfl, fun h2 => absurd h2 h⟩
    simp only
    generalize (if ye = 0 then (⟨3, ⟨#[]⟩, yk, yn, tx yt, ym, 0⟩ : WR) else .bad ye) = Z at *
    generalize tx yt = tt at *
    go_enter Tryd.func17, Tryd.ntmps17
    go_wp2_with fail
    refine (hnm _).mono ?_
    rintro e w' ⟨rfl, rfl⟩
    clear hnm
    go_wp2_with fail
    refine (hd0 _).mono ?_
    rintro e w' ⟨rfl, rfl⟩
    go_wp2_with fail
    refine (hrd _).mono ?_
    rintro e w1 ⟨rfl, hB1⟩
    have hA1 := hidden (box_below2 hA0.out hB1)
    have hB2 := hidden (hB0.out.trans (hB1.mono hB0.out.size))
    have hA2 := hidden ((heap_alloc_old w1 (.cells #[.int .i64 yk, .int .i64 yn, .string tt] 33) (Array.getElem?_eq_some_iff.1 hA1.out).1).trans hA1.out)
    have hB3 : Hid (Below w.heap.size w (w1.alloc (.cells #[.int .i64 yk, .int .i64 yn, .string tt] 33))) := hB2.out.alloc hB2.out.size _
    have hV := hidden (heap_alloc_new w1 (.cells #[.int .i64 yk, .int .i64 yn, .string tt] 33))
    clear hrd hB1 hA0 hB0 hA1 hB2
    obtain ⟨⟨b0, b1, b2, b3, b4, b5⟩, c0, c1, c2, c3, c4, c5⟩ := box6f hA2.out
    obtain ⟨⟨d0, d1, d2⟩, -⟩ := box3v hV.out
    go_wp2
    have hRow := run_loadVar_row (P := Tryd.prog) _ w.heap.size 35 35 _ _ _ (set6 hA2.out (.int .i64 3) (.string ⟨#[]⟩) (.int .i64 yk) (.int .i64 yn) (.string tt) (.int .i64 0)) Tryd.underlying35 rfl (by kernel_rfl)
    exact bodyPost_ret ((results_cell_tmp2w rfl _ _ _).trans (by simp [asAddr, hRow, Result.andThen]; rfl)) rfl ⟨⟨3, ⟨#[]⟩, yk, yn, tt, ym, ye⟩, rfl, (hfin.out _ rfl).1, (hfin.out _ rfl).2, set6_below hB3.out (Nat.le_refl _) _ _ _ _ _ _⟩
  · rw [e1] at hd0
    replace e1 := hidden e1
    clear hd1
    generalize byteAt s 0 = q0 at *
    have hwv := hidden (word_val s hz hv)
    replace hz := hidden hz
    replace hv := hidden hv
    rw [hwv.out]
    clear hwv hsg
    generalize readS s = y at *
    obtain ⟨yk, yn, yt, ym, ye⟩ := y
    simp only [RR.v] at hrd
    have hfin : Hid (∀ x : WR, x = ⟨3, ⟨#[]⟩, yk, yn, tx yt, ym, ye⟩ → x.e = (if ye = 0 then (⟨3, ⟨#[]⟩, yk, yn, tx yt, ym, 0⟩ : WR) else .bad ye).e ∧ (x.e = 0 → x = if ye = 0 then (⟨3, ⟨#[]⟩, yk, yn, tx yt, ym, 0⟩ : WR) else .bad ye)) := by
      rintro x rfl
      by_cases h : ye = 0
      · subst h; exact ⟨rfl, fun _ => rfl⟩
      · rw [if_neg h]; exact ⟨rfl, fun h2 => absurd h2 h⟩
    simp only
    generalize (if ye = 0 then (⟨3, ⟨#[]⟩, yk, yn, tx yt, ym, 0⟩ : WR) else .bad ye) = Z at *
    generalize tx yt = tt at *
    go_enter Tryd.func17, Tryd.ntmps17
    go_wp2_with fail
    refine (hnm _).mono ?_
    rintro e w' ⟨rfl, rfl⟩
    clear hnm
    go_wp2_with fail
    refine (hd0 _).mono ?_
    rintro e w' ⟨rfl, rfl⟩
    go_wp2_with fail
    refine (hrd _).mono ?_
    rintro e w1 ⟨rfl, hB1⟩
    have hA1 := hidden (box_below2 hA0.out hB1)
    have hB2 := hidden (hB0.out.trans (hB1.mono hB0.out.size))
    have hA2 := hidden ((heap_alloc_old w1 (.cells #[.int .i64 yk, .int .i64 yn, .string tt] 33) (Array.getElem?_eq_some_iff.1 hA1.out).1).trans hA1.out)
    have hB3 : Hid (Below w.heap.size w (w1.alloc (.cells #[.int .i64 yk, .int .i64 yn, .string tt] 33))) := hB2.out.alloc hB2.out.size _
    have hV := hidden (heap_alloc_new w1 (.cells #[.int .i64 yk, .int .i64 yn, .string tt] 33))
    clear hrd hB1 hA0 hB0 hA1 hB2
    obtain ⟨⟨b0, b1, b2, b3, b4, b5⟩, c0, c1, c2, c3, c4, c5⟩ := box6f hA2.out
    obtain ⟨⟨d0, d1, d2⟩, -⟩ := box3v hV.out
    go_wp2
    have hRow := run_loadVar_row (P := Tryd.prog) _ w.heap.size 35 35 _ _ _ (set6 hA2.out (.int .i64 3) (.string ⟨#[]⟩) (.int .i64 yk) (.int .i64 yn) (.string tt) (.int .i64 0)) Tryd.underlying35 rfl (by kernel_rfl)
    exact bodyPost_ret ((results_cell_tmp2w rfl _ _ _).trans (by simp [asAddr, hRow, Result.andThen]; rfl)) rfl ⟨⟨3, ⟨#[]⟩, yk, yn, tt, ym, ye⟩, rfl, (hfin.out _ rfl).1, (hfin.out _ rfl).2, set6_below hB3.out (Nat.le_refl _) _ _ _ _ _ _⟩
  · have e5 : (1 : Int) < (s.size : Int) := by omega
    have hb1 : ((s[1]).toNat : Int) = byteAt s 1 := byteAt_eq (s := s) (k := 1) e4
    rw [e1] at hd0
    replace e1 := hidden e1
    cases hq : isDig (byteAt s 1) with
    | true =>
      rw [hq] at hv hd1
      replace hq := hidden hq
      generalize byteAt s 0 = q0 at *
      generalize byteAt s 1 = q1 at *
      have hwv := hidden (word_val s hz hv)
      replace hz := hidden hz
      replace hv := hidden hv
      rw [hwv.out]
      clear hwv hsg
      generalize readS s = y at *
      obtain ⟨yk, yn, yt, ym, ye⟩ := y
      simp only [RR.v] at hrd
      have hfin : Hid (∀ x : WR, x = ⟨3, ⟨#[]⟩, yk, yn, tx yt, ym, ye⟩ → x.e = (if ye = 0 then (⟨3, ⟨#[]⟩, yk, yn, tx yt, ym, 0⟩ : WR) else .bad ye).e ∧ (x.e = 0 → x = if ye = 0 then (⟨3, ⟨#[]⟩, yk, yn, tx yt, ym, 0⟩ : WR) else .bad ye)) := by
        rintro x rfl
        by_cases h : ye = 0
        · subst h; exact ⟨rfl, fun _ => rfl⟩
        · rw [if_neg h]; exact ⟨rfl, fun h2 => absurd h2 h⟩
      simp only
      generalize (if ye = 0 then (⟨3, ⟨#[]⟩, yk, yn, tx yt, ym, 0⟩ : WR) else .bad ye) = Z at *
      generalize tx yt = tt at *
      go_enter Tryd.func17, Tryd.ntmps17
      go_wp2_with fail
      refine (hnm _).mono ?_
      rintro e w' ⟨rfl, rfl⟩
      clear hnm
      go_wp2_with fail
      refine (hd0 _).mono ?_
      rintro e w' ⟨rfl, rfl⟩
      go_wp2_with fail
      refine (hd1 _).mono ?_
      rintro e w' ⟨rfl, rfl⟩
      go_wp2_with fail
      refine (hrd _).mono ?_
      rintro e w1 ⟨rfl, hB1⟩
      have hA1 := hidden (box_below2 hA0.out hB1)
      have hB2 := hidden (hB0.out.trans (hB1.mono hB0.out.size))
      have hA2 := hidden ((heap_alloc_old w1 (.cells #[.int .i64 yk, .int .i64 yn, .string tt] 33) (Array.getElem?_eq_some_iff.1 hA1.out).1).trans hA1.out)
      have hB3 : Hid (Below w.heap.size w (w1.alloc (.cells #[.int .i64 yk, .int .i64 yn, .string tt] 33))) := hB2.out.alloc hB2.out.size _
      have hV := hidden (heap_alloc_new w1 (.cells #[.int .i64 yk, .int .i64 yn, .string tt] 33))
      clear hrd hB1 hA0 hB0 hA1 hB2
      obtain ⟨⟨b0, b1, b2, b3, b4, b5⟩, c0, c1, c2, c3, c4, c5⟩ := box6f hA2.out
      obtain ⟨⟨d0, d1, d2⟩, -⟩ := box3v hV.out
      go_wp2
      have hRow := run_loadVar_row (P := Tryd.prog) _ w.heap.size 35 35 _ _ _ (set6 hA2.out (.int .i64 3) (.string ⟨#[]⟩) (.int .i64 yk) (.int .i64 yn) (.string tt) (.int .i64 0)) Tryd.underlying35 rfl (by kernel_rfl)
      exact bodyPost_ret ((results_cell_tmp2w rfl _ _ _).trans (by simp [asAddr, hRow, Result.andThen]; rfl)) rfl ⟨⟨3, ⟨#[]⟩, yk, yn, tt, ym, ye⟩, rfl, (hfin.out _ rfl).1, (hfin.out _ rfl).2, set6_below hB3.out (Nat.le_refl _) _ _ _ _ _ _⟩
    | false =>
      rw [hq] at hv hd1
      replace hq := hidden hq
      generalize byteAt s 0 = q0 at *
      generalize byteAt s 1 = q1 at *
      have hws := hidden (word_sign s hz hv)
      replace hz := hidden hz
      replace hv := hidden hv
      rw [hws.out]
      clear hws hrd
      generalize bestOf s = B at *
      by_cases hB : B.size = 0
      · rw [if_pos hB]
        have hBe : B = ⟨#[]⟩ := by
          apply ByteArray.ext
          exact Array.eq_empty_of_size_eq_zero hB
        subst hBe
        replace hB := hidden hB
        go_enter Tryd.func17, Tryd.ntmps17
        go_wp2_with fail
        refine (hnm _).mono ?_
        rintro e w' ⟨rfl, rfl⟩
        clear hnm
        go_wp2_with fail
        refine (hd0 _).mono ?_
        rintro e w' ⟨rfl, rfl⟩
        go_wp2_with fail
        refine (hd1 _).mono ?_
        rintro e w' ⟨rfl, rfl⟩
        go_wp2_with fail
        refine (hsg _ hB0.out).mono ?_
        rintro e w1 ⟨rfl, rfl⟩
        clear hsg
        obtain ⟨⟨b0, b1, b2, b3, b4, b5⟩, c0, c1, c2, c3, c4, c5⟩ := box6f hA0.out
        go_wp2
        have hRow := run_loadVar_row (P := Tryd.prog) _ w.heap.size 35 35 _ _ _ (hA0.out) Tryd.underlying35 rfl (by kernel_rfl)
        exact bodyPost_ret ((results_cell_tmp2w rfl _ _ _).trans (by simp [asAddr, hRow, Result.andThen]; rfl)) rfl ⟨.bad 2, rfl, rfl, fun h => (by cases h), hB0.out⟩
      · have hBne : (B.toList == ([] : List UInt8)) = false := by
          rw [Go.ByteArray.toList_eq, beq_eq_false_iff_ne]
          intro h
          apply hB
          have : B.data.toList.length = 0 := by rw [h]; rfl
          simpa using this
        rw [if_neg hB]
        replace hB := hidden hB
        go_enter Tryd.func17, Tryd.ntmps17
        go_wp2_with fail
        refine (hnm _).mono ?_
        rintro e w' ⟨rfl, rfl⟩
        clear hnm
        go_wp2_with fail
        refine (hd0 _).mono ?_
        rintro e w' ⟨rfl, rfl⟩
        go_wp2_with fail
        refine (hd1 _).mono ?_
        rintro e w' ⟨rfl, rfl⟩
        go_wp2_with fail
        refine (hsg _ hB0.out).mono ?_
        rintro e w1 ⟨rfl, rfl⟩
        clear hsg
        have hA1 := hidden (new6 w (.int .i64 4) (.string B) (.int .i64 0) (.int .i64 0) (.string ⟨#[]⟩) (.int .i64 0) 35)
        have hB1 := hidden ((Below.refl w.heap.size w).alloc (Nat.le_refl _) (.cells #[.int .i64 4, .string B, .int .i64 0, .int .i64 0, .string ⟨#[]⟩, .int .i64 0] 35))
        go_wp2
        have hRow := run_loadVar_row (P := Tryd.prog) _ w.heap.size 35 35 _ _ _ hA1.out Tryd.underlying35 rfl (by kernel_rfl)
        exact bodyPost_ret ((results_cell_tmp2w rfl _ _ _).trans (by simp [asAddr, hRow, Result.andThen]; rfl)) rfl ⟨⟨4, B, 0, 0, ⟨#[]⟩, B.size, 0⟩, rfl, rfl, fun _ => rfl, hB1.out⟩
  · have e5 : ¬ (1 : Int) < (s.size : Int) := by omega
    rw [e1] at hd0
    replace e1 := hidden e1
    clear hd1
    generalize byteAt s 0 = q0 at *
    have hws := hidden (word_sign s hz hv)
    replace hz := hidden hz
    replace hv := hidden hv
    rw [hws.out]
    clear hws hrd
    generalize bestOf s = B at *
    by_cases hB : B.size = 0
    · rw [if_pos hB]
      have hBe : B = ⟨#[]⟩ := by
        apply ByteArray.ext
        exact Array.eq_empty_of_size_eq_zero hB
      subst hBe
      replace hB := hidden hB
      go_enter Tryd.func17, Tryd.ntmps17
      go_wp2_with fail
      refine (hnm _).mono ?_
      rintro e w' ⟨rfl, rfl⟩
      clear hnm
      go_wp2_with fail
      refine (hd0 _).mono ?_
      rintro e w' ⟨rfl, rfl⟩
      go_wp2_with fail
      refine (hsg _ hB0.out).mono ?_
      rintro e w1 ⟨rfl, rfl⟩
      clear hsg
      obtain ⟨⟨b0, b1, b2, b3, b4, b5⟩, c0, c1, c2, c3, c4, c5⟩ := box6f hA0.out
      go_wp2
      have hRow := run_loadVar_row (P := Tryd.prog) _ w.heap.size 35 35 _ _ _ (hA0.out) Tryd.underlying35 rfl (by kernel_rfl)
      exact bodyPost_ret ((results_cell_tmp2w rfl _ _ _).trans (by simp [asAddr, hRow, Result.andThen]; rfl)) rfl ⟨.bad 2, rfl, rfl, fun h => (by cases h), hB0.out⟩
    · have hBne : (B.toList == ([] : List UInt8)) = false := by
        rw [Go.ByteArray.toList_eq, beq_eq_false_iff_ne]
        intro h
        apply hB
        have : B.data.toList.length = 0 := by rw [h]; rfl
        simpa using this
      rw [if_neg hB]
      replace hB := hidden hB
      go_enter Tryd.func17, Tryd.ntmps17
      go_wp2_with fail
      refine (hnm _).mono ?_
      rintro e w' ⟨rfl, rfl⟩
      clear hnm
      go_wp2_with fail
      refine (hd0 _).mono ?_
      rintro e w' ⟨rfl, rfl⟩
      go_wp2_with fail
      refine (hsg _ hB0.out).mono ?_
      rintro e w1 ⟨rfl, rfl⟩
      clear hsg
      have hA1 := hidden (new6 w (.int .i64 4) (.string B) (.int .i64 0) (.int .i64 0) (.string ⟨#[]⟩) (.int .i64 0) 35)
      have hB1 := hidden ((Below.refl w.heap.size w).alloc (Nat.le_refl _) (.cells #[.int .i64 4, .string B, .int .i64 0, .int .i64 0, .string ⟨#[]⟩, .int .i64 0] 35))
      go_wp2
      have hRow := run_loadVar_row (P := Tryd.prog) _ w.heap.size 35 35 _ _ _ hA1.out Tryd.underlying35 rfl (by kernel_rfl)
      exact bodyPost_ret ((results_cell_tmp2w rfl _ _ _).trans (by simp [asAddr, hRow, Result.andThen]; rfl)) rfl ⟨⟨4, B, 0, 0, ⟨#[]⟩, B.size, 0⟩, rfl, rfl, fun _ => rfl, hB1.out⟩
  · rw [e1] at hd0
    replace e1 := hidden e1
    clear hd1
    generalize byteAt s 0 = q0 at *
    have hws := hidden (word_sign s hz hv)
    replace hz := hidden hz
    replace hv := hidden hv
    rw [hws.out]
    clear hws hrd
    generalize bestOf s = B at *
    by_cases hB : B.size = 0
    · rw [if_pos hB]
      have hBe : B = ⟨#[]⟩ := by
        apply ByteArray.ext
        exact Array.eq_empty_of_size_eq_zero hB
      subst hBe
      replace hB := hidden hB
      go_enter Tryd.func17, Tryd.ntmps17
      go_wp2_with fail
      refine (hnm _).mono ?_
      rintro e w' ⟨rfl, rfl⟩
      clear hnm
      go_wp2_with fail
      refine (hd0 _).mono ?_
      rintro e w' ⟨rfl, rfl⟩
      go_wp2_with fail
      refine (hsg _ hB0.out).mono ?_
      rintro e w1 ⟨rfl, rfl⟩
      clear hsg
      obtain ⟨⟨b0, b1, b2, b3, b4, b5⟩, c0, c1, c2, c3, c4, c5⟩ := box6f hA0.out
      go_wp2
      have hRow := run_loadVar_row (P := Tryd.prog) _ w.heap.size 35 35 _ _ _ (hA0.out) Tryd.underlying35 rfl (by kernel_rfl)
      exact bodyPost_ret ((results_cell_tmp2w rfl _ _ _).trans (by simp [asAddr, hRow, Result.andThen]; rfl)) rfl ⟨.bad 2, rfl, rfl, fun h => (by cases h), hB0.out⟩
    · have hBne : (B.toList == ([] : List UInt8)) = false := by
        rw [Go.ByteArray.toList_eq, beq_eq_false_iff_ne]
        intro h
        apply hB
        have : B.data.toList.length = 0 := by rw [h]; rfl
        simpa using this
      rw [if_neg hB]
      replace hB := hidden hB
      go_enter Tryd.func17, Tryd.ntmps17
      go_wp2_with fail
      refine (hnm _).mono ?_
      rintro e w' ⟨rfl, rfl⟩
      clear hnm
      go_wp2_with fail
      refine (hd0 _).mono ?_
      rintro e w' ⟨rfl, rfl⟩
      go_wp2_with fail
      refine (hsg _ hB0.out).mono ?_
      rintro e w1 ⟨rfl, rfl⟩
      clear hsg
      have hA1 := hidden (new6 w (.int .i64 4) (.string B) (.int .i64 0) (.int .i64 0) (.string ⟨#[]⟩) (.int .i64 0) 35)
      have hB1 := hidden ((Below.refl w.heap.size w).alloc (Nat.le_refl _) (.cells #[.int .i64 4, .string B, .int .i64 0, .int .i64 0, .string ⟨#[]⟩, .int .i64 0] 35))
      go_wp2
      have hRow := run_loadVar_row (P := Tryd.prog) _ w.heap.size 35 35 _ _ _ hA1.out Tryd.underlying35 rfl (by kernel_rfl)
      exact bodyPost_ret ((results_cell_tmp2w rfl _ _ _).trans (by simp [asAddr, hRow, Result.andThen]; rfl)) rfl ⟨⟨4, B, 0, 0, ⟨#[]⟩, B.size, 0⟩, rfl, rfl, fun _ => rfl, hB1.out⟩
set_option maxHeartbeats 800000 in
theorem word_c (s : ByteArray) (w : World) (h0 : 0 < s.size) (hs : s.size ≤ 1000) (hsig : ∀ k, k < 22 → w.cell? ⟨0, k, none⟩ = some (.string (siL.getD k ⟨#[]⟩))) :
    Calls Tryd.prog 17 #[.string s] w fun e w' => ∃ x : WR, e = .returned x.v ∧ x.e = (wordS s).e ∧ (x.e = 0 → x = wordS s) ∧ Below w.heap.size w w' := by
  by_cases hn : 0 < nameLen s
  · exact (word_name_c s w h0 hs hn).mono fun e w' ⟨he, hB⟩ => ⟨_, he, rfl, fun _ => rfl, hB⟩
  · exact word_no_c s w h0 hs (by omega) hsig
end Go.Proofs.YtddmdieeljjamaaDoor
