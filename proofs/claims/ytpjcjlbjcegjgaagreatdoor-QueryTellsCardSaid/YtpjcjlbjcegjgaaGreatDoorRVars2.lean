/-
  THE VARIABLES OF A QUERY, each once: the reference's, by contract.
-/
import Derived.Test.YtpjcjlbjcegjgaaGreatDoorQTests
namespace Go.Proofs.YtpjcjlbjcegjgaaGreatDoor
open Go.ChangeShapes Go.WideShapes Go.ChangeAt Go.RowKit

set_option maxRecDepth 100000 in
set_option maxHeartbeats 1600000 in
theorem rplaceT_c (L : List ByteArray) (s : ByteArray) (a : Option Addr) (c : Nat) (w : World) (h : RowAt w a (tx L)) (hl : L.length ≤ 90000) :
    Calls Tryz.prog 22 #[.slice a L.length c, .string s] w fun e w' => ∃ r : Int, e = .returned (.int .i64 r) ∧ (r < 0 ↔ s ∉ L) ∧ w' = w := by
  obtain ⟨N, hN⟩ : ∃ N, N = L.length := ⟨_, rfl⟩
  rw [← hN] at hl ⊢
  replace hN := hidden hN
  replace h := hidden h
  go_enter Tryz.func22, Tryz.ntmps22
  go_wp2
  go_loop [5] (fun i => ∃ k : Nat, i = .int .i64 k ∧ k ≤ N ∧ Hid (∀ j, j < k → ∀ x, L[j]? = some x → x ≠ s)) (fun i => N - (intOf i).toNat)
  case atStart => exact ⟨0, rfl, Nat.zero_le _, fun j hj => absurd hj (Nat.not_lt_zero _)⟩
  case round =>
    obtain ⟨k, rfl, hk, hno⟩ := hrel
    by_cases hlt : k < N
    · have hj1 : (k : Int) < (N : Int) := by omega
      have hkp : k < L.length := by rw [← hN.out]; exact hlt
      obtain ⟨b, off, rfl, hb, f0⟩ := txt_at h.out hkp
      have hget : Hid (L[k]? = some (L.getD k ⟨#[]⟩)) := hidden (by simp [List.getD, hkp])
      generalize L.getD k ⟨#[]⟩ = p at *
      by_cases hs : p = s
      · subst hs
        have hin : Hid (p ∈ L) := hidden (List.mem_of_getElem? hget.out)
        go_wp2
        go_ret
        exact ⟨_, rfl, ⟨fun h => by omega, fun h => absurd hin.out h⟩, rfl⟩
      · have he2 : ¬ p.toList = s.toList := fun h => hs (txt_inj h)
        have he1 : (p.toList == s.toList) = false := by simpa using he2
        have hno2 : Hid (∀ j, j < k + 1 → ∀ x, L[j]? = some x → x ≠ s) := by
          intro j hj x hx
          by_cases hjk : j < k
          · exact hno.out j hjk x hx
          · obtain rfl : j = k := by omega
            rw [hget.out] at hx
            cases hx
            exact hs
        clear hno hs hget
        go_wp2
        go_round
        case rel => exact ⟨k + 1, by go_num, by omega, hno2⟩
        case measure => simp [intOf]; omega
    · have hj1 : ¬ (k : Int) < (N : Int) := by omega
      have hout : Hid (s ∉ L) := by
        intro hm
        obtain ⟨j, hj, he⟩ := List.getElem_of_mem hm
        exact hno.out j (by have := hN.out; omega) s (by rw [List.getElem?_eq_getElem hj, he]) rfl
      go_wp2
      go_ret
      exact ⟨_, rfl, ⟨fun _ => hout.out, fun _ => by omega⟩, rfl⟩
open Classical in
noncomputable def addV (L : List ByteArray) (s : ByteArray) : List ByteArray := if s ∈ L then L else L ++ [s]
noncomputable def varsQ (ps : List Pl) : List ByteArray := (ps.map Pl.v).foldl addV []
theorem varsQ_snoc (ps : List Pl) (k : Nat) (hk : k < ps.length) : varsQ (ps.take (k + 1)) = addV (varsQ (ps.take k)) (ps.getD k Pl.none).v := by
  unfold varsQ
  rw [take_snocR ps Pl.none k hk, List.map_append, List.foldl_append]
  rfl
theorem addV_le (l : List ByteArray) : ∀ acc, (l.foldl addV acc).length ≤ acc.length + l.length := by
  induction l with
  | nil => intro acc; simp
  | cons s l ih =>
    intro acc
    have h := ih (addV acc s)
    have h2 : (addV acc s).length ≤ acc.length + 1 := by
      unfold addV
      split <;> simp
    simp only [List.foldl_cons, List.length_cons]
    omega
theorem varsQ_le (ps : List Pl) : (varsQ ps).length ≤ ps.length := by
  have h := addV_le (ps.map Pl.v) []
  simpa [varsQ] using h
end Go.Proofs.YtpjcjlbjcegjgaaGreatDoor
/-
  THE VARIABLES OF A QUERY, each once: the reference's walk.
-/
namespace Go.Proofs.YtpjcjlbjcegjgaaGreatDoor
open Go.ChangeShapes Go.WideShapes Go.ChangeAt Go.RowKit

theorem owns_tx {w : World} {B t n m c : Nat} {a : Option Addr} {L : List ByteArray} (h : w.ownsRow B t 1 (.slice a n c) m (tx L)) : RowAt w a (tx L) := by
  obtain ⟨a', c', he, hr⟩ := holds_of_owns h
  simp only [Value.slice.injEq] at he
  obtain ⟨rfl, _, _⟩ := he
  exact hr
set_option maxRecDepth 100000 in
set_option maxHeartbeats 3200000 in
theorem rvarsQ_c (ps : List Pl) (na : Option Addr) (N0 nc : Nat) (ea : Option Addr) (M0 ec : Nat) (ra : Option Addr) (R0 rc : Nat) (qc : Bool) (sk li : Int) (ct : Bool) (w : World) (hE : HoldsP w (.slice na N0 nc) ps) (hl : ps.length ≤ 90000) :
    Calls Tryz.prog 9 #[.agg #[.slice na N0 nc, .slice ea M0 ec, .slice ra R0 rc, .bool qc, .int .i64 sk, .int .i64 li, .bool ct]] w fun e w' => ∃ a c, e = .returned (.slice a (varsQ ps).length c) ∧ w'.ownsRow (w.heap.size + 1) 9 1 (.slice a (varsQ ps).length c) (varsQ ps).length (tx (varsQ ps)) ∧ Below w.heap.size w w' := by
  obtain ⟨_, _, hv⟩ := hE.slice
  simp only [Value.slice.injEq] at hv
  obtain ⟨-, hM, -⟩ := hv
  rw [← hM] at hl
  replace hM := hidden hM
  replace hE := hidden hE
  obtain ⟨ix, hix, hx0, hx1, hx2⟩ := info_parts infoTxt
  have hT0 := hidden (TR.made0 w #[.slice na N0 nc, .slice ea M0 ec, .slice ra R0 rc, .bool qc, .int .i64 sk, .int .i64 li, .bool ct])
  go_enter Tryz.func9, Tryz.ntmps9
  go_wp2
  go_loopw [3, 4] (fun u i x => ∃ (k : Nat) (L : List ByteArray), i = .int .i64 k ∧ k ≤ N0 ∧ Hid (L = varsQ (ps.take k)) ∧ Hid (TR w x #[.slice na N0 nc, .slice ea M0 ec, .slice ra R0 rc, .bool qc, .int .i64 sk, .int .i64 li, .bool ct] u L)) (fun _ i _ => N0 - (intOf i).toNat)
  case atStart => exact ⟨0, [], rfl, Nat.zero_le _, rfl, hT0⟩
  case round =>
    clear hT0
    obtain ⟨k, L, rfl, hk, hL, hT⟩ := hrel
    obtain ⟨⟨g0, g1, g2, g3, g4, g5, g6⟩, -⟩ := box7q hT.out.box
    obtain ⟨ua, uc, rfl⟩ := own_shape hT.out.row
    by_cases hlt : k < N0
    · have hj1 : (k : Int) < (N0 : Int) := by omega
      have hkp : k < ps.length := by rw [← hM.out]; exact hlt
      obtain ⟨b, off, pta, ptc, rfl, hb, c0, -, -, -⟩ := place_at hE.out hkp
      have f0 := (hT.out.below.cell (p := ⟨b, off + k * 3, none⟩) hb).trans c0
      have hsn := hidden (varsQ_snoc ps k hkp)
      have hlen : Hid (L.length ≤ k) := by
        show _ ≤ _
        rw [hL.out]
        exact Nat.le_trans (varsQ_le _) (by simp; omega)
      clear c0
      generalize (ps.getD k Pl.none).v = s at *
      have hbs : Hid (w.heap.size + 1 ≤ wr.heap.size) := by show _ ≤ _; have := (Array.getElem?_eq_some_iff.1 hT.out.box).1; omega
      have hpl := rplaceT_c L s ua uc wr (owns_tx hT.out.row) (by have := hlen.out; omega)
      rw [← hL.out] at hsn
      unfold addV at hsn
      go_wp2_with fail
      refine hpl.mono ?_
      rintro e w' ⟨r, rfl, hr, rfl⟩
      by_cases hs : s ∈ L
      · have hr1 : ¬ r < 0 := fun h => hr.1 h hs
        have hL2 : Hid (L = varsQ (ps.take (k + 1))) := by
          show _ = _
          rw [hsn.out, if_pos hs]
        clear hL hsn hr hs hpl
        go_wp2
        go_roundw
        case rel => exact ⟨k + 1, L, by go_num, by omega, hL2, hT⟩
        case measure => simp [intOf]; omega
      · have hr1 : r < 0 := hr.2 hs
        have hL2 : Hid (L ++ [s] = varsQ (ps.take (k + 1))) := by
          show _ = _
          rw [hsn.out, if_neg hs]
        clear hL hsn hr hs hpl
        go_wp2_with (at_builtin; go_loud (refine wpList_append_own _ rfl _ _ 24 rfl (w.heap.size + 1) 9 ix (.string ⟨#[]⟩) 1 16 Tryz.underlying24 hix hx0 hx1 hx2 rfl (by decide) (.slice ua L.length uc) _ _ rfl (hT.out.row.alloc _) ⟨_, 0, none⟩ 1 1 [.string s] rfl rfl (cells_new _ [_] _) (by simp [Value.oneCell']) (by have := hlen.out; unfold maxLen; omega) (by have := hlen.out; omega) (by have := hbs.out; simp; omega) ?_); intro v' w6 hown6 hgrow6 _)
        have hT2 := hidden ((hT.out.step ((Below.refl _ _).alloc (Nat.le_refl _) (.cells #[.string s] 9))).next hown6 hgrow6)
        clear hT hown6 hgrow6 hbs hlen g0 g1 g2 g3 g4 g5 g6 f0
        go_wp2
        go_roundw
        case rel => exact ⟨k + 1, _, by go_num, by omega, hL2, hT2⟩
        case measure => simp [intOf]; omega
    · have hj1 : ¬ (k : Int) < (N0 : Int) := by omega
      have hL2 : Hid (L = varsQ ps) := by
        show _ = _
        rw [hL.out, List.take_of_length_le (by rw [← hM.out]; omega)]
      go_wp2
      go_ret
      obtain rfl := hL2.out
      exact ⟨ua, uc, rfl, hT.out.row, hT.out.below⟩
end Go.Proofs.YtpjcjlbjcegjgaaGreatDoor
