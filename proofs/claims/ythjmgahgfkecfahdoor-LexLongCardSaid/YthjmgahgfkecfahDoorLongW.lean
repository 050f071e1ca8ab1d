/-
  TEXTS OF ONE BYTE, OVER AND OVER: blank, word and what they call, by contract.
-/
import Derived.Test.YthjmgahgfkecfahDoorSignT
import Derived.BigQuiet
namespace Go.Proofs.YthjmgahgfkecfahDoor
open Go.ChangeShapes Go.WideShapes Go.ChangeAt Go.RowKit

theorem hiddenW {p : Prop} (h : p) : Hid p := h
/-- n bytes c. -/
def Rep (s : ByteArray) (n : Nat) (c : UInt8) : Prop := s.data.toList = List.replicate n c
theorem Rep.size {s : ByteArray} {n : Nat} {c : UInt8} (h : Rep s n c) : s.size = n := by
  have : s.data.toList.length = n := by rw [h]; simp
  simpa using this
theorem Rep.at' {s : ByteArray} {n : Nat} {c : UInt8} (h : Rep s n c) {k : Nat} (hk : k < s.size) : ((s[k]).toNat : Int) = (c.toNat : Int) := by
  have hl : k < s.data.toList.length := by simpa using hk
  have e : s[k] = s.data.toList[k] := rfl
  have e2 : s.data.toList[k]? = some c := by
    rw [h, List.getElem?_replicate]
    have := h.size
    rw [if_pos (by omega)]
  rw [List.getElem?_eq_getElem hl] at e2
  rw [e, Option.some.inj e2]
theorem Rep.from {s : ByteArray} {n : Nat} {c : UInt8} (h : Rep s n c) (k : Nat) : Rep (s.extract k s.size) (n - k) c := by
  unfold Rep
  rw [ByteArray.data_extract, Array.toList_extract, h.size, h]
  simp [List.extract_eq_take_drop]
theorem Rep.pref_one {s : ByteArray} {n : Nat} (h : Rep s (n + 1) 44) : pref s ⟨#[44]⟩ = true := by
  refine pref_yes (by rw [h.size]; show 1 ≤ n + 1; omega) ?_
  refine ByteArray.ext (Array.ext' ?_)
  rw [ByteArray.data_extract, Array.toList_extract, h]
  show (List.replicate (n + 1) (44 : UInt8)).extract 0 1 = [44]
  simp [List.extract_eq_take_drop]
theorem Rep.pref_not {s : ByteArray} {n : Nat} (h : Rep s (n + 1) 44) {t : ByteArray} {x : UInt8} {l : List UInt8} (ht : t.data.toList = x :: l) (hx : x ≠ 44) : pref s t = false := by
  by_cases h1 : t.size ≤ s.size
  · refine pref_no2 fun e => ?_
    have e2 : (s.extract 0 t.size).data.toList = t.data.toList := by rw [e]
    rw [ByteArray.data_extract, Array.toList_extract, h, ht] at e2
    have hs : 0 < t.size := by
      have : t.data.toList.length = t.size := by simp
      rw [ht] at this; simp at this; omega
    obtain ⟨m, hm⟩ : ∃ m, t.size = m + 1 := ⟨t.size - 1, by omega⟩
    rw [hm] at e2
    simp [List.extract_eq_take_drop, List.replicate_succ] at e2
    exact hx e2.1.symm
  · exact pref_no1 h1
theorem Rep.best {s : ByteArray} {n : Nat} (h : Rep s (n + 1) 44) : bestOf s = ⟨#[44]⟩ := by
  have hy := h.pref_one
  have hn := fun (x : UInt8) (l : List UInt8) (hx : x ≠ 44) => h.pref_not (t := ⟨(x :: l).toArray⟩) (x := x) (l := l) rfl hx
  have z1 : (⟨#[44]⟩ : ByteArray).size = 1 := rfl
  have z0 : (⟨#[]⟩ : ByteArray).size = 0 := rfl
  simp only [bestOf, siL, List.foldl_cons, List.foldl_nil, bestStep]
  simp [hy, hn 45 [91] (by decide), hn 93 [45, 62] (by decide), hn 60 [45, 91] (by decide), hn 93 [45] (by decide), hn 40 [] (by decide), hn 41 [] (by decide), hn 123 [] (by decide), hn 125 [] (by decide), hn 58 [] (by decide), hn 46 [] (by decide), hn 124 [] (by decide),
    hn 94 [] (by decide), hn 42 [] (by decide), hn 43 [] (by decide), hn 63 [] (by decide), hn 61 [] (by decide), hn 60 [62] (by decide), hn 60 [] (by decide), hn 60 [61] (by decide), hn 62 [] (by decide), hn 62 [61] (by decide), z0, z1]

theorem blank_c (b : Int) (w : World) (hb : b = 32 ∨ b = 44) : Calls Tryd.prog 7 #[.int .u8 b] w fun e w' => e = .returned (.bool (b == 32)) ∧ w' = w := by
  rcases hb with rfl | rfl
  · go_enter Tryd.func7, Tryd.ntmps7
    go_wp2
    go_ret
    exact ⟨rfl, rfl⟩
  · go_enter Tryd.func7, Tryd.ntmps7
    go_wp2
    go_ret
    exact ⟨rfl, rfl⟩
theorem letter44_c (w : World) : Calls Tryd.prog 14 #[.int .u8 44] w fun e w' => e = .returned (.bool false) ∧ w' = w := by
  go_enter Tryd.func14, Tryd.ntmps14
  go_wp2
  go_ret
  exact ⟨rfl, rfl⟩
theorem digit44_c (w : World) : Calls Tryd.prog 11 #[.int .u8 44] w fun e w' => e = .returned (.bool false) ∧ w' = w := by
  go_enter Tryd.func11, Tryd.ntmps11
  go_wp2
  go_ret
  exact ⟨rfl, rfl⟩
set_option maxRecDepth 100000 in
theorem named_c (s : ByteArray) (n : Nat) (w : World) (h : Rep s (n + 1) 44) : Calls Tryd.prog 9 #[.string s] w fun e w' => e = .returned (.int .i64 0) ∧ w' = w := by
  have hz := h.size
  have h0 : 0 < s.size := by omega
  have hb := h.at' h0
  have hb : ((s[0]).toNat : Int) = 44 := hb
  clear h
  go_enter Tryd.func9, Tryd.ntmps9
  go_wp2_with (go_at_call 14; refine (letter44_c _).mono ?_; rintro e w' ⟨rfl, rfl⟩)
  go_ret
  exact ⟨rfl, rfl⟩
theorem results_cell_tmp2 {fn : Func} {p u v : Tmp} {ty : TypeId} (h : fn.results = #[.cell p ty, .tmp u, .tmp v]) (tmps : Array Value) (P : Program) (w : World) :
    (results fn tmps).run P w =
      ((asAddr (tmps.getD p undef)).run P w).andThen fun a w₁ => ((loadVar ty a).run P w₁).andThen fun x w₂ => .ok (.tuple #[x, tmps.getD u undef, tmps.getD v undef]) w₂ := by
  simp only [results, h]
  simp [Sem.run_bind, Result.andThen]
/-- The word ',', not yet at its place. -/
def comma : Value := .agg #[.int .i64 4, .string ⟨#[44]⟩, .int .i64 0, .int .i64 0, .string ⟨#[]⟩, .int .i64 0]
set_option maxHeartbeats 1600000 in
set_option maxRecDepth 100000 in
theorem word_c (s : ByteArray) (n : Nat) (w : World) (h : Rep s (n + 1) 44) (hsig : ∀ k, k < 22 → w.cell? ⟨0, k, none⟩ = some (.string (siL.getD k ⟨#[]⟩))) :
    Calls Tryd.prog 8 #[.string s] w fun e w' => e = .returned (.tuple #[comma, .int .i64 1, .int .i64 0]) ∧ Below w.heap.size w w' := by
  have hg : 0 < w.heap.size := World.block_lt_of_cell? w ⟨0, 0, none⟩ (hsig 0 (by omega))
  have hB : ∀ o, Below w.heap.size w (w.alloc o) := fun o => (Below.refl _ _).alloc (Nat.le_refl _) o
  have hsg := fun o => sign_c s (w.alloc o) fun k hk => ((hB o).cell (p := ⟨0, k, none⟩) hg).trans (hsig k hk)
  rw [h.best] at hsg
  have hnm := fun w => named_c s n w h
  have hz := h.size
  have h0 : 0 < s.size := by omega
  have hb := h.at' h0
  have hb : ((s[0]).toNat : Int) = 44 := hb
  clear h hsig hg
  go_enter Tryd.func8, Tryd.ntmps8
  go_wp2_with (first
    | (go_at_call 9; refine (hnm _).mono ?_; rintro e w' ⟨rfl, rfl⟩)
    | (go_at_call 11; refine (digit44_c _).mono ?_; rintro e w' ⟨rfl, rfl⟩)
    | (go_at_call 13; refine (hsg _).mono ?_; rintro e w' ⟨rfl, rfl⟩))
  have hh : (w.alloc (.cells #[.int .i64 4, .string ⟨#[44]⟩, .int .i64 0, .int .i64 0, .string ⟨#[]⟩, .int .i64 0] 32)).heap[w.heap.size]? = some (.cells #[.int .i64 4, .string ⟨#[44]⟩, .int .i64 0, .int .i64 0, .string ⟨#[]⟩, .int .i64 0] 32) := by show (w.heap.push _)[w.heap.size]? = _; simp
  have hRow := run_loadVar_row (P := Tryd.prog) _ w.heap.size 32 32 _ _ _ hh Tryd.underlying32 rfl (by kernel_rfl)
  exact bodyPost_ret (v := .tuple #[comma, .int .i64 1, .int .i64 0]) ((results_cell_tmp2 rfl _ _ _).trans (by simp [asAddr, hRow, Result.andThen, comma])) rfl ⟨rfl, hB _⟩
end Go.Proofs.YthjmgahgfkecfahDoor
