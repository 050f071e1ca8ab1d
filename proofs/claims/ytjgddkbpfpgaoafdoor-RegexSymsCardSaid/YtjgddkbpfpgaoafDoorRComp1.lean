/-
  STEPS AS THEY ARE TAKEN TOGETHER (slices.Compact): mathematics, and a row that is written.
-/
import Derived.Test.YtjgddkbpfpgaoafDoorRSort
import Derived.Laws.IdiomCopy
namespace Go.Proofs.YtjgddkbpfpgaoafDoor
open Go.ChangeShapes Go.WideShapes Go.ChangeAt Go.RowKit

def sy0 : Sy := (⟨#[]⟩, false)
def cptS (acc : List Sy) (x : Sy) : List Sy := if acc.getLast? = some x then acc else acc ++ [x]
/-- Runs of equal steps, one of each. -/
def cpt (L : List Sy) : List Sy := L.foldl cptS []
theorem cpt_snoc (L : List Sy) (x : Sy) : cpt (L ++ [x]) = cptS (cpt L) x := by simp [cpt]
theorem cpt_take (L : List Sy) {k : Nat} (hk : k < L.length) : cpt (L.take (k + 1)) = cptS (cpt (L.take k)) (L.getD k sy0) := by
  rw [take_snocR L sy0 k hk, cpt_snoc]
theorem cptS_last (acc : List Sy) (x : Sy) : (cptS acc x).getLast? = some x := by
  unfold cptS
  split
  · assumption
  · simp
theorem cpt_take_last (L : List Sy) {k : Nat} (h1 : 1 ≤ k) (hk : k ≤ L.length) : (cpt (L.take k)).getLast? = some (L.getD (k - 1) sy0) := by
  have := cpt_take L (k := k - 1) (by omega)
  rw [show k - 1 + 1 = k by omega] at this
  rw [this, cptS_last]
/-- One that stays. -/
theorem cpt_keep (L : List Sy) {k : Nat} (h1 : 1 ≤ k) (hk : k < L.length) (hne : L.getD k sy0 ≠ L.getD (k - 1) sy0) : cpt (L.take (k + 1)) = cpt (L.take k) ++ [L.getD k sy0] := by
  rw [cpt_take L hk, cptS, if_neg]
  rw [cpt_take_last L h1 (by omega)]
  intro h
  exact hne (Option.some.inj h).symm
/-- One that goes. -/
theorem cpt_drop (L : List Sy) {k : Nat} (h1 : 1 ≤ k) (hk : k < L.length) (he : L.getD k sy0 = L.getD (k - 1) sy0) : cpt (L.take (k + 1)) = cpt (L.take k) := by
  rw [cpt_take L hk, cptS, if_pos]
  rw [cpt_take_last L h1 (by omega), he]
theorem cpt_one (L : List Sy) (h : 1 ≤ L.length) : cpt (L.take 1) = L.take 1 := by
  obtain ⟨x, L, rfl⟩ : ∃ x L', L = x :: L' := by cases L with
    | nil => simp at h
    | cons x L' => exact ⟨x, L', rfl⟩
  simp [cpt, cptS]

theorem lt_setCells {g b : Nat} : ∀ (vs : List Value) (o : Nat) (w : World), b < w.heap.size → b < (w.setCells g o vs).heap.size
  | [], _, _, h => h
  | v :: vs, o, w, h => lt_setCells vs (o + 1) (w.setCell ⟨g, o, none⟩ v) (by simpa [World.setCell] using h)
theorem below_setCellsR {B g : Nat} (hg : B ≤ g) {a : World} : ∀ (vs : List Value) (o : Nat) (w : World), Below B a w → Below B a (w.setCells g o vs)
  | [], _, _, h => h
  | v :: vs, o, w, h => below_setCellsR hg vs (o + 1) (w.setCell ⟨g, o, none⟩ v) (h.setCell (p := ⟨g, o, none⟩) hg v)
/-- A row that is written. -/
structure RS (w : World) (g : Nat) (L : List Sy) : Prop where
  cell : ∀ k, k < L.length → w.cell? ⟨g, k * 2, none⟩ = some (.string (L.getD k sy0).1) ∧ w.cell? ⟨g, k * 2 + 1, none⟩ = some (.bool (L.getD k sy0).2)
  fr : ∀ k, w.frozen? ⟨g, k, none⟩ = false
  lt : g < w.heap.size
theorem RS.of_own {w : World} {B g n cap : Nat} {L : List Sy} (h : w.ownsRow B 23 2 (.slice (some ⟨g, 0, none⟩) n cap) n (syR.flat L)) : RS w g L := by
  refine ⟨fun k hk => ⟨?_, ?_⟩, fun k => h.frozenAt k, ?_⟩
  · have := Rec.flat_at (R := syR) L k 0 hk (by show 0 < 2; omega)
    exact own_cell h this
  · have := Rec.flat_at (R := syR) L k 1 hk (by show 1 < 2; omega)
    exact own_cell h this
  · rcases h.2 with ⟨e, _⟩ | ⟨g', cap', cur, e, _, hc, _⟩
    · cases e
    · simp only [Value.slice.injEq, Option.some.injEq, Addr.mk.injEq, and_true, true_and] at e
      obtain ⟨rfl, _⟩ := e
      exact (Array.getElem?_eq_some_iff.1 hc).1
theorem RS.drew {w : World} {g : Nat} {L : List Sy} (h : RS w g L) : RS w.drew g L := ⟨h.cell, h.fr, h.lt⟩
/-- A step written. -/
def put2 (w : World) (g k : Nat) (u : Sy) : World := (w.setCell ⟨g, k * 2, none⟩ (.string u.1)).setCell ⟨g, k * 2 + 1, none⟩ (.bool u.2)
theorem RS.put {w : World} {g : Nat} {L : List Sy} (h : RS w g L) (k : Nat) (hk : k < L.length) (u : Sy) : RS (put2 w g k u) g (L.set k u) := by
  have e : put2 w g k u = w.setCells g (k * 2) [.string u.1, .bool u.2] := rfl
  rw [e]
  refine ⟨fun j hj => ?_, fun j => (World.frozen?_setCells g _ _ w _).trans (h.fr j), lt_setCells _ _ _ h.lt⟩
  rw [List.length_set] at hj
  obtain ⟨c0, c1⟩ := h.cell k hk
  by_cases ejk : j = k
  · subst ejk
    have e2 : (L.set j u).getD j sy0 = u := by simp [List.getD, hj]
    rw [e2]
    have hin := World.cell?_setCells_in g [.string u.1, .bool u.2] (j * 2) w (fun i hi => by
      rcases (by simp at hi; omega : i = 0 ∨ i = 1) with rfl | rfl
      · rw [Nat.add_zero, c0]; rfl
      · rw [c1]; rfl)
    exact ⟨hin 0 (by simp), hin 1 (by simp)⟩
  · have e2 : (L.set k u).getD j sy0 = L.getD j sy0 := by simp [List.getD, Ne.symm ejk]
    rw [e2]
    obtain ⟨d0, d1⟩ := h.cell j hj
    refine ⟨(World.cell?_setCells_out g _ _ w _ fun _ _ => ?_).trans d0, (World.cell?_setCells_out g _ _ w _ fun _ _ => ?_).trans d1⟩
    · simp only [List.length_cons, List.length_nil]; omega
    · simp only [List.length_cons, List.length_nil]; omega
/-- The end of a row, cleared. -/
theorem clear_sy {w : World} {g : Nat} {L : List Sy} (h : RS w g L) {k : Nat} (hk : k < L.length) (c : Nat) : ∃ zs : List Value,
    (∀ ty, (Builtin.clear_ #[28] ty #[.slice (some ⟨g, k * 2, none⟩) (L.length - k) c]).run Tryd.prog w = .ok (.tuple #[]) (w.setCells g (k * 2) zs)) ∧ RS (w.setCells g (k * 2) zs) g (L.take k) := by
  have hz : ∀ w, (zeroValue 23).run Tryd.prog w = .ok (.agg #[.string ⟨#[]⟩, .bool false]) w := fun w => by kernel_rfl
  obtain ⟨zs, hzs⟩ : ∃ zs, zs = (Builtin.zeroCells (Value.agg #[.string ⟨#[]⟩, .bool false]).cells (L.length - k)).toList := ⟨_, rfl⟩
  have hlen : zs.length = (L.length - k) * 2 := by rw [hzs]; simp [Builtin.zeroCells, Value.cells]
  have hone : ∀ v ∈ zs, v.oneCell' = true := fun v hv => by
    rw [hzs] at hv
    simp only [Builtin.zeroCells, Value.cells, Array.toList_map, List.mem_map] at hv
    obtain ⟨i, _, rfl⟩ := hv
    show (#[Value.string ⟨#[]⟩, Value.bool false][i % 2]!).oneCell' = true
    rcases (by omega : i % 2 = 0 ∨ i % 2 = 1) with e | e <;> rw [e] <;> rfl
  have hst := run_storeCells_cells (P := Tryd.prog) g (k * 2) zs 0 w (fun j hj => by
      rw [hlen] at hj
      obtain ⟨d0, d1⟩ := h.cell (k + j / 2) (by omega)
      rcases (by omega : j % 2 = 0 ∨ j % 2 = 1) with e | e
      · rw [show k * 2 + 0 + j = (k + j / 2) * 2 by omega, d0]; rfl
      · rw [show k * 2 + 0 + j = (k + j / 2) * 2 + 1 by omega, d1]; rfl)
    (fun j _ => h.fr _) hone
  simp only [Nat.add_zero] at hst
  refine ⟨zs, fun ty => ?_, ⟨fun j hj => ?_, fun j => (World.frozen?_setCells g _ _ w _).trans (h.fr j), lt_setCells _ _ _ h.lt⟩⟩
  · obtain ⟨m, hm⟩ : ∃ m, L.length - k = m + 1 := ⟨L.length - k - 1, by omega⟩
    rw [hm] at hzs ⊢
    simp [Builtin.clear_, run_underlying Tryd.underlying28, hz, ← hzs, hst]
  · rw [List.length_take] at hj
    have e : (L.take k).getD j sy0 = L.getD j sy0 := by simp [List.getD, show j < k by omega]
    rw [e]
    obtain ⟨d0, d1⟩ := h.cell j (by omega)
    exact ⟨(World.cell?_setCells_out g _ _ w _ fun _ _ => .inl (by show j * 2 < _; omega)).trans d0, (World.cell?_setCells_out g _ _ w _ fun _ _ => .inl (by show j * 2 + 1 < _; omega)).trans d1⟩
/-- A row that was written, as a slice of steps. -/
theorem RS.holds {w : World} {g : Nat} {L : List Sy} (h : RS w g L) : RowAt w (some ⟨g, 0, none⟩) (syR.flat L) := by
  refine .inr ⟨g, 0, rfl, h.lt, fun j u hj => ?_⟩
  have hl := (List.getElem?_eq_some_iff.1 hj).1
  rw [Rec.flat_len] at hl
  have hl : j < L.length * 2 := hl
  rw [Nat.zero_add]
  obtain ⟨q, e⟩ : ∃ q, j = q * 2 ∨ j = q * 2 + 1 := ⟨j / 2, by omega⟩
  rcases e with rfl | rfl
  · obtain ⟨d0, d1⟩ := h.cell q (by omega)
    have hf : (syR.flat L)[q * 2]? = _ := Rec.flat_at (R := syR) L q 0 (by omega) (by show _ < 2; omega)
    rw [d0, ← hj, hf]
    rfl
  · obtain ⟨d0, d1⟩ := h.cell q (by omega)
    have hf : (syR.flat L)[q * 2 + 1]? = _ := Rec.flat_at (R := syR) L q 1 (by omega) (by show _ < 2; omega)
    rw [d1, ← hj, hf]
    rfl
end Go.Proofs.YtjgddkbpfpgaoafDoor
/-
  slices.Compact OF STEPS, by contract.
-/
namespace Go.Proofs.YtjgddkbpfpgaoafDoor
open Go.ChangeShapes Go.WideShapes Go.ChangeAt Go.RowKit

/-- The second loop: what it holds. -/
structure CI (L : List Sy) (B g : Nat) (w : World) (m kk : Nat) (M : List Sy) (x : World) : Prop where
  row : RS x g M
  below : Below B w x
  len : M.length = L.length
  lt : kk < m
  done : M.take kk = cpt (L.take m)
  high : ∀ j, m - 1 ≤ j → j < L.length → M.getD j sy0 = L.getD j sy0
theorem CI.drew {L M : List Sy} {B g m kk : Nat} {w x : World} (h : CI L B g w m kk M x) : CI L B g w m kk M x.drew := ⟨h.row.drew, h.below.drew, h.len, h.lt, h.done, h.high⟩
theorem CI.skip {L M : List Sy} {B g m kk : Nat} {w x : World} (h : CI L B g w m kk M x) (h1 : 1 ≤ m) (hm : m < L.length) (he : L.getD m sy0 = L.getD (m - 1) sy0) : CI L B g w (m + 1) kk M x :=
  ⟨h.row, h.below, h.len, by have := h.lt; omega, h.done.trans (cpt_drop L h1 hm he).symm, fun j hj hl => h.high j (by omega) hl⟩
theorem CI.keep {L M : List Sy} {B g m kk : Nat} {w x : World} (h : CI L B g w m kk M x) (hBg : B ≤ g) (h1 : 1 ≤ m) (hm : m < L.length) (he : L.getD m sy0 ≠ L.getD (m - 1) sy0) : CI L B g w (m + 1) (kk + 1) (M.set kk (L.getD m sy0)) (put2 x g kk (L.getD m sy0)) := by
  have hlt := h.lt
  have hk : kk < M.length := by rw [h.len]; omega
  refine ⟨h.row.put kk hk _, (h.below.setCell (p := ⟨g, kk * 2, none⟩) hBg _).setCell (p := ⟨g, kk * 2 + 1, none⟩) hBg _, by rw [List.length_set, h.len], by omega, ?_, fun j hj hl => ?_⟩
  · rw [cpt_keep L h1 hm he, ← h.done]
    rw [List.take_add_one, List.take_set_of_le (Nat.le_refl _)]
    simp [hk]
  · have := h.high j (by omega) hl
    rw [← this]
    simp [List.getD, show kk ≠ j by omega]
set_option maxHeartbeats 3200000 in
set_option maxRecDepth 100000 in
theorem compact_c (w : World) (B g cap : Nat) (L : List Sy) (h : RS w g L) (hcap : L.length ≤ cap) (hn : L.length ≤ 17592186044416) (hB : B ≤ g) :
    Calls Tryd.prog 13 #[.slice (some ⟨g, 0, none⟩) L.length cap] w fun e w' =>
      e = .returned (.slice (some ⟨g, 0, none⟩) (cpt L).length cap) ∧ RS w' g (cpt L) ∧ Below B w w' := by
  have hb0 : Below B w w := Below.mk rfl rfl rfl (by have := h.lt; omega) (fun _ _ => rfl)
  have hh := hidden h
  clear h
  obtain ⟨n, hnL⟩ : ∃ n, n = L.length := ⟨_, rfl⟩
  have hnH : Hid (n = L.length) := hnL
  rw [← hnL] at hcap hn ⊢
  clear hnL
  by_cases h2 : n < 2
  · have he : Hid (cpt L = L) := by
      show _ = _
      have := hnH.out
      match L, this with
      | [], _ => rfl
      | [x], _ => simp [cpt, cptS]
      | _ :: _ :: _, e => simp at e; omega
    have h2' : (n : Int) < 2 := by omega
    have hb0 := hidden hb0
    go_enter Tryd.func13, Tryd.ntmps13
    go_wp2
    go_ret
    rw [he.out]
    exact ⟨by rw [hnH.out]; rfl, hh.out, hb0.out⟩
  · have h2' : ¬ (n : Int) < 2 := by omega
    have hst : Hid (RS w g L ∧ Below B w w ∧ cpt (L.take 1) = L.take 1) := ⟨hh.out, hb0, cpt_one L (by have := hnH.out; omega)⟩
    clear hb0 hh
    go_enter Tryd.func13, Tryd.ntmps13
    go_wp2_with fail
    go_loopw [3] (fun s3 x => ∃ k : Nat, 1 ≤ k ∧ k ≤ n ∧ s3 = .int .i64 k ∧ Hid (RS x g L ∧ Below B w x ∧ cpt (L.take k) = L.take k)) (fun s3 _ => n - (intOf s3).toNat)
    case atStart => exact ⟨1, Nat.le_refl _, by omega, rfl, hst⟩
    case round =>
      clear hst
      obtain ⟨k, hk1, hk, rfl, hS⟩ := hrel
      by_cases hlt : k < n
      · have hlt' : (k : Int) < (n : Int) := by omega
        have hkm : IntKind.i64.wrap ((k : Int) - 1) = ((k - 1 : Nat) : Int) := by rw [IntKind.wrap_i64]; omega
        obtain ⟨c0, c1⟩ := hS.out.1.cell k (by rw [← hnH.out]; exact hlt)
        obtain ⟨p0, p1⟩ := hS.out.1.cell (k - 1) (by rw [← hnH.out]; omega)
        by_cases hdup : L.getD k sy0 = L.getD (k - 1) sy0
        · have hD := hidden hdup
          have hCI : Hid (CI L B g w (k + 1) k L wr.drew) := by
            refine ⟨hS.out.1.drew, hS.out.2.1.drew, rfl, by omega, ?_, fun j _ _ => rfl⟩
            rw [cpt_drop L hk1 (by rw [← hnH.out]; exact hlt) hdup, hS.out.2.2]
          rw [hdup] at c0 c1
          clear hdup hS
          generalize L.getD (k - 1) sy0 = u at *
          obtain ⟨a, p⟩ := u
          simp only at c0 c1 p0 p1
          go_wp2_with fail
          go_region
          all_goals
            clear c0 c1 p0 p1 hD
            go_wp2_with fail
            go_loopw [3, 5] (fun s3 s5 x => ∃ (kk k2 : Nat) (M : List Sy), 1 ≤ k2 ∧ k + k2 ≤ n ∧ kk < k + k2 ∧ s3 = .int .i64 kk ∧ s5 = .int .i64 k2 ∧ Hid (CI L B g w (k + k2) kk M x)) (fun _ s5 _ => n - (k + (intOf s5).toNat))
            case atStart => exact ⟨k, 1, L, Nat.le_refl _, by omega, by omega, rfl, rfl, hCI⟩
            case round =>
              clear hCI
              obtain ⟨kk, k2, M, hk21, hk2, hkk, rfl, rfl, hI⟩ := hrel
              by_cases hlt2 : k + k2 < n
              · have hlt2' : (k2 : Int) < ((n - k : Nat) : Int) := by omega
                have hkm2 : IntKind.i64.wrap ((k2 : Int) - 1) = ((k2 - 1 : Nat) : Int) := by rw [IntKind.wrap_i64]; omega
                obtain ⟨c0, c1⟩ := hI.out.row.cell (k + k2) (by rw [hI.out.len, ← hnH.out]; exact hlt2)
                obtain ⟨p0, p1⟩ := hI.out.row.cell (k + k2 - 1) (by rw [hI.out.len, ← hnH.out]; omega)
                rw [hI.out.high (k + k2) (by omega) (by rw [← hnH.out]; exact hlt2)] at c0 c1
                rw [hI.out.high (k + k2 - 1) (by omega) (by rw [← hnH.out]; omega)] at p0 p1
                rw [show (k + k2) * 2 = k * 2 + k2 * 2 by omega] at c0 c1
                rw [show (k + k2 - 1) * 2 = k * 2 + (k2 - 1) * 2 by omega] at p0 p1
                by_cases hdup2 : L.getD (k + k2) sy0 = L.getD (k + k2 - 1) sy0
                · have hnx := hidden (hI.out.drew.skip (by omega) (by rw [← hnH.out]; exact hlt2) hdup2)
                  rw [hdup2] at c0 c1
                  clear hdup2 hI
                  generalize L.getD (k + k2 - 1) sy0 = u at *
                  obtain ⟨a, p⟩ := u
                  simp only at c0 c1 p0 p1
                  go_wp2_with fail
                  go_region
                  all_goals
                    clear c0 c1 p0 p1
                    go_wp2
                    go_roundw
                    case rel => exact ⟨kk, k2 + 1, M, by omega, by omega, by omega, rfl, by go_num, hnx⟩
                    case measure => simp [intOf]; omega
                · have hnx := hidden (hI.out.drew.keep hB (by omega) (by rw [← hnH.out]; exact hlt2) hdup2)
                  obtain ⟨o0, o1⟩ := hI.out.row.cell kk (by rw [hI.out.len, ← hnH.out]; omega)
                  have z0 := hI.out.row.fr (kk * 2)
                  have z1 := hI.out.row.fr (kk * 2 + 1)
                  clear hI
                  unfold put2 at hnx
                  generalize L.getD (k + k2 - 1) sy0 = u at *
                  generalize L.getD (k + k2) sy0 = v at *
                  generalize M.getD kk sy0 = o at *
                  obtain ⟨b, q⟩ := u
                  obtain ⟨a, p⟩ := v
                  simp only at c0 c1 p0 p1 hnx
                  have hkk1 : (kk : Int) < (n : Int) := by omega
                  by_cases hab : a = b
                  · subst hab
                    have hpq : (p = true ∧ q = false) ∨ (p = false ∧ q = true) := by
                      cases p <;> cases q <;> simp_all
                    clear hdup2
                    rcases hpq with ⟨rfl, rfl⟩ | ⟨rfl, rfl⟩
                    all_goals
                      go_wp2_with fail
                      go_region
                      all_goals
                        clear p0 p1
                        go_wp2
                        go_roundw
                        case rel => exact ⟨kk + 1, k2 + 1, _, by omega, by omega, by omega, by go_num, by go_num, hnx⟩
                        case measure => simp [intOf]; omega
                  · have hab2 : (a.toList == b.toList) = false := beq_eq_false_iff_ne.2 fun e => hab (toList_inj e)
                    clear hdup2
                    go_wp2_with fail
                    go_region
                    all_goals
                      clear p0 p1
                      go_wp2
                      go_roundw
                      case rel => exact ⟨kk + 1, k2 + 1, _, by omega, by omega, by omega, by go_num, by go_num, hnx⟩
                      case measure => simp [intOf]; omega
              · have hend : k + k2 = n := by omega
                have hlt2' : ¬ (k2 : Int) < ((n - k : Nat) : Int) := by omega
                have hlen := hI.out.len
                have hML : M.length = n := by rw [hlen, hnH.out]
                obtain ⟨zs, hcl, hrs⟩ := clear_sy hI.out.row (k := kk) (by rw [hML]; omega) (cap - kk)
                have hdone : M.take kk = cpt L := by
                  have h := hI.out.done
                  rw [hend, hnH.out, List.take_length] at h
                  exact h
                have hcl2 : (cpt L).length = kk := by rw [← hdone, List.length_take, hML]; omega
                rw [hdone] at hrs
                rw [hML] at hcl
                have hfin := hidden (And.intro hcl2 (And.intro hrs (below_setCellsR hB zs (kk * 2) wr hI.out.below)))
                have hkk1 : kk ≤ n := by omega
                clear hI hrs hdone hcl2 hlen hML
                go_wp2
                go_ret
                refine ⟨by rw [hfin.out.1]; rfl, hfin.out.2⟩
        · have hnx : Hid (RS wr.drew g L ∧ Below B w wr.drew ∧ cpt (L.take (k + 1)) = L.take (k + 1)) := by
            refine ⟨hS.out.1.drew, hS.out.2.1.drew, ?_⟩
            rw [cpt_keep L hk1 (by rw [← hnH.out]; exact hlt) hdup, hS.out.2.2, take_snocR L sy0 k (by rw [← hnH.out]; exact hlt)]
          clear hS
          generalize L.getD (k - 1) sy0 = u at *
          generalize L.getD k sy0 = v at *
          obtain ⟨b, q⟩ := u
          obtain ⟨a, p⟩ := v
          simp only at c0 c1 p0 p1
          by_cases hab : a = b
          · subst hab
            have hpq : (p = true ∧ q = false) ∨ (p = false ∧ q = true) := by
              cases p <;> cases q <;> simp_all
            clear hdup
            rcases hpq with ⟨rfl, rfl⟩ | ⟨rfl, rfl⟩
            all_goals
              go_wp2_with fail
              go_region
              all_goals
                clear c0 c1 p0 p1
                go_wp2
                go_roundw
                case rel => exact ⟨k + 1, by omega, by omega, by go_num, hnx⟩
                case measure => simp [intOf]; omega
          · have hab2 : (a.toList == b.toList) = false := beq_eq_false_iff_ne.2 fun e => hab (toList_inj e)
            clear hdup
            go_wp2_with fail
            go_region
            all_goals
              clear c0 c1 p0 p1
              go_wp2
              go_roundw
              case rel => exact ⟨k + 1, by omega, by omega, by go_num, hnx⟩
              case measure => simp [intOf]; omega
      · have hend : k = n := by omega
        have hlt' : ¬ (k : Int) < (n : Int) := by omega
        have hc : cpt L = L := by
          have h := hS.out.2.2
          rw [hend, hnH.out, List.take_length] at h
          exact h
        have hfin : Hid ((cpt L).length = n ∧ RS wr g (cpt L) ∧ Below B w wr) := by
          refine ⟨by rw [hc, hnH.out], by rw [hc]; exact hS.out.1, hS.out.2.1⟩
        clear hc hS hend
        go_wp2
        go_ret
        refine ⟨by rw [hfin.out.1]; rfl, hfin.out.2⟩
end Go.Proofs.YtjgddkbpfpgaoafDoor
