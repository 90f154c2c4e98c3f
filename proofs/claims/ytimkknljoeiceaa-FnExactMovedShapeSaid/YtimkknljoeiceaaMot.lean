/-
  Motions of one point: l06Apply of the model, the program's eight function values and the table of them.
-/
import Derived.Test.YtimkknljoeiceaaBox
namespace Go.Proofs.Ytimkknljoeiceaa
open Go.RowKit

def mot (m : Nat) (p : Int × Int) : Int × Int :=
  match m with
  | 0 => p
  | 1 => (-p.2, p.1)
  | 2 => (-p.1, -p.2)
  | 3 => (p.2, -p.1)
  | 4 => (-p.1, p.2)
  | 5 => (-p.2, -p.1)
  | 6 => (p.1, -p.2)
  | _ => (p.2, p.1)
def turnT : Nat → Int × Int → Int × Int
  | 0, p => p
  | k + 1, p => (-(turnT k p).2, (turnT k p).1)
def mirr (m : Nat) (p : Int × Int) : Int × Int := if 4 ≤ m then (-p.1, p.2) else p
theorem mot_turn {m : Nat} (hm : m < 8) (p : Int × Int) : turnT (m % 4) (mirr m p) = mot m p := by
  match m, hm with
  | 0, _ => simp [turnT, mirr, mot]
  | 1, _ => simp [turnT, mirr, mot]
  | 2, _ => simp [turnT, mirr, mot]
  | 3, _ => simp [turnT, mirr, mot]
  | 4, _ => simp [turnT, mirr, mot]
  | 5, _ => simp [turnT, mirr, mot]
  | 6, _ => simp [turnT, mirr, mot]
  | 7, _ => simp [turnT, mirr, mot]
  | k + 8, h => omega
theorem turnT_bd {B : Int} {p : Int × Int} (h : -B ≤ p.1 ∧ p.1 ≤ B ∧ -B ≤ p.2 ∧ p.2 ≤ B) : ∀ k, -B ≤ (turnT k p).1 ∧ (turnT k p).1 ≤ B ∧ -B ≤ (turnT k p).2 ∧ (turnT k p).2 ≤ B
  | 0 => h
  | k + 1 => by have := turnT_bd h k; simp only [turnT]; omega
theorem mirr_bd {B : Int} {p : Int × Int} (m : Nat) (h : -B ≤ p.1 ∧ p.1 ≤ B ∧ -B ≤ p.2 ∧ p.2 ≤ B) : -B ≤ (mirr m p).1 ∧ (mirr m p).1 ≤ B ∧ -B ≤ (mirr m p).2 ∧ (mirr m p).2 ≤ B := by
  unfold mirr; split
  · simp only; omega
  · exact h
theorem mot_bd {B : Int} {p : Int × Int} {m : Nat} (hm : m < 8) (h : -B ≤ p.1 ∧ p.1 ≤ B ∧ -B ≤ p.2 ∧ p.2 ≤ B) : -B ≤ (mot m p).1 ∧ (mot m p).1 ≤ B ∧ -B ≤ (mot m p).2 ∧ (mot m p).2 ≤ B := by
  rw [← mot_turn hm]; exact turnT_bd (mirr_bd m h) _

set_option maxRecDepth 100000 in
set_option maxHeartbeats 1000000 in
theorem apply_any (x y : Int) (m : Nat) (w : World) (hm : m < 8) (h : -1000 ≤ x ∧ x ≤ 1000 ∧ -1000 ≤ y ∧ y ≤ 1000) :
    Calls Try.prog 131 #[(.agg #[.int .i64 x, .int .i64 y]), .int .i64 m] w fun e w' => e = .returned (.agg #[.int .i64 (mot m (x, y)).1, .int .i64 (mot m (x, y)).2]) ∧ Below w.heap.size w w' := by
  have HM := Lib.hid (mot_turn hm (x, y))
  obtain ⟨P, hP⟩ : ∃ P, P = mirr m (x, y) := ⟨_, rfl⟩
  have HB : Hid (∀ k, -1000 ≤ (turnT k P).1 ∧ (turnT k P).1 ≤ 1000 ∧ -1000 ≤ (turnT k P).2 ∧ (turnT k P).2 ≤ 1000) := by
    show ∀ k, _
    rw [hP]; exact turnT_bd (mirr_bd m (p := (x, y)) h)
  have HP : Hid (P = if 4 ≤ m then (-x, y) else (x, y)) := hP
  rw [← hP] at HM
  obtain ⟨r, hr⟩ : ∃ r, r = m % 4 := ⟨_, rfl⟩
  have hr4 : r < 4 := by omega
  have e1 : Int.tmod (m : Int) 4 = (r : Int) := by rw [hr]; exact tmod_nat m 4
  rw [← hr] at HM
  clear hr hP
  have hn1 : wrap64 (-x) = -x := IntWalk.wrap64_in _ (by omega)
  by_cases h4 : 4 ≤ m
  · have h4' : (4 : Int) ≤ (m : Int) := by omega
    have HQ : Hid (P = ((-x), y)) := by
      show _ = _
      rw [HP.out, if_pos h4]
    have a2 := (at_new w (-x) y 54).alloc (.cells #[.int .i64 0, .int .i64 0] 54)
    have z2 := at_new (w.alloc (.cells #[.int .i64 (-x), .int .i64 y] 54)) 0 0 54
    rw [size_alloc] at z2
    have b2 := below2 w (.cells #[.int .i64 (-x), .int .i64 y] 54) (.cells #[.int .i64 0, .int .i64 0] 54)
    go_enter Try.func131, Try.ntmps131
    go_wp2_with fail
    generalize (w.alloc (.cells #[.int .i64 (-x), .int .i64 y] 54)).alloc (.cells #[.int .i64 0, .int .i64 0] 54) = W at *
    clear h4 h4' HP hn1 h
    go_loopw [5] (fun i wr => ∃ k : Nat, k ≤ r ∧ i = .int .i64 k ∧ At wr w.heap.size (turnT k P).1 (turnT k P).2 54 ∧ At wr (w.heap.size + 1) 0 0 54 ∧ Below w.heap.size w wr) (fun i _ => r - (intOf i).toNat)
    case atStart => exact ⟨0, Nat.zero_le _, rfl, by rw [HQ.out]; exact a2, z2, b2⟩
    case round =>
      clear a2 z2 b2
      obtain ⟨k, hk, rfl, a2, z2, b2⟩ := hrel
      by_cases hlt : k < r
      · have hb := HB.out k
        have HS : Hid (turnT (k + 1) P = (-(turnT k P).2, (turnT k P).1)) := rfl
        generalize (turnT k P).1 = u at *
        generalize (turnT k P).2 = v at *
        have hn : wrap64 (-v) = -v := IntWalk.wrap64_in _ (by omega)
        have c1 := a2.c0; have c2 := a2.c1
        have f1 := at_frozen a2 0; have f2 := at_frozen a2 1
        have a3 := at_store1 (at_store a2 (-v) 0) u
        have z3 := at_set (at_set z2 (b := w.heap.size) (by omega) 0 (.int .i64 (-v))) (b := w.heap.size) (by omega) 1 (.int .i64 u)
        have b3 := (b2.setCell (p := ⟨w.heap.size, 0, none⟩) (Nat.le_refl _) (.int .i64 (-v))).setCell (p := ⟨w.heap.size, 1, none⟩) (Nat.le_refl _) (.int .i64 u)
        have v5 := (at_store a2 (-v) 0).c1
        have R := Lib.hid (And.intro a3 (And.intro z3 b3))
        clear a2 z2 b2 a3 z3 b3 hb
        go_wp2_with fail
        go_roundw
        case rel => exact ⟨k + 1, by omega, by go_num, by rw [HS.out]; exact R.out.1, R.out.2.1, R.out.2.2⟩
        case measure => simp [intOf]; omega
      · obtain rfl : k = r := by omega
        rw [HM.out] at a2
        obtain ⟨u, hu⟩ : ∃ u, u = (mot m (x, y)).1 := ⟨_, rfl⟩
        obtain ⟨v, hv⟩ : ∃ v, v = (mot m (x, y)).2 := ⟨_, rfl⟩
        rw [← hu, ← hv] at a2
        have HE : Hid (Value.agg #[.int .i64 (mot m (x, y)).1, .int .i64 (mot m (x, y)).2] = .agg #[.int .i64 u, .int .i64 v]) := by
          show _ = _
          rw [hu, hv]
        clear hu hv HM HB
        have c1 := a2.c0; have c2 := a2.c1
        have f1 := at_frozen z2 0; have f2 := at_frozen z2 1
        have v5 := (at_store z2 u 0).c1
        have v6 := z2.c0; have v7 := z2.c1
        have z3 := at_store1 (at_store z2 u 0) v
        have d1 := z3.c0; have d2 := z3.c1
        have hsw : w.heap.size ≤ w.heap.size + 1 := Nat.le_succ _
        have b3 := (b2.setCell (p := ⟨w.heap.size + 1, 0, none⟩) hsw (.int .i64 u)).setCell (p := ⟨w.heap.size + 1, 1, none⟩) hsw (.int .i64 v)
        clear a2 z2 b2 z3
        go_wp2_with fail
        exact bodyPost_ret (v := .agg #[.int .i64 u, .int .i64 v]) (by simp [results, Try.results131, go_sem, d1, d2]) rfl ⟨by rw [HE.out], b3⟩
  · have h4' : ¬ (4 : Int) ≤ (m : Int) := by omega
    have HQ : Hid (P = (x, y)) := by
      show _ = _
      rw [HP.out, if_neg h4]
    have a2 := (at_new w x y 54).alloc (.cells #[.int .i64 0, .int .i64 0] 54)
    have z2 := at_new (w.alloc (.cells #[.int .i64 x, .int .i64 y] 54)) 0 0 54
    rw [size_alloc] at z2
    have b2 := below2 w (.cells #[.int .i64 x, .int .i64 y] 54) (.cells #[.int .i64 0, .int .i64 0] 54)
    go_enter Try.func131, Try.ntmps131
    go_wp2_with fail
    generalize (w.alloc (.cells #[.int .i64 x, .int .i64 y] 54)).alloc (.cells #[.int .i64 0, .int .i64 0] 54) = W at *
    clear h4 h4' HP hn1 h
    go_loopw [5] (fun i wr => ∃ k : Nat, k ≤ r ∧ i = .int .i64 k ∧ At wr w.heap.size (turnT k P).1 (turnT k P).2 54 ∧ At wr (w.heap.size + 1) 0 0 54 ∧ Below w.heap.size w wr) (fun i _ => r - (intOf i).toNat)
    case atStart => exact ⟨0, Nat.zero_le _, rfl, by rw [HQ.out]; exact a2, z2, b2⟩
    case round =>
      clear a2 z2 b2
      obtain ⟨k, hk, rfl, a2, z2, b2⟩ := hrel
      by_cases hlt : k < r
      · have hb := HB.out k
        have HS : Hid (turnT (k + 1) P = (-(turnT k P).2, (turnT k P).1)) := rfl
        generalize (turnT k P).1 = u at *
        generalize (turnT k P).2 = v at *
        have hn : wrap64 (-v) = -v := IntWalk.wrap64_in _ (by omega)
        have c1 := a2.c0; have c2 := a2.c1
        have f1 := at_frozen a2 0; have f2 := at_frozen a2 1
        have a3 := at_store1 (at_store a2 (-v) 0) u
        have z3 := at_set (at_set z2 (b := w.heap.size) (by omega) 0 (.int .i64 (-v))) (b := w.heap.size) (by omega) 1 (.int .i64 u)
        have b3 := (b2.setCell (p := ⟨w.heap.size, 0, none⟩) (Nat.le_refl _) (.int .i64 (-v))).setCell (p := ⟨w.heap.size, 1, none⟩) (Nat.le_refl _) (.int .i64 u)
        have v5 := (at_store a2 (-v) 0).c1
        have R := Lib.hid (And.intro a3 (And.intro z3 b3))
        clear a2 z2 b2 a3 z3 b3 hb
        go_wp2_with fail
        go_roundw
        case rel => exact ⟨k + 1, by omega, by go_num, by rw [HS.out]; exact R.out.1, R.out.2.1, R.out.2.2⟩
        case measure => simp [intOf]; omega
      · obtain rfl : k = r := by omega
        rw [HM.out] at a2
        obtain ⟨u, hu⟩ : ∃ u, u = (mot m (x, y)).1 := ⟨_, rfl⟩
        obtain ⟨v, hv⟩ : ∃ v, v = (mot m (x, y)).2 := ⟨_, rfl⟩
        rw [← hu, ← hv] at a2
        have HE : Hid (Value.agg #[.int .i64 (mot m (x, y)).1, .int .i64 (mot m (x, y)).2] = .agg #[.int .i64 u, .int .i64 v]) := by
          show _ = _
          rw [hu, hv]
        clear hu hv HM HB
        have c1 := a2.c0; have c2 := a2.c1
        have f1 := at_frozen z2 0; have f2 := at_frozen z2 1
        have v5 := (at_store z2 u 0).c1
        have v6 := z2.c0; have v7 := z2.c1
        have z3 := at_store1 (at_store z2 u 0) v
        have d1 := z3.c0; have d2 := z3.c1
        have hsw : w.heap.size ≤ w.heap.size + 1 := Nat.le_succ _
        have b3 := (b2.setCell (p := ⟨w.heap.size + 1, 0, none⟩) hsw (.int .i64 u)).setCell (p := ⟨w.heap.size + 1, 1, none⟩) hsw (.int .i64 v)
        clear a2 z2 b2 z3
        go_wp2_with fail
        exact bodyPost_ret (v := .agg #[.int .i64 u, .int .i64 v]) (by simp [results, Try.results131, go_sem, d1, d2]) rfl ⟨by rw [HE.out], b3⟩
end Go.Proofs.Ytimkknljoeiceaa
