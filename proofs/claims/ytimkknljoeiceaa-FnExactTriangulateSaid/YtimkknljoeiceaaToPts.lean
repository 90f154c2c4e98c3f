/-
  Walks for szPointS and toPointS: a list of points that came in.
-/
import Derived.Test.YtimkknljoeiceaaPts
import Derived.Laws.MakeOwn
namespace Go.Proofs.Ytimkknljoeiceaa
open Go.RowKit

/-- The cells of a slice of points that came in, wherever it lies. -/
def ArgA (w : World) (A : Option Addr) (L : List (Int × Int)) : Prop := ∀ k (h : k < L.length), ∃ a : Addr, A = some a ∧ a.block < w.heap.size ∧ w.cell? (a.add (k * 2)) = some (.int .i64 L[k].1) ∧ w.cell? (a.add (k * 2 + 1)) = some (.int .i64 L[k].2)
theorem ArgA.step {w w' : World} {A : Option Addr} {L : List (Int × Int)} (h : ArgA w A L) (hb : Below w.heap.size w w') : ArgA w' A L := fun k hk => by
  obtain ⟨a, hA, hl, h1, h2⟩ := h k hk
  exact ⟨a, hA, Nat.lt_of_lt_of_le hl hb.size, cell_on hb rfl h1, cell_on hb rfl h2⟩
theorem add_next (a : Addr) (j : Nat) : (⟨(a.add j).block, (a.add j).off + 1, none⟩ : Addr) = a.add (j + 1) := by
  have h : j + 1 ≠ 0 := by omega
  unfold Addr.add
  by_cases hj : j = 0
  · subst hj; simp
  · rw [if_neg hj, if_neg h]; simp [Nat.add_assoc]
theorem sz_any (A : Option Addr) (n c : Nat) (m : Int) (w : World) (hm : 0 ≤ m ∧ m ≤ 1073741824) (hn : n ≤ 9223372036854775807) :
    Calls Try.prog 15 #[.slice A n c, .int .i64 m] w fun e w' => e = .returned (.int .i64 (if m - n < 0 then -1 else m - n)) ∧ w' = w := by
  have e1 : wrap64 (m - n) = m - n := IntWalk.wrap64_in _ (by omega)
  by_cases h : m - (n : Int) < 0
  · rw [if_pos h]
    go_enter Try.func15, Try.ntmps15
    go_wp2_with fail
    go_ret
    exact ⟨rfl, rfl⟩
  · rw [if_neg h]
    go_enter Try.func15, Try.ntmps15
    go_wp2_with fail
    go_ret
    exact ⟨rfl, rfl⟩
theorem flat_set {L : List (Int × Int)} {zs : List Value} (hz : zs.length = L.length * 2) (k : Nat) (hk : k < L.length) :
    ((flat (L.take k) ++ zs.drop (k * 2)).set (k * 2) (.int .i64 L[k].1)).set (k * 2 + 1) (.int .i64 L[k].2) = flat (L.take (k + 1)) ++ zs.drop ((k + 1) * 2) := by
  have h1 : (flat (L.take k)).length = k * 2 := by rw [flat_len, List.length_take]; omega
  have e1 : zs.drop (k * 2) = zs[k * 2]'(by omega) :: zs[k * 2 + 1]'(by omega) :: zs.drop ((k + 1) * 2) := by
    have e0 : (k + 1) * 2 = k * 2 + 1 + 1 := by omega
    rw [e0, List.drop_eq_getElem_cons (by omega), List.drop_eq_getElem_cons (i := k * 2 + 1) (by omega)]
  rw [List.set_append_right _ _ (by omega), h1, Nat.sub_self, e1, List.set_cons_zero, List.set_append_right _ _ (by omega), h1, Nat.add_sub_cancel_left, List.set_cons_succ, List.set_cons_zero, List.take_succ_eq_append_getElem hk, flat_append, List.append_assoc]
  rfl
set_option maxRecDepth 100000 in
set_option maxHeartbeats 1600000 in
theorem toS_any (A : Option Addr) (c : Nat) (L : List (Int × Int)) (w : World) (hA : ArgA w A L) (hL : L.length ≤ 1048576) :
    Calls Try.prog 17 #[.slice A L.length c] w fun e w' => ∃ v, e = .returned v ∧ w'.ownsRow w.heap.size 54 2 v L.length (flat L) ∧ Below w.heap.size w w' := by
  obtain ⟨i0, hi0, hz0, hz1, hz2⟩ := info_parts infoPt
  have hmk : ∀ w, (Instr.makeSlice 27 (.int .i64 (L.length : Int)) (.int .i64 (L.length : Int))).run Try.prog w = .ok (.slice (some ⟨w.heap.size, 0, none⟩) L.length L.length) (w.alloc (.cells (madeCells #[.int .i64 0, .int .i64 0] (L.length * 2)) 54)) := fun w => by
    have h := run_make (P := Try.prog) w 27 54 i0 _ Try.underlying27 hi0 hz0 .i64 .i64 (L.length : Int) (L.length : Int) (by omega) (Int.le_refl _) (by rw [hz2]; omega) (by omega)
    rw [hz1] at h
    simpa [Value.cells] using h
  have hown := World.ownsRow_lit (base := w.heap.size) (e := 54) (size := 2) w (madeCells #[.int .i64 0, .int .i64 0] (L.length * 2)) L.length (Nat.le_refl _) (by unfold maxLen; omega) (size_madeCells _ _)
  have hzl : (madeCells #[.int .i64 0, .int .i64 0] (L.length * 2)).toList.length = L.length * 2 := by rw [Array.length_toList]; exact size_madeCells _ _
  have hb0 := below1 w (.cells (madeCells #[.int .i64 0, .int .i64 0] (L.length * 2)) 54)
  have HA := Lib.hid hA; clear hA
  go_enter Try.func17, Try.ntmps17
  go_wp2_with fail
  generalize (madeCells #[.int .i64 0, .int .i64 0] (L.length * 2)).toList = zs at *
  generalize w.alloc (.cells (madeCells #[.int .i64 0, .int .i64 0] (L.length * 2)) 54) = w1 at *
  clear hmk
  go_loopw [4] (fun i wr => ∃ k : Nat, k ≤ L.length ∧ i = .int .i64 k ∧ wr.ownsRow w.heap.size 54 2 (.slice (some ⟨w.heap.size, 0, none⟩) L.length L.length) L.length (flat (L.take k) ++ zs.drop (k * 2)) ∧ Below w.heap.size w wr) (fun i _ => L.length - (intOf i).toNat)
  case atStart => exact ⟨0, Nat.zero_le _, rfl, by simpa [flat] using hown, hb0⟩
  case round =>
    obtain ⟨wo, rfl⟩ : ∃ wo : World, wo = wr := ⟨_, rfl⟩
    clear hown
    obtain ⟨k, hk, rfl, hown, hb⟩ := hrel
    by_cases hlt : k < L.length
    · obtain ⟨a, rfl, hl, h1, h2⟩ := HA.out k hlt
      have c1 := cell_on hb rfl h1; have c2 := cell_on hb rfl h2
      rw [← add_next] at c2
      have hs := flat_set hzl k hlt
      obtain ⟨x, hx⟩ : ∃ x, x = L[k].1 := ⟨_, rfl⟩
      obtain ⟨y, hy⟩ : ∃ y, y = L[k].2 := ⟨_, rfl⟩
      rw [← hx] at c1 hs
      rw [← hy] at c2 hs
      have HS := Lib.hid hs
      clear hs h1 h2 hx hy
      go_wp2_with fail
      refine (to_any _ _ _).mono ?_
      rintro e w2 ⟨rfl, hb2⟩
      have own2 := own_below hown hb2
      have b2 := below_on hb hb2
      clear hown hb hb2 c1 c2
      obtain ⟨u1, d1⟩ := cell_some own2 (k * 2) (by omega)
      have f1 := own2.frozenAt (k * 2)
      have own3 := (own2.stored (k * 2) (.int .i64 x)).1
      obtain ⟨u2, d2⟩ := cell_some own2 (k * 2 + 1) (by omega)
      have f2 := own2.frozenAt (k * 2 + 1)
      obtain ⟨u3, d3⟩ := cell_some own3 (k * 2 + 1) (by omega)
      have f3 := own3.frozenAt (k * 2 + 1)
      have own4 := (own3.stored (k * 2 + 1) (.int .i64 y)).1
      rw [HS.out] at own4
      have b4 := (b2.setCell (p := ⟨w.heap.size, k * 2, none⟩) (Nat.le_refl _) (.int .i64 x)).setCell (p := ⟨w.heap.size, k * 2 + 1, none⟩) (Nat.le_refl _) (.int .i64 y)
      have R := Lib.hid (And.intro own4 b4)
      clear own2 own3 own4 b2 b4
      go_wp2_with fail
      go_roundw
      case rel => exact ⟨k + 1, by omega, by go_num, R.out.1, R.out.2⟩
      case measure => simp [intOf]; omega
    · obtain rfl : k = L.length := by omega
      rw [List.drop_of_length_le (by omega), List.take_of_length_le (Nat.le_refl _), List.append_nil] at hown
      have R := Lib.hid hown
      clear hown
      go_wp2_with fail
      go_ret
      exact ⟨_, rfl, R.out, hb⟩
end Go.Proofs.Ytimkknljoeiceaa
