/-
  Slices of ints: slices.Index, slices.Contains, haveBothSides.
-/
import Derived.Test.YtimkknljoeiceaaStraight
namespace Go.Proofs.Ytimkknljoeiceaa
open Go.RowKit

/-- The cells of a slice of ints. -/
def ints (M : List Int) : List Value := M.map fun n => .int .i64 n
theorem ints_len (M : List Int) : (ints M).length = M.length := by simp [ints]
theorem ints_snoc (M : List Int) (n : Int) : ints (M ++ [n]) = ints M ++ [.int .i64 n] := by simp [ints]
def IntsA (w : World) (A : Option Addr) (M : List Int) : Prop := ∀ k (h : k < M.length), ∃ g, A = some ⟨g, 0, none⟩ ∧ w.cell? ⟨g, k, none⟩ = some (.int .i64 M[k])
theorem intsA_on {w w' : World} {A : Option Addr} {M : List Int} (h : IntsA w A M) (hb : Below w.heap.size w w') : IntsA w' A M := fun k hk => by
  obtain ⟨g, hA, h1⟩ := h k hk
  exact ⟨g, hA, cell_on hb rfl h1⟩
theorem own_ints {w : World} {B : Nat} {e : TypeId} {v : Value} {n : Nat} {M : List Int} (h : w.ownsRow B e 1 v n (ints M)) :
    n = M.length ∧ ∃ A c, v = .slice A M.length c ∧ IntsA w A M := by
  have hl : M.length = n := by have := h.1; rw [ints_len] at this; omega
  refine ⟨hl.symm, ?_⟩
  subst hl
  rcases h.2 with ⟨rfl, h0⟩ | ⟨g, cap, cur, rfl, hg, hh, _⟩
  · exact ⟨none, 0, by rw [h0], fun k hk => by omega⟩
  · refine ⟨some ⟨g, 0, none⟩, cap, rfl, fun k hk => ⟨g, rfl, ?_⟩⟩
    rw [h.cellAt k (by omega)]
    simp [ints, hk]
def IxAt (M : List Int) (x z : Int) : Prop := (z = -1 ∧ x ∉ M) ∨ ∃ k : Nat, k < M.length ∧ z = k ∧ x ∈ M
set_option maxRecDepth 100000 in
set_option maxHeartbeats 1000000 in
theorem ix_any (A : Option Addr) (c : Nat) (M : List Int) (x : Int) (w : World) (hP : IntsA w A M) (hL : M.length ≤ 1048576) :
    Calls Try.prog 182 #[.slice A M.length c, .int .i64 x] w fun e w' => (∃ z : Int, e = .returned (.int .i64 z) ∧ IxAt M x z) ∧ w' = w := by
  have HP := Lib.hid hP; clear hP
  have HID : Hid (∀ z, IxAt M x z ↔ ((z = -1 ∧ x ∉ M) ∨ ∃ k : Nat, k < M.length ∧ z = k ∧ x ∈ M)) := fun _ => Iff.rfl
  go_enter Try.func182, Try.ntmps182
  go_wp2_with fail
  go_loop [5, 8] (fun _ i => ∃ k : Nat, k ≤ M.length ∧ i = .int .i64 k ∧ Hid (∀ j (h : j < M.length), j < k → M[j] ≠ x)) (fun _ i => M.length - (intOf i).toNat)
  case atStart => exact ⟨0, Nat.zero_le _, rfl, fun j _ hj => by omega⟩
  case round =>
    obtain ⟨k, hk, rfl, HN⟩ := hrel
    by_cases hlt : k < M.length
    · obtain ⟨g1, rfl, hc⟩ := HP.out k hlt
      obtain ⟨p, hp⟩ : ∃ p, p = M[k] := ⟨_, rfl⟩
      rw [← hp] at hc
      have HPQ := Lib.hid hp
      clear hp
      by_cases he : x = p
      · have HY : Hid (IxAt M x k) := .inr ⟨k, hlt, rfl, by rw [he, HPQ.out]; exact List.getElem_mem hlt⟩
        subst he
        go_wp2_with fail
        go_ret
        exact ⟨⟨_, rfl, HY.out⟩, rfl⟩
      · have HN2 : Hid (∀ j (h : j < M.length), j < k + 1 → M[j] ≠ x) := fun j h hj => by
          rcases Nat.lt_or_ge j k with h1 | h1
          · exact HN.out j h h1
          · obtain rfl : j = k := by omega
            intro e
            exact he (by rw [HPQ.out, e])
        have he2 : (x == p) = false := by simpa using he
        go_wp2_with fail
        go_round
        case rel => exact ⟨k + 1, by omega, by go_num, HN2⟩
        case measure => simp [intOf]; omega
    · have HY : Hid (IxAt M x (-1)) := .inl ⟨rfl, fun h => by
        obtain ⟨j, hj, e⟩ := List.getElem_of_mem h
        exact HN.out j hj (by omega) e⟩
      go_wp2_with fail
      go_ret
      exact ⟨⟨_, rfl, HY.out⟩, rfl⟩
theorem hasI_any (A : Option Addr) (c : Nat) (M : List Int) (x : Int) (w : World) (hP : IntsA w A M) (hL : M.length ≤ 1048576) :
    Calls Try.prog 153 #[.slice A M.length c, .int .i64 x] w fun e w' => e = .returned (.bool (decide (x ∈ M))) ∧ w' = w := by
  have HX := Lib.hid (fun w hP => ix_any A c M x w hP hL)
  have HP := Lib.hid hP; clear hP
  go_enter Try.func153, Try.ntmps153
  go_wp2_with fail
  refine (HX.out w HP.out).mono ?_
  rintro e w1 ⟨⟨z, rfl, hz⟩, rfl⟩
  have HD : Hid (decide (0 ≤ z) = decide (x ∈ M)) := by
    show _ = _
    rcases hz with ⟨rfl, h⟩ | ⟨k, _, rfl, h⟩
    · simp [h]
    · simp [h]
  clear hz
  go_wp2_with fail
  go_ret
  exact ⟨ret_bool HD.out, rfl⟩
def bothB (M : List Int) : Bool := decide ((1 : Int) ∈ M) && decide ((-1 : Int) ∈ M)
theorem both_any (A : Option Addr) (c : Nat) (M : List Int) (w : World) (hP : IntsA w A M) (hL : M.length ≤ 1048576) :
    Calls Try.prog 105 #[.slice A M.length c] w fun e w' => e = .returned (.bool (bothB M)) ∧ w' = w := by
  have HX := Lib.hid (fun x w hP => hasI_any A c M x w hP hL)
  have HP := Lib.hid hP; clear hP
  have HB : Hid (bothB M = (decide ((1 : Int) ∈ M) && decide ((-1 : Int) ∈ M))) := rfl
  cases h1 : decide ((1 : Int) ∈ M)
  all_goals (
    rw [h1] at HB
    have H1 := HX.out 1 w HP.out
    rw [h1] at H1
    have H1 := Lib.hid H1
    go_enter Try.func105, Try.ntmps105
    go_wp2_with fail
    refine H1.out.mono ?_
    rintro e w1 ⟨rfl, rfl⟩
    go_wp2_with fail)
  · go_ret
    exact ⟨ret_bool HB.out.symm, rfl⟩
  · refine (HX.out (-1) _ HP.out).mono ?_
    rintro e w1 ⟨rfl, rfl⟩
    go_wp2_with fail
    go_ret
    exact ⟨ret_bool HB.out.symm, rfl⟩

/-! ### The least and the greatest of signs -/
def loT (f : Nat → Int) : Nat → Int
  | 0 => 0
  | k + 1 => if f k < loT f k then f k else loT f k
def hiT (f : Nat → Int) : Nat → Int
  | 0 => 0
  | k + 1 => if hiT f k < f k then f k else hiT f k
theorem lohi_aux {f : Nat → Int} (hf : ∀ i, f i = 1 ∨ f i = -1 ∨ f i = 0) : ∀ k, (loT f k = if ∃ j, j < k ∧ f j = -1 then -1 else 0) ∧ (hiT f k = if ∃ j, j < k ∧ f j = 1 then 1 else 0) := by
  intro k
  induction k with
  | zero => simp [loT, hiT]
  | succ k ih =>
    obtain ⟨h1, h2⟩ := ih
    have hs : ∀ c : Int, (∃ j, j < k + 1 ∧ f j = c) ↔ (∃ j, j < k ∧ f j = c) ∨ f k = c := by
      intro c
      constructor
      · rintro ⟨j, hj, e⟩
        rcases Nat.lt_or_ge j k with h | h
        · exact .inl ⟨j, h, e⟩
        · obtain rfl : j = k := by omega
          exact .inr e
      · rintro (⟨j, hj, e⟩ | e)
        · exact ⟨j, by omega, e⟩
        · exact ⟨k, by omega, e⟩
    simp only [loT, hiT, h1, h2, hs]
    constructor
    · by_cases h : ∃ j, j < k ∧ f j = -1
      · rcases hf k with e | e | e <;> simp [h, e]
      · rcases hf k with e | e | e <;> simp [h, e]
    · by_cases h : ∃ j, j < k ∧ f j = 1
      · rcases hf k with e | e | e <;> simp [h, e]
      · rcases hf k with e | e | e <;> simp [h, e]
theorem lohi {f : Nat → Int} (hf : ∀ i, f i = 1 ∨ f i = -1 ∨ f i = 0) (k : Nat) : (loT f k == 0 || hiT f k == 0) = !(bothB ((List.range k).map f)) := by
  obtain ⟨h1, h2⟩ := lohi_aux hf k
  have m1 : ∀ c : Int, c ∈ (List.range k).map f ↔ ∃ j, j < k ∧ f j = c := by intro c; simp
  unfold bothB
  rw [h1, h2]
  simp only [m1]
  by_cases a : ∃ j, j < k ∧ f j = -1 <;> by_cases b : ∃ j, j < k ∧ f j = 1 <;> simp [a, b]
theorem lohi_le {f : Nat → Int} (hf : ∀ i, f i = 1 ∨ f i = -1 ∨ f i = 0) (k : Nat) : (loT f k).natAbs ≤ 1 ∧ (hiT f k).natAbs ≤ 1 := by
  obtain ⟨h1, h2⟩ := lohi_aux hf k
  rw [h1, h2]
  constructor <;> split <;> decide
theorem sgn_three (n : Int) : sgn n = 1 ∨ sgn n = -1 ∨ sgn n = 0 := by
  rcases sgn_cases n with h | h | h
  · exact .inl h.2
  · exact .inr (.inl h.2)
  · exact .inr (.inr h.2)
/-- A function that hands back a new list of ints. -/
def ListsI (w : World) (M : List Int) (e : Ending) (w' : World) : Prop := ∃ v, e = .returned v ∧ w'.ownsRow w.heap.size 3 1 v M.length (ints M) ∧ Below w.heap.size w w'
theorem infoI : (Try.prog.info? 3).map (fun i => (i.zero, i.size, i.bytes)) = some (some (.int .i64 0), 1, 8) := by kernel_rfl
end Go.Proofs.Ytimkknljoeiceaa
