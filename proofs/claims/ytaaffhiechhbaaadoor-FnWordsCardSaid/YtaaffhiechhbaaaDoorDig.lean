/-
  Walks for the decimal digits: spec.IsDigits, impl.isDigit, impl.IsDigits, laws.FnExactIsDigits.
-/
import Derived.Test.YtaaffhiechhbaaaDoorProg
import Derived.WalkKit
import Derived.WalkSpells
import Derived.WalkLawsBesides
import Derived.Lib.Hide
import Derived.BigQuiet
namespace Go.Proofs.YtaaffhiechhbaaaDoor
open Go.RowKit

/-- Is a byte a digit? -/
def isDig (c : UInt8) : Bool := decide (48 ≤ (c.toNat : Int)) && decide ((c.toNat : Int) ≤ 57)
def digAll (s : ByteArray) (k : Nat) : Prop := ∀ j (h : j < s.size), j < k → isDig s[j] = true
/-- All bytes are digits, and there is one. -/
def digB (s : ByteArray) : Bool := decide (0 < s.size) && s.data.toList.all isDig

theorem isDig_true {c : UInt8} (h1 : 48 ≤ (c.toNat : Int)) (h2 : (c.toNat : Int) ≤ 57) : isDig c = true := by simp [isDig]; omega
theorem isDig_false {c : UInt8} (h : (c.toNat : Int) < 48 ∨ 57 < (c.toNat : Int)) : isDig c = false := by simp [isDig]; omega
theorem isDig_iff (c : UInt8) : isDig c = true ↔ 48 ≤ (c.toNat : Int) ∧ (c.toNat : Int) ≤ 57 := by simp [isDig]
theorem mem_at {s : ByteArray} {k : Nat} (h : k < s.size) : s[k] ∈ s.data.toList := Array.mem_toList_iff.2 (Array.getElem_mem (xs := s.data) h)
theorem at_mem {s : ByteArray} {c : UInt8} (h : c ∈ s.data.toList) : ∃ k, ∃ hk : k < s.size, s[k] = c := by
  obtain ⟨k, hk, e⟩ := Array.getElem_of_mem (Array.mem_toList_iff.1 h)
  exact ⟨k, hk, e⟩
theorem digB_false {s : ByteArray} {k : Nat} (h : k < s.size) (hd : isDig s[k] = false) : digB s = false := by
  have : s.data.toList.all isDig = false := by
    rw [List.all_eq_false]
    exact ⟨_, mem_at h, by simp [hd]⟩
  simp [digB, this]
theorem digB_end {s : ByteArray} {k : Nat} (hk : k ≤ s.size) (h : ¬ k < s.size) (ha : digAll s k) : digB s = decide (0 < s.size) := by
  obtain rfl : k = s.size := by omega
  have : s.data.toList.all isDig = true := by
    rw [List.all_eq_true]
    intro c hc
    obtain ⟨k, hk, rfl⟩ := at_mem hc
    exact ha k hk hk
  simp [digB, this]
theorem digAll_succ {s : ByteArray} {k : Nat} (h : k < s.size) (ha : digAll s k) (hd : isDig s[k] = true) : digAll s (k + 1) := by
  intro j hj hlt
  by_cases e : j = k
  · subst e; exact hd
  · exact ha j hj (by omega)

theorem notEmpty (s : ByteArray) : (!s.toList.isEmpty) = decide (0 < s.size) := by
  have e : s.toList = s.data.toList := ByteArray.toList_eq s
  rw [e]
  obtain ⟨⟨l⟩⟩ := s
  cases l <;> simp [ByteArray.size]
theorem ret_bool {a b : Bool} (h : a = b) : Ending.returned (.bool a) = .returned (.bool b) := by rw [h]

set_option maxHeartbeats 400000 in
theorem spec_digits (s : ByteArray) (w : World) (hs : s.size ≤ maxLen) :
    Calls Tryd.prog 28 #[.string s] w fun e w' => e = .returned (.bool (digB s)) ∧ w' = w := by
  unfold maxLen at hs
  go_enter Tryd.func28, Tryd.ntmps28
  go_wp2
  go_loop [3] (fun i => ∃ k : Nat, k ≤ s.size ∧ Hid (digAll s k) ∧ i = .int .i64 k) (fun i => s.size - (intOf i).toNat)
  case atStart => exact ⟨0, Nat.zero_le _, fun j _ h => by omega, rfl⟩
  case round =>
    obtain ⟨k, hk, HA, rfl⟩ := hrel
    by_cases hlt : k < s.size
    · by_cases h1 : (s[k].toNat : Int) < 48
      · go_wp2
        go_ret
        exact ⟨ret_bool (digB_false hlt (isDig_false (.inl h1))).symm, rfl⟩
      · by_cases h2 : 57 < (s[k].toNat : Int)
        · go_wp2
          go_ret
          exact ⟨ret_bool (digB_false hlt (isDig_false (.inr h2))).symm, rfl⟩
        · go_wp2
          go_round
          case rel => exact ⟨k + 1, by omega, digAll_succ hlt HA.out (isDig_true (by omega) (by omega)), by go_num⟩
          case measure => simp [intOf]; omega
    · go_wp2
      go_ret
      exact ⟨ret_bool (by rw [digB_end hk hlt HA.out]), rfl⟩

theorem isDigit_yes (r : Int) (h1 : 48 ≤ r) (h2 : r ≤ 57) (w : World) :
    Calls Tryd.prog 27 #[.int .i32 r] w fun e w' => e = .returned (.bool true) ∧ w = w' := by
  go_enter Tryd.func27, Tryd.ntmps27
  go_wp2
  go_ret
  exact ⟨by simp [h2], rfl⟩
theorem isDigit_no (r : Int) (h : r < 48 ∨ 57 < r) (w : World) :
    Calls Tryd.prog 27 #[.int .i32 r] w fun e w' => e = .returned (.bool false) ∧ w = w' := by
  by_cases h1 : 48 ≤ r
  · have h2 : 57 < r := by omega
    go_enter Tryd.func27, Tryd.ntmps27
    go_wp2
    go_ret
    exact ⟨ret_bool (by simp; omega), rfl⟩
  · go_enter Tryd.func27, Tryd.ntmps27
    go_wp2
    go_ret
    exact ⟨rfl, rfl⟩

end Go.Proofs.YtaaffhiechhbaaaDoor
