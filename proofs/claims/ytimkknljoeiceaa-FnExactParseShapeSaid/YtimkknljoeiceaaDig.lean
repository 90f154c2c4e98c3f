/-
  Walks for the decimal digits: spec.IsDigits, impl.isDigit, impl.IsDigits, laws.FnExactIsDigits.
-/
import Derived.Test.YtimkknljoeiceaaProg
import Derived.WalkKit
import Derived.WalkSpells
import Derived.WalkLawsBesides
import Derived.Lib.Hide
import Derived.BigQuiet
namespace Go.Proofs.Ytimkknljoeiceaa
open Go.RowKit

/-- Is a byte a digit? -/
def isDig (c : UInt8) : Bool := decide (48 ≤ (c.toNat : Int)) && decide ((c.toNat : Int) ≤ 57)
def digAll (s : ByteArray) (k : Nat) : Prop := ∀ j (h : j < s.size), j < k → isDig s[j] = true
/-- All bytes are digits, and there is one. -/
def digB (s : ByteArray) : Bool := decide (0 < s.size) && s.data.toList.all isDig

theorem isDig_true {c : UInt8} (h1 : 48 ≤ (c.toNat : Int)) (h2 : (c.toNat : Int) ≤ 57) : isDig c = true := by simp [isDig]; omega
theorem isDig_false {c : UInt8} (h : (c.toNat : Int) < 48 ∨ 57 < (c.toNat : Int)) : isDig c = false := by simp [isDig]; omega
theorem isDig_iff (c : UInt8) : isDig c = true ↔ 48 ≤ (c.toNat : Int) ∧ (c.toNat : Int) ≤ 57 := by simp [isDig]
theorem mem_at {s : ByteArray} {k : Nat} (h : k < s.size) : s[k] ∈ s.data.toList := Array.mem_toList_iff.2 (Array.getElem_mem (xs := s.data) h)
theorem at_mem {s : ByteArray} {c : UInt8} (h : c ∈ s.data.toList) : ∃ k, ∃ hk : k < s.size, s[k] = c := by
  obtain ⟨k, hk, e⟩ := Array.getElem_of_mem (Array.mem_toList_iff.1 h)
  exact ⟨k, hk, e⟩
theorem digB_false {s : ByteArray} {k : Nat} (h : k < s.size) (hd : isDig s[k] = false) : digB s = false := by
  have : s.data.toList.all isDig = false := by
    rw [List.all_eq_false]
    exact ⟨_, mem_at h, by simp [hd]⟩
  simp [digB, this]
theorem digB_end {s : ByteArray} {k : Nat} (hk : k ≤ s.size) (h : ¬ k < s.size) (ha : digAll s k) : digB s = decide (0 < s.size) := by
  obtain rfl : k = s.size := by omega
  have : s.data.toList.all isDig = true := by
    rw [List.all_eq_true]
    intro c hc
    obtain ⟨k, hk, rfl⟩ := at_mem hc
    exact ha k hk hk
  simp [digB, this]
theorem digAll_succ {s : ByteArray} {k : Nat} (h : k < s.size) (ha : digAll s k) (hd : isDig s[k] = true) : digAll s (k + 1) := by
  intro j hj hlt
  by_cases e : j = k
  · subst e; exact hd
  · exact ha j hj (by omega)

theorem notEmpty (s : ByteArray) : (!s.toList.isEmpty) = decide (0 < s.size) := by
  have e : s.toList = s.data.toList := ByteArray.toList_eq s
  rw [e]
  obtain ⟨⟨l⟩⟩ := s
  cases l <;> simp [ByteArray.size]
theorem ret_boolD {a b : Bool} (h : a = b) : Ending.returned (.bool a) = .returned (.bool b) := by rw [h]

end Go.Proofs.Ytimkknljoeiceaa
