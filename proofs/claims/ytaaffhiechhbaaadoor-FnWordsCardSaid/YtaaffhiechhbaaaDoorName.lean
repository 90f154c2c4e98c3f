/-
  Walks for names: spec.l01In, spec.IsName, impl.isLetter, impl.IsName, laws.FnExactIsName.
-/
import Derived.Test.YtaaffhiechhbaaaDoorDig
namespace Go.Proofs.YtaaffhiechhbaaaDoor
open Go.RowKit

def isLow (c : UInt8) : Bool := decide (97 ≤ (c.toNat : Int)) && decide ((c.toNat : Int) ≤ 122)
def nmOk (j : Nat) (c : UInt8) : Bool := isLow c || (decide (j ≠ 0) && isDig c)
def nmAll (s : ByteArray) (k : Nat) : Prop := ∀ j (h : j < s.size), j < k → nmOk j s[j] = true
/-- One to eight bytes, a letter first, then letters or digits. -/
def nameB (s : ByteArray) : Bool := decide (1 ≤ s.size ∧ s.size ≤ 8) && decide (∀ j : Fin s.size, nmOk j.1 s[j.1] = true)

theorem nmOk_low {j : Nat} {c : UInt8} (h1 : 97 ≤ (c.toNat : Int)) (h2 : (c.toNat : Int) ≤ 122) : nmOk j c = true := by
  have : isLow c = true := by simp [isLow]; omega
  simp [nmOk, this]
theorem nmOk_dig {j : Nat} {c : UInt8} (h0 : 0 < j) (h1 : 48 ≤ (c.toNat : Int)) (h2 : (c.toNat : Int) ≤ 57) : nmOk j c = true := by
  simp [nmOk, isDig_true h1 h2]; omega
theorem nmOk_no0 {c : UInt8} (h : (c.toNat : Int) < 97 ∨ 122 < (c.toNat : Int)) : nmOk 0 c = false := by
  have : isLow c = false := by simp [isLow]; omega
  simp [nmOk, this]
theorem nmOk_no {j : Nat} {c : UInt8} (h : (c.toNat : Int) < 97 ∨ 122 < (c.toNat : Int)) (h' : (c.toNat : Int) < 48 ∨ 57 < (c.toNat : Int)) : nmOk j c = false := by
  have : isLow c = false := by simp [isLow]; omega
  simp [nmOk, this, isDig_false h']
theorem nameB_false {s : ByteArray} {k : Nat} (h : k < s.size) (hd : nmOk k s[k] = false) : nameB s = false := by
  have : decide (∀ j : Fin s.size, nmOk j.1 s[j.1] = true) = false := by
    rw [decide_eq_false_iff_not]
    intro hall
    have := hall ⟨k, h⟩
    simp [hd] at this
  simp [nameB, this]
theorem nameB_long {s : ByteArray} (h : ¬ (1 ≤ s.size ∧ s.size ≤ 8)) : nameB s = false := by simp only [nameB, decide_eq_false h, Bool.false_and]
theorem nameB_end {s : ByteArray} {k : Nat} (hk : k ≤ s.size) (h : ¬ k < s.size) (ha : nmAll s k) : nameB s = decide (1 ≤ s.size ∧ s.size ≤ 8) := by
  obtain rfl : k = s.size := by omega
  have : decide (∀ j : Fin s.size, nmOk j.1 s[j.1] = true) = true := by
    rw [decide_eq_true_iff]
    exact fun j => ha j.1 j.2 j.2
  simp only [nameB, this, Bool.and_true]
theorem nmAll_succ {s : ByteArray} {k : Nat} (h : k < s.size) (ha : nmAll s k) (hd : nmOk k s[k] = true) : nmAll s (k + 1) := by
  intro j hj hlt
  by_cases e : j = k
  · subst e; exact hd
  · exact ha j hj (by omega)

theorem isLetter_yes (r : Int) (h1 : 97 ≤ r) (h2 : r ≤ 122) (w : World) :
    Calls Tryd.prog 26 #[.int .i32 r] w fun e w' => e = .returned (.bool true) ∧ w = w' := by
  go_enter Tryd.func26, Tryd.ntmps26
  go_wp2
  go_ret
  exact ⟨by simp [h2], rfl⟩
theorem isLetter_no (r : Int) (h : r < 97 ∨ 122 < r) (w : World) :
    Calls Tryd.prog 26 #[.int .i32 r] w fun e w' => e = .returned (.bool false) ∧ w = w' := by
  by_cases h1 : 97 ≤ r
  · have h2 : 122 < r := by omega
    go_enter Tryd.func26, Tryd.ntmps26
    go_wp2
    go_ret
    exact ⟨ret_bool (by simp; omega), rfl⟩
  · go_enter Tryd.func26, Tryd.ntmps26
    go_wp2
    go_ret
    exact ⟨rfl, rfl⟩

theorem isEmpty_ff {s : ByteArray} (h : 0 < s.size) : s.toList.isEmpty = false := by
  have := notEmpty s
  simpa [h] using this
theorem isEmpty_tt {s : ByteArray} (h : ¬ 0 < s.size) : s.toList.isEmpty = true := by
  have := notEmpty s
  rw [decide_eq_false h] at this
  simpa using this

set_option maxHeartbeats 1000000 in
theorem impl_name (s : ByteArray) (w : World) (hs : s.size ≤ maxLen) :
    Calls Tryd.prog 12 #[.string s] w fun e w' => e = .returned (.bool (nameB s)) ∧ Below w.heap.size w w' := by
  unfold maxLen at hs
  have HB := Lib.hid (fun pos => (Below.refl w.heap.size w).alloc (Nat.le_refl _) (Obj.stringIter s pos))
  by_cases h0 : 0 < s.size
  case neg =>
    have he := isEmpty_tt h0
    go_enter Tryd.func12, Tryd.ntmps12
    go_wp2_with fail
    go_ret
    exact ⟨ret_bool (nameB_long (by omega)).symm, Below.refl _ _⟩
  have he := isEmpty_ff h0
  by_cases h8 : s.size ≤ 8
  case neg =>
    go_enter Tryd.func12, Tryd.ntmps12
    go_wp2_with fail
    go_ret
    exact ⟨ret_bool (nameB_long (by omega)).symm, Below.refl _ _⟩
  go_enter Tryd.func12, Tryd.ntmps12
  go_wp2_with fail
  go_loopw [] (fun w' => ∃ pos : Nat, w' = w.iter s pos ∧ pos ≤ s.size ∧ Hid (nmAll s pos)) (fun w' => s.size - w'.iterPos w.heap.size)
  case atStart => exact ⟨0, rfl, Nat.zero_le _, fun j _ h => by omega⟩
  case round =>
    obtain ⟨pos, rfl, hps, HA⟩ := hrel
    by_cases hp : pos < s.size
    · by_cases ha : s[pos].toNat < 128
      · have hnx : ∀ ty, (Instr.next (.pointer (some ⟨w.heap.size, 0, none⟩)) true ty).run Tryd.prog (w.iter s pos) = _ := fun ty => run_next_ascii w s pos ty hp ha
        by_cases hd : 97 ≤ (s[pos].toNat : Int) ∧ (s[pos].toNat : Int) ≤ 122
        · obtain ⟨hd1, hd2⟩ := hd
          go_wp2_with (go_at_call 26; refine (isLetter_yes _ hd1 hd2 _).mono ?_; rintro e w' ⟨rfl, rfl⟩)
          go_roundw
          case rel => exact ⟨pos + 1, rfl, by omega, nmAll_succ hp HA.out (nmOk_low hd1 hd2)⟩
          case measure => simp; omega
        · by_cases hk0 : pos = 0
          · subst hk0
            go_wp2_with (go_at_call 26; refine (isLetter_no _ (by omega) _).mono ?_; rintro e w' ⟨rfl, rfl⟩)
            go_ret
            exact ⟨ret_bool (nameB_false hp (nmOk_no0 (by omega))).symm, HB.out _⟩
          · have hk0' : 0 < pos := by omega
            have hkb : ((pos : Int) == 0) = false := by simp; omega
            clear hk0
            by_cases hg : 48 ≤ (s[pos].toNat : Int) ∧ (s[pos].toNat : Int) ≤ 57
            · obtain ⟨hd1, hd2⟩ := hg
              go_wp2_with (first | (go_at_call 26; refine (isLetter_no _ (by omega) _).mono ?_; rintro e w' ⟨rfl, rfl⟩) | (go_at_call 27; refine (isDigit_yes _ hd1 hd2 _).mono ?_; rintro e w' ⟨rfl, rfl⟩))
              go_roundw
              case rel => exact ⟨pos + 1, rfl, by omega, nmAll_succ hp HA.out (nmOk_dig hk0' hd1 hd2)⟩
              case measure => simp; omega
            · go_wp2_with (first | (go_at_call 26; refine (isLetter_no _ (by omega) _).mono ?_; rintro e w' ⟨rfl, rfl⟩) | (go_at_call 27; refine (isDigit_no _ (by omega) _).mono ?_; rintro e w' ⟨rfl, rfl⟩))
              go_ret
              exact ⟨ret_bool (nameB_false hp (nmOk_no (by omega) (by omega))).symm, HB.out _⟩
      · have hh := (decode_high s pos hp (by omega)).1
        have hnx : ∀ ty, (Instr.next (.pointer (some ⟨w.heap.size, 0, none⟩)) true ty).run Tryd.prog (w.iter s pos) = _ := fun ty => run_next_any w s pos ty hp
        by_cases hk0 : pos = 0
        · subst hk0
          go_wp2_with (go_at_call 26; refine (isLetter_no _ (by omega) _).mono ?_; rintro e w' ⟨rfl, rfl⟩)
          go_ret
          exact ⟨ret_bool (nameB_false hp (nmOk_no0 (by omega))).symm, HB.out _⟩
        · have hkb : ((pos : Int) == 0) = false := by simp; omega
          clear hk0
          go_wp2_with (first | (go_at_call 26; refine (isLetter_no _ (by omega) _).mono ?_; rintro e w' ⟨rfl, rfl⟩) | (go_at_call 27; refine (isDigit_no _ (by omega) _).mono ?_; rintro e w' ⟨rfl, rfl⟩))
          go_ret
          exact ⟨ret_bool (nameB_false hp (nmOk_no (by omega) (by omega))).symm, HB.out _⟩
    · have hnx : ∀ ty, (Instr.next (.pointer (some ⟨w.heap.size, 0, none⟩)) true ty).run Tryd.prog (w.iter s pos) = _ := fun ty => run_next_end w s pos ty hp
      have HE := Lib.hid (nameB_end hps hp HA.out)
      go_wp2_with fail
      go_ret
      exact ⟨ret_bool (by rw [HE.out]; simp; omega), HB.out _⟩

end Go.Proofs.YtaaffhiechhbaaaDoor
