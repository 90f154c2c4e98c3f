/-
  Walks for PadZeros: spec.PadZeros, impl.PadZeros, laws.FnExactPadZeros.
-/
import Derived.Test.YtaaffhiechhbaaaDig
import Derived.Test.YtaaffhiechhbaaaShelf
namespace Go.Proofs.Ytaaffhiechhbaaa
open Go.RowKit

/-- s behind k zeros. -/
def padN (s : ByteArray) (k : Nat) : ByteArray := ⟨(List.replicate k 48 ++ s.data.toList).toArray⟩
def strLen : Value → Nat | .string b => b.size | _ => 0
/-- How many zeros are wanted. -/
def padK (s : ByteArray) (n : Int) : Nat := if 2000 < n then 0 else n.toNat - s.size

theorem mk_size (l : List UInt8) : (ByteArray.mk l.toArray).size = l.length := by
  show l.toArray.size = _
  simp
theorem data_len (s : ByteArray) : s.data.toList.length = s.size := Array.length_toList
theorem padN_size (s : ByteArray) (k : Nat) : (padN s k).size = k + s.size := by
  rw [padN, mk_size, List.length_append, List.length_replicate, data_len]
theorem padN_zero (s : ByteArray) : padN s 0 = s := by
  apply ByteArray.ext
  simp [padN]
theorem padN_succ (s : ByteArray) (k : Nat) : ByteArray.mk #[48] ++ padN s k = padN s (k + 1) := by
  have := ByteArray.mk_append_mk [48] (List.replicate k 48 ++ s.data.toList)
  rw [padN, padN]
  simpa [List.replicate_succ] using this

theorem rep_app (s : ByteArray) (c : Nat) : ByteArray.mk (Lib.repeatL [48] c).toArray ++ s = padN s c := by
  have e : ∀ c, Lib.repeatL [48] c = List.replicate c (48 : UInt8) := fun c => by
    induction c with
    | zero => rfl
    | succ c ih => rw [Lib.repeatL, ih]; simp [List.replicate_succ]
  rw [e, padN]
  have := ByteArray.mk_append_mk (List.replicate c 48) s.data.toList
  simpa using this

theorem ret_str {a b : ByteArray} (h : a = b) : Ending.returned (.string a) = .returned (.string b) := by rw [h]

set_option maxHeartbeats 400000 in
theorem spec_pad (s : ByteArray) (n : Int) (w : World) (hs : s.size ≤ maxLen) :
    Calls Try.prog 24 #[.string s, .int .i64 n] w fun e w' => e = .returned (.string (padN s (padK s n))) ∧ w = w' := by
  unfold maxLen at hs
  by_cases h2 : 2000 < n
  · have HP : Hid (padN s (padK s n) = s) := by
      have : padK s n = 0 := by simp [padK, h2]
      rw [this]; exact padN_zero s
    go_enter Try.func24, Try.ntmps24
    go_wp2_with fail
    go_ret
    exact ⟨ret_str HP.out.symm, rfl⟩
  · have hk : padK s n = n.toNat - s.size := by simp [padK, h2]
    have HK := Lib.hid hk
    clear hk
    go_enter Try.func24, Try.ntmps24
    go_wp2_with fail
    go_loop [0] (fun t => ∃ k : Nat, t = .string (padN s k) ∧ k ≤ n.toNat - s.size) (fun t => n.toNat - strLen t)
    case atStart => exact ⟨0, by rw [padN_zero], Nat.zero_le _⟩
    case round =>
      obtain ⟨k, rfl, hk⟩ := hrel
      have hz := padN_size s k
      by_cases hlt : ((k + s.size : Nat) : Int) < n
      · have hadd : (Op.stringOp .add ⟨#[48]⟩ (padN s k)).run Try.prog w = .ok (.string (padN s (k + 1))) w := by
          rw [run_string_add_sum w _ _ (by rw [hz]; show 1 + _ ≤ _; omega), padN_succ]
        go_wp2_with fail
        go_round
        case rel => exact ⟨k + 1, rfl, by omega⟩
        case measure => simp only [strLen, padN_size]; omega
      · have HE : Hid (padN s k = padN s (padK s n)) := by
          rw [HK.out]
          have : k = n.toNat - s.size := by omega
          rw [this]; exact rfl
        go_wp2_with fail
        go_ret
        exact ⟨ret_str HE.out, rfl⟩

theorem clone_any (s : ByteArray) (w : World) (hs : s.size ≤ 281474976710656) :
    Calls Try.prog 30 #[.string s] w fun e w' => e = .returned (.string s) ∧ Below w.heap.size w w' := by
  go_enter Try.func30, Try.ntmps30
  go_wp2_with (go_at_call 34; refine (Try.stringslite_Clone _ _ hs).mono ?_; rintro e w' ⟨rfl, hb⟩)
  go_ret
  exact ⟨rfl, hb⟩

set_option maxHeartbeats 400000 in
theorem impl_pad (s : ByteArray) (n : Int) (w : World) (hs : s.size ≤ 1048576) :
    Calls Try.prog 25 #[.string s, .int .i64 n] w fun e w' => e = .returned (.string (padN s (padK s n))) ∧ Below w.heap.size w w' := by
  by_cases h1 : n ≤ (s.size : Int)
  · have HP : Hid (padN s (padK s n) = s) := by
      have : padK s n = 0 := by unfold padK; split <;> omega
      rw [this]; exact padN_zero s
    go_enter Try.func25, Try.ntmps25
    go_wp2_with (go_at_call 30; refine (clone_any _ _ (by omega)).mono ?_; rintro e w' ⟨rfl, hb⟩)
    go_ret
    exact ⟨ret_str HP.out.symm, hb⟩
  by_cases h2 : 2000 < n
  · have HP : Hid (padN s (padK s n) = s) := by
      have : padK s n = 0 := by unfold padK; split <;> omega
      rw [this]; exact padN_zero s
    go_enter Try.func25, Try.ntmps25
    go_wp2_with (go_at_call 30; refine (clone_any _ _ (by omega)).mono ?_; rintro e w' ⟨rfl, hb⟩)
    go_ret
    exact ⟨ret_str HP.out.symm, hb⟩
  · obtain ⟨c, hc⟩ : ∃ c : Nat, n - (s.size : Int) = c := ⟨(n - s.size).toNat, by omega⟩
    have hc0 : 0 < c := by omega
    have hc1 : c ≤ 2000 := by omega
    have HP : Hid (ByteArray.mk (Lib.repeatL [48] c).toArray ++ s = padN s (padK s n)) := by
      have : padK s n = c := by unfold padK; split <;> omega
      rw [this]; exact rep_app s c
    have HL : Hid ((ByteArray.mk (Lib.repeatL [48] c).toArray).size = c) := by
      show (ByteArray.mk (Lib.repeatL [48] c).toArray).size = c
      rw [mk_size, Lib.repeatL_length]; simp
    have hadd : ∀ w, (Op.stringOp .add (ByteArray.mk (Lib.repeatL [48] c).toArray) s).run Try.prog w = .ok (.string (ByteArray.mk (Lib.repeatL [48] c).toArray ++ s)) w := fun w => by
      rw [run_string_add_sum w _ _ (by rw [HL.out]; omega)]
    have HA := Lib.hid hadd
    clear hadd
    obtain rfl : n = (s.size : Int) + c := by omega
    clear hc
    have e1 : (s.size : Int) + c - s.size = c := by omega
    go_enter Try.func25, Try.ntmps25
    go_wp2_with fail
    refine (Try.strings_Repeat ⟨#[48]⟩ c _ (by omega) (by show 1 * c ≤ _; omega)).mono ?_
    rintro e w' ⟨rfl, hb⟩
    have hadd := HA.out w'
    go_wp2_with fail
    go_ret
    exact ⟨ret_str HP.out, hb⟩

set_option maxHeartbeats 400000 in
theorem law_pad (s : ByteArray) (n : Int) (w : World) (hs : s.size ≤ maxLen) (_ : (Lit.int .i64 n).wf = true) :
    Calls Try.prog 8 #[.string s, .int .i64 n] w fun e w' => e = .returned (.bool true) ∧ Below w.heap.size w w' := by
  have hs' := hs
  unfold maxLen at hs'
  by_cases hb : s.size ≤ 1048576
  · go_enter Try.func8, Try.ntmps8
    go_wp2_with (first
      | (go_at_call 24; refine (spec_pad _ _ _ hs).mono ?_; rintro e w' ⟨rfl, rfl⟩)
      | (go_at_call 25; refine (impl_pad _ _ _ hb).mono ?_; rintro e w' ⟨rfl, hb⟩))
    go_ret
    exact ⟨rfl, hb⟩
  · go_enter Try.func8, Try.ntmps8
    go_wp2_with fail
    go_ret
    exact ⟨rfl, Below.refl _ _⟩

end Go.Proofs.Ytaaffhiechhbaaa
