/-
  Walks for PadZeros: spec.PadZeros, impl.PadZeros, laws.FnExactPadZeros.
-/
import Derived.Test.YtimkknljoeiceaaDig
import Derived.Test.YtimkknljoeiceaaShelf
namespace Go.Proofs.Ytimkknljoeiceaa
open Go.RowKit

/-- s behind k zeros. -/
def padN (s : ByteArray) (k : Nat) : ByteArray := ⟨(List.replicate k 48 ++ s.data.toList).toArray⟩
def strLen : Value → Nat | .string b => b.size | _ => 0
/-- How many zeros are wanted. -/
def padK (s : ByteArray) (n : Int) : Nat := if 2000 < n then 0 else n.toNat - s.size

theorem mk_size (l : List UInt8) : (ByteArray.mk l.toArray).size = l.length := by
  show l.toArray.size = _
  simp
theorem data_len (s : ByteArray) : s.data.toList.length = s.size := Array.length_toList
theorem padN_size (s : ByteArray) (k : Nat) : (padN s k).size = k + s.size := by
  rw [padN, mk_size, List.length_append, List.length_replicate, data_len]
theorem padN_zero (s : ByteArray) : padN s 0 = s := by
  apply ByteArray.ext
  simp [padN]
theorem padN_succ (s : ByteArray) (k : Nat) : ByteArray.mk #[48] ++ padN s k = padN s (k + 1) := by
  have := ByteArray.mk_append_mk [48] (List.replicate k 48 ++ s.data.toList)
  rw [padN, padN]
  simpa [List.replicate_succ] using this

theorem ret_str {a b : ByteArray} (h : a = b) : Ending.returned (.string a) = .returned (.string b) := by rw [h]

theorem clone_any (s : ByteArray) (w : World) (hs : s.size ≤ 281474976710656) :
    Calls Try.prog 143 #[.string s] w fun e w' => e = .returned (.string s) ∧ Below w.heap.size w w' := by
  go_enter Try.func143, Try.ntmps143
  go_wp2_with (go_at_call 179; refine (Try.stringslite_Clone _ _ hs).mono ?_; rintro e w' ⟨rfl, hb⟩)
  go_ret
  exact ⟨rfl, hb⟩

end Go.Proofs.Ytimkknljoeiceaa
