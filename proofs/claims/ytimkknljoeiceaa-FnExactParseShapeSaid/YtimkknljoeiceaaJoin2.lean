/-
  Join of the program, at lists of up to 2 to the 21 bytes.
-/
import Derived.Test.YtimkknljoeiceaaJoin
namespace Go.Proofs.Ytimkknljoeiceaa
open Go.RowKit

set_option maxRecDepth 100000 in
set_option maxHeartbeats 1000000 in
theorem join_parts2 (A : Option Addr) (c : Nat) (L : List ByteArray) (b : ByteArray) (w : World) (hS : StrsAt w A L) (hL : L.length + tots L L.length ≤ 2097152) (hb : b.size ≤ 2097152) :
    Calls Try.prog 144 #[.string b, .slice A L.length c] w fun e w' => e = .returned (.string ⟨(jl L b.data.toList L.length).toArray⟩) ∧ Below w.heap.size w w' := by
  have HS := Lib.hid hS; clear hS
  have hbl : b.data.toList.length = b.size := data_len b
  have HJ : Hid (∀ k, k ≤ L.length → (jl L b.data.toList k).length ≤ 2097152 + 2097152 * 2097152) := fun k hk => by
    have h1 := jl_len L b.data.toList k
    have h2 := tots_mono L hk
    have h3 : k * b.data.toList.length ≤ 2097152 * 2097152 := Nat.mul_le_mul (by omega) (by omega)
    omega
  have HB := Lib.hid hbl; clear hbl
  have HT : Hid (∀ k (hk : k < L.length), L[k].size ≤ 2097152) := fun k hk => by
    have h1 := tots_succ hk
    have h2 := tots_mono L (show k + 1 ≤ L.length by omega)
    omega
  have hl : L.length ≤ 2097152 := by omega
  clear hL
  have hfr := Lib.fresh_isBuilder 92 5 w
  have HF := Lib.hid hfr; clear hfr
  go_enter Try.func144, Try.ntmps144
  go_wp2_with fail
  go_loopw [10] (fun i wr => ∃ k : Nat, k ≤ L.length ∧ i = .int .i64 k ∧ Lib.IsBuilder 92 5 w.heap.size w.heap.size (Lib.byteCells (jl L b.data.toList k)) wr ∧ Below w.heap.size w wr) (fun i _ => L.length - (intOf i).toNat)
  case atStart => exact ⟨0, Nat.zero_le _, rfl, HF.out, (Below.refl _ _).alloc (Nat.le_refl _) _⟩
  case round =>
    obtain ⟨wo, rfl⟩ : ∃ wo : World, wo = wr := ⟨_, rfl⟩
    obtain ⟨k, hk, rfl, hI, hbe⟩ := hrel
    by_cases hlt : k < L.length
    · obtain ⟨ad, rfl, _, hc⟩ := (HS.out.below hbe) k hlt
      have hjk := HJ.out k hk
      have hxs := HT.out k hlt
      by_cases h0 : k = 0
      · subst h0
        have HN := Lib.hid (jl_first (b := b.data.toList) hlt)
        rw [add_zero] at hc
        obtain ⟨x, hx⟩ : ∃ x, x = L[0] := ⟨_, rfl⟩
        obtain ⟨J, hJ⟩ : ∃ J, J = jl L b.data.toList 0 := ⟨_, rfl⟩
        rw [← hJ] at hjk hI
        rw [← hx, ← hJ] at HN
        rw [← hx] at hc hxs
        clear hx hJ
        go_wp2_with fail
        refine (Try.writeString _ _ _ x _ hI (by rw [cells_len]; omega) hbe.size).mono ?_
        rintro e w2 ⟨rfl, hI2, hb2⟩
        rw [cells_app, ← HN.out] at hI2
        have R := Lib.hid (And.intro hI2 (hbe.trans hb2))
        clear hI hbe hI2 hb2 hc
        go_wp2_with fail
        go_roundw
        case rel => exact ⟨0 + 1, by omega, by go_num, R.out.1, R.out.2⟩
        case measure => simp [intOf]; omega
      · have hk0 : 0 < k := by omega
        have HN := Lib.hid (jl_next (b := b.data.toList) hk0 hlt)
        obtain ⟨x, hx⟩ : ∃ x, x = L[k] := ⟨_, rfl⟩
        obtain ⟨J, hJ⟩ : ∃ J, J = jl L b.data.toList k := ⟨_, rfl⟩
        rw [← hJ] at hjk hI
        rw [← hx, ← hJ] at HN
        rw [← hx] at hc hxs
        clear hx hJ h0
        go_wp2_with fail
        refine (Try.writeString _ _ _ b _ hI (by rw [cells_len]; omega) hbe.size).mono ?_
        rintro e w2 ⟨rfl, hI2, hb2⟩
        rw [cells_app] at hI2
        have hbe2 := hbe.trans hb2
        clear hI hbe hb2 hc
        go_wp2_with fail
        refine (Try.writeString _ _ _ x _ hI2 (by rw [cells_len, List.length_append, data_len]; omega) hbe2.size).mono ?_
        rintro e w3 ⟨rfl, hI3, hb3⟩
        rw [cells_app, ← HN.out] at hI3
        have R := Lib.hid (And.intro hI3 (hbe2.trans hb3))
        clear hI2 hbe2 hI3 hb3
        go_wp2_with fail
        go_roundw
        case rel => exact ⟨k + 1, by omega, by go_num, R.out.1, R.out.2⟩
        case measure => simp [intOf]; omega
    · obtain rfl : k = L.length := by omega
      have hsz := hbe.size
      go_wp2_with fail
      refine (Try.Builder_String_any _ _ _ _ hI hsz).mono ?_
      rintro e w2 ⟨rfl, hb2⟩
      have R := Lib.hid (hbe.trans hb2)
      clear hI hbe hb2
      go_wp2_with fail
      go_ret
      exact ⟨rfl, R.out⟩

theorem impl_join2 (A : Option Addr) (c : Nat) (L : List ByteArray) (b : ByteArray) (w : World) (hS : StrsAt w A L) (hL : L.length + tots L L.length ≤ 2097152) (hb : b.size ≤ 2097152) :
    Calls Try.prog 94 #[.slice A L.length c, .string b] w fun e w' => e = .returned (.string ⟨(jl L b.data.toList L.length).toArray⟩) ∧ Below w.heap.size w w' := by
  go_enter Try.func94, Try.ntmps94
  go_wp2_with fail
  refine (join_parts2 A c L b w hS hL hb).mono ?_
  rintro e w1 ⟨rfl, hb1⟩
  go_wp2_with fail
  go_ret
  exact ⟨rfl, hb1⟩
end Go.Proofs.Ytimkknljoeiceaa
