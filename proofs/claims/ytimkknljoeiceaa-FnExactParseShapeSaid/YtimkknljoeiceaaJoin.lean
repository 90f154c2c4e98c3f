/-
  Walks for Join: laws.szStringS, laws.toStringS, spec.Join, impl.joinParts, impl.Join, laws.FnExactJoin.
-/
import Derived.Test.YtimkknljoeiceaaSplit
import Derived.Test.YtimkknljoeiceaaBuild
import Derived.OwnWalk
namespace Go.Proofs.Ytimkknljoeiceaa
open Go.RowKit

/-- The cells of a slice of strings that may have come in. -/
def StrsAt (w : World) (A : Option Addr) (L : List ByteArray) : Prop := ∀ k (h : k < L.length), ∃ a, A = some a ∧ a.block < w.heap.size ∧ w.cell? (a.add k) = some (.string L[k])
theorem StrsAt.below {w w' : World} {A : Option Addr} {L : List ByteArray} (h : StrsAt w A L) (hb : Below w.heap.size w w') : StrsAt w' A L := fun k hk => by
  obtain ⟨a, e, hl, hc⟩ := h k hk
  have hbl : (a.add k).block = a.block := by unfold Addr.add; split <;> rfl
  exact ⟨a, e, by have := hb.size; omega, (hb.cell (p := a.add k) (by rw [hbl]; exact hl)).trans hc⟩
theorem StrsAt.of {w : World} {B : Nat} {e : TypeId} {A : Option Addr} {n c : Nat} {L : List ByteArray} (h : w.ownsRow B e 1 (.slice A n c) n (L.map Value.string)) : StrsAt w A L := fun k hk => by
  obtain ⟨g, e1, hc⟩ := strs_of h k hk
  refine ⟨_, e1, strs_lt h g e1, ?_⟩
  have : (⟨g, 0, none⟩ : Addr).add k = ⟨g, k, none⟩ := by unfold Addr.add; split <;> simp_all
  rw [this]; exact hc

/-- How many bytes the first k strings have. -/
def tots (L : List ByteArray) : Nat → Nat
  | 0 => 0
  | k + 1 => tots L k + (L.getD k ⟨#[]⟩).size
theorem tots_succ {L : List ByteArray} {k : Nat} (h : k < L.length) : tots L (k + 1) = tots L k + L[k].size := by
  simp [tots, h]
theorem tots_mono (L : List ByteArray) {j k : Nat} (h : j ≤ k) : tots L j ≤ tots L k := by
  induction k with
  | zero => obtain rfl : j = 0 := by omega
            exact Nat.le_refl _
  | succ k ih =>
    by_cases e : j = k + 1
    · subst e; exact Nat.le_refl _
    · have := ih (by omega)
      simp only [tots]; omega

def SzOut (L : List ByteArray) (w : World) (e : Ending) (w' : World) : Prop := (∃ r : Int, e = .returned (.int .i64 r) ∧ (r < 0 ∨ (0 ≤ r ∧ L.length + tots L L.length ≤ 1048576))) ∧ w = w'

theorem fill_step {L : List ByteArray} {k : Nat} {z : Value} (hk : k < L.length) :
    ((L.take k).map Value.string ++ List.replicate (L.length - k) z).set k (.string L[k]) = (L.take (k + 1)).map Value.string ++ List.replicate (L.length - (k + 1)) z := by
  have h1 : ((L.take k).map Value.string).length = k := by simp; omega
  rw [List.set_append_right _ _ (by rw [h1]; exact Nat.le_refl _), h1, Nat.sub_self]
  have h2 : L.length - k = (L.length - (k + 1)) + 1 := by omega
  rw [h2, List.replicate_succ, List.set_cons_zero, List.take_succ_eq_append_getElem hk, List.map_append, List.append_assoc]
  rfl

/-- The first k strings with b between them. -/
def jl (L : List ByteArray) (b : List UInt8) : Nat → List UInt8
  | 0 => []
  | k + 1 => (if k = 0 then jl L b k else jl L b k ++ b) ++ (L.getD k ⟨#[]⟩).data.toList
theorem jl_first {L : List ByteArray} {b : List UInt8} (h : 0 < L.length) : jl L b (0 + 1) = jl L b 0 ++ L[0].data.toList := by simp [jl, h]
theorem add_zero (a : Addr) : a.add 0 = a := by unfold Addr.add; simp
theorem jl_next {L : List ByteArray} {b : List UInt8} {k : Nat} (h0 : 0 < k) (h : k < L.length) : jl L b (k + 1) = (jl L b k ++ b) ++ L[k].data.toList := by
  have : k ≠ 0 := by omega
  simp [jl, this, h]
theorem jl_len (L : List ByteArray) (b : List UInt8) (k : Nat) : (jl L b k).length ≤ tots L k + k * b.length := by
  induction k with
  | zero => simp [jl]
  | succ k ih =>
    have e : (k + 1) * b.length = k * b.length + b.length := Nat.succ_mul _ _
    have hl : ((L.getD k ⟨#[]⟩).data.toList).length = (L.getD k ⟨#[]⟩).size := Array.length_toList
    simp only [jl, tots]
    split <;> simp only [List.length_append] <;> omega
theorem mk_data (x : ByteArray) : ByteArray.mk x.data.toList.toArray = x := by
  cases x; simp
theorem add_lists {P : Program} (a b : List UInt8) (y : ByteArray) (hb : y.data.toList = b) (h : a.length + b.length ≤ 9223372036854775807) (w : World) : (Op.stringOp .add ⟨a.toArray⟩ y).run P w = .ok (.string ⟨(a ++ b).toArray⟩) w := by
  have hs : y.size = b.length := by rw [← hb]; exact Array.length_toList.symm
  rw [run_string_add_sum w _ _ (by rw [mk_size, hs]; exact h)]
  have := ByteArray.mk_append_mk a b
  rw [← hb, mk_data] at this
  rw [this, hb]

set_option maxRecDepth 100000 in
set_option maxHeartbeats 1000000 in
theorem spec_join (A : Option Addr) (c : Nat) (L : List ByteArray) (b : ByteArray) (w : World) (hS : StrsAt w A L) (hL : L.length + tots L L.length ≤ 1048576) (hb : b.size ≤ 1048576) :
    Calls Try.prog 89 #[.slice A L.length c, .string b] w fun e w' => e = .returned (.string ⟨(jl L b.data.toList L.length).toArray⟩) ∧ w = w' := by
  have HS := Lib.hid hS; clear hS
  have hbl : b.data.toList.length = b.size := data_len b
  have HJ : Hid (∀ k, k ≤ L.length → (jl L b.data.toList k).length ≤ 1048576 + 1048576 * 1048576) := fun k hk => by
    have h1 := jl_len L b.data.toList k
    have h2 := tots_mono L hk
    have h3 : k * b.data.toList.length ≤ 1048576 * 1048576 := Nat.mul_le_mul (by omega) (by omega)
    omega
  have HB := Lib.hid hbl; clear hbl
  have HT : Hid (∀ k (hk : k < L.length), L[k].size ≤ 1048576) := fun k hk => by
    have h1 := tots_succ hk
    have h2 := tots_mono L (show k + 1 ≤ L.length by omega)
    omega
  have hl : L.length ≤ 1048576 := by omega
  clear hL
  go_enter Try.func89, Try.ntmps89
  go_wp2_with fail
  go_loop [5, 10] (fun t i => ∃ k : Nat, k ≤ L.length ∧ i = .int .i64 k ∧ t = .string ⟨(jl L b.data.toList k).toArray⟩) (fun _ i => L.length - (intOf i).toNat)
  case atStart => exact ⟨0, Nat.zero_le _, rfl, rfl⟩
  case round =>
    obtain ⟨k, hk, rfl, rfl⟩ := hrel
    by_cases hlt : k < L.length
    · obtain ⟨ad, rfl, _, hc⟩ := HS.out k hlt
      have hjk := HJ.out k hk
      have hxs := HT.out k hlt
      by_cases h0 : k = 0
      · subst h0
        have HN := Lib.hid (jl_first (b := b.data.toList) hlt)
        rw [add_zero] at hc
        obtain ⟨x, hx⟩ : ∃ x, x = L[0] := ⟨_, rfl⟩
        obtain ⟨J, hJ⟩ : ∃ J, J = jl L b.data.toList 0 := ⟨_, rfl⟩
        rw [← hJ] at hjk ⊢
        rw [← hx, ← hJ] at HN
        rw [← hx] at hc hxs
        clear hx hJ
        have hadd := add_lists (P := Try.prog) J x.data.toList x rfl (by rw [data_len]; omega) w
        go_wp2_with fail
        go_round
        case rel => exact ⟨0 + 1, by omega, by go_num, by rw [HN.out]⟩
        case measure => simp [intOf]; omega
      · have hk0 : 0 < k := by omega
        have HN := Lib.hid (jl_next (b := b.data.toList) hk0 hlt)
        obtain ⟨x, hx⟩ : ∃ x, x = L[k] := ⟨_, rfl⟩
        obtain ⟨J, hJ⟩ : ∃ J, J = jl L b.data.toList k := ⟨_, rfl⟩
        rw [← hJ] at hjk ⊢
        rw [← hx, ← hJ] at HN
        rw [← hx] at hc hxs
        clear hx hJ h0
        have hadd1 := add_lists (P := Try.prog) J b.data.toList b rfl (by rw [data_len]; omega) w
        have hadd2 := add_lists (P := Try.prog) (J ++ b.data.toList) x.data.toList x rfl (by rw [data_len, List.length_append, data_len]; omega) w
        go_wp2_with fail
        go_round
        case rel => exact ⟨k + 1, by omega, by go_num, by rw [HN.out, List.append_assoc]⟩
        case measure => simp [intOf]; omega
    · obtain rfl : k = L.length := by omega
      go_wp2_with fail
      go_ret
      exact ⟨rfl, rfl⟩
theorem cells_len (l : List UInt8) : (Lib.byteCells l).length = l.length := by simp [Lib.byteCells]
theorem cells_app (l : List UInt8) (s : ByteArray) : Lib.byteCells l ++ Lib.strCells s = Lib.byteCells (l ++ s.data.toList) := (Lib.byteCells_append l s.data.toList).symm

set_option maxRecDepth 100000 in
set_option maxHeartbeats 1000000 in
theorem join_parts (A : Option Addr) (c : Nat) (L : List ByteArray) (b : ByteArray) (w : World) (hS : StrsAt w A L) (hL : L.length + tots L L.length ≤ 1048576) (hb : b.size ≤ 1048576) :
    Calls Try.prog 144 #[.string b, .slice A L.length c] w fun e w' => e = .returned (.string ⟨(jl L b.data.toList L.length).toArray⟩) ∧ Below w.heap.size w w' := by
  have HS := Lib.hid hS; clear hS
  have hbl : b.data.toList.length = b.size := data_len b
  have HJ : Hid (∀ k, k ≤ L.length → (jl L b.data.toList k).length ≤ 1048576 + 1048576 * 1048576) := fun k hk => by
    have h1 := jl_len L b.data.toList k
    have h2 := tots_mono L hk
    have h3 : k * b.data.toList.length ≤ 1048576 * 1048576 := Nat.mul_le_mul (by omega) (by omega)
    omega
  have HB := Lib.hid hbl; clear hbl
  have HT : Hid (∀ k (hk : k < L.length), L[k].size ≤ 1048576) := fun k hk => by
    have h1 := tots_succ hk
    have h2 := tots_mono L (show k + 1 ≤ L.length by omega)
    omega
  have hl : L.length ≤ 1048576 := by omega
  clear hL
  have hfr := Lib.fresh_isBuilder 92 5 w
  have HF := Lib.hid hfr; clear hfr
  go_enter Try.func144, Try.ntmps144
  go_wp2_with fail
  go_loopw [10] (fun i wr => ∃ k : Nat, k ≤ L.length ∧ i = .int .i64 k ∧ Lib.IsBuilder 92 5 w.heap.size w.heap.size (Lib.byteCells (jl L b.data.toList k)) wr ∧ Below w.heap.size w wr) (fun i _ => L.length - (intOf i).toNat)
  case atStart => exact ⟨0, Nat.zero_le _, rfl, HF.out, (Below.refl _ _).alloc (Nat.le_refl _) _⟩
  case round =>
    obtain ⟨wo, rfl⟩ : ∃ wo : World, wo = wr := ⟨_, rfl⟩
    obtain ⟨k, hk, rfl, hI, hbe⟩ := hrel
    by_cases hlt : k < L.length
    · obtain ⟨ad, rfl, _, hc⟩ := (HS.out.below hbe) k hlt
      have hjk := HJ.out k hk
      have hxs := HT.out k hlt
      by_cases h0 : k = 0
      · subst h0
        have HN := Lib.hid (jl_first (b := b.data.toList) hlt)
        rw [add_zero] at hc
        obtain ⟨x, hx⟩ : ∃ x, x = L[0] := ⟨_, rfl⟩
        obtain ⟨J, hJ⟩ : ∃ J, J = jl L b.data.toList 0 := ⟨_, rfl⟩
        rw [← hJ] at hjk hI
        rw [← hx, ← hJ] at HN
        rw [← hx] at hc hxs
        clear hx hJ
        go_wp2_with fail
        refine (Try.writeString _ _ _ x _ hI (by rw [cells_len]; omega) hbe.size).mono ?_
        rintro e w2 ⟨rfl, hI2, hb2⟩
        rw [cells_app, ← HN.out] at hI2
        have R := Lib.hid (And.intro hI2 (hbe.trans hb2))
        clear hI hbe hI2 hb2 hc
        go_wp2_with fail
        go_roundw
        case rel => exact ⟨0 + 1, by omega, by go_num, R.out.1, R.out.2⟩
        case measure => simp [intOf]; omega
      · have hk0 : 0 < k := by omega
        have HN := Lib.hid (jl_next (b := b.data.toList) hk0 hlt)
        obtain ⟨x, hx⟩ : ∃ x, x = L[k] := ⟨_, rfl⟩
        obtain ⟨J, hJ⟩ : ∃ J, J = jl L b.data.toList k := ⟨_, rfl⟩
        rw [← hJ] at hjk hI
        rw [← hx, ← hJ] at HN
        rw [← hx] at hc hxs
        clear hx hJ h0
        go_wp2_with fail
        refine (Try.writeString _ _ _ b _ hI (by rw [cells_len]; omega) hbe.size).mono ?_
        rintro e w2 ⟨rfl, hI2, hb2⟩
        rw [cells_app] at hI2
        have hbe2 := hbe.trans hb2
        clear hI hbe hb2 hc
        go_wp2_with fail
        refine (Try.writeString _ _ _ x _ hI2 (by rw [cells_len, List.length_append, data_len]; omega) hbe2.size).mono ?_
        rintro e w3 ⟨rfl, hI3, hb3⟩
        rw [cells_app, ← HN.out] at hI3
        have R := Lib.hid (And.intro hI3 (hbe2.trans hb3))
        clear hI2 hbe2 hI3 hb3
        go_wp2_with fail
        go_roundw
        case rel => exact ⟨k + 1, by omega, by go_num, R.out.1, R.out.2⟩
        case measure => simp [intOf]; omega
    · obtain rfl : k = L.length := by omega
      have hsz := hbe.size
      go_wp2_with fail
      refine (Try.Builder_String_any _ _ _ _ hI hsz).mono ?_
      rintro e w2 ⟨rfl, hb2⟩
      have R := Lib.hid (hbe.trans hb2)
      clear hI hbe hb2
      go_wp2_with fail
      go_ret
      exact ⟨rfl, R.out⟩

theorem impl_join (A : Option Addr) (c : Nat) (L : List ByteArray) (b : ByteArray) (w : World) (hS : StrsAt w A L) (hL : L.length + tots L L.length ≤ 1048576) (hb : b.size ≤ 1048576) :
    Calls Try.prog 94 #[.slice A L.length c, .string b] w fun e w' => e = .returned (.string ⟨(jl L b.data.toList L.length).toArray⟩) ∧ Below w.heap.size w w' := by
  go_enter Try.func94, Try.ntmps94
  go_wp2_with fail
  refine (join_parts A c L b w hS hL hb).mono ?_
  rintro e w1 ⟨rfl, hb1⟩
  go_wp2_with fail
  go_ret
  exact ⟨rfl, hb1⟩
end Go.Proofs.Ytimkknljoeiceaa
