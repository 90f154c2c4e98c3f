/-
  Walks for Join: laws.szStringS, laws.toStringS, spec.Join, impl.joinParts, impl.Join, laws.FnExactJoin.
-/
import Derived.Test.YtaaffhiechhbaaaSplit
import Derived.Test.YtaaffhiechhbaaaBuild
import Derived.OwnWalk
namespace Go.Proofs.Ytaaffhiechhbaaa
open Go.RowKit

/-- The cells of a slice of strings that may have come in. -/
def StrsAt (w : World) (A : Option Addr) (L : List ByteArray) : Prop := ∀ k (h : k < L.length), ∃ a, A = some a ∧ a.block < w.heap.size ∧ w.cell? (a.add k) = some (.string L[k])
theorem StrsAt.below {w w' : World} {A : Option Addr} {L : List ByteArray} (h : StrsAt w A L) (hb : Below w.heap.size w w') : StrsAt w' A L := fun k hk => by
  obtain ⟨a, e, hl, hc⟩ := h k hk
  have hbl : (a.add k).block = a.block := by unfold Addr.add; split <;> rfl
  exact ⟨a, e, by have := hb.size; omega, (hb.cell (p := a.add k) (by rw [hbl]; exact hl)).trans hc⟩
theorem StrsAt.of {w : World} {B : Nat} {e : TypeId} {A : Option Addr} {n c : Nat} {L : List ByteArray} (h : w.ownsRow B e 1 (.slice A n c) n (L.map Value.string)) : StrsAt w A L := fun k hk => by
  obtain ⟨g, e1, hc⟩ := strs_of h k hk
  refine ⟨_, e1, strs_lt h g e1, ?_⟩
  have : (⟨g, 0, none⟩ : Addr).add k = ⟨g, k, none⟩ := by unfold Addr.add; split <;> simp_all
  rw [this]; exact hc

/-- How many bytes the first k strings have. -/
def tots (L : List ByteArray) : Nat → Nat
  | 0 => 0
  | k + 1 => tots L k + (L.getD k ⟨#[]⟩).size
theorem tots_succ {L : List ByteArray} {k : Nat} (h : k < L.length) : tots L (k + 1) = tots L k + L[k].size := by
  simp [tots, h]
theorem tots_mono (L : List ByteArray) {j k : Nat} (h : j ≤ k) : tots L j ≤ tots L k := by
  induction k with
  | zero => obtain rfl : j = 0 := by omega
            exact Nat.le_refl _
  | succ k ih =>
    by_cases e : j = k + 1
    · subst e; exact Nat.le_refl _
    · have := ih (by omega)
      simp only [tots]; omega

def SzOut (L : List ByteArray) (w : World) (e : Ending) (w' : World) : Prop := (∃ r : Int, e = .returned (.int .i64 r) ∧ (r < 0 ∨ (0 ≤ r ∧ L.length + tots L L.length ≤ 1048576))) ∧ w = w'

set_option maxHeartbeats 400000 in
theorem sz_strs (A : Option Addr) (c : Nat) (L : List ByteArray) (w : World) (hS : StrsAt w A L) (hz : ∀ s ∈ L, s.size ≤ maxLen) (hL : L.length ≤ maxLen) :
    Calls Try.prog 20 #[.slice A L.length c, .int .i64 1048576] w (SzOut L w) := by
  unfold maxLen at hL
  have HS := Lib.hid hS; clear hS
  have HZ := Lib.hid hz; clear hz
  by_cases h1 : L.length ≤ 1048576
  case neg =>
    go_enter Try.func20, Try.ntmps20
    go_wp2_with fail
    go_ret
    exact ⟨⟨_, rfl, .inl (by omega)⟩, rfl⟩
  go_enter Try.func20, Try.ntmps20
  go_wp2_with fail
  go_loop [1, 5] (fun m i => ∃ (k : Nat) (a : Int), k ≤ L.length ∧ i = .int .i64 k ∧ m = .int .i64 a ∧ 0 ≤ a ∧ a ≤ 1048576 ∧ Hid (a + L.length + tots L k = 1048576)) (fun _ i => L.length - (intOf i).toNat)
  case atStart => exact ⟨0, 1048576 - L.length, Nat.zero_le _, rfl, rfl, by omega, by omega, by show _ = _; simp [tots]⟩
  case round =>
    obtain ⟨k, a, hk, rfl, rfl, ha0, ha1, HA⟩ := hrel
    by_cases hlt : k < L.length
    · obtain ⟨ad, rfl, _, hc⟩ := HS.out k hlt
      have HX := Lib.hid (tots_succ hlt)
      have hxm := HZ.out _ (List.getElem_mem hlt)
      obtain ⟨x, hx⟩ : ∃ x, x = L[k] := ⟨_, rfl⟩
      rw [← hx] at hc HX hxm
      clear hx
      unfold maxLen at hxm
      by_cases ho : a - (x.size : Int) < 0
      · go_wp2_with fail
        go_ret
        exact ⟨⟨_, rfl, .inl (by omega)⟩, rfl⟩
      · have HE : Hid (a - (x.size : Int) + L.length + tots L (k + 1) = 1048576) := by
          show _ = _
          have := HA.out
          rw [HX.out]; omega
        go_wp2_with fail
        go_round
        case rel => exact ⟨k + 1, a - (x.size : Int), by omega, by go_num, rfl, by omega, by omega, HE⟩
        case measure => simp [intOf]; omega
    · have HE : Hid (L.length + tots L L.length ≤ 1048576) := by
        obtain rfl : k = L.length := by omega
        have := HA.out
        show _ ≤ _
        omega
      go_wp2_with fail
      go_ret
      exact ⟨⟨_, rfl, .inr ⟨ha0, HE.out⟩⟩, rfl⟩

theorem fill_step {L : List ByteArray} {k : Nat} {z : Value} (hk : k < L.length) :
    ((L.take k).map Value.string ++ List.replicate (L.length - k) z).set k (.string L[k]) = (L.take (k + 1)).map Value.string ++ List.replicate (L.length - (k + 1)) z := by
  have h1 : ((L.take k).map Value.string).length = k := by simp; omega
  rw [List.set_append_right _ _ (by rw [h1]; exact Nat.le_refl _), h1, Nat.sub_self]
  have h2 : L.length - k = (L.length - (k + 1)) + 1 := by omega
  rw [h2, List.replicate_succ, List.set_cons_zero, List.take_succ_eq_append_getElem hk, List.map_append, List.append_assoc]
  rfl

set_option maxHeartbeats 800000 in
theorem to_strs (A : Option Addr) (c : Nat) (L : List ByteArray) (w : World) (hS : StrsAt w A L) (hL : L.length ≤ 1048576) :
    Calls Try.prog 22 #[.slice A L.length c] w fun e w' => ∃ v, e = .returned v ∧ w'.ownsRow w.heap.size 9 1 v L.length (L.map Value.string) ∧ Below w.heap.size w w' := by
  obtain ⟨i0, hi, hz0, hz1, hz2⟩ := info_parts info_str
  have HS := Lib.hid hS; clear hS
  go_enter Try.func22, Try.ntmps22
  go_wp2_with (refine wpList_make_full w rfl _ _ 23 rfl w.heap.size 9 i0 (.string ⟨#[]⟩) 1 Try.underlying23 hi hz0 hz1 .i64 .i64 _ _ L.length rfl rfl rfl rfl (by rw [hz2]; omega) (by unfold maxLen; omega) (Nat.le_refl _) ?_)
  intro w1 own hg
  have hb1 : Below w.heap.size w w1 := (Below.refl _ _).grown hg (Nat.le_refl _) (fun k hk => by cases hk)
  rw [toList_madeCells_one] at own
  clear hg
  go_wp2_with fail
  go_loopw [4] (fun i wr => ∃ k : Nat, k ≤ L.length ∧ i = .int .i64 k ∧ wr.ownsRow w.heap.size 9 1 (.slice (some ⟨w.heap.size, 0, none⟩) L.length L.length) L.length ((L.take k).map Value.string ++ List.replicate (L.length - k) (.string ⟨#[]⟩)) ∧ Below w.heap.size w wr) (fun i _ => L.length - (intOf i).toNat)
  case atStart => exact ⟨0, Nat.zero_le _, rfl, by simpa using own, hb1⟩
  case round =>
    obtain ⟨wo, rfl⟩ : ∃ wo : World, wo = wr := ⟨_, rfl⟩
    clear own hb1
    obtain ⟨k, hk, rfl, own, hb⟩ := hrel
    by_cases hlt : k < L.length
    · obtain ⟨ad, rfl, _, hc⟩ := (HS.out.below hb) k hlt
      have hs := own.stored k (.string L[k])
      rw [fill_step hlt] at hs
      obtain ⟨x, hx⟩ : ∃ x, x = L[k] := ⟨_, rfl⟩
      rw [← hx] at hc hs
      have hc1 : ∃ u, wo.cell? ⟨w.heap.size, k, none⟩ = some u := by
        rw [own.cellAt k (by omega)]
        have : k < ((L.take k).map Value.string ++ List.replicate (L.length - k) (Value.string ⟨#[]⟩)).length := by simp; omega
        exact ⟨_, List.getElem?_eq_getElem this⟩
      obtain ⟨u, hc1⟩ := hc1
      have hf1 := own.frozenAt k
      have R := Lib.hid (And.intro hs.1 (hb.setCell (p := ⟨w.heap.size, k, none⟩) (Nat.le_refl _) (.string x)))
      clear hs own hx hb
      go_wp2_with fail
      go_roundw
      case rel => exact ⟨k + 1, by omega, by go_num, R.out.1, R.out.2⟩
      case measure => simp [intOf]; omega
    · obtain rfl : k = L.length := by omega
      rw [List.take_length, Nat.sub_self, List.replicate_zero, List.append_nil] at own
      have R := Lib.hid (And.intro own hb)
      clear own hb
      go_wp2_with fail
      go_ret
      exact ⟨_, rfl, R.out.1, R.out.2⟩
/-- The first k strings with b between them. -/
def jl (L : List ByteArray) (b : List UInt8) : Nat → List UInt8
  | 0 => []
  | k + 1 => (if k = 0 then jl L b k else jl L b k ++ b) ++ (L.getD k ⟨#[]⟩).data.toList
theorem jl_first {L : List ByteArray} {b : List UInt8} (h : 0 < L.length) : jl L b (0 + 1) = jl L b 0 ++ L[0].data.toList := by simp [jl, h]
theorem add_zero (a : Addr) : a.add 0 = a := by unfold Addr.add; simp
theorem jl_next {L : List ByteArray} {b : List UInt8} {k : Nat} (h0 : 0 < k) (h : k < L.length) : jl L b (k + 1) = (jl L b k ++ b) ++ L[k].data.toList := by
  have : k ≠ 0 := by omega
  simp [jl, this, h]
theorem jl_len (L : List ByteArray) (b : List UInt8) (k : Nat) : (jl L b k).length ≤ tots L k + k * b.length := by
  induction k with
  | zero => simp [jl]
  | succ k ih =>
    have e : (k + 1) * b.length = k * b.length + b.length := Nat.succ_mul _ _
    have hl : ((L.getD k ⟨#[]⟩).data.toList).length = (L.getD k ⟨#[]⟩).size := Array.length_toList
    simp only [jl, tots]
    split <;> simp only [List.length_append] <;> omega
theorem mk_data (x : ByteArray) : ByteArray.mk x.data.toList.toArray = x := by
  cases x; simp
theorem add_lists {P : Program} (a b : List UInt8) (y : ByteArray) (hb : y.data.toList = b) (h : a.length + b.length ≤ 9223372036854775807) (w : World) : (Op.stringOp .add ⟨a.toArray⟩ y).run P w = .ok (.string ⟨(a ++ b).toArray⟩) w := by
  have hs : y.size = b.length := by rw [← hb]; exact Array.length_toList.symm
  rw [run_string_add_sum w _ _ (by rw [mk_size, hs]; exact h)]
  have := ByteArray.mk_append_mk a b
  rw [← hb, mk_data] at this
  rw [this, hb]

set_option maxHeartbeats 1000000 in
theorem spec_join (A : Option Addr) (c : Nat) (L : List ByteArray) (b : ByteArray) (w : World) (hS : StrsAt w A L) (hL : L.length + tots L L.length ≤ 1048576) (hb : b.size ≤ 1048576) :
    Calls Try.prog 21 #[.slice A L.length c, .string b] w fun e w' => e = .returned (.string ⟨(jl L b.data.toList L.length).toArray⟩) ∧ w = w' := by
  have HS := Lib.hid hS; clear hS
  have hbl : b.data.toList.length = b.size := data_len b
  have HJ : Hid (∀ k, k ≤ L.length → (jl L b.data.toList k).length ≤ 1048576 + 1048576 * 1048576) := fun k hk => by
    have h1 := jl_len L b.data.toList k
    have h2 := tots_mono L hk
    have h3 : k * b.data.toList.length ≤ 1048576 * 1048576 := Nat.mul_le_mul (by omega) (by omega)
    omega
  have HB := Lib.hid hbl; clear hbl
  have HT : Hid (∀ k (hk : k < L.length), L[k].size ≤ 1048576) := fun k hk => by
    have h1 := tots_succ hk
    have h2 := tots_mono L (show k + 1 ≤ L.length by omega)
    omega
  have hl : L.length ≤ 1048576 := by omega
  clear hL
  go_enter Try.func21, Try.ntmps21
  go_wp2_with fail
  go_loop [5, 10] (fun t i => ∃ k : Nat, k ≤ L.length ∧ i = .int .i64 k ∧ t = .string ⟨(jl L b.data.toList k).toArray⟩) (fun _ i => L.length - (intOf i).toNat)
  case atStart => exact ⟨0, Nat.zero_le _, rfl, rfl⟩
  case round =>
    obtain ⟨k, hk, rfl, rfl⟩ := hrel
    by_cases hlt : k < L.length
    · obtain ⟨ad, rfl, _, hc⟩ := HS.out k hlt
      have hjk := HJ.out k hk
      have hxs := HT.out k hlt
      by_cases h0 : k = 0
      · subst h0
        have HN := Lib.hid (jl_first (b := b.data.toList) hlt)
        rw [add_zero] at hc
        obtain ⟨x, hx⟩ : ∃ x, x = L[0] := ⟨_, rfl⟩
        obtain ⟨J, hJ⟩ : ∃ J, J = jl L b.data.toList 0 := ⟨_, rfl⟩
        rw [← hJ] at hjk ⊢
        rw [← hx, ← hJ] at HN
        rw [← hx] at hc hxs
        clear hx hJ
        have hadd := add_lists (P := Try.prog) J x.data.toList x rfl (by rw [data_len]; omega) w
        go_wp2_with fail
        go_round
        case rel => exact ⟨0 + 1, by omega, by go_num, by rw [HN.out]⟩
        case measure => simp [intOf]; omega
      · have hk0 : 0 < k := by omega
        have HN := Lib.hid (jl_next (b := b.data.toList) hk0 hlt)
        obtain ⟨x, hx⟩ : ∃ x, x = L[k] := ⟨_, rfl⟩
        obtain ⟨J, hJ⟩ : ∃ J, J = jl L b.data.toList k := ⟨_, rfl⟩
        rw [← hJ] at hjk ⊢
        rw [← hx, ← hJ] at HN
        rw [← hx] at hc hxs
        clear hx hJ h0
        have hadd1 := add_lists (P := Try.prog) J b.data.toList b rfl (by rw [data_len]; omega) w
        have hadd2 := add_lists (P := Try.prog) (J ++ b.data.toList) x.data.toList x rfl (by rw [data_len, List.length_append, data_len]; omega) w
        go_wp2_with fail
        go_round
        case rel => exact ⟨k + 1, by omega, by go_num, by rw [HN.out, List.append_assoc]⟩
        case measure => simp [intOf]; omega
    · obtain rfl : k = L.length := by omega
      go_wp2_with fail
      go_ret
      exact ⟨rfl, rfl⟩
theorem cells_len (l : List UInt8) : (Lib.byteCells l).length = l.length := by simp [Lib.byteCells]
theorem cells_app (l : List UInt8) (s : ByteArray) : Lib.byteCells l ++ Lib.strCells s = Lib.byteCells (l ++ s.data.toList) := (Lib.byteCells_append l s.data.toList).symm

set_option maxHeartbeats 1000000 in
theorem join_parts (A : Option Addr) (c : Nat) (L : List ByteArray) (b : ByteArray) (w : World) (hS : StrsAt w A L) (hL : L.length + tots L L.length ≤ 1048576) (hb : b.size ≤ 1048576) :
    Calls Try.prog 32 #[.string b, .slice A L.length c] w fun e w' => e = .returned (.string ⟨(jl L b.data.toList L.length).toArray⟩) ∧ Below w.heap.size w w' := by
  have HS := Lib.hid hS; clear hS
  have hbl : b.data.toList.length = b.size := data_len b
  have HJ : Hid (∀ k, k ≤ L.length → (jl L b.data.toList k).length ≤ 1048576 + 1048576 * 1048576) := fun k hk => by
    have h1 := jl_len L b.data.toList k
    have h2 := tots_mono L hk
    have h3 : k * b.data.toList.length ≤ 1048576 * 1048576 := Nat.mul_le_mul (by omega) (by omega)
    omega
  have HB := Lib.hid hbl; clear hbl
  have HT : Hid (∀ k (hk : k < L.length), L[k].size ≤ 1048576) := fun k hk => by
    have h1 := tots_succ hk
    have h2 := tots_mono L (show k + 1 ≤ L.length by omega)
    omega
  have hl : L.length ≤ 1048576 := by omega
  clear hL
  have hfr := Lib.fresh_isBuilder 44 5 w
  have HF := Lib.hid hfr; clear hfr
  go_enter Try.func32, Try.ntmps32
  go_wp2_with fail
  go_loopw [10] (fun i wr => ∃ k : Nat, k ≤ L.length ∧ i = .int .i64 k ∧ Lib.IsBuilder 44 5 w.heap.size w.heap.size (Lib.byteCells (jl L b.data.toList k)) wr ∧ Below w.heap.size w wr) (fun i _ => L.length - (intOf i).toNat)
  case atStart => exact ⟨0, Nat.zero_le _, rfl, HF.out, (Below.refl _ _).alloc (Nat.le_refl _) _⟩
  case round =>
    obtain ⟨wo, rfl⟩ : ∃ wo : World, wo = wr := ⟨_, rfl⟩
    obtain ⟨k, hk, rfl, hI, hbe⟩ := hrel
    by_cases hlt : k < L.length
    · obtain ⟨ad, rfl, _, hc⟩ := (HS.out.below hbe) k hlt
      have hjk := HJ.out k hk
      have hxs := HT.out k hlt
      by_cases h0 : k = 0
      · subst h0
        have HN := Lib.hid (jl_first (b := b.data.toList) hlt)
        rw [add_zero] at hc
        obtain ⟨x, hx⟩ : ∃ x, x = L[0] := ⟨_, rfl⟩
        obtain ⟨J, hJ⟩ : ∃ J, J = jl L b.data.toList 0 := ⟨_, rfl⟩
        rw [← hJ] at hjk hI
        rw [← hx, ← hJ] at HN
        rw [← hx] at hc hxs
        clear hx hJ
        go_wp2_with fail
        refine (Try.writeString _ _ _ x _ hI (by rw [cells_len]; omega) hbe.size).mono ?_
        rintro e w2 ⟨rfl, hI2, hb2⟩
        rw [cells_app, ← HN.out] at hI2
        have R := Lib.hid (And.intro hI2 (hbe.trans hb2))
        clear hI hbe hI2 hb2 hc
        go_wp2_with fail
        go_roundw
        case rel => exact ⟨0 + 1, by omega, by go_num, R.out.1, R.out.2⟩
        case measure => simp [intOf]; omega
      · have hk0 : 0 < k := by omega
        have HN := Lib.hid (jl_next (b := b.data.toList) hk0 hlt)
        obtain ⟨x, hx⟩ : ∃ x, x = L[k] := ⟨_, rfl⟩
        obtain ⟨J, hJ⟩ : ∃ J, J = jl L b.data.toList k := ⟨_, rfl⟩
        rw [← hJ] at hjk hI
        rw [← hx, ← hJ] at HN
        rw [← hx] at hc hxs
        clear hx hJ h0
        go_wp2_with fail
        refine (Try.writeString _ _ _ b _ hI (by rw [cells_len]; omega) hbe.size).mono ?_
        rintro e w2 ⟨rfl, hI2, hb2⟩
        rw [cells_app] at hI2
        have hbe2 := hbe.trans hb2
        clear hI hbe hb2 hc
        go_wp2_with fail
        refine (Try.writeString _ _ _ x _ hI2 (by rw [cells_len, List.length_append, data_len]; omega) hbe2.size).mono ?_
        rintro e w3 ⟨rfl, hI3, hb3⟩
        rw [cells_app, ← HN.out] at hI3
        have R := Lib.hid (And.intro hI3 (hbe2.trans hb3))
        clear hI2 hbe2 hI3 hb3
        go_wp2_with fail
        go_roundw
        case rel => exact ⟨k + 1, by omega, by go_num, R.out.1, R.out.2⟩
        case measure => simp [intOf]; omega
    · obtain rfl : k = L.length := by omega
      have hsz := hbe.size
      go_wp2_with fail
      refine (Try.Builder_String_any _ _ _ _ hI hsz).mono ?_
      rintro e w2 ⟨rfl, hb2⟩
      have R := Lib.hid (hbe.trans hb2)
      clear hI hbe hb2
      go_wp2_with fail
      go_ret
      exact ⟨rfl, R.out⟩

theorem impl_join (A : Option Addr) (c : Nat) (L : List ByteArray) (b : ByteArray) (w : World) (hS : StrsAt w A L) (hL : L.length + tots L L.length ≤ 1048576) (hb : b.size ≤ 1048576) :
    Calls Try.prog 23 #[.slice A L.length c, .string b] w fun e w' => e = .returned (.string ⟨(jl L b.data.toList L.length).toArray⟩) ∧ Below w.heap.size w w' := by
  go_enter Try.func23, Try.ntmps23
  go_wp2_with fail
  refine (join_parts A c L b w hS hL hb).mono ?_
  rintro e w1 ⟨rfl, hb1⟩
  go_wp2_with fail
  go_ret
  exact ⟨rfl, hb1⟩
set_option maxHeartbeats 1600000 in
theorem law_join (A : Option Addr) (c : Nat) (L : List ByteArray) (b : ByteArray) (w : World) (hS : StrsAt w A L) (hz : ∀ s ∈ L, s.size ≤ maxLen) (hL : L.length ≤ maxLen) (hb : b.size ≤ maxLen) :
    Calls Try.prog 7 #[.slice A L.length c, .string b] w fun e w' => e = .returned (.bool true) ∧ Below w.heap.size w w' := by
  have hb' := hb
  unfold maxLen at hb'
  have SZ := Lib.hid (sz_strs A c L w hS hz hL)
  have HS := Lib.hid hS; clear hS
  clear hz
  have hL' := hL
  unfold maxLen at hL'
  have HM := Lib.hid hL; clear hL
  by_cases h1 : b.size ≤ 1048576
  case neg =>
    go_enter Try.func7, Try.ntmps7
    go_wp2_with fail
    go_ret
    exact ⟨rfl, Below.refl _ _⟩
  go_enter Try.func7, Try.ntmps7
  go_wp2_with fail
  refine SZ.out.mono ?_
  rintro e w0 ⟨⟨r, rfl, hr⟩, rfl⟩
  rcases hr with hr | ⟨hr, hT⟩
  · go_wp2_with fail
    go_ret
    exact ⟨rfl, Below.refl _ _⟩
  have hl : L.length ≤ 1048576 := by omega
  have HT := Lib.hid hT; clear hT
  go_wp2_with fail
  refine (to_strs A c L _ HS.out hl).mono ?_
  rintro e w1 ⟨v1, rfl, own1, b1⟩
  obtain ⟨_, A1, c1, rfl, _⟩ := own_strs own1
  go_wp2_with fail
  refine (spec_join A1 c1 L b _ (StrsAt.of own1) HT.out h1).mono ?_
  rintro e w1 ⟨rfl, rfl⟩
  clear own1
  go_wp2_with fail
  refine (to_strs A c L _ (HS.out.below b1) hl).mono ?_
  rintro e w2 ⟨v2, rfl, own2, b2⟩
  obtain ⟨_, A2, c2, rfl, _⟩ := own_strs own2
  have b12 := b1.trans (b2.mono b1.size)
  clear b1 b2
  go_wp2_with fail
  refine (impl_join A2 c2 L b _ (StrsAt.of own2) HT.out h1).mono ?_
  rintro e w3 ⟨rfl, b3⟩
  have own3 := own_below own2 b3
  have b13 := b12.trans (b3.mono b12.size)
  clear b12 b3 own2
  go_wp2_with fail
  refine (to_strs A c L _ (HS.out.below b13) hl).mono ?_
  rintro e w4 ⟨v4, rfl, own4, b4⟩
  obtain ⟨_, A4, c4, rfl, _⟩ := own_strs own4
  have own5 := own_below own3 b4
  have b14 := b13.trans (b4.mono b13.size)
  clear b13 b4 own3
  go_wp2_with fail
  refine (eq_strs A2 A4 c2 c4 L _ (strs_of own5) (strs_of own4) HM.out).mono ?_
  rintro e w6 ⟨rfl, n6, rfl⟩
  have R := Lib.hid (below_drewN b14 n6)
  clear b14 own4 own5
  go_wp2_with fail
  go_ret
  exact ⟨rfl, R.out⟩
end Go.Proofs.Ytaaffhiechhbaaa
