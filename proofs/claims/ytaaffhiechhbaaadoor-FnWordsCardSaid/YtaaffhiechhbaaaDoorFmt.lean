/-
  Walks for the decimal text of an int: spec.FormatInt.
-/
import Derived.Test.YtaaffhiechhbaaaDoorProg
import Derived.WalkKit
import Derived.WalkSpells
import Derived.WalkLawsBesides
import Derived.Lib.Hide
import Derived.Lib.ItoaNum
import Derived.Lib.ItoaLen
import Derived.BigQuiet
import Derived.Deep.RegionWith
import Derived.Deep.RegionHeld3
namespace Go.Proofs.YtaaffhiechhbaaaDoor
open Go.RowKit

theorem fmt_ret {a b : ByteArray} (h : a = b) : Ending.returned (.string a) = .returned (.string b) := by rw [h]
theorem dd_big {u : Nat} (h : ¬ u < 10) : Lib.decDigits u = Lib.decDigits (u / 10) ++ [UInt8.ofNat (48 + u % 10)] := by rw [Lib.decDigits, dif_neg h]
theorem dd_small {u : Nat} (h : u < 10) : Lib.decDigits u = [UInt8.ofNat (48 + u)] := by rw [Lib.decDigits, dif_pos h]
theorem u8_of {k : Nat} (h : k < 256) : ((UInt8.ofNat k).toNat : Int) = k := by
  simp [UInt8.toNat_ofNat, Nat.mod_eq_of_lt h]
theorem conv_u8 {P : Program} (w : World) (tb ts te : TypeId) (hs : P.underlying tb = some (.slice te)) (he : P.underlying te = some (.int .u8)) (hd : P.underlying ts = some .string) (x : Int) (u : UInt8) (hu : (u.toNat : Int) = x) :
    (convert tb ts (.slice (some ⟨w.heap.size, 0, none⟩) 1 1)).run P (w.alloc (.cells #[.int .u8 x] te)) = .ok (.string ⟨#[u]⟩) (w.alloc (.cells #[.int .u8 x] te)) := by
  have := run_convert_bytes_back (P := P) (w.alloc (.cells #[.int .u8 x] te)) tb ts te ⟨w.heap.size, 0, none⟩ 1 [u] hs he hd (fun j hj => by
    obtain rfl : j = 0 := by simpa using hj
    subst hu
    simp [Addr.add, World.cell?_alloc_mark])
  simpa using this
theorem conv_at {P : Program} (w : World) (tb ts te : TypeId) (hs : P.underlying tb = some (.slice te)) (he : P.underlying te = some (.int .u8)) (hd : P.underlying ts = some .string) (b : Nat) (x : Int) (u : UInt8) (hu : (u.toNat : Int) = x)
    (h : w.cell? ⟨b, 0, none⟩ = some (.int .u8 x)) : (convert tb ts (.slice (some ⟨b, 0, none⟩) 1 1)).run P w = .ok (.string ⟨#[u]⟩) w := by
  have := run_convert_bytes_back (P := P) w tb ts te ⟨b, 0, none⟩ 1 [u] hs he hd (fun j hj => by
    obtain rfl : j = 0 := by simpa using hj
    subst hu
    simpa [Addr.add] using h)
  simpa using this
theorem mk_len (l : List UInt8) : (ByteArray.mk l.toArray).size = l.length := by show l.toArray.size = _; simp
theorem add_cons {P : Program} (u : UInt8) (l : List UInt8) (hl : l.length ≤ 1073741824) (w : World) : (Op.stringOp .add ⟨#[u]⟩ ⟨l.toArray⟩).run P w = .ok (.string ⟨(u :: l).toArray⟩) w := by
  rw [run_string_add_sum w _ _ (by rw [mk_len l]; show 1 + _ ≤ _; omega)]
  have := ByteArray.mk_append_mk [u] l
  simpa using this
theorem add_last {P : Program} (u : UInt8) (l : List UInt8) (hl : l.length ≤ 1073741824) (w : World) : (Op.stringOp .add ⟨l.toArray⟩ ⟨#[u]⟩).run P w = .ok (.string ⟨(l ++ [u]).toArray⟩) w := by
  rw [run_string_add_sum w _ _ (by rw [mk_len l]; show _ + 1 ≤ _; omega)]
  have := ByteArray.mk_append_mk l [u]
  simpa using this

/-- How many rounds are left at k. -/
theorem dd_len (u : Nat) (h : u ≤ 9223372036854775808) : (Lib.decDigits u).length ≤ 21 := by
  by_cases e : u = 9223372036854775808
  · subst e
    have := Lib.itoa_length_le (-9223372036854775808) (by omega) (by omega)
    have e : Lib.itoa (-9223372036854775808) = 45 :: Lib.decDigits 9223372036854775808 := rfl
    rw [e] at this
    simp at this; omega
  · have := Lib.itoa_length_le u (by omega) (by omega)
    unfold Lib.itoa at this
    rw [if_neg (by omega)] at this
    simpa using this

set_option maxHeartbeats 400000 in
theorem spec_fmt_pos (n : Nat) (w : World) (hn : n ≤ 9223372036854775807) :
    Calls Tryd.prog 14 #[.int .i64 n] w fun e w' => e = .returned (.string ⟨(Lib.decDigits n).toArray⟩) ∧ Below w.heap.size w w' := by
  have hn0 : ¬ ((n : Int) < 0) := by omega
  have HN := Lib.hid (dd_len n (by omega))
  go_enter Tryd.func14, Tryd.ntmps14
  go_wp2_with fail
  go_loopw [0, 3] (fun t o w' => ∃ (k : Nat) (l : List UInt8), t = .int .i64 k ∧ o = .string ⟨l.toArray⟩ ∧ k ≤ n ∧ Hid (Lib.decDigits k ++ l = Lib.decDigits n) ∧ Below w.heap.size w w') (fun t _ _ => (intOf t).toNat)
  case atStart => exact ⟨n, [], rfl, rfl, Nat.le_refl _, by show _ = _; simp, Below.refl _ _⟩
  case round =>
    obtain ⟨k, l, rfl, rfl, hk, HD, hb⟩ := hrel
    have hll : l.length ≤ 21 := by
      have := congrArg List.length HD.out
      have := HN.out
      simp at *; omega
    by_cases hlt : k < 10
    · obtain ⟨u, HU⟩ : ∃ u : UInt8, Hid ((u.toNat : Int) = 48 + (k : Int) ∧ Lib.decDigits k = [u]) := ⟨_, by have := u8_of (k := 48 + k) (by omega); omega, dd_small hlt⟩
      have hcv := conv_u8 (P := Tryd.prog) wr 22 9 5 Tryd.underlying22 Tryd.underlying5 Tryd.underlying9 _ _ HU.out.1
      have hadd := add_cons (P := Tryd.prog) u l (by omega) (wr.alloc (.cells #[.int .u8 (48 + (k : Int))] 5))
      have HE : Hid (u :: l = Lib.decDigits n) := by
        show _ = _
        rw [← HD.out, HU.out.2]; simp
      have HB := Lib.hid (hb.alloc hb.size (.cells #[.int .u8 (48 + (k : Int))] 5))
      go_wp2_with fail
      go_ret
      exact ⟨fmt_ret (by rw [HE.out]), HB.out⟩
    · obtain ⟨u, HU⟩ : ∃ u : UInt8, Hid ((u.toNat : Int) = 48 + (k : Int) % 10 ∧ Lib.decDigits k = Lib.decDigits (k / 10) ++ [u]) := ⟨_, by have := u8_of (k := 48 + k % 10) (by omega); omega, dd_big hlt⟩
      have hcv := conv_u8 (P := Tryd.prog) wr 22 9 5 Tryd.underlying22 Tryd.underlying5 Tryd.underlying9 _ _ HU.out.1
      have hadd := add_cons (P := Tryd.prog) u l (by omega) (wr.alloc (.cells #[.int .u8 (48 + (k : Int) % 10)] 5))
      have HE : Hid (Lib.decDigits (k / 10) ++ (u :: l) = Lib.decDigits n) := by
        show _ = _
        rw [← HD.out, HU.out.2]; simp
      have HB := Lib.hid (hb.alloc hb.size (.cells #[.int .u8 (48 + (k : Int) % 10)] 5))
      go_wp2_with fail
      go_roundw
      case rel => exact ⟨k / 10, _, by go_num, rfl, by omega, HE, HB.out⟩
      case measure => simp [intOf]; omega

set_option maxHeartbeats 800000 in
theorem spec_fmt_neg (m : Nat) : ∀ (j : Nat) (w : World), j ≤ m → 1 ≤ j → j ≤ 9223372036854775808 →
    Calls Tryd.prog 14 #[.int .i64 (-(j : Int))] w fun e w' => e = .returned (.string ⟨(45 :: Lib.decDigits j).toArray⟩) ∧ Below w.heap.size w w' := by
  induction m with
  | zero => intro j w h1 h2; omega
  | succ m ih =>
    intro j w hj h1 h2
    have hn : (-(j : Int)) < 0 := by omega
    by_cases hs : j < 10
    · obtain ⟨u, HU⟩ : ∃ u : UInt8, Hid ((u.toNat : Int) = 48 + (j : Int) ∧ Lib.decDigits j = [u]) := ⟨_, by have := u8_of (k := 48 + j) (by omega); omega, dd_small hs⟩
      have hcv := conv_u8 (P := Tryd.prog) w 22 9 5 Tryd.underlying22 Tryd.underlying5 Tryd.underlying9 _ _ HU.out.1
      have hadd : (Op.stringOp .add ⟨#[45]⟩ ⟨#[u]⟩).run Tryd.prog (w.alloc (.cells #[.int .u8 (48 + (j : Int))] 5)) = .ok (.string ⟨(45 :: [u]).toArray⟩) (w.alloc (.cells #[.int .u8 (48 + (j : Int))] 5)) := add_cons 45 [u] (by simp) _
      have HB := Lib.hid ((Below.refl w.heap.size w).alloc (Nat.le_refl _) (.cells #[.int .u8 (48 + (j : Int))] 5))
      go_enter Tryd.func14, Tryd.ntmps14
      go_wp2_with fail
      go_ret
      exact ⟨fmt_ret (by rw [HU.out.2]), HB.out⟩
    · have hq : (-((j : Int) / 10) == 0) = false := by rw [beq_eq_false_iff_ne]; omega
      have IH := Lib.hid ih; clear ih
      obtain ⟨u, HU⟩ : ∃ u : UInt8, Hid ((u.toNat : Int) = 48 + (j : Int) % 10 ∧ Lib.decDigits j = Lib.decDigits (j / 10) ++ [u]) := ⟨_, by have := u8_of (k := 48 + j % 10) (by omega); omega, dd_big hs⟩
      have HC : Hid (∀ wx : World, Calls Tryd.prog 14 #[.int .i64 (-((j : Int) / 10))] wx fun e w' => e = .returned (.string ⟨(45 :: Lib.decDigits (j / 10)).toArray⟩) ∧ Below wx.heap.size wx w') := fun wx => by
        have := IH.out (j / 10) wx (by omega) (by omega) (by omega)
        rw [Int.natCast_ediv] at this
        exact this
      clear IH
      go_enter Tryd.func14, Tryd.ntmps14
      go_wp2_with fail
      have hw1 : IntKind.i64.wrap (-((j : Int) / 10)) = -((j : Int) / 10) := IntWalk.i64_in _ (by omega)
      obtain ⟨r, hr, hr0⟩ : ∃ r : Int, (j : Int).tmod 10 = r ∧ r = (j : Int) % 10 := ⟨_, rfl, by rw [Int.tmod_eq_emod_of_nonneg (by omega)]⟩
      have hr1 : 0 ≤ r := by omega
      have hr2 : r < 10 := by omega
      have hu := HU.out.1
      rw [← hr0] at hu
      clear hr0
      have hw2 : IntKind.i64.wrap (48 + r) = 48 + r := IntWalk.i64_in _ (by omega)
      have hw3 : IntKind.u8.wrap (48 + r) = 48 + r := IntWalk.u8_in _ (by omega)
      have hcv : ∀ (W : World) (b : Nat), W.cell? ⟨b, 0, none⟩ = some (.int .u8 (48 + r)) → (convert 22 9 (.slice (some ⟨b, 0, none⟩) 1 1)).run Tryd.prog W = .ok (.string ⟨#[u]⟩) W := fun W b h => conv_at W 22 9 5 Tryd.underlying22 Tryd.underlying5 Tryd.underlying9 b _ u hu h
      have hadd : ∀ W, (Op.stringOp .add ⟨(45 :: Lib.decDigits (j / 10)).toArray⟩ ⟨#[u]⟩).run Tryd.prog W = .ok (.string ⟨((45 :: Lib.decDigits (j / 10)) ++ [u]).toArray⟩) W := fun W => add_last u _ (by have := dd_len (j / 10) (by omega); simp; omega) W
      clear hu
      go_region_with (go_at_call 14; (with_reducible refine (HC.out _).mono ?_); rintro e w1 ⟨rfl, hb1⟩; (first | (have hb2 : Below w.drew.heap.size w.drew w1 := hb1) | (have hc1 : w1.cell? ⟨w.heap.size, 0, none⟩ = some (.int .u8 (48 + r)) := (hb1.cell (p := ⟨w.heap.size, 0, none⟩) (by simp)).trans (by simp))))
      all_goals go_wp2_with fail
      all_goals go_ret
      all_goals refine ⟨fmt_ret (by rw [HU.out.2]), ?_⟩
      · exact ((Below.refl w.heap.size w).drew.trans (hb1.mono (Nat.le_refl _))).alloc hb1.size _
      · exact (((Below.refl w.heap.size w).alloc (Nat.le_refl _) _).drew).trans (hb1.mono (by simp))
      · exact (((Below.refl w.heap.size w).alloc (Nat.le_refl _) _).drew).trans (hb1.mono (by simp))

/-- spec.FormatInt: the decimal text, at every int. -/
theorem spec_fmt (n : Int) (w : World) (h0 : -9223372036854775808 ≤ n) (h1 : n ≤ 9223372036854775807) :
    Calls Tryd.prog 14 #[.int .i64 n] w fun e w' => e = .returned (.string ⟨(Lib.itoa n).toArray⟩) ∧ Below w.heap.size w w' := by
  by_cases hn : n < 0
  · obtain ⟨j, rfl⟩ : ∃ j : Nat, n = -(j : Int) := ⟨n.natAbs, by omega⟩
    have e : Lib.itoa (-(j : Int)) = 45 :: Lib.decDigits j := by
      unfold Lib.itoa; rw [if_pos hn]; simp
    rw [e]
    exact spec_fmt_neg j j w (Nat.le_refl _) (by omega) (by omega)
  · obtain ⟨j, rfl⟩ : ∃ j : Nat, n = (j : Int) := ⟨n.toNat, by omega⟩
    have e : Lib.itoa (j : Int) = Lib.decDigits j := by
      unfold Lib.itoa; rw [if_neg hn]; simp
    rw [e]
    exact spec_fmt_pos j w (by omega)

end Go.Proofs.YtaaffhiechhbaaaDoor
