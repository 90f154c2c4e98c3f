/-
  IsWhole of both programs; the laws of PartsOf and IsWhole.
-/
import Derived.Test.YtimkknljoeiceaaPartsI
namespace Go.Proofs.Ytimkknljoeiceaa
open Go.RowKit

set_option maxRecDepth 100000 in
set_option maxHeartbeats 2000000 in
theorem ex_partsOf (w h M : Int) (W : World) : Calls Try.prog 6 #[.int .i64 w, .int .i64 h, .int .i64 M] W fun e w' => e = .returned (.bool true) ∧ Below W.heap.size W w' := by
  have HS := Lib.hid (fun W => spec_parts w h M W)
  have HI := Lib.hid (fun W => impl_parts w h M W)
  go_enter Try.func6, Try.ntmps6
  go_wp2_with fail
  refine (HS.out _).mono ?_
  rintro e w2 ⟨L, hL, hlen, v2, rfl, own2, b2⟩
  have HL := Lib.hid hL
  have HMM : Hid (L.length ≤ 1048576) := by
    show _ ≤ _
    omega
  clear hL hlen
  go_wp2_with fail
  refine (HI.out w2).mono ?_
  rintro e w4 ⟨L', hL', _, v4, rfl, own4, hb4⟩
  obtain rfl := HL.out.uniq hL'
  have b4 := below_on b2 hb4
  have ap24 := own_apart_g own2 (Nat.le_refl _) own4
  replace own2 := own_below own2 hb4
  replace own4 := own_base own4 b2.size
  clear hb4 b2 hL'
  obtain ⟨_, A4, c4, rfl, p4⟩ := own_ints own4
  obtain ⟨_, A2, c2, rfl, p2⟩ := own_ints own2
  go_wp2_with fail
  refine (eq_ints A4 A2 c4 c2 L w4 p4 p2 HMM.out).mono ?_
  rintro e w9 ⟨rfl, hb9⟩
  have b9 := below_on b4 hb9
  replace own2 := own_below own2 hb9
  replace own4 := own_below own4 hb9
  clear hb9 p4 p2 b4
  go_wp2_with fail
  refine (mark_ints _ _ _ _ w9 own4 HMM.out).mono ?_
  rintro e w10 ⟨rfl, own4m, hg10⟩
  have b10 := b9.grown hg10 b9.size (fun k hk => (own4.lt k hk).1)
  replace own2 := own2.kept hg10 ap24
  clear hg10 own4 ap24 b9
  go_wp2_with fail
  refine (held_ints _ _ _ w10 own4m HMM.out).mono ?_
  rintro e w11 ⟨rfl, rfl⟩
  go_wp2_with fail
  refine (HI.out w11).mono ?_
  rintro e w13 ⟨L', hL', _, v13, rfl, own13, hb13⟩
  obtain rfl := HL.out.uniq hL'
  have b13 := below_on b10 hb13
  replace own2 := own_below own2 hb13
  replace own4m := own_below own4m hb13
  obtain ⟨_, A13, c13, rfl, p13⟩ := own_ints own13
  have p2 := intsA_of own2
  clear hb13 own13 b10 hL'
  go_wp2_with fail
  refine (eq_ints A13 A2 c13 c2 L w13 p13 p2 HMM.out).mono ?_
  rintro e w14 ⟨rfl, hb14⟩
  have b14 := below_on b13 hb14
  replace own4m := own_below own4m hb14
  clear hb14 own2 p2 p13 b13
  go_wp2_with fail
  refine (held_ints _ _ _ w14 own4m HMM.out).mono ?_
  rintro e w15 ⟨rfl, rfl⟩
  go_wp2_with fail
  go_ret
  exact ⟨rfl, b14⟩
/-- One part exactly. -/
def OneP (w h M : Int) : Prop := ∃ L, PartsV w h M L ∧ L.length = 1
def WholeP (w h M : Int) (W : World) (e : Ending) (w' : World) : Prop := ∃ v : Bool, e = .returned (.bool v) ∧ (v = true ↔ OneP w h M) ∧ Below W.heap.size W w'
theorem oneP_no {w h M : Int} (hB : shapeB w h M = false) : ¬ OneP w h M := by
  rintro ⟨L, h | ⟨a, b, m, K, e, _⟩, hl⟩
  · rw [h.2] at hl; simp at hl
  · rw [hB] at e; cases e
theorem oneP_zero {a b : Nat} : ¬ OneP a b (0 : Nat) := by
  rintro ⟨L, h | ⟨a', b', m, K, e, q1, q2, q3, p, rfl⟩, hl⟩
  · rw [h.2] at hl; simp at hl
  · have q3 := Int.ofNat.inj q3
    subst q3
    cases p with
    | none => simp at hl
    | more hk _ _ _ => simp at hk
theorem oneP_iff {a b m k p : Nat} (hB : shapeB a b m = true) (hk : m.testBit k = true) (hl : ∀ j, j < k → m.testBit j = false) (hp : PartOf (Adj a b) m.testBit k p) : OneP a b m ↔ p = m := by
  constructor
  · rintro ⟨L, h | ⟨a', b', m', K, e, q1, q2, q3, hK, rfl⟩, hl'⟩
    · rw [h.2] at hl'; simp at hl'
    · have q1 := Int.ofNat.inj q1
      have q2 := Int.ofNat.inj q2
      have q3 := Int.ofNat.inj q3
      subst q1; subst q2; subst q3
      exact (hK.one hk hl hp).1 (by simpa using hl')
  · rintro rfl
    refine ⟨[(p : Int)], .inr ⟨a, b, p, [p], hB, rfl, rfl, rfl, .more hk hl hp ?_, rfl⟩, rfl⟩
    rw [Nat.sub_self]; exact .none
set_option maxRecDepth 100000 in
theorem spec_whole (w h M : Int) (W : World) : Calls Try.prog 33 #[.int .i64 w, .int .i64 h, .int .i64 M] W (WholeP w h M W) := by
  have HS := Lib.hid (fun W => spec_shape w h M W)
  cases hB : shapeB w h M
  · rw [hB] at HS
    have R : Hid (∀ W, WholeP w h M W (.returned (.bool false)) W) := fun W => ⟨false, rfl, by simp [oneP_no hB], Below.refl _ _⟩
    clear hB
    go_enter Try.func33, Try.ntmps33
    go_wp2_with fail
    refine (HS.out _).mono ?_
    rintro e w1 ⟨rfl, rfl⟩
    go_wp2_with fail
    go_ret
    exact R.out _
  · rw [hB] at HS
    obtain ⟨a, b, m, rfl, rfl, rfl, ha1, ha2, hb1, hb2, hm, hab⟩ := mask_nat hB
    by_cases h0 : 0 < m
    · obtain ⟨k, hk, hl⟩ := exists_bit h0
      have HC := Lib.hid (fun W => reach_any a b m k W ⟨ha1, ha2⟩ ⟨hb1, hb2⟩ hab hm hk hl)
      have HO := Lib.hid (fun p (hp : PartOf (Adj a b) m.testBit k p) => oneP_iff hB hk hl hp)
      clear hB hk hl hm hab
      go_enter Try.func33, Try.ntmps33
      go_wp2_with fail
      refine (HS.out _).mono ?_
      rintro e w1 ⟨rfl, rfl⟩
      go_wp2_with fail
      refine (HC.out _).mono ?_
      rintro e w2 ⟨p, rfl, hp, rfl⟩
      have R : Hid (∀ v : Bool, v = decide (p = m) → WholeP a b m w2 (.returned (.bool v)) w2) := fun v hv => ⟨v, rfl, by rw [HO.out p hp, hv]; simp, Below.refl _ _⟩
      clear hp
      go_wp2_with fail
      go_ret
      exact R.out _ (by
        rw [Bool.eq_iff_iff]
        simp
        try omega)
    · obtain rfl : m = 0 := by omega
      have R : Hid (∀ W, WholeP a b (0 : Nat) W (.returned (.bool false)) W) := fun W => ⟨false, rfl, ⟨fun h => (by cases h), fun h => absurd h oneP_zero⟩, Below.refl _ _⟩
      clear hB hm hab
      go_enter Try.func33, Try.ntmps33
      go_wp2_with fail
      refine (HS.out _).mono ?_
      rintro e w1 ⟨rfl, rfl⟩
      go_wp2_with fail
      go_ret
      exact R.out _
set_option maxRecDepth 100000 in
theorem impl_whole (w h M : Int) (W : World) : Calls Try.prog 34 #[.int .i64 w, .int .i64 h, .int .i64 M] W (WholeP w h M W) := by
  have HI := Lib.hid (fun W => impl_parts w h M W)
  go_enter Try.func34, Try.ntmps34
  go_wp2_with fail
  refine (HI.out _).mono ?_
  rintro e w4 ⟨L, hL, hlen, v4, rfl, own4, hb4⟩
  obtain ⟨_, A4, c4, rfl, p4⟩ := own_ints own4
  have R : Hid (∀ v : Bool, v = decide (L.length = 1) → WholeP w h M W (.returned (.bool v)) w4) := fun v hv => ⟨v, rfl, by
    rw [hv, decide_eq_true_iff]
    exact ⟨fun h => ⟨L, hL, h⟩, fun ⟨L', h1, h2⟩ => by rw [hL.uniq h1]; exact h2⟩, hb4⟩
  clear hL own4 p4 hb4
  go_wp2_with fail
  go_ret
  exact R.out _ (by
    rw [Bool.eq_iff_iff]
    simp
    try omega)
theorem ex_isWhole (w h M : Int) (W : World) : Calls Try.prog 7 #[.int .i64 w, .int .i64 h, .int .i64 M] W fun e w' => e = .returned (.bool true) ∧ Below W.heap.size W w' := by
  have HS := Lib.hid (fun W => spec_whole w h M W)
  have HI := Lib.hid (fun W => impl_whole w h M W)
  go_enter Try.func7, Try.ntmps7
  go_wp2_with fail
  refine (HS.out _).mono ?_
  rintro e w1 ⟨v, rfl, hv, b1⟩
  have HV := Lib.hid hv
  clear hv
  go_wp2_with fail
  refine (HI.out _).mono ?_
  rintro e w2 ⟨v', rfl, hv', hb2⟩
  obtain rfl : v = v' := by rw [Bool.eq_iff_iff, HV.out, hv']
  have b2 := below_on b1 hb2
  clear hv' HV
  go_wp2_with fail
  go_ret
  exact ⟨rfl, b2⟩
end Go.Proofs.Ytimkknljoeiceaa
