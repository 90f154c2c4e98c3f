/-
  Walks for CountTriangulations of both programs.
-/
import Derived.Test.YtieekeodbflgfaaTriS
namespace Go.Proofs.Ytieekeodbflgfaa
open Go.RowKit
def triV (L : List (Int × Int)) : Int := bif polyB L && decide (L.length ≤ 8) then ((setN (L.length - 3) (allD L L.length) : Nat) : Int) else -1
set_option maxRecDepth 100000 in
theorem spec_tri (A : Option Addr) (c : Nat) (L : List (Int × Int)) (w : World) (hA : PtsA w A L) (hL : L.length ≤ 1048576) :
    Calls Try.prog 53 #[.slice A L.length c] w fun e w' => e = .returned (.int .i64 (triV L)) ∧ Below w.heap.size w w' := by
  have HP := Lib.hid (spec_poly A c L w hA hL)
  cases hp : polyB L
  · have HV : Hid (triV L = -1) := by show _ = _; rw [triV, hp]; rfl
    rw [hp] at HP
    clear hA
    go_enter Try.func53, Try.ntmps53
    go_wp2_with fail
    refine HP.out.mono ?_
    rintro e w1 ⟨rfl, b1⟩
    go_wp2_with fail
    go_ret
    exact ⟨ret_int HV.out.symm, b1⟩
  · obtain ⟨h3, h10, hok⟩ := polyB_all hp
    rw [hp] at HP
    by_cases h8 : L.length ≤ 8
    · have HV : Hid (triV L = ((triN (allD L L.length) (L.length - 1) 0 (L.length - 1) : Nat) : Int)) := by
        show _ = _
        rw [triV, hp, decide_eq_true h8, sets_tri (allD_chords L) h3 (allD_ends L h3)]; rfl
      have hnx : nx L (L.length - 1) = 0 := by rw [nx_eq (by omega), if_pos (by omega)]
      have HT := Lib.hid (fun W (hb : Below w.heap.size w W) => part_all A c L hp h8 (L.length - 1) 0 (L.length - 1) 0 ((L.length : Int) - 1) W rfl (by omega) (by omega) (by omega) (by omega) (ptsA_on hA hb) (.inr (.inl hnx)))
      have d1 : decide ((8 : Int) < (L.length : Int)) = false := decide_eq_false (by omega)
      have hb64 : -9223372036854775808 ≤ (L.length : Int) - 1 ∧ (L.length : Int) - 1 ≤ 9223372036854775807 := by omega
      have f1 : wrap64 ((L.length : Int) - 1) = (L.length : Int) - 1 := IntWalk.wrap64_in _ hb64
      have f2 : IntKind.i64.wrap ((L.length : Int) - 1) = (L.length : Int) - 1 := IntWalk.i64_in _ hb64
      clear hA hL hnx hok
      go_enter Try.func53, Try.ntmps53
      go_wp2_with fail
      refine HP.out.mono ?_
      rintro e w1 ⟨rfl, b1⟩
      go_wp2_with fail
      refine (HT.out w1 b1).mono ?_
      rintro e w2 ⟨rfl, hb2⟩
      have b2 := below_on b1 hb2
      clear b1 hb2
      go_wp2_with fail
      go_ret
      exact ⟨ret_int HV.out.symm, b2⟩
    · have HV : Hid (triV L = -1) := by show _ = _; rw [triV, hp, decide_eq_false h8]; rfl
      have d1 : decide ((8 : Int) < (L.length : Int)) = true := decide_eq_true (by omega)
      clear hA hL hok
      go_enter Try.func53, Try.ntmps53
      go_wp2_with fail
      refine HP.out.mono ?_
      rintro e w1 ⟨rfl, b1⟩
      go_wp2_with fail
      go_ret
      exact ⟨ret_int HV.out.symm, b1⟩
set_option maxRecDepth 100000 in
theorem impl_tri (A : Option Addr) (c : Nat) (L : List (Int × Int)) (w : World) (hA : PtsA w A L) (hL : L.length ≤ 1048576) :
    Calls Try.prog 54 #[.slice A L.length c] w fun e w' => e = .returned (.int .i64 (triV L)) ∧ Below w.heap.size w w' := by
  have HP := Lib.hid (impl_poly A c L w hA hL)
  cases hp : polyB L
  · have HV : Hid (triV L = -1) := by show _ = _; rw [triV, hp]; rfl
    rw [hp] at HP
    clear hA
    go_enter Try.func54, Try.ntmps54
    go_wp2_with fail
    refine HP.out.mono ?_
    rintro e w1 ⟨rfl, b1⟩
    go_wp2_with fail
    go_ret
    exact ⟨ret_int HV.out.symm, b1⟩
  · obtain ⟨h3, h10, hok⟩ := polyB_all hp
    rw [hp] at HP
    by_cases h8 : L.length ≤ 8
    · have HV : Hid (triV L = ((setN (L.length - 3) (allD L L.length) : Nat) : Int)) := by
        show _ = _
        rw [triV, hp, decide_eq_true h8]; rfl
      have HD := Lib.hid (fun W (hb : Below w.heap.size w W) => impl_diags A c L W (ptsA_on hA hb) hp)
      have HS := Lib.hid (sets_any (L.length - 3))
      have H64 := Lib.hid (And.intro (allD_64 L h8) (allD_nodup L L.length))
      have d1 : decide ((8 : Int) < (L.length : Int)) = false := decide_eq_false (by omega)
      have hb64 : -9223372036854775808 ≤ (L.length : Int) - 3 ∧ (L.length : Int) - 3 ≤ 9223372036854775807 := by omega
      have f1 : wrap64 ((L.length : Int) - 3) = (L.length : Int) - 3 := IntWalk.wrap64_in _ hb64
      have f2 : IntKind.i64.wrap ((L.length : Int) - 3) = (L.length : Int) - 3 := IntWalk.i64_in _ hb64
      clear hA hL hok
      go_enter Try.func54, Try.ntmps54
      go_wp2_with fail
      refine HP.out.mono ?_
      rintro e w1 ⟨rfl, b1⟩
      go_wp2_with fail
      refine (HD.out w1 b1).mono ?_
      rintro e w2 ⟨b, rfl, hbb, hm2, hb2⟩
      have b2 := below_on b1 hb2
      have HM := Lib.hid hm2.keys
      have hlow : w.heap.size ≤ b := Nat.le_trans b1.size hbb
      clear b1 hb2 hm2 hbb
      go_wp2_with fail
      refine (HS.out ((L.length : Int) - 3) b _ w2 (by omega) (by omega) HM.out H64.out.2 H64.out.1).mono ?_
      rintro e w3 ⟨rfl, hg3⟩
      have b3 : Below w.heap.size w w3 := b2.grown hg3 b2.size (fun j hj => by cases hj; exact hlow)
      clear hg3 b2
      go_wp2_with fail
      go_ret
      exact ⟨ret_int HV.out.symm, b3⟩
    · have HV : Hid (triV L = -1) := by show _ = _; rw [triV, hp, decide_eq_false h8]; rfl
      have d1 : decide ((8 : Int) < (L.length : Int)) = true := decide_eq_true (by omega)
      clear hA hL hok
      go_enter Try.func54, Try.ntmps54
      go_wp2_with fail
      refine HP.out.mono ?_
      rintro e w1 ⟨rfl, b1⟩
      go_wp2_with fail
      go_ret
      exact ⟨ret_int HV.out.symm, b1⟩
end Go.Proofs.Ytieekeodbflgfaa
