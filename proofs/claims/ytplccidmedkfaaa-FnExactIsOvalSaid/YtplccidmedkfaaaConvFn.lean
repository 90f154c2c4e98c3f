/-
  A walk for IsConvex of the program, and the law.
-/
import Derived.Test.YtplccidmedkfaaaTurnsOf
import Derived.Test.YtplccidmedkfaaaLaw4
namespace Go.Proofs.Ytplccidmedkfaaa
open Go.RowKit

theorem impl_conv (A : Option Addr) (c : Nat) (L : List (Int × Int)) (w : World) (hA : PtsA w A L) (hL : L.length ≤ 1048576) :
    Calls Try.prog 29 #[.slice A L.length c] w fun e w' => e = .returned (.bool (convV L)) ∧ Below w.heap.size w w' := by
  have HP := Lib.hid (impl_poly A c L w hA hL)
  have HV : Hid (convV L = (polyB L && convB L)) := rfl
  cases hp : polyB L
  · rw [hp] at HP HV
    clear hA
    go_enter Try.func29, Try.ntmps29
    go_wp2_with fail
    refine HP.out.mono ?_
    rintro e w1 ⟨rfl, b1⟩
    go_wp2_with fail
    go_ret
    exact ⟨ret_bool HV.out.symm, b1⟩
  · obtain ⟨h3, h10, hok⟩ := polyB_all hp
    have HM : Hid ((tnP L (List.range L.length)).2 = (List.range L.length).map (turnI L)) := by
      show _ = _
      rw [tnP_range hok _ (Nat.le_refl _)]
    have HT : Hid (∀ W, Below w.heap.size w W → Calls Try.prog 66 #[.slice A L.length c] W fun e w' => ∃ v, e = .returned v ∧ w'.ownsRow W.heap.size 3 1 v (tnP L (List.range L.length)).2.length (ints (tnP L (List.range L.length)).2) ∧ Below W.heap.size W w') := fun W hb => impl_turns A c L W (ptsA_on hA hb) hp
    obtain ⟨M, hM⟩ : ∃ M, M = (tnP L (List.range L.length)).2 := ⟨_, rfl⟩
    rw [← hM] at HT HM
    have HC : Hid (convB L = !(bothB M)) := by
      show _ = _
      rw [convB, ← HM.out]
    have hl : M.length ≤ 1048576 := by rw [HM.out]; simp; omega
    have HH := Lib.hid (fun A c w (hP : IntsA w A M) => both_any A c M w hP hl)
    rw [hp] at HP HV
    clear hA hM HM h3 h10 hok hl
    go_enter Try.func29, Try.ntmps29
    go_wp2_with fail
    refine HP.out.mono ?_
    rintro e w1 ⟨rfl, b1⟩
    go_wp2_with fail
    refine (HT.out w1 b1).mono ?_
    rintro e w2 ⟨v, rfl, own, hb2⟩
    obtain ⟨_, A2, c2, rfl, p2⟩ := own_ints own
    have b2 := below_on b1 hb2
    clear own b1 hb2
    go_wp2_with fail
    refine (HH.out A2 c2 w2 p2).mono ?_
    rintro e w3 ⟨rfl, rfl⟩
    go_wp2_with fail
    go_ret
    exact ⟨ret_bool (by rw [HV.out, HC.out]; rfl), b2⟩
end Go.Proofs.Ytplccidmedkfaaa
