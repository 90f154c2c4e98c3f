/-
  The law of SamePolygon.
-/
import Derived.Test.YtklbambnnkdjlaaSameFn
namespace Go.Proofs.Ytklbambnnkdjlaa
open Go.RowKit
theorem sz_fit (A : Option Addr) (n c : Nat) (m : Int) (w : World) (hm : m ≤ 1073741824) (hn : (n : Int) ≤ m) : Calls Try.prog 13 #[.slice A n c, .int .i64 m] w fun e w' => e = .returned (.int .i64 (m - n)) ∧ w = w' := by
  have h := sz_any A n c m w (by omega) (by omega)
  rw [if_neg (by omega)] at h
  exact h.mono fun e w' ⟨h1, h2⟩ => ⟨h1, h2.symm⟩
theorem sz_over (A : Option Addr) (n c : Nat) (m : Int) (w : World) (hm : 0 ≤ m ∧ m ≤ 1073741824) (hn : m < (n : Int)) (h2 : n ≤ maxLen) : Calls Try.prog 13 #[.slice A n c, .int .i64 m] w fun e w' => e = .returned (.int .i64 (-1)) ∧ w = w' := by
  have h := sz_any A n c m w hm (by unfold maxLen at h2; omega)
  rw [if_pos (by omega)] at h
  exact h.mono fun e w' ⟨h1, h2⟩ => ⟨h1, h2.symm⟩
set_option maxHeartbeats 2000000 in
theorem ex_samePolygon (A : Option Addr) (c : Nat) (L : List (Int × Int)) (B : Option Addr) (d : Nat) (M : List (Int × Int)) (w : World) (hA : ArgA w A L) (hL : L.length ≤ maxLen) (hB : ArgA w B M) (hM : M.length ≤ maxLen) :
    Calls Try.prog 11 #[.slice A L.length c, .slice B M.length d] w fun e w' => e = .returned (.bool true) ∧ Below w.heap.size w w' := by
  by_cases hs : L.length ≤ 1048576
  case neg =>
    have HZ := Lib.hid (fun w => sz_great A L.length c w (by omega) hL)
    clear hA hB
    go_enter Try.func11, Try.ntmps11
    go_wp2_with fail
    refine (HZ.out _).mono ?_
    rintro e w0 ⟨rfl, rfl⟩
    go_wp2_with fail
    go_ret
    exact ⟨rfl, Below.refl _ _⟩
  have HZ := Lib.hid (fun w => sz_small A L.length c w hs)
  obtain ⟨m, hm⟩ : ∃ m : Int, m = 1048576 - (L.length : Int) := ⟨_, rfl⟩
  have hm0 : 0 ≤ m := by omega
  rw [← hm] at HZ
  by_cases hs2 : (M.length : Int) ≤ m
  case neg =>
    have HZ2 := Lib.hid (fun w => sz_over B M.length d m w (by omega) (by omega) hM)
    clear hA hB hm hs2
    go_enter Try.func11, Try.ntmps11
    go_wp2_with fail
    refine (HZ.out _).mono ?_
    rintro e w0 ⟨rfl, rfl⟩
    go_wp2_with fail
    refine (HZ2.out _).mono ?_
    rintro e w0 ⟨rfl, rfl⟩
    go_wp2_with fail
    go_ret
    exact ⟨rfl, Below.refl _ _⟩
  have HZ2 := Lib.hid (fun w => sz_fit B M.length d m w (by omega) hs2)
  have hmm : M.length ≤ 1048576 := by omega
  have HS := Lib.hid (fun A B c d w hp hq => spec_same A B c d L M w hp hq hs hmm)
  have HI := Lib.hid (fun A B c d w hp hq => impl_same A B c d L M w hp hq hs hmm)
  generalize sameV L M = r at *
  have h1 := Lib.hid hs
  have h2 := Lib.hid hmm
  have HA := Lib.hid hA
  have HB := Lib.hid hB
  have hmd : (0 : Int) ≤ m - (M.length : Int) := by omega
  clear hA hB hm hs2 hs hmm
  go_enter Try.func11, Try.ntmps11
  go_wp2_with fail
  refine (HZ.out _).mono ?_
  rintro e w0 ⟨rfl, rfl⟩
  go_wp2_with fail
  refine (HZ2.out _).mono ?_
  rintro e w0 ⟨rfl, rfl⟩
  go_wp2_with fail
  refine (toS_any A c L _ HA.out h1.out).mono ?_
  rintro e w1 ⟨v1, rfl, own1, b1⟩
  obtain ⟨_, A1, c1, rfl, p1⟩ := own_pts own1
  clear own1
  go_wp2_with fail
  refine (toS_any B d M _ (HB.out.step b1) h2.out).mono ?_
  rintro e w2 ⟨v2, rfl, own2, hb2⟩
  obtain ⟨_, A2, c2, rfl, p2⟩ := own_pts own2
  have b2 := below_on b1 hb2
  replace p1 := ptsA_on p1 hb2
  clear own2 hb2 b1
  go_wp2_with fail
  refine (HS.out A1 A2 c1 c2 w2 p1 p2).mono ?_
  rintro e w3 ⟨rfl, hb3⟩
  have b3 := below_on b2 hb3
  clear hb3 b2 p1 p2
  go_wp2_with fail
  refine (toS_any A c L _ (HA.out.step b3) h1.out).mono ?_
  rintro e w4 ⟨v4, rfl, own4, hb4⟩
  obtain ⟨_, A4, c4, rfl, p4⟩ := own_pts own4
  have b4 := below_on b3 hb4
  clear own4 hb4 b3
  go_wp2_with fail
  refine (toS_any B d M _ (HB.out.step b4) h2.out).mono ?_
  rintro e w5 ⟨v5, rfl, own5, hb5⟩
  obtain ⟨_, A5, c5, rfl, p5⟩ := own_pts own5
  have b5 := below_on b4 hb5
  replace p4 := ptsA_on p4 hb5
  clear own5 hb5 b4
  go_wp2_with fail
  refine (HI.out A4 A5 c4 c5 w5 p4 p5).mono ?_
  rintro e w6 ⟨rfl, hb6⟩
  have b6 := below_on b5 hb6
  replace p4 := ptsA_on p4 hb6
  replace p5 := ptsA_on p5 hb6
  clear hb6 b5
  go_wp2_with fail
  refine (toS_any A c L _ (HA.out.step b6) h1.out).mono ?_
  rintro e w7 ⟨v7, rfl, own7, hb7⟩
  obtain ⟨_, A7, c7, rfl, p7⟩ := own_pts own7
  have b7 := below_on b6 hb7
  replace p4 := ptsA_on p4 hb7
  replace p5 := ptsA_on p5 hb7
  clear own7 hb7 b6
  go_wp2_with fail
  refine (eq_pts A4 A7 c4 c7 L w7 p4 p7 h1.out).mono ?_
  rintro e w8 ⟨rfl, hb8⟩
  have b8 := below_on b7 hb8
  replace p5 := ptsA_on p5 hb8
  clear hb8 b7 p4 p7
  go_wp2_with fail
  refine (toS_any B d M _ (HB.out.step b8) h2.out).mono ?_
  rintro e w9 ⟨v9, rfl, own9, hb9⟩
  obtain ⟨_, A9, c9, rfl, p9⟩ := own_pts own9
  have b9 := below_on b8 hb9
  replace p5 := ptsA_on p5 hb9
  clear own9 hb9 b8
  go_wp2_with fail
  refine (eq_pts A5 A9 c5 c9 M w9 p5 p9 h2.out).mono ?_
  rintro e w10 ⟨rfl, hb10⟩
  have b10 := below_on b9 hb10
  clear hb10 b9 p5 p9
  go_wp2_with fail
  go_ret
  exact ⟨rfl, b10⟩
end Go.Proofs.Ytklbambnnkdjlaa
