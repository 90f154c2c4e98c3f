/-
  The laws of IsTurned and SymmetriesOf.
-/
import Derived.Test.YtoemmaeglhdjnaaIntsLaw
import Derived.Test.YtoemmaeglhdjnaaLawMk
import Derived.Test.YtoemmaeglhdjnaaSzTwo
import Derived.Test.YtoemmaeglhdjnaaTurned
namespace Go.Proofs.Ytoemmaeglhdjnaa
open Go.RowKit
set_option maxRecDepth 100000 in
set_option maxHeartbeats 2000000 in
theorem ex_isTurned (A : Option Addr) (c : Nat) (L : List (Int × Int)) (B : Option Addr) (d : Nat) (M : List (Int × Int)) (m : Int) (w : World) (hA : ArgA w A L) (hL : L.length ≤ maxLen) (hB : ArgA w B M) (hM : M.length ≤ maxLen) :
    Calls Try.prog 12 #[.slice A L.length c, .slice B M.length d, .int .i64 m] w fun e w' => e = .returned (.bool true) ∧ Below w.heap.size w w' := by
  by_cases hs : L.length ≤ 1048576
  case neg =>
    have HZ := Lib.hid (fun w => sz_great A L.length c w (by omega) hL)
    clear hA hB
    go_enter Try.func12, Try.ntmps12
    go_wp2_with fail
    refine (HZ.out _).mono ?_
    rintro e w0 ⟨rfl, rfl⟩
    go_wp2_with fail
    go_ret
    exact ⟨rfl, Below.refl _ _⟩
  have HZ := Lib.hid (fun w => sz_small A L.length c w hs)
  obtain ⟨q0, hm⟩ : ∃ q0 : Int, q0 = 1048576 - (L.length : Int) := ⟨_, rfl⟩
  have hm0 : 0 ≤ q0 := by omega
  rw [← hm] at HZ
  by_cases hs2 : (M.length : Int) ≤ q0
  case neg =>
    have HZ2 := Lib.hid (fun w => sz_over B M.length d q0 w (by omega) (by omega) hM)
    clear hA hB hm hs2
    go_enter Try.func12, Try.ntmps12
    go_wp2_with fail
    refine (HZ.out _).mono ?_
    rintro e w0 ⟨rfl, rfl⟩
    go_wp2_with fail
    refine (HZ2.out _).mono ?_
    rintro e w0 ⟨rfl, rfl⟩
    go_wp2_with fail
    go_ret
    exact ⟨rfl, Below.refl _ _⟩
  have HZ2 := Lib.hid (fun w => sz_fit B M.length d q0 w (by omega) hs2)
  have hmm : M.length ≤ 1048576 := by omega
  have HS := Lib.hid (fun A B c d w hp hq => spec_turned A B c d L M m w hp hq hs hmm)
  have HI := Lib.hid (fun A B c d w hp hq => impl_turned A B c d L M m w hp hq hs hmm)
  generalize turnedV L M m = r at *
  have h1 := Lib.hid hs
  have h2 := Lib.hid hmm
  have HA := Lib.hid hA
  have HB := Lib.hid hB
  have hmd : (0 : Int) ≤ q0 - (M.length : Int) := by omega
  clear hA hB hm hs2 hs hmm
  go_enter Try.func12, Try.ntmps12
  go_wp2_with fail
  refine (HZ.out _).mono ?_
  rintro e w0 ⟨rfl, rfl⟩
  go_wp2_with fail
  refine (HZ2.out _).mono ?_
  rintro e w0 ⟨rfl, rfl⟩
  go_wp2_with fail
  refine (toS_any A c L _ HA.out h1.out).mono ?_
  rintro e w1 ⟨v1, rfl, own1, b1⟩
  obtain ⟨_, A1, c1, rfl, p1⟩ := own_pts own1
  clear own1
  go_wp2_with fail
  refine (toS_any B d M _ (HB.out.step b1) h2.out).mono ?_
  rintro e w2 ⟨v2, rfl, own2, hb2⟩
  obtain ⟨_, A2, c2, rfl, p2⟩ := own_pts own2
  have b2 := below_on b1 hb2
  replace p1 := ptsA_on p1 hb2
  clear own2 hb2 b1
  go_wp2_with fail
  refine (HS.out A1 A2 c1 c2 w2 p1 p2).mono ?_
  rintro e w3 ⟨rfl, hb3⟩
  have b3 := below_on b2 hb3
  clear hb3 b2 p1 p2
  go_wp2_with fail
  refine (toS_any A c L _ (HA.out.step b3) h1.out).mono ?_
  rintro e w4 ⟨v4, rfl, own4, hb4⟩
  obtain ⟨_, A4, c4, rfl, p4⟩ := own_pts own4
  have b4 := below_on b3 hb4
  clear own4 hb4 b3
  go_wp2_with fail
  refine (toS_any B d M _ (HB.out.step b4) h2.out).mono ?_
  rintro e w5 ⟨v5, rfl, own5, hb5⟩
  obtain ⟨_, A5, c5, rfl, p5⟩ := own_pts own5
  have b5 := below_on b4 hb5
  replace p4 := ptsA_on p4 hb5
  clear own5 hb5 b4
  go_wp2_with fail
  refine (HI.out A4 A5 c4 c5 w5 p4 p5).mono ?_
  rintro e w6 ⟨rfl, hb6⟩
  have b6 := below_on b5 hb6
  replace p4 := ptsA_on p4 hb6
  replace p5 := ptsA_on p5 hb6
  clear hb6 b5
  go_wp2_with fail
  refine (toS_any A c L _ (HA.out.step b6) h1.out).mono ?_
  rintro e w7 ⟨v7, rfl, own7, hb7⟩
  obtain ⟨_, A7, c7, rfl, p7⟩ := own_pts own7
  have b7 := below_on b6 hb7
  replace p4 := ptsA_on p4 hb7
  replace p5 := ptsA_on p5 hb7
  clear own7 hb7 b6
  go_wp2_with fail
  refine (eq_pts A4 A7 c4 c7 L w7 p4 p7 h1.out).mono ?_
  rintro e w8 ⟨rfl, hb8⟩
  have b8 := below_on b7 hb8
  replace p5 := ptsA_on p5 hb8
  clear hb8 b7 p4 p7
  go_wp2_with fail
  refine (toS_any B d M _ (HB.out.step b8) h2.out).mono ?_
  rintro e w9 ⟨v9, rfl, own9, hb9⟩
  obtain ⟨_, A9, c9, rfl, p9⟩ := own_pts own9
  have b9 := below_on b8 hb9
  replace p5 := ptsA_on p5 hb9
  clear own9 hb9 b8
  go_wp2_with fail
  refine (eq_pts A5 A9 c5 c9 M w9 p5 p9 h2.out).mono ?_
  rintro e w10 ⟨rfl, hb10⟩
  have b10 := below_on b9 hb10
  clear hb10 b9 p5 p9
  go_wp2_with fail
  go_ret
  exact ⟨rfl, b10⟩
set_option maxRecDepth 100000 in
set_option maxHeartbeats 2000000 in
theorem law_symmetriesOf (A : Option Addr) (c : Nat) (L : List (Int × Int)) (M : List Int) (w : World) (hA : ArgA w A L) (hL : L.length ≤ maxLen)
    (SC : L.length ≤ 1048576 → ∀ A c w, PtsA w A L → Calls Try.prog 39 #[.slice A L.length c] w (ListsI w M))
    (IC : L.length ≤ 1048576 → ∀ A c w, PtsA w A L → Calls Try.prog 40 #[.slice A L.length c] w (ListsI w M)) (hM : M.length ≤ 1048576) :
    Calls Try.prog 11 #[.slice A L.length c] w fun e w' => e = .returned (.bool true) ∧ Below w.heap.size w w' := by
  by_cases hs : L.length ≤ 1048576
  case neg =>
    clear SC IC hA
    have HZ := Lib.hid (sz_great A L.length c w (by omega) hL)
    go_enter Try.func11, Try.ntmps11
    go_wp2_with fail
    refine HZ.out.mono ?_
    rintro e w0 ⟨rfl, rfl⟩
    go_wp2_with fail
    go_ret
    exact ⟨rfl, Below.refl _ _⟩
  have HS : Hid (∀ A c w, PtsA w A L → Calls Try.prog 39 #[.slice A L.length c] w fun e w' => ∃ v, e = .returned v ∧ w'.ownsRow w.heap.size 3 1 v M.length (ints M) ∧ Below w.heap.size w w') := SC hs
  have HI : Hid (∀ A c w, PtsA w A L → Calls Try.prog 40 #[.slice A L.length c] w fun e w' => ∃ v, e = .returned v ∧ w'.ownsRow w.heap.size 3 1 v M.length (ints M) ∧ Below w.heap.size w w') := IC hs
  clear SC IC
  have HA := Lib.hid hA; clear hA
  have HM := Lib.hid hs
  have HMM := Lib.hid hM
  have HZ := Lib.hid (sz_small A L.length c w hs)
  go_enter Try.func11, Try.ntmps11
  go_wp2_with fail
  refine HZ.out.mono ?_
  rintro e w0 ⟨rfl, rfl⟩
  go_wp2_with fail
  refine (toS_any A c L _ HA.out HM.out).mono ?_
  rintro e w1 ⟨v1, rfl, own1, b1⟩
  obtain ⟨_, A1, c1, rfl, p1⟩ := own_pts own1
  clear own1
  go_wp2_with fail
  refine (HS.out A1 c1 w1 p1).mono ?_
  rintro e w2 ⟨v2, rfl, own2, hb2⟩
  have b2 := below_on b1 hb2
  replace own2 := own_base own2 b1.size
  clear hb2 b1 p1
  go_wp2_with fail
  refine (toS_any A c L _ (HA.out.step b2) HM.out).mono ?_
  rintro e w3 ⟨v3, rfl, own3, hb3⟩
  have b3 := below_on b2 hb3
  have ap23 := own_apart_g own2 (Nat.le_refl _) own3
  have ap32 := own_apart_g' own2 (Nat.le_refl _) own3
  have own2' := own_below own2 hb3
  have hsz := hb3.size
  clear hb3
  obtain ⟨_, A3, c3, rfl, p3⟩ := own_pts own3
  go_wp2_with fail
  refine (HI.out A3 c3 w3 p3).mono ?_
  rintro e w4 ⟨v4, rfl, own4, hb4⟩
  have b4 := below_on b3 hb4
  have ap43 := own_apart_g' own3 (Nat.le_refl _) own4
  have ap24 := own_apart_g own2 hsz own4
  replace own2 := own_below own2' hb4
  replace own3 := own_base (own_below own3 hb4) b2.size
  replace own4 := own_base own4 b3.size
  clear hb4 own2' p3 b3 b2 hsz ap32
  obtain ⟨_, A4, c4, rfl, p4⟩ := own_ints own4
  obtain ⟨_, A2, c2, rfl, p2⟩ := own_ints own2
  go_wp2_with fail
  refine (eq_ints A4 A2 c4 c2 M w4 p4 p2 HMM.out).mono ?_
  rintro e w5 ⟨rfl, hb5⟩
  have b5 := below_on b4 hb5
  replace own2 := own_below own2 hb5
  replace own3 := own_below own3 hb5
  replace own4 := own_below own4 hb5
  clear hb5 p4 p2 b4
  go_wp2_with fail
  refine (toS_any A c L _ (HA.out.step b5) HM.out).mono ?_
  rintro e w6 ⟨v6, rfl, own6, hb6⟩
  have b6 := below_on b5 hb6
  replace own2 := own_below own2 hb6
  replace own3 := own_below own3 hb6
  replace own4 := own_below own4 hb6
  obtain ⟨_, A6, c6, rfl, p6⟩ := own_pts own6
  have p3 := ptsA_of own3
  clear hb6 own6 b5
  go_wp2_with fail
  refine (eq_pts A3 A6 c3 c6 L w6 p3 p6 HM.out).mono ?_
  rintro e w7 ⟨rfl, hb7⟩
  have b7 := below_on b6 hb7
  replace own2 := own_below own2 hb7
  replace own3 := own_below own3 hb7
  replace own4 := own_below own4 hb7
  clear hb7 p3 p6 b6
  go_wp2_with fail
  refine (mark_pts _ _ _ _ w7 own3 HM.out).mono ?_
  rintro e w8 ⟨rfl, own3m, hg8⟩
  have b8 := b7.grown hg8 b7.size (fun k hk => (own3.lt k hk).1)
  replace own2 := own2.kept hg8 ap23
  replace own4 := own4.kept hg8 ap43
  have p4 := intsA_of own4
  have p2 := intsA_of own2
  clear hg8 own3 own3m ap23 ap43 b7
  go_wp2_with fail
  refine (eq_ints A4 A2 c4 c2 M w8 p4 p2 HMM.out).mono ?_
  rintro e w9 ⟨rfl, hb9⟩
  have b9 := below_on b8 hb9
  replace own2 := own_below own2 hb9
  replace own4 := own_below own4 hb9
  clear hb9 p4 p2 b8
  go_wp2_with fail
  refine (mark_ints _ _ _ _ w9 own4 HMM.out).mono ?_
  rintro e w10 ⟨rfl, own4m, hg10⟩
  have b10 := b9.grown hg10 b9.size (fun k hk => (own4.lt k hk).1)
  replace own2 := own2.kept hg10 ap24
  clear hg10 own4 ap24 b9
  go_wp2_with fail
  refine (held_ints _ _ _ w10 own4m HMM.out).mono ?_
  rintro e w11 ⟨rfl, rfl⟩
  go_wp2_with fail
  refine (toS_any A c L _ (HA.out.step b10) HM.out).mono ?_
  rintro e w12 ⟨v12, rfl, own12, hb12⟩
  have b12 := below_on b10 hb12
  replace own2 := own_below own2 hb12
  replace own4m := own_below own4m hb12
  obtain ⟨_, A12, c12, rfl, p12⟩ := own_pts own12
  clear hb12 own12 b10
  go_wp2_with fail
  refine (HI.out A12 c12 w12 p12).mono ?_
  rintro e w13 ⟨v13, rfl, own13, hb13⟩
  have b13 := below_on b12 hb13
  replace own2 := own_below own2 hb13
  replace own4m := own_below own4m hb13
  obtain ⟨_, A13, c13, rfl, p13⟩ := own_ints own13
  have p2 := intsA_of own2
  clear hb13 own13 b12 p12
  go_wp2_with fail
  refine (eq_ints A13 A2 c13 c2 M w13 p13 p2 HMM.out).mono ?_
  rintro e w14 ⟨rfl, hb14⟩
  have b14 := below_on b13 hb14
  replace own4m := own_below own4m hb14
  clear hb14 own2 p2 p13 b13
  go_wp2_with fail
  refine (held_ints _ _ _ w14 own4m HMM.out).mono ?_
  rintro e w15 ⟨rfl, rfl⟩
  go_wp2_with fail
  go_ret
  exact ⟨rfl, b14⟩
theorem ex_symmetriesOf (A : Option Addr) (c : Nat) (L : List (Int × Int)) (w : World) (hA : ArgA w A L) (hL : L.length ≤ maxLen) :
    Calls Try.prog 11 #[.slice A L.length c] w fun e w' => e = .returned (.bool true) ∧ Below w.heap.size w w' :=
  law_symmetriesOf A c L (symV L) w hA hL (fun h A c w hp => spec_sym A c L w hp h) (fun h A c w hp => impl_sym A c L w hp h) (symV_len L)
end Go.Proofs.Ytoemmaeglhdjnaa
