/-
  The law of ShiftPolygon.
-/
import Derived.Test.YtoemmaeglhdjnaaLawMk
import Derived.Test.YtoemmaeglhdjnaaShift
namespace Go.Proofs.Ytoemmaeglhdjnaa
open Go.RowKit
theorem shiftV_len (L : List Pt) (x y : Int) : (shiftV L x y).length ≤ 1048576 := by
  unfold shiftV
  cases h : shiftOk L x y
  · simp
  · have hp : polyB L = true := by
      unfold shiftOk at h
      cases hp : polyB L
      · rw [hp] at h; cases h
      · rfl
    have := polyB_all hp
    simp only [cond_true, shiftL, List.length_map]; omega
set_option maxRecDepth 100000 in
set_option maxHeartbeats 2000000 in
theorem ex_shiftPolygon (A : Option Addr) (c : Nat) (L : List (Int × Int)) (x y : Int) (w : World) (hA : ArgA w A L) (hL : L.length ≤ maxLen)
    :
    Calls Try.prog 6 #[.slice A L.length c, .int .i64 x, .int .i64 y] w fun e w' => e = .returned (.bool true) ∧ Below w.heap.size w w' := by
  by_cases hs : L.length ≤ 1048576
  case neg =>
    clear hA
    have HZ := Lib.hid (sz_great A L.length c w (by omega) hL)
    go_enter Try.func6, Try.ntmps6
    go_wp2_with fail
    refine HZ.out.mono ?_
    rintro e w0 ⟨rfl, rfl⟩
    go_wp2_with fail
    go_ret
    exact ⟨rfl, Below.refl _ _⟩
  obtain ⟨b, hbv⟩ : ∃ b, b = shiftOk L x y := ⟨_, rfl⟩
  obtain ⟨M, hMv⟩ : ∃ M, M = shiftV L x y := ⟨_, rfl⟩
  have HS : Hid (∀ A c w, PtsA w A L → Calls Try.prog 29 #[.slice A L.length c, .int .i64 x, .int .i64 y] w fun e w' => ∃ v, e = .returned (.tuple #[v, .bool b]) ∧ w'.ownsRow w.heap.size 56 2 v M.length (flat M) ∧ Below w.heap.size w w') := by
    rw [hbv, hMv]; exact fun A c w hp => spec_shift A c L x y w hp hs
  have HI : Hid (∀ A c w, PtsA w A L → Calls Try.prog 30 #[.slice A L.length c, .int .i64 x, .int .i64 y] w fun e w' => ∃ v, e = .returned (.tuple #[v, .bool b]) ∧ w'.ownsRow w.heap.size 56 2 v M.length (flat M) ∧ Below w.heap.size w w') := by
    rw [hbv, hMv]; exact fun A c w hp => impl_shift A c L x y w hp hs
  have hM : M.length ≤ 1048576 := by rw [hMv]; exact shiftV_len L x y
  clear hbv hMv
  have HA := Lib.hid hA; clear hA
  have HM := Lib.hid hs
  have HMM := Lib.hid hM
  have HZ := Lib.hid (sz_small A L.length c w hs)
  go_enter Try.func6, Try.ntmps6
  go_wp2_with fail
  refine HZ.out.mono ?_
  rintro e w0 ⟨rfl, rfl⟩
  go_wp2_with fail
  refine (toS_any A c L _ HA.out HM.out).mono ?_
  rintro e w1 ⟨v1, rfl, own1, b1⟩
  obtain ⟨_, A1, c1, rfl, p1⟩ := own_pts own1
  clear own1
  go_wp2_with fail
  refine (HS.out A1 c1 w1 p1).mono ?_
  rintro e w2 ⟨v2, rfl, own2, hb2⟩
  have b2 := below_on b1 hb2
  replace own2 := own_base own2 b1.size
  clear hb2 b1 p1
  go_wp2_with fail
  refine (toS_any A c L _ (HA.out.step b2) HM.out).mono ?_
  rintro e w3 ⟨v3, rfl, own3, hb3⟩
  have b3 := below_on b2 hb3
  have ap23 := own_apart own2 (Nat.le_refl _) own3
  have ap32 := own_apart' own2 (Nat.le_refl _) own3
  have own2' := own_below own2 hb3
  have hsz := hb3.size
  clear hb3
  obtain ⟨_, A3, c3, rfl, p3⟩ := own_pts own3
  go_wp2_with fail
  refine (HI.out A3 c3 w3 p3).mono ?_
  rintro e w4 ⟨v4, rfl, own4, hb4⟩
  have b4 := below_on b3 hb4
  have ap43 := own_apart' own3 (Nat.le_refl _) own4
  have ap24 := own_apart own2 hsz own4
  replace own2 := own_below own2' hb4
  replace own3 := own_base (own_below own3 hb4) b2.size
  replace own4 := own_base own4 b3.size
  clear hb4 own2' p3 b3 b2 hsz ap32
  obtain ⟨_, A4, c4, rfl, p4⟩ := own_pts own4
  obtain ⟨_, A2, c2, rfl, p2⟩ := own_pts own2
  go_wp2_with fail
  refine (eq_pts A4 A2 c4 c2 M w4 p4 p2 HMM.out).mono ?_
  rintro e w5 ⟨rfl, hb5⟩
  have b5 := below_on b4 hb5
  replace own2 := own_below own2 hb5
  replace own3 := own_below own3 hb5
  replace own4 := own_below own4 hb5
  clear hb5 p4 p2 b4
  go_wp2_with fail
  refine (toS_any A c L _ (HA.out.step b5) HM.out).mono ?_
  rintro e w6 ⟨v6, rfl, own6, hb6⟩
  have b6 := below_on b5 hb6
  replace own2 := own_below own2 hb6
  replace own3 := own_below own3 hb6
  replace own4 := own_below own4 hb6
  obtain ⟨_, A6, c6, rfl, p6⟩ := own_pts own6
  have p3 := ptsA_of own3
  clear hb6 own6 b5
  go_wp2_with fail
  refine (eq_pts A3 A6 c3 c6 L w6 p3 p6 HM.out).mono ?_
  rintro e w7 ⟨rfl, hb7⟩
  have b7 := below_on b6 hb7
  replace own2 := own_below own2 hb7
  replace own3 := own_below own3 hb7
  replace own4 := own_below own4 hb7
  clear hb7 p3 p6 b6
  go_wp2_with fail
  refine (mark_pts _ _ _ _ w7 own3 HM.out).mono ?_
  rintro e w8 ⟨rfl, own3m, hg8⟩
  have b8 := b7.grown hg8 b7.size (fun k hk => (own3.lt k hk).1)
  replace own2 := own2.kept hg8 ap23
  replace own4 := own4.kept hg8 ap43
  have p4 := ptsA_of own4
  have p2 := ptsA_of own2
  clear hg8 own3 own3m ap23 ap43 b7
  go_wp2_with fail
  refine (eq_pts A4 A2 c4 c2 M w8 p4 p2 HMM.out).mono ?_
  rintro e w9 ⟨rfl, hb9⟩
  have b9 := below_on b8 hb9
  replace own2 := own_below own2 hb9
  replace own4 := own_below own4 hb9
  clear hb9 p4 p2 b8
  go_wp2_with fail
  refine (mark_pts _ _ _ _ w9 own4 HMM.out).mono ?_
  rintro e w10 ⟨rfl, own4m, hg10⟩
  have b10 := b9.grown hg10 b9.size (fun k hk => (own4.lt k hk).1)
  replace own2 := own2.kept hg10 ap24
  clear hg10 own4 ap24 b9
  go_wp2_with fail
  refine (held_pts _ _ _ w10 own4m HMM.out).mono ?_
  rintro e w11 ⟨rfl, rfl⟩
  go_wp2_with fail
  refine (toS_any A c L _ (HA.out.step b10) HM.out).mono ?_
  rintro e w12 ⟨v12, rfl, own12, hb12⟩
  have b12 := below_on b10 hb12
  replace own2 := own_below own2 hb12
  replace own4m := own_below own4m hb12
  obtain ⟨_, A12, c12, rfl, p12⟩ := own_pts own12
  clear hb12 own12 b10
  go_wp2_with fail
  refine (HI.out A12 c12 w12 p12).mono ?_
  rintro e w13 ⟨v13, rfl, own13, hb13⟩
  have b13 := below_on b12 hb13
  replace own2 := own_below own2 hb13
  replace own4m := own_below own4m hb13
  obtain ⟨_, A13, c13, rfl, p13⟩ := own_pts own13
  have p2 := ptsA_of own2
  clear hb13 own13 b12 p12
  go_wp2_with fail
  refine (eq_pts A13 A2 c13 c2 M w13 p13 p2 HMM.out).mono ?_
  rintro e w14 ⟨rfl, hb14⟩
  have b14 := below_on b13 hb14
  replace own4m := own_below own4m hb14
  clear hb14 own2 p2 p13 b13
  go_wp2_with fail
  refine (held_pts _ _ _ w14 own4m HMM.out).mono ?_
  rintro e w15 ⟨rfl, rfl⟩
  go_wp2_with fail
  go_ret
  exact ⟨rfl, b14⟩
end Go.Proofs.Ytoemmaeglhdjnaa
