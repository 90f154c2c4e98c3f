/-
  Walks for HullGap of both programs, and the law.
-/
import Derived.Test.YtplccidmedkfaaaHullI
import Derived.Test.YtplccidmedkfaaaHullPoly
import Derived.Test.YtplccidmedkfaaaInner
import Derived.Test.YtplccidmedkfaaaLaw4
namespace Go.Proofs.Ytplccidmedkfaaa
open Go.RowKit

def gapV (L : List P2) : Int := bif polyB L && hullOK L then twiceI (hullM L) - maxI (twiceI L) (-(twiceI L)) else -1
theorem gap_no1 {L : List P2} (h : polyB L = false) : gapV L = -1 := by unfold gapV; rw [h]; rfl
theorem gap_no2 {L : List P2} (h : hullOK L = false) : gapV L = -1 := by unfold gapV; rw [h, Bool.and_false]; rfl
theorem maxI_pos {x : Int} (h : 0 ≤ x) : maxI x (-x) = x := by unfold maxI; rw [if_neg (by omega)]
theorem maxI_bd {x : Int} (h : x.natAbs ≤ 16000) : (maxI x (-x)).natAbs ≤ 16000 := by unfold maxI; split <;> omega
theorem hull_facts {L : List P2} (h : hullOK L = true) : 3 ≤ (hullM L).length ∧ (hullM L).length ≤ 10 ∧ allOk (hullM L) = true ∧ polyB (hullM L) = true ∧ 0 ≤ twiceI (hullM L) ∧ (twiceI (hullM L)).natAbs ≤ 16000 := by
  unfold hullOK at h
  simp only [Bool.and_eq_true] at h
  obtain ⟨_, hok, hin⟩ := h
  obtain ⟨hp, ht⟩ := hull_poly hok hin
  obtain ⟨q1, q2, q3⟩ := polyB_all hp
  exact ⟨q1, q2, q3, hp, ht, twiceI_bd q3 q2⟩
theorem mag_any (n : Int) (w : World) (hn : n.natAbs ≤ 16000) : Calls Try.prog 74 #[.int .i64 n] w fun e w' => e = .returned (.int .i64 (maxI n (-n))) ∧ w' = w := by
  have hmax : ∀ (w : World) (x y : Int) (ts : Array TypeId) (t : TypeId), (Builtin.max_ ts t #[.int .i64 x, .int .i64 y]).run Try.prog w = .ok (.int .i64 (maxI x y)) w := run_maxI
  have f1 : wrap64 (-n) = -n := IntWalk.wrap64_in _ (by omega)
  have f2 : IntKind.i64.wrap (-n) = -n := IntWalk.i64_in _ (by omega)
  go_enter Try.func74, Try.ntmps74
  go_wp2_with fail
  go_ret
  exact ⟨rfl, rfl⟩
set_option maxRecDepth 100000 in
set_option maxHeartbeats 2000000 in
theorem spec_gap (A : Option Addr) (c : Nat) (L : List P2) (w : World) (hA : PtsA w A L) (hL : L.length ≤ 1048576) :
    Calls Try.prog 35 #[.slice A L.length c] w fun e w' => e = .returned (.int .i64 (gapV L)) ∧ Below w.heap.size w w' := by
  have HP := Lib.hid (spec_poly A c L w hA hL)
  cases hp : polyB L
  · have HV := Lib.hid (gap_no1 hp)
    rw [hp] at HP
    clear hA
    go_enter Try.func35, Try.ntmps35
    go_wp2_with fail
    refine HP.out.mono ?_
    rintro e w1 ⟨rfl, b1⟩
    go_wp2_with fail
    go_ret
    exact ⟨ret_int HV.out.symm, b1⟩
  · obtain ⟨h3, h10, hok⟩ := polyB_all hp
    rw [hp] at HP
    have HH := Lib.hid (fun w' (hb : Below w.heap.size w w') => spec_hull A c L w' (ptsA_on hA hb) hL)
    have HTP := Lib.hid (fun w' (hb : Below w.heap.size w w') => twice_any A c L w' (ptsA_on hA hb) (by omega) h10 hok)
    have htb := twiceI_bd hok h10
    cases hk : hullOK L
    · have HV := Lib.hid (gap_no2 hk)
      have HT := fun w' => hullT_no (w := w') hk
      clear hA
      go_enter Try.func35, Try.ntmps35
      go_wp2_with fail
      refine HP.out.mono ?_
      rintro e w1 ⟨rfl, b1⟩
      have HH1 := HH.out w1 b1
      rw [(HT w1).out] at HH1
      have HH2 := Lib.hid HH1
      clear HH1
      go_wp2_with fail
      refine HH2.out.mono ?_
      rintro e w2 ⟨v, rfl, own, hb2⟩
      have b2 := below_on b1 hb2
      clear own hb2 b1
      go_wp2_with fail
      go_ret
      exact ⟨ret_int HV.out.symm, b2⟩
    · have HV : Hid (gapV L = maxI (twiceI (hullM L)) (-(twiceI (hullM L))) - maxI (twiceI L) (-(twiceI L))) := by
        show _ = _
        rw [maxI_pos (hull_facts hk).2.2.2.2.1]
        unfold gapV; rw [hp, hk]; rfl
      obtain ⟨k3, k10, kok, -, -, kbd⟩ := hull_facts hk
      have HT := fun w' => hullT_yes (w := w') hk
      obtain ⟨H, hH⟩ : ∃ H, H = hullM L := ⟨_, rfl⟩
      rw [← hH] at HV k3 k10 kok kbd HT
      obtain ⟨tL, htL⟩ : ∃ tL, tL = twiceI L := ⟨_, rfl⟩
      rw [← htL] at HV htb HTP
      have HTH := Lib.hid (fun A c w' (hA : PtsA w' A H) => twice_any A c H w' hA (by omega) k10 kok)
      obtain ⟨tH, htH⟩ : ∃ tH, tH = twiceI H := ⟨_, rfl⟩
      rw [← htH] at HV kbd HTH
      have MB1 := maxI_bd htb
      have MB2 := maxI_bd kbd
      have HM1 := Lib.hid (fun w => mag_any tH w kbd)
      have HM2 := Lib.hid (fun w => mag_any tL w htb)
      obtain ⟨m1, hm1⟩ : ∃ m1, m1 = maxI tH (-tH) := ⟨_, rfl⟩
      obtain ⟨m2, hm2⟩ : ∃ m2, m2 = maxI tL (-tL) := ⟨_, rfl⟩
      rw [← hm1] at HV MB2 HM1
      rw [← hm2] at HV MB1 HM2
      have f1 : wrap64 (m1 - m2) = m1 - m2 := IntWalk.wrap64_in _ (by omega)
      have f2 : IntKind.i64.wrap (m1 - m2) = m1 - m2 := IntWalk.i64_in _ (by omega)
      clear hA hH htL htH hm1 hm2 kok hok htb kbd MB1 MB2
      go_enter Try.func35, Try.ntmps35
      go_wp2_with fail
      refine HP.out.mono ?_
      rintro e w1 ⟨rfl, b1⟩
      have HH1 := HH.out w1 b1
      rw [(HT w1).out] at HH1
      have HH2 := Lib.hid HH1
      clear HH1 HT
      go_wp2_with fail
      refine HH2.out.mono ?_
      rintro e w2 ⟨v, rfl, own, hb2⟩
      obtain ⟨g2, c2, rfl⟩ := own_pos own (by omega)
      have p2 := ptsA_of own
      have b2 := below_on b1 hb2
      clear own hb2 b1
      go_wp2_with fail
      refine (HTH.out _ c2 w2 p2).mono ?_
      rintro e w3 ⟨rfl, hb3⟩
      have b3 := below_on b2 hb3
      clear hb3 b2 p2
      go_wp2_with fail
      refine (HM1.out _).mono ?_
      rintro e w4 ⟨rfl, rfl⟩
      go_wp2_with fail
      refine (HTP.out _ b3).mono ?_
      rintro e w5 ⟨rfl, hb5⟩
      have b5 := below_on b3 hb5
      clear hb5 b3
      go_wp2_with fail
      refine (HM2.out _).mono ?_
      rintro e w6 ⟨rfl, rfl⟩
      go_wp2_with fail
      go_ret
      exact ⟨ret_int HV.out.symm, b5⟩
set_option maxRecDepth 100000 in
set_option maxHeartbeats 2000000 in
theorem impl_gap (A : Option Addr) (c : Nat) (L : List P2) (w : World) (hA : PtsA w A L) (hL : L.length ≤ 1048576) :
    Calls Try.prog 36 #[.slice A L.length c] w fun e w' => e = .returned (.int .i64 (gapV L)) ∧ Below w.heap.size w w' := by
  have hmax : ∀ (w : World) (x y : Int) (ts : Array TypeId) (t : TypeId), (Builtin.max_ ts t #[.int .i64 x, .int .i64 y]).run Try.prog w = .ok (.int .i64 (maxI x y)) w := run_maxI
  have HH := Lib.hid (impl_hull A c L w hA hL)
  cases hk : hullOK L
  · have HV := Lib.hid (gap_no2 hk)
    have HH1 := HH.out
    rw [(hullT_no hk).out] at HH1
    have HH2 := Lib.hid HH1
    clear HH1 hA HH
    go_enter Try.func36, Try.ntmps36
    go_wp2_with fail
    refine HH2.out.mono ?_
    rintro e w2 ⟨v, rfl, own, b2⟩
    clear own
    go_wp2_with fail
    go_ret
    exact ⟨ret_int HV.out.symm, b2⟩
  · have HH1 := HH.out
    rw [(hullT_yes hk).out] at HH1
    have HH2 := Lib.hid HH1
    have HPC := Lib.hid (fun w' (hb : Below w.heap.size w w') => impl_poly A c L w' (ptsA_on hA hb) hL)
    have HTP := Lib.hid (fun w' (hb : Below w.heap.size w w') => impl_twice A c L w' (ptsA_on hA hb) hL)
    clear HH1 HH
    cases hp : polyB L
    · have HV := Lib.hid (gap_no1 hp)
      rw [hp] at HPC
      clear hA
      go_enter Try.func36, Try.ntmps36
      go_wp2_with fail
      refine HH2.out.mono ?_
      rintro e w2 ⟨v, rfl, own, b2⟩
      clear own
      go_wp2_with fail
      refine (HPC.out _ b2).mono ?_
      rintro e w3 ⟨rfl, hb3⟩
      have b3 := below_on b2 hb3
      clear hb3 b2
      go_wp2_with fail
      go_ret
      exact ⟨ret_int HV.out.symm, b3⟩
    · have HV : Hid (gapV L = twiceI (hullM L) - maxI (twiceI L) (-(twiceI L))) := by
        show _ = _
        unfold gapV; rw [hp, hk]; rfl
      obtain ⟨h3, h10, hok⟩ := polyB_all hp
      have htb := twiceI_bd hok h10
      obtain ⟨k3, k10, kok, kp, -, kbd⟩ := hull_facts hk
      rw [hp] at HPC HTP
      simp only [cond_true] at HTP
      obtain ⟨H, hH⟩ : ∃ H, H = hullM L := ⟨_, rfl⟩
      rw [← hH] at HV k3 k10 kok kbd HH2 kp
      obtain ⟨tL, htL⟩ : ∃ tL, tL = twiceI L := ⟨_, rfl⟩
      rw [← htL] at HV htb HTP
      have HTH : Hid (∀ A c w', PtsA w' A H → Calls Try.prog 16 #[.slice A H.length c] w' fun e w'' => e = .returned (.int .i64 (twiceI H)) ∧ Below w'.heap.size w' w'') := fun A c w' hA => by
        have h := impl_twice A c H w' hA (by omega)
        rw [kp] at h
        exact h
      obtain ⟨tH, htH⟩ : ∃ tH, tH = twiceI H := ⟨_, rfl⟩
      rw [← htH] at HV kbd HTH
      have MB1 := maxI_bd htb
      have f3 : wrap64 (-tL) = -tL := IntWalk.wrap64_in _ (by omega)
      have f4 : IntKind.i64.wrap (-tL) = -tL := IntWalk.i64_in _ (by omega)
      have f1 : wrap64 (tH - maxI tL (-tL)) = tH - maxI tL (-tL) := IntWalk.wrap64_in _ (by omega)
      have f2 : IntKind.i64.wrap (tH - maxI tL (-tL)) = tH - maxI tL (-tL) := IntWalk.i64_in _ (by omega)
      clear hA hH htL htH kok hok htb kbd MB1 kp
      go_enter Try.func36, Try.ntmps36
      go_wp2_with fail
      refine HH2.out.mono ?_
      rintro e w2 ⟨v, rfl, own, b2⟩
      obtain ⟨g2, c2, rfl⟩ := own_pos own (by omega)
      have p2 := ptsA_of own
      clear own
      go_wp2_with fail
      refine (HPC.out _ b2).mono ?_
      rintro e w3 ⟨rfl, hb3⟩
      have b3 := below_on b2 hb3
      have p3 := ptsA_on p2 hb3
      clear hb3 b2 p2
      go_wp2_with fail
      refine (HTP.out _ b3).mono ?_
      rintro e w4 ⟨rfl, hb4⟩
      have b4 := below_on b3 hb4
      have p4 := ptsA_on p3 hb4
      clear hb4 b3 p3
      go_wp2_with fail
      refine (HTH.out _ c2 w4 p4).mono ?_
      rintro e w5 ⟨rfl, hb5⟩
      have b5 := below_on b4 hb5
      clear hb5 b4 p4
      go_wp2_with fail
      go_ret
      exact ⟨ret_int HV.out.symm, b5⟩
theorem ex_hullGap (A : Option Addr) (c : Nat) (L : List (Int × Int)) (w : World) (hA : ArgA w A L) (hL : L.length ≤ maxLen) :
    Calls Try.prog 6 #[.slice A L.length c] w fun e w' => e = .returned (.bool true) ∧ Below w.heap.size w w' :=
  law_hullGap A c L (gapV L) w hA hL (fun h A c w hp => spec_gap A c L w hp h) (fun h A c w hp => impl_gap A c L w hp h)
end Go.Proofs.Ytplccidmedkfaaa
