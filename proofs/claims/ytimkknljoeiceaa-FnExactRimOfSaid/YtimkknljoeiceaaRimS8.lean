/-
  RimOf of the model, and the law.
-/
import Derived.Test.YtimkknljoeiceaaRim8
namespace Go.Proofs.Ytimkknljoeiceaa
open Go.RowKit

theorem outN_one {a b m : Nat} {x y : Int} (h : hasB a b m.testBit x y = false) : outN a b m x y = 1 := by unfold outN; rw [h]; rfl
theorem outN_zero {a b m : Nat} {x y : Int} (h : hasB a b m.testBit x y = true) : outN a b m x y = 0 := by unfold outN; rw [h]; rfl
def dirV : List Value := [.int .i64 1, .int .i64 0, .int .i64 (-1), .int .i64 0, .int .i64 0, .int .i64 1, .int .i64 0, .int .i64 (-1)]
theorem dir_cells {w : World} {g : Nat} (h : w.heap[g]? = some (.cells #[.int .i64 1, .int .i64 0, .int .i64 (-1), .int .i64 0, .int .i64 0, .int .i64 1, .int .i64 0, .int .i64 (-1)] 54 (0, 0))) {t : Nat} (ht : t < 4) :
    w.cell? ⟨g, t * 2, none⟩ = some (.int .i64 (dirS t).1) ∧ w.cell? ⟨g, t * 2 + 1, none⟩ = some (.int .i64 (dirS t).2) := by
  rw [cell_of_row w g _ _ _ _ h, cell_of_row w g _ _ _ _ h]
  match t, ht with
  | 0, _ => exact ⟨rfl, rfl⟩
  | 1, _ => exact ⟨rfl, rfl⟩
  | 2, _ => exact ⟨rfl, rfl⟩
  | 3, _ => exact ⟨rfl, rfl⟩
  | t + 4, h => omega
theorem dirS_bd (t : Nat) : -1 ≤ (dirS t).1 ∧ (dirS t).1 ≤ 1 ∧ -1 ≤ (dirS t).2 ∧ (dirS t).2 ≤ 1 := by
  match t with
  | 0 => simp [dirS]
  | 1 => simp [dirS]
  | 2 => simp [dirS]
  | t + 3 => simp [dirS]
set_option maxRecDepth 100000 in
set_option maxHeartbeats 2000000 in
theorem spec_rim (w h M : Int) (W : World) : Calls Try.prog 45 #[.int .i64 w, .int .i64 h, .int .i64 M] W fun e w' => e = .returned (.int .i64 (rimV8 w h M)) ∧ Below W.heap.size W w' := by
  have HS := Lib.hid (fun W => spec_shape w h M W)
  cases hB : shapeB w h M
  · rw [hB] at HS
    have HV := Lib.hid (rimV8_no hB)
    rw [HV.out]
    clear hB
    go_enter Try.func45, Try.ntmps45
    go_wp2_with fail
    refine (HS.out _).mono ?_
    rintro e w1 ⟨rfl, rfl⟩
    go_wp2_with fail
    go_ret
    exact ⟨rfl, Below.refl _ _⟩
  · rw [hB] at HS
    obtain ⟨a, b, m, rfl, rfl, rfl, ha1, ha2, hb1, hb2, hm, hab⟩ := mask_nat hB
    have HV := Lib.hid (rimV8_yes hB)
    rw [HV.out]
    have hm36 := lt62 hm hab
    have HCE := Lib.hid (fun W => cellsS_any a m W ha1 hm36)
    unfold Lists at HCE
    have HBD := Lib.hid (fun k hk => cellsC_bd (a := a) (b := b) (m := m) ha1 hab hm (k := k) hk)
    have hlen := cellsC_len a m
    have HTL := Lib.hid (rimT8_le a b m (cellsC a m))
    have HPL := Lib.hid (rimS8_le a b m)
    have HBT := Lib.hid (fun k => bit_at m k hm36)
    have HRE := Lib.hid (rim8_eq a b m)
    have HT : Hid (∀ L k, rimT8 a b m L (k + 1) = rimT8 a b m L k + rimP8 a b m (gt L k).1 (gt L k).2 4) := fun _ _ => rfl
    have HO1 := Lib.hid (fun x y => @outN_one a b m x y)
    have HO0 := Lib.hid (fun x y => @outN_zero a b m x y)
    have HHB : Hid (∀ x y, hasB a b m.testBit x y = (covB a b x y && m.testBit (y * a + x).toNat)) := fun _ _ => rfl
    have HCB : Hid (∀ x y, covB a b x y = (inB x 0 (a - 1) && inB y 0 (b - 1))) := fun _ _ => rfl
    have HAB := Lib.hid hab
    generalize cellsC a m = L at *
    clear hB hm hab
    go_enter Try.func45, Try.ntmps45
    go_wp2_with fail
    refine (HS.out _).mono ?_
    rintro e w1 ⟨rfl, rfl⟩
    go_wp2_with fail
    refine (HCE.out _).mono ?_
    rintro e w4 ⟨v4, rfl, own4, bb⟩
    obtain ⟨_, A4, c4, rfl, p4⟩ := own_pts own4
    have HA := Lib.hid p4
    clear own4 p4 HCE HS
    go_wp2_with fail
    go_loopw [7, 9, 11, 12, 13, 23] (fun s _ _ _ _ i wr => ∃ k c : Nat, k ≤ L.length ∧ i = .int .i64 k ∧ s = .int .i64 c ∧ Hid (c = rimT8 a b m L k) ∧ Below w4.heap.size w4 wr) (fun _ _ _ _ _ i _ => L.length - (intOf i).toNat)
    case atStart => exact ⟨0, 0, Nat.zero_le _, rfl, rfl, rfl, Below.refl _ _⟩
    case round =>
      obtain ⟨wo, rfl⟩ : ∃ wo : World, wo = wr := ⟨_, rfl⟩
      obtain ⟨k, c, hk, rfl, rfl, HC, hb⟩ := hrel
      by_cases hlt : k < L.length
      · obtain ⟨g4, rfl, -⟩ := HA.out k hlt
        obtain ⟨d1, d2⟩ := gt_cells (ptsA_on HA.out hb) hlt
        have hbd := HBD.out k hlt
        have hc : c ≤ 4 * 36 := by
          rw [HC.out]
          have := HTL.out k
          omega
        have HC2 : Hid (c + rimS8 a b m (gt L k).1 (gt L k).2 4 = rimT8 a b m L (k + 1)) := by
          show _ = _
          rw [HT.out, HC.out, HRE.out]
        clear HC
        generalize (gt L k).1 = x at *
        generalize (gt L k).2 = y at *
        have a1 := at_new wo x y 54
        have v1 := a1.c0; have v2 := a1.c1
        have hb1 := hb.alloc hb.size (.cells #[.int .i64 x, .int .i64 y] 54)
        clear hb
        go_wp2_with fail
        have a2 := a1.alloc (.cells #[.int .i64 1, .int .i64 0, .int .i64 (-1), .int .i64 0, .int .i64 0, .int .i64 1, .int .i64 0, .int .i64 (-1)] 54)
        have q2 := heap_alloc2_new wo (.cells #[.int .i64 x, .int .i64 y] 54) (.cells #[.int .i64 1, .int .i64 0, .int .i64 (-1), .int .i64 0, .int .i64 0, .int .i64 1, .int .i64 0, .int .i64 (-1)] 54)
        have b2 := hb1.alloc hb1.size (.cells #[.int .i64 1, .int .i64 0, .int .i64 (-1), .int .i64 0, .int .i64 0, .int .i64 1, .int .i64 0, .int .i64 (-1)] 54)
        generalize (wo.alloc (.cells #[.int .i64 x, .int .i64 y] 54)).alloc (.cells #[.int .i64 1, .int .i64 0, .int .i64 (-1), .int .i64 0, .int .i64 0, .int .i64 1, .int .i64 0, .int .i64 (-1)] 54) = w5 at *
        have H0 : Hid (c = c + rimS8 a b m x y 0) := rfl
        have HA2 := Lib.hid a2
        have HQ2 := Lib.hid q2
        have HLT := Lib.hid (And.intro a2.lt (Array.getElem?_eq_some_iff.1 q2).1)
        clear d1 d2 v1 v2 a1 hb1 a2 q2
        go_loopw [7, 11, 12, 13, 33] (fun s _ _ _ i wr => ∃ t d : Nat, t ≤ 4 ∧ i = .int .i64 t ∧ s = .int .i64 d ∧ Hid (d = c + rimS8 a b m x y t) ∧ Below w5.heap.size w5 wr) (fun _ _ _ _ i _ => 4 - (intOf i).toNat)
        case atStart => exact ⟨0, c, by omega, rfl, rfl, H0, Below.refl _ _⟩
        case round =>
          clear H0
          obtain ⟨wi, rfl⟩ : ∃ wi : World, wi = wr := ⟨_, rfl⟩
          obtain ⟨t, d, ht, rfl, rfl, HD, hb⟩ := hrel
          by_cases hlt4 : t < 4
          · have hd : d ≤ 4 * 36 + 4 := by
              rw [HD.out]
              have := HPL.out x y t
              omega
            have HD2 : Hid (d + outN a b m (x + (dirS t).1) (y + (dirS t).2) = c + rimS8 a b m x y (t + 1)) := by
              show _ = _
              rw [HD.out]
              simp only [rimS8]; omega
            have a3 := HA2.out.step hb
            obtain ⟨d1, d2⟩ := dir_cells ((hb.block _ HLT.out.2).trans HQ2.out) hlt4
            have hdb := dirS_bd t
            clear HD
            generalize (dirS t).1 = dx at *
            generalize (dirS t).2 = dy at *
            obtain ⟨u, hu⟩ : ∃ u, u = x + dx := ⟨_, rfl⟩
            obtain ⟨v, hv⟩ : ∃ v, v = y + dy := ⟨_, rfl⟩
            rw [← hu, ← hv] at HD2
            have e1 : x + dx = u := hu.symm
            have e2 : y + dy = v := hv.symm
            have hub : -1 ≤ u ∧ u ≤ 6 ∧ -1 ≤ v ∧ v ≤ 6 := by omega
            have a6 := at_new wi dx dy 54
            have v1 := a6.c0; have v2 := a6.c1
            have a4 := a3.alloc (.cells #[.int .i64 dx, .int .i64 dy] 54)
            have c1 := a4.c0; have c2 := a4.c1
            clear a3 a4
            have R := Lib.hid (below_on hb (below1 wi (.cells #[.int .i64 dx, .int .i64 dy] 54)))
            clear hb a6 hu hv
            have hhb := HHB.out u v
            have hcb := HCB.out u v
            cases hh1 : inB u 0 (a - 1)
            · have hh : hasB a b m.testBit u v = false := by rw [hhb, hcb, hh1]; rfl
              have hou := HO1.out u v hh
              rw [hou] at HD2
              clear hh hou hhb hcb
              go_wp2_with fail
              refine (in_any _ _ _ _).mono ?_
              rintro e w6 ⟨rfl, rfl⟩
              rw [hh1]
              go_wp2_with fail
              go_roundw
              case rel => exact ⟨t + 1, _, by omega, by go_num, by go_num, HD2, R.out⟩
              case measure => simp [intOf]; omega
            cases hh2 : inB v 0 (b - 1)
            · have hh : hasB a b m.testBit u v = false := by rw [hhb, hcb, hh1, hh2]; rfl
              have hou := HO1.out u v hh
              rw [hou] at HD2
              clear hh hou hhb hcb
              go_wp2_with fail
              refine (in_any _ _ _ _).mono ?_
              rintro e w6 ⟨rfl, rfl⟩
              rw [hh1]
              go_wp2_with fail
              refine (in_any _ _ _ _).mono ?_
              rintro e w6 ⟨rfl, rfl⟩
              rw [hh2]
              go_wp2_with fail
              go_roundw
              case rel => exact ⟨t + 1, _, by omega, by go_num, by go_num, HD2, R.out⟩
              case measure => simp [intOf]; omega
            have hcv : covB a b u v = true := by rw [hcb, hh1, hh2]; rfl
            obtain ⟨i, j, rfl, rfl, hi, hj, hij, hK⟩ := covB_nat hcv
            rw [hcv, Bool.true_and, hK, Int.toNat_natCast] at hhb
            obtain ⟨q, hq⟩ : ∃ q, q = j * a := ⟨_, rfl⟩
            have hqi : (j : Int) * (a : Int) = (q : Int) := by rw [hq, Int.natCast_mul]
            rw [← hq] at hhb hij
            clear hq hK hcv hcb
            have hq36 : q + i < 36 := by have := HAB.out; omega
            obtain ⟨z, hz, hbit⟩ := HBT.out (q + i)
            have htn : ((q : Int) + (i : Int)).toNat = q + i := by omega
            cases hF : m.testBit (q + i)
            · rw [hF] at hbit hhb
              have hou := HO1.out i j hhb
              rw [hou] at HD2
              simp only [Bool.false_eq_true, if_false] at hbit
              generalize q + i = qi at *
              clear hou hhb hF
              go_wp2_with fail
              refine (in_any _ _ _ _).mono ?_
              rintro e w6 ⟨rfl, rfl⟩
              rw [hh1]
              go_wp2_with fail
              refine (in_any _ _ _ _).mono ?_
              rintro e w6 ⟨rfl, rfl⟩
              rw [hh2]
              go_wp2_with fail
              go_roundw
              case rel => exact ⟨t + 1, _, by omega, by go_num, by go_num, HD2, R.out⟩
              case measure => simp [intOf]; omega
            · rw [hF] at hbit hhb
              have hou := HO0.out i j hhb
              rw [hou] at HD2
              simp only [if_true] at hbit
              generalize q + i = qi at *
              clear hou hhb hF
              go_wp2_with fail
              refine (in_any _ _ _ _).mono ?_
              rintro e w6 ⟨rfl, rfl⟩
              rw [hh1]
              go_wp2_with fail
              refine (in_any _ _ _ _).mono ?_
              rintro e w6 ⟨rfl, rfl⟩
              rw [hh2]
              go_wp2_with fail
              go_roundw
              case rel => exact ⟨t + 1, _, by omega, by go_num, by go_num, HD2, R.out⟩
              case measure => simp [intOf]; omega
          · obtain rfl : t = 4 := by omega
            rw [← HD.out] at HC2
            have R := Lib.hid (below_on b2 hb)
            clear hb HD b2
            go_wp2_with fail
            go_roundw
            case rel => exact ⟨k + 1, d, by omega, by go_num, rfl, HC2, R.out⟩
            case measure => simp [intOf]; omega
      · obtain rfl : k = L.length := by omega
        have hE := HC.out
        have R := Lib.hid (below_on bb hb)
        clear HC hb bb
        have HE := Lib.hid hE
        clear hE
        go_wp2_with fail
        go_ret
        rw [← HE.out]
        exact ⟨rfl, R.out⟩
theorem ex_rimOf (w h M : Int) (W : World) : Calls Try.prog 13 #[.int .i64 w, .int .i64 h, .int .i64 M] W fun e w' => e = .returned (.bool true) ∧ Below W.heap.size W w' := by
  have HS := Lib.hid (fun W => spec_rim w h M W)
  have HI := Lib.hid (fun W => impl_rim w h M W)
  generalize rimV8 w h M = r at *
  go_enter Try.func13, Try.ntmps13
  go_wp2_with fail
  refine (HS.out _).mono ?_
  rintro e w1 ⟨rfl, b1⟩
  go_wp2_with fail
  refine (HI.out _).mono ?_
  rintro e w2 ⟨rfl, hb2⟩
  have b2 := below_on b1 hb2
  go_wp2_with fail
  go_ret
  exact ⟨rfl, b2⟩
end Go.Proofs.Ytimkknljoeiceaa
