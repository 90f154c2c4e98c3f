/-
  Walks for Supports of both programs.
-/
import Derived.Test.YtplccidmedkfaaaTurnsOf
namespace Go.Proofs.Ytplccidmedkfaaa
open Go.RowKit

/-- The side of a line on which a corner lies. -/
def supT (L : List (Int × Int)) (a b : Int × Int) (i : Nat) : Int := sgn (crossP a b (gt L i))
def supB (L : List (Int × Int)) (a b : Int × Int) : Bool := !(bothB ((List.range L.length).map (supT L a b)))
def supV (L : List (Int × Int)) (a b : Int × Int) : Bool := polyB L && (okP a.1 a.2 && (okP b.1 b.2 && (!(a.1 == b.1 && a.2 == b.2) && supB L a b)))
theorem supT_three (L : List (Int × Int)) (a b : Int × Int) (i : Nat) : supT L a b i = 1 ∨ supT L a b i = -1 ∨ supT L a b i = 0 := sgn_three _
theorem cells1 (w : World) (x y : Int) (t : TypeId) : (w.alloc (.cells #[.int .i64 x, .int .i64 y] t)).cell? ⟨w.heap.size, 0, none⟩ = some (.int .i64 x) ∧ (w.alloc (.cells #[.int .i64 x, .int .i64 y] t)).cell? ⟨w.heap.size, 1, none⟩ = some (.int .i64 y) :=
  ⟨(at_new w x y t).c0, (at_new w x y t).c1⟩
set_option maxRecDepth 100000 in
set_option maxHeartbeats 4000000 in
theorem spec_supp (A : Option Addr) (c : Nat) (L : List (Int × Int)) (ax ay bx by' : Int) (w : World) (hA : PtsA w A L) (hL : L.length ≤ 1048576) :
    Calls Try.prog 38 #[.slice A L.length c, (.agg #[.int .i64 ax, .int .i64 ay]), (.agg #[.int .i64 bx, .int .i64 by'])] w fun e w' => e = .returned (.bool (supV L (ax, ay) (bx, by'))) ∧ Below w.heap.size w w' := by
  have hb0 := below2 w (.cells #[.int .i64 ax, .int .i64 ay] 27) (.cells #[.int .i64 bx, .int .i64 by'] 27)
  have hA1 := ptsA_on hA hb0
  have HP := Lib.hid (spec_poly A c L _ hA1 hL)
  have HA := Lib.hid hA1
  have HN := Lib.hid (two0 w ax ay bx by' 27)
  have HB := Lib.hid hb0
  have HV : Hid (supV L (ax, ay) (bx, by') = (polyB L && (okP ax ay && (okP bx by' && (!(ax == bx && ay == by') && supB L (ax, ay) (bx, by')))))) := rfl
  have hmin : ∀ (w : World) (x y : Int) (ts : Array TypeId) (t : TypeId), (Builtin.min_ ts t #[.int .i64 x, .int .i64 y]).run Try.prog w = .ok (.int .i64 (minI x y)) w := run_minI
  have hmax : ∀ (w : World) (x y : Int) (ts : Array TypeId) (t : TypeId), (Builtin.max_ ts t #[.int .i64 x, .int .i64 y]).run Try.prog w = .ok (.int .i64 (maxI x y)) w := run_maxI
  clear hA hA1 hb0
  go_enter Try.func38, Try.ntmps38
  go_wp2_with fail
  generalize (w.alloc (.cells #[.int .i64 ax, .int .i64 ay] 27)).alloc (.cells #[.int .i64 bx, .int .i64 by'] 27) = w1 at *
  refine HP.out.mono ?_
  rintro e w2 ⟨rfl, hb⟩
  have n2 := HN.out.step hb
  have b2 := below_on HB.out hb
  have HA2 := Lib.hid (ptsA_on HA.out hb)
  clear hb HP HB HN HA
  cases hp : polyB L
  · go_wp2_with fail
    go_ret
    exact ⟨ret_bool (by rw [HV.out, hp]; rfl), b2⟩
  obtain ⟨q1, q2, q3⟩ := polyB_all hp
  have HOK := Lib.hid q3
  clear q3
  have c1 := n2.1.c0; have c2 := n2.1.c1
  go_wp2_with fail
  refine (spec_ok _ _ _).mono ?_
  rintro e w3 ⟨rfl, hb⟩
  have n3 := n2.step hb
  have b3 := below_on b2 hb
  have HA3 := Lib.hid (ptsA_on HA2.out hb)
  clear hb b2 n2 c1 c2 HA2
  cases hq : okP ax ay
  · go_wp2_with fail
    go_ret
    exact ⟨ret_bool (by rw [HV.out, hp, hq]; rfl), b3⟩
  have c1 := n3.2.c0; have c2 := n3.2.c1
  go_wp2_with fail
  refine (spec_ok _ _ _).mono ?_
  rintro e w4 ⟨rfl, hb⟩
  have n4 := n3.step hb
  have b4 := below_on b3 hb
  have HA4 := Lib.hid (ptsA_on HA3.out hb)
  clear hb b3 n3 c1 c2 HA3
  cases hr : okP bx by'
  · go_wp2_with fail
    go_ret
    exact ⟨ret_bool (by rw [HV.out, hp, hq, hr]; rfl), b4⟩
  have GP := guard_pt
  have EP := fun w x y x' y' => eql_pt w x y x' y'
  have c1 := n4.1.c0; have c2 := n4.1.c1; have c3 := n4.2.c0; have c4 := n4.2.c1
  cases he : (ax == bx && ay == by')
  case true =>
    go_wp2_with fail
    go_ret
    exact ⟨ret_bool (by rw [HV.out, hp, hq, hr, he]; rfl), b4⟩
  have HVV : Hid (supV L (ax, ay) (bx, by') = supB L (ax, ay) (bx, by')) := by
    show _ = _
    rw [HV.out, hp, hq, hr, he]; rfl
  have HLH : Hid ((loT (supT L (ax, ay) (bx, by')) L.length == 0 || hiT (supT L (ax, ay) (bx, by')) L.length == 0) = supB L (ax, ay) (bx, by')) := lohi (supT_three L _ _) _
  have HCR : Hid (∀ k, k < L.length → ∀ w, Calls Try.prog 78 #[(.agg #[.int .i64 ax, .int .i64 ay]), (.agg #[.int .i64 bx, .int .i64 by']), (.agg #[.int .i64 (gt L k).1, .int .i64 (gt L k).2])] w fun e w' => e = .returned (.int .i64 (crossP (ax, ay) (bx, by') (gt L k))) ∧ Below w.heap.size w w') := fun k hk w => crossS_on _ _ _ _ _ _ w hq hr (all_at HOK.out hk)
  obtain ⟨g, rfl, -⟩ := HA4.out 0 (by omega)
  go_wp2_with fail
  clear c1 c2 c3 c4 EP GP he hq hr HV
  go_loopw [7, 8, 10, 11, 32] (fun lo hi _ _ i wr => ∃ k : Nat, k ≤ L.length ∧ i = .int .i64 k ∧ lo = .int .i64 (loT (supT L (ax, ay) (bx, by')) k) ∧ hi = .int .i64 (hiT (supT L (ax, ay) (bx, by')) k) ∧ Below w4.heap.size w4 wr) (fun _ _ _ _ i _ => L.length - (intOf i).toNat)
  case atStart => exact ⟨0, Nat.zero_le _, rfl, rfl, rfl, Below.refl _ _⟩
  case round =>
    obtain ⟨wo, rfl⟩ : ∃ wo : World, wo = wr := ⟨_, rfl⟩
    obtain ⟨k, hk, rfl, rfl, rfl, hb⟩ := hrel
    by_cases hlt : k < L.length
    · have HC := Lib.hid (HCR.out k hlt)
      have HLO : Hid (loT (supT L (ax, ay) (bx, by')) (k + 1) = minI (loT (supT L (ax, ay) (bx, by')) k) (supT L (ax, ay) (bx, by') k)) := rfl
      have HHI : Hid (hiT (supT L (ax, ay) (bx, by')) (k + 1) = maxI (hiT (supT L (ax, ay) (bx, by')) k) (supT L (ax, ay) (bx, by') k)) := rfl
      have HBE : Hid (supT L (ax, ay) (bx, by') k = sgn (crossP (ax, ay) (bx, by') (gt L k))) := rfl
      obtain ⟨d5, d6⟩ := gt_cells (ptsA_on HA4.out hb) hlt
      have n5 := n4.step hb
      generalize crossP (ax, ay) (bx, by') (gt L k) = C at *
      generalize (gt L k).1 = x at *
      generalize (gt L k).2 = y at *
      generalize loT (supT L (ax, ay) (bx, by')) k = lo at *
      generalize hiT (supT L (ax, ay) (bx, by')) k = hi at *
      have n6 := n5.alloc (.cells #[.int .i64 x, .int .i64 y] 27)
      have c1 := n6.1.c0; have c2 := n6.1.c1; have c3 := n6.2.c0; have c4 := n6.2.c1
      obtain ⟨c5, c6⟩ := cells1 wo x y 27
      have b5 := hb.alloc hb.size (.cells #[.int .i64 x, .int .i64 y] 27)
      clear hb n5 n6
      go_wp2_with fail
      refine (HC.out _).mono ?_
      rintro e w6 ⟨rfl, hb6⟩
      have b6 := below_on b5 hb6
      clear b5 hb6 c1 c2 c3 c4 c5 c6 d5 d6
      go_wp2_with fail
      refine (sign_any _ _).mono ?_
      rintro e w7 ⟨rfl, rfl⟩
      go_wp2_with fail
      go_roundw
      case rel => exact ⟨k + 1, by omega, by go_num, by rw [HLO.out, HBE.out], by rw [HHI.out, HBE.out], b6⟩
      case measure => simp [intOf]; omega
    · have e : k = L.length := by omega
      have HQ : Hid ((loT (supT L (ax, ay) (bx, by')) k == 0 || hiT (supT L (ax, ay) (bx, by')) k == 0) = supB L (ax, ay) (bx, by')) := by
        show _ = _
        rw [e]; exact HLH.out
      have b5 := below_on b4 hb
      clear e HLH hb b4
      generalize loT (supT L (ax, ay) (bx, by')) k = lo at *
      generalize hiT (supT L (ax, ay) (bx, by')) k = hi at *
      cases hlo : (lo == 0)
      all_goals (
        rw [hlo] at HQ
        go_wp2_with fail
        go_ret
        exact ⟨ret_bool (HQ.out.trans HVV.out.symm), b5⟩)
set_option maxRecDepth 100000 in
set_option maxHeartbeats 4000000 in
theorem impl_supp (A : Option Addr) (c : Nat) (L : List (Int × Int)) (ax ay bx by' : Int) (w : World) (hA : PtsA w A L) (hL : L.length ≤ 1048576) :
    Calls Try.prog 40 #[.slice A L.length c, (.agg #[.int .i64 ax, .int .i64 ay]), (.agg #[.int .i64 bx, .int .i64 by'])] w fun e w' => e = .returned (.bool (supV L (ax, ay) (bx, by'))) ∧ Below w.heap.size w w' := by
  obtain ⟨i0, hi0, hz0, hz1, hz2⟩ := info_parts infoInt
  have hb0 := below2 w (.cells #[.int .i64 ax, .int .i64 ay] 27) (.cells #[.int .i64 bx, .int .i64 by'] 27)
  have hA1 := ptsA_on hA hb0
  have HP := Lib.hid (impl_poly A c L _ hA1 hL)
  have HA := Lib.hid hA1
  have HN := Lib.hid (two0 w ax ay bx by' 27)
  have HB := Lib.hid hb0
  have HV : Hid (supV L (ax, ay) (bx, by') = (polyB L && ((okP ax ay && okP bx by') && (!(ax == bx && ay == by') && supB L (ax, ay) (bx, by'))))) := by
    show _ = _
    rw [Bool.and_assoc]; rfl
  clear hA hA1 hb0
  go_enter Try.func40, Try.ntmps40
  go_wp2_with fail
  generalize (w.alloc (.cells #[.int .i64 ax, .int .i64 ay] 27)).alloc (.cells #[.int .i64 bx, .int .i64 by'] 27) = w1 at *
  refine HP.out.mono ?_
  rintro e w2 ⟨rfl, hb⟩
  have n2 := HN.out.step hb
  have b2 := below_on HB.out hb
  have HA2 := Lib.hid (ptsA_on HA.out hb)
  clear hb HP HB HN HA
  cases hp : polyB L
  · go_wp2_with fail
    go_ret
    exact ⟨ret_bool (by rw [HV.out, hp]; rfl), b2⟩
  obtain ⟨q1, q2, q3⟩ := polyB_all hp
  have HOK := Lib.hid q3
  clear q3
  have HO := Lib.hid (all2 ax ay bx by')
  have c1 := n2.1.c0; have c2 := n2.1.c1; have c3 := n2.2.c0; have c4 := n2.2.c1
  have hw2 := below1 w2 (.cells #[.int .i64 ax, .int .i64 ay, .int .i64 bx, .int .i64 by'] 27)
  go_wp2_with fail
  refine (all_any _ _ [(ax, ay), (bx, by')] _ (pts2_new w2 ax ay bx by') (by simp) (by simp)).mono ?_
  rintro e w4 ⟨rfl, hb⟩
  have hb24 := below_on hw2 hb
  have n4 := n2.step hb24
  have b4 := below_on b2 hb24
  have HA4 := Lib.hid (ptsA_on HA2.out hb24)
  clear hb b2 n2 c1 c2 c3 c4 HA2 hw2 hb24
  cases hall : allOk [(ax, ay), (bx, by')]
  · go_wp2_with fail
    go_ret
    exact ⟨ret_bool (by rw [HV.out, hp, ← HO.out, hall]; rfl), b4⟩
  have hoo := HO.out.symm
  rw [hall] at hoo
  have hoo2 := hoo
  simp only [Bool.and_eq_true] at hoo2
  obtain ⟨hq, hr⟩ := hoo2
  have GP := guard_pt
  have EP := fun w x y x' y' => eql_pt w x y x' y'
  have c1 := n4.1.c0; have c2 := n4.1.c1; have c3 := n4.2.c0; have c4 := n4.2.c1
  cases he : (ax == bx && ay == by')
  case true =>
    go_wp2_with fail
    go_ret
    exact ⟨ret_bool (by rw [HV.out, hp, hoo, he]; rfl), b4⟩
  have HVV : Hid (supV L (ax, ay) (bx, by') = supB L (ax, ay) (bx, by')) := by
    show _ = _
    rw [HV.out, hp, hoo, he]; rfl
  have HCR : Hid (∀ k, ∀ w, Calls Try.prog 79 #[(.agg #[.int .i64 ax, .int .i64 ay]), (.agg #[.int .i64 bx, .int .i64 by']), (.agg #[.int .i64 (gt L k).1, .int .i64 (gt L k).2])] w fun e w' => e = .returned (.int .i64 (supT L (ax, ay) (bx, by') k)) ∧ Below w.heap.size w w') := fun k w => by
    have h := impl_side ax ay bx by' (gt L k).1 (gt L k).2 w
    rw [crossV_ok hq hr (gt_ok HOK.out k)] at h
    exact h
  obtain ⟨g, rfl, -⟩ := HA4.out 0 (by omega)
  go_wp2_with fail
  clear c1 c2 c3 c4 EP GP he hq hr HV hoo hall HO HOK
  go_loopw [7, 9, 27] (fun s _ i wr => ∃ (k : Nat) (M : List Int), k ≤ L.length ∧ i = .int .i64 k ∧ Hid (M = (List.range k).map (supT L (ax, ay) (bx, by'))) ∧ wr.ownsRow w4.heap.size 3 1 s M.length (ints M) ∧ Below w4.heap.size w4 wr) (fun _ _ i _ => L.length - (intOf i).toNat)
  case atStart => exact ⟨0, [], Nat.zero_le _, rfl, rfl, World.ownsRow_nil _ _ _ _, Below.refl _ _⟩
  case round =>
    obtain ⟨wo, rfl⟩ : ∃ wo : World, wo = wr := ⟨_, rfl⟩
    obtain ⟨k, M, hk, rfl, HM, own, hb⟩ := hrel
    by_cases hlt : k < L.length
    · have HC := Lib.hid (HCR.out k)
      have HM2 : Hid (M ++ [supT L (ax, ay) (bx, by') k] = (List.range (k + 1)).map (supT L (ax, ay) (bx, by'))) := by
        show _ = _
        rw [HM.out, List.range_succ]; simp
      have hML : M.length ≤ 10 := by rw [HM.out]; simp; omega
      clear HM
      obtain ⟨d5, d6⟩ := gt_cells (ptsA_on HA4.out hb) hlt
      have n5 := n4.step hb
      generalize supT L (ax, ay) (bx, by') k = sg at *
      generalize (gt L k).1 = x at *
      generalize (gt L k).2 = y at *
      have n6 := n5.alloc (.cells #[.int .i64 x, .int .i64 y] 27)
      have c1 := n6.1.c0; have c2 := n6.1.c1; have c3 := n6.2.c0; have c4 := n6.2.c1
      obtain ⟨c5, c6⟩ := cells1 wo x y 27
      have b5 := hb.alloc hb.size (.cells #[.int .i64 x, .int .i64 y] 27)
      have own5 := own.alloc (.cells #[.int .i64 x, .int .i64 y] 27)
      clear hb n5 n6 own
      go_wp2_with fail
      refine (HC.out _).mono ?_
      rintro e w6 ⟨rfl, hb6⟩
      have b6 := below_on b5 hb6
      have own6 := own_below own5 hb6
      have hs6 := b6.size
      clear b5 hb6 c1 c2 c3 c4 c5 c6 d5 d6 own5
      go_wp2_with (at_builtin; refine wpList_append_own _ rfl _ _ 71 rfl w4.heap.size 3 i0 (.int .i64 0) 1 8 Try.underlying71 hi0 hz0 hz1 hz2 rfl (by decide) _ _ _ rfl (own6.alloc _) ⟨w6.heap.size, 0, none⟩ 1 1 [.int .i64 sg] rfl rfl ?d1 ?d2 ?d3 ?d4 ?d5 ?_)
      case d1 => exact World.news_of_block (cs := #[.int .i64 sg]) (t := 3) (fr := (0, 0)) (heap_alloc_new w6 _)
      case d2 => simp [Value.oneCell']
      case d3 => unfold maxLen; omega
      case d4 => omega
      case d5 => simp; omega
      intro v' w7 own7 hgrow _
      have hrw := fun k hk => (own6.lt k hk).1
      have R : Hid (w7.ownsRow w4.heap.size 3 1 v' (M ++ [sg]).length (ints (M ++ [sg])) ∧ Below w4.heap.size w4 w7) :=
        ⟨by rw [ints_snoc, List.length_append]; exact own7, (b6.alloc hs6 _).grown hgrow (by simp; omega) hrw⟩
      clear own6 own7 hgrow b6 hrw
      go_wp2_with fail
      go_roundw
      case rel => exact ⟨k + 1, M ++ [sg], by omega, by go_num, HM2, R.out.1, R.out.2⟩
      case measure => simp [intOf]; omega
    · have e : k = L.length := by omega
      have HQ : Hid (supB L (ax, ay) (bx, by') = !(bothB M)) := by
        show _ = _
        rw [HM.out, e]; rfl
      have hML : M.length ≤ 1048576 := by rw [HM.out]; simp; omega
      have b5 := below_on b4 hb
      obtain ⟨_, A2, c2, rfl, p2⟩ := own_ints own
      have HH := Lib.hid (both_any A2 c2 M wo p2 hML)
      clear e hb b4 HM own p2
      go_wp2_with fail
      refine HH.out.mono ?_
      rintro e w7 ⟨rfl, rfl⟩
      go_wp2_with fail
      go_ret
      exact ⟨ret_bool (by rw [HVV.out, HQ.out]), b5⟩
end Go.Proofs.Ytplccidmedkfaaa
