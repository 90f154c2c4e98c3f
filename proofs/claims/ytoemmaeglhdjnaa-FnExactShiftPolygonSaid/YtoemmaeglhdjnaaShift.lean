/-
  ShiftPolygon of both programs.
-/
import Derived.Test.YtoemmaeglhdjnaaMoveS
import Derived.Test.YtoemmaeglhdjnaaFloat
namespace Go.Proofs.Ytoemmaeglhdjnaa
open Go.RowKit
attribute [local go_sem] quietB uponB

def up (x y : Int) (p : Pt) : Pt := (p.1 + x, p.2 + y)
def shiftL (L : List Pt) (x y : Int) : List Pt := L.map (up x y)
def shiftOk (L : List Pt) (x y : Int) : Bool := bif polyB L && (inB x (-40) 40 && inB y (-40) 40) then polyB (shiftL L x y) else false
def shiftV (L : List Pt) (x y : Int) : List Pt := bif shiftOk L x y then shiftL L x y else []
def ListsB (w : World) (M : List Pt) (b : Bool) (e : Ending) (w' : World) : Prop := ∃ v, e = .returned (.tuple #[v, .bool b]) ∧ w'.ownsRow w.heap.size 56 2 v M.length (flat M) ∧ Below w.heap.size w w'
theorem shift_no {L : List Pt} {x y : Int} (h : shiftOk L x y = false) : shiftV L x y = [] := by unfold shiftV; rw [h]; rfl
theorem plus_any (ax ay bx by' : Int) (w : World) :
    Calls Try.prog 70 #[(.agg #[.int .i64 ax, .int .i64 ay]), (.agg #[.int .i64 bx, .int .i64 by'])] w fun e w' => e = .returned (.agg #[.int .i64 (wrap64 (ax + bx)), .int .i64 (wrap64 (ay + by'))]) ∧ Below w.heap.size w w' := by
  go_enter Try.func70, Try.ntmps70
  go_wp2_with fail
  go_returns
  exact ⟨rfl, below3 _ _ _ _⟩
set_option maxRecDepth 100000 in
set_option maxHeartbeats 2000000 in
theorem spec_shift (A : Option Addr) (c : Nat) (L : List Pt) (x y : Int) (w : World) (hA : PtsA w A L) (hL : L.length ≤ 1048576) :
    Calls Try.prog 29 #[.slice A L.length c, .int .i64 x, .int .i64 y] w (ListsB w (shiftV L x y) (shiftOk L x y)) := by
  have PC := Lib.hid (spec_poly A c L w hA hL)
  have HV : Hid (shiftOk L x y = bif polyB L && (inB x (-40) 40 && inB y (-40) 40) then polyB (shiftL L x y) else false) := rfl
  cases hp : polyB L
  · rw [hp] at PC
    have HN : Hid (shiftOk L x y = false) := by
      show _ = _
      rw [HV.out, hp]; rfl
    rw [shift_no HN.out, HN.out]
    clear hA
    go_enter Try.func29, Try.ntmps29
    go_wp2_with fail
    refine PC.out.mono ?_
    rintro e w1 ⟨rfl, hb1⟩
    go_wp2_with fail
    go_ret2
    exact ⟨_, rfl, World.ownsRow_nil _ _ _ _, hb1⟩
  rw [hp] at PC
  cases hx : inB x (-40) 40
  · have HN : Hid (shiftOk L x y = false) := by
      show _ = _
      rw [HV.out, hx, Bool.false_and, Bool.and_false]; rfl
    rw [shift_no HN.out, HN.out]
    clear hA
    go_enter Try.func29, Try.ntmps29
    go_wp2_with fail
    refine PC.out.mono ?_
    rintro e w1 ⟨rfl, hb1⟩
    go_wp2_with fail
    refine (in_any _ _ _ _).mono ?_
    rintro e w2 ⟨rfl, rfl⟩
    rw [hx]
    go_wp2_with fail
    go_ret2
    exact ⟨_, rfl, World.ownsRow_nil _ _ _ _, hb1⟩
  cases hy : inB y (-40) 40
  · have HN : Hid (shiftOk L x y = false) := by
      show _ = _
      rw [HV.out, hy, Bool.and_false, Bool.and_false]; rfl
    rw [shift_no HN.out, HN.out]
    clear hA
    go_enter Try.func29, Try.ntmps29
    go_wp2_with fail
    refine PC.out.mono ?_
    rintro e w1 ⟨rfl, hb1⟩
    go_wp2_with fail
    refine (in_any _ _ _ _).mono ?_
    rintro e w2 ⟨rfl, rfl⟩
    rw [hx]
    go_wp2_with fail
    refine (in_any _ _ _ _).mono ?_
    rintro e w2 ⟨rfl, rfl⟩
    rw [hy]
    go_wp2_with fail
    go_ret2
    exact ⟨_, rfl, World.ownsRow_nil _ _ _ _, hb1⟩
  obtain ⟨h3, h10, hok⟩ := polyB_all hp
  have HV2 : Hid (shiftOk L x y = polyB (shiftL L x y)) := by
    show _ = _
    rw [HV.out, hp, hx, hy]; rfl
  have bx := inB_spec.1 hx
  have by' := inB_spec.1 hy
  obtain ⟨i0, hi0, hz0, hz1, hz2⟩ := info_parts infoPt
  obtain ⟨g, rfl, -⟩ := hA 0 (by omega)
  have HA := Lib.hid hA
  have HOK := Lib.hid (fun k (h : k < L.length) => okP_bounds (all_at hok h))
  have HP := Lib.hid (fun A c w hq => spec_poly A c (shiftL L x y) w hq (by simp [shiftL]; omega))
  have hsl : (shiftL L x y).length = L.length := by simp [shiftL]
  rw [hsl] at HP
  clear hA hok HV hL hsl
  go_enter Try.func29, Try.ntmps29
  go_wp2_with fail
  refine PC.out.mono ?_
  rintro e w1 ⟨rfl, hb1⟩
  go_wp2_with fail
  refine (in_any _ _ _ _).mono ?_
  rintro e w2 ⟨rfl, rfl⟩
  rw [hx]
  go_wp2_with fail
  refine (in_any _ _ _ _).mono ?_
  rintro e w3 ⟨rfl, rfl⟩
  rw [hy]
  clear PC hp
  have own0 := own_base (World.ownsRow_lit (base := w3.heap.size) (e := 56) (size := 2) w3 #[] 0 (Nat.le_refl _) (by unfold maxLen; omega) (by rfl)) hb1.size
  have b0 := below_on hb1 (below1 w3 (.cells #[] 56))
  clear hb1
  go_wp2_with fail
  go_loopw [8, 10, 27] (fun s _ i wr => ∃ (k : Nat) (M : List (Int × Int)), k ≤ L.length ∧ i = .int .i64 k ∧ Hid (M = (L.take k).map (up x y)) ∧ wr.ownsRow w.heap.size 56 2 s M.length (flat M) ∧ Below w.heap.size w wr) (fun _ _ i _ => L.length - (intOf i).toNat)
  case atStart => exact ⟨0, [], Nat.zero_le _, rfl, rfl, own0, b0⟩
  case round =>
    clear own0 b0
    obtain ⟨wo, rfl⟩ : ∃ wo : World, wo = wr := ⟨_, rfl⟩
    obtain ⟨k, M, hk, rfl, HM, own, hb⟩ := hrel
    by_cases hlt : k < L.length
    · have HM2 : Hid (M ++ [((gt L k).1 + x, (gt L k).2 + y)] = (L.take (k + 1)).map (up x y)) := by
        show _ = _
        rw [map_step hlt, HM.out]; rfl
      have hML : M.length ≤ 10 := by rw [HM.out, map_len hk]; omega
      clear HM
      obtain ⟨d5, d6⟩ := gt_cells (ptsA_on HA.out hb) hlt
      have hbd := HOK.out k hlt
      generalize (gt L k).1 = u at *
      generalize (gt L k).2 = v at *
      have f1 : wrap64 (u + x) = u + x := IntWalk.wrap64_in _ (by omega)
      have f2 : wrap64 (v + y) = v + y := IntWalk.wrap64_in _ (by omega)
      have n6 := at_new wo u v 56
      have c5 := n6.c0; have c6 := n6.c1
      have b6 := hb.alloc hb.size (.cells #[.int .i64 u, .int .i64 v] 56)
      have own6 := own.alloc (.cells #[.int .i64 u, .int .i64 v] 56)
      have hs6 := hb.size
      clear hb own hbd n6
      go_wp2_with (at_builtin; refine wpList_append_own _ rfl _ _ 27 rfl w.heap.size 56 i0 (.agg #[.int .i64 0, .int .i64 0]) 2 16 Try.underlying27 hi0 hz0 hz1 hz2 rfl (by decide) _ _ _ rfl (own6.alloc _) ⟨wo.heap.size + 1, 0, none⟩ 1 1 [.int .i64 (u + x), .int .i64 (v + y)] rfl rfl ?d1 ?d2 ?d3 ?d4 ?d5 ?_)
      case d1 => exact World.news_of_block (cs := #[.int .i64 (u + x), .int .i64 (v + y)]) (t := 56) (fr := (0, 0)) (by have := heap_alloc_new (wo.alloc (.cells #[.int .i64 u, .int .i64 v] 56)) (.cells #[.int .i64 (u + x), .int .i64 (v + y)] 56); rwa [size_alloc] at this)
      case d2 => simp [Value.oneCell']
      case d3 => unfold maxLen; omega
      case d4 => omega
      case d5 => simp; omega
      intro v' w8 own8 hgrow _
      have hrw := fun k hk => (own6.lt k hk).1
      have R : Hid (w8.ownsRow w.heap.size 56 2 v' (M ++ [(u + x, v + y)]).length (flat (M ++ [(u + x, v + y)])) ∧ Below w.heap.size w w8) :=
        ⟨by rw [flat_append, List.length_append]; exact own8, (b6.alloc b6.size _).grown hgrow (by simp; omega) hrw⟩
      clear own6 own8 hgrow b6 hrw c5 c6 d5 d6 f1 f2
      go_wp2_with fail
      go_roundw
      case rel => exact ⟨k + 1, M ++ [(u + x, v + y)], by omega, by go_num, HM2, R.out.1, R.out.2⟩
      case measure => simp [intOf]; omega
    · have e : k = L.length := by omega
      have HQ : Hid (M = shiftL L x y) := by
        show _ = _
        rw [HM.out, e, List.take_length]; rfl
      have hMl : M.length = L.length := by rw [HQ.out]; simp [shiftL]
      obtain ⟨_, A1, c1, rfl, p1⟩ := own_pts own
      rw [HQ.out] at p1
      have HC := Lib.hid (HP.out A1 c1 wo p1)
      have HO := Lib.hid own
      rw [hMl]
      clear HM e own p1
      cases hq : polyB (shiftL L x y)
      · rw [hq] at HC
        have HN : Hid (shiftOk L x y = false) := by
          show _ = _
          rw [HV2.out, hq]
        clear hMl HO
        go_wp2_with fail
        refine HC.out.mono ?_
        rintro e w8 ⟨rfl, hb8⟩
        have b8 := below_on hb hb8
        go_wp2_with fail
        go_ret2
        show ListsB _ _ _ _ _
        rw [shift_no HN.out, HN.out]
        exact ⟨_, rfl, World.ownsRow_nil _ _ _ _, b8⟩
      · rw [hq] at HC
        have HN : Hid (shiftOk L x y = true) := by
          show _ = _
          rw [HV2.out, hq]
        have HE : Hid (shiftV L x y = M) := by
          show _ = _
          rw [HQ.out, shiftV, HN.out]; rfl
        rw [hMl] at HO
        clear hq
        go_wp2_with fail
        refine HC.out.mono ?_
        rintro e w8 ⟨rfl, hb8⟩
        have b8 := below_on hb hb8
        have own8 := own_below HO.out hb8
        clear hb hb8
        go_wp2_with fail
        go_ret2
        show ListsB _ _ _ _ _
        rw [HE.out, HN.out]
        exact ⟨_, rfl, by rw [hMl]; exact own8, b8⟩
set_option maxRecDepth 100000 in
set_option maxHeartbeats 2000000 in
theorem impl_shift (A : Option Addr) (c : Nat) (L : List Pt) (x y : Int) (w : World) (hA : PtsA w A L) (hL : L.length ≤ 1048576) :
    Calls Try.prog 30 #[.slice A L.length c, .int .i64 x, .int .i64 y] w (ListsB w (shiftV L x y) (shiftOk L x y)) := by
  have PC := Lib.hid (impl_poly A c L w hA hL)
  have HV : Hid (shiftOk L x y = bif polyB L && (inB x (-40) 40 && inB y (-40) 40) then polyB (shiftL L x y) else false) := rfl
  cases hp : polyB L
  · rw [hp] at PC
    have HN : Hid (shiftOk L x y = false) := by
      show _ = _
      rw [HV.out, hp]; rfl
    rw [shift_no HN.out, HN.out]
    clear hA
    go_enter Try.func30, Try.ntmps30
    go_wp2_with fail
    refine PC.out.mono ?_
    rintro e w1 ⟨rfl, hb1⟩
    go_wp2_with fail
    go_ret2
    exact ⟨_, rfl, World.ownsRow_nil _ _ _ _, hb1⟩
  rw [hp] at PC
  cases hx : inB x (-40) 40
  · have HN : Hid (shiftOk L x y = false) := by
      show _ = _
      rw [HV.out, hx, Bool.false_and, Bool.and_false]; rfl
    rw [shift_no HN.out, HN.out]
    clear hA
    go_enter Try.func30, Try.ntmps30
    go_wp2_with fail
    refine PC.out.mono ?_
    rintro e w1 ⟨rfl, hb1⟩
    go_wp2_with fail
    refine (from_any _ _ _ _).mono ?_
    rintro e w2 ⟨rfl, rfl⟩
    rw [hx]
    go_wp2_with fail
    go_ret2
    exact ⟨_, rfl, World.ownsRow_nil _ _ _ _, hb1⟩
  cases hy : inB y (-40) 40
  · have HN : Hid (shiftOk L x y = false) := by
      show _ = _
      rw [HV.out, hy, Bool.and_false, Bool.and_false]; rfl
    rw [shift_no HN.out, HN.out]
    clear hA
    go_enter Try.func30, Try.ntmps30
    go_wp2_with fail
    refine PC.out.mono ?_
    rintro e w1 ⟨rfl, hb1⟩
    go_wp2_with fail
    refine (from_any _ _ _ _).mono ?_
    rintro e w2 ⟨rfl, rfl⟩
    rw [hx]
    go_wp2_with fail
    refine (from_any _ _ _ _).mono ?_
    rintro e w2 ⟨rfl, rfl⟩
    rw [hy]
    go_wp2_with fail
    go_ret2
    exact ⟨_, rfl, World.ownsRow_nil _ _ _ _, hb1⟩
  obtain ⟨h3, h10, hok⟩ := polyB_all hp
  have HV2 : Hid (shiftOk L x y = polyB (shiftL L x y)) := by
    show _ = _
    rw [HV.out, hp, hx, hy]; rfl
  have bx := inB_spec.1 hx
  have by' := inB_spec.1 hy
  obtain ⟨i0, hi0, hz0, hz1, hz2⟩ := info_parts infoPt
  obtain ⟨g, rfl, -⟩ := hA 0 (by omega)
  have HA := Lib.hid hA
  have HOK := Lib.hid (fun k (h : k < L.length) => okP_bounds (all_at hok h))
  have HP := Lib.hid (fun A c w hq => impl_poly A c (shiftL L x y) w hq (by simp [shiftL]; omega))
  have hsl : (shiftL L x y).length = L.length := by simp [shiftL]
  rw [hsl] at HP
  clear hA hok HV hL hsl
  go_enter Try.func30, Try.ntmps30
  go_wp2_with fail
  refine PC.out.mono ?_
  rintro e w1 ⟨rfl, hb1⟩
  go_wp2_with fail
  refine (from_any _ _ _ _).mono ?_
  rintro e w2 ⟨rfl, rfl⟩
  rw [hx]
  go_wp2_with fail
  refine (from_any _ _ _ _).mono ?_
  rintro e w3 ⟨rfl, rfl⟩
  rw [hy]
  clear PC hp
  have own0 := World.ownsRow_nil w3 w.heap.size 56 2
  go_wp2_with fail
  go_loopw [8, 10, 26] (fun s _ i wr => ∃ (k : Nat) (M : List (Int × Int)), k ≤ L.length ∧ i = .int .i64 k ∧ Hid (M = (L.take k).map (up x y)) ∧ wr.ownsRow w.heap.size 56 2 s M.length (flat M) ∧ Below w.heap.size w wr) (fun _ _ i _ => L.length - (intOf i).toNat)
  case atStart => exact ⟨0, [], Nat.zero_le _, rfl, rfl, own0, hb1⟩
  case round =>
    clear own0 hb1
    obtain ⟨wo, rfl⟩ : ∃ wo : World, wo = wr := ⟨_, rfl⟩
    obtain ⟨k, M, hk, rfl, HM, own, hb⟩ := hrel
    by_cases hlt : k < L.length
    · have HM2 : Hid (M ++ [((gt L k).1 + x, (gt L k).2 + y)] = (L.take (k + 1)).map (up x y)) := by
        show _ = _
        rw [map_step hlt, HM.out]; rfl
      have hML : M.length ≤ 10 := by rw [HM.out, map_len hk]; omega
      clear HM
      obtain ⟨d5, d6⟩ := gt_cells (ptsA_on HA.out hb) hlt
      have hbd := HOK.out k hlt
      generalize (gt L k).1 = u at *
      generalize (gt L k).2 = v at *
      have HPL := Lib.hid (fun w => plus_any u v x y w)
      have e1 : wrap64 (u + x) = u + x := IntWalk.wrap64_in _ (by omega)
      have e2 : wrap64 (v + y) = v + y := IntWalk.wrap64_in _ (by omega)
      rw [e1, e2] at HPL
      have n6 := at_new wo u v 56
      have c5 := n6.c0; have c6 := n6.c1
      have k5 := cell_regrown c5; have k6 := cell_regrown c6
      have b6 := hb.alloc hb.size (.cells #[.int .i64 u, .int .i64 v] 56)
      have own6 := own.alloc (.cells #[.int .i64 u, .int .i64 v] 56)
      clear hb own hbd n6 e1 e2
      go_wp2_with fail
      refine (HPL.out _).mono ?_
      rintro e w7 ⟨rfl, hb7⟩
      replace b6 := below_on b6 hb7
      replace own6 := own_below own6 hb7
      clear hb7 k5 k6 c5 c6 d5 d6 HPL
      generalize u + x = rx at *
      generalize v + y = ry at *
      have hs6 := b6.size
      go_wp2_with (at_builtin; refine wpList_append_own _ rfl _ _ 27 rfl w.heap.size 56 i0 (.agg #[.int .i64 0, .int .i64 0]) 2 16 Try.underlying27 hi0 hz0 hz1 hz2 rfl (by decide) _ _ _ rfl (own6.alloc _) ⟨w7.heap.size, 0, none⟩ 1 1 [.int .i64 rx, .int .i64 ry] rfl rfl ?d1 ?d2 ?d3 ?d4 ?d5 ?_)
      case d1 => exact World.news_of_block (cs := #[.int .i64 rx, .int .i64 ry]) (t := 56) (fr := (0, 0)) (heap_alloc_new w7 _)
      case d2 => simp [Value.oneCell']
      case d3 => unfold maxLen; omega
      case d4 => omega
      case d5 => simp; omega
      intro v' w8 own8 hgrow _
      have hrw := fun k hk => (own6.lt k hk).1
      have R : Hid (w8.ownsRow w.heap.size 56 2 v' (M ++ [(rx, ry)]).length (flat (M ++ [(rx, ry)])) ∧ Below w.heap.size w w8) :=
        ⟨by rw [flat_append, List.length_append]; exact own8, (b6.alloc b6.size _).grown hgrow (by simp; omega) hrw⟩
      clear own6 own8 hgrow b6 hrw 
      go_wp2_with fail
      go_roundw
      case rel => exact ⟨k + 1, M ++ [(rx, ry)], by omega, by go_num, HM2, R.out.1, R.out.2⟩
      case measure => simp [intOf]; omega
    · have e : k = L.length := by omega
      have HQ : Hid (M = shiftL L x y) := by
        show _ = _
        rw [HM.out, e, List.take_length]; rfl
      have hMl : M.length = L.length := by rw [HQ.out]; simp [shiftL]
      obtain ⟨_, A1, c1, rfl, p1⟩ := own_pts own
      rw [HQ.out] at p1
      have HC := Lib.hid (HP.out A1 c1 wo p1)
      have HO := Lib.hid own
      rw [hMl]
      clear HM e own p1
      cases hq : polyB (shiftL L x y)
      · rw [hq] at HC
        have HN : Hid (shiftOk L x y = false) := by
          show _ = _
          rw [HV2.out, hq]
        clear hMl HO
        go_wp2_with fail
        refine HC.out.mono ?_
        rintro e w8 ⟨rfl, hb8⟩
        have b8 := below_on hb hb8
        go_wp2_with fail
        go_ret2
        show ListsB _ _ _ _ _
        rw [shift_no HN.out, HN.out]
        exact ⟨_, rfl, World.ownsRow_nil _ _ _ _, b8⟩
      · rw [hq] at HC
        have HN : Hid (shiftOk L x y = true) := by
          show _ = _
          rw [HV2.out, hq]
        have HE : Hid (shiftV L x y = M) := by
          show _ = _
          rw [HQ.out, shiftV, HN.out]; rfl
        rw [hMl] at HO
        clear hq
        go_wp2_with fail
        refine HC.out.mono ?_
        rintro e w8 ⟨rfl, hb8⟩
        have b8 := below_on hb hb8
        have own8 := own_below HO.out hb8
        clear hb hb8
        go_wp2_with fail
        go_ret2
        show ListsB _ _ _ _ _
        rw [HE.out, HN.out]
        exact ⟨_, rfl, by rw [hMl]; exact own8, b8⟩
end Go.Proofs.Ytoemmaeglhdjnaa
