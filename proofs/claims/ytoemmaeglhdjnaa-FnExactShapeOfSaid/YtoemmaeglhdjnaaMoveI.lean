/-
  MovePolygon of the program.
-/
import Derived.Test.YtoemmaeglhdjnaaMoveS
import Derived.Test.YtoemmaeglhdjnaaMotD
namespace Go.Proofs.Ytoemmaeglhdjnaa
open Go.RowKit
attribute [local go_sem] quietB uponB

set_option maxRecDepth 100000 in
set_option maxHeartbeats 4000000 in
theorem impl_move (A : Option Addr) (c : Nat) (L : List Pt) (m : Int) (w : World) (hA : PtsA w A L) (hL : L.length ≤ 1048576) :
    Calls Try.prog 27 #[.slice A L.length c, .int .i64 m] w (Lists w (moveV L m)) := by
  have PC := Lib.hid (impl_box A c L w hA hL)
  have HV : Hid (moveV L m = bif polyB L && inB m 0 7 then moveL L m.toNat else []) := rfl
  cases hp : polyB L
  · have HR : Hid (boxR L = .tuple #[.agg #[.int .i64 0, .int .i64 0], .agg #[.int .i64 0, .int .i64 0], .bool false]) := by
      show _ = _
      rw [boxR, hp]; rfl
    rw [HR.out] at PC
    have HE : Hid (moveV L m = []) := by
      show _ = _
      rw [HV.out, hp]; rfl
    rw [HE.out]
    clear hA
    go_enter Try.func27, Try.ntmps27
    go_wp2_with fail
    refine PC.out.mono ?_
    rintro e w1 ⟨rfl, hb1⟩
    go_wp2_with fail
    go_ret
    exact ⟨_, rfl, World.ownsRow_nil _ _ _ _, below_on hb1 (below2 w1 _ _)⟩
  obtain ⟨h3, h10, hok⟩ := polyB_all hp
  obtain ⟨lo, hlo⟩ : ∃ lo, lo = (boxTill L L.length).1 := ⟨_, rfl⟩
  obtain ⟨hi, hhi⟩ : ∃ hi, hi = (boxTill L L.length).2 := ⟨_, rfl⟩
  have HR : Hid (boxR L = .tuple #[.agg #[.int .i64 lo.1, .int .i64 lo.2], .agg #[.int .i64 hi.1, .int .i64 hi.2], .bool true]) := by
    show _ = _
    rw [boxR, hp, hlo, hhi]; rfl
  rw [HR.out] at PC
  cases hm : inB m 0 7
  · have HE : Hid (moveV L m = []) := by
      show _ = _
      rw [HV.out, hm, Bool.and_false]; rfl
    rw [HE.out]
    clear hA
    go_enter Try.func27, Try.ntmps27
    go_wp2_with fail
    refine PC.out.mono ?_
    rintro e w1 ⟨rfl, hb1⟩
    go_wp2_with fail
    refine (isMotion_any _ _).mono ?_
    rintro e w2 ⟨rfl, rfl⟩
    go_wp2_with fail
    go_ret
    exact ⟨_, rfl, World.ownsRow_nil _ _ _ _, below_on hb1 (below2 w1 _ _)⟩
  have h1 := inB_spec.1 hm
  obtain ⟨k, rfl⟩ : ∃ k : Nat, m = k := ⟨m.toNat, by omega⟩
  have hk8 : k < 8 := by omega
  have HE : Hid (moveV L k = moveL L k) := by
    show _ = _
    rw [HV.out, hp, hm]; simp
  rw [HE.out]
  clear HV HE HR
  -- the bounds of what is moved
  have hlow := low_mot hk8 (L := L) (by omega)
  rw [← hlo, ← hhi] at hlow
  have bl : -40 ≤ lo.1 ∧ lo.1 ≤ 40 ∧ -40 ≤ lo.2 ∧ lo.2 ≤ 40 := by
    obtain ⟨⟨i, hi, e1⟩, ⟨j, hj, e2⟩⟩ := box_at (L := L) L.length (Nat.le_refl _) (by omega)
    rw [← hlo] at e1 e2
    have := okP_bounds (all_at hok hi)
    have := okP_bounds (all_at hok hj)
    omega
  have bh : -40 ≤ hi.1 ∧ hi.1 ≤ 40 ∧ -40 ≤ hi.2 ∧ hi.2 ≤ 40 := by
    have h := box_le (L := L) L.length (Nat.le_refl _) 0 (.inr rfl)
    have hu := box_hi (L := L) hok L.length (Nat.le_refl _) (by omega)
    rw [← hhi] at h hu
    have := okP_bounds (all_at hok (show 0 < L.length by omega))
    omega
  clear hlo hhi
  have HF : ∀ x w, Sem.run Try.prog (callFunc (motF k) #[x]) w = .ok (.enter (motF k) #[x]) w := fun x w => enter_mot k hk8 x w
  have M1 := Lib.hid (fun w => motF_any lo.1 lo.2 k w hk8 (by omega))
  have M2 := Lib.hid (fun w => motF_any hi.1 hi.2 k w hk8 (by omega))
  have e1 : ((lo.1, lo.2) : Pt) = lo := rfl
  have e2 : ((hi.1, hi.2) : Pt) = hi := rfl
  rw [e1] at M1
  rw [e2] at M2
  have HAP := Lib.hid (fun (i : Nat) (h : i < L.length) (w : World) => motF_any (gt L i).1 (gt L i).2 k w hk8 (by have := okP_bounds (all_at hok h); omega))
  have HBD := Lib.hid (bd_mot hok hk8)
  have HMV : Hid (moveL L k = (L.map (mot k)).map (dn (minI (mot k lo).1 (mot k hi).1, minI (mot k lo).2 (mot k hi).2))) := by
    show _ = _
    rw [← hlow]; rfl
  have HLB : Hid (-40 ≤ minI (mot k lo).1 (mot k hi).1 ∧ minI (mot k lo).1 (mot k hi).1 ≤ 40 ∧ -40 ≤ minI (mot k lo).2 (mot k hi).2 ∧ minI (mot k lo).2 (mot k hi).2 ≤ 40) := by
    have := mot_bd hk8 bl
    have := mot_bd hk8 bh
    simp only [minI_eq]
    exact ⟨by omega, by omega, by omega, by omega⟩
  have HIX : ∀ w, (Instr.index 79 (.agg motA) (.int .i64 (k : Int))).run Try.prog w = .ok (.func (.func (motF k)) #[] #[]) w := fun w => idx_mot k hk8 w
  clear hlow bl bh e1 e2
  generalize motF k = F at *
  generalize mot k lo = p at *
  generalize mot k hi = q at *
  generalize lo.1 = lx at *
  generalize lo.2 = ly at *
  generalize hi.1 = hx at *
  generalize hi.2 = hy at *
  generalize p.1 = px at *
  generalize p.2 = py at *
  generalize q.1 = qx at *
  generalize q.2 = qy at *
  clear p q lo hi
  have hmin : ∀ (w : World) (x y : Int) (ts : Array TypeId) (t : TypeId), (Builtin.min_ ts t #[.int .i64 x, .int .i64 y]).run Try.prog w = .ok (.int .i64 (minI x y)) w := run_minI
  obtain ⟨g, rfl, -⟩ := hA 0 (by omega)
  have HA := Lib.hid hA
  have hn1 : (0 : Int) < (L.length : Int) := by omega
  have HH := Lib.hid (And.intro h3 h10)
  clear hA hok h3 h10 hp h1 hL
  go_enter Try.func27, Try.ntmps27
  go_wp2_with fail
  refine PC.out.mono ?_
  rintro e w1 ⟨rfl, hb1⟩
  clear PC
  go_wp2_with fail
  refine (isMotion_any _ _).mono ?_
  rintro e w2 ⟨rfl, rfl⟩
  rw [hm]
  go_wp2_with fail
  refine (motions_any _).mono ?_
  rintro e w3 ⟨rfl, hb3⟩
  go_wp2_with fail
  have t3 := (two0 w1 lx ly hx hy 56).step hb3
  have b3 := below_on (below_on hb1 (below2 w1 _ _)) hb3
  have c1 := t3.1.c0; have c2 := t3.1.c1; have c3 := t3.2.c0; have c4 := t3.2.c1
  have k1 := cell_regrown c1; have k2 := cell_regrown c2; have k3 := cell_regrown c3; have k4 := cell_regrown c4
  clear hb1 hb3 t3
  refine region_float2 6 (.cells #[.int .i64 0, .int .i64 0] 56) 9 10 (by kernel_rfl) (by kernel_rfl) (by kernel_rfl) (by kernel_rfl) (fun i o h1 h2 => by rcases (show i = 6 ∨ i = 7 by omega) with rfl | rfl <;> exact alloc_run (by kernel_rfl) allocPt o) ?_
  simp only [List.take_succ_cons, List.take_zero, List.drop_succ_cons, List.drop_zero]
  repeat (
    refine wpQuietB_step (fun K hK => ?_)
    go_simp
    first
      | (refine hK _ ?_; clear hK K)
      | (apply Exists.intro
         refine ⟨fun _ => ?_, hK _ ?_⟩
         ((first | exact Calls.now (M1.out _) | exact Calls.now (M2.out _)))
         clear hK K))
  refine wpQuietB_nil ?_
  intro g1 g2 w5 hb5 hg1 hg2 hne ho1 ho2
  clear k1 k2 k3 k4 c1 c2 c3 c4 M1 M2
  have b5 := below_on b3 hb5
  have ag1 : At w5 g1 0 0 56 := ho1
  have ag2 : At w5 g2 0 0 56 := ho2
  have hs3 := b3.size
  have hwg1 : w.heap.size ≤ g1 := by omega
  have hwg2 : w.heap.size ≤ g2 := by omega
  have v1 := ag1.c0; have v2 := ag1.c1; have f1 := at_frozen ag1 0; have f2 := at_frozen ag1 1
  have v3 := (at_store ag1 px 0).c1
  have s1 := at_store1 (at_store ag1 px 0) py
  have s2 := at_set (at_set ag2 (b := g1) (Ne.symm hne) 0 (.int .i64 px)) (b := g1) (Ne.symm hne) 1 (.int .i64 py)
  have v4 := s2.c0; have v5 := s2.c1; have f3 := at_frozen s2 0; have f4 := at_frozen s2 1
  have v6 := (at_store s2 qx 0).c1
  have s3 := at_store1 (at_store s2 qx 0) qy
  have s4 := at_set (at_set s1 (b := g2) hne 0 (.int .i64 qx)) (b := g2) hne 1 (.int .i64 qy)
  have v7 := s3.c0; have v8 := s3.c1; have v9 := s4.c0; have v10 := s4.c1
  have b6 := (((b5.setCell (p := ⟨g1, 0, none⟩) hwg1 (.int .i64 px)).setCell (p := ⟨g1, 1, none⟩) hwg1 (.int .i64 py)).setCell (p := ⟨g2, 0, none⟩) hwg2 (.int .i64 qx)).setCell (p := ⟨g2, 1, none⟩) hwg2 (.int .i64 qy)
  clear ag1 ag2 s1 s2 s3 s4 b5 hb5 b3 ho1 ho2 hs3 hg1 hg2
  go_wp2_with fail
  clear v1 v2 v3 v4 v5 v6 v7 v8 v9 v10 f1 f2 f3 f4 hwg1 hwg2 hne
  have e5 : ((((w5.setCell ⟨g1, 0, none⟩ (.int .i64 px)).setCell ⟨g1, 1, none⟩ (.int .i64 py)).setCell ⟨g2, 0, none⟩ (.int .i64 qx)).setCell ⟨g2, 1, none⟩ (.int .i64 qy)).heap.size = w5.heap.size := by simp
  generalize (((w5.setCell ⟨g1, 0, none⟩ (.int .i64 px)).setCell ⟨g1, 1, none⟩ (.int .i64 py)).setCell ⟨g2, 0, none⟩ (.int .i64 qx)).setCell ⟨g2, 1, none⟩ (.int .i64 qy) = w6 at *
  generalize minI px qx = ux at *
  generalize minI py qy = uy at *
  have aU := at_new w6 ux uy 56
  have hs6 := b6.size
  rw [e5] at aU
  have b7 := b6.alloc hs6 (.cells #[.int .i64 ux, .int .i64 uy] 56)
  have hs7 : (w6.alloc (.cells #[.int .i64 ux, .int .i64 uy] 56)).heap.size = w6.heap.size + 1 := by simp
  generalize w6.alloc (.cells #[.int .i64 ux, .int .i64 uy] 56) = W at *
  obtain ⟨i0, hi0, hz0, hz1, hz2⟩ := info_parts infoPt
  have HS6 : Hid (w.heap.size ≤ w5.heap.size) := by
    show _ ≤ _
    omega
  have HWs : Hid (w5.heap.size + 1 ≤ W.heap.size) := by
    show _ ≤ _
    omega
  clear hs6 hs7 b6 hmin HIX e5
  go_loopw [12, 14, 50] (fun s _ i wr => ∃ (j : Nat) (M : List (Int × Int)), j ≤ L.length ∧ i = .int .i64 j ∧ Hid (M = ((L.map (mot k)).take j).map (dn (ux, uy))) ∧ wr.ownsRow (w5.heap.size + 1) 56 2 s M.length (flat M) ∧ At wr w5.heap.size ux uy 56 ∧ Hid (w5.heap.size + 1 ≤ wr.heap.size) ∧ Below w.heap.size w wr) (fun _ _ i _ => L.length - (intOf i).toNat)
  case atStart => exact ⟨0, [], Nat.zero_le _, rfl, rfl, World.ownsRow_nil _ _ _ _, aU, HWs, b7⟩
  case round =>
    clear aU HWs b7
    obtain ⟨wo, rfl⟩ : ∃ wo : World, wo = wr := ⟨_, rfl⟩
    obtain ⟨j, M, hj, rfl, HM, own, aU, HWs, hb⟩ := hrel
    by_cases hlt : j < L.length
    · have hl10 := HH.out.2
      have hmj := gt_map (f := mot k) hlt
      have hbd := HBD.out j (by simpa using hlt)
      have HM2 : Hid (M ++ [((mot k (gt L j)).1 - ux, (mot k (gt L j)).2 - uy)] = ((L.map (mot k)).take (j + 1)).map (dn (ux, uy))) := by
        show _ = _
        rw [map_step (by simpa using hlt), HM.out, hmj]; rfl
      have hML : M.length ≤ 10 := by rw [HM.out, map_len (by simpa using hj)]; have := HH.out.2; omega
      rw [hmj] at hbd
      have hlb := HLB.out
      clear HM hmj
      obtain ⟨d5, d6⟩ := gt_cells (ptsA_on HA.out hb) hlt
      have HP := Lib.hid (HAP.out j hlt)
      have HPE : Hid (((gt L j).1, (gt L j).2) = gt L j) := rfl
      rw [HPE.out] at HP
      clear HPE
      generalize mot k (gt L j) = p at *
      generalize p.1 = mx at *
      generalize p.2 = my at *
      generalize (gt L j).1 = x at *
      generalize (gt L j).2 = y at *
      have HMN := Lib.hid (fun w => minus_any mx my ux uy w)
      have e1 : wrap64 (mx - ux) = mx - ux := IntWalk.wrap64_in _ (by omega)
      have e2 : wrap64 (my - uy) = my - uy := IntWalk.wrap64_in _ (by omega)
      rw [e1, e2] at HMN
      have hs := HWs.out
      have n6 := at_new wo x y 56
      have a6 := aU.alloc (.cells #[.int .i64 x, .int .i64 y] 56)
      have c5 := n6.c0; have c6 := n6.c1; have c7 := a6.c0; have c8 := a6.c1
      have k5 := cell_regrown c5; have k6 := cell_regrown c6; have k7 := cell_regrown c7; have k8 := cell_regrown c8
      have b6 := hb.alloc hb.size (.cells #[.int .i64 x, .int .i64 y] 56)
      have own6 := own.alloc (.cells #[.int .i64 x, .int .i64 y] 56)
      clear hb own hbd hlb n6 e1 e2 aU
      go_wp2_with fail
      refine region_move1 6 _ _ (by rfl) (by rfl) (by rfl) (fun _ _ d _ _ h => by cases d <;> exact h) (by kernel_rfl) (by kernel_rfl) ?_
      simp only [List.take_succ_cons, List.take_zero, List.drop_succ_cons, List.drop_zero]
      repeat (
        refine wpQuietB_step (fun K hK => ?_)
        go_simp
        first
          | (refine hK _ ?_; clear hK K)
          | (apply Exists.intro
             refine ⟨fun _ => ?_, hK _ ?_⟩
             ((first | exact Calls.now (HP.out _) | exact Calls.now (HMN.out _)))
             clear hK K))
      refine wpQuietB_nil ?_
      intro w7 hb7
      replace b6 := below_on b6 hb7
      replace own6 := own_below own6 hb7
      replace a6 := a6.step hb7
      have hs7 : w5.heap.size + 1 ≤ w7.heap.size := by have := hb7.size; simp at this; omega
      have hs8 := b6.size
      clear hb7 k5 k6 k7 k8 c5 c6 c7 c8 d5 d6 HP HMN
      generalize mx - ux = rx at *
      generalize my - uy = ry at *
      go_wp2_with (at_builtin; refine wpList_append_own _ rfl _ _ 27 rfl (w5.heap.size + 1) 56 i0 (.agg #[.int .i64 0, .int .i64 0]) 2 16 Try.underlying27 hi0 hz0 hz1 hz2 rfl (by decide) _ _ _ rfl (own6.alloc _) ⟨w7.heap.size, 0, none⟩ 1 1 [.int .i64 rx, .int .i64 ry] rfl rfl ?d1 ?d2 ?d3 ?d4 ?d5 ?_)
      case d1 => exact World.news_of_block (cs := #[.int .i64 rx, .int .i64 ry]) (t := 56) (fr := (0, 0)) (heap_alloc_new w7 _)
      case d2 => simp [Value.oneCell']
      case d3 => unfold maxLen; omega
      case d4 => omega
      case d5 => simp; omega
      intro v' w8 own8 hgrow _
      have hrw := fun k hk => (own6.lt k hk).1
      have R : Hid (w8.ownsRow (w5.heap.size + 1) 56 2 v' (M ++ [(rx, ry)]).length (flat (M ++ [(rx, ry)])) ∧ At w8 w5.heap.size ux uy 56 ∧ Hid (w5.heap.size + 1 ≤ w8.heap.size) ∧ Below w.heap.size w w8) :=
        ⟨by rw [flat_append, List.length_append]; exact own8, (a6.alloc _).grown hgrow (fun e => by have := hrw _ e.symm; omega), Lib.hid (by have := hgrow.size; simp at this; omega), (b6.alloc b6.size _).grown hgrow (by simp; omega) (fun q hq => by have := hrw q hq; have := HS6.out; omega)⟩
      clear own6 own8 hgrow b6 hrw a6
      go_wp2_with fail
      go_roundw
      case rel => exact ⟨j + 1, M ++ [(rx, ry)], by omega, by go_num, HM2, R.out.1, R.out.2.1, R.out.2.2.1, R.out.2.2.2⟩
      case measure => simp [intOf]; omega
    · have e : j = L.length := by omega
      have HQ : Hid (M = moveL L k) := by
        show _ = _
        rw [HM.out, e, HMV.out, List.take_of_length_le (by simp)]
      have own7 := own_base own (show w.heap.size ≤ w5.heap.size + 1 by have := HS6.out; omega)
      clear HM e own
      go_wp2_with fail
      go_ret
      rw [← HQ.out]
      exact ⟨_, rfl, own7, hb⟩
end Go.Proofs.Ytoemmaeglhdjnaa
