/-
  The model's moved polygons: l06Corner, l06Move, MovePolygon.
-/
import Derived.Test.YtimkknljoeiceaaMotP
namespace Go.Proofs.Ytimkknljoeiceaa
open Go.RowKit

theorem map_step {f : Pt → Pt} {L : List Pt} {k : Nat} (h : k < L.length) : (L.take (k + 1)).map f = (L.take k).map f ++ [f (gt L k)] := by
  rw [List.take_succ_eq_append_getElem h, List.map_append, gt_at h]; rfl
theorem map_len {f : Pt → Pt} {L : List Pt} {k : Nat} (h : k ≤ L.length) : ((L.take k).map f).length = k := by simp; omega
def Bd (B : Int) (L : List Pt) : Prop := ∀ i, i < L.length → -B ≤ (gt L i).1 ∧ (gt L i).1 ≤ B ∧ -B ≤ (gt L i).2 ∧ (gt L i).2 ≤ B
theorem bd_low {B : Int} {L : List Pt} (h : Bd B L) (h0 : 0 < L.length) : ∀ k, k ≤ L.length → -B ≤ (boxTill L k).1.1 ∧ (boxTill L k).1.1 ≤ B ∧ -B ≤ (boxTill L k).1.2 ∧ (boxTill L k).1.2 ≤ B := fun k hk => by
  obtain ⟨⟨i, hi, e1⟩, ⟨j, hj, e2⟩⟩ := box_at (L := L) k hk h0
  have := h i hi
  have := h j hj
  omega
theorem bd_mot {L : List Pt} (hok : allOk L = true) {m : Nat} (hm : m < 8) : Bd 40 (L.map (mot m)) := fun i hi => by
  have hi' : i < L.length := by simpa using hi
  rw [gt_map hi']
  have := okP_bounds (all_at hok hi')
  exact mot_bd hm (by omega)

set_option maxRecDepth 100000 in
set_option maxHeartbeats 2000000 in
theorem corner_any (A : Option Addr) (c : Nat) (L : List Pt) (w : World) (hA : PtsA w A L) (h1 : 1 ≤ L.length) (h2 : L.length ≤ 64) (hbd : Bd 40 L) :
    Calls Try.prog 130 #[.slice A L.length c] w (Lists w (cornL L)) := by
  obtain ⟨i0, hi0, hz0, hz1, hz2⟩ := info_parts infoPt
  obtain ⟨g, rfl, -⟩ := hA 0 h1
  have HA := Lib.hid hA
  have HBD := Lib.hid hbd
  have HLO := Lib.hid (bd_low hbd h1)
  have hmin : ∀ (w : World) (x y : Int) (ts : Array TypeId) (t : TypeId), (Builtin.min_ ts t #[.int .i64 x, .int .i64 y]).run Try.prog w = .ok (.int .i64 (minI x y)) w := run_minI
  obtain ⟨c1, c2⟩ := gt_cells hA (i := 0) (by omega)
  simp only [Nat.zero_mul, Nat.zero_add] at c1 c2
  have hn1 : (0 : Int) < (L.length : Int) := by omega
  have H0 : Hid (boxTill L 0 = (gt L 0, gt L 0)) := rfl
  obtain ⟨X, hX⟩ : ∃ X, X = (gt L 0).1 := ⟨_, rfl⟩
  obtain ⟨Y, hY⟩ : ∃ Y, Y = (gt L 0).2 := ⟨_, rfl⟩
  rw [← hX] at c1; rw [← hY] at c2
  have HX : Hid (X = (boxTill L 0).1.1) := by
    show _ = _
    rw [H0.out]; exact hX
  have HY : Hid (Y = (boxTill L 0).1.2) := by
    show _ = _
    rw [H0.out]; exact hY
  clear hA hbd hX hY H0
  go_enter Try.func130, Try.ntmps130
  go_wp2_with fail
  go_loopw [3, 4, 6, 20] (fun x y _ i wr => ∃ k : Nat, ∃ u v : Int, k ≤ L.length ∧ i = .int .i64 k ∧ x = .int .i64 u ∧ y = .int .i64 v ∧ Hid (u = (boxTill L k).1.1) ∧ Hid (v = (boxTill L k).1.2) ∧ Below w.heap.size w wr) (fun _ _ _ i _ => L.length - (intOf i).toNat)
  case atStart => exact ⟨0, X, Y, Nat.zero_le _, rfl, rfl, rfl, HX, HY, Below.refl _ _⟩
  case round =>
    clear HX HY c1 c2
    obtain ⟨wo, rfl⟩ : ∃ wo : World, wo = wr := ⟨_, rfl⟩
    obtain ⟨k, u, v, hk, rfl, rfl, rfl, HU, HV, hb⟩ := hrel
    by_cases hlt : k < L.length
    · obtain ⟨d1, d2⟩ := gt_cells (ptsA_on HA.out hb) hlt
      have HU2 : Hid (minI u (gt L k).1 = (boxTill L (k + 1)).1.1) := by
        show _ = _
        rw [HU.out]; rfl
      have HV2 : Hid (minI v (gt L k).2 = (boxTill L (k + 1)).1.2) := by
        show _ = _
        rw [HV.out]; rfl
      generalize (gt L k).1 = x at *
      generalize (gt L k).2 = y at *
      have n6 := at_new wo x y 54
      have c5 := n6.c0; have c6 := n6.c1
      have b6 := hb.alloc hb.size (.cells #[.int .i64 x, .int .i64 y] 54)
      clear hb n6 HU HV
      go_wp2_with fail
      go_roundw
      case rel => exact ⟨k + 1, _, _, by omega, by go_num, rfl, rfl, HU2, HV2, b6⟩
      case measure => simp [intOf]; omega
    · obtain rfl : k = L.length := by omega
      have hlo := HLO.out L.length (Nat.le_refl _)
      rw [← HU.out, ← HV.out] at hlo
      have HD : Hid (cornL L = L.map (dn (u, v))) := by
        show _ = _
        rw [HU.out, HV.out]; rfl
      have HL := Lib.hid (below_on (below1 wo (.cells #[] 54)) (Below.refl _ _))
      have own0 := World.ownsRow_lit (base := wo.heap.size) (e := 54) (size := 2) wo #[] 0 (Nat.le_refl _) (by unfold maxLen; omega) (by rfl)
      have b0 := below_on hb (below1 wo (.cells #[] 54))
      have hwo := hb.size
      have own1 := own_base own0 hwo
      clear hb HL own0 HLO HU HV hlt hk hwo
      go_wp2_with fail
      generalize wo.alloc (.cells #[] 54) = W at *
      go_loopw [7, 9, 36] (fun s _ i wr => ∃ (k : Nat) (M : List (Int × Int)), k ≤ L.length ∧ i = .int .i64 k ∧ Hid (M = (L.take k).map (dn (u, v))) ∧ wr.ownsRow w.heap.size 54 2 s M.length (flat M) ∧ Below w.heap.size w wr) (fun _ _ i _ => L.length - (intOf i).toNat)
      case atStart => exact ⟨0, [], Nat.zero_le _, rfl, rfl, own1, b0⟩
      case round =>
        clear own1 b0
        obtain ⟨wo, rfl⟩ : ∃ wo : World, wo = wr := ⟨_, rfl⟩
        obtain ⟨k, M, hk, rfl, HM, own, hb⟩ := hrel
        by_cases hlt : k < L.length
        · have HM2 : Hid (M ++ [((gt L k).1 - u, (gt L k).2 - v)] = (L.take (k + 1)).map (dn (u, v))) := by
            show _ = _
            rw [map_step hlt, HM.out]; rfl
          have hML : M.length ≤ 64 := by rw [HM.out, map_len hk]; omega
          clear HM
          obtain ⟨d5, d6⟩ := gt_cells (ptsA_on HA.out hb) hlt
          have hbd := HBD.out k hlt
          generalize (gt L k).1 = x at *
          generalize (gt L k).2 = y at *
          have f1 : wrap64 (x - u) = x - u := IntWalk.wrap64_in _ (by omega)
          have f2 : wrap64 (y - v) = y - v := IntWalk.wrap64_in _ (by omega)
          have n6 := at_new wo x y 54
          have c5 := n6.c0; have c6 := n6.c1
          have b6 := hb.alloc hb.size (.cells #[.int .i64 x, .int .i64 y] 54)
          have own6 := own.alloc (.cells #[.int .i64 x, .int .i64 y] 54)
          have hs6 := hb.size
          clear hb own hbd n6
          go_wp2_with (at_builtin; refine wpList_append_own _ rfl _ _ 27 rfl w.heap.size 54 i0 (.agg #[.int .i64 0, .int .i64 0]) 2 16 Try.underlying27 hi0 hz0 hz1 hz2 rfl (by decide) _ _ _ rfl (own6.alloc _) ⟨wo.heap.size + 1, 0, none⟩ 1 1 [.int .i64 (x - u), .int .i64 (y - v)] rfl rfl ?d1 ?d2 ?d3 ?d4 ?d5 ?_)
          case d1 => exact World.news_of_block (cs := #[.int .i64 (x - u), .int .i64 (y - v)]) (t := 54) (fr := (0, 0)) (by have := heap_alloc_new (wo.alloc (.cells #[.int .i64 x, .int .i64 y] 54)) (.cells #[.int .i64 (x - u), .int .i64 (y - v)] 54); rwa [size_alloc] at this)
          case d2 => simp [Value.oneCell']
          case d3 => unfold maxLen; omega
          case d4 => omega
          case d5 => simp; omega
          intro v' w7 own7 hgrow _
          have hrw := fun k hk => (own6.lt k hk).1
          have R : Hid (w7.ownsRow w.heap.size 54 2 v' (M ++ [(x - u, y - v)]).length (flat (M ++ [(x - u, y - v)])) ∧ Below w.heap.size w w7) :=
            ⟨by rw [flat_append, List.length_append]; exact own7, (b6.alloc b6.size _).grown hgrow (by simp; omega) hrw⟩
          clear own6 own7 hgrow b6 hrw c5 c6 d5 d6 f1 f2
          go_wp2_with fail
          go_roundw
          case rel => exact ⟨k + 1, M ++ [(x - u, y - v)], by omega, by go_num, HM2, R.out.1, R.out.2⟩
          case measure => simp [intOf]; omega
        · have e : k = L.length := by omega
          have HQ : Hid (M = cornL L) := by
            show _ = _
            rw [HM.out, e, HD.out, List.take_length]
          clear HM e
          go_wp2_with fail
          go_ret
          rw [← HQ.out]
          exact ⟨_, rfl, own, hb⟩
end Go.Proofs.Ytimkknljoeiceaa
