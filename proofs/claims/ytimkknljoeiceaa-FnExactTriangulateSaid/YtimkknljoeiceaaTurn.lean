/-
  Walks for l03Turn and TurnPolygon of the model.
-/
import Derived.Test.YtimkknljoeiceaaArea
namespace Go.Proofs.Ytimkknljoeiceaa
open Go.RowKit

/-- The first corner and then m of the others, from the last one back. -/
def turnTill (L : List (Int × Int)) (m : Nat) : List (Int × Int) := gt L 0 :: (List.range m).map fun (j : Nat) => gt L (L.length - 1 - j)
def turnL (L : List (Int × Int)) : List (Int × Int) := turnTill L (L.length - 1)
theorem turn_step (L : List (Int × Int)) (m : Nat) : turnTill L (m + 1) = turnTill L m ++ [gt L (L.length - 1 - m)] := by
  simp [turnTill, List.range_succ]
theorem turn_len (L : List (Int × Int)) (m : Nat) : (turnTill L m).length = m + 1 := by simp [turnTill]
def turnV (L : List (Int × Int)) : List (Int × Int) := bif polyB L then turnL L else []
/-- A function that hands back a new list of points. -/
def Lists (w : World) (M : List (Int × Int)) (e : Ending) (w' : World) : Prop := ∃ v, e = .returned v ∧ w'.ownsRow w.heap.size 54 2 v M.length (flat M) ∧ Below w.heap.size w w'
set_option maxRecDepth 100000 in
set_option maxHeartbeats 2000000 in
theorem turn_any (A : Option Addr) (c : Nat) (L : List (Int × Int)) (w : World) (hA : PtsA w A L) (h1 : 1 ≤ L.length) (h2 : L.length ≤ 1000) :
    Calls Try.prog 147 #[.slice A L.length c] w (Lists w (turnL L)) := by
  obtain ⟨g, rfl, -⟩ := hA 0 h1
  obtain ⟨c1, c2⟩ := gt_cells hA h1
  simp only [Nat.zero_mul, Nat.zero_add] at c1 c2
  have HA := Lib.hid hA; clear hA
  obtain ⟨i0, hi0, hz0, hz1, hz2⟩ := info_parts infoPt
  have own0 := World.ownsRow_lit (base := w.heap.size) (e := 54) (size := 2) w #[.int .i64 (gt L 0).1, .int .i64 (gt L 0).2] 1 (Nat.le_refl _) (by decide) rfl
  have b0 := below1 w (.cells #[.int .i64 (gt L 0).1, .int .i64 (gt L 0).2] 54)
  have hM0 : Hid ([((gt L 0).1, (gt L 0).2)] = turnTill L 0) := rfl
  generalize (gt L 0).1 = x0 at *
  generalize (gt L 0).2 = y0 at *
  have f1 : wrap64 ((L.length : Int) - 1) = ((L.length - 1 : Nat) : Int) := by rw [IntWalk.wrap64_in _ (by omega)]; omega
  have f2 : (L.length : Int) - 1 = ((L.length - 1 : Nat) : Int) := by omega
  go_enter Try.func147, Try.ntmps147
  go_wp2_with fail
  clear c1 c2 f1 f2
  go_loopw [3, 4] (fun s i wr => ∃ (q g5 cap : Nat) (M : List (Int × Int)), q ≤ L.length - 1 ∧ i = .int .i64 q ∧ s = .slice (some ⟨g5, 0, none⟩) M.length cap ∧ Hid (M = turnTill L (L.length - 1 - q)) ∧ wr.ownsRow w.heap.size 54 2 (.slice (some ⟨g5, 0, none⟩) M.length cap) M.length (flat M) ∧ Below w.heap.size w wr) (fun _ i _ => (intOf i).toNat)
  case atStart => exact ⟨L.length - 1, w.heap.size, 1, [(x0, y0)], Nat.le_refl _, by first | rfl | go_num, rfl, by rw [Nat.sub_self]; exact hM0, own0, b0⟩
  case round =>
    obtain ⟨wo, rfl⟩ : ∃ wo : World, wo = wr := ⟨_, rfl⟩
    clear own0 b0
    obtain ⟨q, g5, cap, M, hq, rfl, rfl, HM, hown, hb⟩ := hrel
    by_cases hlt : 0 < q
    · obtain ⟨c1, c2⟩ := gt_cells (ptsA_on HA.out hb) (i := q) (by omega)
      have hML : M.length ≤ 1000 := by rw [HM.out, turn_len]; omega
      have HM2 : Hid (M ++ [((gt L q).1, (gt L q).2)] = turnTill L (L.length - 1 - (q - 1))) := by
        show _ = _
        have e1 : L.length - 1 - (q - 1) = (L.length - 1 - q) + 1 := by omega
        have e2 : L.length - 1 - (L.length - 1 - q) = q := by omega
        rw [e1, turn_step, e2, HM.out]
      clear HM
      generalize (gt L q).1 = x at *
      generalize (gt L q).2 = y at *
      have hp1 : (q : Int) < (L.length : Int) := by omega
      have hsz := hb.size
      have f3 : wrap64 ((q : Int) - 1) = ((q - 1 : Nat) : Int) := by rw [IntWalk.wrap64_in _ (by omega)]; omega
      have f4 : (q : Int) - 1 = ((q - 1 : Nat) : Int) := by omega
      go_wp2_with (at_builtin; refine wpList_append_lies _ rfl _ _ 27 rfl w.heap.size 54 i0 (.agg #[.int .i64 0, .int .i64 0]) 2 16 Try.underlying27 hi0 hz0 hz1 hz2 rfl (by decide) _ _ _ rfl (hown.alloc _) ⟨wo.heap.size, 0, none⟩ 1 1 [.int .i64 x, .int .i64 y] rfl rfl ?d1 ?d2 (by omega) ?d3 ?d4 ?d5 (wo.heap.size + 1) (by simp) ?_)
      case d1 => exact World.news_of_block (cs := #[.int .i64 x, .int .i64 y]) (t := 54) (fr := (0, 0)) (heap_alloc_new wo _)
      case d2 => simp [Value.oneCell']
      case d3 => unfold maxLen; omega
      case d4 => omega
      case d5 => simp; omega
      intro g6 cp6 w6 own6 hgrow _ _
      have hr := fun k hk => (hown.lt k hk).1
      have HN : Hid ((M ++ [(x, y)]).length = M.length + 1) := by simp [Hid]
      have R : Hid (w6.ownsRow w.heap.size 54 2 (.slice (some ⟨g6, 0, none⟩) (M ++ [(x, y)]).length cp6) (M ++ [(x, y)]).length (flat (M ++ [(x, y)])) ∧ Below w.heap.size w w6) :=
        ⟨by rw [flat_append, HN.out]; exact own6, (hb.alloc hb.size _).grown hgrow (by simp; omega) hr⟩
      clear hown own6 hgrow hb c1 c2
      go_wp2_with fail
      first
        | exact ⟨⟨q - 1, g6, cp6, M ++ [(x, y)], by omega, by first | rfl | go_num, by rw [HN.out], HM2, R.out.1, R.out.2⟩, by simp [intOf]; omega⟩
        | (go_roundw
           case rel => exact ⟨q - 1, g6, cp6, M ++ [(x, y)], by omega, by first | rfl | go_num, by rw [HN.out], HM2, R.out.1, R.out.2⟩
           case measure => simp [intOf]; omega)
    · have HQ : Hid (M = turnL L) := by
        show _ = _
        rw [HM.out, show q = 0 from by omega]; rfl
      have R := Lib.hid hown
      clear hown HM
      go_wp2_with fail
      go_ret
      exact ⟨_, rfl, by rw [← HQ.out]; exact R.out, hb⟩
end Go.Proofs.Ytimkknljoeiceaa
