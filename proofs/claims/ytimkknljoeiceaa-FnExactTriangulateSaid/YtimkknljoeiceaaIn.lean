/-
  Walks for IsInside, l03Straight and Straightened of the model.
-/
import Derived.Test.YtimkknljoeiceaaRim
import Derived.Test.YtimkknljoeiceaaTurn
namespace Go.Proofs.Ytimkknljoeiceaa
open Go.RowKit

def insideV (L : List (Int × Int)) (p : Int × Int) : Bool := polyB L && okQ p && insideB L p
/-- The corner before. -/
def pv (L : List (Int × Int)) (i : Nat) : Nat := (i + L.length - 1) % L.length
def bentB (L : List (Int × Int)) (i : Nat) : Bool := !(crossP (gt L (pv L i)) (gt L i) (gt L (nx L i)) == 0)
def straightTill (L : List (Int × Int)) : Nat → List (Int × Int)
  | 0 => []
  | k + 1 => bif bentB L k then straightTill L k ++ [gt L k] else straightTill L k
def straightL (L : List (Int × Int)) : List (Int × Int) := straightTill L L.length
theorem straight_len (L : List (Int × Int)) : ∀ k, (straightTill L k).length ≤ k
  | 0 => Nat.le_refl _
  | k + 1 => by
    have := straight_len L k
    simp only [straightTill]
    cases bentB L k <;> simp <;> omega
def straightV (L : List (Int × Int)) : List (Int × Int) := bif polyB L then straightL L else []
set_option maxHeartbeats 4000000 in
set_option maxRecDepth 100000 in
theorem straight_any (A : Option Addr) (c : Nat) (L : List (Int × Int)) (w : World) (hA : PtsA w A L) (h1 : 1 ≤ L.length) (h2 : L.length ≤ 10) (hok : allOk L = true) :
    Calls Try.prog 161 #[.slice A L.length c] w (Lists w (straightL L)) := by
  obtain ⟨g, rfl, -⟩ := hA 0 h1
  have HA := Lib.hid hA; have HOK := Lib.hid hok
  clear hA hok
  obtain ⟨i0, hi0, hz0, hz1, hz2⟩ := info_parts infoPt
  have own0 := World.ownsRow_lit (base := w.heap.size) (e := 54) (size := 2) w #[] 0 (Nat.le_refl _) (by decide) rfl
  have b0 := below1 w (.cells #[] 54)
  go_enter Try.func161, Try.ntmps161
  go_wp2_with fail
  go_loopw [3, 5, 6, 12] (fun s _ _ i wr => ∃ (k g5 cap : Nat) (M : List (Int × Int)), k ≤ L.length ∧ i = .int .i64 k ∧ s = .slice (some ⟨g5, 0, none⟩) M.length cap ∧ Hid (M = straightTill L k) ∧ wr.ownsRow w.heap.size 54 2 (.slice (some ⟨g5, 0, none⟩) M.length cap) M.length (flat M) ∧ Below w.heap.size w wr) (fun _ _ _ i _ => L.length - (intOf i).toNat)
  case atStart => exact ⟨0, w.heap.size, 0, [], Nat.zero_le _, rfl, rfl, rfl, own0, b0⟩
  case round =>
    obtain ⟨wo, rfl⟩ : ∃ wo : World, wo = wr := ⟨_, rfl⟩
    clear own0 b0
    obtain ⟨k, g5, cap, M, hk, rfl, rfl, HM, hown, hb⟩ := hrel
    by_cases hlt : k < L.length
    · obtain ⟨hr, hrl⟩ := next_int (i := k) h1
      have hpl : (k + L.length - 1) % L.length < L.length := Nat.mod_lt _ (by omega)
      have hpr : Int.tmod ((k : Int) + (L.length : Int) - 1) (L.length : Int) = (((k + L.length - 1) % L.length : Nat) : Int) := by
        have : (k : Int) + (L.length : Int) - 1 = ((k + L.length - 1 : Nat) : Int) := by omega
        rw [this, tmod_nat]
      have hap := ptsA_on HA.out hb
      obtain ⟨c1, c2⟩ := gt_cells hap hlt
      obtain ⟨c3, c4⟩ := gt_cells hap hrl
      obtain ⟨c5, c6⟩ := gt_cells hap hpl
      have HCR := Lib.hid (fun w => crossS_on _ _ _ _ _ _ w (all_at HOK.out hpl) (all_at HOK.out hlt) (all_at HOK.out hrl))
      have HBE : Hid (bentB L k = !(crossP ((gt L ((k + L.length - 1) % L.length)).1, (gt L ((k + L.length - 1) % L.length)).2) ((gt L k).1, (gt L k).2) ((gt L ((k + 1) % L.length)).1, (gt L ((k + 1) % L.length)).2) == 0)) := rfl
      have HST : Hid (straightTill L (k + 1) = bif bentB L k then M ++ [((gt L k).1, (gt L k).2)] else M) := by
        show _ = _
        rw [HM.out]; rfl
      have hML : M.length ≤ 10 := by rw [HM.out]; have := straight_len L k; omega
      clear hap HM
      generalize (k + 1) % L.length = r at *
      generalize (k + L.length - 1) % L.length = t at *
      generalize (gt L k).1 = x at *
      generalize (gt L k).2 = y at *
      generalize (gt L r).1 = x' at *
      generalize (gt L r).2 = y' at *
      generalize (gt L t).1 = x'' at *
      generalize (gt L t).2 = y'' at *
      generalize crossP (x'', y'') (x, y) (x', y') = C at *
      have f1 : IntKind.i64.wrap ((k : Int) + 1) = (k : Int) + 1 := IntWalk.i64_in _ (by omega)
      have f2 : IntKind.i64.wrap ((k : Int) + (L.length : Int)) = (k : Int) + (L.length : Int) := IntWalk.i64_in _ (by omega)
      have f3 : IntKind.i64.wrap ((k : Int) + (L.length : Int) - 1) = (k : Int) + (L.length : Int) - 1 := IntWalk.i64_in _ (by omega)
      have f4 : IntKind.i64.wrap (r : Int) = (r : Int) := IntWalk.i64_in _ (by omega)
      have f5 : IntKind.i64.wrap (t : Int) = (t : Int) := IntWalk.i64_in _ (by omega)
      have hp1 : (r : Int) < (L.length : Int) := by omega
      have hp2 : (0 : Int) ≤ (r : Int) := by omega
      have hp3 : (t : Int) < (L.length : Int) := by omega
      have hp4 : (0 : Int) ≤ (t : Int) := by omega
      have hne : ¬ L.length = 0 := by omega
      have hal := (Below.refl wo.heap.size wo).alloc (Nat.le_refl _) (.cells #[.int .i64 x, .int .i64 y] 54)
      have d3 := cell_on hal rfl c3; have d4 := cell_on hal rfl c4; have d5 := cell_on hal rfl c5; have d6 := cell_on hal rfl c6
      have n1 := at_new wo x y 54
      have d1 := n1.c0; have d2 := n1.c1
      have b2 := hb.alloc hb.size (.cells #[.int .i64 x, .int .i64 y] 54)
      have own2 := hown.alloc (.cells #[.int .i64 x, .int .i64 y] 54)
      have k1 := cell_regrown d1; have k2 := cell_regrown d2; have k3 := cell_regrown d3; have k4 := cell_regrown d4; have k5 := cell_regrown d5; have k6 := cell_regrown d6
      clear hal hb hown
      go_wp2_with fail
      refine wp_region_quiet_below (by kernel_rfl) (by kernel_rfl) ?_
      repeat (first
        | go_big_quiet_step (first | exact Calls.regrown_of (HCR.out _))
        | quiet_step (first | exact Calls.regrown_of (HCR.out _)))
      refine wpQuiet_nil ?_
      rintro _ ⟨⟨dq, osq⟩, rfl⟩
      have hst := below_regrown (wo.alloc (.cells #[.int .i64 x, .int .i64 y] 54)) dq osq
      have b3 := below_on b2 hst
      have own3 := own_below own2 hst
      have n3 := n1.step hst
      clear k1 k2 k3 k4 k5 k6 d1 d2 d3 d4 d5 d6 b2 own2 n1 hst c1 c2 c3 c4 c5 c6
      simp only at *
      generalize Go.Sort.grow (redrawn (wo.alloc (.cells #[.int .i64 x, .int .i64 y] 54)) dq) osq = w3 at *
      clear hr hpr f1 f2 f3 f4 f5 hp1 hp2 hp3 hp4
      cases hC : (C == 0)
      · have hC' : (C != 0) = true := by simp [bne, hC]
        have HE : Hid (M ++ [(x, y)] = straightTill L (k + 1)) := by
          show _ = _
          rw [HST.out, HBE.out, hC]; rfl
        have d1 := n3.c0; have d2 := n3.c1
        go_wp2_with (at_builtin; refine wpList_append_lies _ rfl _ _ 27 rfl w.heap.size 54 i0 (.agg #[.int .i64 0, .int .i64 0]) 2 16 Try.underlying27 hi0 hz0 hz1 hz2 rfl (by decide) _ _ _ rfl (own3.alloc _) ⟨w3.heap.size, 0, none⟩ 1 1 [.int .i64 x, .int .i64 y] rfl rfl ?d1 ?d2 (by omega) ?d3 ?d4 ?d5 (w3.heap.size + 1) (by simp) ?_)
        case d1 => exact World.news_of_block (cs := #[.int .i64 x, .int .i64 y]) (t := 54) (fr := (0, 0)) (heap_alloc_new w3 _)
        case d2 => simp [Value.oneCell']
        case d3 => unfold maxLen; omega
        case d4 => omega
        case d5 => have := b3.size; simp; omega
        intro g6 cp6 w6 own6 hgrow _ _
        have hrw := fun k hk => (own3.lt k hk).1
        have HN : Hid ((M ++ [(x, y)]).length = M.length + 1) := by simp [Hid]
        have R : Hid (w6.ownsRow w.heap.size 54 2 (.slice (some ⟨g6, 0, none⟩) (M ++ [(x, y)]).length cp6) (M ++ [(x, y)]).length (flat (M ++ [(x, y)])) ∧ Below w.heap.size w w6) :=
          ⟨by rw [flat_append, HN.out]; exact own6, (b3.alloc b3.size _).grown hgrow (by have := b3.size; simp; omega) hrw⟩
        clear own3 own6 hgrow b3 d1 d2 n3
        go_wp2_with fail
        exact ⟨⟨k + 1, g6, cp6, M ++ [(x, y)], by omega, by go_num, by rw [HN.out], HE, R.out.1, R.out.2⟩, by simp [intOf]; omega⟩
      · have hC' : (C != 0) = false := by simp [bne, hC]
        have HE : Hid (M = straightTill L (k + 1)) := by
          show _ = _
          rw [HST.out, HBE.out, hC]; rfl
        have R := Lib.hid (And.intro own3 b3)
        clear own3 b3 n3
        go_wp2_with fail
        go_roundw
        case rel => exact ⟨k + 1, g5, cap, M, by omega, by go_num, rfl, HE, R.out.1, R.out.2⟩
        case measure => simp [intOf]; omega
    · have HQ : Hid (M = straightL L) := by
        show _ = _
        rw [HM.out, show k = L.length from by omega]; rfl
      have R := Lib.hid hown
      clear hown HM
      go_wp2_with fail
      go_ret
      exact ⟨_, rfl, by rw [← HQ.out]; exact R.out, hb⟩
end Go.Proofs.Ytimkknljoeiceaa
