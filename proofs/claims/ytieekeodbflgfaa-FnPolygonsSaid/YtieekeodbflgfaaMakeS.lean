/-
  Walks for spec.MakeSize and for the laws' own comparison of two lists of points.
-/
import Derived.Test.YtieekeodbflgfaaAhead
import Derived.Test.YtieekeodbflgfaaPoly
import Derived.Test.YtieekeodbflgfaaHas
namespace Go.Proofs.Ytieekeodbflgfaa
open Go.RowKit

set_option maxRecDepth 100000 in
set_option maxHeartbeats 2000000 in
/-- A number from 0 to h. -/
theorem makeS_any (A : Option Addr) (n c : Nat) (m : Int) (h : Nat) (w : World) (hC : CodeAt w w.heap.size A n) (hn : n ≤ 1048576) (hm1 : 0 ≤ m) (hm2 : m ≤ 1000) (hh : h ≤ 50) :
    Calls Try.prog 21 #[.slice A n c, .int .i64 m, .int .i64 0, .int .i64 h] w fun e w' => (∃ x : Nat, x ≤ h ∧ e = .returned (.int .i64 x)) ∧ Below w.heap.size w w' := by
  have HN := Lib.hid (ahead_any A n c m w hC hn hm1 hm2)
  have HC := Lib.hid hC
  clear hC
  go_enter Try.func21, Try.ntmps21
  go_wp2_with fail
  go_loop [9, 10] (fun s k => ∃ q : Nat, q ≤ h ∧ s = .int .i64 (q + 1) ∧ k = .int .i64 q) (fun _ k => h - (intOf k).toNat)
  case atStart => exact ⟨0, by omega, by first | rfl | go_num, by first | rfl | go_num⟩
  case round =>
    obtain ⟨q, hq, rfl, rfl⟩ := hrel
    by_cases hlt : q < h
    · go_wp2_with fail
      go_round
      case rel => exact ⟨q + 1, by omega, by first | rfl | go_num, by first | rfl | go_num⟩
      case measure => simp [intOf]; omega
    · go_wp2_with fail
      refine HN.out.mono ?_
      rintro e w1 ⟨g, rfl, hgw, hg, hb⟩
      have hgl := hg.lt
      have HB := Lib.hid (below_any A n c g w.heap.size ((q : Int) + 1) w1 (HC.out.below hb) hg hgw hn (by omega) (by omega))
      have HBB := Lib.hid hb
      clear hg hb
      go_wp2_with fail
      refine HB.out.mono ?_
      rintro e w2 ⟨⟨x, hx1, hx2, rfl⟩, hg2, hb2⟩
      have R := Lib.hid (HBB.out.trans (og_below hb2 hgw hgl))
      obtain ⟨y, rfl⟩ : ∃ y : Nat, x = y := ⟨x.toNat, by omega⟩
      clear hg2 hb2
      go_wp2_with fail
      go_loop [11, 12] (fun o k => ∃ a b : Nat, a + b ≤ h ∧ o = .int .i64 a ∧ k = .int .i64 b) (fun _ k => (intOf k).toNat)
      case atStart => exact ⟨0, y, by omega, by first | rfl | go_num, by first | rfl | go_num⟩
      case round =>
        obtain ⟨a, b, hab, rfl, rfl⟩ := hrel
        by_cases hlb : 0 < b
        · go_wp2_with fail
          go_round
          case rel => exact ⟨a + 1, b - 1, by omega, by first | rfl | go_num, by first | rfl | go_num⟩
          case measure => simp [intOf]; omega
        · go_wp2_with fail
          go_ret
          exact ⟨⟨a, by omega, rfl⟩, R.out⟩

set_option maxRecDepth 100000 in
set_option maxHeartbeats 2000000 in
/-- Two slices with the same points. -/
theorem points_same (A1 A2 : Option Addr) (c1 c2 : Nat) (L : List (Int × Int)) (w : World) (h1 : PtsA w A1 L) (h2 : PtsA w A2 L) (h0 : 0 < L.length) (hL : L.length ≤ 1048576) :
    Calls Try.prog 18 #[.slice A1 L.length c1, .slice A2 L.length c2] w fun e w' => e = .returned (.bool true) ∧ Below w.heap.size w w' := by
  obtain ⟨g1, rfl, -⟩ := h1 0 h0
  obtain ⟨g2, rfl, -⟩ := h2 0 h0
  have H1 := Lib.hid h1
  have H2 := Lib.hid h2
  have GP := guard_pt
  have NP := fun w x y x' y' => neq_pt w x y x' y'
  clear h1 h2
  go_enter Try.func18, Try.ntmps18
  go_wp2_with fail
  go_loopw [5, 6, 14] (fun _ _ i wr => ∃ k : Nat, k ≤ L.length ∧ i = .int .i64 k ∧ Below w.heap.size w wr) (fun _ _ i _ => L.length - (intOf i).toNat)
  case atStart => exact ⟨0, Nat.zero_le _, rfl, Below.refl _ _⟩
  case round =>
    obtain ⟨wo, rfl⟩ : ∃ wo : World, wo = wr := ⟨_, rfl⟩
    obtain ⟨k, hk, rfl, hb⟩ := hrel
    by_cases hlt : k < L.length
    · obtain ⟨d1, d2⟩ := gt_cells (ptsA_on H1.out hb) hlt
      obtain ⟨d3, d4⟩ := gt_cells (ptsA_on (ptsA_on H2.out hb) ((Below.refl wo.heap.size wo).alloc (Nat.le_refl _) (.cells #[.int .i64 (gt L k).1, .int .i64 (gt L k).2] 27))) hlt
      have t1 := at_new wo (gt L k).1 (gt L k).2 27
      have d5 := t1.c0
      have d6 := t1.c1
      have HBB := Lib.hid (hb.alloc hb.size (.cells #[.int .i64 (gt L k).1, .int .i64 (gt L k).2] 27))
      clear hb t1
      generalize (gt L k).1 = x at *
      generalize (gt L k).2 = y at *
      go_wp2_with fail
      go_quiet (fail)
      go_wp2_with fail
      go_roundw
      case rel => exact ⟨k + 1, by omega, by go_num, below_dN HBB.out _⟩
      case measure => simp [intOf]; omega
    · go_wp2_with fail
      go_ret
      exact ⟨rfl, hb⟩
end Go.Proofs.Ytieekeodbflgfaa
