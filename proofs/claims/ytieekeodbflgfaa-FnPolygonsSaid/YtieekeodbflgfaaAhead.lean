/-
  A walk for spec.l31New.
-/
import Derived.Test.YtieekeodbflgfaaCur
namespace Go.Proofs.Ytieekeodbflgfaa
open Go.RowKit

theorem CodeAt.mono {w : World} {B B' : Nat} {A : Option Addr} {n : Nat} (h : CodeAt w B A n) (hB : B ≤ B') : CodeAt w B' A n := fun k hk => by
  obtain ⟨a, x, e, hl, hc⟩ := h k hk
  exact ⟨a, x, e, by omega, hc⟩
set_option maxRecDepth 100000 in
set_option maxHeartbeats 800000 in
/-- A reader that is some bytes ahead. -/
theorem ahead_any (A : Option Addr) (n c : Nat) (m : Int) (w : World) (hC : CodeAt w w.heap.size A n) (hn : n ≤ 1048576) (hm1 : 0 ≤ m) (hm2 : m ≤ 1000) :
    Calls Try.prog 56 #[.slice A n c, .int .i64 m] w (NewCur w A n c) := by
  have HN := Lib.hid (new_any A n c w hC hn)
  have HC := Lib.hid hC; clear hC
  go_enter Try.func56, Try.ntmps56
  go_wp2_with fail
  refine HN.out.mono ?_
  rintro e w1 ⟨g, rfl, hgw, hg, hb⟩
  go_wp2_with fail
  go_loopw [6] (fun i wr => ∃ k : Int, 0 ≤ k ∧ k ≤ m ∧ i = .int .i64 k ∧ CurAt wr A n c g ∧ Below w.heap.size w wr) (fun i _ => (m - intOf i).toNat)
  case atStart => exact ⟨0, Int.le_refl _, hm1, rfl, hg, hb⟩
  case round =>
    obtain ⟨wo, rfl⟩ : ∃ wo : World, wo = wr := ⟨_, rfl⟩
    clear hg hb
    obtain ⟨k, hk0, hk, rfl, hg, hb⟩ := hrel
    by_cases hlt : k < m
    · have HBy := Lib.hid (byte_any A n c g w.heap.size wo (HC.out.below hb) hg hgw hn)
      have hgl := hg.lt
      clear hg
      go_wp2_with fail
      refine HBy.out.mono ?_
      rintro e w2 ⟨⟨x, hx1, hx2, rfl⟩, hg2, hb2⟩
      have R := Lib.hid (And.intro hg2 (hb.trans (og_below hb2 hgw hgl)))
      clear hg2 hb2 hb
      go_wp2_with fail
      go_roundw
      case rel => exact ⟨k + 1, by omega, by omega, rfl, R.out.1, R.out.2⟩
      case measure => simp [intOf]; omega
    · go_wp2_with fail
      go_ret
      exact ⟨g, rfl, hgw, hg, hb⟩

end Go.Proofs.Ytieekeodbflgfaa
