/-
  Walks for the drawing of inputs: spec.l01New, spec.l01Byte, spec.l01Below. What is drawn matters by its range alone.
-/
import Derived.Test.YtieekeodbflgfaaProg
import Derived.WalkKit
import Derived.WalkSpells
import Derived.WalkLawsBesides
import Derived.Lib.Hide
import Derived.BigQuiet
import Derived.Deep.QuietTactic
import Derived.OwnWalk
namespace Go.Proofs.Ytieekeodbflgfaa
open Go.RowKit

/-- What a mask leaves. -/
theorem and_mask (x : Int) (m : Nat) (hm : m ≤ 1073741823) : 0 ≤ bits BinOp.and IntKind.i64 x m ∧ bits BinOp.and IntKind.i64 x m ≤ m := by
  have h2 : (BitVec.ofInt 64 (m : Int)).toNat = m := by
    rw [BitVec.ofInt_natCast, BitVec.toNat_ofNat]; exact Nat.mod_eq_of_lt (by omega)
  have h3 : (BitVec.ofInt 64 x &&& BitVec.ofInt 64 (m : Int)).toNat ≤ m := by
    rw [BitVec.toNat_and, h2]; exact Nat.and_le_right
  have h4 : bits BinOp.and IntKind.i64 x m = IntKind.i64.wrap ((BitVec.ofInt 64 x &&& BitVec.ofInt 64 (m : Int)).toNat : Int) := rfl
  rw [h4, IntWalk.i64_in _ (by omega)]
  omega

theorem and255 (x : Int) : 0 ≤ bits BinOp.and IntKind.i64 x 255 ∧ bits BinOp.and IntKind.i64 x 255 ≤ 255 := and_mask x 255 (by omega)

theorem andM (x : Int) : 0 ≤ bits BinOp.and IntKind.i64 x 1073741823 ∧ bits BinOp.and IntKind.i64 x 1073741823 ≤ 1073741823 := and_mask x 1073741823 (Nat.le_refl _)

/-- The bytes of a slice that came in, below block B. -/
def CodeAt (w : World) (B : Nat) (A : Option Addr) (n : Nat) : Prop := ∀ k, k < n → ∃ (a : Addr) (x : UInt8), A = some a ∧ a.block < B ∧ w.cell? (a.add k) = some (.int .u8 x.toNat)
theorem CodeAt.below {w w' : World} {B : Nat} {A : Option Addr} {n : Nat} (h : CodeAt w B A n) (hb : Below B w w') : CodeAt w' B A n := fun k hk => by
  obtain ⟨a, x, e, hl, hc⟩ := h k hk
  have hbl : (a.add k).block = a.block := by unfold Addr.add; split <;> rfl
  exact ⟨a, x, e, hl, (hb.cell (p := a.add k) (by rw [hbl]; exact hl)).trans hc⟩
/-- Block g holds a reader of the bytes. -/
def CurAt (w : World) (A : Option Addr) (n c g : Nat) : Prop := ∃ (i : Nat) (h : Int), w.heap[g]? = some (.cells #[.slice A n c, .int .i64 i, .int .i64 h] 119 (0, 0)) ∧ i ≤ n

theorem og_dN {a w : World} {r : Option Nat} (h : a.grownBy w r) (n : Nat) : a.grownBy (w.drewN n) r := ⟨h.os, h.tape, h.output, h.size, h.block⟩
theorem og_set {a w : World} {g : Nat} (h : a.grownBy w (some g)) (j : Nat) (u : Value) : a.grownBy (w.setCell ⟨g, j, none⟩ u) (some g) :=
  ⟨h.os, h.tape, h.output, by simpa [World.setCell] using h.size, fun k hk hr => (Below.heap_setCell w ⟨g, j, none⟩ u k (by
    intro e; exact hr (by rw [e]))).trans (h.block k hk hr)⟩
theorem og_below {a w : World} {g B : Nat} (h : a.grownBy w (some g)) (hB : B ≤ g) (hg : g < a.heap.size) : Below B a w := ⟨h.os, h.tape, h.output, h.size, fun k hk => h.block k (by omega) (by simp; omega)⟩
theorem CurAt.lt {w : World} {A : Option Addr} {n c g : Nat} (h : CurAt w A n c g) : g < w.heap.size := by
  obtain ⟨i, x, hh, _⟩ := h
  exact (Array.getElem?_eq_some_iff.1 hh).1
theorem below_dN {B : Nat} {a w : World} (h : Below B a w) (n : Nat) : Below B a (w.drewN n) := ⟨h.os, h.tape, h.output, h.size, h.block⟩

set_option maxRecDepth 100000 in
set_option maxHeartbeats 1600000 in
theorem byte_any (A : Option Addr) (n c g B : Nat) (w : World) (hC : CodeAt w B A n) (hg : CurAt w A n c g) (hB : B ≤ g) (hn : n ≤ 1048576) :
    Calls Try.prog 101 #[.pointer (some ⟨g, 0, none⟩)] w fun e w' => (∃ x : Int, 0 ≤ x ∧ x ≤ 255 ∧ e = .returned (.int .i64 x)) ∧ CurAt w' A n c g ∧ w.grownBy w' (some g) := by
  have hgl := hg.lt
  obtain ⟨i, h, hh, hi⟩ := hg
  have c0 : w.cell? ⟨g, 0, none⟩ = some (.slice A n c) := cell_of_row w g 0 _ _ _ hh
  have c1 : w.cell? ⟨g, 1, none⟩ = some (.int .i64 i) := cell_of_row w g 1 _ _ _ hh
  have c2 : w.cell? ⟨g, 2, none⟩ = some (.int .i64 h) := cell_of_row w g 2 _ _ _ hh
  have f0 : w.frozen? ⟨g, 0, none⟩ = false := frozen_of_row w g 0 _ _ hh
  have f1 : w.frozen? ⟨g, 1, none⟩ = false := frozen_of_row w g 1 _ _ hh
  have f2 : w.frozen? ⟨g, 2, none⟩ = false := frozen_of_row w g 2 _ _ hh
  go_enter Try.func101, Try.ntmps101
  go_wp2_with fail
  obtain ⟨h', hh'⟩ : ∃ h', h' = wrap64 (wrap64 (h * 6364136223846793005) + 1442695040888963407) := ⟨_, rfl⟩
  rw [← hh']
  clear hh'
  have H1 : (w.setCell ⟨g, 2, none⟩ (.int .i64 h')).heap[g]? = some (.cells #[.slice A n c, .int .i64 i, .int .i64 h'] 119 (0, 0)) := heap_setCell_same w g 2 _ _ (.int .i64 h') hh
  have hb1 : w.grownBy (w.setCell ⟨g, 2, none⟩ (.int .i64 h')) (some g) := og_set (World.grownBy.refl w _) 2 _
  obtain ⟨w1, hw1⟩ : ∃ w1, w1 = w.setCell ⟨g, 2, none⟩ (.int .i64 h') := ⟨_, rfl⟩
  rw [← hw1] at H1 hb1 ⊢
  clear hw1 c0 c1 c2 f0 f1 f2 hh
  have HH := Lib.hid H1
  have c0 : w1.cell? ⟨g, 0, none⟩ = some (.slice A n c) := cell_of_row w1 g 0 _ _ _ H1
  have c1 : w1.cell? ⟨g, 1, none⟩ = some (.int .i64 i) := cell_of_row w1 g 1 _ _ _ H1
  have c2 : w1.cell? ⟨g, 2, none⟩ = some (.int .i64 h') := cell_of_row w1 g 2 _ _ _ H1
  have f1 : w1.frozen? ⟨g, 1, none⟩ = false := frozen_of_row w1 g 1 _ _ H1
  have HC := Lib.hid (hC.below (og_below hb1 hB hgl))
  clear H1 hC
  go_quiet (fail)
  obtain ⟨x, hx⟩ : ∃ x, x = bits BinOp.and IntKind.i64 (bits BinOp.xor IntKind.i64 (h' / 8589934592) (h' / 35184372088832)) 255 := ⟨_, rfl⟩
  rw [← hx]
  have hx1 : 0 ≤ x := by rw [hx]; exact (and_mask _ 255 (by omega)).1
  have hx2 : x ≤ 255 := by rw [hx]; exact (and_mask _ 255 (by omega)).2
  clear hx
  by_cases hlt : i < n
  · obtain ⟨ad, y, rfl, _, hc⟩ := HC.out i hlt
    go_wp2_with fail
    go_quiet (fail)
    go_wp2_with fail
    go_quiet (fail)
    go_wp2_with fail
    go_ret
    refine ⟨⟨_, (and255 _).1, (and255 _).2, rfl⟩, ⟨i + 1, h', (heap_setCell_same _ g 1 _ _ (.int .i64 ((i : Int) + 1)) HH.out).trans ?_, by omega⟩, ?_⟩
    · rw [show ((i + 1 : Nat) : Int) = (i : Int) + 1 from by omega]; rfl
    · exact og_set (og_dN hb1 _) 1 _
  · go_wp2_with fail
    go_quiet (fail)
    go_wp2_with fail
    go_ret
    exact ⟨⟨x, hx1, hx2, rfl⟩, ⟨i, h', HH.out, hi⟩, og_dN (og_dN hb1 _) _⟩
def NewCur (w : World) (A : Option Addr) (n c : Nat) (e : Ending) (w' : World) : Prop := ∃ g, e = .returned (.pointer (some ⟨g, 0, none⟩)) ∧ w.heap.size ≤ g ∧ CurAt w' A n c g ∧ Below w.heap.size w w'

set_option maxRecDepth 100000 in
set_option maxHeartbeats 800000 in
theorem new_any (A : Option Addr) (n c : Nat) (w : World) (hC : CodeAt w w.heap.size A n) (hn : n ≤ 1048576) :
    Calls Try.prog 100 #[.slice A n c] w (NewCur w A n c) := by
  have HC := Lib.hid hC; clear hC
  go_enter Try.func100, Try.ntmps100
  go_wp2_with fail
  go_loop [3, 4] (fun h i => ∃ (k : Nat) (x : Int), k ≤ n ∧ i = .int .i64 k ∧ h = .int .i64 x ∧ 0 ≤ x ∧ x ≤ 1073741823) (fun _ i => n - (intOf i).toNat)
  case atStart => exact ⟨0, 2173 + n, Nat.zero_le _, rfl, by go_num, by omega, by omega⟩
  case round =>
    obtain ⟨k, x, hk, rfl, rfl, hx1, hx2⟩ := hrel
    by_cases hlt : k < n
    · by_cases h4 : (k : Int) < 4000
      · obtain ⟨ad, y, rfl, _, hc⟩ := HC.out k hlt
        go_wp2_with fail
        go_round
        case rel => exact ⟨k + 1, _, by omega, by go_num, rfl, (andM _).1, (andM _).2⟩
        case measure => simp [intOf]; omega
      · go_wp2_with fail
        go_ret
        exact ⟨_, rfl, Nat.le_refl _, ⟨0, x, heap_alloc_new w _, Nat.zero_le _⟩, (Below.refl _ _).alloc (Nat.le_refl _) _⟩
    · go_wp2_with fail
      go_ret
      exact ⟨_, rfl, Nat.le_refl _, ⟨0, x, heap_alloc_new w _, Nat.zero_le _⟩, (Below.refl _ _).alloc (Nat.le_refl _) _⟩
set_option maxRecDepth 100000 in
set_option maxHeartbeats 800000 in
/-- A number below m, for m from 1 to 256. -/
theorem below_any (A : Option Addr) (n c g B : Nat) (m : Int) (w : World) (hC : CodeAt w B A n) (hg : CurAt w A n c g) (hB : B ≤ g) (hn : n ≤ 1048576) (hm1 : 1 ≤ m) (hm2 : m ≤ 256) :
    Calls Try.prog 67 #[.pointer (some ⟨g, 0, none⟩), .int .i64 m] w fun e w' => (∃ x : Int, 0 ≤ x ∧ x < m ∧ e = .returned (.int .i64 x)) ∧ CurAt w' A n c g ∧ w.grownBy w' (some g) := by
  have HB := Lib.hid (byte_any A n c g B w hC hg hB hn)
  clear hC hg
  go_enter Try.func67, Try.ntmps67
  go_wp2_with fail
  refine HB.out.mono ?_
  rintro e w1 ⟨⟨x, hx1, hx2, rfl⟩, hg1, hb1⟩
  have HG := Lib.hid hg1; clear hg1
  go_wp2_with fail
  go_ret
  exact ⟨⟨_, Int.emod_nonneg _ (by omega), Int.emod_lt_of_pos _ (by omega), rfl⟩, HG.out, hb1⟩
end Go.Proofs.Ytieekeodbflgfaa
