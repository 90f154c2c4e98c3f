/-
  The sides of a list of points as an iterator: its maker, and the contract of the iterator.
-/
import Derived.Test.YtimkknljoeiceaaArea
import Derived.Test.YtimkknljoeiceaaRound
import Derived.RangeFuncNested
import Derived.RangeFuncLeaves
import Derived.Shelf.Abstract
import Derived.WalkKit
import Derived.OwnWalkIn
import Derived.TacticsInMore
import Derived.LoopNIn
import Derived.LoopIn
namespace Go.Proofs.Ytimkknljoeiceaa
open Go.RowKit Go.Shelf Go.Sort
attribute [local go_sem] Oper.semAt_some

def sideV (L : List (Int × Int)) (i : Nat) : Value := .agg #[.int .i64 (gt L i).1, .int .i64 (gt L i).2, .int .i64 (gt L (nx L i)).1, .int .i64 (gt L (nx L i)).2]

/-- What lay below m and block B lie as they lay. -/
def KeepP (m B : Nat) (W W' : World) : Prop := Below m W W' ∧ W'.heap[B]? = W.heap[B]?
theorem KeepP.refl (m B : Nat) (W : World) : KeepP m B W W := ⟨Below.refl _ _, rfl⟩
theorem keepP_t {m B : Nat} {X Y Z : World} (h : KeepP m B X Y) (k : KeepP m B Y Z) : KeepP m B X Z := ⟨h.1.trans k.1, k.2.trans h.2⟩
theorem keepP_b {m B : Nat} {w : World} (hn : m ≤ w.heap.size) (hB : B < w.heap.size) (W : World) (l : Nat) (o o' : Obj) (hl : w.heap.size ≤ l) (h : W.heap[l]? = some o) (h1 : o.isCells = false) (h2 : o.isWalk = false) : KeepP m B W (W.putObj l o') :=
  ⟨belowK_b hn W l o o' hl h h1 h2, World.putObj_heap_other (by omega)⟩
theorem KeepP.of_below {m B : Nat} {W W' : World} (h : Below W.heap.size W W') (hm : m ≤ W.heap.size) (hB : B < W.heap.size) : KeepP m B W W' := ⟨h.mono hm, h.block B hB⟩
theorem KeepP.setCell {m B : Nat} {W W' : World} (h : KeepP m B W W') {b : Nat} (hm : m ≤ b) (hB : B ≠ b) (o : Nat) (v : Value) : KeepP m B W (W'.setCell ⟨b, o, none⟩ v) :=
  ⟨h.1.setCell (p := ⟨b, o, none⟩) hm v, (Below.heap_setCell W' ⟨b, o, none⟩ v B hB).trans h.2⟩
theorem grown_of_below {W W' : World} (h : Below W.heap.size W W') : W.grownBy W' none := ⟨h.os, h.tape, h.output, h.size, fun k hk _ => h.block k hk⟩
theorem keepsFrom_below {B : Nat} {W W' : World} (h : Below W.heap.size W W') : KeepsFrom B W W' := ⟨h.size, fun k _ _ h0 _ => (h.block k (Array.getElem?_eq_some_iff.1 h0).1).trans h0⟩

theorem cell_same {X Y : World} {B o : Nat} {v : Value} (h : Y.heap[B]? = X.heap[B]?) (hc : X.cell? ⟨B, o, none⟩ = some v) : Y.cell? ⟨B, o, none⟩ = some v := by
  have : Y.cell? ⟨B, o, none⟩ = X.cell? ⟨B, o, none⟩ := by simp only [World.cell?, h]
  rw [this]; exact hc

theorem sides_any (A : Option Addr) (n c : Nat) (w : World) :
    Calls Try.prog 107 #[.slice A n c] w fun e w' => e = .returned (.func (.func 154) #[] #[.pointer (some ⟨w.heap.size, 0, none⟩)]) ∧ w.alloc (.cells #[.slice A n c] 27) = w' := by
  go_enter Try.func107, Try.ntmps107
  go_wp2_with fail
  go_ret
  exact ⟨rfl, rfl⟩

set_option maxRecDepth 100000 in
set_option maxHeartbeats 4000000 in
theorem sides1 (n l Bs : Nat) (A : Option Addr) (c : Nat) (L : List (Int × Int)) (w0 : World) (h1 : 1 ≤ L.length) (h2 : L.length ≤ 1048576) (hA : PtsA w0 A L) (J Jx : List Nat → World → Prop) (W : World) (hJ : AbidesFrom W.heap.size J)
    (hY : ∀ (pre : List Nat) (x : Nat) (W1 : World), J pre W1 → pre.length < L.length → YieldAt Fence.wide (n - 1) Try.prog l #[.int .i64 (x : Int), sideV L x] W1 fun e W' =>
      (e = .returned (.bool true) ∧ J (pre ++ [x]) W' ∧ KeepP w0.heap.size Bs W1 W') ∨ (e = .returned (.bool false) ∧ Jx (pre ++ [x]) W'))
    (hBl : Bs < W.heap.size) (hBs : W.cell? ⟨Bs, 0, none⟩ = some (.slice A L.length c)) (hW : Below w0.heap.size w0 W) (h0 : J [] W) :
    CallsIn Fence.wide n Try.prog 154 #[.func (.yield l) #[] #[], .pointer (some ⟨Bs, 0, none⟩)] W fun e W' => (∃ v, e = .returned v) ∧
      ((∃ ys, ys = List.range L.length ∧ J ys W') ∨ (∃ pre, (∃ k, k ≤ L.length ∧ pre = List.range k) ∧ Jx pre W')) := by
  obtain ⟨g, rfl, -⟩ := hA 0 h1
  have HA := Lib.hid hA; clear hA
  refine callsIn_of_wp Try.func154 rfl trivial ?_ rfl
  simp only [Try.ntmps154, List.size_toArray, List.length_cons, List.length_nil, Nat.reduceAdd, Nat.reduceSub, Array.replicate_succ, Array.replicate_zero, List.push_toArray, List.append_toArray, List.nil_append, List.cons_append]
  gi_wp2
  gi_loopw [7] (fun i wr => ∃ k : Nat, k ≤ L.length ∧ i = .int .i64 k ∧ J (List.range k) wr ∧ KeepP w0.heap.size Bs W wr)
    (fun i _ => L.length - (intOf i).toNat)
  case atStart => exact ⟨0, Nat.zero_le _, rfl, h0, KeepP.refl _ _ _⟩
  case round =>
    obtain ⟨k, hk, rfl, hJs, hnx⟩ := hrel
    have hsz : W.heap.size ≤ wr.heap.size := hnx.1.size
    have hbox : wr.cell? ⟨Bs, 0, none⟩ = some (.slice (some ⟨g, 0, none⟩) L.length c) := cell_same hnx.2 hBs
    by_cases hlt : k < L.length
    · obtain ⟨c1, c2⟩ := gt_cells (ptsA_on HA.out (hW.trans hnx.1)) hlt
      obtain ⟨m, hm⟩ : ∃ m, m = nx L k := ⟨_, rfl⟩
      have hml : m < L.length := by rw [hm]; exact (next_int (i := k) h1).2
      have e2 : ((k : Int) + 1) % (L.length : Int) = (m : Int) := by rw [hm]; unfold nx; exact (Int.natCast_emod (k + 1) L.length).symm
      obtain ⟨d1, d2⟩ := gt_cells (ptsA_on HA.out (hW.trans hnx.1)) hml
      obtain ⟨x, hx⟩ : ∃ x, x = (gt L k).1 := ⟨_, rfl⟩
      obtain ⟨y, hy⟩ : ∃ y, y = (gt L k).2 := ⟨_, rfl⟩
      obtain ⟨x', hx'⟩ : ∃ x', x' = (gt L m).1 := ⟨_, rfl⟩
      obtain ⟨y', hy'⟩ : ∃ y', y' = (gt L m).2 := ⟨_, rfl⟩
      rw [← hx] at c1; rw [← hy] at c2; rw [← hx'] at d1; rw [← hy'] at d2
      have HV : Hid (sideV L k = .agg #[.int .i64 x, .int .i64 y, .int .i64 x', .int .i64 y']) := by
        show _ = _
        rw [hx, hy, hx', hy', hm]; rfl
      clear hx hy hx' hy' hm
      have hb0 := below1 wr (.cells #[.int .i64 x, .int .i64 y] 54)
      have A0 := at_new wr x y 54
      have k1 := cell_regrown A0.c0
      have k2 := cell_regrown A0.c1
      have k3 := cell_regrown (cell_on hb0 rfl d1)
      have k4 := cell_regrown (cell_on hb0 rfl d2)
      have k5 := cell_regrown (cell_on hb0 rfl hbox)
      have hJ1 : J (List.range k) (wr.alloc (.cells #[.int .i64 x, .int .i64 y] 54)) := hJ _ _ _ none hJs (grown_of_below hb0) (fun r e => by cases e)
      gi_wp2
      refine region_tail_in 12 wide0 (by kernel_rfl) (by kernel_rfl) (by kernel_rfl) ?_
      simp only [List.take_succ_cons, List.take_zero, List.drop_succ_cons, List.drop_zero]
      repeat (first
        | go_big_quiet_step (fail)
        | quiet_step (fail))
      refine wpQuiet_nil ?_
      rintro _ ⟨⟨dq, osq⟩, rfl⟩
      have hb1 := hb0.trans ((below_regrown _ dq osq).mono (by simp))
      have hJ2 : J (List.range k) (grow (redrawn (wr.alloc (.cells #[.int .i64 x, .int .i64 y] 54)) dq) osq) := hJ _ _ _ none hJs (grown_of_below hb1) (fun r e => by cases e)
      clear k1 k2 k3 k4 k5 c1 c2 d1 d2 hJ1 A0
      generalize grow (redrawn (wr.alloc (.cells #[.int .i64 x, .int .i64 y] 54)) dq) osq = w2 at *
      obtain ⟨fn, tmps, assign, body, hy, hR⟩ := hY _ k w2 hJ2 (by rw [List.length_range]; exact hlt)
      rw [HV.out] at hy
      gi_wp2
      refine ⟨fun e => (by cases e), hR.mono ?_⟩
      have hk2 : KeepP w0.heap.size Bs W w2 := keepP_t hnx (KeepP.of_below hb1 (Nat.le_trans hW.size hsz) (by omega))
      rintro e W3 (⟨rfl, hJ3, hk3⟩ | ⟨rfl, hJx3⟩)
      · gi_wp2
        go_roundw
        case rel => exact ⟨k + 1, by omega, by go_num, by rw [List.range_succ]; exact hJ3, keepP_t hk2 hk3⟩
        case measure => simp [intOf]; omega
      · gi_wp2
        refine bodyPost_ret (results_none rfl _ _ _) rfl ?_
        exact ⟨⟨_, rfl⟩, .inr ⟨_, ⟨k + 1, by omega, List.range_succ.symm⟩, hJx3⟩⟩
    · obtain rfl : k = L.length := by omega
      gi_wp2
      go_end0
      exact ⟨⟨_, rfl⟩, .inl ⟨_, rfl, hJs⟩⟩

/-- **The iterator of the sides.** -/
theorem sides_stops (n Bs : Nat) (A : Option Addr) (c : Nat) (L : List (Int × Int)) (w0 w : World) (h1 : 1 ≤ L.length) (h2 : L.length ≤ 1048576) (hA : PtsA w0 A L) (hB : Below w0.heap.size w0 w) (hBl : Bs < w.heap.size) (hBs : w.cell? ⟨Bs, 0, none⟩ = some (.slice A L.length c)) :
    SeqStopsK Fence.wide n Try.prog 154 #[.pointer (some ⟨Bs, 0, none⟩)] (fun i : Nat => #[.int .i64 (i : Int), sideV L i]) (KeepP w0.heap.size Bs) (fun ys => ys = List.range L.length) (fun pre => ∃ k, k ≤ L.length ∧ pre = List.range k) L.length w := fun l J Jx W hW hJ _ hY h0 =>
  sides1 n l Bs A c L w0 h1 h2 hA J Jx W hJ hY (Nat.lt_of_lt_of_le hBl hW.size) ((hW.cell (p := ⟨Bs, 0, none⟩) hBl).trans hBs) (hB.trans (hW.mono hB.size)) h0
/-- Block g holds a side. -/
def SideAt (W : World) (g : Nat) (L : List (Int × Int)) (i : Nat) : Prop := W.heap[g]? = some (.cells #[.int .i64 (gt L i).1, .int .i64 (gt L i).2, .int .i64 (gt L (nx L i)).1, .int .i64 (gt L (nx L i)).2] 114 (0, 0))
theorem sideAt_new (W : World) (L : List (Int × Int)) (i : Nat) : SideAt (W.alloc (.cells #[.int .i64 (gt L i).1, .int .i64 (gt L i).2, .int .i64 (gt L (nx L i)).1, .int .i64 (gt L (nx L i)).2] 114)) W.heap.size L i := heap_alloc_new W _
theorem SideAt.lt {W : World} {g : Nat} {L : List (Int × Int)} {i : Nat} (h : SideAt W g L i) : g < W.heap.size := (Array.getElem?_eq_some_iff.1 h).1
theorem sideAt_own (g : Nat) (L : List (Int × Int)) (i B : Nat) : OwnFrom B (fun (_ : Unit) W => SideAt W g L i) := fun _ X Y row hs hg hr =>
  (hg.block g hs.lt (fun e => by
    obtain ⟨_, o, ho, hc⟩ := hr g e.symm
    rw [show X.heap[g]? = _ from hs] at ho
    cases ho; cases hc)).trans hs
theorem SideAt.cells {W : World} {g : Nat} {L : List (Int × Int)} {i : Nat} (h : SideAt W g L i) :
    W.cell? ⟨g, 0, none⟩ = some (.int .i64 (gt L i).1) ∧ W.cell? ⟨g, 1, none⟩ = some (.int .i64 (gt L i).2) ∧ W.cell? ⟨g, 2, none⟩ = some (.int .i64 (gt L (nx L i)).1) ∧ W.cell? ⟨g, 3, none⟩ = some (.int .i64 (gt L (nx L i)).2) :=
  ⟨cell_of_row W g 0 _ _ _ h, cell_of_row W g 1 _ _ _ h, cell_of_row W g 2 _ _ _ h, cell_of_row W g 3 _ _ _ h⟩

theorem boxed_on {W W' : World} {B : Nat} {t : TypeId} {v : Value} (h : Boxed W B t v) (hb : Below W.heap.size W W') : Boxed W' B t v := (hb.block B h.lt).trans h

theorem gt_ok {L : List (Int × Int)} (h : allOk L = true) (i : Nat) : okP (gt L i).1 (gt L i).2 = true := by
  by_cases hi : i < L.length
  · exact all_at h hi
  · have : gt L i = (0, 0) := by simp [gt, List.getElem?_eq_none (Nat.le_of_not_lt hi)]
    rw [this]; rfl
end Go.Proofs.Ytimkknljoeiceaa
