/-
  The iterator of the sides where the body may change any block but that of the points and the iterator's own box.
-/
import Derived.Test.YtbmeemmihkedoaaSides
namespace Go.Proofs.Ytbmeemmihkedoaa
open Go.RowKit Go.Shelf Go.Sort
attribute [local go_sem] Oper.semAt_some

def KeepG (g B : Nat) (X Y : World) : Prop := X.heap.size ≤ Y.heap.size ∧ Y.heap[g]? = X.heap[g]? ∧ Y.heap[B]? = X.heap[B]?
theorem KeepG.refl (g B : Nat) (W : World) : KeepG g B W W := ⟨Nat.le_refl _, rfl, rfl⟩
theorem keepG_t {g B : Nat} {X Y Z : World} (h : KeepG g B X Y) (k : KeepG g B Y Z) : KeepG g B X Z := ⟨Nat.le_trans h.1 k.1, k.2.1.trans h.2.1, k.2.2.trans h.2.2⟩
theorem keepG_b {g B : Nat} {w : World} (hg : g < w.heap.size) (hB : B < w.heap.size) (W : World) (l : Nat) (o o' : Obj) (hl : w.heap.size ≤ l) (h : W.heap[l]? = some o) (h1 : o.isCells = false) (h2 : o.isWalk = false) : KeepG g B W (W.putObj l o') :=
  ⟨by simp, World.putObj_heap_other (by omega), World.putObj_heap_other (by omega)⟩
theorem KeepG.of_below {g B : Nat} {W W' : World} (h : Below W.heap.size W W') (hg : g < W.heap.size) (hB : B < W.heap.size) : KeepG g B W W' := ⟨h.size, h.block g hg, h.block B hB⟩
theorem KeepG.of_grown {g B b : Nat} {W W' : World} (h : W.grownBy W' (some b)) (hg : g < W.heap.size) (hB : B < W.heap.size) (h1 : g ≠ b) (h2 : B ≠ b) : KeepG g B W W' :=
  ⟨h.size, h.block g hg (fun e => h1 (Option.some.inj e)), h.block B hB (fun e => h2 (Option.some.inj e))⟩
theorem ptsA_same {X Y : World} {g : Nat} {L : List (Int × Int)} (h : Y.heap[g]? = X.heap[g]?) (hA : PtsA X (some ⟨g, 0, none⟩) L) : PtsA Y (some ⟨g, 0, none⟩) L := fun k hk => by
  obtain ⟨g', e, h1, h2⟩ := hA k hk
  cases e
  exact ⟨g, rfl, cell_same h h1, cell_same h h2⟩
set_option maxRecDepth 100000 in
set_option maxHeartbeats 4000000 in
theorem sidesG1 (n l Bs g c : Nat) (L : List (Int × Int)) (h1 : 1 ≤ L.length) (h2 : L.length ≤ 1048576) (J Jx : List Nat → World → Prop) (W : World) (hJ : AbidesFrom W.heap.size J)
    (hY : ∀ (pre : List Nat) (x : Nat) (W1 : World), x < L.length → J pre W1 → pre.length < L.length → YieldAt Fence.wide (n - 1) Try.prog l #[.int .i64 (x : Int), sideV L x] W1 fun e W' =>
      (e = .returned (.bool true) ∧ J (pre ++ [x]) W' ∧ KeepG g Bs W1 W') ∨ (e = .returned (.bool false) ∧ Jx (pre ++ [x]) W'))
    (hgl : g < W.heap.size) (hA : PtsA W (some ⟨g, 0, none⟩) L) (hBl : Bs < W.heap.size) (hBs : W.cell? ⟨Bs, 0, none⟩ = some (.slice (some ⟨g, 0, none⟩) L.length c)) (h0 : J [] W) :
    CallsIn Fence.wide n Try.prog 160 #[.func (.yield l) #[] #[], .pointer (some ⟨Bs, 0, none⟩)] W fun e W' => (∃ v, e = .returned v) ∧
      ((∃ ys, ys = List.range L.length ∧ J ys W') ∨ (∃ pre, (∃ k, k ≤ L.length ∧ pre = List.range k) ∧ Jx pre W')) := by
  have HA := Lib.hid hA; clear hA
  refine callsIn_of_wp Try.func160 rfl trivial ?_ rfl
  simp only [Try.ntmps160, List.size_toArray, List.length_cons, List.length_nil, Nat.reduceAdd, Nat.reduceSub, Array.replicate_succ, Array.replicate_zero, List.push_toArray, List.append_toArray, List.nil_append, List.cons_append]
  gi_wp2
  gi_loopw [7] (fun i wr => ∃ k : Nat, k ≤ L.length ∧ i = .int .i64 k ∧ J (List.range k) wr ∧ KeepG g Bs W wr)
    (fun i _ => L.length - (intOf i).toNat)
  case atStart => exact ⟨0, Nat.zero_le _, rfl, h0, KeepG.refl _ _ _⟩
  case round =>
    obtain ⟨k, hk, rfl, hJs, hnx⟩ := hrel
    have hsz : W.heap.size ≤ wr.heap.size := hnx.1
    have hbox : wr.cell? ⟨Bs, 0, none⟩ = some (.slice (some ⟨g, 0, none⟩) L.length c) := cell_same hnx.2.2 hBs
    by_cases hlt : k < L.length
    · obtain ⟨c1, c2⟩ := gt_cells (ptsA_same hnx.2.1 HA.out) hlt
      obtain ⟨m, hm⟩ : ∃ m, m = nx L k := ⟨_, rfl⟩
      have hml : m < L.length := by rw [hm]; exact (next_int (i := k) h1).2
      have e2 : ((k : Int) + 1) % (L.length : Int) = (m : Int) := by rw [hm]; unfold nx; exact (Int.natCast_emod (k + 1) L.length).symm
      obtain ⟨d1, d2⟩ := gt_cells (ptsA_same hnx.2.1 HA.out) hml
      obtain ⟨x, hx⟩ : ∃ x, x = (gt L k).1 := ⟨_, rfl⟩
      obtain ⟨y, hy⟩ : ∃ y, y = (gt L k).2 := ⟨_, rfl⟩
      obtain ⟨x', hx'⟩ : ∃ x', x' = (gt L m).1 := ⟨_, rfl⟩
      obtain ⟨y', hy'⟩ : ∃ y', y' = (gt L m).2 := ⟨_, rfl⟩
      rw [← hx] at c1; rw [← hy] at c2; rw [← hx'] at d1; rw [← hy'] at d2
      have HV : Hid (sideV L k = .agg #[.int .i64 x, .int .i64 y, .int .i64 x', .int .i64 y']) := by
        show _ = _
        rw [hx, hy, hx', hy', hm]; rfl
      clear hx hy hx' hy' hm
      have hb0 := below1 wr (.cells #[.int .i64 x, .int .i64 y] 27)
      have A0 := at_new wr x y 27
      have k1 := cell_regrown A0.c0
      have k2 := cell_regrown A0.c1
      have k3 := cell_regrown (cell_on hb0 rfl d1)
      have k4 := cell_regrown (cell_on hb0 rfl d2)
      have k5 := cell_regrown (cell_on hb0 rfl hbox)
      have hJ1 : J (List.range k) (wr.alloc (.cells #[.int .i64 x, .int .i64 y] 27)) := hJ _ _ _ none hJs (grown_of_below hb0) (fun r e => by cases e)
      gi_wp2
      refine region_tail_in 12 wide0 (by kernel_rfl) (by kernel_rfl) (by kernel_rfl) ?_
      simp only [List.take_succ_cons, List.take_zero, List.drop_succ_cons, List.drop_zero]
      repeat (first
        | go_big_quiet_step (fail)
        | quiet_step (fail))
      refine wpQuiet_nil ?_
      rintro _ ⟨⟨dq, osq⟩, rfl⟩
      have hb1 := hb0.trans ((below_regrown _ dq osq).mono (by simp))
      have hJ2 : J (List.range k) (grow (redrawn (wr.alloc (.cells #[.int .i64 x, .int .i64 y] 27)) dq) osq) := hJ _ _ _ none hJs (grown_of_below hb1) (fun r e => by cases e)
      clear k1 k2 k3 k4 k5 c1 c2 d1 d2 hJ1 A0
      generalize grow (redrawn (wr.alloc (.cells #[.int .i64 x, .int .i64 y] 27)) dq) osq = w2 at *
      obtain ⟨fn, tmps, assign, body, hy, hR⟩ := hY _ k w2 hlt hJ2 (by rw [List.length_range]; exact hlt)
      rw [HV.out] at hy
      gi_wp2
      refine ⟨fun e => (by cases e), hR.mono ?_⟩
      have hk2 : KeepG g Bs W w2 := keepG_t hnx (KeepG.of_below hb1 (by omega) (by omega))
      rintro e W3 (⟨rfl, hJ3, hk3⟩ | ⟨rfl, hJx3⟩)
      · gi_wp2
        go_roundw
        case rel => exact ⟨k + 1, by omega, by go_num, by rw [List.range_succ]; exact hJ3, keepG_t hk2 hk3⟩
        case measure => simp [intOf]; omega
      · gi_wp2
        refine bodyPost_ret (results_none rfl _ _ _) rfl ?_
        exact ⟨⟨_, rfl⟩, .inr ⟨_, ⟨k + 1, by omega, List.range_succ.symm⟩, hJx3⟩⟩
    · obtain rfl : k = L.length := by omega
      gi_wp2
      go_end0
      exact ⟨⟨_, rfl⟩, .inl ⟨_, rfl, hJs⟩⟩
/-- **The iterator of the sides.** -/
theorem sidesG_stops (n Bs g c : Nat) (L : List (Int × Int)) (w : World) (h1 : 1 ≤ L.length) (h2 : L.length ≤ 1048576) (hgl : g < w.heap.size) (hA : PtsA w (some ⟨g, 0, none⟩) L) (hBl : Bs < w.heap.size) (hBs : w.cell? ⟨Bs, 0, none⟩ = some (.slice (some ⟨g, 0, none⟩) L.length c)) :
    SeqStopsK Fence.wide n Try.prog 160 #[.pointer (some ⟨Bs, 0, none⟩)] (fun i : Nat => #[.int .i64 (i : Int), sideV L (i % L.length)]) (KeepG g Bs) (fun ys => ys = List.range L.length) (fun pre => ∃ k, k ≤ L.length ∧ pre = List.range k) L.length w := fun l J Jx W hW hJ _ hY h0 =>
  sidesG1 n l Bs g c L h1 h2 J Jx W hJ (fun pre x W1 hx => by have := hY pre x W1; simp only [Nat.mod_eq_of_lt hx] at this; exact this) (Nat.lt_of_lt_of_le hgl hW.size) (ptsA_on hA hW) (Nat.lt_of_lt_of_le hBl hW.size) ((hW.cell (p := ⟨Bs, 0, none⟩) hBl).trans hBs) h0
/-- The iterator over no points. -/
theorem sidesN_stops (n Bs c : Nat) (A : Option Addr) (w : World) (hBl : Bs < w.heap.size) (hBs : w.cell? ⟨Bs, 0, none⟩ = some (.slice A 0 c)) :
    SeqStopsK Fence.wide n Try.prog 160 #[.pointer (some ⟨Bs, 0, none⟩)] (fun i : Nat => #[.int .i64 (i : Int), sideV [] i]) (KeepG 0 Bs) (fun ys => ys = []) (fun pre => pre = []) 0 w := fun l J Jx W hW hJ _ hY h0 => by
  have hbox := (hW.cell (p := ⟨Bs, 0, none⟩) hBl).trans hBs
  refine callsIn_of_wp Try.func160 rfl trivial ?_ rfl
  simp only [Try.ntmps160, List.size_toArray, List.length_cons, List.length_nil, Nat.reduceAdd, Nat.reduceSub, Array.replicate_succ, Array.replicate_zero, List.push_toArray, List.append_toArray, List.nil_append, List.cons_append]
  gi_wp2
  gi_loopw [7] (fun i wr => i = .int .i64 0 ∧ J [] wr) (fun i _ => 0)
  case atStart => exact ⟨rfl, h0⟩
  case round =>
    obtain ⟨rfl, hJs⟩ := hrel
    gi_wp2
    go_end0
    exact ⟨⟨_, rfl⟩, .inl ⟨_, rfl, hJs⟩⟩
end Go.Proofs.Ytbmeemmihkedoaa
