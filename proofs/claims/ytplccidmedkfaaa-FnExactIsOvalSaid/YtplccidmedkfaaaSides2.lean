/-
  The iterator of the sides over a list that lies in memory of the call's own: its block stays too.
-/
import Derived.Test.YtplccidmedkfaaaStraight
namespace Go.Proofs.Ytplccidmedkfaaa
open Go.RowKit Go.Shelf Go.Sort
attribute [local go_sem] Oper.semAt_some

def KeepQ (m B g : Nat) (W W' : World) : Prop := KeepP m B W W' ∧ W'.heap[g]? = W.heap[g]?
theorem keepQ_t {m B g : Nat} {X Y Z : World} (h : KeepQ m B g X Y) (k : KeepQ m B g Y Z) : KeepQ m B g X Z := ⟨keepP_t h.1 k.1, k.2.trans h.2⟩
theorem keepQ_b {m B g : Nat} {w : World} (hn : m ≤ w.heap.size) (hB : B < w.heap.size) (hg : g < w.heap.size) (W : World) (l : Nat) (o o' : Obj) (hl : w.heap.size ≤ l) (h : W.heap[l]? = some o) (h1 : o.isCells = false) (h2 : o.isWalk = false) : KeepQ m B g W (W.putObj l o') :=
  ⟨keepP_b hn hB W l o o' hl h h1 h2, World.putObj_heap_other (by omega)⟩
theorem KeepQ.of_below {m B g : Nat} {W W' : World} (h : Below W.heap.size W W') (hm : m ≤ W.heap.size) (hB : B < W.heap.size) (hg : g < W.heap.size) : KeepQ m B g W W' := ⟨KeepP.of_below h hm hB, h.block g hg⟩
theorem KeepQ.setCell {m B g : Nat} {W W' : World} (h : KeepQ m B g W W') {b : Nat} (hm : m ≤ b) (hB : B ≠ b) (hg : g ≠ b) (o : Nat) (v : Value) : KeepQ m B g W (W'.setCell ⟨b, o, none⟩ v) :=
  ⟨h.1.setCell hm hB o v, (Below.heap_setCell W' ⟨b, o, none⟩ v g hg).trans h.2⟩
theorem ptsA_same {W W' : World} {g : Nat} {L : List (Int × Int)} (h : PtsA W (some ⟨g, 0, none⟩) L) (e : W'.heap[g]? = W.heap[g]?) : PtsA W' (some ⟨g, 0, none⟩) L := fun k hk => by
  obtain ⟨g', hg', h1, h2⟩ := h k hk
  cases hg'
  exact ⟨g, rfl, cell_same e h1, cell_same e h2⟩

set_option maxRecDepth 100000 in
set_option maxHeartbeats 4000000 in
theorem sides1Q (n l Bs g m : Nat) (c : Nat) (L : List (Int × Int)) (h1 : 1 ≤ L.length) (h2 : L.length ≤ 1048576) (J Jx : List Nat → World → Prop) (W : World) (hA : PtsA W (some ⟨g, 0, none⟩) L) (hJ : AbidesFrom W.heap.size J)
    (hY : ∀ (pre : List Nat) (x : Nat) (W1 : World), J pre W1 → pre.length < L.length → YieldAt Fence.wide (n - 1) Try.prog l #[.int .i64 (x : Int), sideV L x] W1 fun e W' =>
      (e = .returned (.bool true) ∧ J (pre ++ [x]) W' ∧ KeepQ m Bs g W1 W') ∨ (e = .returned (.bool false) ∧ Jx (pre ++ [x]) W'))
    (hBl : Bs < W.heap.size) (hgl : g < W.heap.size) (hm : m ≤ W.heap.size) (hBs : W.cell? ⟨Bs, 0, none⟩ = some (.slice (some ⟨g, 0, none⟩) L.length c)) (h0 : J [] W) :
    CallsIn Fence.wide n Try.prog 88 #[.func (.yield l) #[] #[], .pointer (some ⟨Bs, 0, none⟩)] W fun e W' => (∃ v, e = .returned v) ∧
      ((∃ ys, ys = List.range L.length ∧ J ys W') ∨ (∃ pre, (∃ k, k ≤ L.length ∧ pre = List.range k) ∧ Jx pre W')) := by
  have HA := Lib.hid hA; clear hA
  refine callsIn_of_wp Try.func88 rfl trivial ?_ rfl
  simp only [Try.ntmps88, List.size_toArray, List.length_cons, List.length_nil, Nat.reduceAdd, Nat.reduceSub, Array.replicate_succ, Array.replicate_zero, List.push_toArray, List.append_toArray, List.nil_append, List.cons_append]
  gi_wp2
  gi_loopw [7] (fun i wr => ∃ k : Nat, k ≤ L.length ∧ i = .int .i64 k ∧ J (List.range k) wr ∧ KeepQ m Bs g W wr)
    (fun i _ => L.length - (intOf i).toNat)
  case atStart => exact ⟨0, Nat.zero_le _, rfl, h0, ⟨KeepP.refl _ _ _, rfl⟩⟩
  case round =>
    obtain ⟨k, hk, rfl, hJs, hnx⟩ := hrel
    have hsz : W.heap.size ≤ wr.heap.size := hnx.1.1.size
    have hbox : wr.cell? ⟨Bs, 0, none⟩ = some (.slice (some ⟨g, 0, none⟩) L.length c) := cell_same hnx.1.2 hBs
    by_cases hlt : k < L.length
    · have hap := ptsA_same HA.out hnx.2
      obtain ⟨c1, c2⟩ := gt_cells hap hlt
      obtain ⟨q, hq⟩ : ∃ q, q = nx L k := ⟨_, rfl⟩
      have hql : q < L.length := by rw [hq]; exact (next_int (i := k) h1).2
      have e2 : ((k : Int) + 1) % (L.length : Int) = (q : Int) := by rw [hq]; unfold nx; exact (Int.natCast_emod (k + 1) L.length).symm
      obtain ⟨d1, d2⟩ := gt_cells hap hql
      obtain ⟨x, hx⟩ : ∃ x, x = (gt L k).1 := ⟨_, rfl⟩
      obtain ⟨y, hy⟩ : ∃ y, y = (gt L k).2 := ⟨_, rfl⟩
      obtain ⟨x', hx'⟩ : ∃ x', x' = (gt L q).1 := ⟨_, rfl⟩
      obtain ⟨y', hy'⟩ : ∃ y', y' = (gt L q).2 := ⟨_, rfl⟩
      rw [← hx] at c1; rw [← hy] at c2; rw [← hx'] at d1; rw [← hy'] at d2
      have HV : Hid (sideV L k = .agg #[.int .i64 x, .int .i64 y, .int .i64 x', .int .i64 y']) := by
        show _ = _
        rw [hx, hy, hx', hy', hq]; rfl
      clear hx hy hx' hy' hq hap
      have hb0 := below1 wr (.cells #[.int .i64 x, .int .i64 y] 27)
      have A0 := at_new wr x y 27
      have k1 := cell_regrown A0.c0
      have k2 := cell_regrown A0.c1
      have k3 := cell_regrown (cell_on hb0 rfl d1)
      have k4 := cell_regrown (cell_on hb0 rfl d2)
      have k5 := cell_regrown (cell_on hb0 rfl hbox)
      have hJ1 : J (List.range k) (wr.alloc (.cells #[.int .i64 x, .int .i64 y] 27)) := hJ _ _ _ none hJs (grown_of_below hb0) (fun r e => by cases e)
      gi_wp2
      refine region_tail_in 12 wide0 (by kernel_rfl) (by kernel_rfl) (by kernel_rfl) ?_
      simp only [List.take_succ_cons, List.take_zero, List.drop_succ_cons, List.drop_zero]
      repeat (first
        | go_big_quiet_step (fail)
        | quiet_step (fail))
      refine wpQuiet_nil ?_
      rintro _ ⟨⟨dq, osq⟩, rfl⟩
      have hb1 := hb0.trans ((below_regrown _ dq osq).mono (by simp))
      have hJ2 : J (List.range k) (grow (redrawn (wr.alloc (.cells #[.int .i64 x, .int .i64 y] 27)) dq) osq) := hJ _ _ _ none hJs (grown_of_below hb1) (fun r e => by cases e)
      clear k1 k2 k3 k4 k5 c1 c2 d1 d2 hJ1 A0
      generalize grow (redrawn (wr.alloc (.cells #[.int .i64 x, .int .i64 y] 27)) dq) osq = w2 at *
      obtain ⟨fn, tmps, assign, body, hy, hR⟩ := hY _ k w2 hJ2 (by rw [List.length_range]; exact hlt)
      rw [HV.out] at hy
      gi_wp2
      refine ⟨fun e => (by cases e), hR.mono ?_⟩
      have hk2 : KeepQ m Bs g W w2 := keepQ_t hnx (KeepQ.of_below hb1 (Nat.le_trans hm hsz) (by omega) (by omega))
      rintro e W3 (⟨rfl, hJ3, hk3⟩ | ⟨rfl, hJx3⟩)
      · gi_wp2
        go_roundw
        case rel => exact ⟨k + 1, by omega, by go_num, by rw [List.range_succ]; exact hJ3, keepQ_t hk2 hk3⟩
        case measure => simp [intOf]; omega
      · gi_wp2
        refine bodyPost_ret (results_none rfl _ _ _) rfl ?_
        exact ⟨⟨_, rfl⟩, .inr ⟨_, ⟨k + 1, by omega, List.range_succ.symm⟩, hJx3⟩⟩
    · obtain rfl : k = L.length := by omega
      gi_wp2
      go_end0
      exact ⟨⟨_, rfl⟩, .inl ⟨_, rfl, hJs⟩⟩

/-- **The iterator of the sides**, over a list of the call's own. -/
theorem sidesQ_stops (n Bs g m : Nat) (c : Nat) (L : List (Int × Int)) (w : World) (h1 : 1 ≤ L.length) (h2 : L.length ≤ 1048576) (hA : PtsA w (some ⟨g, 0, none⟩) L) (hBl : Bs < w.heap.size) (hgl : g < w.heap.size) (hm : m ≤ w.heap.size) (hBs : w.cell? ⟨Bs, 0, none⟩ = some (.slice (some ⟨g, 0, none⟩) L.length c)) :
    SeqStopsK Fence.wide n Try.prog 88 #[.pointer (some ⟨Bs, 0, none⟩)] (fun i : Nat => #[.int .i64 (i : Int), sideV L i]) (KeepQ m Bs g) (fun ys => ys = List.range L.length) (fun pre => ∃ k, k ≤ L.length ∧ pre = List.range k) L.length w := fun l J Jx W hW hJ _ hY h0 =>
  sides1Q n l Bs g m c L h1 h2 J Jx W (ptsA_on hA hW) hJ hY (Nat.lt_of_lt_of_le hBl hW.size) (Nat.lt_of_lt_of_le hgl hW.size) (Nat.le_trans hm hW.size) ((hW.cell (p := ⟨Bs, 0, none⟩) hBl).trans hBs) h0
end Go.Proofs.Ytplccidmedkfaaa
