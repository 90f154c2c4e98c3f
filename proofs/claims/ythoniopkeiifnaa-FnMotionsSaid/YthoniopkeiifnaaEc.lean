/-
  Walks and facts of this seat, part Ec (merged by a script of this repo out of smaller texts).
-/
import Derived.Test.YthoniopkeiifnaaEb
import Derived.Maps.AppendAt
/-! RowsP -/
namespace Go.Proofs.Ythoniopkeiifnaa
open Go.RowKit

/-- A row: its block, its capacity, its points. -/
structure Rp where
  g : Nat
  cap : Nat
  M : List Pt
def hdrP (r : Rp) : Value := .slice (some ⟨r.g, 0, none⟩) r.M.length r.cap
theorem hdrP_own (r : Rp) : (hdrP r).ownBlock = some r.g := rfl
structure RowsP (w : World) (B : Nat) (v : Value) (Rs : List Rp) : Prop where
  out : w.ownsRow B 34 1 v Rs.length (Rs.map hdrP)
  row : ∀ r ∈ Rs, w.ownsRow B 45 2 (hdrP r) r.M.length (flat r.M)
  far : ∀ r ∈ Rs, v.ownBlock ≠ some r.g
theorem rowsP_nil (w : World) (B : Nat) : RowsP w B (.slice none 0 0) [] :=
  ⟨World.ownsRow_nil _ _ _ _, fun r h => (by cases h), fun r h => (by cases h)⟩
theorem RowsP.below {w w' : World} {B : Nat} {v : Value} {Rs : List Rp} (h : RowsP w B v Rs) (hb : Below w.heap.size w w') : RowsP w' B v Rs :=
  ⟨own_below h.out hb, fun r hr => own_below (h.row r hr) hb, h.far⟩
theorem RowsP.lt {w : World} {B : Nat} {v : Value} {Rs : List Rp} (h : RowsP w B v Rs) {r : Rp} (hr : r ∈ Rs) : B ≤ r.g ∧ r.g < w.heap.size := (h.row r hr).lt r.g rfl
theorem RowsP.form {w : World} {B : Nat} {v : Value} {Rs : List Rp} (h : RowsP w B v Rs) : ∃ A c, v = .slice A Rs.length c ∧ ∀ i (hi : i < Rs.length), ∃ g, A = some ⟨g, 0, none⟩ ∧ w.cell? ⟨g, i, none⟩ = some (hdrP Rs[i]) := by
  rcases h.out.2 with ⟨rfl, h0⟩ | ⟨g, cap, cur, rfl, hg, hh, _⟩
  · exact ⟨none, 0, by rw [h0], fun k hk => by omega⟩
  · refine ⟨some ⟨g, 0, none⟩, cap, rfl, fun k hk => ⟨g, rfl, ?_⟩⟩
    rw [h.out.cellAt k (by omega)]
    simp [hk]
theorem ptsA_row {w : World} {B : Nat} {r : Rp} (h : w.ownsRow B 45 2 (hdrP r) r.M.length (flat r.M)) : PtsA w (some ⟨r.g, 0, none⟩) r.M := ptsA_of (c := r.cap) h
/-- Two rows more. -/
theorem RowsP.snoc2 {w w1 w2 w3 : World} {B : Nat} {v v' : Value} {Rs : List Rp} {a b : Rp} (h : RowsP w B v Rs) (h1 : Below w.heap.size w w1) (ha : w1.ownsRow B 45 2 (hdrP a) a.M.length (flat a.M)) (hb : w1.ownsRow B 45 2 (hdrP b) b.M.length (flat b.M))
    (hla : w.heap.size ≤ a.g) (hlb : w.heap.size ≤ b.g)
    (h2 : w1.grownBy w2 none) (ho : w3.ownsRow B 34 1 v' (Rs.length + 2) (Rs.map hdrP ++ [hdrP a, hdrP b])) (h3 : w2.grownBy w3 v.ownBlock) (hl : v'.ownBlock = v.ownBlock ∨ v'.ownBlock = some w2.heap.size) : RowsP w3 B v' (Rs ++ [a, b]) := by
  have hal := (ha.lt a.g rfl).2
  have hbl := (hb.lt b.g rfl).2
  have hvl : ∀ b, v.ownBlock = some b → b < w.heap.size := fun b hb => (h.out.lt b hb).2
  have hs1 := h1.size; have hs2 := h2.size
  refine ⟨by simpa using ho, ?_, ?_⟩
  · intro x hx
    rcases List.mem_append.1 hx with hx | hx
    · exact ((own_below (h.row x hx) h1).kept h2 (.inr (by simp [hdrP_own]))).kept h3 (.inr (fun e => h.far x hx (by rw [← e, hdrP_own])))
    · simp only [List.mem_cons, List.not_mem_nil, or_false] at hx
      rcases hx with rfl | rfl
      · refine (ha.kept h2 (.inr (by simp [hdrP_own]))).kept h3 (.inr (fun e => ?_))
        have := hvl x.g (by rw [← e, hdrP_own])
        omega
      · refine (hb.kept h2 (.inr (by simp [hdrP_own]))).kept h3 (.inr (fun e => ?_))
        have := hvl x.g (by rw [← e, hdrP_own])
        omega
  · intro x hx e
    rcases hl with q | q
    · rw [q] at e
      rcases List.mem_append.1 hx with hx | hx
      · exact h.far x hx e
      · simp only [List.mem_cons, List.not_mem_nil, or_false] at hx
        have := hvl _ e
        rcases hx with rfl | rfl <;> omega
    · rw [q] at e
      have e := Option.some.inj e
      rcases List.mem_append.1 hx with hx | hx
      · have := (h.lt hx).2; omega
      · simp only [List.mem_cons, List.not_mem_nil, or_false] at hx
        rcases hx with rfl | rfl <;> omega

theorem cmpPt_any (ax ay bx by' : Int) (w : World) :
    Calls Try.prog 148 #[(.agg #[.int .i64 ax, .int .i64 ay]), (.agg #[.int .i64 bx, .int .i64 by'])] w fun e w' => e = .returned (.int .i64 (cmpI (ax, ay) (bx, by'))) ∧ Below w.heap.size w w' :=
  (cmp_any ax ay bx by' w).mono fun e w' ⟨h1, os, h2⟩ => ⟨h1, by rw [h2]; exact below_grow w os⟩

def minQ (q : List Pt) (k : Nat) : Pt := minPT q (k - 1)
theorem minQ_step (q : List Pt) {k : Nat} (h : 1 ≤ k) : minQ q (k + 1) = if befP (gt q k) (minQ q k) = true then gt q k else minQ q k := by
  obtain ⟨j, rfl⟩ : ∃ j, k = j + 1 := ⟨k - 1, by omega⟩
  rfl
set_option maxRecDepth 100000 in
set_option maxHeartbeats 1000000 in
theorem minPt_any (A : Option Addr) (c : Nat) (L : List Pt) (w : World) (hA : PtsA w A L) (h1 : 1 ≤ L.length) (h2 : L.length ≤ 1048576) :
    Calls Try.prog 147 #[.slice A L.length c, .func (.func 148) #[] #[]] w fun e w' => e = .returned (.agg #[.int .i64 (minP L).1, .int .i64 (minP L).2]) ∧ Below w.heap.size w w' := by
  obtain ⟨g, rfl, -⟩ := hA 0 (by omega)
  obtain ⟨c1, c2⟩ := gt_cells hA (i := 0) (by omega)
  simp only [Nat.zero_mul, Nat.zero_add] at c1 c2
  obtain ⟨X, hX⟩ : ∃ X, X = (gt L 0).1 := ⟨_, rfl⟩
  obtain ⟨Y, hY⟩ : ∃ Y, Y = (gt L 0).2 := ⟨_, rfl⟩
  have H0 : Hid (minQ L 1 = (X, Y)) := by
    show _ = _
    rw [hX, hY]; rfl
  have HE : Hid (minP L = minQ L L.length) := rfl
  rw [← hX] at c1; rw [← hY] at c2
  have hn1 : (0 : Int) < (L.length : Int) := by omega
  have hn2 : ¬ (L.length : Int) < 1 := by omega
  have hal := below1 w (.cells #[.int .i64 0, .int .i64 0] 45)
  have d1 := cell_on hal rfl c1; have d2 := cell_on hal rfl c2
  have z0 := (at_new w 0 0 45).alloc (.cells #[.int .i64 X, .int .i64 Y] 45)
  have a0 := at_new (w.alloc (.cells #[.int .i64 0, .int .i64 0] 45)) X Y 45
  rw [size_alloc] at a0
  have b0 := below2 w (.cells #[.int .i64 0, .int .i64 0] 45) (.cells #[.int .i64 X, .int .i64 Y] 45)
  have HA := Lib.hid hA
  clear hX hY hA c1 c2 hal
  go_enter Try.func147, Try.ntmps147
  go_wp2_with fail
  generalize (w.alloc (.cells #[.int .i64 0, .int .i64 0] 45)).alloc (.cells #[.int .i64 X, .int .i64 Y] 45) = W at *
  clear d1 d2
  go_loopw [6] (fun i wr => ∃ k : Nat, 1 ≤ k ∧ k ≤ L.length ∧ i = .int .i64 k ∧ At wr (w.heap.size + 1) (minQ L k).1 (minQ L k).2 45 ∧ At wr w.heap.size 0 0 45 ∧ Below w.heap.size w wr) (fun i _ => L.length - (intOf i).toNat)
  case atStart => exact ⟨1, by omega, by omega, rfl, by rw [H0.out]; exact a0, z0, b0⟩
  case round =>
    clear a0 z0 b0 H0
    obtain ⟨wo, rfl⟩ : ∃ wo : World, wo = wr := ⟨_, rfl⟩
    obtain ⟨k, hk1, hk, rfl, a0, z0, hb⟩ := hrel
    by_cases hlt : k < L.length
    · obtain ⟨d5, d6⟩ := gt_cells (ptsA_on HA.out hb) hlt
      have HS := Lib.hid (minQ_step L hk1)
      have HC := Lib.hid (fun w => cmpPt_any (gt L k).1 (gt L k).2 (minQ L k).1 (minQ L k).2 w)
      have HZ := Lib.hid (cmpI_neg (x := gt L k) (y := minQ L k))
      have e1 : (((gt L k).1, (gt L k).2) : Pt) = gt L k := rfl
      have e2 : (((minQ L k).1, (minQ L k).2) : Pt) = minQ L k := rfl
      rw [e1, e2] at HC
      clear e1 e2
      generalize cmpI (gt L k) (minQ L k) = z at *
      have c5 := a0.c0; have c6 := a0.c1
      have hg := a0.lt
      cases hbf : befP (gt L k) (minQ L k)
      · rw [hbf] at HZ HS
        have hz : ¬ z < 0 := fun h => by have := HZ.out.1 h; cases this
        have HS2 : Hid (minQ L (k + 1) = minQ L k) := by
          show _ = _
          rw [HS.out]; simp
        clear HS HZ hbf
        generalize (gt L k).1 = x at *
        generalize (gt L k).2 = y at *
        obtain ⟨u, hu⟩ : ∃ u, u = (minQ L k).1 := ⟨_, rfl⟩
        obtain ⟨v, hv⟩ : ∃ v, v = (minQ L k).2 := ⟨_, rfl⟩
        have HUV : Hid (u = (minQ L k).1 ∧ v = (minQ L k).2) := ⟨hu, hv⟩
        rw [← hu, ← hv] at HC a0
        rw [← hu] at c5; rw [← hv] at c6
        clear hu hv
        have k1 := cell_regrown c5; have k2 := cell_regrown c6; have k3 := cell_regrown d5; have k4 := cell_regrown d6
        go_wp2_with fail
        refine wp_region_quiet_below (by kernel_rfl) (by kernel_rfl) ?_
        repeat (first
          | go_big_quiet_step (first | exact Calls.regrown_of (HC.out _))
          | quiet_step (first | exact Calls.regrown_of (HC.out _)))
        refine wpQuiet_nil ?_
        rintro _ ⟨⟨dq, osq⟩, rfl⟩
        have a5 := a0.step (below_regrown wo dq osq)
        have z5 := z0.step (below_regrown wo dq osq)
        have b5 := below_on hb (below_regrown wo dq osq)
        have R := Lib.hid (And.intro a5 (And.intro z5 b5))
        clear k1 k2 k3 k4 c5 c6 d5 d6 a0 z0 hb a5 z5 b5
        simp only at *
        generalize Go.Sort.grow (redrawn wo dq) osq = w5 at *
        go_wp2_with fail
        go_roundw
        case rel => exact ⟨k + 1, by omega, by omega, by go_num, by rw [HS2.out, ← HUV.out.1, ← HUV.out.2]; exact R.out.1, R.out.2.1, R.out.2.2⟩
        case measure => simp [intOf]; omega
      · rw [hbf] at HZ HS
        have hz : z < 0 := HZ.out.2 rfl
        have HS2 : Hid (minQ L (k + 1) = gt L k) := by
          show _ = _
          rw [HS.out]; simp
        clear HS HZ hbf
        obtain ⟨x, hx⟩ : ∃ x, x = (gt L k).1 := ⟨_, rfl⟩
        obtain ⟨y, hy⟩ : ∃ y, y = (gt L k).2 := ⟨_, rfl⟩
        have HXY : Hid (x = (gt L k).1 ∧ y = (gt L k).2) := ⟨hx, hy⟩
        rw [← hx] at d5; rw [← hy] at d6
        rw [← hx, ← hy] at HC
        clear hx hy
        generalize (minQ L k).1 = u at *
        generalize (minQ L k).2 = v at *
        have k1 := cell_regrown c5; have k2 := cell_regrown c6; have k3 := cell_regrown d5; have k4 := cell_regrown d6
        go_wp2_with fail
        refine wp_region_quiet_below (by kernel_rfl) (by kernel_rfl) ?_
        repeat (first
          | go_big_quiet_step (first | exact Calls.regrown_of (HC.out _))
          | quiet_step (first | exact Calls.regrown_of (HC.out _)))
        refine wpQuiet_nil ?_
        rintro _ ⟨⟨dq, osq⟩, rfl⟩
        have a5 := a0.step (below_regrown wo dq osq)
        have z5 := z0.step (below_regrown wo dq osq)
        have b5 := below_on hb (below_regrown wo dq osq)
        have e5 := k3 dq osq; have e6 := k4 dq osq
        clear k1 k2 k3 k4 c5 c6 d5 d6 a0 z0 hb hg
        simp only at *
        generalize Go.Sort.grow (redrawn wo dq) osq = w5 at *
        have v1 := a5.c0; have v2 := a5.c1
        have f1 := at_frozen a5 0; have f2 := at_frozen a5 1
        have v5 := (at_store a5 x 0).c1
        have a6 := at_store1 (at_store a5 x 0) y
        have z6 := at_set (at_set z5 (b := w.heap.size + 1) (by omega) 0 (.int .i64 x)) (b := w.heap.size + 1) (by omega) 1 (.int .i64 y)
        have hsw : w.heap.size ≤ w.heap.size + 1 := Nat.le_succ _
        have b6 := (b5.setCell (p := ⟨w.heap.size + 1, 0, none⟩) hsw (.int .i64 x)).setCell (p := ⟨w.heap.size + 1, 1, none⟩) hsw (.int .i64 y)
        have R := Lib.hid (And.intro a6 (And.intro z6 b6))
        clear a5 z5 b5 a6 z6 b6
        go_wp2_with fail
        go_roundw
        case rel => exact ⟨k + 1, by omega, by omega, by go_num, by rw [HS2.out, ← HXY.out.1, ← HXY.out.2]; exact R.out.1, R.out.2.1, R.out.2.2⟩
        case measure => simp [intOf]; omega
    · obtain rfl : k = L.length := by omega
      rw [← HE.out] at a0
      obtain ⟨u, hu⟩ : ∃ u, u = (minP L).1 := ⟨_, rfl⟩
      obtain ⟨v, hv⟩ : ∃ v, v = (minP L).2 := ⟨_, rfl⟩
      have HUV : Hid (Value.agg #[.int .i64 (minP L).1, .int .i64 (minP L).2] = .agg #[.int .i64 u, .int .i64 v]) := by
        show _ = _
        rw [hu, hv]
      rw [← hu, ← hv] at a0
      clear hu hv HE
      have c1 := a0.c0; have c2 := a0.c1
      have f1 := at_frozen z0 0; have f2 := at_frozen z0 1
      have v5 := (at_store z0 u 0).c1
      have v6 := z0.c0; have v7 := z0.c1
      have z3 := at_store1 (at_store z0 u 0) v
      have d1 := z3.c0; have d2 := z3.c1
      have b3 := (hb.setCell (p := ⟨w.heap.size, 0, none⟩) (Nat.le_refl _) (.int .i64 u)).setCell (p := ⟨w.heap.size, 1, none⟩) (Nat.le_refl _) (.int .i64 v)
      clear a0 z0 hb z3
      go_wp2_with fail
      exact bodyPost_ret (v := .agg #[.int .i64 u, .int .i64 v]) (by simp [results, Try.results147, go_sem, d1, d2]) rfl ⟨by rw [HUV.out], b3⟩
end Go.Proofs.Ythoniopkeiifnaa

/-! ShapeS -/
namespace Go.Proofs.Ythoniopkeiifnaa
open Go.RowKit

def bestK (q c : List Pt) (k : Nat) : List Pt := minB c ((List.range k).flatMap (bothK q))
theorem minB_append (c : List Pt) (xs ys : List (List Pt)) : minB c (xs ++ ys) = minB (minB c xs) ys := List.foldl_append
theorem bestK_step (q c : List Pt) (k : Nat) : bestK q c (k + 1) = stepB (stepB (bestK q c k) (rotL q k)) (turnL (rotL q k)) := by
  unfold bestK
  rw [List.range_succ, List.flatMap_append, minB_append]
  simp [bothK, minB]
def bestM (s : List Pt) (m : Nat) : List Pt := minB (moveL s 0) ((List.range m).flatMap fun j => allK (moveL s j))
theorem bestM_step (s : List Pt) (m : Nat) : bestM s (m + 1) = bestK (moveL s m) (bestM s m) (moveL s m).length := by
  unfold bestM bestK
  rw [List.range_succ, List.flatMap_append, minB_append]
  simp [allK]
theorem bestM_all (s : List Pt) : bestM s 8 = shapeL s := rfl
theorem stepB_yes {c x : List Pt} (h : befL x c = true) : stepB c x = x := if_pos h
theorem stepB_no {c x : List Pt} (h : befL x c = false) : stepB c x = c := if_neg (by rw [h]; exact Bool.false_ne_true)
def shapeV (L : List Pt) : List Pt := bif polyB L then shapeL (straightL L) else []
theorem shapeL_len {s : List Pt} (h : 0 < s.length) : (shapeL s).length = s.length := by
  rcases List.mem_cons.1 (minB_mem (allS s) (moveL s 0)) with e | e
  · rw [shapeL, e]; exact moveL_len s 0
  · obtain ⟨m, _, k, _, hk⟩ := allS_mem.1 e
    rw [shapeL, both_len (by rw [moveL_len]; exact h) hk, moveL_len]

end Go.Proofs.Ythoniopkeiifnaa

/-! SzTwo -/
namespace Go.Proofs.Ythoniopkeiifnaa
open Go.RowKit
end Go.Proofs.Ythoniopkeiifnaa

/-! Law6E -/
namespace Go.Proofs.Ythoniopkeiifnaa
open Go.RowKit

set_option maxRecDepth 100000 in
set_option maxHeartbeats 1000000 in
theorem cf_any (A B : Option Addr) (c d : Nat) (L M : List Pt) (w : World) (hA : PtsA w A L) (hB : PtsA w B M) (hl : L.length = M.length) (h1 : L.length ≤ 1048576) :
    Calls Try.prog 175 #[.slice A L.length c, .slice B M.length d, .func (.func 148) #[] #[]] w fun e w' => e = .returned (.int .i64 (cmpL L M)) ∧ Below w.heap.size w w' := by
  have HA := Lib.hid hA
  have HB := Lib.hid hB
  have HL := Lib.hid hl
  obtain ⟨n, hn⟩ : ∃ n, n = L.length := ⟨_, rfl⟩
  have HN := Lib.hid hn
  have hm : M.length = n := by omega
  have hn2 : n ≤ 1048576 := by omega
  rw [hm, ← hn]
  clear hA hB hl hn hm h1
  go_enter Try.func175, Try.ntmps175
  go_wp2_with fail
  go_loopw [7, 8, 9, 10, 13] (fun _ _ _ _ i wr => ∃ k : Nat, k ≤ n ∧ i = .int .i64 k ∧ Hid (L.take k = M.take k) ∧ Below w.heap.size w wr) (fun _ _ _ _ i _ => n - (intOf i).toNat)
  case atStart => exact ⟨0, Nat.zero_le _, rfl, rfl, Below.refl _ _⟩
  case round =>
    obtain ⟨wo, rfl⟩ : ∃ wo : World, wo = wr := ⟨_, rfl⟩
    obtain ⟨k, hk, rfl, HK, hb⟩ := hrel
    by_cases hlt : k < n
    · have hkL : k < L.length := by have := HN.out; omega
      have hkM : k < M.length := by have := HN.out; have := HL.out; omega
      obtain ⟨g1, rfl, -⟩ := HA.out k hkL
      obtain ⟨g2, rfl, -⟩ := HB.out k hkM
      obtain ⟨c1, c2⟩ := gt_cells (ptsA_on HA.out hb) hkL
      obtain ⟨c3, c4⟩ := gt_cells (ptsA_on HB.out hb) hkM
      have HC := Lib.hid (fun w => cmpPt_any (gt L k).1 (gt L k).2 (gt M k).1 (gt M k).2 w)
      have e1 : (((gt L k).1, (gt L k).2) : Pt) = gt L k := rfl
      have e2 : (((gt M k).1, (gt M k).2) : Pt) = gt M k := rfl
      rw [e1, e2] at HC
      clear e1 e2
      have HCL : Hid (cmpI (gt L k) (gt M k) ≠ 0 → cmpL L M = cmpI (gt L k) (gt M k)) := fun h => cmpL_at k L M hkL hkM HK.out h
      have HEQ : Hid (cmpI (gt L k) (gt M k) = 0 → L.take (k + 1) = M.take (k + 1)) := fun h => take_step hkL hkM HK.out (cmpI_zero.1 h)
      generalize cmpI (gt L k) (gt M k) = z at *
      generalize (gt L k).1 = x at *
      generalize (gt L k).2 = y at *
      generalize (gt M k).1 = x' at *
      generalize (gt M k).2 = y' at *
      have hal := below1 wo (.cells #[.int .i64 x, .int .i64 y] 45)
      have d3 := cell_on hal rfl c3; have d4 := cell_on hal rfl c4
      have n1 := (at_new wo x y 45).alloc (.cells #[.int .i64 x', .int .i64 y'] 45)
      have n2 := at_new (wo.alloc (.cells #[.int .i64 x, .int .i64 y] 45)) x' y' 45
      rw [size_alloc] at n2
      have e1 := n1.c0; have e2 := n1.c1; have e3 := n2.c0; have e4 := n2.c1
      have b2 := hb.trans ((below2 wo (.cells #[.int .i64 x, .int .i64 y] 45) (.cells #[.int .i64 x', .int .i64 y'] 45)).mono hb.size)
      have hki : (k : Int) < (n : Int) := by omega
      have hki2 : ¬ (n : Int) ≤ (k : Int) := by omega
      cases hz : (z != 0)
      · have HT : Hid (L.take (k + 1) = M.take (k + 1)) := HEQ.out (by simpa using hz)
        clear HCL HEQ n1 n2 hal
        go_wp2_with fail
        refine (HC.out _).mono ?_
        rintro e w5 ⟨rfl, hb5⟩
        have b5 := below_on b2 hb5
        clear c1 c2 c3 c4 d3 d4 e1 e2 e3 e4 b2 hb5
        go_wp2_with fail
        go_roundw
        case rel => exact ⟨k + 1, by omega, by go_num, HT, b5⟩
        case measure => simp [intOf]; omega
      · have HT : Hid (cmpL L M = z) := HCL.out (by simpa using hz)
        clear HCL HEQ n1 n2 hal
        go_wp2_with fail
        refine (HC.out _).mono ?_
        rintro e w5 ⟨rfl, hb5⟩
        have b5 := below_on b2 hb5
        clear c1 c2 c3 c4 d3 d4 e1 e2 e3 e4 b2 hb5
        go_wp2_with fail
        go_ret
        exact ⟨ret_int HT.out.symm, b5⟩
    · obtain rfl : k = n := by omega
      have HD : Hid (cmpL L M = 0) := by
        have h3 := HK.out
        rw [List.take_of_length_le (by have := HN.out; omega), List.take_of_length_le (by have := HN.out; have := HL.out; omega)] at h3
        show _ = _
        rw [h3]; exact cmpL_self M
      go_wp2_with fail
      go_ret
      exact ⟨ret_int HD.out.symm, hb⟩
theorem cc_any (A B : Option Addr) (c d : Nat) (L M : List Pt) (w : World) (hA : PtsA w A L) (hB : PtsA w B M) (hl : L.length = M.length) (h1 : L.length ≤ 1048576) :
    Calls Try.prog 150 #[.slice A L.length c, .slice B M.length d] w fun e w' => e = .returned (.int .i64 (cmpL L M)) ∧ Below w.heap.size w w' := by
  have HC := Lib.hid (cf_any A B c d L M w hA hB hl h1)
  clear hA hB hl
  go_enter Try.func150, Try.ntmps150
  go_wp2_with fail
  refine HC.out.mono ?_
  rintro e w5 ⟨rfl, hb5⟩
  go_wp2_with fail
  go_ret
  exact ⟨rfl, hb5⟩
theorem minL_step (Ms : List (List Pt)) {k : Nat} (h1 : 1 ≤ k) (hk : k < Ms.length) : minL (Ms.take (k + 1)) = stepB (minL (Ms.take k)) Ms[k] := by
  cases Ms with
  | nil => simp at hk
  | cons c xs =>
    obtain ⟨j, rfl⟩ : ∃ j, k = j + 1 := ⟨k - 1, by omega⟩
    have hj : j < xs.length := by simpa using hk
    simp only [List.take_succ_cons, minL, List.getElem_cons_succ]
    rw [List.take_succ_eq_append_getElem hj, minB_append]; rfl
/-- One of the rows, the first one. -/
def RowMin (Rs : List Rp) (w : World) (e : Ending) (w' : World) : Prop := ∃ r ∈ Rs, e = .returned (hdrP r) ∧ r.M = minL (Rs.map Rp.M) ∧ Below w.heap.size w w'
set_option maxRecDepth 100000 in
set_option maxHeartbeats 1000000 in
theorem minRow_any (B : Nat) (v : Value) (Rs : List Rp) (n : Nat) (w : World) (h : RowsP w B v Rs) (h1 : 1 ≤ Rs.length) (h2 : Rs.length ≤ 1000) (hn : n ≤ 10) (hl : ∀ r ∈ Rs, r.M.length = n) :
    Calls Try.prog 149 #[v, .func (.func 150) #[] #[]] w (RowMin Rs w) := by
  obtain ⟨A, c, rfl, C⟩ := h.form
  obtain ⟨g, rfl, c0⟩ := C 0 (by omega)
  have HC : Hid (∀ i (hi : i < Rs.length), w.cell? ⟨g, i, none⟩ = some (hdrP Rs[i])) := fun i hi => by
    obtain ⟨g', e, q⟩ := C i hi
    simp only [Option.some.injEq, Addr.mk.injEq, and_true] at e
    rw [e]; exact q
  have HK : Hid (∀ r ∈ Rs, ∀ q ∈ Rs, ∀ W, Below w.heap.size w W → Calls Try.prog 150 #[hdrP r, hdrP q] W fun e w' => e = .returned (.int .i64 (cmpL r.M q.M)) ∧ Below W.heap.size W w') := fun r hr q hq W hb =>
    cc_any _ _ _ _ r.M q.M W (ptsA_on (ptsA_row (h.row r hr)) hb) (ptsA_on (ptsA_row (h.row q hq)) hb) (by rw [hl r hr, hl q hq]) (by rw [hl r hr]; omega)
  have H0 : Hid ((Rs[0]'(by omega)).M = minL ((Rs.map Rp.M).take 1)) := by
    show _ = _
    cases Rs with
    | nil => simp at h1
    | cons r rs => simp [minL, minB]
  have HM0 := Lib.hid (List.getElem_mem (l := Rs) (n := 0) (by omega))
  have HST : Hid (∀ (k : Nat) (hk : k < Rs.length), 1 ≤ k → minL ((Rs.map Rp.M).take (k + 1)) = stepB (minL ((Rs.map Rp.M).take k)) Rs[k].M) := fun k hk h1 => by
    rw [minL_step _ h1 (by simpa using hk)]; simp
  have HME : Hid (∀ (k : Nat) (hk : k < Rs.length), Rs[k] ∈ Rs) := fun k hk => List.getElem_mem hk
  have hn1 : (0 : Int) < (Rs.length : Int) := by omega
  have hn2 : ¬ (Rs.length : Int) < 1 := by omega
  have HALL : Hid ((Rs.map Rp.M).take Rs.length = Rs.map Rp.M) := List.take_of_length_le (by simp)
  obtain ⟨r0, hr0⟩ : ∃ r0, r0 = Rs[0]'(by omega) := ⟨_, rfl⟩
  rw [← hr0] at c0 H0 HM0
  obtain ⟨X, hX⟩ : ∃ X, X = hdrP r0 := ⟨_, rfl⟩
  have HX := Lib.hid hX
  rw [← hX] at c0
  clear h hl C hr0 hX
  go_enter Try.func149, Try.ntmps149
  go_wp2_with fail
  go_loopw [5, 6] (fun s i wr => ∃ (k : Nat) (r : Rp), 1 ≤ k ∧ k ≤ Rs.length ∧ i = .int .i64 k ∧ Hid (s = hdrP r) ∧ Hid (r ∈ Rs) ∧ Hid (r.M = minL ((Rs.map Rp.M).take k)) ∧ Below w.heap.size w wr) (fun _ i _ => Rs.length - (intOf i).toNat)
  case atStart => exact ⟨1, r0, by omega, by omega, rfl, HX, HM0, H0, Below.refl _ _⟩
  case round =>
    clear c0 HX HM0 H0
    obtain ⟨wo, rfl⟩ : ∃ wo : World, wo = wr := ⟨_, rfl⟩
    obtain ⟨k, r, hk1, hk, rfl, HR, HRM, HRL, hb⟩ := hrel
    by_cases hlt : k < Rs.length
    · have ck := cell_on hb rfl (HC.out k hlt)
      have HS := Lib.hid (HST.out k hlt hk1)
      have HMK := Lib.hid (HME.out k hlt)
      obtain ⟨q, hq⟩ : ∃ q, q = Rs[k] := ⟨_, rfl⟩
      rw [← hq] at ck HS HMK
      have HCC := Lib.hid (HK.out q HMK.out r HRM.out wo hb)
      rw [← HR.out] at HCC
      rw [← HRL.out] at HS
      obtain ⟨Y, hY⟩ : ∃ Y, Y = hdrP q := ⟨_, rfl⟩
      have HY := Lib.hid hY
      rw [← hY] at ck HCC
      have HZ := Lib.hid (cmpL_neg q.M r.M)
      clear hq hY
      generalize cmpL q.M r.M = z at *
      cases hbf : befL q.M r.M
      · have hz : ¬ z < 0 := fun h => by have := HZ.out.1 h; rw [hbf] at this; cases this
        have HT : Hid (r.M = minL ((Rs.map Rp.M).take (k + 1))) := by
          show _ = _
          rw [HS.out, stepB_no hbf]
        go_wp2_with fail
        refine HCC.out.mono ?_
        rintro e w5 ⟨rfl, hb5⟩
        have b5 := below_on hb hb5
        clear ck hb hb5
        go_wp2_with fail
        go_roundw
        case rel => exact ⟨k + 1, r, by omega, by omega, by go_num, HR, HRM, HT, b5⟩
        case measure => simp [intOf]; omega
      · have hz : z < 0 := HZ.out.2 hbf
        have HT : Hid (q.M = minL ((Rs.map Rp.M).take (k + 1))) := by
          show _ = _
          rw [HS.out, stepB_yes hbf]
        go_wp2_with fail
        refine HCC.out.mono ?_
        rintro e w5 ⟨rfl, hb5⟩
        have b5 := below_on hb hb5
        have ck5 := cell_on hb5 rfl ck
        clear ck hb hb5
        go_wp2_with fail
        go_roundw
        case rel => exact ⟨k + 1, q, by omega, by omega, by go_num, HY, HMK, HT, b5⟩
        case measure => simp [intOf]; omega
    · obtain rfl : k = Rs.length := by omega
      have HF : Hid (r.M = minL (Rs.map Rp.M)) := by
        show _ = _
        rw [HRL.out, HALL.out]
      go_wp2_with fail
      go_ret
      exact ⟨r, HRM.out, congrArg Ending.returned HR.out, HF.out, hb⟩

theorem infoRp : (Try.prog.info? 34).map (fun i => (i.zero, i.size, i.bytes)) = some (some (.slice none 0 0), 1, 24) := by kernel_rfl
theorem listRow {w : World} {B : Nat} {v : Value} {L : List Pt} (h : w.ownsRow B 45 2 v L.length (flat L)) (h0 : 0 < L.length) : ∃ r : Rp, r.M = L ∧ v = hdrP r ∧ B ≤ r.g := by
  obtain ⟨g, cap, e, h1, h2⟩ := h.form h0
  exact ⟨⟨g, cap, L⟩, rfl, e, h1⟩
def someT (s : List Pt) (m : Nat) : List (List Pt) := (List.range m).flatMap fun j => bothK (moveL s j) (minI' (moveL s j))
theorem someT_step (s : List Pt) (m : Nat) : someT s (m + 1) = someT s m ++ bothK (moveL s m) (minI' (moveL s m)) := by
  unfold someT
  rw [List.range_succ, List.flatMap_append]; simp
theorem someT_len (s : List Pt) : ∀ m, (someT s m).length = 2 * m
  | 0 => rfl
  | m + 1 => by
    rw [someT_step, List.length_append, someT_len s m]
    simp [bothK]; omega

set_option maxRecDepth 100000 in
set_option maxHeartbeats 4000000 in
theorem impl_shape (A : Option Addr) (c : Nat) (L : List Pt) (w : World) (hA : PtsA w A L) (hL : L.length ≤ 1048576) :
    Calls Try.prog 99 #[.slice A L.length c] w (Lists w (shapeV L)) := by
  have PC := Lib.hid (impl_poly A c L w hA hL)
  cases hp : polyB L
  · rw [hp] at PC
    have HE : Hid (shapeV L = []) := by
      show _ = _
      rw [shapeV, hp]; rfl
    rw [HE.out]
    clear hA
    go_enter Try.func99, Try.ntmps99
    go_wp2_with fail
    refine PC.out.mono ?_
    rintro e w1 ⟨rfl, hb1⟩
    go_wp2_with fail
    go_ret
    exact ⟨_, rfl, World.ownsRow_nil _ _ _ _, hb1⟩
  rw [hp] at PC
  have hps := poly_straight hp
  have HG : Hid (∀ m, m < 8 → polyB (moveL (straightL L) m) = true ∧ (moveL (straightL L) m).Nodup) := fun m hm => by
    have := good_move (poly_good hps) hm
    exact ⟨good_poly this, this.2.2.1⟩
  have HE : Hid (shapeV L = minL (someT (straightL L) 8)) := by
    show _ = _
    rw [shapeV, hp]
    exact (shape_some (by have := (polyB_all hps).1; omega) (fun m hm => (HG.out m hm).2)).symm
  rw [HE.out]
  have HS := Lib.hid (fun W (hb : Below w.heap.size w W) => impl_straight A c L W (ptsA_on hA hb) hL)
  have e1 : straightV L = straightL L := by rw [straightV, hp]; rfl
  unfold Lists at HS
  rw [e1] at HS
  obtain ⟨h3, h10, -⟩ := polyB_all hps
  have HMV : Hid (∀ m : Nat, m < 8 → moveV (straightL L) m = moveL (straightL L) m) := fun m hm => by
    unfold moveV
    rw [hps, inB_spec.2 (by omega)]; simp
  have HM := Lib.hid (fun A c (m : Nat) w (hp : PtsA w A (straightL L)) => impl_move A c (straightL L) m w hp (by omega))
  unfold Lists at HM
  have HLN := Lib.hid (moveL_len (straightL L))
  have HTS := Lib.hid (someT_step (straightL L))
  have HTL := Lib.hid (someT_len (straightL L))
  obtain ⟨i0, hi0, hz0, hz1, hz2⟩ := info_parts infoRp
  clear hA hp hps e1 HE
  generalize straightL L = s at *
  go_enter Try.func99, Try.ntmps99
  go_wp2_with fail
  refine PC.out.mono ?_
  rintro e w1 ⟨rfl, b1⟩
  go_wp2_with fail
  refine (HS.out _ b1).mono ?_
  rintro e w2 ⟨v2, rfl, own2, hb2⟩
  have b2 := below_on b1 hb2
  obtain ⟨_, A2, c2, rfl, p2⟩ := own_pts own2
  have HP2 := Lib.hid p2
  have hs2 := b2.size
  clear own2 hb2 b1 p2 HS PC
  have rows0 : Hid (RowsP w2 w2.heap.size (.slice none 0 0) []) := rowsP_nil _ _
  go_wp2_with fail
  go_loopw [4, 5, 6, 7, 13] (fun v _ _ _ i wr => ∃ (m : Nat) (Rs : List Rp), m ≤ 8 ∧ i = .int .i64 m ∧ Hid (Rs.map Rp.M = someT s m) ∧ Hid (RowsP wr w2.heap.size v Rs) ∧ Below w2.heap.size w2 wr) (fun _ _ _ _ i _ => 8 - (intOf i).toNat)
  case atStart => exact ⟨0, [], by omega, rfl, rfl, rows0, Below.refl _ _⟩
  case round =>
    clear rows0
    obtain ⟨wo, rfl⟩ : ∃ wo : World, wo = wr := ⟨_, rfl⟩
    obtain ⟨m, Rs, hm, rfl, HRL, HR, hb⟩ := hrel
    by_cases hlt : m < 8
    · have hRn : Rs.length ≤ 100 := by
        have e := congrArg List.length HRL.out
        rw [List.length_map, HTL.out] at e
        omega
      have HMM := Lib.hid (HM.out A2 c2 m wo (ptsA_on HP2.out hb))
      rw [HMV.out m hlt] at HMM
      have hql := Lib.hid (HLN.out m)
      have HGM := Lib.hid (HG.out m hlt)
      have HST := Lib.hid (HTS.out m)
      rw [← HRL.out] at HST
      obtain ⟨q, hq⟩ : ∃ q, q = moveL s m := ⟨_, rfl⟩
      rw [← hq] at HMM hql HGM HST
      clear hq HRL
      have hq1 : 1 ≤ q.length := by have := hql.out; omega
      have hq10 : q.length ≤ 10 := by have := hql.out; omega
      go_wp2_with fail
      refine HMM.out.mono ?_
      rintro e w3 ⟨v3, rfl, own3, hb3⟩
      have b3 := Lib.hid (below_on (Below.refl wo.heap.size wo) hb3)
      obtain ⟨_, A3, c3, rfl, p3, q3⟩ := own_ptsc own3
      have HP3 := Lib.hid p3
      have HQ3 := Lib.hid q3
      have HMP := Lib.hid (minPt_any A3 c3 q w3 p3 hq1 (by omega))
      clear hb3 own3 p3 q3 HMM
      go_wp2_with fail
      refine HMP.out.mono ?_
      rintro e w4 ⟨rfl, hb4⟩
      have b34 := hb4
      replace b3 := Lib.hid (below_on b3.out hb4)
      have HIX := Lib.hid (idx_any A3 c3 q (minP q).1 (minP q).2 w4 (ptsA_on HP3.out b34) (by omega))
      have HMS := Lib.hid (minI_spec (q := q) hq1)
      have e5 : (((minP q).1, (minP q).2) : Pt) = minP q := rfl
      have HID5 : Hid (∀ z, IdxAt q ((minP q).1, (minP q).2) z → z = ((minI' q : Nat) : Int)) := fun z hz => by
        rw [e5] at hz
        rcases hz with ⟨_, hno⟩ | ⟨k, hk, rfl, hkv⟩
        · exact absurd (by rw [← HMS.out.2, gt_at HMS.out.1]; exact List.getElem_mem HMS.out.1) hno
        · rw [gt_inj HGM.out.2 hk HMS.out.1 (hkv.trans HMS.out.2.symm)]
      generalize (minP q).1 = mx at *
      generalize (minP q).2 = my at *
      clear e5 HMP hb4
      go_wp2_with fail
      refine HIX.out.mono ?_
      rintro e w5 ⟨⟨z, rfl, hz⟩, hb5⟩
      have hz' := HID5.out z hz
      have b35 := below_on b34 hb5
      replace b3 := Lib.hid (below_on b3.out hb5)
      have HSA := Lib.hid (impl_start A3 c3 q z w5 (ptsA_on HP3.out b35) HQ3.out (by omega))
      have HSV : Hid (startV q z = rotL q (minI' q)) := by
        show _ = _
        have := HMS.out.1
        rw [startV, HGM.out.1, hz', inB_spec.2 (by omega)]; simp
      unfold Lists at HSA
      rw [HSV.out] at HSA
      have hal := Lib.hid (rotL_len q (minI' q))
      have HPA : Hid (polyB (rotL q (minI' q)) = true) := poly_rot HGM.out.1 (Nat.le_of_lt HMS.out.1)
      have HBK : Hid (bothK q (minI' q) = [rotL q (minI' q), turnL (rotL q (minI' q))]) := rfl
      obtain ⟨a, ha⟩ : ∃ a, a = rotL q (minI' q) := ⟨_, rfl⟩
      rw [← ha] at HSA hal HPA HBK
      clear ha hz hz' HID5 HIX hb5 HSV b34
      go_wp2_with fail
      refine HSA.out.mono ?_
      rintro e w6 ⟨v6, rfl, own6, hb6⟩
      have hs65 := b3.out.size
      replace b3 := Lib.hid (below_on b3.out hb6)
      have hs66 := b3.out.size
      obtain ⟨g6, cap6, rfl, hga, -⟩ := own6.form (by have := hal.out; omega)
      have HTU := Lib.hid (impl_turn (some ⟨g6, 0, none⟩) cap6 a w6 (ptsA_of own6) (by have := hal.out; omega))
      have HTV : Hid (turnV a = turnL a) := by
        show _ = _
        rw [turnV, HPA.out]; rfl
      unfold Lists at HTU
      rw [HTV.out] at HTU
      have hbl : Hid ((turnL a).length = a.length) := turnL_len a (by have := hal.out; omega)
      obtain ⟨b, hbq⟩ : ∃ b, b = turnL a := ⟨_, rfl⟩
      rw [← hbq] at HTU HBK hbl
      clear hbq hb6 HSA HTV
      go_wp2_with fail
      refine HTU.out.mono ?_
      rintro e w7 ⟨v7, rfl, own7, hb7⟩
      replace b3 := Lib.hid (below_on b3.out hb7)
      have hs67 := hb7.size
      obtain ⟨g7, cap7, rfl, hgb, -⟩ := own7.form (by have := hal.out; have := hbl.out; omega)
      have ownA := own_base (own_below own6 hb7) (show w2.heap.size ≤ w5.heap.size by have := hb.size; omega)
      have ownB := own_base own7 (show w2.heap.size ≤ w6.heap.size by have := hb.size; omega)
      have hown := (HR.out.below b3.out).out
      have hs7 : w2.heap.size ≤ w7.heap.size := by have := hb.size; omega
      have HHD : Hid (hdrP (Rp.mk g6 cap6 a) = .slice (some ⟨g6, 0, none⟩) a.length cap6 ∧ hdrP (Rp.mk g7 cap7 b) = .slice (some ⟨g7, 0, none⟩) b.length cap7) := ⟨rfl, rfl⟩
      have HT : Hid ((Rs ++ [(Rp.mk g6 cap6 a), (Rp.mk g7 cap7 b)]).map Rp.M = someT s (m + 1)) := by
        show _ = _
        rw [HST.out, HBK.out]; simp
      clear hb7 own6 own7 HTU HST HBK
      go_wp2_with (at_builtin; refine wpList_append_own_at _ rfl _ _ 115 rfl w2.heap.size 34 i0 (.slice none 0 0) 1 24 Try.underlying115 hi0 hz0 hz1 hz2 rfl (by decide) _ _ _ rfl (hown.alloc _) ⟨w7.heap.size, 0, none⟩ 2 2 [.slice (some ⟨g6, 0, none⟩) a.length cap6, .slice (some ⟨g7, 0, none⟩) b.length cap7] rfl rfl ?d1 ?d2 ?d3 ?d4 ?d5 ?_)
      case d1 => exact World.news_of_block (cs := #[.slice (some ⟨g6, 0, none⟩) a.length cap6, .slice (some ⟨g7, 0, none⟩) b.length cap7]) (t := 34) (fr := (0, 0)) (heap_alloc_new w7 _)
      case d2 => simp [Value.oneCell']
      case d3 => unfold maxLen; omega
      case d4 => omega
      case d5 => simp; omega
      intro v' w8 own8 hgrow _ hloc
      have hrw := fun j hj => (hown.lt j hj).1
      have R8 : Hid (RowsP w8 w2.heap.size v' (Rs ++ [(Rp.mk g6 cap6 a), (Rp.mk g7 cap7 b)])) :=
        HR.out.snoc2 b3.out ownA ownB (by show wo.heap.size ≤ g6; omega) (by show wo.heap.size ≤ g7; omega) (World.grownBy_alloc w7 _ none) own8 hgrow (by rw [size_alloc]; exact hloc)
      have B8 : Below w2.heap.size w2 w8 := ((below_on hb b3.out).alloc (below_on hb b3.out).size _).grown hgrow (by have := (below_on hb b3.out).size; simp; omega) hrw
      clear own8 hgrow hloc hrw hown ownA ownB
      go_wp2_with fail
      go_roundw
      case rel => exact ⟨m + 1, _, by omega, by go_num, HT, R8, B8⟩
      case measure => simp [intOf]; omega
    · have e : m = 8 := by omega
      have HLL : Hid (∀ r ∈ Rs, r.M.length = s.length) := fun r hr => by
        have : r.M ∈ Rs.map Rp.M := List.mem_map.2 ⟨r, hr, rfl⟩
        rw [HRL.out] at this
        obtain ⟨j, _, hk⟩ := List.mem_flatMap.1 this
        rw [both_len (by rw [HLN.out]; omega) hk, HLN.out]
      have hRl : Rs.length = 16 := by
        have e2 := congrArg List.length HRL.out
        rw [List.length_map, HTL.out] at e2
        omega
      have HRM := Lib.hid (minRow_any w2.heap.size _ Rs s.length wo HR.out (by omega) (by omega) h10 HLL.out)
      unfold RowMin at HRM
      rw [HRL.out, e] at HRM
      have HRW := HR
      clear HR HRL hRl e
      obtain ⟨Av, cv, rfl, -⟩ := HRW.out.form
      go_wp2_with fail
      refine HRM.out.mono ?_
      rintro e w9 ⟨r, hr, rfl, hrm, hb9⟩
      have own9 := own_base (own_below (HRW.out.row r hr) hb9) hs2
      rw [hrm] at own9
      have b9 := below_on (below_on b2 hb) hb9
      obtain ⟨X, hX⟩ : ∃ X, X = hdrP r := ⟨_, rfl⟩
      rw [← hX] at own9 ⊢
      clear hX HRM hb9 hb hrm hr HRW
      go_wp2_with fail
      go_ret
      exact ⟨_, rfl, own9, b9⟩
def congV (p q : List Pt) : Bool := bif polyB p && polyB q then decide (shapeV p = shapeV q) else false
theorem shapeV_len (L : List Pt) : (shapeV L).length ≤ 1048576 := by
  unfold shapeV
  cases h : polyB L
  · simp
  · have := polyB_all (poly_straight h)
    rw [cond_true, shapeL_len (by omega)]; omega
set_option maxRecDepth 100000 in
set_option maxHeartbeats 1000000 in
theorem impl_cong (A B : Option Addr) (c d : Nat) (p q : List Pt) (w : World) (hA : PtsA w A p) (hB : PtsA w B q) (h1 : p.length ≤ 1048576) (h2 : q.length ≤ 1048576) :
    Calls Try.prog 50 #[.slice A p.length c, .slice B q.length d] w fun e w' => e = .returned (.bool (congV p q)) ∧ Below w.heap.size w w' := by
  have P1 := Lib.hid (impl_poly A c p w hA h1)
  have P2 := Lib.hid (fun (W : World) (hb : Below w.heap.size w W) => impl_poly B d q W (ptsA_on hB hb) h2)
  have HV : Hid (congV p q = bif polyB p && polyB q then decide (shapeV p = shapeV q) else false) := rfl
  cases hp : polyB p
  · rw [hp] at P1
    clear hA hB
    go_enter Try.func50, Try.ntmps50
    go_wp2_with fail
    refine P1.out.mono ?_
    rintro e w1 ⟨rfl, b1⟩
    go_wp2_with fail
    go_ret
    exact ⟨ret_bool (by rw [HV.out, hp]; rfl), b1⟩
  rw [hp] at P1
  cases hq : polyB q
  · rw [hq] at P2
    clear hA hB
    go_enter Try.func50, Try.ntmps50
    go_wp2_with fail
    refine P1.out.mono ?_
    rintro e w1 ⟨rfl, b1⟩
    go_wp2_with fail
    refine (P2.out _ b1).mono ?_
    rintro e w2 ⟨rfl, hb2⟩
    go_wp2_with fail
    go_ret
    exact ⟨ret_bool (by rw [HV.out, hq, Bool.and_false]; rfl), below_on b1 hb2⟩
  rw [hq] at P2
  have HV2 : Hid (congV p q = decide (shapeV p = shapeV q)) := by
    show _ = _
    rw [HV.out, hp, hq]; rfl
  have hsp : shapeV p = shapeL (straightL p) := by rw [shapeV, hp]; rfl
  have hsq : shapeV q = shapeL (straightL q) := by rw [shapeV, hq]; rfl
  have M1 := Lib.hid (fun W (hb : Below w.heap.size w W) => impl_shape A c p W (ptsA_on hA hb) h1)
  have M2 := Lib.hid (fun W (hb : Below w.heap.size w W) => impl_shape B d q W (ptsA_on hB hb) h2)
  have l1 := shapeV_len p
  have l2 := shapeV_len q
  unfold Lists at M1 M2
  generalize shapeV p = X at *
  generalize shapeV q = Y at *
  have HL := Lib.hid (And.intro l1 l2)
  clear hA hB HV h1 h2 hp hq hsp hsq l1 l2
  go_enter Try.func50, Try.ntmps50
  go_wp2_with fail
  refine P1.out.mono ?_
  rintro e w1 ⟨rfl, b1⟩
  go_wp2_with fail
  refine (P2.out _ b1).mono ?_
  rintro e w2 ⟨rfl, hb2⟩
  have b2 := below_on b1 hb2
  clear hb2 b1
  go_wp2_with fail
  refine (M1.out _ b2).mono ?_
  rintro e w4 ⟨v4, rfl, own4, hb4⟩
  have b4 := below_on b2 hb4
  obtain ⟨_, A4, c4, rfl, p4⟩ := own_pts own4
  clear hb4 b2 own4
  go_wp2_with fail
  refine (M2.out _ b4).mono ?_
  rintro e w5 ⟨v5, rfl, own5, hb5⟩
  have b5 := below_on b4 hb5
  replace p4 := ptsA_on p4 hb5
  obtain ⟨_, A5, c5, rfl, p5⟩ := own_pts own5
  clear hb5 b4 own5
  have HE := Lib.hid (iEq_any A4 A5 c4 c5 X Y w5 p4 p5 HL.out.1 HL.out.2)
  rw [← HV2.out] at HE
  clear HV2
  obtain ⟨r, hr⟩ : ∃ r, r = congV p q := ⟨_, rfl⟩
  rw [← hr] at HE
  have HR := Lib.hid hr
  clear hr
  go_wp2_with fail
  refine HE.out.mono ?_
  rintro e w6 ⟨rfl, hb6⟩
  have b6 := below_on b5 hb6
  clear hb6 b5 p4 p5
  go_wp2_with fail
  go_ret
  exact ⟨ret_bool HR.out, b6⟩
end Go.Proofs.Ythoniopkeiifnaa

/-! MotR12 -/
namespace Go.Proofs.Ythoniopkeiifnaa
open Go.RowKit

theorem up_dn (x y : Int) : up x y = dn (-x, -y) := by
  funext p
  unfold up dn
  simp only [Prod.mk.injEq]
  omega
theorem iso_up (x y : Int) : Iso (up x y) := by rw [up_dn]; exact iso_dn _
theorem move_dn (v : Pt) {L : List Pt} (h0 : 0 < L.length) {m : Nat} (hm : m < 8) : moveL (L.map (dn v)) m = moveL L m := by
  have e : (L.map (dn v)).map (mot m) = (L.map (mot m)).map (dn (mot m v)) := by
    rw [List.map_map, List.map_map]
    refine List.map_congr_left fun p _ => ?_
    simp only [Function.comp]
    exact mot_dn hm v p
  unfold moveL
  rw [e, cornL_dn _ (by rw [List.length_map]; exact h0)]
theorem good_up {L : List Pt} (h : Good L) {x y : Int} (h1 : ∀ p ∈ L, 0 ≤ p.1 + x ∧ p.1 + x ≤ 40 ∧ 0 ≤ p.2 + y ∧ p.2 + y ≤ 40) : Good (L.map (up x y)) := by
  refine good_map (iso_up x y) h ?_
  simp only [allOk, List.all_eq_true, List.mem_map]
  rintro q ⟨p, hp, rfl⟩
  have := h1 p hp
  unfold up
  simp only [okP, Bool.and_eq_true, inB_spec]
  omega
theorem shape_up {L : List Pt} (h : Good L) {x y : Int} : shapeL (straightL (L.map (up x y))) = shapeL (straightL L) := by
  rw [straight_map (iso_up x y), up_dn]
  have h0 := straight_pos h
  have e : ∀ m, m < 8 → moveL ((straightL L).map (dn (-x, -y))) m = moveL (straightL L) m := fun m hm => move_dn _ h0 hm
  have e2 : (List.range 8).flatMap (fun m => allK (moveL ((straightL L).map (dn (-x, -y))) m)) = (List.range 8).flatMap fun m => allK (moveL (straightL L) m) := by
    rw [List.flatMap_def, List.flatMap_def]
    congr 1
    exact List.map_congr_left fun m hm => by rw [e m (List.mem_range.1 hm)]
  unfold shapeL allS
  rw [e 0 (by omega), e2]
theorem twice_dn (v : Pt) (L : List Pt) : twiceI (L.map (dn v)) = twiceI L := by
  have e : dn v = upZ (-v.1) (-v.2) := by
    funext p
    unfold dn upZ
    simp only [Prod.mk.injEq]
    omega
  rw [e]; exact twice_up _ _ L
theorem cross_mot {m : Nat} (hm : m < 8) (a b : Pt) : crossT (mot m a, mot m b) = if 4 ≤ m then -crossT (a, b) else crossT (a, b) := by
  obtain ⟨x, y⟩ := a
  obtain ⟨u, v⟩ := b
  rcases eight hm with rfl | rfl | rfl | rfl | rfl | rfl | rfl | rfl <;> simp [mot, crossT] <;> grind
theorem chain_mot {m : Nat} (hm : m < 8) : ∀ L : List Pt, chainT (L.map (mot m)) = if 4 ≤ m then -chainT L else chainT L
  | [] => by simp [chainT]
  | [a] => by simp [chainT]
  | a :: b :: l => by
    have ih := chain_mot hm (b :: l)
    have hc := cross_mot hm a b
    have e : (a :: b :: l).map (mot m) = mot m a :: mot m b :: l.map (mot m) := rfl
    have e2 : (b :: l).map (mot m) = mot m b :: l.map (mot m) := rfl
    rw [e, chainT, chainT, ← e2, ih, hc]
    split <;> omega
theorem twice_mot {m : Nat} (hm : m < 8) (L : List Pt) : twiceI (L.map (mot m)) = if 4 ≤ m then -twiceI L else twiceI L := by
  cases L with
  | nil =>
    have : twiceI [] = 0 := rfl
    simp [this]
  | cons x xs =>
    have e : (x :: xs ++ [x]).map (mot m) = mot m x :: xs.map (mot m) ++ [mot m x] := by simp
    rw [List.map_cons, twice_chain, twice_chain, ← e]
    exact chain_mot hm _
theorem twice_move {m : Nat} (hm : m < 8) (L : List Pt) : twiceI (moveL L m) = if 4 ≤ m then -twiceI L else twiceI L := by
  unfold moveL cornL
  rw [twice_dn, twice_mot hm]
theorem left_poly {L : List Pt} (h : polyB L = true) : polyB (leftV L) = true := by
  unfold leftV leftL
  rw [h, cond_true]
  cases decide (0 < twiceI L)
  · exact turn_ok h
  · exact h
theorem area_up {L : List Pt} {x y : Int} (h : polyB L = true) (h' : polyB (L.map (up x y)) = true) : areaV (L.map (up x y)) = areaV L := by
  have h3 : 0 < L.length := by have := (polyB_all h).1; omega
  have e : leftV (L.map (up x y)) = (leftV L).map (up x y) := by
    unfold leftV leftL
    rw [h, h', cond_true, cond_true, up_dn, twice_dn]
    cases decide (0 < twiceI L)
    · exact turn_map _ h3
    · rfl
  have hp := left_poly h'
  unfold areaV
  rw [hp, left_poly h, cond_true, cond_true, e, up_dn, twice_dn]
/-- What the law asks of a polygon and its shift. -/
structure MotF (L Q : List Pt) : Prop where
  pq : polyB Q = true
  len : Q.length = L.length
  ok1 : shiftOk L 2 3 = true
  v1 : shiftV L 2 3 = Q
  ok2 : shiftOk Q (-2) (-3) = true
  v2 : shiftV Q (-2) (-3) = L
  cong : congV L Q = true
  same : smeV L Q = true
  exch : exchV L Q = true
theorem mot_facts {L : List Pt} (h : PB L) : MotF L (shiftL L 2 3) := by
  have hg := poly_good h.1
  have hok : ∀ p ∈ L, 0 ≤ p.1 ∧ 0 ≤ p.2 := fun p hp => by
    have := hg.2.1
    simp only [allOk, List.all_eq_true] at this
    have := this p hp
    simp only [okP, Bool.and_eq_true, inB_spec] at this
    omega
  have hgq : Good (shiftL L 2 3) := good_up hg fun p hp => by have := hok p hp; have := h.2 p hp; omega
  have hpq := good_poly hgq
  have hback : shiftL (shiftL L 2 3) (-2) (-3) = L := by
    unfold shiftL
    rw [List.map_map]
    have : ∀ p : Pt, (up (-2) (-3) ∘ up 2 3) p = p := fun p => by unfold up; simp only [Function.comp]; exact Prod.ext (by simp only; omega) (by simp only; omega)
    rw [List.map_congr_left (g := id) fun p _ => this p, List.map_id]
  have ok1 : shiftOk L 2 3 = true := by unfold shiftOk; rw [h.1, show inB 2 (-40) 40 = true from rfl, show inB 3 (-40) 40 = true from rfl]; exact hpq
  have ok2 : shiftOk (shiftL L 2 3) (-2) (-3) = true := by unfold shiftOk; rw [hpq, show inB (-2) (-40) 40 = true from rfl, show inB (-3) (-40) 40 = true from rfl, hback]; exact h.1
  have hm : measV (shiftL L 2 3) = measV L := measV_up 2 3 h.1 hpq
  have hs : smeV L (shiftL L 2 3) = true := by unfold smeV; rw [h.1, hpq, hm]; simp
  refine ⟨hpq, by unfold shiftL; exact List.length_map .., ok1, by unfold shiftV; rw [ok1]; rfl, ok2, by unfold shiftV; rw [ok2]; exact hback, ?_, hs, ?_⟩
  · unfold congV shapeV
    rw [h.1, hpq]
    simp only [Bool.and_self, cond_true]
    exact decide_eq_true (shape_up hg).symm
  · unfold exchV
    rw [hs, show areaV (shiftL L 2 3) = areaV L from area_up h.1 hpq]
    simp
end Go.Proofs.Ythoniopkeiifnaa

/-! MotW12 -/
namespace Go.Proofs.Ythoniopkeiifnaa
open Go.RowKit

set_option maxRecDepth 100000 in
theorem has_ints (A : Option Addr) (c : Nat) (M : List Int) (x : Int) (w : World) (h : IntsA w A M) (h0 : 1 ≤ M.length) (hL : M.length ≤ 1000) (hx : x ∈ M) :
    Calls Try.prog 47 #[.slice A M.length c, .int .i64 x] w fun e w' => e = .returned (.bool true) ∧ w' = w := by
  obtain ⟨g1, rfl, -⟩ := h 0 h0
  have H1 := Lib.hid (fun k (hk : k < M.length) => hI_ints h hk)
  have HX := Lib.hid hx
  clear h hx
  go_enter Try.func47, Try.ntmps47
  go_wp2_with fail
  go_loopw [6, 9] (fun _ i wr => ∃ k : Nat, k ≤ M.length ∧ i = .int .i64 k ∧ Hid (∀ j, j < k → hI M j ≠ x) ∧ wr = w) (fun _ i _ => M.length - (intOf i).toNat)
  case atStart => exact ⟨0, Nat.zero_le _, rfl, fun j hj => by omega, rfl⟩
  case round =>
    obtain ⟨k, hk, rfl, HN, rfl⟩ := hrel
    by_cases hlt : k < M.length
    · have d1 := H1.out k hlt
      by_cases he : hI M k = x
      · rw [he] at d1
        clear he
        go_wp2_with fail
        go_ret
        exact ⟨rfl, rfl⟩
      · have HN2 : Hid (∀ j, j < k + 1 → hI M j ≠ x) := fun j hj => by
          by_cases h : j < k
          · exact HN.out j h
          · rw [show j = k by omega]; exact he
        generalize hI M k = y at *
        have hb : (y == x) = false := beq_eq_false_iff_ne.2 he
        clear he HN
        go_wp2_with fail
        go_roundw
        case rel => exact ⟨k + 1, by omega, by go_num, HN2, by first | trivial | rfl⟩
        case measure => simp [intOf]; omega
    · exfalso
      obtain ⟨j, hj, e⟩ := List.getElem_of_mem HX.out
      exact HN.out j (by omega) (by rw [hI_at hj]; exact e)
/-- A list of n points is handed back. -/
def GivP (w : World) (n : Nat) (M : List Pt) (e : Ending) (w' : World) : Prop := ∃ A c, e = .returned (.slice A n c) ∧ PtsA w' A M ∧ Below w.heap.size w w'
def GivB (w : World) (n : Nat) (M : List Pt) (e : Ending) (w' : World) : Prop := ∃ A c, e = .returned (.tuple #[.slice A n c, .bool true]) ∧ PtsA w' A M ∧ Below w.heap.size w w'
theorem givP {w : World} {n : Nat} {M : List Pt} {e : Ending} {w' : World} (hn : M.length = n) (h : Lists w M e w') : GivP w n M e w' := by
  obtain ⟨v, rfl, own, hb⟩ := h
  obtain ⟨-, A, c, rfl, p⟩ := own_pts own
  exact ⟨A, c, by rw [hn], p, hb⟩
theorem givB {w : World} {n : Nat} {M N : List Pt} {b : Bool} {e : Ending} {w' : World} (hM : N = M) (hb : b = true) (hn : M.length = n) (h : ListsB w N b e w') : GivB w n M e w' := by
  subst hM hb
  obtain ⟨v, rfl, own, hb⟩ := h
  obtain ⟨-, A, c, rfl, p⟩ := own_pts own
  exact ⟨A, c, by rw [hn], p, hb⟩
theorem compV_eq {a b : Nat} (ha : a < 8) (hb : b < 8) : compV (a : Int) (b : Int) = ((compF a b : Nat) : Int) := by
  unfold compV
  rw [show inB (a : Int) 0 7 = true from inB_spec.2 ⟨by omega, by omega⟩, show inB (b : Int) 0 7 = true from inB_spec.2 ⟨by omega, by omega⟩]
  show ((compN (a : Int).toNat (b : Int).toNat : Nat) : Int) = _
  rw [Int.toNat_natCast, Int.toNat_natCast, compN_eq a ha b hb]
theorem moveV_eq {L : List Pt} (h : polyB L = true) {a : Nat} (ha : a < 8) : moveV L (a : Int) = moveL L a := by
  unfold moveV
  rw [h, show inB (a : Int) 0 7 = true from inB_spec.2 ⟨by omega, by omega⟩]
  rfl
abbrev Tru (w : World) (e : Ending) (w' : World) : Prop := e = .returned (.bool true) ∧ Below w.heap.size w w'
/-- What the law's calls answer. -/
structure MoA (L M1 M2 Q : List Pt) (a b k : Nat) : Prop where
  k7 : k ≤ 7
  l1 : M1.length = L.length
  l2 : M2.length = L.length
  lq : Q.length = L.length
  ab : compV (a : Int) (b : Int) = (k : Int)
  mv1 : ∀ A c W, PtsA W A L → Calls Try.prog 45 #[.slice A L.length c, .int .i64 (a : Int)] W (GivP W L.length M1)
  mv2 : ∀ A c W, PtsA W A M1 → Calls Try.prog 45 #[.slice A L.length c, .int .i64 (b : Int)] W (GivP W L.length M2)
  mv3 : ∀ A c W, PtsA W A L → Calls Try.prog 45 #[.slice A L.length c, .int .i64 (k : Int)] W (GivP W L.length M2)
  sh1 : ∀ A c W, PtsA W A L → Calls Try.prog 49 #[.slice A L.length c, .int .i64 2, .int .i64 3] W (GivB W L.length Q)
  sh2 : ∀ A c W, PtsA W A Q → Calls Try.prog 49 #[.slice A L.length c, .int .i64 (-2), .int .i64 (-3)] W (GivB W L.length L)
  cg : ∀ A B c d W, PtsA W A L → PtsA W B Q → Calls Try.prog 50 #[.slice A L.length c, .slice B L.length d] W (Tru W)
  sm : ∀ A B c d W, PtsA W A L → PtsA W B Q → Calls Try.prog 51 #[.slice A L.length c, .slice B L.length d] W (Tru W)
  ex : ∀ A B c d W, PtsA W A L → PtsA W B Q → Calls Try.prog 52 #[.slice A L.length c, .slice B L.length d] W (Tru W)
  tw1 : ∀ A c W, PtsA W A M1 → Calls Try.prog 53 #[.slice A L.length c] W fun e w' => e = .returned (.int .i64 (twiceI M1)) ∧ Below W.heap.size W w'
  tw : ∀ A c W, PtsA W A L → Calls Try.prog 53 #[.slice A L.length c] W fun e w' => e = .returned (.int .i64 (twiceI L)) ∧ Below W.heap.size W w'
  t1 : twiceI M1 = if 4 ≤ a then -twiceI L else twiceI L
  tu : ∀ A B c d W, PtsA W A L → PtsA W B M1 → Calls Try.prog 48 #[.slice A L.length c, .slice B L.length d, .int .i64 (a : Int)] W (Tru W)
  ts : ∀ x, x ∈ symV L → ∀ A c d W, PtsA W A L → Calls Try.prog 48 #[.slice A L.length c, .slice A L.length d, .int .i64 x] W (Tru W)
  pt : ∀ A B c d W, PtsA W A M2 → PtsA W B M2 → Calls Try.prog 44 #[.slice A L.length c, .slice B L.length d] W (Tru W)
  pl : ∀ A B c d W, PtsA W A L → PtsA W B L → Calls Try.prog 44 #[.slice A L.length c, .slice B L.length d] W (Tru W)
theorem mo_asks {L : List Pt} (h : PB L) {a b : Nat} (ha : a < 8) (hb : b < 8) : ∃ M1 M2 Q k, MoA L M1 M2 Q a b k := by
  have hg := poly_good h.1
  have h10 := hg.1
  have hk := compF_lt a ha b hb
  have F := mot_facts h
  have p1 := poly_move h.1 ha
  have l1 := moveL_len L a
  have l2 : (moveL (moveL L a) b).length = L.length := by rw [moveL_len, moveL_len]
  have e2 : moveL L (compF a b) = moveL (moveL L a) b := (move_move (by omega) ha hb).symm
  refine ⟨moveL L a, moveL (moveL L a) b, shiftL L 2 3, compF a b, ⟨by omega, l1, l2, F.len, compV_eq ha hb, fun A c W hA => ?_, fun A c W hA => ?_, fun A c W hA => ?_, fun A c W hA => ?_, fun A c W hA => ?_, fun A B c d W hA hB => ?_, fun A B c d W hA hB => ?_, fun A B c d W hA hB => ?_, fun A c W hA => ?_, fun A c W hA => ?_, twice_move ha L, fun A B c d W hA hB => ?_, fun x hx A c d W hA => ?_, fun A B c d W hA hB => ?_, fun A B c d W hA hB => ?_⟩⟩
  · have := impl_move A c L (a : Int) W hA (by omega)
    rw [moveV_eq h.1 ha] at this
    exact this.mono fun e w' q => givP l1 q
  · have := impl_move A c (moveL L a) (b : Int) W hA (by omega)
    rw [moveV_eq p1 hb, l1] at this
    exact this.mono fun e w' q => givP l2 q
  · have := impl_move A c L ((compF a b : Nat) : Int) W hA (by omega)
    rw [moveV_eq h.1 hk, e2] at this
    exact this.mono fun e w' q => givP l2 q
  · exact (impl_shift A c L 2 3 W hA (by omega)).mono fun e w' q => givB F.v1 F.ok1 F.len q
  · have := impl_shift A c (shiftL L 2 3) (-2) (-3) W hA (by rw [F.len]; omega)
    rw [F.len] at this
    exact this.mono fun e w' q => givB F.v2 F.ok2 rfl q
  · have := impl_cong A B c d L (shiftL L 2 3) W hA hB (by omega) (by rw [F.len]; omega)
    rw [F.len, F.cong] at this
    exact this
  · have := impl_sameM A B c d L (shiftL L 2 3) W hA hB (by omega) (by rw [F.len]; omega) (left_ok _) (left_ok _)
    rw [F.len, F.same] at this
    exact this
  · have := impl_exch A B c d L (shiftL L 2 3) W hA hB (by omega) (by rw [F.len]; omega) (left_ok _) (left_ok _)
    rw [F.len, F.exch] at this
    exact this
  · have := impl_twice_yes A c (moveL L a) W hA p1
    rw [l1] at this
    exact this
  · exact impl_twice_yes A c L W hA h.1
  · have := impl_turned A B c d L (moveL L a) (a : Int) W hA hB (by omega) (by omega)
    rw [l1, turned_self hg ha] at this
    exact this
  · have := impl_turned A A c d L L x W hA hA (by omega) (by omega)
    rw [(sym_facts hg).turned x hx] at this
    exact this
  · have := points_same A B c d (moveL (moveL L a) b) W hA hB (by omega) (by omega)
    rw [l2] at this
    exact this
  · exact points_same A B c d L W hA hB (by omega) (by omega)
set_option maxRecDepth 100000 in
set_option maxHeartbeats 16000000 in
theorem law_motions (A : Option Addr) (n c : Nat) (w : World) (hC : CodeAt w w.heap.size A n) :
    Calls Try.prog 12 #[.slice A n c] w fun e w' => e = .returned (.bool true) ∧ Below w.heap.size w w' := by
  by_cases h1 : n ≤ 1048576
  case neg =>
    clear hC
    go_enter Try.func12, Try.ntmps12
    go_wp2_with fail
    go_ret
    exact ⟨rfl, Below.refl _ _⟩
  have HP := Lib.hid (makeQ_any A n c w hC h1 (fun M h => turn_ok h))
  have HMS := Lib.hid (fun (m : Int) (W : World) (hm1 : 0 ≤ m) (hm2 : m ≤ 1000) (hb : Below w.heap.size w W) => makeS_any A n c m 7 W ((hC.below hb).mono hb.size) h1 hm1 hm2 (by omega))
  clear hC
  go_enter Try.func12, Try.ntmps12
  go_wp2_with fail
  refine HP.out.mono ?_
  rintro e w1 ⟨v, L, rfl, hp, own, b1⟩
  obtain ⟨-, A0, c0, rfl, P0⟩ := own_pts own
  have HPB := Lib.hid hp
  obtain ⟨hn3, hn10, -⟩ := polyB_all hp.1
  have HP1 := Lib.hid P0
  have HB1 := Lib.hid b1
  clear hp own P0 b1 HP
  go_wp2_with fail
  refine (HMS.out 40 _ (by omega) (by omega) HB1.out).mono ?_
  rintro e w2 ⟨⟨a, ha, rfl⟩, hb⟩
  have HP2 := Lib.hid (ptsA_on HP1.out hb)
  have HB2 := Lib.hid (below_on HB1.out hb)
  clear hb HB1 HP1
  go_wp2_with fail
  refine (HMS.out 41 _ (by omega) (by omega) HB2.out).mono ?_
  rintro e w3 ⟨⟨b', hb', rfl⟩, hb⟩
  have HP3 := Lib.hid (ptsA_on HP2.out hb)
  have HB3 := Lib.hid (below_on HB2.out hb)
  clear hb HB2 HP2 HMS
  obtain ⟨M1, M2, Q, k, hA⟩ := mo_asks HPB.out (show a < 8 by omega) (show b' < 8 by omega)
  have hk7 := hA.k7
  have HA := Lib.hid hA
  have HC1 := Lib.hid (fun W => impl_comp (a : Int) (b' : Int) W)
  rw [hA.ab] at HC1
  obtain ⟨i1, i2, i3, i4, i5⟩ := inv_facts a (by omega)
  have HC2 := Lib.hid (fun W => impl_inv (a : Int) W)
  have HC3 := Lib.hid (fun W => impl_comp (a : Int) (invV (a : Int)) W)
  rw [i3] at HC3
  have HC4 := Lib.hid (fun W => impl_comp (invV (a : Int)) (a : Int) W)
  rw [i4] at HC4
  have HC5 := Lib.hid (fun W => impl_comp 0 (a : Int) W)
  rw [i5] at HC5
  generalize invV (a : Int) = z at *
  clear i3 i4 i5 hA
  go_wp2_with fail
  refine (HC1.out _).mono ?_
  rintro e w4 ⟨rfl, hb⟩
  have HP4 := Lib.hid (ptsA_on HP3.out hb)
  have HB4 := Lib.hid (below_on HB3.out hb)
  clear hb HB3 HP3 HC1
  go_wp2_with fail
  refine (HC2.out _).mono ?_
  rintro e w5 ⟨rfl, hb⟩
  have HP5 := Lib.hid (ptsA_on HP4.out hb)
  have HB5 := Lib.hid (below_on HB4.out hb)
  clear hb HB4 HP4 HC2
  go_wp2_with fail
  refine (HC3.out _).mono ?_
  rintro e w6 ⟨rfl, hb⟩
  have HP6 := Lib.hid (ptsA_on HP5.out hb)
  have HB6 := Lib.hid (below_on HB5.out hb)
  clear hb HB5 HP5 HC3
  go_wp2_with fail
  refine (HC4.out _).mono ?_
  rintro e w7 ⟨rfl, hb⟩
  have HP7 := Lib.hid (ptsA_on HP6.out hb)
  have HB7 := Lib.hid (below_on HB6.out hb)
  clear hb HB6 HP6 HC4
  go_wp2_with fail
  refine (HC5.out _).mono ?_
  rintro e w8 ⟨rfl, hb⟩
  have HP8 := Lib.hid (ptsA_on HP7.out hb)
  have HB8 := Lib.hid (below_on HB7.out hb)
  clear hb HB7 HP7 HC5
  go_wp2_with fail
  refine (HA.out.mv1 _ _ _ HP8.out).mono ?_
  rintro e w9 ⟨A9, c9, rfl, p9, hb⟩
  have HM9 := Lib.hid p9
  have HP9 := Lib.hid (ptsA_on HP8.out hb)
  have HB9 := Lib.hid (below_on HB8.out hb)
  clear hb p9 HB8 HP8
  go_wp2_with fail
  refine (HA.out.mv2 _ _ _ HM9.out).mono ?_
  rintro e w10 ⟨A10, c10, rfl, p10, hb⟩
  have HM10 := Lib.hid p10
  have HP10 := Lib.hid (ptsA_on HP9.out hb)
  have HB10 := Lib.hid (below_on HB9.out hb)
  clear hb p10 HB9 HP9 HM9
  go_wp2_with fail
  refine (HA.out.mv3 _ _ _ HP10.out).mono ?_
  rintro e w11 ⟨A11, c11, rfl, p11, hb⟩
  have HN11 := Lib.hid p11
  have HM11 := Lib.hid (ptsA_on HM10.out hb)
  have HP11 := Lib.hid (ptsA_on HP10.out hb)
  have HB11 := Lib.hid (below_on HB10.out hb)
  clear hb p11 HB10 HP10 HM10
  go_wp2_with fail
  refine (HA.out.pt _ _ _ _ _ HM11.out HN11.out).mono ?_
  rintro e w12 ⟨rfl, hb⟩
  have HP12 := Lib.hid (ptsA_on HP11.out hb)
  have HB12 := Lib.hid (below_on HB11.out hb)
  clear hb HB11 HP11 HM11 HN11
  go_wp2_with fail
  clear i1 i2
  have HSY := Lib.hid (impl_sym A0 c0 L w12 HP12.out (by omega))
  have hsf := sym_facts (poly_good HPB.out.1)
  have HSF := Lib.hid hsf
  have s1 := hsf.pos
  have s8 := hsf.le
  have sm := hsf.len
  clear hsf
  have HTS := Lib.hid HA.out.ts
  unfold ListsI at HSY
  generalize symV L = S at *
  refine HSY.out.mono ?_
  rintro e w13 ⟨v13, rfl, own, hb⟩
  obtain ⟨_, A13, c13, rfl, p13⟩ := own_ints own
  obtain ⟨g13, rfl, -⟩ := p13 0 s1
  have HS13 := Lib.hid p13
  have HP13 := Lib.hid (ptsA_on HP12.out hb)
  have HB13 := Lib.hid (below_on HB12.out hb)
  clear own p13 hb HSY HP12 HB12
  have sn : ((S.length : Int) == 0) = false := by rw [beq_eq_false_iff_ne]; omega
  have st : Int.tmod 8 (S.length : Int) = 0 := by rw [show (8 : Int) = ((8 : Nat) : Int) from rfl, tmod_nat12, sm]; rfl
  have HH := Lib.hid (fun x W (hx : x ∈ S) (hW : IntsA W (some ⟨g13, 0, none⟩) S) => has_ints (some ⟨g13, 0, none⟩) c13 S x W hW s1 (by omega) hx)
  clear sm
  go_wp2_with fail
  refine (HH.out 0 _ HSF.out.zero HS13.out).mono ?_
  rintro e w14 ⟨rfl, rfl⟩
  go_wp2_with fail
  clear sn st
  go_loopw [10, 12, 94] (fun _ _ i wr => ∃ k : Nat, k ≤ S.length ∧ i = .int .i64 k ∧ Hid (Below w14.heap.size w14 wr)) (fun _ _ i _ => S.length - (intOf i).toNat)
  case atStart => exact ⟨0, Nat.zero_le _, rfl, Below.refl _ _⟩
  case round =>
    obtain ⟨wo, rfl⟩ : ∃ wo : World, wo = wr := ⟨_, rfl⟩
    obtain ⟨k, hk, rfl, HBo⟩ := hrel
    by_cases hlt : k < S.length
    · have d1 := hI_ints (intsA_on HS13.out HBo.out) hlt
      have HX : Hid (hI S k ∈ S) := by rw [hI_at hlt]; exact List.getElem_mem hlt
      generalize hI S k = x at *
      go_wp2_with fail
      clear d1
      go_loopw [12, 100] (fun _ i wr => ∃ j : Nat, j ≤ S.length ∧ i = .int .i64 j ∧ Hid (Below wo.heap.size wo wr)) (fun _ i _ => S.length - (intOf i).toNat)
      case atStart => exact ⟨0, Nat.zero_le _, rfl, Below.refl _ _⟩
      case round =>
        obtain ⟨wi, rfl⟩ : ∃ wi : World, wi = wr := ⟨_, rfl⟩
        obtain ⟨j, hj, rfl, HBi⟩ := hrel
        have bi := Lib.hid (below_on HBo.out HBi.out)
        by_cases hlj : j < S.length
        · have d1 := hI_ints (intsA_on HS13.out bi.out) hlj
          have HY : Hid (hI S j ∈ S) := by rw [hI_at hlj]; exact List.getElem_mem hlj
          generalize hI S j = y at *
          have HCM := Lib.hid (impl_comp x y wi)
          have HZ : Hid (compV x y ∈ S) := HSF.out.comp x HX.out y HY.out
          generalize compV x y = zz at *
          go_wp2_with fail
          refine HCM.out.mono ?_
          rintro e w15 ⟨rfl, hb⟩
          have bj := Lib.hid (below_on HBi.out hb)
          have bk := Lib.hid (below_on bi.out hb)
          clear hb HCM d1 HBi bi
          go_wp2_with fail
          refine (HH.out zz _ HZ.out (intsA_on HS13.out bk.out)).mono ?_
          rintro e w16 ⟨rfl, rfl⟩
          go_wp2_with fail
          go_roundw
          case rel => exact ⟨j + 1, by omega, by go_num, bj⟩
          case measure => simp [intOf]; omega
        · clear HBi
          go_wp2_with fail
          refine (HTS.out x HX.out _ _ _ _ (ptsA_on HP13.out bi.out)).mono ?_
          rintro e w15 ⟨rfl, hb⟩
          have bj := Lib.hid (below_on bi.out hb)
          clear hb bi
          go_wp2_with fail
          go_roundw
          case rel => exact ⟨k + 1, by omega, by go_num, bj⟩
          case measure => simp [intOf]; omega
    · have HP6 := Lib.hid (ptsA_on HP13.out HBo.out)
      have HB6 := Lib.hid (below_on HB13.out HBo.out)
      clear HBo HP13 HB13 HS13 HSF HTS HH s1 s8
      go_wp2_with fail
      refine (HA.out.sh1 _ _ _ HP6.out).mono ?_
      rintro e w7 ⟨A7, c7, rfl, p7, hb⟩
      have HQ7 := Lib.hid p7
      have HP7 := Lib.hid (ptsA_on HP6.out hb)
      have HB7 := Lib.hid (below_on HB6.out hb)
      clear hb p7 HP6 HB6
      go_wp2_with fail
      refine (HA.out.sh2 _ _ _ HQ7.out).mono ?_
      rintro e w9 ⟨A8, c8, rfl, p8, hb⟩
      have HPb := Lib.hid p8
      have HQ9 := Lib.hid (ptsA_on HQ7.out hb)
      have HP9 := Lib.hid (ptsA_on HP7.out hb)
      have HB9 := Lib.hid (below_on HB7.out hb)
      clear hb p8 HP7 HB7 HQ7
      have hT := twiceI_bd (poly_good HPB.out.1).2.1 hn10
      obtain ⟨T, HTT⟩ : ∃ T, Hid (twiceI L = T) := ⟨_, rfl⟩
      rw [HTT.out] at hT
      have ht1 := HA.out.t1
      rw [HTT.out] at ht1
      by_cases h4 : 4 ≤ a
      · rw [if_pos h4] at ht1
        have HT1 := Lib.hid ht1
        have h4' : (4 : Int) ≤ (a : Int) := by omega
        clear ht1
        go_wp2_with fail
        refine (HA.out.pl _ _ _ _ _ HPb.out HP9.out).mono ?_
        rintro e w20 ⟨rfl, b⟩
        have HP20 := Lib.hid (ptsA_on HP9.out b)
        have HQ20 := Lib.hid (ptsA_on HQ9.out b)
        have HB20 := Lib.hid (below_on HB9.out b)
        clear b HPb HP9 HQ9 HB9
        go_wp2_with fail
        refine (HA.out.cg _ _ _ _ _ HP20.out HQ20.out).mono ?_
        rintro e w21 ⟨rfl, b⟩
        have HP21 := Lib.hid (ptsA_on HP20.out b)
        have HQ21 := Lib.hid (ptsA_on HQ20.out b)
        have HB21 := Lib.hid (below_on HB20.out b)
        clear b HP20 HQ20 HB20
        go_wp2_with fail
        refine (HA.out.sm _ _ _ _ _ HP21.out HQ21.out).mono ?_
        rintro e w22 ⟨rfl, b⟩
        have HP22 := Lib.hid (ptsA_on HP21.out b)
        have HQ22 := Lib.hid (ptsA_on HQ21.out b)
        have HB22 := Lib.hid (below_on HB21.out b)
        clear b HP21 HQ21 HB21
        go_wp2_with fail
        refine (HA.out.ex _ _ _ _ _ HP22.out HQ22.out).mono ?_
        rintro e w23 ⟨rfl, b⟩
        have HP23 := Lib.hid (ptsA_on HP22.out b)
        have HB23 := Lib.hid (below_on HB22.out b)
        clear b HP22 HQ22 HB22
        go_wp2_with fail
        refine (HA.out.mv1 _ _ _ HP23.out).mono ?_
        rintro e w24 ⟨A24, c24, rfl, p24, b⟩
        have HM24 := Lib.hid p24
        have HP24 := Lib.hid (ptsA_on HP23.out b)
        have HB24 := Lib.hid (below_on HB23.out b)
        clear b p24 HP23 HB23
        go_wp2_with fail
        have C25 := HA.out.tw1 _ c24 _ HM24.out
        rw [HT1.out] at C25
        refine C25.mono ?_
        rintro e w25 ⟨rfl, b⟩
        have HP25 := Lib.hid (ptsA_on HP24.out b)
        have HB25 := Lib.hid (below_on HB24.out b)
        clear b HP24 HB24 HM24 C25
        go_wp2_with fail
        have C26 := HA.out.tw _ c0 _ HP25.out
        rw [HTT.out] at C26
        refine C26.mono ?_
        rintro e w26 ⟨rfl, b⟩
        have HP26 := Lib.hid (ptsA_on HP25.out b)
        have HB26 := Lib.hid (below_on HB25.out b)
        clear b HP25 HB25 C26
        go_wp2_with fail
        refine (HA.out.mv1 _ _ _ HP26.out).mono ?_
        rintro e w27 ⟨A27, c27, rfl, p27, b⟩
        have HM27 := Lib.hid p27
        have HP27 := Lib.hid (ptsA_on HP26.out b)
        have HB27 := Lib.hid (below_on HB26.out b)
        clear b p27 HP26 HB26
        go_wp2_with fail
        refine (HA.out.tu _ _ _ _ _ HP27.out HM27.out).mono ?_
        rintro e w28 ⟨rfl, b⟩
        have HB28 := Lib.hid (below_on HB27.out b)
        clear b HP27 HB27 HM27
        go_wp2_with fail
        go_ret
        exact ⟨rfl, HB28.out⟩
      · rw [if_neg h4] at ht1
        have HT1 := Lib.hid ht1
        have h4' : (a : Int) < 4 := by omega
        clear ht1
        go_wp2_with fail
        refine (HA.out.pl _ _ _ _ _ HPb.out HP9.out).mono ?_
        rintro e w20 ⟨rfl, b⟩
        have HP20 := Lib.hid (ptsA_on HP9.out b)
        have HQ20 := Lib.hid (ptsA_on HQ9.out b)
        have HB20 := Lib.hid (below_on HB9.out b)
        clear b HPb HP9 HQ9 HB9
        go_wp2_with fail
        refine (HA.out.cg _ _ _ _ _ HP20.out HQ20.out).mono ?_
        rintro e w21 ⟨rfl, b⟩
        have HP21 := Lib.hid (ptsA_on HP20.out b)
        have HQ21 := Lib.hid (ptsA_on HQ20.out b)
        have HB21 := Lib.hid (below_on HB20.out b)
        clear b HP20 HQ20 HB20
        go_wp2_with fail
        refine (HA.out.sm _ _ _ _ _ HP21.out HQ21.out).mono ?_
        rintro e w22 ⟨rfl, b⟩
        have HP22 := Lib.hid (ptsA_on HP21.out b)
        have HQ22 := Lib.hid (ptsA_on HQ21.out b)
        have HB22 := Lib.hid (below_on HB21.out b)
        clear b HP21 HQ21 HB21
        go_wp2_with fail
        refine (HA.out.ex _ _ _ _ _ HP22.out HQ22.out).mono ?_
        rintro e w23 ⟨rfl, b⟩
        have HP23 := Lib.hid (ptsA_on HP22.out b)
        have HB23 := Lib.hid (below_on HB22.out b)
        clear b HP22 HQ22 HB22
        go_wp2_with fail
        refine (HA.out.mv1 _ _ _ HP23.out).mono ?_
        rintro e w24 ⟨A24, c24, rfl, p24, b⟩
        have HM24 := Lib.hid p24
        have HP24 := Lib.hid (ptsA_on HP23.out b)
        have HB24 := Lib.hid (below_on HB23.out b)
        clear b p24 HP23 HB23
        go_wp2_with fail
        have C25 := HA.out.tw1 _ c24 _ HM24.out
        rw [HT1.out] at C25
        refine C25.mono ?_
        rintro e w25 ⟨rfl, b⟩
        have HP25 := Lib.hid (ptsA_on HP24.out b)
        have HB25 := Lib.hid (below_on HB24.out b)
        clear b HP24 HB24 HM24 C25
        go_wp2_with fail
        have C26 := HA.out.tw _ c0 _ HP25.out
        rw [HTT.out] at C26
        refine C26.mono ?_
        rintro e w26 ⟨rfl, b⟩
        have HP26 := Lib.hid (ptsA_on HP25.out b)
        have HB26 := Lib.hid (below_on HB25.out b)
        clear b HP25 HB25 C26
        go_wp2_with fail
        refine (HA.out.mv1 _ _ _ HP26.out).mono ?_
        rintro e w27 ⟨A27, c27, rfl, p27, b⟩
        have HM27 := Lib.hid p27
        have HP27 := Lib.hid (ptsA_on HP26.out b)
        have HB27 := Lib.hid (below_on HB26.out b)
        clear b p27 HP26 HB26
        go_wp2_with fail
        refine (HA.out.tu _ _ _ _ _ HP27.out HM27.out).mono ?_
        rintro e w28 ⟨rfl, b⟩
        have HB28 := Lib.hid (below_on HB27.out b)
        clear b HP27 HB27 HM27
        go_wp2_with fail
        go_ret
        exact ⟨rfl, HB28.out⟩
end Go.Proofs.Ythoniopkeiifnaa
