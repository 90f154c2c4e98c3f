/-
  Slices of slices of points that the call owns; slices.MinFunc over points and over such rows; slices.CompareFunc.
-/
import Derived.Test.YtoemmaeglhdjnaaShapeP
import Derived.Test.YtoemmaeglhdjnaaLawMk
import Derived.Maps.AppendAt
namespace Go.Proofs.Ytoemmaeglhdjnaa
open Go.RowKit

/-- A row: its block, its capacity, its points. -/
structure Rp where
  g : Nat
  cap : Nat
  M : List Pt
def hdrP (r : Rp) : Value := .slice (some ⟨r.g, 0, none⟩) r.M.length r.cap
theorem hdrP_own (r : Rp) : (hdrP r).ownBlock = some r.g := rfl
structure RowsP (w : World) (B : Nat) (v : Value) (Rs : List Rp) : Prop where
  out : w.ownsRow B 27 1 v Rs.length (Rs.map hdrP)
  row : ∀ r ∈ Rs, w.ownsRow B 56 2 (hdrP r) r.M.length (flat r.M)
  far : ∀ r ∈ Rs, v.ownBlock ≠ some r.g
theorem rowsP_nil (w : World) (B : Nat) : RowsP w B (.slice none 0 0) [] :=
  ⟨World.ownsRow_nil _ _ _ _, fun r h => (by cases h), fun r h => (by cases h)⟩
theorem RowsP.below {w w' : World} {B : Nat} {v : Value} {Rs : List Rp} (h : RowsP w B v Rs) (hb : Below w.heap.size w w') : RowsP w' B v Rs :=
  ⟨own_below h.out hb, fun r hr => own_below (h.row r hr) hb, h.far⟩
theorem RowsP.lt {w : World} {B : Nat} {v : Value} {Rs : List Rp} (h : RowsP w B v Rs) {r : Rp} (hr : r ∈ Rs) : B ≤ r.g ∧ r.g < w.heap.size := (h.row r hr).lt r.g rfl
theorem RowsP.form {w : World} {B : Nat} {v : Value} {Rs : List Rp} (h : RowsP w B v Rs) : ∃ A c, v = .slice A Rs.length c ∧ ∀ i (hi : i < Rs.length), ∃ g, A = some ⟨g, 0, none⟩ ∧ w.cell? ⟨g, i, none⟩ = some (hdrP Rs[i]) := by
  rcases h.out.2 with ⟨rfl, h0⟩ | ⟨g, cap, cur, rfl, hg, hh, _⟩
  · exact ⟨none, 0, by rw [h0], fun k hk => by omega⟩
  · refine ⟨some ⟨g, 0, none⟩, cap, rfl, fun k hk => ⟨g, rfl, ?_⟩⟩
    rw [h.out.cellAt k (by omega)]
    simp [hk]
theorem ptsA_row {w : World} {B : Nat} {r : Rp} (h : w.ownsRow B 56 2 (hdrP r) r.M.length (flat r.M)) : PtsA w (some ⟨r.g, 0, none⟩) r.M := ptsA_of (c := r.cap) h
/-- Two rows more. -/
theorem RowsP.snoc2 {w w1 w2 w3 : World} {B : Nat} {v v' : Value} {Rs : List Rp} {a b : Rp} (h : RowsP w B v Rs) (h1 : Below w.heap.size w w1) (ha : w1.ownsRow B 56 2 (hdrP a) a.M.length (flat a.M)) (hb : w1.ownsRow B 56 2 (hdrP b) b.M.length (flat b.M))
    (hla : w.heap.size ≤ a.g) (hlb : w.heap.size ≤ b.g)
    (h2 : w1.grownBy w2 none) (ho : w3.ownsRow B 27 1 v' (Rs.length + 2) (Rs.map hdrP ++ [hdrP a, hdrP b])) (h3 : w2.grownBy w3 v.ownBlock) (hl : v'.ownBlock = v.ownBlock ∨ v'.ownBlock = some w2.heap.size) : RowsP w3 B v' (Rs ++ [a, b]) := by
  have hal := (ha.lt a.g rfl).2
  have hbl := (hb.lt b.g rfl).2
  have hvl : ∀ b, v.ownBlock = some b → b < w.heap.size := fun b hb => (h.out.lt b hb).2
  have hs1 := h1.size; have hs2 := h2.size
  refine ⟨by simpa using ho, ?_, ?_⟩
  · intro x hx
    rcases List.mem_append.1 hx with hx | hx
    · exact ((own_below (h.row x hx) h1).kept h2 (.inr (by simp [hdrP_own]))).kept h3 (.inr (fun e => h.far x hx (by rw [← e, hdrP_own])))
    · simp only [List.mem_cons, List.not_mem_nil, or_false] at hx
      rcases hx with rfl | rfl
      · refine (ha.kept h2 (.inr (by simp [hdrP_own]))).kept h3 (.inr (fun e => ?_))
        have := hvl x.g (by rw [← e, hdrP_own])
        omega
      · refine (hb.kept h2 (.inr (by simp [hdrP_own]))).kept h3 (.inr (fun e => ?_))
        have := hvl x.g (by rw [← e, hdrP_own])
        omega
  · intro x hx e
    rcases hl with q | q
    · rw [q] at e
      rcases List.mem_append.1 hx with hx | hx
      · exact h.far x hx e
      · simp only [List.mem_cons, List.not_mem_nil, or_false] at hx
        have := hvl _ e
        rcases hx with rfl | rfl <;> omega
    · rw [q] at e
      have e := Option.some.inj e
      rcases List.mem_append.1 hx with hx | hx
      · have := (h.lt hx).2; omega
      · simp only [List.mem_cons, List.not_mem_nil, or_false] at hx
        rcases hx with rfl | rfl <;> omega

theorem cmpPt_any (ax ay bx by' : Int) (w : World) :
    Calls Try.prog 79 #[(.agg #[.int .i64 ax, .int .i64 ay]), (.agg #[.int .i64 bx, .int .i64 by'])] w fun e w' => e = .returned (.int .i64 (cmpI (ax, ay) (bx, by'))) ∧ Below w.heap.size w w' :=
  (cmp_any ax ay bx by' w).mono fun e w' ⟨h1, os, h2⟩ => ⟨h1, by rw [h2]; exact below_grow w os⟩

def minQ (q : List Pt) (k : Nat) : Pt := minPT q (k - 1)
theorem minQ_step (q : List Pt) {k : Nat} (h : 1 ≤ k) : minQ q (k + 1) = if befP (gt q k) (minQ q k) = true then gt q k else minQ q k := by
  obtain ⟨j, rfl⟩ : ∃ j, k = j + 1 := ⟨k - 1, by omega⟩
  rfl
set_option maxRecDepth 100000 in
set_option maxHeartbeats 1000000 in
theorem minPt_any (A : Option Addr) (c : Nat) (L : List Pt) (w : World) (hA : PtsA w A L) (h1 : 1 ≤ L.length) (h2 : L.length ≤ 1048576) :
    Calls Try.prog 78 #[.slice A L.length c, .func (.func 79) #[] #[]] w fun e w' => e = .returned (.agg #[.int .i64 (minP L).1, .int .i64 (minP L).2]) ∧ Below w.heap.size w w' := by
  obtain ⟨g, rfl, -⟩ := hA 0 (by omega)
  obtain ⟨c1, c2⟩ := gt_cells hA (i := 0) (by omega)
  simp only [Nat.zero_mul, Nat.zero_add] at c1 c2
  obtain ⟨X, hX⟩ : ∃ X, X = (gt L 0).1 := ⟨_, rfl⟩
  obtain ⟨Y, hY⟩ : ∃ Y, Y = (gt L 0).2 := ⟨_, rfl⟩
  have H0 : Hid (minQ L 1 = (X, Y)) := by
    show _ = _
    rw [hX, hY]; rfl
  have HE : Hid (minP L = minQ L L.length) := rfl
  rw [← hX] at c1; rw [← hY] at c2
  have hn1 : (0 : Int) < (L.length : Int) := by omega
  have hn2 : ¬ (L.length : Int) < 1 := by omega
  have hal := below1 w (.cells #[.int .i64 0, .int .i64 0] 56)
  have d1 := cell_on hal rfl c1; have d2 := cell_on hal rfl c2
  have z0 := (at_new w 0 0 56).alloc (.cells #[.int .i64 X, .int .i64 Y] 56)
  have a0 := at_new (w.alloc (.cells #[.int .i64 0, .int .i64 0] 56)) X Y 56
  rw [size_alloc] at a0
  have b0 := below2 w (.cells #[.int .i64 0, .int .i64 0] 56) (.cells #[.int .i64 X, .int .i64 Y] 56)
  have HA := Lib.hid hA
  clear hX hY hA c1 c2 hal
  go_enter Try.func78, Try.ntmps78
  go_wp2_with fail
  generalize (w.alloc (.cells #[.int .i64 0, .int .i64 0] 56)).alloc (.cells #[.int .i64 X, .int .i64 Y] 56) = W at *
  clear d1 d2
  go_loopw [6] (fun i wr => ∃ k : Nat, 1 ≤ k ∧ k ≤ L.length ∧ i = .int .i64 k ∧ At wr (w.heap.size + 1) (minQ L k).1 (minQ L k).2 56 ∧ At wr w.heap.size 0 0 56 ∧ Below w.heap.size w wr) (fun i _ => L.length - (intOf i).toNat)
  case atStart => exact ⟨1, by omega, by omega, rfl, by rw [H0.out]; exact a0, z0, b0⟩
  case round =>
    clear a0 z0 b0 H0
    obtain ⟨wo, rfl⟩ : ∃ wo : World, wo = wr := ⟨_, rfl⟩
    obtain ⟨k, hk1, hk, rfl, a0, z0, hb⟩ := hrel
    by_cases hlt : k < L.length
    · obtain ⟨d5, d6⟩ := gt_cells (ptsA_on HA.out hb) hlt
      have HS := Lib.hid (minQ_step L hk1)
      have HC := Lib.hid (fun w => cmpPt_any (gt L k).1 (gt L k).2 (minQ L k).1 (minQ L k).2 w)
      have HZ := Lib.hid (cmpI_neg (x := gt L k) (y := minQ L k))
      have e1 : (((gt L k).1, (gt L k).2) : Pt) = gt L k := rfl
      have e2 : (((minQ L k).1, (minQ L k).2) : Pt) = minQ L k := rfl
      rw [e1, e2] at HC
      clear e1 e2
      generalize cmpI (gt L k) (minQ L k) = z at *
      have c5 := a0.c0; have c6 := a0.c1
      have hg := a0.lt
      cases hbf : befP (gt L k) (minQ L k)
      · rw [hbf] at HZ HS
        have hz : ¬ z < 0 := fun h => by have := HZ.out.1 h; cases this
        have HS2 : Hid (minQ L (k + 1) = minQ L k) := by
          show _ = _
          rw [HS.out]; simp
        clear HS HZ hbf
        generalize (gt L k).1 = x at *
        generalize (gt L k).2 = y at *
        obtain ⟨u, hu⟩ : ∃ u, u = (minQ L k).1 := ⟨_, rfl⟩
        obtain ⟨v, hv⟩ : ∃ v, v = (minQ L k).2 := ⟨_, rfl⟩
        have HUV : Hid (u = (minQ L k).1 ∧ v = (minQ L k).2) := ⟨hu, hv⟩
        rw [← hu, ← hv] at HC a0
        rw [← hu] at c5; rw [← hv] at c6
        clear hu hv
        have k1 := cell_regrown c5; have k2 := cell_regrown c6; have k3 := cell_regrown d5; have k4 := cell_regrown d6
        go_wp2_with fail
        refine wp_region_quiet_below (by kernel_rfl) (by kernel_rfl) ?_
        repeat (first
          | go_big_quiet_step (first | exact Calls.regrown_of (HC.out _))
          | quiet_step (first | exact Calls.regrown_of (HC.out _)))
        refine wpQuiet_nil ?_
        rintro _ ⟨⟨dq, osq⟩, rfl⟩
        have a5 := a0.step (below_regrown wo dq osq)
        have z5 := z0.step (below_regrown wo dq osq)
        have b5 := below_on hb (below_regrown wo dq osq)
        have R := Lib.hid (And.intro a5 (And.intro z5 b5))
        clear k1 k2 k3 k4 c5 c6 d5 d6 a0 z0 hb a5 z5 b5
        simp only at *
        generalize Go.Sort.grow (redrawn wo dq) osq = w5 at *
        go_wp2_with fail
        go_roundw
        case rel => exact ⟨k + 1, by omega, by omega, by go_num, by rw [HS2.out, ← HUV.out.1, ← HUV.out.2]; exact R.out.1, R.out.2.1, R.out.2.2⟩
        case measure => simp [intOf]; omega
      · rw [hbf] at HZ HS
        have hz : z < 0 := HZ.out.2 rfl
        have HS2 : Hid (minQ L (k + 1) = gt L k) := by
          show _ = _
          rw [HS.out]; simp
        clear HS HZ hbf
        obtain ⟨x, hx⟩ : ∃ x, x = (gt L k).1 := ⟨_, rfl⟩
        obtain ⟨y, hy⟩ : ∃ y, y = (gt L k).2 := ⟨_, rfl⟩
        have HXY : Hid (x = (gt L k).1 ∧ y = (gt L k).2) := ⟨hx, hy⟩
        rw [← hx] at d5; rw [← hy] at d6
        rw [← hx, ← hy] at HC
        clear hx hy
        generalize (minQ L k).1 = u at *
        generalize (minQ L k).2 = v at *
        have k1 := cell_regrown c5; have k2 := cell_regrown c6; have k3 := cell_regrown d5; have k4 := cell_regrown d6
        go_wp2_with fail
        refine wp_region_quiet_below (by kernel_rfl) (by kernel_rfl) ?_
        repeat (first
          | go_big_quiet_step (first | exact Calls.regrown_of (HC.out _))
          | quiet_step (first | exact Calls.regrown_of (HC.out _)))
        refine wpQuiet_nil ?_
        rintro _ ⟨⟨dq, osq⟩, rfl⟩
        have a5 := a0.step (below_regrown wo dq osq)
        have z5 := z0.step (below_regrown wo dq osq)
        have b5 := below_on hb (below_regrown wo dq osq)
        have e5 := k3 dq osq; have e6 := k4 dq osq
        clear k1 k2 k3 k4 c5 c6 d5 d6 a0 z0 hb hg
        simp only at *
        generalize Go.Sort.grow (redrawn wo dq) osq = w5 at *
        have v1 := a5.c0; have v2 := a5.c1
        have f1 := at_frozen a5 0; have f2 := at_frozen a5 1
        have v5 := (at_store a5 x 0).c1
        have a6 := at_store1 (at_store a5 x 0) y
        have z6 := at_set (at_set z5 (b := w.heap.size + 1) (by omega) 0 (.int .i64 x)) (b := w.heap.size + 1) (by omega) 1 (.int .i64 y)
        have hsw : w.heap.size ≤ w.heap.size + 1 := Nat.le_succ _
        have b6 := (b5.setCell (p := ⟨w.heap.size + 1, 0, none⟩) hsw (.int .i64 x)).setCell (p := ⟨w.heap.size + 1, 1, none⟩) hsw (.int .i64 y)
        have R := Lib.hid (And.intro a6 (And.intro z6 b6))
        clear a5 z5 b5 a6 z6 b6
        go_wp2_with fail
        go_roundw
        case rel => exact ⟨k + 1, by omega, by omega, by go_num, by rw [HS2.out, ← HXY.out.1, ← HXY.out.2]; exact R.out.1, R.out.2.1, R.out.2.2⟩
        case measure => simp [intOf]; omega
    · obtain rfl : k = L.length := by omega
      rw [← HE.out] at a0
      obtain ⟨u, hu⟩ : ∃ u, u = (minP L).1 := ⟨_, rfl⟩
      obtain ⟨v, hv⟩ : ∃ v, v = (minP L).2 := ⟨_, rfl⟩
      have HUV : Hid (Value.agg #[.int .i64 (minP L).1, .int .i64 (minP L).2] = .agg #[.int .i64 u, .int .i64 v]) := by
        show _ = _
        rw [hu, hv]
      rw [← hu, ← hv] at a0
      clear hu hv HE
      have c1 := a0.c0; have c2 := a0.c1
      have f1 := at_frozen z0 0; have f2 := at_frozen z0 1
      have v5 := (at_store z0 u 0).c1
      have v6 := z0.c0; have v7 := z0.c1
      have z3 := at_store1 (at_store z0 u 0) v
      have d1 := z3.c0; have d2 := z3.c1
      have b3 := (hb.setCell (p := ⟨w.heap.size, 0, none⟩) (Nat.le_refl _) (.int .i64 u)).setCell (p := ⟨w.heap.size, 1, none⟩) (Nat.le_refl _) (.int .i64 v)
      clear a0 z0 hb z3
      go_wp2_with fail
      exact bodyPost_ret (v := .agg #[.int .i64 u, .int .i64 v]) (by simp [results, Try.results78, go_sem, d1, d2]) rfl ⟨by rw [HUV.out], b3⟩
end Go.Proofs.Ytoemmaeglhdjnaa
