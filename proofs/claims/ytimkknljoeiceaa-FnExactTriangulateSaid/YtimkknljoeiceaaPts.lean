/-
  Slices of points: what owns them, how they are compared, marked and held.
-/
import Derived.Test.YtimkknljoeiceaaPt
import Derived.Deep.AppendLies
import Derived.OwnWalk
import Derived.Laws.Pointers
namespace Go.Proofs.Ytimkknljoeiceaa
open Go.RowKit

/-- A block that holds points one behind the other. -/
def Pts (w : World) (g : Nat) (L : List (Int × Int)) : Prop := ∀ k (h : k < L.length), w.cell? ⟨g, k * 2, none⟩ = some (.int .i64 L[k].1) ∧ w.cell? ⟨g, k * 2 + 1, none⟩ = some (.int .i64 L[k].2)
theorem Pts.step {w w' : World} {g : Nat} {L : List (Int × Int)} (h : Pts w g L) (hg : g < w.heap.size) (hb : Below w.heap.size w w') : Pts w' g L := fun k hk =>
  ⟨(hb.cell (p := ⟨g, k * 2, none⟩) hg).trans (h k hk).1, (hb.cell (p := ⟨g, k * 2 + 1, none⟩) hg).trans (h k hk).2⟩
def allOk (L : List (Int × Int)) : Bool := L.all fun p => okP p.1 p.2

/-- The cells of a list of points. -/
def flat (L : List (Int × Int)) : List Value := L.flatMap fun p => [.int .i64 p.1, .int .i64 p.2]
theorem flat_append (L M : List (Int × Int)) : flat (L ++ M) = flat L ++ flat M := by simp [flat]
theorem flat_len (L : List (Int × Int)) : (flat L).length = L.length * 2 := by
  induction L with
  | nil => rfl
  | cons p L ih =>
    have : flat (p :: L) = .int .i64 p.1 :: .int .i64 p.2 :: flat L := rfl
    rw [this]; simp [ih]; omega
theorem infoPt : (Try.prog.info? 54).map (fun i => (i.zero, i.size, i.bytes)) = some (some (.agg #[.int .i64 0, .int .i64 0]), 2, 16) := by kernel_rfl
theorem At.grown {w w' : World} {g : Nat} {x y : Int} {t : TypeId} {r : Option Nat} (h : At w g x y t) (hg : w.grownBy w' r) (hne : some g ≠ r) : At w' g x y t := (hg.block g h.lt hne).trans h

theorem own_below {w w' : World} {B : Nat} {e : TypeId} {size : Nat} {v : Value} {n : Nat} {xs : List Value} (h : w.ownsRow B e size v n xs) (hb : Below w.heap.size w w') : w'.ownsRow B e size v n xs := by
  refine ⟨h.1, ?_⟩
  rcases h.2 with h2 | ⟨g, cap, cur, hv, hg, hh, r⟩
  · exact Or.inl h2
  · exact Or.inr ⟨g, cap, cur, hv, hg, by rw [hb.block g (Array.getElem?_eq_some_iff.1 hh).1]; exact hh, r⟩
theorem own_base {w : World} {B B' : Nat} {e : TypeId} {size : Nat} {v : Value} {n : Nat} {xs : List Value} (h : w.ownsRow B e size v n xs) (hb : B' ≤ B) : w.ownsRow B' e size v n xs := by
  refine ⟨h.1, ?_⟩
  rcases h.2 with h2 | ⟨g, cap, cur, hv, hg, r⟩
  · exact Or.inl h2
  · exact Or.inr ⟨g, cap, cur, hv, by omega, r⟩
theorem Four.grown {w w' : World} {g : Nat} {ax ay bx by' px py qx qy : Int} {t : TypeId} {r : Option Nat} (h : Four w g ax ay bx by' px py qx qy t) (hg : w.grownBy w' r) (hr : ∀ k, r = some k → g + 1 + 1 + 1 + 1 ≤ k) : Four w' g ax ay bx by' px py qx qy t :=
  ⟨h.1.grown hg (fun e => by have := hr _ e.symm; omega), h.2.1.grown hg (fun e => by have := hr _ e.symm; omega), h.2.2.1.grown hg (fun e => by have := hr _ e.symm; omega), h.2.2.2.grown hg (fun e => by have := hr _ e.symm; omega)⟩
theorem Pts.grown {w w' : World} {g : Nat} {L : List (Int × Int)} {r : Option Nat} (h : Pts w g L) (hg : w.grownBy w' r) (hr : some g ≠ r) : Pts w' g L := fun k hk =>
  ⟨hg.cell (h k hk).1 hr, hg.cell (h k hk).2 hr⟩
theorem Pts.alloc {w : World} {g : Nat} {L : List (Int × Int)} (h : Pts w g L) (hg : g < w.heap.size) (o : Obj) : Pts (w.alloc o) g L := h.step hg ((Below.refl _ _).alloc (Nat.le_refl _) _)
theorem pts2_new (w : World) (ax ay bx by' : Int) : Pts (w.alloc (.cells #[.int .i64 ax, .int .i64 ay, .int .i64 bx, .int .i64 by'] 54)) w.heap.size [(ax, ay), (bx, by')] := by
  intro k hk
  simp only [World.cell?_alloc_mark]
  have hk3 : k < 2 := hk
  match k, hk3 with
  | 0, _ => exact ⟨rfl, rfl⟩
  | 1, _ => exact ⟨rfl, rfl⟩

theorem own_apart {w w1 : World} {B0 B1 : Nat} {e : TypeId} {v0 v1 : Value} {n0 n1 : Nat} {xs0 xs1 : List Value} (h0 : w.ownsRow B0 e 2 v0 n0 xs0) (hB : w.heap.size ≤ B1) (h1 : w1.ownsRow B1 e 2 v1 n1 xs1) : v0.ownBlock = none ∨ v0.ownBlock ≠ v1.ownBlock := by
  cases hv : v0.ownBlock with
  | none => exact .inl rfl
  | some k =>
    refine .inr fun he => ?_
    have a1 := (h0.lt k hv).2
    have a2 := (h1.lt k he.symm).1
    omega
theorem own_drew {w : World} {B : Nat} {e : TypeId} {size : Nat} {v : Value} {n : Nat} {xs : List Value} (h : w.ownsRow B e size v n xs) : w.drew.ownsRow B e size v n xs := h

theorem cell_on {w w' : World} {B : Nat} {a : Addr} {v : Value} (hb : Below B w w') (hB : B = w.heap.size) (h : w.cell? a = some v) : w'.cell? a = some v := by
  subst hB
  exact (hb.cell (World.block_lt_of_cell? w a h)).trans h

/-- The cells of a slice of points. -/
def PtsA (w : World) (A : Option Addr) (L : List (Int × Int)) : Prop := ∀ k (h : k < L.length), ∃ g, A = some ⟨g, 0, none⟩ ∧ w.cell? ⟨g, k * 2, none⟩ = some (.int .i64 L[k].1) ∧ w.cell? ⟨g, k * 2 + 1, none⟩ = some (.int .i64 L[k].2)
theorem flat_at (L : List (Int × Int)) : ∀ k (h : k < L.length), (flat L)[k * 2]? = some (.int .i64 L[k].1) ∧ (flat L)[k * 2 + 1]? = some (.int .i64 L[k].2) := by
  induction L with
  | nil => intro k h; simp at h
  | cons p L ih =>
    intro k h
    have e : flat (p :: L) = .int .i64 p.1 :: .int .i64 p.2 :: flat L := rfl
    rw [e]
    cases k with
    | zero => exact ⟨rfl, rfl⟩
    | succ k =>
      have := ih k (by simpa using h)
      have e1 : (k + 1) * 2 = k * 2 + 1 + 1 := by omega
      have e2 : (k + 1) * 2 + 1 = k * 2 + 1 + 1 + 1 := by omega
      rw [e2, e1]
      simpa using this
theorem own_pts {w : World} {B : Nat} {e : TypeId} {v : Value} {n : Nat} {L : List (Int × Int)} (h : w.ownsRow B e 2 v n (flat L)) :
    n = L.length ∧ ∃ A c, v = .slice A L.length c ∧ PtsA w A L := by
  have hl : L.length = n := by have := h.1; rw [flat_len] at this; omega
  refine ⟨hl.symm, ?_⟩
  subst hl
  rcases h.2 with ⟨rfl, h0⟩ | ⟨g, cap, cur, rfl, hg, hh, _⟩
  · exact ⟨none, 0, by rw [h0], fun k hk => by omega⟩
  · refine ⟨some ⟨g, 0, none⟩, cap, rfl, fun k hk => ⟨g, rfl, ?_, ?_⟩⟩
    · rw [h.cellAt (k * 2) (by omega)]; exact (flat_at L k hk).1
    · rw [h.cellAt (k * 2 + 1) (by omega)]; exact (flat_at L k hk).2
theorem ptsA_of {w : World} {B : Nat} {e : TypeId} {A : Option Addr} {n c : Nat} {L : List (Int × Int)} (h : w.ownsRow B e 2 (.slice A n c) n (flat L)) : PtsA w A L := by
  obtain ⟨_, A', c', hv, hP⟩ := own_pts h
  simp only [Value.slice.injEq] at hv
  obtain ⟨rfl, -, -⟩ := hv
  exact hP
theorem pts_lt {w : World} {B : Nat} {e : TypeId} {A : Option Addr} {n c : Nat} {xs : List Value} (h : w.ownsRow B e 2 (.slice A n c) n xs) : ∀ g, A = some ⟨g, 0, none⟩ → g < w.heap.size := fun g hA => (h.lt g (by rw [hA]; rfl)).2
theorem ptsA_on {w w' : World} {A : Option Addr} {L : List (Int × Int)} (h : PtsA w A L) (hb : Below w.heap.size w w') : PtsA w' A L := fun k hk => by
  obtain ⟨g, hA, h1, h2⟩ := h k hk
  exact ⟨g, hA, cell_on hb rfl h1, cell_on hb rfl h2⟩

set_option maxRecDepth 100000 in
set_option maxHeartbeats 800000 in
theorem eq_pts (A1 A2 : Option Addr) (c1 c2 : Nat) (L : List (Int × Int)) (w : World) (h1 : PtsA w A1 L) (h2 : PtsA w A2 L) (hL : L.length ≤ 1048576) :
    Calls Try.prog 20 #[.slice A1 L.length c1, .slice A2 L.length c2] w fun e w' => e = .returned (.bool true) ∧ Below w.heap.size w w' := by
  have H1 := Lib.hid h1; clear h1
  have H2 := Lib.hid h2; clear h2
  go_enter Try.func20, Try.ntmps20
  go_wp2_with fail
  go_loopw [5] (fun i w' => ∃ k : Nat, k ≤ L.length ∧ i = .int .i64 k ∧ Below w.heap.size w w') (fun i _ => L.length - (intOf i).toNat)
  case atStart => exact ⟨0, Nat.zero_le _, rfl, Below.refl _ _⟩
  case round =>
    obtain ⟨wo, rfl⟩ : ∃ wo : World, wo = wr := ⟨_, rfl⟩
    obtain ⟨k, hk, rfl, hb⟩ := hrel
    by_cases hlt : k < L.length
    · obtain ⟨g1, rfl, hc1, hd1⟩ := ptsA_on H1.out hb k hlt
      obtain ⟨g2, rfl, hc2, hd2⟩ := ptsA_on H2.out hb k hlt
      obtain ⟨x, hx⟩ : ∃ x, x = L[k].1 := ⟨_, rfl⟩
      obtain ⟨y, hy⟩ : ∃ y, y = L[k].2 := ⟨_, rfl⟩
      rw [← hx] at hc1 hc2
      rw [← hy] at hd1 hd2
      clear hx hy
      have HQ := Lib.hid (fun d os => Calls.regrown_of (w := wo) (d := d) (os := os) (eqPt_any x y x y _))
      have k1 := cell_regrown hc1; have k2 := cell_regrown hd1; have k3 := cell_regrown hc2; have k4 := cell_regrown hd2
      go_wp2_with fail
      refine wp_region_quiet_below (by kernel_rfl) (by kernel_rfl) ?_
      repeat (first
        | go_big_quiet_step (first | exact Calls.regrown_of (eqPt_any _ _ _ _ _))
        | quiet_step (first | exact Calls.regrown_of (eqPt_any _ _ _ _ _)))
      refine wpQuiet_nil ?_
      rintro _ ⟨⟨dq, osq⟩, rfl⟩
      have hb2 := hb.trans ((below_regrown wo dq osq).mono hb.size)
      clear hc1 hd1 hc2 hd2 k1 k2 k3 k4
      simp only at *
      generalize Go.Sort.grow (redrawn wo dq) osq = w2 at *
      go_wp2_with fail
      go_roundw
      case rel => exact ⟨k + 1, by omega, by go_num, hb2⟩
      case measure => simp [intOf]; omega
    · go_wp2_with fail
      go_ret
      exact ⟨rfl, hb⟩
/-- The marks 1, 2 .. m. -/
def marksI (m : Nat) : List Value := (List.range m).map fun (j : Nat) => .int .i64 (1 + (j : Int))
theorem marksI_len (m : Nat) : (marksI m).length = m := by simp [marksI]
theorem marksI_step {j : Nat} {xs : List Value} (hj : j < xs.length) : (marksI j ++ xs.drop j).set j (.int .i64 (1 + (j : Int))) = marksI (j + 1) ++ xs.drop (j + 1) := by
  have h1 := marksI_len j
  rw [List.set_append_right _ _ (by rw [h1]; exact Nat.le_refl _), h1, Nat.sub_self, List.drop_eq_getElem_cons hj, List.set_cons_zero]
  simp [marksI, List.range_succ]
theorem only_set {w w1 : World} {g : Nat} (h : w.grownBy w1 (some g)) (j : Nat) (u : Value) : w.grownBy (w1.setCell ⟨g, j, none⟩ u) (some g) :=
  ⟨h.os, h.tape, h.output, by simpa [World.setCell] using h.size, fun k hk hr => (Below.heap_setCell w1 ⟨g, j, none⟩ u k (by
    intro e; exact hr (by rw [e]))).trans (h.block k hk hr)⟩
theorem cell_some {w : World} {B : Nat} {e : TypeId} {g n cap : Nat} {xs : List Value} (h : w.ownsRow B e 2 (.slice (some ⟨g, 0, none⟩) n cap) n xs) (j : Nat) (hj : j < n * 2) : ∃ u, w.cell? ⟨g, j, none⟩ = some u := by
  rw [h.cellAt j hj]
  have : j < xs.length := by rw [h.1]; exact hj
  exact ⟨_, List.getElem?_eq_getElem this⟩

set_option maxRecDepth 100000 in
set_option maxHeartbeats 800000 in
/-- Every number of an owned slice of points is overwritten by its mark. -/
theorem mark_pts (B : Nat) (v : Value) (n : Nat) (xs : List Value) (w : World) (hown : w.ownsRow B 54 2 v n xs) (hn : n ≤ 1048576) :
    Calls Try.prog 21 #[v, .int .i64 1] w fun e w' => e = .returned (.int .i64 (1 + 2 * n)) ∧ w'.ownsRow B 54 2 v n (marksI (n * 2)) ∧ w.grownBy w' v.ownBlock := by
  have hl : xs.length = n * 2 := hown.1
  rcases hown.2 with ⟨rfl, rfl⟩ | ⟨g, cap, cur, rfl, _⟩
  · go_enter Try.func21, Try.ntmps21
    go_wp2_with fail
    refine wp_loop_rounds 1 ?_
    rw [rounds_succ]
    go_wp2_with fail
    go_ret
    exact ⟨rfl, World.ownsRow_nil _ _ _ _, World.grownBy.refl _ _⟩
  · go_enter Try.func21, Try.ntmps21
    go_wp2_with fail
    go_loopw [1, 5] (fun m i wr => ∃ k : Nat, k ≤ n ∧ i = .int .i64 k ∧ m = .int .i64 (1 + 2 * k) ∧ wr.ownsRow B 54 2 (.slice (some ⟨g, 0, none⟩) n cap) n (marksI (k * 2) ++ xs.drop (k * 2)) ∧ w.grownBy wr (some g)) (fun _ i _ => n - (intOf i).toNat)
    case atStart => exact ⟨0, Nat.zero_le _, rfl, rfl, by simpa [marksI] using hown, World.grownBy.refl _ _⟩
    case round =>
      obtain ⟨k, hk, rfl, rfl, hown', hgr⟩ := hrel
      by_cases hlt : k < n
      · obtain ⟨u1, hc1⟩ := cell_some hown' (k * 2) (by omega)
        have hf1 := hown'.frozenAt (k * 2)
        have hs1 := (hown'.stored (k * 2) (.int .i64 (1 + 2 * (k : Int)))).1
        have e1 : (1 : Int) + 2 * (k : Int) = 1 + ((k * 2 : Nat) : Int) := by omega
        have hs2 := hs1
        rw [e1, marksI_step (by omega)] at hs2
        rw [← e1] at hs2
        have hg2 := only_set hgr (k * 2) (.int .i64 (1 + 2 * (k : Int)))
        obtain ⟨u2, hc2⟩ := cell_some hs2 (k * 2 + 1) (by omega)
        have hf2 := hs2.frozenAt (k * 2 + 1)
        have hs3 := (hs2.stored (k * 2 + 1) (.int .i64 (1 + 2 * (k : Int) + 1))).1
        have e2 : (1 : Int) + 2 * (k : Int) + 1 = 1 + ((k * 2 + 1 : Nat) : Int) := by omega
        have hs4 := hs3
        rw [e2, marksI_step (by omega)] at hs4
        rw [← e2] at hs4
        have hg4 := only_set hg2 (k * 2 + 1) (.int .i64 (1 + 2 * (k : Int) + 1))
        have R := Lib.hid (And.intro hs4 hg4)
        clear hs1 hs2 hs3 hs4 hg2 hg4 hown' hgr hown e1 e2
        go_wp2_with fail
        go_roundw
        case rel => exact ⟨k + 1, by omega, by go_num, by go_num, by rw [show (k + 1) * 2 = k * 2 + 1 + 1 from by omega]; exact R.out.1, R.out.2⟩
        case measure => simp [intOf]; omega
      · obtain rfl : k = n := by omega
        rw [List.drop_of_length_le (by omega), List.append_nil] at hown'
        have R := Lib.hid hown'
        clear hown' hown
        go_wp2_with fail
        go_ret
        exact ⟨rfl, R.out, hgr⟩
end Go.Proofs.Ytimkknljoeiceaa
