/-
  Walks for BoxOf of both programs.
-/
import Derived.Test.YtbmeemmihkedoaaClone
namespace Go.Proofs.Ytbmeemmihkedoaa
open Go.RowKit

def minI (x y : Int) : Int := if y < x then y else x
def maxI (x y : Int) : Int := if x < y then y else x
theorem run_minI (w : World) (x y : Int) (ts : Array TypeId) (t : TypeId) : (Builtin.min_ ts t #[.int .i64 x, .int .i64 y]).run Try.prog w = .ok (.int .i64 (minI x y)) w := by
  simp [go_sem, minI]
theorem run_maxI (w : World) (x y : Int) (ts : Array TypeId) (t : TypeId) : (Builtin.max_ ts t #[.int .i64 x, .int .i64 y]).run Try.prog w = .ok (.int .i64 (maxI x y)) w := by
  simp [go_sem, maxI]
def boxStep (s : (Int × Int) × (Int × Int)) (p : Int × Int) : (Int × Int) × (Int × Int) := ((minI s.1.1 p.1, minI s.1.2 p.2), (maxI s.2.1 p.1, maxI s.2.2 p.2))
def boxTill (L : List (Int × Int)) : Nat → (Int × Int) × (Int × Int)
  | 0 => (gt L 0, gt L 0)
  | k + 1 => boxStep (boxTill L k) (gt L k)
def ptV (p : Int × Int) : Value := .agg #[.int .i64 p.1, .int .i64 p.2]
def boxR (L : List (Int × Int)) : Value := bif polyB L then .tuple #[ptV (boxTill L L.length).1, ptV (boxTill L L.length).2, .bool true] else .tuple #[ptV (0, 0), ptV (0, 0), .bool false]


set_option maxRecDepth 100000 in
set_option maxHeartbeats 4000000 in
theorem impl_box (A : Option Addr) (c : Nat) (L : List (Int × Int)) (w : World) (hA : PtsA w A L) (hL : L.length ≤ 1048576) :
    Calls Try.prog 103 #[.slice A L.length c] w fun e w' => e = .returned (boxR L) ∧ Below w.heap.size w w' := by
  have hb0 := below2 w (.cells #[.int .i64 0, .int .i64 0] 27) (.cells #[.int .i64 0, .int .i64 0] 27)
  have PC := Lib.hid (fun (W : World) (hb : Below w.heap.size w W) => impl_poly A c L W (ptsA_on hA hb) hL)
  have a1 := (at_new w 0 0 27).alloc (.cells #[.int .i64 0, .int .i64 0] 27)
  have a2 := at_new (w.alloc (.cells #[.int .i64 0, .int .i64 0] 27)) 0 0 27
  rw [size_alloc] at a2
  cases hp : polyB L
  · have HR : Hid (boxR L = .tuple #[.agg #[.int .i64 0, .int .i64 0], .agg #[.int .i64 0, .int .i64 0], .bool false]) := by
      show _ = _
      rw [boxR, hp]; rfl
    rw [hp] at PC
    clear hA
    go_enter Try.func103, Try.ntmps103
    go_wp2_with fail
    refine (PC.out _ hb0).mono ?_
    rintro e w1 ⟨rfl, hb1⟩
    have b1 := hb0.trans (hb1.mono hb0.size)
    have r1 := a1.step hb1
    have r2 := a2.step hb1
    have c1 := r1.c0; have c2 := r1.c1; have c3 := r2.c0; have c4 := r2.c1
    have f1 := at_frozen r1 0; have f2 := at_frozen r1 1; have f3 := at_frozen r2 0; have f4 := at_frozen r2 1
    have e1 := at_store1 (at_store r1 0 0) 0
    have e2 := at_set (at_set r2 (b := w.heap.size) (by omega) 0 (.int .i64 0)) (b := w.heap.size) (by omega) 1 (.int .i64 0)
    have e3 := at_store1 (at_store e2 0 0) 0
    have e4 := at_set (at_set e1 (b := w.heap.size + 1) (by omega) 0 (.int .i64 0)) (b := w.heap.size + 1) (by omega) 1 (.int .i64 0)
    have q1 := e2.c0; have q2 := e2.c1; have q3 := at_frozen e2 0; have q4 := at_frozen e2 1
    have d1 := e4.c0; have d2 := e4.c1; have d3 := e3.c0; have d4 := e3.c1
    have hsw : w.heap.size ≤ w.heap.size + 1 := Nat.le_succ _
    have bE := (((b1.setCell (p := ⟨w.heap.size, 0, none⟩) (Nat.le_refl _) (.int .i64 0)).setCell (p := ⟨w.heap.size, 1, none⟩) (Nat.le_refl _) (.int .i64 0)).setCell (p := ⟨w.heap.size + 1, 0, none⟩) hsw (.int .i64 0)).setCell (p := ⟨w.heap.size + 1, 1, none⟩) hsw (.int .i64 0)
    clear hb1 b1 r1 r2 e1 e2 e3 e4
    go_wp2_with fail
    exact bodyPost_ret (v := .tuple #[.agg #[.int .i64 0, .int .i64 0], .agg #[.int .i64 0, .int .i64 0], .bool false]) (by simp [results, Try.results103, go_sem, d1, d2, d3, d4]) rfl ⟨by rw [HR.out], bE⟩
  · obtain ⟨h3, h10, hok⟩ := polyB_all hp
    obtain ⟨g, rfl, -⟩ := hA 0 (by omega)
    have hmin : ∀ (w : World) (x y : Int) (ts : Array TypeId) (t : TypeId), (Builtin.min_ ts t #[.int .i64 x, .int .i64 y]).run Try.prog w = .ok (.int .i64 (minI x y)) w := run_minI
    have hmax : ∀ (w : World) (x y : Int) (ts : Array TypeId) (t : TypeId), (Builtin.max_ ts t #[.int .i64 x, .int .i64 y]).run Try.prog w = .ok (.int .i64 (maxI x y)) w := run_maxI
    have HR : Hid (boxR L = .tuple #[ptV (boxTill L L.length).1, ptV (boxTill L L.length).2, .bool true]) := by
      show _ = _
      rw [boxR, hp]; rfl
    rw [hp] at PC
    go_enter Try.func103, Try.ntmps103
    go_wp2_with fail
    refine (PC.out _ hb0).mono ?_
    rintro e w1 ⟨rfl, hb1⟩
    have b1 := hb0.trans (hb1.mono hb0.size)
    have hs1 : w.heap.size + 2 ≤ w1.heap.size := by have := hb1.size; simp at this; omega
    have r1 := a1.step hb1
    have r2 := a2.step hb1
    have HA := Lib.hid (ptsA_on hA b1)
    obtain ⟨c1, c2⟩ := gt_cells HA.out (i := 0) (by omega)
    simp only [Nat.zero_mul, Nat.zero_add] at c1 c2
    obtain ⟨X, hX⟩ : ∃ X, X = (gt L 0).1 := ⟨_, rfl⟩
    obtain ⟨Y, hY⟩ : ∃ Y, Y = (gt L 0).2 := ⟨_, rfl⟩
    have H0 : Hid (boxTill L 0 = ((X, Y), (X, Y))) := by
      show _ = _
      rw [hX, hY]; rfl
    rw [← hX] at c1; rw [← hY] at c2
    have d1 := cell_on (below1 w1 (.cells #[.int .i64 X, .int .i64 Y] 27)) rfl c1
    have d2 := cell_on (below1 w1 (.cells #[.int .i64 X, .int .i64 Y] 27)) rfl c2
    have hn1 : (0 : Int) < (L.length : Int) := by omega
    have m1 := fun o => cell_on (below1 w1 o) rfl c1
    have m2 := fun o => cell_on (below1 w1 o) rfl c2
    have m3 := fun o p => cell_on (below2 w1 o p) rfl c1
    have m4 := fun o p => cell_on (below2 w1 o p) rfl c2
    clear hX hY hA hb1 hb0 a1 a2 PC d1 d2
    go_wp2_with fail
    go_region
    · go_wp2_with fail
      obtain ⟨W, hW⟩ : ∃ W, W = ((w1.alloc (.cells #[.int .i64 X, .int .i64 Y] 27)).alloc (.cells #[.int .i64 X, .int .i64 Y] 27)).drew := ⟨_, rfl⟩
      have aL : At W (w1.heap.size) X Y 27 := by rw [hW]; exact (at_new w1 X Y 27).alloc _
      have aH : At W (w1.heap.size + 1) X Y 27 := by rw [hW]; have := at_new (w1.alloc (.cells #[.int .i64 X, .int .i64 Y] 27)) X Y 27; rwa [size_alloc] at this
      have z3 : At W w.heap.size 0 0 27 := by rw [hW]; exact (r1.alloc _).alloc _
      have z4 : At W (w.heap.size + 1) 0 0 27 := by rw [hW]; exact (r2.alloc _).alloc _
      have b3 : Below w.heap.size w W := by rw [hW]; exact (b1.trans ((below2 w1 _ _).mono (by omega))).drew
      have b13 : Below w1.heap.size w1 W := by rw [hW]; exact (below2 w1 _ _).drew
      rw [← hW]
      clear hW c1 c2 r1 r2 b1 m1 m2 m3 m4
      go_loopw [22] (fun i wr => ∃ k : Nat, k ≤ L.length ∧ i = .int .i64 k ∧ At wr (w1.heap.size) (boxTill L k).1.1 (boxTill L k).1.2 27 ∧ At wr (w1.heap.size + 1) (boxTill L k).2.1 (boxTill L k).2.2 27 ∧ At wr w.heap.size 0 0 27 ∧ At wr (w.heap.size + 1) 0 0 27 ∧ Below w.heap.size w wr ∧ Below w1.heap.size w1 wr) (fun i _ => L.length - (intOf i).toNat)
      case atStart => exact ⟨0, Nat.zero_le _, rfl, by rw [H0.out]; exact aL, by rw [H0.out]; exact aH, z3, z4, b3, b13⟩
      case round =>
        clear aL aH z3 z4 b3 b13
        obtain ⟨k, hk, rfl, aL, aH, z3, z4, b3, b13⟩ := hrel
        by_cases hlt : k < L.length
        · obtain ⟨c1, c2⟩ := gt_cells (ptsA_on HA.out b13) hlt
          have HS : Hid (boxTill L (k + 1) = boxStep (boxTill L k) (gt L k)) := rfl
          have hsk := b13.size
          obtain ⟨x, hx⟩ : ∃ x, x = (gt L k).1 := ⟨_, rfl⟩
          obtain ⟨y, hy⟩ : ∃ y, y = (gt L k).2 := ⟨_, rfl⟩
          obtain ⟨lx, hlx⟩ : ∃ lx, lx = (boxTill L k).1.1 := ⟨_, rfl⟩
          obtain ⟨ly, hly⟩ : ∃ ly, ly = (boxTill L k).1.2 := ⟨_, rfl⟩
          obtain ⟨hx', hhx⟩ : ∃ hx', hx' = (boxTill L k).2.1 := ⟨_, rfl⟩
          obtain ⟨hy', hhy⟩ : ∃ hy', hy' = (boxTill L k).2.2 := ⟨_, rfl⟩
          have HT : Hid (boxTill L (k + 1) = ((minI lx x, minI ly y), (maxI hx' x, maxI hy' y))) := by
            show _ = _
            rw [HS.out, hx, hy, hlx, hly, hhx, hhy]; rfl
          rw [← hx] at c1; rw [← hy] at c2; rw [← hlx, ← hly] at aL; rw [← hhx, ← hhy] at aH
          clear hx hy hlx hly hhx hhy HS
          have hl1 := aL.lt
          have hl2 := aH.lt
          have a0 := at_new wr x y 27
          have aL1 := aL.alloc (.cells #[.int .i64 x, .int .i64 y] 27)
          have aH1 := aH.alloc (.cells #[.int .i64 x, .int .i64 y] 27)
          have y3 := z3.alloc (.cells #[.int .i64 x, .int .i64 y] 27)
          have y4 := z4.alloc (.cells #[.int .i64 x, .int .i64 y] 27)
          have bb := b3.alloc b3.size (.cells #[.int .i64 x, .int .i64 y] 27)
          have bb13 := b13.alloc hsk (.cells #[.int .i64 x, .int .i64 y] 27)
          have l1 := aL1.c0; have l2 := aL1.c1; have p1 := a0.c0; have p2 := a0.c1
          have g1 := at_frozen aL1 0; have g2 := at_frozen aL1 1
          have aL2 := at_store1 (at_store aL1 (minI lx x) 0) (minI ly y)
          have aH2 := at_set (at_set aH1 (b := w1.heap.size) (by omega) 0 (.int .i64 (minI lx x))) (b := w1.heap.size) (by omega) 1 (.int .i64 (minI ly y))
          have a02 := at_set (at_set a0 (b := w1.heap.size) (by omega) 0 (.int .i64 (minI lx x))) (b := w1.heap.size) (by omega) 1 (.int .i64 (minI ly y))
          have l3 := (at_store aL1 (minI lx x) 0).c1
          have h1 := aH2.c0; have h2 := aH2.c1; have p3 := a02.c0; have p4 := a02.c1
          have g3 := at_frozen aH2 0; have g4 := at_frozen aH2 1
          have h4 := (at_store aH2 (maxI hx' x) 0).c1
          have aH3 := at_store1 (at_store aH2 (maxI hx' x) 0) (maxI hy' y)
          have aL3 := at_set (at_set aL2 (b := w1.heap.size + 1) (by omega) 0 (.int .i64 (maxI hx' x))) (b := w1.heap.size + 1) (by omega) 1 (.int .i64 (maxI hy' y))
          have y3' := at_set (at_set (at_set (at_set y3 (b := w1.heap.size) (by omega) 0 (.int .i64 (minI lx x))) (b := w1.heap.size) (by omega) 1 (.int .i64 (minI ly y))) (b := w1.heap.size + 1) (by omega) 0 (.int .i64 (maxI hx' x))) (b := w1.heap.size + 1) (by omega) 1 (.int .i64 (maxI hy' y))
          have y4' := at_set (at_set (at_set (at_set y4 (b := w1.heap.size) (by omega) 0 (.int .i64 (minI lx x))) (b := w1.heap.size) (by omega) 1 (.int .i64 (minI ly y))) (b := w1.heap.size + 1) (by omega) 0 (.int .i64 (maxI hx' x))) (b := w1.heap.size + 1) (by omega) 1 (.int .i64 (maxI hy' y))
          have hle1 : w.heap.size ≤ w1.heap.size := by omega
          have hle2 : w.heap.size ≤ w1.heap.size + 1 := by omega
          have hle3 : w1.heap.size ≤ w1.heap.size := by omega
          have hle4 : w1.heap.size ≤ w1.heap.size + 1 := by omega
          have bb' := (((bb.setCell (p := ⟨w1.heap.size, 0, none⟩) hle1 (.int .i64 (minI lx x))).setCell (p := ⟨w1.heap.size, 1, none⟩) hle1 (.int .i64 (minI ly y))).setCell (p := ⟨w1.heap.size + 1, 0, none⟩) hle2 (.int .i64 (maxI hx' x))).setCell (p := ⟨w1.heap.size + 1, 1, none⟩) hle2 (.int .i64 (maxI hy' y))
          have bb13' := (((bb13.setCell (p := ⟨w1.heap.size, 0, none⟩) hle3 (.int .i64 (minI lx x))).setCell (p := ⟨w1.heap.size, 1, none⟩) hle3 (.int .i64 (minI ly y))).setCell (p := ⟨w1.heap.size + 1, 0, none⟩) hle4 (.int .i64 (maxI hx' x))).setCell (p := ⟨w1.heap.size + 1, 1, none⟩) hle4 (.int .i64 (maxI hy' y))
          have R := Lib.hid (And.intro aL3 (And.intro aH3 (And.intro y3' (And.intro y4' (And.intro bb' bb13')))))
          have d1 := cell_on (below1 wr (.cells #[.int .i64 x, .int .i64 y] 27)) rfl c1
          have d2 := cell_on (below1 wr (.cells #[.int .i64 x, .int .i64 y] 27)) rfl c2
          clear aL aH z3 z4 b3 b13 aL1 aH1 y3 y4 bb bb13 aL2 aH2 a02 aH3 aL3 y3' y4' bb' bb13' a0 hl1 hl2 hle1 hle2 hle3 hle4
          go_wp2_with fail
          go_roundw
          case rel => exact ⟨k + 1, by omega, by go_num, by rw [HT.out]; exact R.out.1, by rw [HT.out]; exact R.out.2.1, R.out.2.2.1, R.out.2.2.2.1, R.out.2.2.2.2.1, R.out.2.2.2.2.2⟩
          case measure => simp [intOf]; omega
        · obtain rfl : k = L.length := by omega
          obtain ⟨lx, hlx⟩ : ∃ lx, lx = (boxTill L L.length).1.1 := ⟨_, rfl⟩
          obtain ⟨ly, hly⟩ : ∃ ly, ly = (boxTill L L.length).1.2 := ⟨_, rfl⟩
          obtain ⟨hx', hhx⟩ : ∃ hx', hx' = (boxTill L L.length).2.1 := ⟨_, rfl⟩
          obtain ⟨hy', hhy⟩ : ∃ hy', hy' = (boxTill L L.length).2.2 := ⟨_, rfl⟩
          have HT : Hid (boxR L = .tuple #[.agg #[.int .i64 lx, .int .i64 ly], .agg #[.int .i64 hx', .int .i64 hy'], .bool true]) := by
            show _ = _
            rw [HR.out, hlx, hly, hhx, hhy]; rfl
          rw [← hlx, ← hly] at aL; rw [← hhx, ← hhy] at aH
          clear hlx hly hhx hhy
          have l1 := aL.c0; have l2 := aL.c1; have h1 := aH.c0; have h2 := aH.c1
          have f1 := at_frozen z3 0; have f2 := at_frozen z3 1; have f3 := at_frozen z4 0; have f4 := at_frozen z4 1
          have v1 := z3.c0; have v2 := z3.c1; have v3 := z4.c0; have v4 := z4.c1
          have v5 := (at_store z3 lx 0).c1
          have e1 := at_store1 (at_store z3 lx 0) ly
          have e2 := at_set (at_set z4 (b := w.heap.size) (by omega) 0 (.int .i64 lx)) (b := w.heap.size) (by omega) 1 (.int .i64 ly)
          have q1 := e2.c0; have q2 := e2.c1; have q3 := at_frozen e2 0; have q4 := at_frozen e2 1
          have q5 := (at_store e2 hx' 0).c1
          have e3 := at_store1 (at_store e2 hx' 0) hy'
          have e4 := at_set (at_set e1 (b := w.heap.size + 1) (by omega) 0 (.int .i64 hx')) (b := w.heap.size + 1) (by omega) 1 (.int .i64 hy')
          have d1 := e4.c0; have d2 := e4.c1; have d3 := e3.c0; have d4 := e3.c1
          have hsw : w.heap.size ≤ w.heap.size + 1 := Nat.le_succ _
          have bE := (((b3.setCell (p := ⟨w.heap.size, 0, none⟩) (Nat.le_refl _) (.int .i64 lx)).setCell (p := ⟨w.heap.size, 1, none⟩) (Nat.le_refl _) (.int .i64 ly)).setCell (p := ⟨w.heap.size + 1, 0, none⟩) hsw (.int .i64 hx')).setCell (p := ⟨w.heap.size + 1, 1, none⟩) hsw (.int .i64 hy')
          have R := Lib.hid (And.intro bE.drew (And.intro e3 e4))
          clear aL aH z3 z4 b3 b13 e1 e2 e3 e4 bE HR
          go_wp2_with fail
          go_region
          go_wp2_with fail
          exact bodyPost_ret (v := .tuple #[.agg #[.int .i64 lx, .int .i64 ly], .agg #[.int .i64 hx', .int .i64 hy'], .bool true]) (by simp [results, Try.results103, go_sem, d1, d2, d3, d4]) rfl ⟨by rw [HT.out], R.out.1⟩
    · go_wp2_with fail
      obtain ⟨W, hW⟩ : ∃ W, W = ((w1.alloc (.cells #[.int .i64 X, .int .i64 Y] 27)).alloc (.cells #[.int .i64 X, .int .i64 Y] 27)).drew := ⟨_, rfl⟩
      have aL : At W (w1.heap.size + 1) X Y 27 := by rw [hW]; have := at_new (w1.alloc (.cells #[.int .i64 X, .int .i64 Y] 27)) X Y 27; rwa [size_alloc] at this
      have aH : At W (w1.heap.size) X Y 27 := by rw [hW]; exact (at_new w1 X Y 27).alloc _
      have z3 : At W w.heap.size 0 0 27 := by rw [hW]; exact (r1.alloc _).alloc _
      have z4 : At W (w.heap.size + 1) 0 0 27 := by rw [hW]; exact (r2.alloc _).alloc _
      have b3 : Below w.heap.size w W := by rw [hW]; exact (b1.trans ((below2 w1 _ _).mono (by omega))).drew
      have b13 : Below w1.heap.size w1 W := by rw [hW]; exact (below2 w1 _ _).drew
      rw [← hW]
      clear hW c1 c2 r1 r2 b1 m1 m2 m3 m4
      go_loopw [22] (fun i wr => ∃ k : Nat, k ≤ L.length ∧ i = .int .i64 k ∧ At wr (w1.heap.size + 1) (boxTill L k).1.1 (boxTill L k).1.2 27 ∧ At wr (w1.heap.size) (boxTill L k).2.1 (boxTill L k).2.2 27 ∧ At wr w.heap.size 0 0 27 ∧ At wr (w.heap.size + 1) 0 0 27 ∧ Below w.heap.size w wr ∧ Below w1.heap.size w1 wr) (fun i _ => L.length - (intOf i).toNat)
      case atStart => exact ⟨0, Nat.zero_le _, rfl, by rw [H0.out]; exact aL, by rw [H0.out]; exact aH, z3, z4, b3, b13⟩
      case round =>
        clear aL aH z3 z4 b3 b13
        obtain ⟨k, hk, rfl, aL, aH, z3, z4, b3, b13⟩ := hrel
        by_cases hlt : k < L.length
        · obtain ⟨c1, c2⟩ := gt_cells (ptsA_on HA.out b13) hlt
          have HS : Hid (boxTill L (k + 1) = boxStep (boxTill L k) (gt L k)) := rfl
          have hsk := b13.size
          obtain ⟨x, hx⟩ : ∃ x, x = (gt L k).1 := ⟨_, rfl⟩
          obtain ⟨y, hy⟩ : ∃ y, y = (gt L k).2 := ⟨_, rfl⟩
          obtain ⟨lx, hlx⟩ : ∃ lx, lx = (boxTill L k).1.1 := ⟨_, rfl⟩
          obtain ⟨ly, hly⟩ : ∃ ly, ly = (boxTill L k).1.2 := ⟨_, rfl⟩
          obtain ⟨hx', hhx⟩ : ∃ hx', hx' = (boxTill L k).2.1 := ⟨_, rfl⟩
          obtain ⟨hy', hhy⟩ : ∃ hy', hy' = (boxTill L k).2.2 := ⟨_, rfl⟩
          have HT : Hid (boxTill L (k + 1) = ((minI lx x, minI ly y), (maxI hx' x, maxI hy' y))) := by
            show _ = _
            rw [HS.out, hx, hy, hlx, hly, hhx, hhy]; rfl
          rw [← hx] at c1; rw [← hy] at c2; rw [← hlx, ← hly] at aL; rw [← hhx, ← hhy] at aH
          clear hx hy hlx hly hhx hhy HS
          have hl1 := aL.lt
          have hl2 := aH.lt
          have a0 := at_new wr x y 27
          have aL1 := aL.alloc (.cells #[.int .i64 x, .int .i64 y] 27)
          have aH1 := aH.alloc (.cells #[.int .i64 x, .int .i64 y] 27)
          have y3 := z3.alloc (.cells #[.int .i64 x, .int .i64 y] 27)
          have y4 := z4.alloc (.cells #[.int .i64 x, .int .i64 y] 27)
          have bb := b3.alloc b3.size (.cells #[.int .i64 x, .int .i64 y] 27)
          have bb13 := b13.alloc hsk (.cells #[.int .i64 x, .int .i64 y] 27)
          have l1 := aL1.c0; have l2 := aL1.c1; have p1 := a0.c0; have p2 := a0.c1
          have g1 := at_frozen aL1 0; have g2 := at_frozen aL1 1
          have aL2 := at_store1 (at_store aL1 (minI lx x) 0) (minI ly y)
          have aH2 := at_set (at_set aH1 (b := w1.heap.size + 1) (by omega) 0 (.int .i64 (minI lx x))) (b := w1.heap.size + 1) (by omega) 1 (.int .i64 (minI ly y))
          have a02 := at_set (at_set a0 (b := w1.heap.size + 1) (by omega) 0 (.int .i64 (minI lx x))) (b := w1.heap.size + 1) (by omega) 1 (.int .i64 (minI ly y))
          have l3 := (at_store aL1 (minI lx x) 0).c1
          have h1 := aH2.c0; have h2 := aH2.c1; have p3 := a02.c0; have p4 := a02.c1
          have g3 := at_frozen aH2 0; have g4 := at_frozen aH2 1
          have h4 := (at_store aH2 (maxI hx' x) 0).c1
          have aH3 := at_store1 (at_store aH2 (maxI hx' x) 0) (maxI hy' y)
          have aL3 := at_set (at_set aL2 (b := w1.heap.size) (by omega) 0 (.int .i64 (maxI hx' x))) (b := w1.heap.size) (by omega) 1 (.int .i64 (maxI hy' y))
          have y3' := at_set (at_set (at_set (at_set y3 (b := w1.heap.size + 1) (by omega) 0 (.int .i64 (minI lx x))) (b := w1.heap.size + 1) (by omega) 1 (.int .i64 (minI ly y))) (b := w1.heap.size) (by omega) 0 (.int .i64 (maxI hx' x))) (b := w1.heap.size) (by omega) 1 (.int .i64 (maxI hy' y))
          have y4' := at_set (at_set (at_set (at_set y4 (b := w1.heap.size + 1) (by omega) 0 (.int .i64 (minI lx x))) (b := w1.heap.size + 1) (by omega) 1 (.int .i64 (minI ly y))) (b := w1.heap.size) (by omega) 0 (.int .i64 (maxI hx' x))) (b := w1.heap.size) (by omega) 1 (.int .i64 (maxI hy' y))
          have hle1 : w.heap.size ≤ w1.heap.size + 1 := by omega
          have hle2 : w.heap.size ≤ w1.heap.size := by omega
          have hle3 : w1.heap.size ≤ w1.heap.size + 1 := by omega
          have hle4 : w1.heap.size ≤ w1.heap.size := by omega
          have bb' := (((bb.setCell (p := ⟨w1.heap.size + 1, 0, none⟩) hle1 (.int .i64 (minI lx x))).setCell (p := ⟨w1.heap.size + 1, 1, none⟩) hle1 (.int .i64 (minI ly y))).setCell (p := ⟨w1.heap.size, 0, none⟩) hle2 (.int .i64 (maxI hx' x))).setCell (p := ⟨w1.heap.size, 1, none⟩) hle2 (.int .i64 (maxI hy' y))
          have bb13' := (((bb13.setCell (p := ⟨w1.heap.size + 1, 0, none⟩) hle3 (.int .i64 (minI lx x))).setCell (p := ⟨w1.heap.size + 1, 1, none⟩) hle3 (.int .i64 (minI ly y))).setCell (p := ⟨w1.heap.size, 0, none⟩) hle4 (.int .i64 (maxI hx' x))).setCell (p := ⟨w1.heap.size, 1, none⟩) hle4 (.int .i64 (maxI hy' y))
          have R := Lib.hid (And.intro aL3 (And.intro aH3 (And.intro y3' (And.intro y4' (And.intro bb' bb13')))))
          have d1 := cell_on (below1 wr (.cells #[.int .i64 x, .int .i64 y] 27)) rfl c1
          have d2 := cell_on (below1 wr (.cells #[.int .i64 x, .int .i64 y] 27)) rfl c2
          clear aL aH z3 z4 b3 b13 aL1 aH1 y3 y4 bb bb13 aL2 aH2 a02 aH3 aL3 y3' y4' bb' bb13' a0 hl1 hl2 hle1 hle2 hle3 hle4
          go_wp2_with fail
          go_roundw
          case rel => exact ⟨k + 1, by omega, by go_num, by rw [HT.out]; exact R.out.1, by rw [HT.out]; exact R.out.2.1, R.out.2.2.1, R.out.2.2.2.1, R.out.2.2.2.2.1, R.out.2.2.2.2.2⟩
          case measure => simp [intOf]; omega
        · obtain rfl : k = L.length := by omega
          obtain ⟨lx, hlx⟩ : ∃ lx, lx = (boxTill L L.length).1.1 := ⟨_, rfl⟩
          obtain ⟨ly, hly⟩ : ∃ ly, ly = (boxTill L L.length).1.2 := ⟨_, rfl⟩
          obtain ⟨hx', hhx⟩ : ∃ hx', hx' = (boxTill L L.length).2.1 := ⟨_, rfl⟩
          obtain ⟨hy', hhy⟩ : ∃ hy', hy' = (boxTill L L.length).2.2 := ⟨_, rfl⟩
          have HT : Hid (boxR L = .tuple #[.agg #[.int .i64 lx, .int .i64 ly], .agg #[.int .i64 hx', .int .i64 hy'], .bool true]) := by
            show _ = _
            rw [HR.out, hlx, hly, hhx, hhy]; rfl
          rw [← hlx, ← hly] at aL; rw [← hhx, ← hhy] at aH
          clear hlx hly hhx hhy
          have l1 := aL.c0; have l2 := aL.c1; have h1 := aH.c0; have h2 := aH.c1
          have f1 := at_frozen z3 0; have f2 := at_frozen z3 1; have f3 := at_frozen z4 0; have f4 := at_frozen z4 1
          have v1 := z3.c0; have v2 := z3.c1; have v3 := z4.c0; have v4 := z4.c1
          have v5 := (at_store z3 lx 0).c1
          have e1 := at_store1 (at_store z3 lx 0) ly
          have e2 := at_set (at_set z4 (b := w.heap.size) (by omega) 0 (.int .i64 lx)) (b := w.heap.size) (by omega) 1 (.int .i64 ly)
          have q1 := e2.c0; have q2 := e2.c1; have q3 := at_frozen e2 0; have q4 := at_frozen e2 1
          have q5 := (at_store e2 hx' 0).c1
          have e3 := at_store1 (at_store e2 hx' 0) hy'
          have e4 := at_set (at_set e1 (b := w.heap.size + 1) (by omega) 0 (.int .i64 hx')) (b := w.heap.size + 1) (by omega) 1 (.int .i64 hy')
          have d1 := e4.c0; have d2 := e4.c1; have d3 := e3.c0; have d4 := e3.c1
          have hsw : w.heap.size ≤ w.heap.size + 1 := Nat.le_succ _
          have bE := (((b3.setCell (p := ⟨w.heap.size, 0, none⟩) (Nat.le_refl _) (.int .i64 lx)).setCell (p := ⟨w.heap.size, 1, none⟩) (Nat.le_refl _) (.int .i64 ly)).setCell (p := ⟨w.heap.size + 1, 0, none⟩) hsw (.int .i64 hx')).setCell (p := ⟨w.heap.size + 1, 1, none⟩) hsw (.int .i64 hy')
          have R := Lib.hid (And.intro bE.drew (And.intro e3 e4))
          clear aL aH z3 z4 b3 b13 e1 e2 e3 e4 bE HR
          go_wp2_with fail
          go_region
          go_wp2_with fail
          exact bodyPost_ret (v := .tuple #[.agg #[.int .i64 lx, .int .i64 ly], .agg #[.int .i64 hx', .int .i64 hy'], .bool true]) (by simp [results, Try.results103, go_sem, d1, d2, d3, d4]) rfl ⟨by rw [HT.out], R.out.1⟩
end Go.Proofs.Ytbmeemmihkedoaa
