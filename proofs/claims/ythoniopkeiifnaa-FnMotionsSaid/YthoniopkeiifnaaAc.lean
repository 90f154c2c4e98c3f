/-
  Walks and facts of this seat, part Ac (merged by a script of this repo out of smaller texts).
-/
import Derived.Test.YthoniopkeiifnaaAb
import Derived.BigRegionIn
import Derived.Deep.Matrix
import Derived.Laws.MakeOwn
import Derived.ChangeSlices
/-! RfI12 -/
namespace Go.Proofs.Ythoniopkeiifnaa
open Go.RowKit Go.Shelf Go.Sort
attribute [local go_sem] Oper.semAt_some

/-- The first k numbers from n - 1 down. -/
def bkL (n : Nat) : Nat → List Nat
  | 0 => []
  | k + 1 => bkL n k ++ [n - 1 - k]
theorem bkL_len (n : Nat) : ∀ k, (bkL n k).length = k
  | 0 => rfl
  | k + 1 => by simp [bkL, bkL_len n k]
theorem rfGo_app (R : List Int) : ∀ (T : List Int) (w h : Int), rfGo (R ++ T) w h = (rfGo R w h).bind fun p => rfGo T p.1 p.2 := by
  induction R with
  | nil => intro T w h; simp [rfGo]
  | cons x R ih =>
    intro T w h
    simp only [List.cons_append, rfGo]
    split
    · rw [ih]
    · rfl
def rfSt (X : List Int) (o : Option (Int × Int)) (x : Nat) : Option (Int × Int) := o.bind fun p => if 1 ≤ gI X x ∧ gI X x * p.1 + p.2 ≤ 1000 then some (gI X x * p.1 + p.2, p.1) else none
def rfS (X : List Int) (u : Int) (pre : List Nat) : Option (Int × Int) := pre.foldl (rfSt X) (some (u, 0))
theorem rfS_snoc (X : List Int) (u : Int) (pre : List Nat) (x : Nat) : rfS X u (pre ++ [x]) = rfSt X (rfS X u pre) x := by simp [rfS, List.foldl_append]
theorem rfS_bk (X : List Int) (u : Int) : ∀ k, k ≤ X.length → rfS X u (bkL X.length k) = rfGo (X.drop (X.length - k)).reverse u 0
  | 0, _ => by simp [rfS, bkL, rfGo]
  | k + 1, h => by
    rw [bkL, rfS_snoc, rfS_bk X u k (by omega)]
    have hk : X.length - 1 - k < X.length := by omega
    have e : X.drop (X.length - (k + 1)) = X[X.length - 1 - k] :: X.drop (X.length - k) := by
      have := List.drop_eq_getElem_cons hk
      rw [show X.length - 1 - k + 1 = X.length - k by omega] at this
      rw [show X.length - (k + 1) = X.length - 1 - k by omega]
      exact this
    rw [e, List.reverse_cons, rfGo_snoc]
    unfold rfSt
    rw [gI_at hk]
theorem rfS_all (X : List Int) (u : Int) : rfS X u (bkL X.length X.length) = rfGo X.reverse u 0 := by
  rw [rfS_bk X u _ (Nat.le_refl _), Nat.sub_self, List.drop_zero]
theorem rfS_none {X : List Int} {u : Int} {k : Nat} (hk : k ≤ X.length) (h : rfS X u (bkL X.length k) = none) : rfGo X.reverse u 0 = none := by
  rw [rfS_bk X u k hk] at h
  have e : X.reverse = (X.drop (X.length - k)).reverse ++ (X.take (X.length - k)).reverse := by rw [← List.reverse_append, List.take_append_drop]
  rw [e, rfGo_app, h]; rfl
theorem backward_any (A : Option Addr) (n c : Nat) (w : World) :
    Calls Try.prog 71 #[.slice A n c] w fun e w' => e = .returned (.func (.func 122) #[] #[.pointer (some ⟨w.heap.size, 0, none⟩)]) ∧ w.alloc (.cells #[.slice A n c] 22) = w' := by
  go_enter Try.func71, Try.ntmps71
  go_wp2_with fail
  go_ret
  exact ⟨rfl, rfl⟩
set_option maxRecDepth 100000 in
set_option maxHeartbeats 4000000 in
theorem back1 (n l Bs : Nat) (A : Option Addr) (c : Nat) (L : List Int) (w0 : World) (h1 : 1 ≤ L.length) (h2 : L.length ≤ 1048576) (hA : IntsA w0 A L) (J Jx : List Nat → World → Prop) (W : World)
    (hY : ∀ (pre : List Nat) (x : Nat) (W1 : World), J pre W1 → pre.length < L.length → YieldAt Fence.wide (n - 1) Try.prog l #[.int .i64 (x : Int), .int .i64 (gI L x)] W1 fun e W' =>
      (e = .returned (.bool true) ∧ J (pre ++ [x]) W' ∧ KeepB w0.heap.size Bs W1 W') ∨ (e = .returned (.bool false) ∧ Jx (pre ++ [x]) W'))
    (hBs : W.cell? ⟨Bs, 0, none⟩ = some (.slice A L.length c)) (hW : Below w0.heap.size w0 W) (h0 : J [] W) :
    CallsIn Fence.wide n Try.prog 122 #[.func (.yield l) #[] #[], .pointer (some ⟨Bs, 0, none⟩)] W fun e W' => (∃ v, e = .returned v) ∧
      ((∃ ys, ys = bkL L.length L.length ∧ J ys W') ∨ (∃ pre, (∃ k, k ≤ L.length ∧ pre = bkL L.length k) ∧ Jx pre W')) := by
  obtain ⟨g, rfl, -⟩ := hA 0 h1
  have HA := Lib.hid hA; clear hA
  refine callsIn_of_wp Try.func122 rfl trivial ?_ rfl
  simp only [Try.ntmps122, List.size_toArray, List.length_cons, List.length_nil, Nat.reduceAdd, Nat.reduceSub, Array.replicate_succ, Array.replicate_zero, List.push_toArray, List.append_toArray, List.nil_append, List.cons_append]
  obtain ⟨m0, hm0⟩ : ∃ m0, L.length = m0 + 1 := ⟨L.length - 1, by omega⟩
  have e0 : (L.length : Int) - 1 = (m0 : Int) := by omega
  have HM0 := Lib.hid hm0
  clear hm0
  gi_wp2
  gi_loopw [3] (fun i wr => ∃ (k : Nat) (j : Int), k ≤ L.length ∧ i = .int .i64 j ∧ -1 ≤ j ∧ j < L.length ∧ Hid (j = (L.length : Int) - 1 - k) ∧ J (bkL L.length k) wr ∧ KeepB w0.heap.size Bs W wr)
    (fun i _ => (intOf i + 1).toNat)
  case atStart => exact ⟨0, m0, Nat.zero_le _, rfl, by omega, by omega, by show _ = _; omega, h0, KeepB.refl _ _ _⟩
  case round =>
    obtain ⟨k, j, hk, rfl, hj1, hj2, HJ, hJs, hnx⟩ := hrel
    by_cases hlt : 0 ≤ j
    · obtain ⟨m, rfl⟩ : ∃ m : Nat, j = m := ⟨j.toNat, by omega⟩
      have hm : m < L.length := by omega
      obtain ⟨g', hg', c1⟩ := intsA_on HA.out (hW.trans hnx.1) m hm
      simp only [Option.some.injEq, Addr.mk.injEq, and_true] at hg'
      subst hg'
      rw [← gI_at hm] at c1
      have hp1 : (m : Int) < (L.length : Int) := by omega
      have hbox := cell_sameB hnx.2 hBs
      have hkl : k < L.length := by have := HJ.out; omega
      have HB : Hid (bkL L.length k ++ [m] = bkL L.length (k + 1)) := by
        show _ = _
        rw [bkL, show L.length - 1 - k = m by have := HJ.out; omega]
      have HJ2 : Hid ((m : Int) - 1 = (L.length : Int) - 1 - ((k + 1 : Nat) : Int)) := by show _ = _; have := HJ.out; omega
      obtain ⟨fn, tmps, assign, body, hy, hR⟩ := hY _ m wr hJs (by rw [bkL_len]; exact hkl)
      clear HJ
      generalize gI L m = z at *
      gi_wp2
      refine ⟨fun e => (by cases e), hR.mono ?_⟩
      rintro e W3 (⟨rfl, hJ3, hk3⟩ | ⟨rfl, hJx3⟩)
      · rw [HB.out] at hJ3
        gi_wp2
        go_roundw
        case rel => exact ⟨k + 1, (m : Int) - 1, by omega, by go_num, by omega, by omega, HJ2, hJ3, keepB_t hnx hk3⟩
        case measure => simp [intOf]
      · rw [HB.out] at hJx3
        gi_wp2
        refine bodyPost_ret (results_none rfl _ _ _) rfl ?_
        exact ⟨⟨_, rfl⟩, .inr ⟨_, ⟨k + 1, by omega, rfl⟩, hJx3⟩⟩
    · obtain rfl : j = -1 := by omega
      obtain rfl : k = L.length := by have := HJ.out; omega
      gi_wp2
      go_end0
      first | exact ⟨⟨_, rfl⟩, .inl ⟨_, rfl, hJs⟩⟩ | exact ⟨⟨_, rfl⟩, .inl hJs⟩
theorem back_stops (n Bs : Nat) (A : Option Addr) (c : Nat) (L : List Int) (w0 w : World) (h1 : 1 ≤ L.length) (h2 : L.length ≤ 1048576) (hA : IntsA w0 A L) (hB : Below w0.heap.size w0 w) (hBl : Bs < w.heap.size) (hBs : w.cell? ⟨Bs, 0, none⟩ = some (.slice A L.length c)) :
    SeqStopsK Fence.wide n Try.prog 122 #[.pointer (some ⟨Bs, 0, none⟩)] (fun i : Nat => #[.int .i64 (i : Int), .int .i64 (gI L i)]) (KeepB w0.heap.size Bs) (fun ys => ys = bkL L.length L.length) (fun pre => ∃ k, k ≤ L.length ∧ pre = bkL L.length k) L.length w := fun l J Jx W hW _ _ hY h0 =>
  back1 n l Bs A c L w0 h1 h2 hA J Jx W hY ((hW.cell (p := ⟨Bs, 0, none⟩) hBl).trans hBs) (hB.trans (hW.mono hB.size)) h0
theorem run_var12 (w : World) (t : TypeId) (g : Nat) (v : Value) (ha : ∀ w, (isAgg t).run Try.prog w = .ok false w) (h : w.cell? ⟨g, 0, none⟩ = some v) : (loadVar t ⟨g, 0, none⟩).run Try.prog w = .ok v w := by
  simp [loadVar, Sem.run_bind, ha, go_sem, h, Result.andThen]
theorem results_cells3 {fn : Func} {p q r : Tmp} (h : fn.results = #[.cell p 3, .cell q 3, .cell r 4]) (tmps : Array Value) (w : World) (g1 g2 g3 : Nat) (v u x : Value) (hp : tmps.getD p undef = .pointer (some ⟨g1, 0, none⟩)) (hq : tmps.getD q undef = .pointer (some ⟨g2, 0, none⟩)) (hr : tmps.getD r undef = .pointer (some ⟨g3, 0, none⟩))
    (h1 : w.cell? ⟨g1, 0, none⟩ = some v) (h2 : w.cell? ⟨g2, 0, none⟩ = some u) (h3 : w.cell? ⟨g3, 0, none⟩ = some x) : (results fn tmps).run Try.prog w = .ok (.tuple #[v, u, x]) w := by
  have hp' : tmps[p]?.getD undef = .pointer (some ⟨g1, 0, none⟩) := by simpa using hp
  have hq' : tmps[q]?.getD undef = .pointer (some ⟨g2, 0, none⟩) := by simpa using hq
  have hr' : tmps[r]?.getD undef = .pointer (some ⟨g3, 0, none⟩) := by simpa using hr
  have e1 := run_var12 w 3 g1 v (by intro w; simp [isAgg, go_sem]) h1
  have e2 := run_var12 w 3 g2 u (by intro w; simp [isAgg, go_sem]) h2
  have e3 := run_var12 w 4 g3 x (by intro w; simp [isAgg, go_sem]) h3
  simp [results, h, hp', hq', hr', asAddr, Sem.run_bind, e1, e2, e3, Result.andThen]
def RfI (X : List Int) (u : Int) (w : World) (pre : List Nat) (W : World) : Prop := (∃ p q : Int, (rfS X u pre = some (p, q) ∧ 1 ≤ p ∧ 0 ≤ q ∧ q ≤ 1000) ∧ Boxed W (w.heap.size + 1 + 1 + 1) 3 (.int .i64 p) ∧ Boxed W (w.heap.size + 1 + 1 + 1 + 1) 3 (.int .i64 q)) ∧
  Boxed W w.heap.size 3 (.int .i64 0) ∧ Boxed W (w.heap.size + 1) 3 (.int .i64 0) ∧ Boxed W (w.heap.size + 1 + 1) 4 (.bool false) ∧ Below w.heap.size w W
def RfX (X : List Int) (u : Int) (w : World) (co : Code) (pre : List Nat) (W : World) : Prop := (co = .ret ∧ rfS X u pre = none) ∧ Boxed W w.heap.size 3 (.int .i64 0) ∧ Boxed W (w.heap.size + 1) 3 (.int .i64 0) ∧ Boxed W (w.heap.size + 1 + 1) 4 (.bool false) ∧ Below w.heap.size w W
theorem boxed_same12 {W W' : World} {B : Nat} {t : TypeId} {v : Value} (h : Boxed W B t v) (hb : W'.heap[B]? = W.heap[B]?) : Boxed W' B t v := hb.trans h
theorem boxed_g {M B : Nat} {t : TypeId} {v : Value} {X Y : World} {row : Option Nat} (h : Boxed X B t v) (hg : X.grownBy Y row) (hr : ∀ r, row = some r → M ≤ r ∧ ∃ o : Obj, X.heap[r]? = some o ∧ o.isCells = false) : Boxed Y B t v :=
  boxed_own B t (fun _ : Unit => v) () X Y row h hg (fun r e => (hr r e).2)
theorem rfI_own (X : List Int) (u : Int) (w W0 : World) (h : w.heap.size ≤ W0.heap.size) : OwnFrom W0.heap.size (fun pre W => RfI X u w pre W) := fun s A B row hs hg hr => by
  obtain ⟨⟨p, q, h1, h2, h3⟩, h4, h5, h6, h7⟩ := hs
  exact ⟨⟨p, q, h1, boxed_g h2 hg hr, boxed_g h3 hg hr⟩, boxed_g h4 hg hr, boxed_g h5 hg hr, boxed_g h6 hg hr, ownFrom_below (Nat.le_refl _) h s A B row h7 hg hr⟩
theorem rfX_own (X : List Int) (u : Int) (w W0 : World) (h : w.heap.size ≤ W0.heap.size) (co : Code) : OwnFrom W0.heap.size (fun pre W => RfX X u w co pre W) := fun s A B row hs hg hr => by
  obtain ⟨h1, h4, h5, h6, h7⟩ := hs
  exact ⟨h1, boxed_g h4 hg hr, boxed_g h5 hg hr, boxed_g h6 hg hr, ownFrom_below (Nat.le_refl _) h s A B row h7 hg hr⟩
theorem keepB_set {m B b : Nat} {W W' : World} (h : KeepB m B W W') (hb : m ≤ b) (hB : B ≠ b) (v : Value) : KeepB m B W (W'.setCell ⟨b, 0, none⟩ v) := ⟨h.1.setCell (p := ⟨b, 0, none⟩) hb v, (Below.heap_setCell W' ⟨b, 0, none⟩ v B hB).trans h.2⟩
theorem rfI_put {X : List Int} {u : Int} {w W0 W : World} {pre : List Nat} {x : Nat} {p q p0 q0 : Int} (hB1 : Below w.heap.size w W)
    (b1 : Boxed W w.heap.size 3 (.int .i64 0)) (b2 : Boxed W (w.heap.size + 1) 3 (.int .i64 0)) (b3 : Boxed W (w.heap.size + 1 + 1) 4 (.bool false)) (b4 : Boxed W (w.heap.size + 1 + 1 + 1) 3 (.int .i64 p0)) (b5 : Boxed W (w.heap.size + 1 + 1 + 1 + 1) 3 (.int .i64 q0))
    (hs : rfS X u (pre ++ [x]) = some (p, q)) (h1 : 1 ≤ p) (h2 : 0 ≤ q) (h3 : q ≤ 1000) (_ : p ≤ 1000) :
    KeepsFrom W0.heap.size W ((W.setCell ⟨w.heap.size + 1 + 1 + 1, 0, none⟩ (.int .i64 p)).setCell ⟨w.heap.size + 1 + 1 + 1 + 1, 0, none⟩ (.int .i64 q)) ∧ KeepB w.heap.size (w.heap.size + 1 + 1 + 1 + 1 + 1) W ((W.setCell ⟨w.heap.size + 1 + 1 + 1, 0, none⟩ (.int .i64 p)).setCell ⟨w.heap.size + 1 + 1 + 1 + 1, 0, none⟩ (.int .i64 q)) ∧
      RfI X u w (pre ++ [x]) ((W.setCell ⟨w.heap.size + 1 + 1 + 1, 0, none⟩ (.int .i64 p)).setCell ⟨w.heap.size + 1 + 1 + 1 + 1, 0, none⟩ (.int .i64 q)) :=
  ⟨((KeepsOthers.setCell _ _ _).from _).trans ((KeepsOthers.setCell _ _ _).from _), keepB_set (keepB_set (KeepB.refl _ _ _) (by omega) (by omega) _) (by omega) (by omega) _,
    ⟨p, q, ⟨hs, h1, h2, h3⟩, (b4.set _).other (by omega) _, (b5.other (by omega) _).set _⟩, (b1.other (by omega) _).other (by omega) _, (b2.other (by omega) _).other (by omega) _, (b3.other (by omega) _).other (by omega) _,
    (hB1.setCell (p := ⟨w.heap.size + 1 + 1 + 1, 0, none⟩) (by simp only; omega) _).setCell (p := ⟨w.heap.size + 1 + 1 + 1 + 1, 0, none⟩) (by simp only; omega) _⟩
theorem rfX_put {X : List Int} {u : Int} {w W0 W : World} {pre : List Nat} {x : Nat} (hB1 : Below w.heap.size w W)
    (b1 : Boxed W w.heap.size 3 (.int .i64 0)) (b2 : Boxed W (w.heap.size + 1) 3 (.int .i64 0)) (b3 : Boxed W (w.heap.size + 1 + 1) 4 (.bool false)) (hs : rfS X u (pre ++ [x]) = none) :
    KeepsFrom W0.heap.size W (((W.setCell ⟨w.heap.size, 0, none⟩ (.int .i64 0)).setCell ⟨w.heap.size + 1, 0, none⟩ (.int .i64 0)).setCell ⟨w.heap.size + 1 + 1, 0, none⟩ (.bool false)) ∧ RfX X u w .ret (pre ++ [x]) (((W.setCell ⟨w.heap.size, 0, none⟩ (.int .i64 0)).setCell ⟨w.heap.size + 1, 0, none⟩ (.int .i64 0)).setCell ⟨w.heap.size + 1 + 1, 0, none⟩ (.bool false)) :=
  ⟨(((KeepsOthers.setCell _ _ _).from _).trans ((KeepsOthers.setCell _ _ _).from _)).trans ((KeepsOthers.setCell _ _ _).from _), ⟨rfl, hs⟩,
    ((b1.set _).other (by omega) _).other (by omega) _, ((b2.other (by omega) _).set _).other (by omega) _, ((b3.other (by omega) _).other (by omega) _).set _,
    ((hB1.setCell (p := ⟨w.heap.size, 0, none⟩) (Nat.le_refl _) _).setCell (p := ⟨w.heap.size + 1, 0, none⟩) (by simp only; omega) _).setCell (p := ⟨w.heap.size + 1 + 1, 0, none⟩) (by simp only; omega) _⟩
set_option maxRecDepth 100000 in
set_option maxHeartbeats 8000000 in
theorem impl_rf (A : Option Addr) (c : Nat) (X : List Int) (u : Int) (w : World) (hA : IntsA w A X) (hL : X.length ≤ 1048576) :
    Calls Try.prog 23 #[.slice A X.length c, .int .i64 u] w fun e w' => e = .returned (RfE X u) ∧ Below w.heap.size w w' := by
  have HE : Hid (∀ x y b w', rfV X u = (x, y, b) → Below w.heap.size w w' → (Ending.returned (.tuple #[.int .i64 x, .int .i64 y, .bool b]) = .returned (RfE X u) ∧ Below w.heap.size w w')) := fun x y b w' h hb => ⟨by rw [RfE, h], hb⟩
  by_cases hc : 1 ≤ u ∧ X ≠ [] ∧ ¬ (1 < X.length ∧ X.getLastD 0 = 1)
  case neg =>
    have R := Lib.hid (fun w' hb => HE.out 0 0 false w' (rfV_no hc) hb)
    have hcs : u < 1 ∨ (1 ≤ u ∧ X.length = 0) ∨ (1 ≤ u ∧ 1 < X.length ∧ X.getLastD 0 = 1) := by
      by_cases hu : 1 ≤ u
      · by_cases h0 : X.length = 0
        · exact .inr (.inl ⟨hu, h0⟩)
        · refine .inr (.inr ?_)
          have hX : X ≠ [] := fun e => h0 (by rw [e]; rfl)
          by_cases h1 : 1 < X.length ∧ X.getLastD 0 = 1
          · exact ⟨hu, h1⟩
          · exact absurd ⟨hu, hX, h1⟩ hc
      · exact .inl (by omega)
    have b1 := ((Boxed.new w 3 (.int .i64 0)).alloc (.cells #[.int .i64 0] 3)).alloc (.cells #[.bool false] 4)
    have b2 := (Boxed.new (w.alloc (.cells #[.int .i64 0] 3)) 3 (.int .i64 0)).alloc (.cells #[.bool false] 4)
    have b3 := Boxed.new ((w.alloc (.cells #[.int .i64 0] 3)).alloc (.cells #[.int .i64 0] 3)) 4 (.bool false)
    simp only [World.size_alloc] at b2 b3
    have RR := Lib.hid (R.out _ (below3 w (.cells #[.int .i64 0] 3) (.cells #[.int .i64 0] 3) (.cells #[.bool false] 4)))
    have d1 := Lib.hid b1.cell; have d2 := Lib.hid b2.cell; have d3 := Lib.hid b3.cell
    clear b1 b2 b3 R HE hc
    rcases hcs with hu | ⟨hu, h0⟩ | ⟨hu, h1, h2⟩
    · clear hA
      have hu' : (u < 1) = True := by simp [hu]
      go_enter Try.func23, Try.ntmps23
      go_wp2_with fail
      refine bodyPost_ret (results_cells3 rfl _ _ _ _ _ _ _ _ rfl rfl rfl d1.out d2.out d3.out) rfl ?_
      exact RR.out
    · rw [h0]
      clear hA h0 hL
      go_enter Try.func23, Try.ntmps23
      go_wp2_with fail
      refine bodyPost_ret (results_cells3 rfl _ _ _ _ _ _ _ _ rfl rfl rfl d1.out d2.out d3.out) rfl ?_
      exact RR.out
    · obtain ⟨g, rfl, hcx⟩ := (intsA_on hA (below3 w (.cells #[.int .i64 0] 3) (.cells #[.int .i64 0] 3) (.cells #[.bool false] 4))) (X.length - 1) (by omega)
      rw [← last_get (by omega), h2] at hcx
      obtain ⟨m, hm⟩ : ∃ m, X.length = m + 1 := ⟨X.length - 1, by omega⟩
      rw [show X.length - 1 = m by omega] at hcx
      have e1 : (X.length : Int) - 1 = (m : Int) := by omega
      have e2 : (m : Int) < (X.length : Int) := by omega
      have e3 : (0 : Int) < (m : Int) := by omega
      clear hA hm h2
      go_enter Try.func23, Try.ntmps23
      go_wp2_with fail
      refine bodyPost_ret (results_cells3 rfl _ _ _ _ _ _ _ _ rfl rfl rfl d1.out d2.out d3.out) rfl ?_
      exact RR.out
  have hu := hc.1
  have h0 : X.length ≠ 0 := fun e => hc.2.1 (List.eq_nil_of_length_eq_zero e)
  obtain ⟨m, hm⟩ : ∃ m, X.length = m + 1 := ⟨X.length - 1, by omega⟩
  have e1 : (X.length : Int) - 1 = (m : Int) := by omega
  have e2 : (m : Int) < (X.length : Int) := by omega
  have HA := Lib.hid hA
  have HLA : Hid (1 < X.length → ∃ g, A = some ⟨g, 0, none⟩ ∧ (∀ W, Below w.heap.size w W → W.cell? ⟨g, m, none⟩ = some (.int .i64 (X.getLastD 0))) ∧ ((X.getLastD 0 == 1) = false)) := fun h2 => by
    obtain ⟨g, e, hx⟩ := hA (X.length - 1) (by omega)
    rw [← last_get (by omega), show X.length - 1 = m by omega] at hx
    exact ⟨g, e, fun W hb => cell_on hb rfl hx, by rw [beq_eq_false_iff_ne]; exact fun e => hc.2.2 ⟨h2, e⟩⟩
  have HB3 := Lib.hid (below3 w (.cells #[.int .i64 0] 3) (.cells #[.int .i64 0] 3) (.cells #[.bool false] 4))
  have HN := Lib.hid (fun w' (h : rfGo X.reverse u 0 = none) hb => HE.out 0 0 false w' (rfV_none h) hb)
  have HY := Lib.hid (fun x y w' (h : rfGo X.reverse u 0 = some (x, y)) hb => HE.out x y true w' (rfV_some hc h) hb)
  have HM := Lib.hid hm
  clear HE hA hc hm h0
  rcases Nat.lt_or_ge 1 X.length with h2 | h2
  · obtain ⟨g, rfl, hcx, hne⟩ := HLA.out h2
    replace hcx := hcx _ HB3.out
    have h1' : (0 : Int) < (m : Int) := by have := HM.out; omega
    generalize X.getLastD 0 = zL at *
    clear HLA h2
    refine (callsIn_wide (n := 6)).1 ?_
    refine callsIn_of_wp_marks Try.func23 rfl trivial ?_ rfl
    simp only [Try.ntmps23, List.size_toArray, List.length_cons, List.length_nil, Nat.reduceAdd, Nat.reduceSub, Array.replicate_succ, Array.replicate_zero, List.push_toArray, List.append_toArray, List.nil_append, List.cons_append]
    gi_wp2
    refine ⟨trivial, (wide0.calls (backward_any _ _ c _)).mono ?_⟩
    rintro e w2 ⟨rfl, rfl⟩
    gi_wp2
    have n1 := ((((((Boxed.new w 3 (.int .i64 0)).alloc (.cells #[.int .i64 0] 3)).alloc (.cells #[.bool false] 4)).alloc (.cells #[.int .i64 u] 3)).alloc (.cells #[.int .i64 0] 3)).alloc (.cells #[.slice (some ⟨g, 0, none⟩) X.length c] 22))
    have n2 := (((((Boxed.new (w.alloc (.cells #[.int .i64 0] 3)) 3 (.int .i64 0)).alloc (.cells #[.bool false] 4)).alloc (.cells #[.int .i64 u] 3)).alloc (.cells #[.int .i64 0] 3)).alloc (.cells #[.slice (some ⟨g, 0, none⟩) X.length c] 22))
    have n3 := ((((Boxed.new ((w.alloc (.cells #[.int .i64 0] 3)).alloc (.cells #[.int .i64 0] 3)) 4 (.bool false)).alloc (.cells #[.int .i64 u] 3)).alloc (.cells #[.int .i64 0] 3)).alloc (.cells #[.slice (some ⟨g, 0, none⟩) X.length c] 22))
    have n4 := (((Boxed.new (((w.alloc (.cells #[.int .i64 0] 3)).alloc (.cells #[.int .i64 0] 3)).alloc (.cells #[.bool false] 4)) 3 (.int .i64 u)).alloc (.cells #[.int .i64 0] 3)).alloc (.cells #[.slice (some ⟨g, 0, none⟩) X.length c] 22))
    have n5 := ((Boxed.new ((((w.alloc (.cells #[.int .i64 0] 3)).alloc (.cells #[.int .i64 0] 3)).alloc (.cells #[.bool false] 4)).alloc (.cells #[.int .i64 u] 3)) 3 (.int .i64 0)).alloc (.cells #[.slice (some ⟨g, 0, none⟩) X.length c] 22))
    have n6 := Boxed.new (((((w.alloc (.cells #[.int .i64 0] 3)).alloc (.cells #[.int .i64 0] 3)).alloc (.cells #[.bool false] 4)).alloc (.cells #[.int .i64 u] 3)).alloc (.cells #[.int .i64 0] 3)) 22 (.slice (some ⟨g, 0, none⟩) X.length c)
    have hB0 : Below w.heap.size w ((((((w.alloc (.cells #[.int .i64 0] 3)).alloc (.cells #[.int .i64 0] 3)).alloc (.cells #[.bool false] 4)).alloc (.cells #[.int .i64 u] 3)).alloc (.cells #[.int .i64 0] 3)).alloc (.cells #[.slice (some ⟨g, 0, none⟩) X.length c] 22)) := (((below3 w _ _ _).alloc (by simp; omega) _).alloc (by simp; omega) _).alloc (by simp; omega) _
    have hsz : ((((((w.alloc (.cells #[.int .i64 0] 3)).alloc (.cells #[.int .i64 0] 3)).alloc (.cells #[.bool false] 4)).alloc (.cells #[.int .i64 u] 3)).alloc (.cells #[.int .i64 0] 3)).alloc (.cells #[.slice (some ⟨g, 0, none⟩) X.length c] 22)).heap.size = w.heap.size + 6 := by simp
    simp only [World.size_alloc] at n2 n3 n4 n5 n6
    obtain ⟨W0, hW0⟩ : ∃ W0, (((((w.alloc (.cells #[.int .i64 0] 3)).alloc (.cells #[.int .i64 0] 3)).alloc (.cells #[.bool false] 4)).alloc (.cells #[.int .i64 u] 3)).alloc (.cells #[.int .i64 0] 3)).alloc (.cells #[.slice (some ⟨g, 0, none⟩) X.length c] 22) = W0 := ⟨_, rfl⟩
    rw [hW0] at n1 n2 n3 n4 n5 n6 hB0 hsz ⊢
    clear hW0
    have hX1 : 1 ≤ X.length := by have := HM.out; omega
    have HS := Lib.hid (back_stops 5 (w.heap.size + 1 + 1 + 1 + 1 + 1) (some ⟨g, 0, none⟩) c X w W0 hX1 hL HA.out hB0 (by omega) n6.cell)
    clear hcx
    refine wpIn_rangeFunc_ownH rfl (by decide) (gf := 122) (lb := #[.pointer (some ⟨w.heap.size + 1 + 1 + 1 + 1 + 1, 0, none⟩)]) rfl trivial (enters_of Try.func122 (by kernel_rfl) rfl)
      HS.out keepB_t (keepB_b (by omega) (by omega)) (Below.refl _ _) (fun _ => rfl)
      (fun pre W => RfI X u w pre W) (fun co pre W => RfX X u w co pre W) (rfI_own X u w W0 (by omega)) (fun co => rfX_own X u w W0 (by omega) co)
      ⟨⟨u, 0, ⟨rfl, hu, by omega, by omega⟩, n4, n5⟩, n1, n2, n3, hB0⟩
      (fun x a' W => a' = { tmps := #[.slice (some ⟨g, 0, none⟩) X.length c, .int .i64 u, undef, undef, .pointer (some ⟨w.heap.size, 0, none⟩), .pointer (some ⟨w.heap.size + 1, 0, none⟩), .pointer (some ⟨w.heap.size + 1 + 1, 0, none⟩), .int .i64 m, .pointer (some ⟨w.heap.size + 1 + 1 + 1, 0, none⟩), .pointer (some ⟨w.heap.size + 1 + 1 + 1 + 1, 0, none⟩), undef, .int .i64 (gI X x), .slice (some ⟨g, 0, none⟩) X.length c, .int .i64 X.length, .int .i64 m, .int .i64 u, .bool (decide (u < 1)), .bool (decide (u < 1)), .int .i64 m, .bool (decide ((m : Int) < 0)), .bool (decide (u < 1) || decide ((m : Int) < 0)), .bool (decide (u < 1) || decide ((m : Int) < 0)), .int .i64 m, .bool true, .bool true, .slice (some ⟨g, 0, none⟩) X.length c, .int .i64 m, .pointer (some ⟨g, m, none⟩), .int .i64 zL, .bool false, .bool false, .bool (decide (u < 1) || decide ((m : Int) < 0)), .int .i64 u, .slice (some ⟨g, 0, none⟩) X.length c, .func (.func 122) #[] #[.pointer (some ⟨w.heap.size + 1 + 1 + 1 + 1 + 1, 0, none⟩)], .int .i64 (x : Int), .int .i64 (gI X x), undef, undef, undef, undef, undef, undef, undef, undef, undef, undef, undef, undef, undef, undef, undef], defers := [] })
      (fun x a' => ownFrom_pure _ (fun _ => _))
      ?assign ?body ?done ?stop
    case assign =>
      rintro l pre x W K hI hK
      gi_wp2
      exact hK _ _ (kF_below (Below.refl _ _)) (KeepB.refl _ _ _) hI rfl
    case body =>
      rintro l pre x a' W hl - ⟨⟨p, q, ⟨hst, hp, hq1, hq2⟩, b4, b5⟩, b1, b2, b3, hB1⟩ rfl -
      have hss : rfS X u (pre ++ [x]) = if 1 ≤ gI X x ∧ gI X x * p + q ≤ 1000 then some (gI X x * p + q, p) else none := by rw [rfS_snoc, hst]; rfl
      have HSS := Lib.hid hss
      clear hne
      generalize gI X x = z at *
      have hdv := rf_div (q := z) hp hq1 hq2
      obtain ⟨d, hd⟩ : ∃ d, d = (1000 - q).tdiv p := ⟨_, rfl⟩
      have hd1 : 0 ≤ d ∧ d ≤ 1000 := by
        rw [hd, Int.tdiv_eq_ediv_of_nonneg (by omega)]
        have h1 := Int.ediv_nonneg (a := 1000 - q) (b := p) (by omega) (by omega)
        have h2 := Int.ediv_le_self p (show 0 ≤ 1000 - q by omega)
        omega
      have f1 : (1000 - q).tdiv p = d := hd.symm
      rw [← hd] at hdv
      have f2 : IntKind.i64.wrap d = d := IntWalk.i64_in _ (by omega)
      have HFR := Lib.hid (fun W => from_any z 1 d W)
      have HIN : Hid (inB z 1 d = true ↔ 1 ≤ z ∧ z * p + q ≤ 1000) := inB_spec.trans hdv
      have c4 := b4.cell; have c5 := b5.cell
      have g4 := b4.frozen; have g5 := b5.frozen
      have c1 := b1.cell; have c2 := b2.cell; have c3 := b3.cell
      have g1 := b1.frozen; have g2 := b2.frozen; have g3 := b3.frozen
      clear hss hst hdv hd
      cases hin : inB z 1 d
      · rw [hin] at HFR
        have hno : rfS X u (pre ++ [x]) = none := by
          rw [HSS.out, if_neg]
          exact fun h => by rw [HIN.out.2 h] at hin; cases hin
        have R := Lib.hid (rfX_put (X := X) (u := u) hB1 b1 b2 b3 hno (W0 := W0))
        clear HIN HSS hin b1 b2 b3 b4 b5 hB1 hno
        gi_wp2
        refine ⟨trivial, ((wideR l).calls (HFR.out _)).mono ?_⟩
        rintro e w3 ⟨rfl, rfl⟩
        gi_wp2
        exact R.out
      · rw [hin] at HFR
        have hz := HIN.out.1 hin
        obtain ⟨y, hy⟩ : ∃ y, y = z * p := ⟨_, rfl⟩
        have hy2 := rf_step (q := z) (w := p) (h := 0) hp hz.1 (by omega)
        rw [← hy] at hz hy2
        have HS2 : Hid (rfS X u (pre ++ [x]) = some (y + q, p)) := by
          show _ = _
          rw [HSS.out, hy, if_pos (by rw [← hy]; exact hz)]
        have f3 : z * p = y := hy.symm
        have f4 : IntKind.i64.wrap y = y := IntWalk.i64_in _ (by omega)
        have R := Lib.hid (rfI_put (X := X) (u := u) (W0 := W0) hB1 b1 b2 b3 b4 b5 HS2.out (by omega) (by omega) (by omega) (by omega))
        have k5 := (b5.other (by omega : w.heap.size + 1 + 1 + 1 + 1 ≠ w.heap.size + 1 + 1 + 1) (.int .i64 (y + q))).frozen
        have k6 := (b5.other (by omega : w.heap.size + 1 + 1 + 1 + 1 ≠ w.heap.size + 1 + 1 + 1) (.int .i64 (y + q))).cell
        clear HIN HSS HS2 hin b1 b2 b3 b4 b5 hB1 hy
        gi_wp2
        refine ⟨trivial, ((wideR l).calls (HFR.out _)).mono ?_⟩
        rintro e w3 ⟨rfl, rfl⟩
        gi_wp2
        exact R.out
    case done =>
      rintro D zs W hD hzs ⟨⟨p, q, ⟨hst, hp, hq1, hq2⟩, b4, b5⟩, b1, b2, b3, hB1⟩ hK
      rw [hzs, rfS_all] at hst
      have c4 := b4.cell; have c5 := b5.cell
      have c1 := b1.cell; have c2 := b2.cell; have c3 := b3.cell
      have f1 := b1.frozen; have f2 := b2.frozen; have f3 := b3.frozen
      obtain ⟨V, hV⟩ : ∃ V, V = ((W.setCell ⟨w.heap.size, 0, none⟩ (.int .i64 p)).setCell ⟨w.heap.size + 1, 0, none⟩ (.int .i64 q)).setCell ⟨w.heap.size + 1 + 1, 0, none⟩ (.bool true) := ⟨_, rfl⟩
      have y1 : Boxed V w.heap.size 3 (.int .i64 p) := by rw [hV]; exact ((b1.set _).other (by omega) _).other (by omega) _
      have y2 : Boxed V (w.heap.size + 1) 3 (.int .i64 q) := by rw [hV]; exact ((b2.other (by omega) _).set _).other (by omega) _
      have y3 : Boxed V (w.heap.size + 1 + 1) 4 (.bool true) := by rw [hV]; exact ((b3.other (by omega) _).other (by omega) _).set _
      have hBV : Below w.heap.size w V := by rw [hV]; exact ((hB1.setCell (p := ⟨w.heap.size, 0, none⟩) (Nat.le_refl _) _).setCell (p := ⟨w.heap.size + 1, 0, none⟩) (by simp only; omega) _).setCell (p := ⟨w.heap.size + 1 + 1, 0, none⟩) (by simp only; omega) _
      have hKV : V.heap[D]? = some (.deferred (some [])) := by rw [hV]; exact (Below.heap_setCell _ ⟨w.heap.size + 1 + 1, 0, none⟩ _ D (by simp only [ne_eq]; omega)).trans ((Below.heap_setCell _ ⟨w.heap.size + 1, 0, none⟩ _ D (by simp only [ne_eq]; omega)).trans ((Below.heap_setCell _ ⟨w.heap.size, 0, none⟩ _ D (by simp only [ne_eq]; omega)).trans hK))
      have HYY := Lib.hid (fun w' hb => HY.out p q w' hst hb)
      have HVV := Lib.hid hV
      clear hzs hst b1 b2 b3 b4 b5 hB1 hV
      have R : Hid (∀ W3, W3 = V.drew → Boxed W3 w.heap.size 3 (.int .i64 p) ∧ Boxed W3 (w.heap.size + 1) 3 (.int .i64 q) ∧ Boxed W3 (w.heap.size + 1 + 1) 4 (.bool true) ∧ Below w.heap.size w W3 ∧ W3.heap[D]? = some (.deferred (some []))) := fun W3 h => by
        subst h
        exact ⟨y1, y2, y3, hBV.drew, hKV⟩
      clear y1 y2 y3 hBV hKV
      gi_wp2
      gi_region
      obtain ⟨W3, hW3⟩ : ∃ W3, W3 = (((W.setCell ⟨w.heap.size, 0, none⟩ (.int .i64 p)).setCell ⟨w.heap.size + 1, 0, none⟩ (.int .i64 q)).setCell ⟨w.heap.size + 1 + 1, 0, none⟩ (.bool true)).drew := ⟨_, rfl⟩
      rw [← hW3]
      rw [← HVV.out] at hW3
      obtain ⟨y1, y2, y3, hB3, hK3⟩ := R.out W3 hW3
      clear R hW3 HVV
      have z1 : Boxed (W3.putObj D (.deferred none)) w.heap.size 3 (.int .i64 p) := boxed_same12 y1 (World.putObj_heap_other (by omega))
      have z2 : Boxed (W3.putObj D (.deferred none)) (w.heap.size + 1) 3 (.int .i64 q) := boxed_same12 y2 (World.putObj_heap_other (by omega))
      have z3 : Boxed (W3.putObj D (.deferred none)) (w.heap.size + 1 + 1) 4 (.bool true) := boxed_same12 y3 (World.putObj_heap_other (by omega))
      have RR := Lib.hid (HYY.out _ (hB3.trans (belowK_b (w := w) (Nat.le_refl _) W3 D (.deferred (some [])) (.deferred none) (by omega) hK3 rfl rfl)))
      have d1 := z1.cell; have d2 := z2.cell; have d3 := z3.cell
      clear y1 y2 y3 z1 z2 z3 hB3
      gi_wp2
      refine ⟨by simp, .inl ⟨_, _, rfl, run_takeDeferred hK3, ?_⟩⟩
      refine ⟨_, results_cells3 rfl _ _ _ _ _ _ _ _ rfl rfl rfl d1 d2 d3, ?_⟩
      exact RR.out
    case stop =>
      rintro D k pre W hD ⟨k2, hk2, rfl⟩ ⟨⟨rfl, hno⟩, b1, b2, b3, hB1⟩ hK
      have z1 : Boxed (W.putObj D (.deferred none)) w.heap.size 3 (.int .i64 0) := boxed_same12 b1 (World.putObj_heap_other (by omega))
      have z2 : Boxed (W.putObj D (.deferred none)) (w.heap.size + 1) 3 (.int .i64 0) := boxed_same12 b2 (World.putObj_heap_other (by omega))
      have z3 : Boxed (W.putObj D (.deferred none)) (w.heap.size + 1 + 1) 4 (.bool false) := boxed_same12 b3 (World.putObj_heap_other (by omega))
      have RR := Lib.hid (HN.out _ (rfS_none hk2 hno) (hB1.trans (belowK_b (w := w) (Nat.le_refl _) W D (.deferred (some [])) (.deferred none) (by omega) hK rfl rfl)))
      have d1 := z1.cell; have d2 := z2.cell; have d3 := z3.cell
      clear b1 b2 b3 z1 z2 z3 hB1 hno
      gi_wp2
      refine ⟨by simp, .inl ⟨_, _, rfl, run_takeDeferred hK, ?_⟩⟩
      refine ⟨_, results_cells3 rfl _ _ _ _ _ _ _ _ rfl rfl rfl d1 d2 d3, ?_⟩
      exact RR.out
  · have h1' : ¬ (0 : Int) < (m : Int) := by have := HM.out; omega
    clear HLA h2
    refine (callsIn_wide (n := 6)).1 ?_
    refine callsIn_of_wp_marks Try.func23 rfl trivial ?_ rfl
    simp only [Try.ntmps23, List.size_toArray, List.length_cons, List.length_nil, Nat.reduceAdd, Nat.reduceSub, Array.replicate_succ, Array.replicate_zero, List.push_toArray, List.append_toArray, List.nil_append, List.cons_append]
    gi_wp2
    refine ⟨trivial, (wide0.calls (backward_any _ _ c _)).mono ?_⟩
    rintro e w2 ⟨rfl, rfl⟩
    gi_wp2
    have n1 := ((((((Boxed.new w 3 (.int .i64 0)).alloc (.cells #[.int .i64 0] 3)).alloc (.cells #[.bool false] 4)).alloc (.cells #[.int .i64 u] 3)).alloc (.cells #[.int .i64 0] 3)).alloc (.cells #[.slice A X.length c] 22))
    have n2 := (((((Boxed.new (w.alloc (.cells #[.int .i64 0] 3)) 3 (.int .i64 0)).alloc (.cells #[.bool false] 4)).alloc (.cells #[.int .i64 u] 3)).alloc (.cells #[.int .i64 0] 3)).alloc (.cells #[.slice A X.length c] 22))
    have n3 := ((((Boxed.new ((w.alloc (.cells #[.int .i64 0] 3)).alloc (.cells #[.int .i64 0] 3)) 4 (.bool false)).alloc (.cells #[.int .i64 u] 3)).alloc (.cells #[.int .i64 0] 3)).alloc (.cells #[.slice A X.length c] 22))
    have n4 := (((Boxed.new (((w.alloc (.cells #[.int .i64 0] 3)).alloc (.cells #[.int .i64 0] 3)).alloc (.cells #[.bool false] 4)) 3 (.int .i64 u)).alloc (.cells #[.int .i64 0] 3)).alloc (.cells #[.slice A X.length c] 22))
    have n5 := ((Boxed.new ((((w.alloc (.cells #[.int .i64 0] 3)).alloc (.cells #[.int .i64 0] 3)).alloc (.cells #[.bool false] 4)).alloc (.cells #[.int .i64 u] 3)) 3 (.int .i64 0)).alloc (.cells #[.slice A X.length c] 22))
    have n6 := Boxed.new (((((w.alloc (.cells #[.int .i64 0] 3)).alloc (.cells #[.int .i64 0] 3)).alloc (.cells #[.bool false] 4)).alloc (.cells #[.int .i64 u] 3)).alloc (.cells #[.int .i64 0] 3)) 22 (.slice A X.length c)
    have hB0 : Below w.heap.size w ((((((w.alloc (.cells #[.int .i64 0] 3)).alloc (.cells #[.int .i64 0] 3)).alloc (.cells #[.bool false] 4)).alloc (.cells #[.int .i64 u] 3)).alloc (.cells #[.int .i64 0] 3)).alloc (.cells #[.slice A X.length c] 22)) := (((below3 w _ _ _).alloc (by simp; omega) _).alloc (by simp; omega) _).alloc (by simp; omega) _
    have hsz : ((((((w.alloc (.cells #[.int .i64 0] 3)).alloc (.cells #[.int .i64 0] 3)).alloc (.cells #[.bool false] 4)).alloc (.cells #[.int .i64 u] 3)).alloc (.cells #[.int .i64 0] 3)).alloc (.cells #[.slice A X.length c] 22)).heap.size = w.heap.size + 6 := by simp
    simp only [World.size_alloc] at n2 n3 n4 n5 n6
    obtain ⟨W0, hW0⟩ : ∃ W0, (((((w.alloc (.cells #[.int .i64 0] 3)).alloc (.cells #[.int .i64 0] 3)).alloc (.cells #[.bool false] 4)).alloc (.cells #[.int .i64 u] 3)).alloc (.cells #[.int .i64 0] 3)).alloc (.cells #[.slice A X.length c] 22) = W0 := ⟨_, rfl⟩
    rw [hW0] at n1 n2 n3 n4 n5 n6 hB0 hsz ⊢
    clear hW0
    have hX1 : 1 ≤ X.length := by have := HM.out; omega
    have HS := Lib.hid (back_stops 5 (w.heap.size + 1 + 1 + 1 + 1 + 1) A c X w W0 hX1 hL HA.out hB0 (by omega) n6.cell)
    clear h1'
    refine wpIn_rangeFunc_ownH rfl (by decide) (gf := 122) (lb := #[.pointer (some ⟨w.heap.size + 1 + 1 + 1 + 1 + 1, 0, none⟩)]) rfl trivial (enters_of Try.func122 (by kernel_rfl) rfl)
      HS.out keepB_t (keepB_b (by omega) (by omega)) (Below.refl _ _) (fun _ => rfl)
      (fun pre W => RfI X u w pre W) (fun co pre W => RfX X u w co pre W) (rfI_own X u w W0 (by omega)) (fun co => rfX_own X u w W0 (by omega) co)
      ⟨⟨u, 0, ⟨rfl, hu, by omega, by omega⟩, n4, n5⟩, n1, n2, n3, hB0⟩
      (fun x a' W => a' = { tmps := #[.slice A X.length c, .int .i64 u, undef, undef, .pointer (some ⟨w.heap.size, 0, none⟩), .pointer (some ⟨w.heap.size + 1, 0, none⟩), .pointer (some ⟨w.heap.size + 1 + 1, 0, none⟩), .int .i64 m, .pointer (some ⟨w.heap.size + 1 + 1 + 1, 0, none⟩), .pointer (some ⟨w.heap.size + 1 + 1 + 1 + 1, 0, none⟩), undef, .int .i64 (gI X x), .slice A X.length c, .int .i64 X.length, .int .i64 m, .int .i64 u, .bool (decide (u < 1)), .bool (decide (u < 1)), .int .i64 m, .bool (decide ((m : Int) < 0)), .bool (decide (u < 1) || decide ((m : Int) < 0)), .bool (decide (u < 1) || decide ((m : Int) < 0)), .int .i64 m, .bool false, .bool false, undef, undef, undef, undef, undef, .bool false, .bool (decide (u < 1) || decide ((m : Int) < 0)), .int .i64 u, .slice A X.length c, .func (.func 122) #[] #[.pointer (some ⟨w.heap.size + 1 + 1 + 1 + 1 + 1, 0, none⟩)], .int .i64 (x : Int), .int .i64 (gI X x), undef, undef, undef, undef, undef, undef, undef, undef, undef, undef, undef, undef, undef, undef, undef], defers := [] })
      (fun x a' => ownFrom_pure _ (fun _ => _))
      ?assign ?body ?done ?stop
    case assign =>
      rintro l pre x W K hI hK
      gi_wp2
      exact hK _ _ (kF_below (Below.refl _ _)) (KeepB.refl _ _ _) hI rfl
    case body =>
      rintro l pre x a' W hl - ⟨⟨p, q, ⟨hst, hp, hq1, hq2⟩, b4, b5⟩, b1, b2, b3, hB1⟩ rfl -
      have hss : rfS X u (pre ++ [x]) = if 1 ≤ gI X x ∧ gI X x * p + q ≤ 1000 then some (gI X x * p + q, p) else none := by rw [rfS_snoc, hst]; rfl
      have HSS := Lib.hid hss
      generalize gI X x = z at *
      have hdv := rf_div (q := z) hp hq1 hq2
      obtain ⟨d, hd⟩ : ∃ d, d = (1000 - q).tdiv p := ⟨_, rfl⟩
      have hd1 : 0 ≤ d ∧ d ≤ 1000 := by
        rw [hd, Int.tdiv_eq_ediv_of_nonneg (by omega)]
        have h1 := Int.ediv_nonneg (a := 1000 - q) (b := p) (by omega) (by omega)
        have h2 := Int.ediv_le_self p (show 0 ≤ 1000 - q by omega)
        omega
      have f1 : (1000 - q).tdiv p = d := hd.symm
      rw [← hd] at hdv
      have f2 : IntKind.i64.wrap d = d := IntWalk.i64_in _ (by omega)
      have HFR := Lib.hid (fun W => from_any z 1 d W)
      have HIN : Hid (inB z 1 d = true ↔ 1 ≤ z ∧ z * p + q ≤ 1000) := inB_spec.trans hdv
      have c4 := b4.cell; have c5 := b5.cell
      have g4 := b4.frozen; have g5 := b5.frozen
      have c1 := b1.cell; have c2 := b2.cell; have c3 := b3.cell
      have g1 := b1.frozen; have g2 := b2.frozen; have g3 := b3.frozen
      clear hss hst hdv hd
      cases hin : inB z 1 d
      · rw [hin] at HFR
        have hno : rfS X u (pre ++ [x]) = none := by
          rw [HSS.out, if_neg]
          exact fun h => by rw [HIN.out.2 h] at hin; cases hin
        have R := Lib.hid (rfX_put (X := X) (u := u) hB1 b1 b2 b3 hno (W0 := W0))
        clear HIN HSS hin b1 b2 b3 b4 b5 hB1 hno
        gi_wp2
        refine ⟨trivial, ((wideR l).calls (HFR.out _)).mono ?_⟩
        rintro e w3 ⟨rfl, rfl⟩
        gi_wp2
        exact R.out
      · rw [hin] at HFR
        have hz := HIN.out.1 hin
        obtain ⟨y, hy⟩ : ∃ y, y = z * p := ⟨_, rfl⟩
        have hy2 := rf_step (q := z) (w := p) (h := 0) hp hz.1 (by omega)
        rw [← hy] at hz hy2
        have HS2 : Hid (rfS X u (pre ++ [x]) = some (y + q, p)) := by
          show _ = _
          rw [HSS.out, hy, if_pos (by rw [← hy]; exact hz)]
        have f3 : z * p = y := hy.symm
        have f4 : IntKind.i64.wrap y = y := IntWalk.i64_in _ (by omega)
        have R := Lib.hid (rfI_put (X := X) (u := u) (W0 := W0) hB1 b1 b2 b3 b4 b5 HS2.out (by omega) (by omega) (by omega) (by omega))
        have k5 := (b5.other (by omega : w.heap.size + 1 + 1 + 1 + 1 ≠ w.heap.size + 1 + 1 + 1) (.int .i64 (y + q))).frozen
        have k6 := (b5.other (by omega : w.heap.size + 1 + 1 + 1 + 1 ≠ w.heap.size + 1 + 1 + 1) (.int .i64 (y + q))).cell
        clear HIN HSS HS2 hin b1 b2 b3 b4 b5 hB1 hy
        gi_wp2
        refine ⟨trivial, ((wideR l).calls (HFR.out _)).mono ?_⟩
        rintro e w3 ⟨rfl, rfl⟩
        gi_wp2
        exact R.out
    case done =>
      rintro D zs W hD hzs ⟨⟨p, q, ⟨hst, hp, hq1, hq2⟩, b4, b5⟩, b1, b2, b3, hB1⟩ hK
      rw [hzs, rfS_all] at hst
      have c4 := b4.cell; have c5 := b5.cell
      have c1 := b1.cell; have c2 := b2.cell; have c3 := b3.cell
      have f1 := b1.frozen; have f2 := b2.frozen; have f3 := b3.frozen
      obtain ⟨V, hV⟩ : ∃ V, V = ((W.setCell ⟨w.heap.size, 0, none⟩ (.int .i64 p)).setCell ⟨w.heap.size + 1, 0, none⟩ (.int .i64 q)).setCell ⟨w.heap.size + 1 + 1, 0, none⟩ (.bool true) := ⟨_, rfl⟩
      have y1 : Boxed V w.heap.size 3 (.int .i64 p) := by rw [hV]; exact ((b1.set _).other (by omega) _).other (by omega) _
      have y2 : Boxed V (w.heap.size + 1) 3 (.int .i64 q) := by rw [hV]; exact ((b2.other (by omega) _).set _).other (by omega) _
      have y3 : Boxed V (w.heap.size + 1 + 1) 4 (.bool true) := by rw [hV]; exact ((b3.other (by omega) _).other (by omega) _).set _
      have hBV : Below w.heap.size w V := by rw [hV]; exact ((hB1.setCell (p := ⟨w.heap.size, 0, none⟩) (Nat.le_refl _) _).setCell (p := ⟨w.heap.size + 1, 0, none⟩) (by simp only; omega) _).setCell (p := ⟨w.heap.size + 1 + 1, 0, none⟩) (by simp only; omega) _
      have hKV : V.heap[D]? = some (.deferred (some [])) := by rw [hV]; exact (Below.heap_setCell _ ⟨w.heap.size + 1 + 1, 0, none⟩ _ D (by simp only [ne_eq]; omega)).trans ((Below.heap_setCell _ ⟨w.heap.size + 1, 0, none⟩ _ D (by simp only [ne_eq]; omega)).trans ((Below.heap_setCell _ ⟨w.heap.size, 0, none⟩ _ D (by simp only [ne_eq]; omega)).trans hK))
      have HYY := Lib.hid (fun w' hb => HY.out p q w' hst hb)
      have HVV := Lib.hid hV
      clear hzs hst b1 b2 b3 b4 b5 hB1 hV
      have R : Hid (∀ W3, W3 = V.drew → Boxed W3 w.heap.size 3 (.int .i64 p) ∧ Boxed W3 (w.heap.size + 1) 3 (.int .i64 q) ∧ Boxed W3 (w.heap.size + 1 + 1) 4 (.bool true) ∧ Below w.heap.size w W3 ∧ W3.heap[D]? = some (.deferred (some []))) := fun W3 h => by
        subst h
        exact ⟨y1, y2, y3, hBV.drew, hKV⟩
      clear y1 y2 y3 hBV hKV
      gi_wp2
      gi_region
      obtain ⟨W3, hW3⟩ : ∃ W3, W3 = (((W.setCell ⟨w.heap.size, 0, none⟩ (.int .i64 p)).setCell ⟨w.heap.size + 1, 0, none⟩ (.int .i64 q)).setCell ⟨w.heap.size + 1 + 1, 0, none⟩ (.bool true)).drew := ⟨_, rfl⟩
      rw [← hW3]
      rw [← HVV.out] at hW3
      obtain ⟨y1, y2, y3, hB3, hK3⟩ := R.out W3 hW3
      clear R hW3 HVV
      have z1 : Boxed (W3.putObj D (.deferred none)) w.heap.size 3 (.int .i64 p) := boxed_same12 y1 (World.putObj_heap_other (by omega))
      have z2 : Boxed (W3.putObj D (.deferred none)) (w.heap.size + 1) 3 (.int .i64 q) := boxed_same12 y2 (World.putObj_heap_other (by omega))
      have z3 : Boxed (W3.putObj D (.deferred none)) (w.heap.size + 1 + 1) 4 (.bool true) := boxed_same12 y3 (World.putObj_heap_other (by omega))
      have RR := Lib.hid (HYY.out _ (hB3.trans (belowK_b (w := w) (Nat.le_refl _) W3 D (.deferred (some [])) (.deferred none) (by omega) hK3 rfl rfl)))
      have d1 := z1.cell; have d2 := z2.cell; have d3 := z3.cell
      clear y1 y2 y3 z1 z2 z3 hB3
      gi_wp2
      refine ⟨by simp, .inl ⟨_, _, rfl, run_takeDeferred hK3, ?_⟩⟩
      refine ⟨_, results_cells3 rfl _ _ _ _ _ _ _ _ rfl rfl rfl d1 d2 d3, ?_⟩
      exact RR.out
    case stop =>
      rintro D k pre W hD ⟨k2, hk2, rfl⟩ ⟨⟨rfl, hno⟩, b1, b2, b3, hB1⟩ hK
      have z1 : Boxed (W.putObj D (.deferred none)) w.heap.size 3 (.int .i64 0) := boxed_same12 b1 (World.putObj_heap_other (by omega))
      have z2 : Boxed (W.putObj D (.deferred none)) (w.heap.size + 1) 3 (.int .i64 0) := boxed_same12 b2 (World.putObj_heap_other (by omega))
      have z3 : Boxed (W.putObj D (.deferred none)) (w.heap.size + 1 + 1) 4 (.bool false) := boxed_same12 b3 (World.putObj_heap_other (by omega))
      have RR := Lib.hid (HN.out _ (rfS_none hk2 hno) (hB1.trans (belowK_b (w := w) (Nat.le_refl _) W D (.deferred (some [])) (.deferred none) (by omega) hK rfl rfl)))
      have d1 := z1.cell; have d2 := z2.cell; have d3 := z3.cell
      clear b1 b2 b3 z1 z2 z3 hB1 hno
      gi_wp2
      refine ⟨by simp, .inl ⟨_, _, rfl, run_takeDeferred hK, ?_⟩⟩
      refine ⟨_, results_cells3 rfl _ _ _ _ _ _ _ _ rfl rfl rfl d1 d2 d3, ?_⟩
      exact RR.out
end Go.Proofs.Ythoniopkeiifnaa

/-! RowsR -/
namespace Go.Proofs.Ythoniopkeiifnaa
open Go.RowKit

/-- A row: its block, its capacity, its numbers. -/
structure Rw where
  g : Nat
  cap : Nat
  M : List Int
/-- The slice of a row. -/
def hdr (r : Rw) : Value := .slice (some ⟨r.g, 0, none⟩) r.M.length r.cap
theorem hdr_own (r : Rw) : (hdr r).ownBlock = some r.g := rfl
/-- v is a slice of the rows Rs, all owned from block B on, no two in one block. -/
structure RowsR (w : World) (B : Nat) (v : Value) (Rs : List Rw) : Prop where
  out : w.ownsRow B 22 1 v Rs.length (Rs.map hdr)
  row : ∀ r ∈ Rs, w.ownsRow B 3 1 (hdr r) r.M.length (ints r.M)
  far : ∀ r ∈ Rs, v.ownBlock ≠ some r.g
  nodup : (Rs.map Rw.g).Nodup
theorem rowsR_nil (w : World) (B : Nat) : RowsR w B (.slice none 0 0) [] :=
  ⟨World.ownsRow_nil _ _ _ _, fun r h => (by cases h), fun r h => (by cases h), by simp⟩
theorem RowsR.below {w w' : World} {B : Nat} {v : Value} {Rs : List Rw} (h : RowsR w B v Rs) (hb : Below w.heap.size w w') : RowsR w' B v Rs :=
  ⟨own_below h.out hb, fun r hr => own_below (h.row r hr) hb, h.far, h.nodup⟩
theorem RowsR.base {w : World} {B B' : Nat} {v : Value} {Rs : List Rw} (h : RowsR w B v Rs) (hb : B' ≤ B) : RowsR w B' v Rs :=
  ⟨own_base h.out hb, fun r hr => own_base (h.row r hr) hb, h.far, h.nodup⟩
theorem RowsR.lt {w : World} {B : Nat} {v : Value} {Rs : List Rw} (h : RowsR w B v Rs) {r : Rw} (hr : r ∈ Rs) : B ≤ r.g ∧ r.g < w.heap.size := (h.row r hr).lt r.g rfl
/-- The slice's own address, where it has rows. -/
theorem RowsR.form {w : World} {B : Nat} {v : Value} {Rs : List Rw} (h : RowsR w B v Rs) : ∃ A c, v = .slice A Rs.length c ∧ ∀ i (hi : i < Rs.length), ∃ g, A = some ⟨g, 0, none⟩ ∧ w.cell? ⟨g, i, none⟩ = some (hdr Rs[i]) := by
  rcases h.out.2 with ⟨rfl, h0⟩ | ⟨g, cap, cur, rfl, hg, hh, _⟩
  · exact ⟨none, 0, by rw [h0], fun k hk => by omega⟩
  · refine ⟨some ⟨g, 0, none⟩, cap, rfl, fun k hk => ⟨g, rfl, ?_⟩⟩
    rw [h.out.cellAt k (by omega)]
    simp [hk]
/-- Marks from s on. -/
def marksS (s : Int) (m : Nat) : List Int := (List.range m).map fun (j : Nat) => s + (j : Int)
theorem marksS_len (s : Int) (m : Nat) : (marksS s m).length = m := by simp [marksS]
theorem marksS_step {s : Int} {j : Nat} {xs : List Value} (hj : j < xs.length) : (ints (marksS s j) ++ xs.drop j).set j (.int .i64 (s + (j : Int))) = ints (marksS s (j + 1)) ++ xs.drop (j + 1) := by
  have h1 : (ints (marksS s j)).length = j := by rw [ints_len, marksS_len]
  have h2 : (xs.drop j).set 0 (.int .i64 (s + (j : Int))) = .int .i64 (s + (j : Int)) :: xs.drop (j + 1) := by
    rw [List.drop_eq_getElem_cons hj]; rfl
  rw [List.set_append_right _ _ (by omega), h1, Nat.sub_self, h2]
  simp [marksS, ints, List.range_succ]
theorem mark_w {s : Int} {k : Nat} (h0 : 0 ≤ s) (h1 : s ≤ 1000000000) (hk : k ≤ 1048576) : wrap64 (s + (k : Int) + 1) = s + ((k + 1 : Nat) : Int) ∧ IntKind.i64.wrap (s + (k : Int) + 1) = s + ((k + 1 : Nat) : Int) := by
  have e : s + (k : Int) + 1 = s + ((k + 1 : Nat) : Int) := by omega
  rw [e]
  exact ⟨IntWalk.wrap64_in _ (by omega), IntWalk.i64_in _ (by omega)⟩
set_option maxRecDepth 100000 in
set_option maxHeartbeats 800000 in
/-- A row is overwritten by its marks from s on. -/
theorem mark_row (B g cap : Nat) (n : Nat) (xs : List Value) (s : Int) (w : World) (hown : w.ownsRow B 3 1 (.slice (some ⟨g, 0, none⟩) n cap) n xs) (hn : n ≤ 1048576) (hs0 : 0 ≤ s) (hs1 : s ≤ 1000000000) :
    Calls Try.prog 17 #[.slice (some ⟨g, 0, none⟩) n cap, .int .i64 s] w fun e w' => e = .returned (.int .i64 (s + (n : Int))) ∧ w'.ownsRow B 3 1 (.slice (some ⟨g, 0, none⟩) n cap) n (ints (marksS s n)) ∧ w.grownBy w' (some g) := by
  have hl : xs.length = n := by have := hown.1; omega
  go_enter Try.func17, Try.ntmps17
  go_wp2_with fail
  go_loopw [1, 5] (fun m i wr => ∃ (k : Nat) (sv : Int), k ≤ n ∧ Hid (sv = s + (k : Int)) ∧ i = .int .i64 k ∧ m = .int .i64 sv ∧ wr.ownsRow B 3 1 (.slice (some ⟨g, 0, none⟩) n cap) n (ints (marksS s k) ++ xs.drop k) ∧ w.grownBy wr (some g)) (fun _ i _ => n - (intOf i).toNat)
  case atStart => exact ⟨0, s, Nat.zero_le _, by show s = s + ((0 : Nat) : Int); omega, rfl, rfl, by simpa [marksS, ints] using hown, World.grownBy.refl _ _⟩
  case round =>
    obtain ⟨k, sv, hk, HS, rfl, rfl, hown', hgr⟩ := hrel
    by_cases hlt : k < n
    · obtain ⟨u1, hc1⟩ := cell_some1 hown' k hlt
      have hf1 := hown'.frozenAt k
      have hs2 := (hown'.stored k (.int .i64 sv)).1
      have hst := marksS_step (s := s) (j := k) (xs := xs) (by omega)
      rw [← HS.out] at hst
      rw [hst] at hs2
      have hg2 := only_set hgr k (.int .i64 sv)
      have R := Lib.hid (And.intro hs2 hg2)
      obtain ⟨f1, f1'⟩ := mark_w (s := s) (k := k) hs0 hs1 (by omega)
      have HS1 : Hid (s + ((k + 1 : Nat) : Int) = sv + 1) := by show _ = _; rw [HS.out]; omega
      rw [← HS.out, HS1.out] at f1 f1'
      have HS2 : Hid (sv + 1 = s + ((k + 1 : Nat) : Int)) := HS1.out.symm
      clear hs2 hst hg2 hown' hgr hown HS1
      go_wp2_with fail
      clear f1 f1'
      go_roundw
      case rel => exact ⟨k + 1, sv + 1, by omega, HS2, by go_num, rfl, R.out.1, R.out.2⟩
      case measure => simp [intOf]; omega
    · obtain rfl : k = n := by omega
      rw [List.drop_of_length_le (by omega), List.append_nil] at hown'
      have R := Lib.hid hown'
      clear hown' hown
      go_wp2_with fail
      go_ret
      exact ⟨by rw [HS.out]; rfl, R.out, hgr⟩
set_option maxRecDepth 100000 in
set_option maxHeartbeats 800000 in
/-- The marks from s on are still there. -/
theorem held_row (B g cap : Nat) (n : Nat) (s : Int) (w : World) (hown : w.ownsRow B 3 1 (.slice (some ⟨g, 0, none⟩) n cap) n (ints (marksS s n))) (hn : n ≤ 1048576) (hs0 : 0 ≤ s) (hs1 : s ≤ 1000000000) :
    Calls Try.prog 18 #[.slice (some ⟨g, 0, none⟩) n cap, .int .i64 s] w fun e w' => e = .returned (.int .i64 (s + (n : Int))) ∧ w' = w := by
  have HC : Hid (∀ j, j < n → w.cell? ⟨g, j, none⟩ = some (.int .i64 (s + (j : Int)))) := fun j hj => (hown.cellAt j (by omega)).trans (by simp [marksS, ints, hj])
  clear hown
  go_enter Try.func18, Try.ntmps18
  go_wp2_with fail
  go_loopw [1, 5] (fun m i wr => ∃ (k : Nat) (sv : Int), k ≤ n ∧ Hid (sv = s + (k : Int)) ∧ i = .int .i64 k ∧ m = .int .i64 sv ∧ wr = w) (fun _ i _ => n - (intOf i).toNat)
  case atStart => exact ⟨0, s, Nat.zero_le _, by show s = s + ((0 : Nat) : Int); omega, rfl, rfl, rfl⟩
  case round =>
    obtain ⟨k, sv, hk, HS, rfl, rfl, rfl⟩ := hrel
    by_cases hlt : k < n
    · have hc1 := HC.out k hlt
      rw [← HS.out] at hc1
      obtain ⟨f1, f1'⟩ := mark_w (s := s) (k := k) hs0 hs1 (by omega)
      have HS1 : Hid (s + ((k + 1 : Nat) : Int) = sv + 1) := by show _ = _; rw [HS.out]; omega
      rw [← HS.out, HS1.out] at f1 f1'
      have HS2 : Hid (sv + 1 = s + ((k + 1 : Nat) : Int)) := HS1.out.symm
      clear HS1
      go_wp2_with fail
      clear f1 f1'
      go_roundw
      case rel => exact ⟨k + 1, sv + 1, by omega, HS2, by go_num, rfl, by first | trivial | rfl⟩
      case measure => simp [intOf]; omega
    · obtain rfl : k = n := by omega
      go_wp2_with fail
      go_ret
      exact ⟨by rw [HS.out]; rfl, rfl⟩
def mkR (q j : Nat) (r : Rw) : Rw := { r with M := marksS (1 + (q : Int) * (j : Int)) q }
/-- The first k rows are overwritten by marks. -/
def mixR (q : Nat) (Rs : List Rw) (k : Nat) : List Rw := Rs.mapIdx fun j r => bif decide (j < k) then mkR q j r else r
theorem mix_len (q : Nat) (Rs : List Rw) (k : Nat) : (mixR q Rs k).length = Rs.length := by simp [mixR]
theorem mix_get {q : Nat} {Rs : List Rw} {k j : Nat} (hj : j < (mixR q Rs k).length) : (mixR q Rs k)[j] = bif decide (j < k) then mkR q j (Rs[j]'(by rwa [mix_len] at hj)) else (Rs[j]'(by rwa [mix_len] at hj)) := by
  simp [mixR]
theorem mix_zero (q : Nat) (Rs : List Rw) : mixR q Rs 0 = Rs := by
  refine List.ext_getElem (mix_len _ _ _) fun j h1 h2 => ?_
  rw [mix_get]; rfl
theorem mix_g (q : Nat) (Rs : List Rw) (k : Nat) : (mixR q Rs k).map Rw.g = Rs.map Rw.g := by
  refine List.ext_getElem (by simp [mix_len]) fun j h1 h2 => ?_
  rw [List.getElem_map, List.getElem_map, mix_get]
  cases decide (j < k) <;> rfl
theorem mix_hdr {q : Nat} {Rs : List Rw} (hq : ∀ r ∈ Rs, r.M.length = q) (k : Nat) : (mixR q Rs k).map hdr = Rs.map hdr := by
  refine List.ext_getElem (by simp [mix_len]) fun j h1 h2 => ?_
  rw [List.getElem_map, List.getElem_map, mix_get]
  have := hq _ (List.getElem_mem (l := Rs) (n := j) (by simpa using h2))
  cases decide (j < k)
  · rfl
  · simp only [cond_true, hdr, mkR, marksS_len]
    rw [this]
theorem g_inj {Rs : List Rw} (h : (Rs.map Rw.g).Nodup) {i j : Nat} (hi : i < Rs.length) (hj : j < Rs.length) (e : (Rs[i]).g = (Rs[j]).g) : i = j := by
  have h1 : i < (Rs.map Rw.g).length := by simpa using hi
  have h2 : j < (Rs.map Rw.g).length := by simpa using hj
  exact (List.getElem_inj (h₀ := h1) (h₁ := h2) h).1 (by simpa using e)
theorem mix_step {w w' : World} {B : Nat} {v : Value} {Rs : List Rw} {q k : Nat} (hq : ∀ r ∈ Rs, r.M.length = q) (hk : k < Rs.length) (h : RowsR w B v (mixR q Rs k))
    (ho : w'.ownsRow B 3 1 (.slice (some ⟨(Rs[k]).g, 0, none⟩) q (Rs[k]).cap) q (ints (marksS (1 + (q : Int) * (k : Int)) q))) (hg : w.grownBy w' (some (Rs[k]).g)) : RowsR w' B v (mixR q Rs (k + 1)) := by
  have hlen := mix_len q Rs k
  have hkm : (mixR q Rs k)[k]'(by omega) = Rs[k] := by rw [mix_get]; simp
  have hfar : v.ownBlock ≠ some (Rs[k]).g := by
    have := h.far _ (List.getElem_mem (l := mixR q Rs k) (n := k) (by omega))
    rwa [hkm] at this
  have hnd : (Rs.map Rw.g).Nodup := by have := h.nodup; rwa [mix_g] at this
  refine ⟨?_, ?_, ?_, by rw [mix_g]; exact hnd⟩
  · have o := h.out.kept hg (by
      cases hv : v.ownBlock with
      | none => exact .inl rfl
      | some b => exact .inr (fun e => hfar (by rw [hv, ← e])))
    rw [mix_hdr hq, mix_len] at o
    rw [mix_hdr hq, mix_len]
    exact o
  · intro r hr
    obtain ⟨j, hj, rfl⟩ := List.getElem_of_mem hr
    have hj' : j < Rs.length := by rwa [mix_len] at hj
    by_cases e : j = k
    · subst e
      rw [mix_get, decide_eq_true (Nat.lt_succ_self j), cond_true]
      show w'.ownsRow B 3 1 (.slice (some ⟨(Rs[j]).g, 0, none⟩) (marksS _ q).length (Rs[j]).cap) (marksS _ q).length _
      rw [marksS_len]
      exact ho
    · have hd : decide (j < k + 1) = decide (j < k) := by
        rw [decide_eq_decide]; omega
      have hs : (mixR q Rs (k + 1))[j] = (mixR q Rs k)[j]'(by omega) := by rw [mix_get, mix_get, hd]
      rw [hs]
      have o := h.row _ (List.getElem_mem (l := mixR q Rs k) (n := j) (by omega))
      refine o.kept hg (.inr fun e2 => e (g_inj hnd hj' hk ?_))
      have e3 : ((mixR q Rs k)[j]'(by omega)).g = (Rs[j]).g := by rw [mix_get]; cases decide (j < k) <;> rfl
      rw [hdr_own, e3] at e2
      exact Option.some.inj e2
  · intro r hr
    obtain ⟨j, hj, rfl⟩ := List.getElem_of_mem hr
    have := h.far _ (List.getElem_mem (l := mixR q Rs k) (n := j) (by rw [mix_len] at hj ⊢; exact hj))
    have e3 : ((mixR q Rs k)[j]'(by rw [mix_len] at hj ⊢; exact hj)).g = ((mixR q Rs (k + 1))[j]).g := by
      rw [mix_get, mix_get]; cases decide (j < k) <;> cases decide (j < k + 1) <;> rfl
    rwa [e3] at this
theorem mix_all (q : Nat) (Rs : List Rw) {r : Rw} (h : r ∈ mixR q Rs Rs.length) : ∃ j, ∃ hj : j < Rs.length, r = mkR q j Rs[j] := by
  obtain ⟨j, hj, rfl⟩ := List.getElem_of_mem h
  have hj' : j < Rs.length := by rwa [mix_len] at hj
  exact ⟨j, hj', by rw [mix_get, decide_eq_true hj']; rfl⟩
theorem row_w {q k n : Nat} (hq : q ≤ 1000) (hk : k ≤ n) (hn : n ≤ 1000) : 0 ≤ 1 + (q : Int) * (k : Int) ∧ 1 + (q : Int) * (k : Int) ≤ 1000000000 := by
  have h : q * k ≤ 1000 * 1000 := Nat.mul_le_mul hq (Nat.le_trans hk hn)
  have e : (q : Int) * (k : Int) = ((q * k : Nat) : Int) := by simp
  rw [e]; omega
theorem row_nx (q k : Nat) : 1 + (q : Int) * (k : Int) + (q : Int) = 1 + (q : Int) * ((k + 1 : Nat) : Int) := by
  rw [Int.natCast_add, Int.mul_add]; simp; omega
theorem k_w {k n : Nat} (hk : k ≤ n) (hn : n ≤ 1000) : wrap64 ((k : Int) + 1) = (k : Int) + 1 ∧ IntKind.i64.wrap ((k : Int) + 1) = (k : Int) + 1 := ⟨IntWalk.wrap64_in _ (by omega), IntWalk.i64_in _ (by omega)⟩
/-- Nothing of what lay has changed but the rows. -/
structure ButRows (Rs : List Rw) (w w' : World) : Prop where
  os : w'.os = w.os
  tape : w'.tape = w.tape
  output : w'.output = w.output
  size : w.heap.size ≤ w'.heap.size
  block : ∀ j, j < w.heap.size → (∀ r ∈ Rs, r.g ≠ j) → w'.heap[j]? = w.heap[j]?
theorem ButRows.refl (Rs : List Rw) (w : World) : ButRows Rs w w := ⟨rfl, rfl, rfl, Nat.le_refl _, fun _ _ _ => rfl⟩
theorem ButRows.step {Rs : List Rw} {w a b : World} {g : Nat} (h : ButRows Rs w a) (hg : a.grownBy b (some g)) (hn : ∀ j, (∀ r ∈ Rs, r.g ≠ j) → g ≠ j) : ButRows Rs w b :=
  ⟨hg.os.trans h.os, hg.tape.trans h.tape, hg.output.trans h.output, Nat.le_trans h.size hg.size, fun j hj hr => (hg.block j (Nat.lt_of_lt_of_le hj h.size) (fun e => hn j hr (Option.some.inj e).symm)).trans (h.block j hj hr)⟩
theorem ButRows.below {Rs : List Rw} {w a b : World} {B : Nat} (h : ButRows Rs a b) (hb : Below B w a) (hB : B ≤ a.heap.size) (hr : ∀ r ∈ Rs, B ≤ r.g) : Below B w b :=
  ⟨h.os.trans hb.os, h.tape.trans hb.tape, h.output.trans hb.output, Nat.le_trans hb.size h.size, fun j hj => (h.block j (Nat.lt_of_lt_of_le hj hB) (fun r hrr e => by have := hr r hrr; omega)).trans (hb.block j hj)⟩
/-- Another slice of the call's own, whose block is no row's. -/
theorem ButRows.own {Rs : List Rw} {w w' : World} {B size n : Nat} {e : TypeId} {v : Value} {xs : List Value} (h : ButRows Rs w w') (ho : w.ownsRow B e size v n xs) (hf : ∀ r ∈ Rs, v.ownBlock ≠ some r.g) : w'.ownsRow B e size v n xs := by
  refine ⟨ho.1, ?_⟩
  rcases ho.2 with hn | ⟨g, cap, cur, rfl, hb, hgg, rest⟩
  · exact .inl hn
  · refine .inr ⟨g, cap, cur, rfl, hb, ?_, rest⟩
    exact (h.block g (Array.getElem?_eq_some_iff.1 hgg).1 (fun r hr e => hf r hr (by rw [e]; rfl))).trans hgg
end Go.Proofs.Ythoniopkeiifnaa

/-! ArgSS -/
namespace Go.Proofs.Ythoniopkeiifnaa
open Go.RowKit

/-- The cells of a slice of ints that came in, wherever it lies. -/
def ArgI (w : World) (A : Option Addr) (M : List Int) : Prop := ∀ k (h : k < M.length), ∃ a : Addr, A = some a ∧ a.block < w.heap.size ∧ w.cell? (a.add k) = some (.int .i64 M[k])
theorem ArgI.step {w w' : World} {A : Option Addr} {M : List Int} (h : ArgI w A M) (hb : Below w.heap.size w w') : ArgI w' A M := fun k hk => by
  obtain ⟨a, hA, hl, h1⟩ := h k hk
  exact ⟨a, hA, Nat.lt_of_lt_of_le hl hb.size, cell_on hb rfl h1⟩
/-- A slice of such slices. -/
def ArgSS (w : World) (A : Option Addr) (Ms : List (List Int)) : Prop := ∀ k (h : k < Ms.length), ∃ (a : Addr) (Ak : Option Addr) (ck : Nat), A = some a ∧ a.block < w.heap.size ∧ w.cell? (a.add k) = some (.slice Ak (Ms[k]).length ck) ∧ (Ms[k]).length ≤ maxLen ∧ ArgI w Ak Ms[k]
theorem ArgSS.step {w w' : World} {A : Option Addr} {Ms : List (List Int)} (h : ArgSS w A Ms) (hb : Below w.heap.size w w') : ArgSS w' A Ms := fun k hk => by
  obtain ⟨a, Ak, ck, hA, hl, h1, h2, h3⟩ := h k hk
  exact ⟨a, Ak, ck, hA, Nat.lt_of_lt_of_le hl hb.size, cell_on hb rfl h1, h2, h3.step hb⟩
theorem view_intss {H : Type} {enc : TypeId × Value → H} {P : Program} {W : World} {t e q : TypeId} {fuel : Nat} {A : Option Addr} {n c : Nat} {x : DataW H × List MemPlace}
    (ht : P.underlying t = some (.slice e)) (he : P.underlying e = some (.slice q)) (hq : P.underlying q = some (.int .i64)) (ce : P.cellsOf e = 1) (cq : P.cellsOf q = 1)
    (h : DataW.trod enc P W 0 (fun _ => true) true fuel t [.slice A n c] = some x) : ∃ Ms : List (List Int), n = Ms.length ∧ ArgSS W A Ms ∧ Ms.length ≤ maxLen ∧ ∀ M ∈ Ms, ∀ z ∈ M, (Lit.int .i64 z).wf = true := by
  rcases Go.Deep.open_int_rows ht he hq ce cq h with ⟨h1, _⟩ | ⟨a, len, cap, A', L, C, Z, h1, _, hlc, hcm, _, hcell⟩
  · simp only [List.cons.injEq, Value.slice.injEq, and_true] at h1
    obtain ⟨rfl, rfl, rfl⟩ := h1
    exact ⟨[], rfl, fun k hk => absurd hk (by simp), by simp, fun M hM => by cases hM⟩
  · simp only [List.cons.injEq, Value.slice.injEq, and_true] at h1
    obtain ⟨rfl, rfl, rfl⟩ := h1
    refine ⟨(List.range n).map fun r => (Z r).take (L r), by simp, fun k hk => ?_, by simp; omega, ?_⟩
    · have hk' : k < n := by simpa using hk
      obtain ⟨g1, g2, g3, g4, g5, g6, g7⟩ := hcell k (by omega)
      have hb := World.block_lt_of_cell? W _ g1
      have hbl : (a.add k).block = a.block := by unfold Addr.add; split <;> rfl
      rw [hbl] at hb
      have hl : ((Z k).take (L k)).length = L k := by rw [List.length_take]; omega
      have hget : ((List.range n).map fun r => (Z r).take (L r))[k] = (Z k).take (L k) := by simp
      rw [hget]
      refine ⟨a, A' k, C k, rfl, hb, by rw [hl]; exact g1, by rw [hl]; omega, fun j hj => ?_⟩
      rw [hl] at hj
      cases hA : A' k with
      | none => have := g6 hA; omega
      | some a' =>
        have q1 := (g7 a' hA).2 j (by omega)
        have hb2 := World.block_lt_of_cell? W _ q1
        have hbl2 : (a'.add j).block = a'.block := by unfold Addr.add; split <;> rfl
        rw [hbl2] at hb2
        refine ⟨a', rfl, hb2, ?_⟩
        rw [q1]
        simp [show j < (Z k).length by omega]
    · intro M hM z hz
      obtain ⟨r, hr, rfl⟩ := List.mem_map.1 hM
      obtain ⟨g1, g2, g3, g4, g5, g6, g7⟩ := hcell r (by have := List.mem_range.1 hr; omega)
      exact g5 z (List.mem_of_mem_take hz)
theorem infoN : (Try.prog.info? 3).map (fun i => (i.zero, i.size, i.bytes)) = some (some (.int .i64 0), 1, 8) := by kernel_rfl
theorem infoRow : (Try.prog.info? 22).map (fun i => (i.zero, i.size, i.bytes)) = some (some (.slice none 0 0), 1, 24) := by kernel_rfl
theorem ints_set {M : List Int} {zs : List Value} (hz : zs.length = M.length) (k : Nat) (hk : k < M.length) : (ints (M.take k) ++ zs.drop k).set k (.int .i64 M[k]) = ints (M.take (k + 1)) ++ zs.drop (k + 1) := by
  have h1 : (ints (M.take k)).length = k := by rw [ints_len, List.length_take]; omega
  have h2 : (zs.drop k).set 0 (.int .i64 M[k]) = .int .i64 M[k] :: zs.drop (k + 1) := by
    rw [List.drop_eq_getElem_cons (by omega)]; rfl
  rw [List.set_append_right _ _ (by omega), h1, Nat.sub_self, h2, List.take_succ_eq_append_getElem hk, ints_snoc, List.append_assoc]
  rfl
set_option maxRecDepth 100000 in
set_option maxHeartbeats 1600000 in
theorem toI_any (A : Option Addr) (c : Nat) (M : List Int) (w : World) (hA : ArgI w A M) (hL : M.length ≤ 1048576) :
    Calls Try.prog 22 #[.slice A M.length c] w fun e w' => e = .returned (.slice (some ⟨w.heap.size, 0, none⟩) M.length M.length) ∧ w'.ownsRow w.heap.size 3 1 (.slice (some ⟨w.heap.size, 0, none⟩) M.length M.length) M.length (ints M) ∧ Below w.heap.size w w' := by
  obtain ⟨i0, hi0, hz0, hz1, hz2⟩ := info_parts infoN
  have hmk : ∀ w, (Instr.makeSlice 22 (.int .i64 (M.length : Int)) (.int .i64 (M.length : Int))).run Try.prog w = .ok (.slice (some ⟨w.heap.size, 0, none⟩) M.length M.length) (w.alloc (.cells (madeCells #[.int .i64 0] M.length) 3)) := fun w => by
    have h := run_make (P := Try.prog) w 22 3 i0 _ Try.underlying22 hi0 hz0 .i64 .i64 (M.length : Int) (M.length : Int) (by omega) (Int.le_refl _) (by rw [hz2]; omega) (by omega)
    rw [hz1] at h
    simpa [Value.cells, Nat.mul_one] using h
  have hown := World.ownsRow_lit (base := w.heap.size) (e := 3) (size := 1) w (madeCells #[.int .i64 0] M.length) M.length (Nat.le_refl _) (by unfold maxLen; omega) ((size_madeCells _ _).trans (Nat.mul_one _).symm)
  have hzl : (madeCells #[.int .i64 0] M.length).toList.length = M.length := by rw [Array.length_toList, size_madeCells]
  have hb0 := below1 w (.cells (madeCells #[.int .i64 0] M.length) 3)
  have HA := Lib.hid hA; clear hA
  go_enter Try.func22, Try.ntmps22
  go_wp2_with fail
  generalize (madeCells #[.int .i64 0] M.length).toList = zs at *
  generalize w.alloc (.cells (madeCells #[.int .i64 0] M.length) 3) = w1 at *
  clear hmk
  go_loopw [4] (fun i wr => ∃ k : Nat, k ≤ M.length ∧ i = .int .i64 k ∧ wr.ownsRow w.heap.size 3 1 (.slice (some ⟨w.heap.size, 0, none⟩) M.length M.length) M.length (ints (M.take k) ++ zs.drop k) ∧ Below w.heap.size w wr) (fun i _ => M.length - (intOf i).toNat)
  case atStart => exact ⟨0, Nat.zero_le _, rfl, by simpa [ints] using hown, hb0⟩
  case round =>
    obtain ⟨wo, rfl⟩ : ∃ wo : World, wo = wr := ⟨_, rfl⟩
    clear hown
    obtain ⟨k, hk, rfl, hown, hb⟩ := hrel
    by_cases hlt : k < M.length
    · obtain ⟨a, rfl, hl, h1⟩ := HA.out k hlt
      have c1 := cell_on hb rfl h1
      have hs := ints_set hzl k hlt
      obtain ⟨x, hx⟩ : ∃ x, x = M[k] := ⟨_, rfl⟩
      rw [← hx] at c1 hs
      have HS := Lib.hid hs
      clear hs h1 hx
      obtain ⟨u1, d1⟩ := cell_some1 hown k hlt
      have f1 := hown.frozenAt k
      have own3 := (hown.stored k (.int .i64 x)).1
      rw [HS.out] at own3
      have b4 := hb.setCell (p := ⟨w.heap.size, k, none⟩) (Nat.le_refl _) (.int .i64 x)
      have R := Lib.hid (And.intro own3 b4)
      clear own3 b4
      go_wp2_with fail
      go_roundw
      case rel => exact ⟨k + 1, by omega, by go_num, R.out.1, R.out.2⟩
      case measure => simp [intOf]; omega
    · obtain rfl : k = M.length := by omega
      rw [List.drop_of_length_le (by omega), List.take_of_length_le (Nat.le_refl _), List.append_nil] at hown
      have R := Lib.hid hown
      clear hown
      go_wp2_with fail
      go_ret
      exact ⟨rfl, R.out, hb⟩
theorem hdrs_set {Qs : List Rw} {r : Rw} {zs : List Value} {n k : Nat} (hz : zs.length = n) (hq : Qs.length = k) (hk : k < n) : (Qs.map hdr ++ zs.drop k).set k (hdr r) = (Qs ++ [r]).map hdr ++ zs.drop (k + 1) := by
  have h1 : (Qs.map hdr).length = k := by rw [List.length_map, hq]
  have h2 : (zs.drop k).set 0 (hdr r) = hdr r :: zs.drop (k + 1) := by
    rw [List.drop_eq_getElem_cons (by omega)]; rfl
  rw [List.set_append_right _ _ (by omega), h1, Nat.sub_self, h2, List.map_append, List.append_assoc]
  rfl
/-- Rows that are owned, no two in one block. -/
structure Owned (w : World) (B : Nat) (Rs : List Rw) : Prop where
  row : ∀ r ∈ Rs, w.ownsRow B 3 1 (hdr r) r.M.length (ints r.M)
  nodup : (Rs.map Rw.g).Nodup
theorem Owned.below {w w' : World} {B : Nat} {Rs : List Rw} (h : Owned w B Rs) (hb : Below w.heap.size w w') : Owned w' B Rs := ⟨fun r hr => own_below (h.row r hr) hb, h.nodup⟩
theorem Owned.lt {w : World} {B : Nat} {Rs : List Rw} (h : Owned w B Rs) {r : Rw} (hr : r ∈ Rs) : B ≤ r.g ∧ r.g < w.heap.size := (h.row r hr).lt r.g rfl
theorem Owned.set {w : World} {B : Nat} {Rs : List Rw} (h : Owned w B Rs) (g j : Nat) (u : Value) (hg : g < B) : Owned (w.setCell ⟨g, j, none⟩ u) B Rs :=
  ⟨fun r hr => (h.row r hr).kept (only_set (World.grownBy.refl w (some g)) j u) (.inr (fun e => by
    have e2 : r.g = g := Option.some.inj (by rw [← e, hdr_own])
    have := (h.lt hr).1; omega)), h.nodup⟩
theorem Owned.snoc {w w' : World} {B : Nat} {Rs : List Rw} {r : Rw} (h : Owned w B Rs) (hb : Below w.heap.size w w') (hr : w'.ownsRow B 3 1 (hdr r) r.M.length (ints r.M)) (hlo : w.heap.size ≤ r.g) : Owned w' B (Rs ++ [r]) := by
  refine ⟨fun x hx => ?_, ?_⟩
  · rcases List.mem_append.1 hx with hx | hx
    · exact own_below (h.row x hx) hb
    · rw [List.mem_singleton.1 hx]; exact hr
  · rw [List.map_append]
    refine List.nodup_append.2 ⟨h.nodup, by simp, ?_⟩
    intro a ha b hb' e
    obtain ⟨x, hx, rfl⟩ := List.mem_map.1 ha
    simp only [List.map_cons, List.map_nil, List.mem_singleton] at hb'
    have := (h.lt hx).2
    omega
theorem k_w' {k n : Nat} (hk : k ≤ n) (hn : n ≤ 1048576) : wrap64 ((k : Int) + 1) = (k : Int) + 1 ∧ IntKind.i64.wrap ((k : Int) + 1) = (k : Int) + 1 := ⟨IntWalk.wrap64_in _ (by omega), IntWalk.i64_in _ (by omega)⟩
end Go.Proofs.Ythoniopkeiifnaa

/-! ArgI9 -/
namespace Go.Proofs.Ythoniopkeiifnaa
open Go.RowKit

theorem view_ints {H : Type} {enc : TypeId × Value → H} {P : Program} {W : World} {t e : TypeId} {fuel : Nat} {A : Option Addr} {n c : Nat} {x : DataW H × List MemPlace}
    (ht : P.underlying t = some (.slice e)) (he : P.underlying e = some (.int .i64)) (ce : P.cellsOf e = 1)
    (h : DataW.trod enc P W 0 (fun _ => true) true fuel t [.slice A n c] = some x) : ∃ M : List Int, n = M.length ∧ ArgI W A M ∧ M.length ≤ maxLen := by
  rcases Go.ChangeShapes.open_ints ht he ce h with ⟨h1, _⟩ | ⟨a, len, cap, zs, h1, _, hlc, hcm, hz, _, hcell, _⟩
  · simp only [List.cons.injEq, Value.slice.injEq, and_true] at h1
    obtain ⟨rfl, rfl, rfl⟩ := h1
    exact ⟨[], rfl, fun k hk => absurd hk (by simp), by simp⟩
  · simp only [List.cons.injEq, Value.slice.injEq, and_true] at h1
    obtain ⟨rfl, rfl, rfl⟩ := h1
    simp only [if_true] at hz
    have hl : (zs.take n).length = n := by rw [List.length_take]; omega
    refine ⟨zs.take n, hl.symm, fun k hk => ?_, by omega⟩
    have g1 := hcell k (by omega)
    have hb := World.block_lt_of_cell? W _ g1
    have hbl : (a.add k).block = a.block := by unfold Addr.add; split <;> rfl
    rw [hbl] at hb
    refine ⟨a, rfl, hb, ?_⟩
    rw [g1]
    have hk' : k < zs.length := by omega
    simp [hk']

end Go.Proofs.Ythoniopkeiifnaa

/-! Law12B -/
namespace Go.Proofs.Ythoniopkeiifnaa
open Go.RowKit

set_option maxRecDepth 100000 in
set_option maxHeartbeats 2000000 in
theorem ex_ssq (A : Option Addr) (c : Nat) (X : List Int) (W : World) (hA : ArgI W A X) (_hL : X.length ≤ maxLen) :
    Calls Try.prog 7 #[.slice A X.length c] W fun e w' => e = .returned (.bool true) ∧ Below W.heap.size W w' := by
  by_cases hs : X.length ≤ 1048576
  case neg =>
    have hs' : ((1048576 : Int) < (X.length : Int)) := by omega
    clear hA hs
    unfold maxLen at _hL
    go_enter Try.func7, Try.ntmps7
    go_wp2_with fail
    go_ret
    exact ⟨rfl, Below.refl _ _⟩
  have HS : Hid (∀ A c W, IntsA W A X → Calls Try.prog 26 #[.slice A X.length c] W fun e w' => e = .returned (.int .i64 (ssqV X)) ∧ Below W.heap.size W w') := fun A c W hA => spec_ssq A c X W hA hs
  have HI : Hid (∀ A c W, IntsA W A X → Calls Try.prog 27 #[.slice A X.length c] W fun e w' => e = .returned (.int .i64 (ssqV X)) ∧ Below W.heap.size W w') := fun A c W hA => impl_ssq A c X W hA hs
  have HT := Lib.hid (fun W hA => toI_any A c X W hA hs)
  have HA := Lib.hid hA
  have hs' : ¬ ((1048576 : Int) < (X.length : Int)) := by omega
  have HSZ := Lib.hid hs
  clear hA _hL hs
  generalize ssqV X = r0 at *
  go_enter Try.func7, Try.ntmps7
  go_wp2_with fail
  refine (HT.out _ HA.out).mono ?_
  rintro e w1 ⟨rfl, own1, b1⟩
  have p1 := intsA_of own1
  clear own1
  go_wp2_with fail
  refine (HS.out _ _ _ p1).mono ?_
  rintro e w2 ⟨rfl, hb2⟩
  have b2 := below_on b1 hb2
  clear hb2 b1 p1
  go_wp2_with fail
  refine (HT.out _ (HA.out.step b2)).mono ?_
  rintro e w3 ⟨rfl, own3, hb3⟩
  have b3 := below_on b2 hb3
  have p3 := intsA_of own3
  clear hb3 b2
  go_wp2_with fail
  refine (HI.out _ _ _ p3).mono ?_
  rintro e w4 ⟨rfl, hb4⟩
  have b4 := below_on b3 hb4
  replace own3 := own_below own3 hb4
  have p3 := intsA_of own3
  clear hb4 b3 own3
  go_wp2_with fail
  refine (HT.out _ (HA.out.step b4)).mono ?_
  rintro e w6 ⟨rfl, own6, hb6⟩
  have b6 := below_on b4 hb6
  replace p3 := intsA_on p3 hb6
  have p6 := intsA_of own6
  clear hb6 own6 b4
  go_wp2_with fail
  refine (eq_ints _ _ _ _ X w6 p3 p6 HSZ.out).mono ?_
  rintro e w7 ⟨rfl, hb7⟩
  have b7 := below_on b6 hb7
  clear hb7 p3 p6 b6
  go_wp2_with fail
  go_ret
  exact ⟨rfl, b7⟩
set_option maxRecDepth 100000 in
set_option maxHeartbeats 2000000 in
theorem ex_rf (A : Option Addr) (c : Nat) (X : List Int) (u : Int) (W : World) (hA : ArgI W A X) (_hL : X.length ≤ maxLen) :
    Calls Try.prog 5 #[.slice A X.length c, .int .i64 u] W fun e w' => e = .returned (.bool true) ∧ Below W.heap.size W w' := by
  by_cases hs : X.length ≤ 1048576
  case neg =>
    have hs' : ((1048576 : Int) < (X.length : Int)) := by omega
    clear hA hs
    unfold maxLen at _hL
    go_enter Try.func5, Try.ntmps5
    go_wp2_with fail
    go_ret
    exact ⟨rfl, Below.refl _ _⟩
  have HS : Hid (∀ A c W, IntsA W A X → Calls Try.prog 21 #[.slice A X.length c, .int .i64 u] W fun e w' => e = .returned (.tuple #[.int .i64 (rfV X u).1, .int .i64 (rfV X u).2.1, .bool (rfV X u).2.2]) ∧ Below W.heap.size W w') := fun A c W hA => spec_rf A c X u W hA hs
  have HI : Hid (∀ A c W, IntsA W A X → Calls Try.prog 23 #[.slice A X.length c, .int .i64 u] W fun e w' => e = .returned (.tuple #[.int .i64 (rfV X u).1, .int .i64 (rfV X u).2.1, .bool (rfV X u).2.2]) ∧ Below W.heap.size W w') := fun A c W hA => impl_rf A c X u W hA hs
  have HT := Lib.hid (fun W hA => toI_any A c X W hA hs)
  have HA := Lib.hid hA
  have hs' : ¬ ((1048576 : Int) < (X.length : Int)) := by omega
  have HSZ := Lib.hid hs
  clear hA _hL hs
  generalize (rfV X u).2.2 = r0 at *
  generalize (rfV X u).2.1 = r1 at *
  generalize (rfV X u).1 = r2 at *
  go_enter Try.func5, Try.ntmps5
  go_wp2_with fail
  refine (HT.out _ HA.out).mono ?_
  rintro e w1 ⟨rfl, own1, b1⟩
  have p1 := intsA_of own1
  clear own1
  go_wp2_with fail
  refine (HS.out _ _ _ p1).mono ?_
  rintro e w2 ⟨rfl, hb2⟩
  have b2 := below_on b1 hb2
  clear hb2 b1 p1
  go_wp2_with fail
  refine (HT.out _ (HA.out.step b2)).mono ?_
  rintro e w3 ⟨rfl, own3, hb3⟩
  have b3 := below_on b2 hb3
  have p3 := intsA_of own3
  clear hb3 b2
  go_wp2_with fail
  refine (HI.out _ _ _ p3).mono ?_
  rintro e w4 ⟨rfl, hb4⟩
  have b4 := below_on b3 hb4
  replace own3 := own_below own3 hb4
  have p3 := intsA_of own3
  clear hb4 b3 own3
  go_wp2_with fail
  refine (HT.out _ (HA.out.step b4)).mono ?_
  rintro e w6 ⟨rfl, own6, hb6⟩
  have b6 := below_on b4 hb6
  replace p3 := intsA_on p3 hb6
  have p6 := intsA_of own6
  clear hb6 own6 b4
  go_wp2_with fail
  refine (eq_ints _ _ _ _ X w6 p3 p6 HSZ.out).mono ?_
  rintro e w7 ⟨rfl, hb7⟩
  have b7 := below_on b6 hb7
  clear hb7 p3 p6 b6
  go_wp2_with fail
  go_ret
  exact ⟨rfl, b7⟩
end Go.Proofs.Ythoniopkeiifnaa
