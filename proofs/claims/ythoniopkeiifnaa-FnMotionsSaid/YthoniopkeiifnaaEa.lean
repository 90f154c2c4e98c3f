/-
  Walks and facts of this seat, part Ea (merged by a script of this repo out of smaller texts).
-/
import Derived.Test.YthoniopkeiifnaaDa
import Derived.Laws.Tables
import Derived.Laws.Rows
import Derived.Maps.OwnSet
import Derived.Maps.RangeWalk
import Derived.DeepKeys4
import Derived.WideKeyEntry
import Derived.Deep.DeepCutAuto
/-! MotI -/
namespace Go.Proofs.Ythoniopkeiifnaa
open Go.RowKit

def motF (m : Nat) : FuncId :=
  match m with
  | 0 => 135
  | 1 => 136
  | 2 => 137
  | 3 => 138
  | 4 => 139
  | 5 => 140
  | 6 => 141
  | _ => 142
def motC (m : Nat) : Value := .func (.func (motF m)) #[] #[]
def motA : Array Value := #[motC 0, motC 1, motC 2, motC 3, motC 4, motC 5, motC 6, motC 7]

set_option maxRecDepth 100000 in
set_option maxHeartbeats 1000000 in
theorem motF_any (x y : Int) (m : Nat) (w : World) (hm : m < 8) (h : -1000 ≤ x ∧ x ≤ 1000 ∧ -1000 ≤ y ∧ y ≤ 1000) :
    Calls Try.prog (motF m) #[(.agg #[.int .i64 x, .int .i64 y])] w fun e w' => e = .returned (.agg #[.int .i64 (mot m (x, y)).1, .int .i64 (mot m (x, y)).2]) ∧ Below w.heap.size w w' := by
  have h1 : wrap64 (-x) = -x := IntWalk.wrap64_in _ (by omega)
  have h2 : wrap64 (-y) = -y := IntWalk.wrap64_in _ (by omega)
  match m, hm with
  | 0, _ =>
    go_enter Try.func135, Try.ntmps135
    go_wp2_with fail
    go_returns
    exact ⟨rfl, below2 _ _ _⟩
  | 1, _ =>
    go_enter Try.func136, Try.ntmps136
    go_wp2_with fail
    go_returns
    exact ⟨rfl, below2 _ _ _⟩
  | 2, _ =>
    go_enter Try.func137, Try.ntmps137
    go_wp2_with fail
    go_returns
    exact ⟨rfl, below2 _ _ _⟩
  | 3, _ =>
    go_enter Try.func138, Try.ntmps138
    go_wp2_with fail
    go_returns
    exact ⟨rfl, below2 _ _ _⟩
  | 4, _ =>
    go_enter Try.func139, Try.ntmps139
    go_wp2_with fail
    go_returns
    exact ⟨rfl, below2 _ _ _⟩
  | 5, _ =>
    go_enter Try.func140, Try.ntmps140
    go_wp2_with fail
    go_returns
    exact ⟨rfl, below2 _ _ _⟩
  | 6, _ =>
    go_enter Try.func141, Try.ntmps141
    go_wp2_with fail
    go_returns
    exact ⟨rfl, below2 _ _ _⟩
  | 7, _ =>
    go_enter Try.func142, Try.ntmps142
    go_wp2_with fail
    go_returns
    exact ⟨rfl, below2 _ _ _⟩
  | k + 8, h => omega
theorem below_rowM {B : Nat} {a w : World} (h : Below B a w) {g : Nat} (hg : B ≤ g) (cs : Array Value) : Below B a (w.setRow g cs) := by
  exact h.trans ⟨rfl, rfl, rfl, by simp, fun k hk => setRow_other w g k cs (by omega)⟩
theorem motions_any (w : World) : Calls Try.prog 90 #[] w fun e w' => e = .returned (.agg motA) ∧ Below w.heap.size w w' := by
  go_enter Try.func90, Try.ntmps90
  go_wp2_with (refine wpList_store_row rfl 83 _ _ rfl w.heap.size motA rfl rfl 83 _ (heap_alloc_new w _) (by kernel_rfl) rfl (by kernel_rfl) ?_)
  refine bodyPost_ret (v := .agg motA) (results_cell_row rfl _ _ w.heap.size 83 motA (0, 0) _ rfl (setRow_heap _ _ _ motA 83 _ (heap_alloc_new w _)) Try.underlying83 rfl (by kernel_rfl)) rfl ⟨rfl, ?_⟩
  exact below_rowM (below1 w _) (Nat.le_refl _) _
theorem isMotion_any (m : Int) (w : World) : Calls Try.prog 89 #[.int .i64 m] w fun e w' => e = .returned (.bool (inB m 0 7)) ∧ w' = w := by
  go_enter Try.func89, Try.ntmps89
  go_wp2_with fail
  refine (from_any _ _ _ _).mono ?_
  rintro e w1 ⟨rfl, rfl⟩
  go_wp2_with fail
  go_ret
  exact ⟨rfl, rfl⟩
theorem enter_mot (m : Nat) (hm : m < 8) (x : Value) (w : World) : Sem.run Try.prog (callFunc (motF m) #[x]) w = .ok (.enter (motF m) #[x]) w := by
  match m, hm with
  | 0, _ => simp [go_sem, motF]
  | 1, _ => simp [go_sem, motF]
  | 2, _ => simp [go_sem, motF]
  | 3, _ => simp [go_sem, motF]
  | 4, _ => simp [go_sem, motF]
  | 5, _ => simp [go_sem, motF]
  | 6, _ => simp [go_sem, motF]
  | 7, _ => simp [go_sem, motF]
  | k + 8, h => omega
theorem idx_mot (m : Nat) (hm : m < 8) (w : World) : (Instr.index 83 (.agg motA) (.int .i64 (m : Int))).run Try.prog w = .ok (motC m) w := by
  match m, hm with
  | 0, _ => simp [go_sem, Instr.index, motA]
  | 1, _ => simp [go_sem, Instr.index, motA]
  | 2, _ => simp [go_sem, Instr.index, motA]
  | 3, _ => simp [go_sem, Instr.index, motA]
  | 4, _ => simp [go_sem, Instr.index, motA]
  | 5, _ => simp [go_sem, Instr.index, motA]
  | 6, _ => simp [go_sem, Instr.index, motA]
  | 7, _ => simp [go_sem, Instr.index, motA]
  | k + 8, h => omega
end Go.Proofs.Ythoniopkeiifnaa

/-! MotC -/
namespace Go.Proofs.Ythoniopkeiifnaa
open Go.RowKit

/-- The motion that does the same as a and then b, told by where it leads (1, 2). -/
def hitB (a b m : Nat) : Bool := eqQ (mot m (1, 2)) (mot b (mot a (1, 2)))
def compN (a b : Nat) : Nat := (List.range 8).findIdx (hitB a b)
theorem compN_spec : ∀ a, a < 8 → ∀ b, b < 8 → compN a b < 8 ∧ ∀ k, k < 8 → (hitB a b k = decide (k = compN a b)) := by decide +kernel
def compV (a b : Int) : Int := bif inB a 0 7 && inB b 0 7 then (compN a.toNat b.toNat : Int) else -1
/-- The first motion that undoes m. -/
def invV (m : Int) : Int := match (List.range 8).find? (fun k => compV m (k : Nat) == 0) with
  | some k => (k : Int)
  | none => -1
theorem find_first {p : Nat → Bool} {n k : Nat} (hk : k < n) (hn : ∀ j, j < k → p j = false) (h : p k = true) : (List.range n).find? p = some k := by
  rw [List.find?_range_eq_some]
  exact ⟨h, by simpa using hk, fun j hj => by simp [hn j hj]⟩
theorem invV_spec (m : Int) : (∀ j, j < 8 → (∀ k, k < j → (compV m (k : Nat) == 0) = false) → (compV m (j : Nat) == 0) = true → invV m = j) ∧ ((∀ k, k < 8 → (compV m (k : Nat) == 0) = false) → invV m = -1) := by
  constructor
  · intro j hj hn h
    unfold invV
    rw [find_first hj hn h]
  · intro hn
    unfold invV
    have : (List.range 8).find? (fun k => compV m (k : Nat) == 0) = none := by
      rw [List.find?_eq_none]
      intro k hk
      rw [hn k (List.mem_range.1 hk)]; simp
    rw [this]
theorem mot_one {a : Nat} (ha : a < 8) : -2 ≤ (mot a (1, 2)).1 ∧ (mot a (1, 2)).1 ≤ 2 ∧ -2 ≤ (mot a (1, 2)).2 ∧ (mot a (1, 2)).2 ≤ 2 := mot_bd (B := 2) ha (by simp)

end Go.Proofs.Ythoniopkeiifnaa

/-! MotD -/
namespace Go.Proofs.Ythoniopkeiifnaa
open Go.RowKit
attribute [local go_sem] quietB uponB

theorem allocPt (w : World) : (Instr.alloc 45 true (.tuple #[])).run Try.prog w = .ok (ptrV w.heap.size) (w.alloc (.cells #[.int .i64 0, .int .i64 0] 45)) := by
  simp [go_sem, Instr.alloc]
/-- Block g holds the table of motions. -/
def Table (w : World) (g : Nat) : Prop := w.heap[g]? = some (.cells motA 83 (0, 0))
theorem Table.lt {w : World} {g : Nat} (h : Table w g) : g < w.heap.size := (Array.getElem?_eq_some_iff.1 h).1
theorem Table.step {w w' : World} {g : Nat} (h : Table w g) (hb : Below w.heap.size w w') : Table w' g := (hb.block g h.lt).trans h
theorem Table.set {w : World} {g b : Nat} (h : Table w g) (hne : g ≠ b) (o : Nat) (v : Value) : Table (w.setCell ⟨b, o, none⟩ v) g := (Below.heap_setCell w ⟨b, o, none⟩ v g hne).trans h
theorem Table.at {w : World} {g : Nat} (h : Table w g) {m : Nat} (hm : m < 8) : w.cell? ⟨g, m, none⟩ = some (.func (.func (motF m)) #[] #[]) := by
  refine cell_of_row w g m _ _ _ h |>.trans ?_
  match m, hm with
  | 0, _ => rfl
  | 1, _ => rfl
  | 2, _ => rfl
  | 3, _ => rfl
  | 4, _ => rfl
  | 5, _ => rfl
  | 6, _ => rfl
  | 7, _ => rfl
  | k + 8, h => omega

set_option maxRecDepth 100000 in
set_option maxHeartbeats 1000000 in
theorem hit_any (F : FuncId) (ux uy qx qy : Int) (g5 g7 : Nat) (w : World) (h5 : At w g5 1 2 45) (h7 : At w g7 qx qy 45)
    (HE : ∀ x w, Sem.run Try.prog (callFunc F #[x]) w = .ok (.enter F #[x]) w)
    (HF : Hid (∀ w, Calls Try.prog F #[.agg #[.int .i64 1, .int .i64 2]] w fun e w' => e = .returned (.agg #[.int .i64 ux, .int .i64 uy]) ∧ Below w.heap.size w w')) :
    Calls Try.prog 92 #[.func (.func F) #[] #[], .pointer (some ⟨g5, 0, none⟩), .pointer (some ⟨g7, 0, none⟩)] w fun e w' => e = .returned (.bool (ux == qx && uy == qy)) ∧ Below w.heap.size w w' := by
  have GP := guard_pt
  have EP := fun w x y x' y' => eql_pt w x y x' y'
  have c1 := h5.c0; have c2 := h5.c1; have c3 := h7.c0; have c4 := h7.c1
  have k1 := cell_regrown c1; have k2 := cell_regrown c2; have k3 := cell_regrown c3; have k4 := cell_regrown c4
  clear h5 h7
  go_enter Try.func92, Try.ntmps92
  go_wp2_with fail
  refine wp_region_quiet_below (by kernel_rfl) (by kernel_rfl) ?_
  repeat (first
    | go_big_quiet_step (first | exact Calls.regrown_of (HF.out _))
    | quiet_step (first | exact Calls.regrown_of (HF.out _)))
  refine wpQuiet_nil ?_
  rintro _ ⟨⟨dq, osq⟩, rfl⟩
  have b5 := below_regrown w dq osq
  clear k1 k2 k3 k4 c1 c2 c3 c4
  go_wp2_with fail
  go_ret
  exact ⟨rfl, b5⟩

set_option maxRecDepth 100000 in
set_option maxHeartbeats 1000000 in
theorem indexFn_any (m k C : Nat) (g g5 g7 : Nat) (qx qy : Int) (w : World) (hT : Table w g) (h5 : At w g5 1 2 45) (h7 : At w g7 qx qy 45) (hC8 : C < 8)
    (HC : Hid (∀ j, j < 8 → hitB m k j = decide (j = C))) (HQ : Hid (∀ j, hitB m k j = ((mot j (1, 2)).1 == qx && (mot j (1, 2)).2 == qy))) :
    Calls Try.prog 91 #[.slice (some ⟨g, 0, none⟩) 8 8, .func (.func 92) #[] #[.pointer (some ⟨g5, 0, none⟩), .pointer (some ⟨g7, 0, none⟩)]] w fun e w' => e = .returned (.int .i64 (C : Int)) ∧ Below w.heap.size w w' := by
  have HT := Lib.hid hT
  have H5 := Lib.hid h5
  have H7 := Lib.hid h7
  clear hT h5 h7
  go_enter Try.func91, Try.ntmps91
  go_wp2_with fail
  go_loopw [5, 8] (fun _ i wr => ∃ j : Nat, j ≤ C ∧ i = .int .i64 j ∧ Below w.heap.size w wr) (fun _ i _ => 8 - (intOf i).toNat)
  case atStart => exact ⟨0, Nat.zero_le _, rfl, Below.refl _ _⟩
  case round =>
    obtain ⟨j, hjC, rfl, b4⟩ := hrel
    have hj8 : j < 8 := by omega
    have cf := (HT.out.step b4).at hj8
    have a5 := H5.out.step b4
    have a7 := H7.out.step b4
    have HF : Hid (∀ w, Calls Try.prog (motF j) #[.agg #[.int .i64 1, .int .i64 2]] w fun e w' => e = .returned (.agg #[.int .i64 (mot j (1, 2)).1, .int .i64 (mot j (1, 2)).2]) ∧ Below w.heap.size w w') := fun w => motF_any 1 2 j w hj8 (by omega)
    have HE : ∀ x w, Sem.run Try.prog (callFunc (motF j) #[x]) w = .ok (.enter (motF j) #[x]) w := fun x w => enter_mot j hj8 x w
    have HJ : Hid (((mot j (1, 2)).1 == qx && (mot j (1, 2)).2 == qy) = decide (j = C)) := by
      show _ = _
      rw [← HQ.out j, HC.out j hj8]
    generalize (mot j (1, 2)).1 = ux at *
    generalize (mot j (1, 2)).2 = uy at *
    generalize motF j = F at *
    have HH := Lib.hid (hit_any F ux uy qx qy g5 g7 wr a5 a7 HE HF)
    rw [HJ.out] at HH
    clear a5 a7 HE
    by_cases hc : j = C
    · have hE : decide (j = C) = true := decide_eq_true hc
      have HR : Hid ((j : Int) = C) := by
        show _ = _
        rw [hc]
      rw [hE] at HH
      clear hc hjC hE
      go_wp2_with fail
      refine HH.out.mono ?_
      rintro e w1 ⟨rfl, hb1⟩
      have b5 := below_on b4 hb1
      clear hb1 b4
      go_wp2_with fail
      go_ret
      exact ⟨ret_int HR.out, b5⟩
    · have hE : decide (j = C) = false := decide_eq_false hc
      rw [hE] at HH
      clear hE
      go_wp2_with fail
      refine HH.out.mono ?_
      rintro e w1 ⟨rfl, hb1⟩
      have b5 := below_on b4 hb1
      clear hb1 b4
      go_wp2_with fail
      go_roundw
      case rel => exact ⟨j + 1, by omega, by go_num, b5⟩
      case measure => simp [intOf]; omega

set_option maxRecDepth 100000 in
set_option maxHeartbeats 1000000 in
theorem impl_comp (a b : Int) (w : World) : Calls Try.prog 42 #[.int .i64 a, .int .i64 b] w fun e w' => e = .returned (.int .i64 (compV a b)) ∧ Below w.heap.size w w' := by
  have HV : Hid (compV a b = bif inB a 0 7 && inB b 0 7 then (compN a.toNat b.toNat : Int) else -1) := rfl
  cases ha : inB a 0 7
  · go_enter Try.func42, Try.ntmps42
    go_wp2_with fail
    refine (isMotion_any _ _).mono ?_
    rintro e w1 ⟨rfl, rfl⟩
    go_wp2_with fail
    go_ret
    exact ⟨ret_int (by rw [HV.out, ha]; rfl), Below.refl _ _⟩
  cases hb : inB b 0 7
  · go_enter Try.func42, Try.ntmps42
    go_wp2_with fail
    refine (isMotion_any _ _).mono ?_
    rintro e w1 ⟨rfl, rfl⟩
    go_wp2_with fail
    refine (isMotion_any _ _).mono ?_
    rintro e w1 ⟨rfl, rfl⟩
    go_wp2_with fail
    go_ret
    exact ⟨ret_int (by rw [HV.out, ha, hb]; rfl), Below.refl _ _⟩
  have h1 := inB_spec.1 ha
  have h2 := inB_spec.1 hb
  obtain ⟨m, rfl⟩ : ∃ m : Nat, a = m := ⟨a.toNat, by omega⟩
  obtain ⟨k, rfl⟩ : ∃ k : Nat, b = k := ⟨b.toNat, by omega⟩
  have hm : m < 8 := by omega
  have hk : k < 8 := by omega
  have HC := Lib.hid (compN_spec m hm k hk)
  have HV2 : Hid (compV m k = (compN m k : Int)) := by
    show _ = _
    rw [HV.out, ha, hb]; simp
  obtain ⟨C, hC⟩ : ∃ C, C = compN m k := ⟨_, rfl⟩
  rw [← hC] at HC HV2
  clear hC HV
  have HC8 := Lib.hid HC.out.1
  have HH := Lib.hid HC.out.2
  clear HC
  have q1 := mot_one hm
  have HQ : Hid (∀ j, hitB m k j = ((mot j (1, 2)).1 == (mot k (mot m (1, 2))).1 && (mot j (1, 2)).2 == (mot k (mot m (1, 2))).2)) := fun _ => rfl
  have E1 : ∀ x w, Sem.run Try.prog (callFunc (motF m) #[x]) w = .ok (.enter (motF m) #[x]) w := fun x w => enter_mot m hm x w
  have E2 : ∀ x w, Sem.run Try.prog (callFunc (motF k) #[x]) w = .ok (.enter (motF k) #[x]) w := fun x w => enter_mot k hk x w
  have A1 := Lib.hid (fun w => motF_any 1 2 m w hm (by omega))
  have A2 := Lib.hid (fun w => motF_any (mot m (1, 2)).1 (mot m (1, 2)).2 k w hk (by omega))
  have HT : Hid (∀ W g, Table W g → W.cell? ⟨g, m, none⟩ = some (.func (.func (motF m)) #[] #[]) ∧ W.cell? ⟨g, k, none⟩ = some (.func (.func (motF k)) #[] #[])) := fun W g h => ⟨h.at hm, h.at hk⟩
  have HI := Lib.hid (fun g g5 g7 qx qy w hT h5 h7 => indexFn_any m k C g g5 g7 qx qy w hT h5 h7 HC8.out HH)
  generalize motF m = F1 at *
  generalize motF k = F2 at *
  generalize mot m (1, 2) = p at *
  have HP : Hid ((p.1, p.2) = p) := rfl
  rw [HP.out] at A2
  generalize mot k p = q at *
  generalize p.1 = px at *
  generalize p.2 = py at *
  generalize q.1 = qx at *
  generalize q.2 = qy at *
  clear HP p q q1 HH HC8
  have g1 : (0 : Int) ≤ (m : Int) := by omega
  have g2 : (m : Int) < 8 := by omega
  have g3 : (0 : Int) ≤ (k : Int) := by omega
  have g4 : (k : Int) < 8 := by omega
  go_enter Try.func42, Try.ntmps42
  go_wp2_with fail
  refine (isMotion_any _ _).mono ?_
  rintro e w1 ⟨rfl, rfl⟩
  rw [ha]
  go_wp2_with fail
  refine (isMotion_any _ _).mono ?_
  rintro e w1 ⟨rfl, rfl⟩
  rw [hb]
  clear ha hb h1 h2
  go_wp2_with fail
  refine (motions_any _).mono ?_
  rintro e w2 ⟨rfl, hb2⟩
  have a1 := (at_new w1 1 2 45).step hb2
  have b2 := below_on (below1 w1 _) hb2
  clear hb2
  go_wp2_with (refine wpList_store_row rfl 83 _ _ rfl w2.heap.size motA rfl rfl 83 _ (heap_alloc_new w2 _) (by kernel_rfl) rfl (by kernel_rfl) ?_)
  have hT := setRow_heap _ _ _ motA 83 _ (heap_alloc_new w2 (.cells #[.nilFunc, .nilFunc, .nilFunc, .nilFunc, .nilFunc, .nilFunc, .nilFunc, .nilFunc] 83))
  have bA := below_rowM (below1 w2 (.cells #[.nilFunc, .nilFunc, .nilFunc, .nilFunc, .nilFunc, .nilFunc, .nilFunc, .nilFunc] 83)) (Nat.le_refl _) motA
  generalize (w2.alloc (.cells #[.nilFunc, .nilFunc, .nilFunc, .nilFunc, .nilFunc, .nilFunc, .nilFunc, .nilFunc] 83)).setRow w2.heap.size motA = W at *
  have aS := a1.step bA
  have bW := below_on b2 bA
  obtain ⟨t1, t2⟩ := HT.out W w2.heap.size hT
  have c1 := aS.c0; have c2 := aS.c1
  have bS : Below W.heap.size W W.drew := (Below.refl _ _).drew
  clear a1 b2 bA
  have k1 := cell_regrown t1; have k2 := cell_regrown t2; have k3 := cell_regrown c1; have k4 := cell_regrown c2
  refine region_float1 9 (.cells #[.int .i64 0, .int .i64 0] 45) 7 (by kernel_rfl) (by kernel_rfl) (by kernel_rfl) (alloc_run (by kernel_rfl) allocPt) ?_
  simp only [List.take_succ_cons, List.take_zero, List.drop_succ_cons, List.drop_zero]
  repeat (
    refine wpQuietB_step (fun K hK => ?_)
    go_simp
    first
      | (refine hK _ ?_; clear hK K)
      | (apply Exists.intro
         refine ⟨fun _ => ?_, hK _ ?_⟩
         ((first | exact Calls.now (A1.out _) | exact Calls.now (A2.out _)))
         clear hK K))
  refine wpQuietB_nil ?_
  intro g w5 hb5 hg hob
  have l1 := aS.lt
  have l2 := Table.lt hT
  have a5 := aS.step hb5
  have T5 := Table.step hT hb5
  have ag : At w5 g 0 0 45 := hob
  have b5 := below_on bW hb5
  have hwg : w1.heap.size ≤ g := by omega
  have v1 := ag.c0; have v2 := ag.c1
  have f1 := at_frozen ag 0; have f2 := at_frozen ag 1
  have v3 := (at_store ag qx 0).c1
  have a7 := at_store1 (at_store ag qx 0) qy
  have a6 := at_set (at_set a5 (b := g) (by omega) 0 (.int .i64 qx)) (b := g) (by omega) 1 (.int .i64 qy)
  have T6 := Table.set (Table.set T5 (b := g) (by omega) 0 (.int .i64 qx)) (b := g) (by omega) 1 (.int .i64 qy)
  have b6 := (b5.setCell (p := ⟨g, 0, none⟩) hwg (.int .i64 qx)).setCell (p := ⟨g, 1, none⟩) hwg (.int .i64 qy)
  clear k1 k2 k3 k4 c1 c2 t1 t2 hob ag a5 T5 aS hT hb5 b5 l1 l2 hg hwg bS bW A1 A2 E1 E2 HT
  have HX := Lib.hid (HI.out w2.heap.size w1.heap.size g qx qy _ T6 a6 a7 HQ)
  clear T6 a6 a7
  go_wp2_with fail
  refine HX.out.mono ?_
  rintro e w7 ⟨rfl, hb7⟩
  have b7 := below_on b6 hb7
  clear hb7 b6 v1 v2 v3 f1 f2
  go_wp2_with fail
  go_ret
  exact ⟨ret_int HV2.out.symm, b7⟩

set_option maxRecDepth 100000 in
set_option maxHeartbeats 1000000 in
theorem impl_inv (m : Int) (w : World) : Calls Try.prog 43 #[.int .i64 m] w fun e w' => e = .returned (.int .i64 (invV m)) ∧ Below w.heap.size w w' := by
  have HC := Lib.hid (fun b w => impl_comp m b w)
  have HI := Lib.hid (invV_spec m)
  go_enter Try.func43, Try.ntmps43
  go_wp2_with fail
  go_loopw [3, 4] (fun _ i wr => ∃ j : Nat, j ≤ 8 ∧ i = .int .i64 j ∧ Hid (∀ k, k < j → (compV m (k : Nat) == 0) = false) ∧ Below w.heap.size w wr) (fun _ i _ => 8 - (intOf i).toNat)
  case atStart => exact ⟨0, by omega, rfl, fun k hk => by omega, Below.refl _ _⟩
  case round =>
    obtain ⟨j, hj8, rfl, HN, b0⟩ := hrel
    by_cases hlt : j < 8
    · have HV := Lib.hid (HI.out.1 j hlt HN.out)
      cases hc : (compV m (j : Nat) == 0)
      · have HN2 : Hid (∀ k, k < j + 1 → (compV m (k : Nat) == 0) = false) := fun k hk => by
          rcases Nat.lt_or_ge k j with h1 | h1
          · exact HN.out k h1
          · obtain rfl : k = j := by omega
            exact hc
        go_wp2_with fail
        refine (HC.out _ _).mono ?_
        rintro e w1 ⟨rfl, hb1⟩
        have b1 := below_on b0 hb1
        clear hb1 b0
        go_wp2_with fail
        go_roundw
        case rel => exact ⟨j + 1, by omega, by go_num, HN2, b1⟩
        case measure => simp [intOf]; omega
      · go_wp2_with fail
        refine (HC.out _ _).mono ?_
        rintro e w1 ⟨rfl, hb1⟩
        have b1 := below_on b0 hb1
        clear hb1 b0
        go_wp2_with fail
        go_ret
        exact ⟨ret_int (HV.out hc).symm, b1⟩
    · have HV := Lib.hid (HI.out.2 (fun k hk => HN.out k (by omega)))
      go_wp2_with fail
      go_ret
      exact ⟨ret_int HV.out.symm, b0⟩
end Go.Proofs.Ythoniopkeiifnaa

/-! MoveI -/
namespace Go.Proofs.Ythoniopkeiifnaa
open Go.RowKit
attribute [local go_sem] quietB uponB

set_option maxRecDepth 100000 in
set_option maxHeartbeats 4000000 in
theorem impl_move (A : Option Addr) (c : Nat) (L : List Pt) (m : Int) (w : World) (hA : PtsA w A L) (hL : L.length ≤ 1048576) :
    Calls Try.prog 45 #[.slice A L.length c, .int .i64 m] w (Lists w (moveV L m)) := by
  have PC := Lib.hid (impl_box A c L w hA hL)
  have HV : Hid (moveV L m = bif polyB L && inB m 0 7 then moveL L m.toNat else []) := rfl
  cases hp : polyB L
  · have HR : Hid (boxR L = .tuple #[.agg #[.int .i64 0, .int .i64 0], .agg #[.int .i64 0, .int .i64 0], .bool false]) := by
      show _ = _
      rw [boxR, hp]; rfl
    rw [HR.out] at PC
    have HE : Hid (moveV L m = []) := by
      show _ = _
      rw [HV.out, hp]; rfl
    rw [HE.out]
    clear hA
    go_enter Try.func45, Try.ntmps45
    go_wp2_with fail
    refine PC.out.mono ?_
    rintro e w1 ⟨rfl, hb1⟩
    go_wp2_with fail
    go_ret
    exact ⟨_, rfl, World.ownsRow_nil _ _ _ _, below_on hb1 (below2 w1 _ _)⟩
  obtain ⟨h3, h10, hok⟩ := polyB_all hp
  obtain ⟨lo, hlo⟩ : ∃ lo, lo = (boxTill L L.length).1 := ⟨_, rfl⟩
  obtain ⟨hi, hhi⟩ : ∃ hi, hi = (boxTill L L.length).2 := ⟨_, rfl⟩
  have HR : Hid (boxR L = .tuple #[.agg #[.int .i64 lo.1, .int .i64 lo.2], .agg #[.int .i64 hi.1, .int .i64 hi.2], .bool true]) := by
    show _ = _
    rw [boxR, hp, hlo, hhi]; rfl
  rw [HR.out] at PC
  cases hm : inB m 0 7
  · have HE : Hid (moveV L m = []) := by
      show _ = _
      rw [HV.out, hm, Bool.and_false]; rfl
    rw [HE.out]
    clear hA
    go_enter Try.func45, Try.ntmps45
    go_wp2_with fail
    refine PC.out.mono ?_
    rintro e w1 ⟨rfl, hb1⟩
    go_wp2_with fail
    refine (isMotion_any _ _).mono ?_
    rintro e w2 ⟨rfl, rfl⟩
    go_wp2_with fail
    go_ret
    exact ⟨_, rfl, World.ownsRow_nil _ _ _ _, below_on hb1 (below2 w1 _ _)⟩
  have h1 := inB_spec.1 hm
  obtain ⟨k, rfl⟩ : ∃ k : Nat, m = k := ⟨m.toNat, by omega⟩
  have hk8 : k < 8 := by omega
  have HE : Hid (moveV L k = moveL L k) := by
    show _ = _
    rw [HV.out, hp, hm]; simp
  rw [HE.out]
  clear HV HE HR
  -- the bounds of what is moved
  have hlow := low_mot hk8 (L := L) (by omega)
  rw [← hlo, ← hhi] at hlow
  have bl : -40 ≤ lo.1 ∧ lo.1 ≤ 40 ∧ -40 ≤ lo.2 ∧ lo.2 ≤ 40 := by
    obtain ⟨⟨i, hi, e1⟩, ⟨j, hj, e2⟩⟩ := box_at (L := L) L.length (Nat.le_refl _) (by omega)
    rw [← hlo] at e1 e2
    have := okP_bounds (all_at hok hi)
    have := okP_bounds (all_at hok hj)
    omega
  have bh : -40 ≤ hi.1 ∧ hi.1 ≤ 40 ∧ -40 ≤ hi.2 ∧ hi.2 ≤ 40 := by
    have h := box_le (L := L) L.length (Nat.le_refl _) 0 (.inr rfl)
    have hu := box_hi (L := L) hok L.length (Nat.le_refl _) (by omega)
    rw [← hhi] at h hu
    have := okP_bounds (all_at hok (show 0 < L.length by omega))
    omega
  clear hlo hhi
  have HF : ∀ x w, Sem.run Try.prog (callFunc (motF k) #[x]) w = .ok (.enter (motF k) #[x]) w := fun x w => enter_mot k hk8 x w
  have M1 := Lib.hid (fun w => motF_any lo.1 lo.2 k w hk8 (by omega))
  have M2 := Lib.hid (fun w => motF_any hi.1 hi.2 k w hk8 (by omega))
  have e1 : ((lo.1, lo.2) : Pt) = lo := rfl
  have e2 : ((hi.1, hi.2) : Pt) = hi := rfl
  rw [e1] at M1
  rw [e2] at M2
  have HAP := Lib.hid (fun (i : Nat) (h : i < L.length) (w : World) => motF_any (gt L i).1 (gt L i).2 k w hk8 (by have := okP_bounds (all_at hok h); omega))
  have HBD := Lib.hid (bd_mot hok hk8)
  have HMV : Hid (moveL L k = (L.map (mot k)).map (dn (minI (mot k lo).1 (mot k hi).1, minI (mot k lo).2 (mot k hi).2))) := by
    show _ = _
    rw [← hlow]; rfl
  have HLB : Hid (-40 ≤ minI (mot k lo).1 (mot k hi).1 ∧ minI (mot k lo).1 (mot k hi).1 ≤ 40 ∧ -40 ≤ minI (mot k lo).2 (mot k hi).2 ∧ minI (mot k lo).2 (mot k hi).2 ≤ 40) := by
    have := mot_bd hk8 bl
    have := mot_bd hk8 bh
    simp only [minI_eq]
    exact ⟨by omega, by omega, by omega, by omega⟩
  have HIX : ∀ w, (Instr.index 83 (.agg motA) (.int .i64 (k : Int))).run Try.prog w = .ok (.func (.func (motF k)) #[] #[]) w := fun w => idx_mot k hk8 w
  clear hlow bl bh e1 e2
  generalize motF k = F at *
  generalize mot k lo = p at *
  generalize mot k hi = q at *
  generalize lo.1 = lx at *
  generalize lo.2 = ly at *
  generalize hi.1 = hx at *
  generalize hi.2 = hy at *
  generalize p.1 = px at *
  generalize p.2 = py at *
  generalize q.1 = qx at *
  generalize q.2 = qy at *
  clear p q lo hi
  have hmin : ∀ (w : World) (x y : Int) (ts : Array TypeId) (t : TypeId), (Builtin.min_ ts t #[.int .i64 x, .int .i64 y]).run Try.prog w = .ok (.int .i64 (minI x y)) w := run_minI
  obtain ⟨g, rfl, -⟩ := hA 0 (by omega)
  have HA := Lib.hid hA
  have hn1 : (0 : Int) < (L.length : Int) := by omega
  have HH := Lib.hid (And.intro h3 h10)
  clear hA hok h3 h10 hp h1 hL
  go_enter Try.func45, Try.ntmps45
  go_wp2_with fail
  refine PC.out.mono ?_
  rintro e w1 ⟨rfl, hb1⟩
  clear PC
  go_wp2_with fail
  refine (isMotion_any _ _).mono ?_
  rintro e w2 ⟨rfl, rfl⟩
  rw [hm]
  go_wp2_with fail
  refine (motions_any _).mono ?_
  rintro e w3 ⟨rfl, hb3⟩
  go_wp2_with fail
  have t3 := (two0 w1 lx ly hx hy 45).step hb3
  have b3 := below_on (below_on hb1 (below2 w1 _ _)) hb3
  have c1 := t3.1.c0; have c2 := t3.1.c1; have c3 := t3.2.c0; have c4 := t3.2.c1
  have k1 := cell_regrown c1; have k2 := cell_regrown c2; have k3 := cell_regrown c3; have k4 := cell_regrown c4
  clear hb1 hb3 t3
  refine region_float2 6 (.cells #[.int .i64 0, .int .i64 0] 45) 9 10 (by kernel_rfl) (by kernel_rfl) (by kernel_rfl) (by kernel_rfl) (fun i o h1 h2 => by rcases (show i = 6 ∨ i = 7 by omega) with rfl | rfl <;> exact alloc_run (by kernel_rfl) allocPt o) ?_
  simp only [List.take_succ_cons, List.take_zero, List.drop_succ_cons, List.drop_zero]
  repeat (
    refine wpQuietB_step (fun K hK => ?_)
    go_simp
    first
      | (refine hK _ ?_; clear hK K)
      | (apply Exists.intro
         refine ⟨fun _ => ?_, hK _ ?_⟩
         ((first | exact Calls.now (M1.out _) | exact Calls.now (M2.out _)))
         clear hK K))
  refine wpQuietB_nil ?_
  intro g1 g2 w5 hb5 hg1 hg2 hne ho1 ho2
  clear k1 k2 k3 k4 c1 c2 c3 c4 M1 M2
  have b5 := below_on b3 hb5
  have ag1 : At w5 g1 0 0 45 := ho1
  have ag2 : At w5 g2 0 0 45 := ho2
  have hs3 := b3.size
  have hwg1 : w.heap.size ≤ g1 := by omega
  have hwg2 : w.heap.size ≤ g2 := by omega
  have v1 := ag1.c0; have v2 := ag1.c1; have f1 := at_frozen ag1 0; have f2 := at_frozen ag1 1
  have v3 := (at_store ag1 px 0).c1
  have s1 := at_store1 (at_store ag1 px 0) py
  have s2 := at_set (at_set ag2 (b := g1) (Ne.symm hne) 0 (.int .i64 px)) (b := g1) (Ne.symm hne) 1 (.int .i64 py)
  have v4 := s2.c0; have v5 := s2.c1; have f3 := at_frozen s2 0; have f4 := at_frozen s2 1
  have v6 := (at_store s2 qx 0).c1
  have s3 := at_store1 (at_store s2 qx 0) qy
  have s4 := at_set (at_set s1 (b := g2) hne 0 (.int .i64 qx)) (b := g2) hne 1 (.int .i64 qy)
  have v7 := s3.c0; have v8 := s3.c1; have v9 := s4.c0; have v10 := s4.c1
  have b6 := (((b5.setCell (p := ⟨g1, 0, none⟩) hwg1 (.int .i64 px)).setCell (p := ⟨g1, 1, none⟩) hwg1 (.int .i64 py)).setCell (p := ⟨g2, 0, none⟩) hwg2 (.int .i64 qx)).setCell (p := ⟨g2, 1, none⟩) hwg2 (.int .i64 qy)
  clear ag1 ag2 s1 s2 s3 s4 b5 hb5 b3 ho1 ho2 hs3 hg1 hg2
  go_wp2_with fail
  clear v1 v2 v3 v4 v5 v6 v7 v8 v9 v10 f1 f2 f3 f4 hwg1 hwg2 hne
  have e5 : ((((w5.setCell ⟨g1, 0, none⟩ (.int .i64 px)).setCell ⟨g1, 1, none⟩ (.int .i64 py)).setCell ⟨g2, 0, none⟩ (.int .i64 qx)).setCell ⟨g2, 1, none⟩ (.int .i64 qy)).heap.size = w5.heap.size := by simp
  generalize (((w5.setCell ⟨g1, 0, none⟩ (.int .i64 px)).setCell ⟨g1, 1, none⟩ (.int .i64 py)).setCell ⟨g2, 0, none⟩ (.int .i64 qx)).setCell ⟨g2, 1, none⟩ (.int .i64 qy) = w6 at *
  generalize minI px qx = ux at *
  generalize minI py qy = uy at *
  have aU := at_new w6 ux uy 45
  have hs6 := b6.size
  rw [e5] at aU
  have b7 := b6.alloc hs6 (.cells #[.int .i64 ux, .int .i64 uy] 45)
  have hs7 : (w6.alloc (.cells #[.int .i64 ux, .int .i64 uy] 45)).heap.size = w6.heap.size + 1 := by simp
  generalize w6.alloc (.cells #[.int .i64 ux, .int .i64 uy] 45) = W at *
  obtain ⟨i0, hi0, hz0, hz1, hz2⟩ := info_parts infoPt
  have HS6 : Hid (w.heap.size ≤ w5.heap.size) := by
    show _ ≤ _
    omega
  have HWs : Hid (w5.heap.size + 1 ≤ W.heap.size) := by
    show _ ≤ _
    omega
  clear hs6 hs7 b6 hmin HIX e5
  go_loopw [12, 14, 50] (fun s _ i wr => ∃ (j : Nat) (M : List (Int × Int)), j ≤ L.length ∧ i = .int .i64 j ∧ Hid (M = ((L.map (mot k)).take j).map (dn (ux, uy))) ∧ wr.ownsRow (w5.heap.size + 1) 45 2 s M.length (flat M) ∧ At wr w5.heap.size ux uy 45 ∧ Hid (w5.heap.size + 1 ≤ wr.heap.size) ∧ Below w.heap.size w wr) (fun _ _ i _ => L.length - (intOf i).toNat)
  case atStart => exact ⟨0, [], Nat.zero_le _, rfl, rfl, World.ownsRow_nil _ _ _ _, aU, HWs, b7⟩
  case round =>
    clear aU HWs b7
    obtain ⟨wo, rfl⟩ : ∃ wo : World, wo = wr := ⟨_, rfl⟩
    obtain ⟨j, M, hj, rfl, HM, own, aU, HWs, hb⟩ := hrel
    by_cases hlt : j < L.length
    · have hl10 := HH.out.2
      have hmj := gt_map (f := mot k) hlt
      have hbd := HBD.out j (by simpa using hlt)
      have HM2 : Hid (M ++ [((mot k (gt L j)).1 - ux, (mot k (gt L j)).2 - uy)] = ((L.map (mot k)).take (j + 1)).map (dn (ux, uy))) := by
        show _ = _
        rw [map_step (by simpa using hlt), HM.out, hmj]; rfl
      have hML : M.length ≤ 10 := by rw [HM.out, map_len (by simpa using hj)]; have := HH.out.2; omega
      rw [hmj] at hbd
      have hlb := HLB.out
      clear HM hmj
      obtain ⟨d5, d6⟩ := gt_cells (ptsA_on HA.out hb) hlt
      have HP := Lib.hid (HAP.out j hlt)
      have HPE : Hid (((gt L j).1, (gt L j).2) = gt L j) := rfl
      rw [HPE.out] at HP
      clear HPE
      generalize mot k (gt L j) = p at *
      generalize p.1 = mx at *
      generalize p.2 = my at *
      generalize (gt L j).1 = x at *
      generalize (gt L j).2 = y at *
      have HMN := Lib.hid (fun w => minus_any mx my ux uy w)
      have e1 : wrap64 (mx - ux) = mx - ux := IntWalk.wrap64_in _ (by omega)
      have e2 : wrap64 (my - uy) = my - uy := IntWalk.wrap64_in _ (by omega)
      rw [e1, e2] at HMN
      have hs := HWs.out
      have n6 := at_new wo x y 45
      have a6 := aU.alloc (.cells #[.int .i64 x, .int .i64 y] 45)
      have c5 := n6.c0; have c6 := n6.c1; have c7 := a6.c0; have c8 := a6.c1
      have k5 := cell_regrown c5; have k6 := cell_regrown c6; have k7 := cell_regrown c7; have k8 := cell_regrown c8
      have b6 := hb.alloc hb.size (.cells #[.int .i64 x, .int .i64 y] 45)
      have own6 := own.alloc (.cells #[.int .i64 x, .int .i64 y] 45)
      clear hb own hbd hlb n6 e1 e2 aU
      go_wp2_with fail
      refine region_move1 6 _ _ (by rfl) (by rfl) (by rfl) (fun _ _ d _ _ h => by cases d <;> exact h) (by kernel_rfl) (by kernel_rfl) ?_
      simp only [List.take_succ_cons, List.take_zero, List.drop_succ_cons, List.drop_zero]
      repeat (
        refine wpQuietB_step (fun K hK => ?_)
        go_simp
        first
          | (refine hK _ ?_; clear hK K)
          | (apply Exists.intro
             refine ⟨fun _ => ?_, hK _ ?_⟩
             ((first | exact Calls.now (HP.out _) | exact Calls.now (HMN.out _)))
             clear hK K))
      refine wpQuietB_nil ?_
      intro w7 hb7
      replace b6 := below_on b6 hb7
      replace own6 := own_below own6 hb7
      replace a6 := a6.step hb7
      have hs7 : w5.heap.size + 1 ≤ w7.heap.size := by have := hb7.size; simp at this; omega
      have hs8 := b6.size
      clear hb7 k5 k6 k7 k8 c5 c6 c7 c8 d5 d6 HP HMN
      generalize mx - ux = rx at *
      generalize my - uy = ry at *
      go_wp2_with (at_builtin; refine wpList_append_own _ rfl _ _ 34 rfl (w5.heap.size + 1) 45 i0 (.agg #[.int .i64 0, .int .i64 0]) 2 16 Try.underlying34 hi0 hz0 hz1 hz2 rfl (by decide) _ _ _ rfl (own6.alloc _) ⟨w7.heap.size, 0, none⟩ 1 1 [.int .i64 rx, .int .i64 ry] rfl rfl ?d1 ?d2 ?d3 ?d4 ?d5 ?_)
      case d1 => exact World.news_of_block (cs := #[.int .i64 rx, .int .i64 ry]) (t := 45) (fr := (0, 0)) (heap_alloc_new w7 _)
      case d2 => simp [Value.oneCell']
      case d3 => unfold maxLen; omega
      case d4 => omega
      case d5 => simp; omega
      intro v' w8 own8 hgrow _
      have hrw := fun k hk => (own6.lt k hk).1
      have R : Hid (w8.ownsRow (w5.heap.size + 1) 45 2 v' (M ++ [(rx, ry)]).length (flat (M ++ [(rx, ry)])) ∧ At w8 w5.heap.size ux uy 45 ∧ Hid (w5.heap.size + 1 ≤ w8.heap.size) ∧ Below w.heap.size w w8) :=
        ⟨by rw [flat_append, List.length_append]; exact own8, (a6.alloc _).grown hgrow (fun e => by have := hrw _ e.symm; omega), Lib.hid (by have := hgrow.size; simp at this; omega), (b6.alloc b6.size _).grown hgrow (by simp; omega) (fun q hq => by have := hrw q hq; have := HS6.out; omega)⟩
      clear own6 own8 hgrow b6 hrw a6
      go_wp2_with fail
      go_roundw
      case rel => exact ⟨j + 1, M ++ [(rx, ry)], by omega, by go_num, HM2, R.out.1, R.out.2.1, R.out.2.2.1, R.out.2.2.2⟩
      case measure => simp [intOf]; omega
    · have e : j = L.length := by omega
      have HQ : Hid (M = moveL L k) := by
        show _ = _
        rw [HM.out, e, HMV.out, List.take_of_length_le (by simp)]
      have own7 := own_base own (show w.heap.size ≤ w5.heap.size + 1 by have := HS6.out; omega)
      clear HM e own
      go_wp2_with fail
      go_ret
      rw [← HQ.out]
      exact ⟨_, rfl, own7, hb⟩
end Go.Proofs.Ythoniopkeiifnaa

/-! Equal -/
namespace Go.Proofs.Ythoniopkeiifnaa
open Go.RowKit

theorem take_step {L M : List (Int × Int)} {k : Nat} (h1 : k < L.length) (h2 : k < M.length) (h : L.take k = M.take k) (he : gt L k = gt M k) : L.take (k + 1) = M.take (k + 1) := by
  rw [List.take_succ_eq_append_getElem h1, List.take_succ_eq_append_getElem h2, h]
  rw [gt_at h1, gt_at h2] at he
  rw [he]
theorem ne_at {L M : List (Int × Int)} {k : Nat} (he : gt L k ≠ gt M k) : L ≠ M := fun h => he (by rw [h])
set_option maxRecDepth 100000 in
set_option maxHeartbeats 1000000 in
theorem iEq_any (A B : Option Addr) (c d : Nat) (L M : List (Int × Int)) (w : World) (hA : PtsA w A L) (hB : PtsA w B M) (_ : L.length ≤ 1048576) (h2 : M.length ≤ 1048576) :
    Calls Try.prog 98 #[.slice A L.length c, .slice B M.length d] w fun e w' => e = .returned (.bool (decide (L = M))) ∧ Below w.heap.size w w' := by
  have HA := Lib.hid hA
  have HB := Lib.hid hB
  clear hA hB
  by_cases hl : L.length = M.length
  · have hl1 : (L.length : Int) = (M.length : Int) := by omega
    have HL := Lib.hid hl
    obtain ⟨n, hn⟩ : ∃ n, n = L.length := ⟨_, rfl⟩
    have HN := Lib.hid hn
    have hm : M.length = n := by omega
    rw [hm, ← hn]
    rw [hm] at h2
    clear hl hl1 hn hm
    go_enter Try.func98, Try.ntmps98
    go_wp2_with fail
    go_loopw [13] (fun i wr => ∃ k : Nat, k ≤ n ∧ i = .int .i64 k ∧ Hid (L.take k = M.take k) ∧ Below w.heap.size w wr) (fun i _ => n - (intOf i).toNat)
    case atStart => exact ⟨0, Nat.zero_le _, rfl, rfl, Below.refl _ _⟩
    case round =>
      obtain ⟨wo, rfl⟩ : ∃ wo : World, wo = wr := ⟨_, rfl⟩
      obtain ⟨k, hk, rfl, HK, hb⟩ := hrel
      by_cases hlt : k < n
      · have hkL : k < L.length := by have := HN.out; omega
        have hkM : k < M.length := by have := HN.out; have := HL.out; omega
        obtain ⟨g1, rfl, -⟩ := HA.out k hkL
        obtain ⟨g2, rfl, -⟩ := HB.out k hkM
        obtain ⟨c1, c2⟩ := gt_cells (ptsA_on HA.out hb) hkL
        obtain ⟨c3, c4⟩ := gt_cells (ptsA_on HB.out hb) hkM
        have GP := guard_pt
        have EP := fun w x y x' y' => neq_pt w x y x' y'
        obtain ⟨x, hx⟩ : ∃ x, x = (gt L k).1 := ⟨_, rfl⟩
        obtain ⟨y, hy⟩ : ∃ y, y = (gt L k).2 := ⟨_, rfl⟩
        obtain ⟨x', hx'⟩ : ∃ x', x' = (gt M k).1 := ⟨_, rfl⟩
        obtain ⟨y', hy'⟩ : ∃ y', y' = (gt M k).2 := ⟨_, rfl⟩
        have HX : Hid ((gt L k = (x, y)) ∧ (gt M k = (x', y'))) := ⟨by rw [hx, hy], by rw [hx', hy']⟩
        rw [← hx] at c1; rw [← hy] at c2; rw [← hx'] at c3; rw [← hy'] at c4
        clear hx hy hx' hy'
        have k1 := cell_regrown c1; have k2 := cell_regrown c2; have k3 := cell_regrown c3; have k4 := cell_regrown c4
        have hki : (k : Int) < (n : Int) := by omega
        cases he : (x == x' && y == y')
        · have HD : Hid (decide (L = M) = false) := decide_eq_false (ne_at (k := k) (by
            rw [HX.out.1, HX.out.2]
            intro e
            simp only [Prod.mk.injEq] at e
            rw [e.1, e.2] at he; simp at he))
          go_wp2_with fail
          refine wp_region_quiet_below (by kernel_rfl) (by kernel_rfl) ?_
          repeat (first
            | go_big_quiet_step (fail)
            | quiet_step (fail))
          refine wpQuiet_nil ?_
          rintro _ ⟨⟨dq, osq⟩, rfl⟩
          have b3 := hb.trans ((below_regrown _ dq osq).mono hb.size)
          clear k1 k2 k3 k4 c1 c2 c3 c4
          go_wp2_with fail
          go_ret
          exact ⟨ret_bool HD.out.symm, b3⟩
        · have HT : Hid (L.take (k + 1) = M.take (k + 1)) := take_step hkL hkM HK.out (by
            rw [HX.out.1, HX.out.2]
            simp only [Bool.and_eq_true, beq_iff_eq] at he
            rw [he.1, he.2])
          go_wp2_with fail
          refine wp_region_quiet_below (by kernel_rfl) (by kernel_rfl) ?_
          repeat (first
            | go_big_quiet_step (fail)
            | quiet_step (fail))
          refine wpQuiet_nil ?_
          rintro _ ⟨⟨dq, osq⟩, rfl⟩
          have b3 := hb.trans ((below_regrown _ dq osq).mono hb.size)
          clear k1 k2 k3 k4 c1 c2 c3 c4
          go_wp2_with fail
          go_roundw
          case rel => exact ⟨k + 1, by omega, by go_num, HT, b3⟩
          case measure => simp [intOf]; omega
      · obtain rfl : k = n := by omega
        have HD : Hid (decide (L = M) = true) := decide_eq_true (by
          have h3 := HK.out
          rw [List.take_of_length_le (by have := HN.out; omega), List.take_of_length_le (by have := HN.out; have := HL.out; omega)] at h3
          exact h3)
        go_wp2_with fail
        go_ret
        exact ⟨ret_bool HD.out.symm, hb⟩
  · have HD : Hid (decide (L = M) = false) := decide_eq_false (fun h => hl (by rw [h]))
    have hl1 : ((L.length : Int) != (M.length : Int)) = true := by simp; omega
    go_enter Try.func98, Try.ntmps98
    go_wp2_with fail
    go_ret
    exact ⟨ret_bool HD.out.symm, Below.refl _ _⟩
def IdxAt (L : List (Int × Int)) (p : Int × Int) (z : Int) : Prop := (z = -1 ∧ p ∉ L) ∨ ∃ k : Nat, k < L.length ∧ z = k ∧ gt L k = p
set_option maxRecDepth 100000 in
set_option maxHeartbeats 1000000 in
theorem idx_any (A : Option Addr) (c : Nat) (L : List (Int × Int)) (x y : Int) (w : World) (hP : PtsA w A L) (hL : L.length ≤ 1048576) :
    Calls Try.prog 144 #[.slice A L.length c, (.agg #[.int .i64 x, .int .i64 y])] w fun e w' => (∃ z : Int, e = .returned (.int .i64 z) ∧ IdxAt L (x, y) z) ∧ Below w.heap.size w w' := by
  have HP := Lib.hid (ptsA_on hP ((Below.refl w.heap.size w).alloc (Nat.le_refl _) (.cells #[.int .i64 x, .int .i64 y] 45))); clear hP
  have HID : Hid (∀ z, IdxAt L (x, y) z ↔ ((z = -1 ∧ (x, y) ∉ L) ∨ ∃ k : Nat, k < L.length ∧ z = k ∧ gt L k = (x, y))) := fun _ => Iff.rfl
  have t1 := at_new w x y 45
  go_enter Try.func144, Try.ntmps144
  go_wp2_with fail
  have b1 := below1 w (.cells #[.int .i64 x, .int .i64 y] 45)
  generalize w.alloc (.cells #[.int .i64 x, .int .i64 y] 45) = w1 at *
  have c1 := t1.c0; have c2 := t1.c1
  go_loopw [5, 8] (fun _ i w' => ∃ (k d : Nat), k ≤ L.length ∧ i = .int .i64 k ∧ w' = w1.drewN d ∧ Hid (∀ j, j < k → gt L j ≠ (x, y))) (fun _ i _ => L.length - (intOf i).toNat)
  case atStart => exact ⟨0, 0, Nat.zero_le _, rfl, rfl, fun j hj => by omega⟩
  case round =>
    obtain ⟨k, d, hk, rfl, rfl, HN⟩ := hrel
    by_cases hlt : k < L.length
    · obtain ⟨g1, rfl, -⟩ := HP.out k hlt
      obtain ⟨hc1, hd1⟩ := gt_cells HP.out hlt
      have GP := guard_pt
      have EP := fun w x y x' y' => eql_pt w x y x' y'
      obtain ⟨p, hp⟩ : ∃ p, p = (gt L k).1 := ⟨_, rfl⟩
      obtain ⟨q, hq⟩ : ∃ q, q = (gt L k).2 := ⟨_, rfl⟩
      rw [← hp] at hc1
      rw [← hq] at hd1
      have HPQ : Hid (gt L k = (p, q)) := by
        show _ = _
        rw [hp, hq]
      clear hp hq
      cases he : (x == p && y == q)
      · have HN2 : Hid (∀ j, j < k + 1 → gt L j ≠ (x, y)) := fun j hj => by
          rcases Nat.lt_or_ge j k with h1 | h1
          · exact HN.out j h1
          · obtain rfl : j = k := by omega
            rw [HPQ.out]
            intro e
            simp only [Prod.mk.injEq] at e
            rw [e.1, e.2] at he; simp at he
        go_wp2_with fail
        go_quiet (fail)
        go_wp2_with fail
        go_roundw
        case rel => exact ⟨k + 1, d + nq, by omega, by go_num, by simp, HN2⟩
        case measure => simp [intOf]; omega
      · have HY : Hid (IdxAt L (x, y) k) := by
          simp only [Bool.and_eq_true, beq_iff_eq] at he
          exact .inr ⟨k, hlt, rfl, by rw [HPQ.out, he.1, he.2]⟩
        go_wp2_with fail
        go_quiet (fail)
        go_wp2_with fail
        go_ret
        exact ⟨⟨_, rfl, HY.out⟩, b1.os, b1.tape, b1.output, b1.size, b1.block⟩
    · have HY : Hid (IdxAt L (x, y) (-1)) := .inl ⟨rfl, fun h => by
        obtain ⟨j, hj, e⟩ := List.getElem_of_mem h
        exact HN.out j (by omega) (by rw [gt_at hj]; exact e)⟩
      go_wp2_with fail
      go_ret
      exact ⟨⟨_, rfl, HY.out⟩, b1.os, b1.tape, b1.output, b1.size, b1.block⟩
end Go.Proofs.Ythoniopkeiifnaa

/-! SameFn -/
namespace Go.Proofs.Ythoniopkeiifnaa
open Go.RowKit

def testB (a b : List (Int × Int)) (k : Nat) : Bool := decide (a = rotL b k) || decide (a = turnL (rotL b k))
def sameB (a b : List (Int × Int)) : Bool := (List.range b.length).any (testB a b)
def sameV (p q : List (Int × Int)) : Bool := bif polyB p && polyB q then sameB (straightL p) (straightL q) else false
theorem turn_head (M : List (Int × Int)) : gt (turnL M) 0 = gt M 0 := rfl
theorem rot_head {L : List (Int × Int)} {k : Nat} (hk : k < L.length) : gt (rotL L k) 0 = gt L k := by
  rw [gt_at hk, rotL, List.drop_eq_getElem_cons hk]
  rfl
theorem same_eq {p q : List (Int × Int)} (hp : polyB p = true) (hq : polyB q = true) {z : Int} (hz : IdxAt (straightL q) (gt (straightL p) 0) z) :
    (decide (straightL p = startV (straightL q) z) || decide (straightL p = turnV (startV (straightL q) z))) = sameB (straightL p) (straightL q) := by
  have ha := poly_straight hp
  have hb := poly_straight hq
  generalize straightL p = a at *
  generalize straightL q = b at *
  have hal := polyB_all ha
  have hnd := (poly_good hb).2.2.1
  rcases hz with ⟨rfl, hn⟩ | ⟨k, hk, rfl, hke⟩
  · have e1 : startV b (-1) = [] := by
      unfold startV
      have : inB (-1) 0 ((b.length : Int) - 1) = false := by
        cases h : inB (-1) 0 ((b.length : Int) - 1)
        · rfl
        · have := inB_spec.1 h; omega
      rw [this, Bool.and_false]; rfl
    have e2 : turnV [] = [] := by
      unfold turnV
      have : polyB [] = false := rfl
      rw [this]; rfl
    have hane : a ≠ [] := fun h => by rw [h] at hal; simp at hal
    rw [e1, e2, decide_eq_false hane, Bool.false_or]
    symm
    cases hs : sameB a b
    · rfl
    · exfalso
      obtain ⟨j, hj, ht⟩ := List.any_eq_true.1 hs
      have hj' := List.mem_range.1 hj
      simp only [testB, Bool.or_eq_true, decide_eq_true_eq] at ht
      apply hn
      have : gt a 0 = gt b j := by
        rcases ht with h | h
        · rw [h, rot_head hj']
        · rw [h, turn_head, rot_head hj']
      rw [this, gt_at hj']
      exact List.getElem_mem _
  · have e1 : startV b k = rotL b k := by
      unfold startV
      have : inB (k : Int) 0 ((b.length : Int) - 1) = true := inB_spec.2 (by omega)
      rw [this, hb]; simp
    have e2 : turnV (rotL b k) = turnL (rotL b k) := by
      unfold turnV
      rw [poly_rot hb (by omega)]; rfl
    rw [e1, e2]
    show testB a b k = _
    rw [Bool.eq_iff_iff]
    constructor
    · intro h; exact List.any_eq_true.2 ⟨k, List.mem_range.2 hk, h⟩
    · intro hs
      obtain ⟨j, hj, ht⟩ := List.any_eq_true.1 hs
      have hj' := List.mem_range.1 hj
      have ht' := ht
      simp only [testB, Bool.or_eq_true, decide_eq_true_eq] at ht
      have : gt a 0 = gt b j := by
        rcases ht with h | h
        · rw [h, rot_head hj']
        · rw [h, turn_head, rot_head hj']
      have hjk := gt_inj hnd hk hj' (hke.trans this)
      rw [hjk]; exact ht'
theorem turnV_len' (L : List (Int × Int)) : (turnV L).length ≤ 1048576 := by
  unfold turnV
  cases h : polyB L
  · simp
  · have := polyB_all h
    simp [turnL, turnTill]; omega
theorem decide_or_false {P Q : Prop} [Decidable P] [Decidable Q] (h : decide P = false) : (decide P || decide Q) = decide Q := by rw [h]; rfl


set_option maxRecDepth 100000 in
set_option maxHeartbeats 4000000 in
theorem impl_same (A B : Option Addr) (c d : Nat) (p q : List (Int × Int)) (w : World) (hA : PtsA w A p) (hB : PtsA w B q) (h1 : p.length ≤ 1048576) (h2 : q.length ≤ 1048576) :
    Calls Try.prog 95 #[.slice A p.length c, .slice B q.length d] w fun e w' => e = .returned (.bool (sameV p q)) ∧ Below w.heap.size w w' := by
  have P1 := Lib.hid (impl_poly A c p w hA h1)
  have P2 := Lib.hid (fun (W : World) (hb : Below w.heap.size w W) => impl_poly B d q W (ptsA_on hB hb) h2)
  cases hp : polyB p
  · have HV : Hid (sameV p q = false) := by
      show _ = _
      rw [sameV, hp]; rfl
    rw [hp] at P1
    clear hA hB
    go_enter Try.func95, Try.ntmps95
    go_wp2_with fail
    refine P1.out.mono ?_
    rintro e w1 ⟨rfl, hb1⟩
    go_wp2_with fail
    go_ret
    exact ⟨ret_bool HV.out.symm, hb1⟩
  rw [hp] at P1
  cases hq : polyB q
  · have HV : Hid (sameV p q = false) := by
      show _ = _
      rw [sameV, hp, hq]; rfl
    rw [hq] at P2
    clear hA hB
    go_enter Try.func95, Try.ntmps95
    go_wp2_with fail
    refine P1.out.mono ?_
    rintro e w1 ⟨rfl, hb1⟩
    go_wp2_with fail
    refine (P2.out _ hb1).mono ?_
    rintro e w2 ⟨rfl, hb2⟩
    go_wp2_with fail
    go_ret
    exact ⟨ret_bool HV.out.symm, hb1.trans (hb2.mono hb1.size)⟩
  rw [hq] at P2
  have HV : Hid (∀ z, IdxAt (straightL q) (gt (straightL p) 0) z → sameV p q = (decide (straightL p = startV (straightL q) z) || decide (straightL p = turnV (startV (straightL q) z)))) := fun z hz => by
    rw [same_eq hp hq hz, sameV, hp, hq]; rfl
  have S1 := Lib.hid (fun (W : World) (hb : Below w.heap.size w W) => impl_straight A c p W (ptsA_on hA hb) h1)
  have S2 := Lib.hid (fun (W : World) (hb : Below w.heap.size w W) => impl_straight B d q W (ptsA_on hB hb) h2)
  have e1 : straightV p = straightL p := by rw [straightV, hp]; rfl
  have e2 : straightV q = straightL q := by rw [straightV, hq]; rfl
  unfold Lists at S1 S2
  rw [e1] at S1
  rw [e2] at S2
  have ha := polyB_all (poly_straight hp)
  have hb := polyB_all (poly_straight hq)
  generalize straightL p = a at *
  generalize straightL q = b at *
  have hal : a.length ≤ 10 := ha.2.1
  have ha3 : 3 ≤ a.length := ha.1
  have hbl : b.length ≤ 10 := hb.2.1
  clear hA hB ha hb hp hq e1 e2
  go_enter Try.func95, Try.ntmps95
  go_wp2_with fail
  refine P1.out.mono ?_
  rintro e w1 ⟨rfl, b1⟩
  go_wp2_with fail
  refine (P2.out _ b1).mono ?_
  rintro e w2 ⟨rfl, hb2⟩
  have b2 := b1.trans (hb2.mono b1.size)
  clear hb2 b1
  go_wp2_with fail
  refine (S1.out _ b2).mono ?_
  rintro e w3 ⟨va, rfl, owna, hb3⟩
  have b3 := b2.trans (hb3.mono b2.size)
  clear hb3 b2
  obtain ⟨_, Aa, ca, rfl, pa⟩ := own_pts owna
  clear owna
  go_wp2_with fail
  refine (S2.out _ b3).mono ?_
  rintro e w4 ⟨vb, rfl, ownb, hb4⟩
  have b4 := b3.trans (hb4.mono b3.size)
  obtain ⟨_, Ab, cb, rfl, pb, qb⟩ := own_ptsc ownb
  replace pa := ptsA_on pa hb4
  obtain ⟨ga, rfl, -⟩ := pa 0 (by omega)
  obtain ⟨c1, c2⟩ := gt_cells pa (i := 0) (by omega)
  simp only [Nat.zero_mul, Nat.zero_add] at c1 c2
  have hn1 : (0 : Int) < (a.length : Int) := by omega
  have HI := Lib.hid (idx_any Ab cb b (gt a 0).1 (gt a 0).2 w4 pb (by omega))
  have HPA := Lib.hid pa
  have HPB := Lib.hid pb
  have HQB := Lib.hid qb
  clear hb4 b3 ownb pa pb qb
  have HP0 : Hid (((gt a 0).1, (gt a 0).2) = gt a 0) := rfl
  generalize (gt a 0).1 = x0 at *
  generalize (gt a 0).2 = y0 at *
  go_wp2_with fail
  refine HI.out.mono ?_
  rintro e w5 ⟨⟨z, rfl, hz⟩, hb5⟩
  rw [HP0.out] at hz
  have HZ := Lib.hid (HV.out z hz)
  have b5 := b4.trans (hb5.mono b4.size)
  replace HPA := Lib.hid (ptsA_on HPA.out hb5)
  have HT := Lib.hid (impl_start Ab cb b z w5 (ptsA_on HPB.out hb5) HQB.out (by omega))
  unfold Lists at HT
  have hol := startV_len b z
  generalize startV b z = o at *
  clear hz HV hb5 b4 c1 c2 HI
  go_wp2_with fail
  refine HT.out.mono ?_
  rintro e w6 ⟨vo, rfl, owno, hb6⟩
  have b6 := b5.trans (hb6.mono b5.size)
  obtain ⟨_, Ao, co, rfl, po⟩ := own_pts owno
  replace HPA := Lib.hid (ptsA_on HPA.out hb6)
  have HE := Lib.hid (iEq_any (some ⟨ga, 0, none⟩) Ao ca co a o w6 HPA.out po (by omega) hol)
  clear owno hb6 b5 HT
  cases he : decide (a = o)
  · rw [he] at HE
    rw [he, Bool.false_or] at HZ
    go_wp2_with fail
    refine HE.out.mono ?_
    rintro e w7 ⟨rfl, hb7⟩
    have b7 := b6.trans (hb7.mono b6.size)
    replace HPA := Lib.hid (ptsA_on HPA.out hb7)
    have HT7 := Lib.hid (impl_turn Ao co o w7 (ptsA_on po hb7) hol)
    unfold Lists at HT7
    have htl := turnV_len' o
    generalize turnV o = t at *
    clear hb7 b6 po HE
    go_wp2_with fail
    refine HT7.out.mono ?_
    rintro e w8 ⟨vt, rfl, ownt, hb8⟩
    have b8 := b7.trans (hb8.mono b7.size)
    obtain ⟨_, At, ct, rfl, pt⟩ := own_pts ownt
    replace HPA := Lib.hid (ptsA_on HPA.out hb8)
    have HE8 := Lib.hid (iEq_any (some ⟨ga, 0, none⟩) At ca ct a t w8 HPA.out pt (by omega) htl)
    clear ownt hb8 b7 HT7
    go_wp2_with fail
    refine HE8.out.mono ?_
    rintro e w9 ⟨rfl, hb9⟩
    have b9 := b8.trans (hb9.mono b8.size)
    clear hb9 b8 pt
    go_wp2_with fail
    go_ret
    exact ⟨ret_bool HZ.out.symm, b9⟩
  · rw [he] at HE
    rw [he, Bool.true_or] at HZ
    go_wp2_with fail
    refine HE.out.mono ?_
    rintro e w7 ⟨rfl, hb7⟩
    have b7 := b6.trans (hb7.mono b6.size)
    clear hb7 b6 po
    go_wp2_with fail
    go_ret
    exact ⟨ret_bool HZ.out.symm, b7⟩
end Go.Proofs.Ythoniopkeiifnaa

/-! Turned -/
namespace Go.Proofs.Ythoniopkeiifnaa
open Go.RowKit

def turnedV (p q : List Pt) (m : Int) : Bool := bif polyB p && (polyB q && inB m 0 7) then sameV (moveL p m.toNat) (moveL q 0) else false
theorem same_nil (q : List Pt) : sameV [] q = false := rfl
theorem same_nil' (p : List Pt) : sameV p [] = false := by
  unfold sameV
  rw [show polyB ([] : List Pt) = false from rfl, Bool.and_false]; rfl
theorem turned_eq (p q : List Pt) (m : Int) : sameV (moveV p m) (moveV q 0) = turnedV p q m := by
  unfold turnedV moveV
  cases polyB p
  · exact same_nil _
  · cases polyB q
    · exact same_nil' _
    · cases inB m 0 7
      · exact same_nil _
      · rfl
theorem moveV_small (p : List Pt) (m : Int) (h : p.length ≤ 1048576) : (moveV p m).length ≤ 1048576 := by
  unfold moveV
  cases polyB p && inB m 0 7
  · simp
  · simp only [cond_true, moveL_len]; exact h

set_option maxRecDepth 100000 in
set_option maxHeartbeats 1000000 in
theorem impl_turned (A B : Option Addr) (c d : Nat) (p q : List Pt) (m : Int) (w : World) (hA : PtsA w A p) (hB : PtsA w B q) (h1 : p.length ≤ 1048576) (h2 : q.length ≤ 1048576) :
    Calls Try.prog 48 #[.slice A p.length c, .slice B q.length d, .int .i64 m] w fun e w' => e = .returned (.bool (turnedV p q m)) ∧ Below w.heap.size w w' := by
  have HV := Lib.hid (turned_eq p q m)
  have M1 := Lib.hid (impl_move A c p m w hA h1)
  have M2 := Lib.hid (fun W (hb : Below w.heap.size w W) => impl_move B d q 0 W (ptsA_on hB hb) h2)
  have HS := Lib.hid (fun A B c d w hp hq => impl_same A B c d (moveV p m) (moveV q 0) w hp hq (moveV_small p m h1) (moveV_small q 0 h2))
  unfold Lists at M1 M2
  generalize moveV p m = X at *
  generalize moveV q 0 = Y at *
  rw [HV.out] at HS
  clear hA hB h1 h2
  go_enter Try.func48, Try.ntmps48
  go_wp2_with fail
  refine M1.out.mono ?_
  rintro e w4 ⟨v4, rfl, own4, b4⟩
  obtain ⟨_, A4, c4, rfl, p4⟩ := own_pts own4
  clear own4
  go_wp2_with fail
  refine (M2.out _ b4).mono ?_
  rintro e w5 ⟨v5, rfl, own5, hb5⟩
  have b5 := below_on b4 hb5
  replace p4 := ptsA_on p4 hb5
  obtain ⟨_, A5, c5, rfl, p5⟩ := own_pts own5
  clear hb5 b4 own5
  go_wp2_with fail
  refine (HS.out A4 A5 c4 c5 w5 p4 p5).mono ?_
  rintro e w6 ⟨rfl, hb6⟩
  have b6 := below_on b5 hb6
  clear hb6 b5 p4 p5
  go_wp2_with fail
  go_ret
  exact ⟨rfl, b6⟩

/-! ### SymmetriesOf -/
def symTill (p : List Pt) (k : Nat) : List Int := ((List.range k).filter fun j => turnedV p p (j : Nat)).map fun (j : Nat) => (j : Int)
def symV (p : List Pt) : List Int := symTill p 8
theorem sym_step (p : List Pt) (k : Nat) : symTill p (k + 1) = bif turnedV p p (k : Nat) then symTill p k ++ [(k : Int)] else symTill p k := by
  unfold symTill
  rw [List.range_succ, List.filter_append, List.map_append]
  cases h : turnedV p p (k : Nat) <;> simp [h]
theorem sym_len (p : List Pt) (k : Nat) : (symTill p k).length ≤ k := by
  unfold symTill
  rw [List.length_map]
  exact Nat.le_trans (List.length_filter_le _ _) (by simp)
theorem symV_len (p : List Pt) : (symV p).length ≤ 1048576 := by
  have := sym_len p 8
  unfold symV; omega
theorem sym_no {p : List Pt} (hp : polyB p = false) : symV p = [] := by
  unfold symV symTill
  rw [List.filter_eq_nil_iff.2 (fun j _ => by simp [turnedV, hp])]; rfl
set_option maxRecDepth 100000 in
set_option maxHeartbeats 2000000 in
theorem impl_sym (A : Option Addr) (c : Nat) (L : List Pt) (w : World) (hA : PtsA w A L) (hL : L.length ≤ 1048576) :
    Calls Try.prog 46 #[.slice A L.length c] w (ListsI w (symV L)) := by
  obtain ⟨i0, hi0, hz0, hz1, hz2⟩ := info_parts infoI
  have HE := Lib.hid (fun (m : Int) W (hb : Below w.heap.size w W) => impl_turned A A c c L L m W (ptsA_on hA hb) (ptsA_on hA hb) hL hL)
  have HU : Hid (symV L = symTill L 8) := rfl
  have own0 := World.ownsRow_nil w w.heap.size 3 1
  have b0 := Below.refl w.heap.size w
  clear hA
  go_enter Try.func46, Try.ntmps46
  go_wp2_with fail
  go_loopw [3, 4, 5] (fun s _ i wr => ∃ (k : Nat) (M : List Int), k ≤ 8 ∧ i = .int .i64 k ∧ Hid (M = symTill L k) ∧ wr.ownsRow w.heap.size 3 1 s M.length (ints M) ∧ Below w.heap.size w wr) (fun _ _ i _ => 8 - (intOf i).toNat)
  case atStart => exact ⟨0, [], Nat.zero_le _, rfl, rfl, own0, b0⟩
  case round =>
    obtain ⟨wo, rfl⟩ : ∃ wo : World, wo = wr := ⟨_, rfl⟩
    clear own0 b0
    obtain ⟨k, M, hk, rfl, HM, own, hb⟩ := hrel
    by_cases hlt : k < 8
    · have HC := Lib.hid (HE.out k wo hb)
      have HS : Hid (symTill L (k + 1) = bif turnedV L L (k : Nat) then M ++ [(k : Int)] else M) := by
        show _ = _
        rw [HM.out, sym_step]
      have hML : M.length ≤ 10 := by rw [HM.out]; have := sym_len L k; omega
      clear HM
      go_wp2_with fail
      refine HC.out.mono ?_
      rintro e w6 ⟨rfl, hb6⟩
      have b6 := below_on hb hb6
      have own6 := own_below own hb6
      have hs6 := b6.size
      clear hb hb6 own HC
      cases he : turnedV L L (k : Nat)
      · have HT : Hid (M = symTill L (k + 1)) := by show _ = _; rw [HS.out, he]; rfl
        have R := Lib.hid (And.intro own6 b6)
        clear own6 b6 hs6
        go_wp2_with fail
        go_roundw
        case rel => exact ⟨k + 1, M, by omega, by go_num, HT, R.out.1, R.out.2⟩
        case measure => simp [intOf]; omega
      · have HT : Hid (M ++ [(k : Int)] = symTill L (k + 1)) := by show _ = _; rw [HS.out, he]; rfl
        go_wp2_with (at_builtin; refine wpList_append_own _ rfl _ _ 22 rfl w.heap.size 3 i0 (.int .i64 0) 1 8 Try.underlying22 hi0 hz0 hz1 hz2 rfl (by decide) _ _ _ rfl (own6.alloc _) ⟨w6.heap.size, 0, none⟩ 1 1 [.int .i64 (k : Int)] rfl rfl ?d1 ?d2 ?d3 ?d4 ?d5 ?_)
        case d1 => exact World.news_of_block (cs := #[.int .i64 (k : Int)]) (t := 3) (fr := (0, 0)) (heap_alloc_new w6 _)
        case d2 => simp [Value.oneCell']
        case d3 => unfold maxLen; omega
        case d4 => omega
        case d5 => simp; omega
        intro v' w7 own7 hgrow _
        have hrw := fun k hk => (own6.lt k hk).1
        have R : Hid (w7.ownsRow w.heap.size 3 1 v' (M ++ [(k : Int)]).length (ints (M ++ [(k : Int)])) ∧ Below w.heap.size w w7) :=
          ⟨by rw [ints_snoc, List.length_append]; exact own7, (b6.alloc hs6 _).grown hgrow (by simp; omega) hrw⟩
        clear own6 own7 hgrow b6 hrw
        go_wp2_with fail
        go_roundw
        case rel => exact ⟨k + 1, M ++ [(k : Int)], by omega, by go_num, HT, R.out.1, R.out.2⟩
        case measure => simp [intOf]; omega
    · have e : k = 8 := by omega
      have HQ : Hid (M = symV L) := by
        show _ = _
        rw [HM.out, e]; rfl
      clear HM e
      go_wp2_with fail
      go_ret
      rw [← HQ.out]
      exact ⟨_, rfl, own, hb⟩
end Go.Proofs.Ythoniopkeiifnaa

/-! Twice -/
namespace Go.Proofs.Ythoniopkeiifnaa
open Go.RowKit

def crossT (s : Pt × Pt) : Int := s.1.1 * s.2.2 - s.1.2 * s.2.1
def chainT : List Pt → Int
  | [] => 0
  | [_] => 0
  | a :: b :: l => crossT (a, b) + chainT (b :: l)
theorem chain_snoc (b c : Pt) : ∀ l : List Pt, chainT (l ++ [b] ++ [c]) = chainT (l ++ [b]) + crossT (b, c)
  | [] => by simp [chainT]
  | [a] => by simp [chainT]
  | a :: d :: l => by
    have := chain_snoc b c (d :: l)
    simp only [List.cons_append, chainT] at this ⊢
    omega
theorem chain_sum : ∀ (l : List Pt), chainT l = ((consec l).map crossT).sum
  | [] => rfl
  | [_] => rfl
  | a :: b :: l => by
    have := chain_sum (b :: l)
    simp only [chainT, this, consec, List.tail_cons, List.zip_cons_cons, List.map_cons, List.sum_cons]
theorem sum_range (f : Nat → Int) : ∀ n, ((List.range n).map f).sum = sumT f n
  | 0 => rfl
  | n + 1 => by rw [List.range_succ, List.map_append, List.sum_append, sum_range f n]; simp [sumT]
theorem twice_chain (x : Pt) (xs : List Pt) : twiceI (x :: xs) = chainT (x :: xs ++ [x]) := by
  have h := sides_eq (x :: xs)
  rw [chain_sum]
  have e : consec (x :: xs ++ [x]) = sidesL (x :: xs) := rfl
  rw [e, h, List.map_map, sum_range]
  rfl
end Go.Proofs.Ythoniopkeiifnaa

/-! PolyFacts -/
namespace Go.Proofs.Ythoniopkeiifnaa

theorem straight_all {L : List Pt} (h : ∀ i, i < L.length → bentB L i = true) : straightL L = L := by
  rw [straightL_eq, List.filter_eq_self.2 (fun i hi => h i (List.mem_range.1 hi))]
  apply List.ext_getElem (by simp)
  intro i h1 h2
  simp [gt_at h2]
/-- By straight corners. -/
theorem good_ind {P : List Pt → Prop} (step : ∀ x xs, P (xs ++ [x]) → P (x :: xs)) (bent : ∀ L, Good L → (∀ i, i < L.length → bentB L i = true) → P L)
    (drop : ∀ b Y, Good (b :: Y) → 3 ≤ Y.length → onP (gt Y (Y.length - 1)) (gt Y 0) b = true → b ∉ Y → bentB (b :: Y) 0 = false → Good Y → P Y → P (b :: Y)) : ∀ n (L : List Pt), L.length = n → Good L → P L := by
  intro n
  induction n using Nat.strongRecOn with
  | _ n ih =>
    intro L hL hG
    by_cases hall : ∀ i, i < L.length → bentB L i = true
    · exact bent L hG hall
    · obtain ⟨i, hi, hb⟩ : ∃ i, i < L.length ∧ bentB L i = false := by
        false_or_by_contra
        rename_i hne
        exact hall fun i hi => by
          cases hb : bentB L i
          · exact absurd ⟨i, hi, hb⟩ hne
          · rfl
      have back : ∀ k, k ≤ L.length → P (rotL L k) → P L := by
        intro k
        induction k with
        | zero => intro _ h; rw [rotL_zero] at h; exact h
        | succ k ih =>
          intro hk h
          obtain ⟨x, xs, e1, e2⟩ := rotL_succ (L := L) (k := k) (by omega)
          rw [e2] at h
          refine ih (by omega) ?_
          rw [e1]
          exact step x xs h
      refine back i (by omega) ?_
      have hG' := good_rot hG i (by omega)
      have hb' : bentB (rotL L i) 0 = false := by rw [bent_rot i (by omega) 0 (by omega), Nat.zero_add, Nat.mod_eq_of_lt hi, hb]
      obtain ⟨b, Y, e1, -⟩ := rotL_succ hi
      have hl : (b :: Y).length = n := by rw [← e1, rotL_len, hL]
      rw [e1] at hG' hb' ⊢
      have hY2 : 2 ≤ Y.length := by have := hG'.1.1; simp at this; omega
      have hbY : b ∉ Y := (List.nodup_cons.1 hG'.2.2.1).1
      have hon : onP (gt Y (Y.length - 1)) (gt Y 0) b = true := by
        have h1 := on_bent (good_poly hG') (i := 0) (by simp)
        rw [hb', Bool.not_false, onQ_ok (gt_ok hG'.2.1 _) (gt_ok hG'.2.1 _) (gt_ok hG'.2.1 _)] at h1
        rw [pv_eq (by simp), if_pos rfl, nx_eq (by simp), if_neg (by rw [List.length_cons]; omega)] at h1
        have e2 : gt (b :: Y) ((b :: Y).length - 1) = gt Y (Y.length - 1) := by
          rw [List.length_cons, Nat.add_sub_cancel, show Y.length = (Y.length - 1) + 1 by omega]; simp [gt]
        have e3 : gt (b :: Y) (0 + 1) = gt Y 0 := by simp [gt]
        rw [e2, e3] at h1
        exact h1
      have hY3 : 3 ≤ Y.length := by
        false_or_by_contra
        rename_i hlt
        have hm : Y.length = 2 := by omega
        obtain ⟨c, a, rfl⟩ : ∃ c a, Y = [c, a] := by
          match Y, hm with
          | [c, a], _ => exact ⟨c, a, rfl⟩
        have hs1 : (c, a) ∈ sidesL [b, c, a] := by simp [sidesL, consec]
        have hs2 : (a, b) ∈ sidesL [b, c, a] := by simp [sidesL, consec]
        have hne : (c, a) ≠ (a, b) := fun e => by
          have h1 := (Prod.ext_iff.1 e).2
          exact hbY (by rw [show b = a from h1.symm]; simp)
        have h1 := (hG'.2.2.2 _ hs1 _ hs2 hne).1 rfl
        have h2 : onP a c b = true := hon
        rw [← on_flip] at h2
        rw [show onP c a b = false from h1.2] at h2
        cases h2
      have hGY := good_drop hG' hY3 hon
      exact drop b Y hG' hY3 hon hbY hb' hGY (ih Y.length (by simp at hl; omega) Y rfl hGY)

/-! ### Twice the area -/
theorem twice_step (x : Pt) (xs : List Pt) : twiceI (xs ++ [x]) = twiceI (x :: xs) := by
  cases xs with
  | nil => rfl
  | cons y ys =>
    rw [twice_chain x (y :: ys), List.cons_append, twice_chain y (ys ++ [x])]
    have h := chain_snoc x y (y :: ys)
    simp only [List.cons_append] at h ⊢
    rw [h]
    simp only [chainT]
    omega
theorem twice_drop {b c : Pt} {Y : List Pt} (h : crossP (gt (c :: Y) Y.length) c b = 0) : twiceI (b :: c :: Y) = twiceI (c :: Y) := by
  rw [twice_chain b (c :: Y), twice_chain c Y]
  obtain ⟨Z, l, e⟩ : ∃ Z l, c :: Y = Z ++ [l] := ⟨(c :: Y).dropLast, (c :: Y).getLast (by simp), (List.dropLast_concat_getLast (by simp)).symm⟩
  have hl : gt (c :: Y) Y.length = l := by
    rw [e]
    have : Y.length = Z.length := by have := congrArg List.length e; simp at this; omega
    rw [this, gt_at (by simp)]
    simp
  rw [hl] at h
  have h1 := chain_snoc l b Z
  have h2 := chain_snoc l c Z
  rw [← e] at h1 h2
  simp only [List.cons_append] at h1 h2 ⊢
  simp only [chainT]
  rw [h1, h2]
  unfold crossT
  simp only
  unfold crossP crossI at h
  grind
theorem twice_straight_back {x : Pt} {xs : List Pt} (h : twiceI (straightL (xs ++ [x])) = twiceI (xs ++ [x])) : twiceI (straightL (x :: xs)) = twiceI (x :: xs) := by
  rw [← twice_step x xs, ← h, straight_step, straight_cons]
  cases bentB (x :: xs) 0
  · simp
  · simp only [cond_true]
    exact (twice_step x _).symm
theorem twice_straight {L : List Pt} (h : Good L) : twiceI (straightL L) = twiceI L :=
  good_ind (P := fun L => twiceI (straightL L) = twiceI L) (fun _ _ h => twice_straight_back h) (fun L _ hb => by rw [straight_all hb]) (fun b Y _ h3 hon hb hb0 _ ih => by
    rw [straight_drop h3 hon hb hb0, ih]
    cases Y with
    | nil => simp at h3
    | cons c Y =>
      refine (twice_drop ?_).symm
      have := ((onP_iff _ _ _).1 hon).1
      simp only [List.length_cons, Nat.add_sub_cancel] at this
      simpa [gt] using this) _ L rfl h
theorem twice_rot {L : List Pt} : ∀ k, k ≤ L.length → twiceI (rotL L k) = twiceI L := by
  intro k
  induction k with
  | zero => intro _; rw [rotL_zero]
  | succ k ih =>
    intro hk
    obtain ⟨x, xs, e1, e2⟩ := rotL_succ (L := L) (k := k) (by omega)
    rw [e2, twice_step, ← e1]
    exact ih (by omega)
theorem chain_rev : ∀ l : List Pt, chainT l.reverse = -chainT l
  | [] => rfl
  | [_] => rfl
  | a :: b :: l => by
    have := chain_rev (b :: l)
    rw [List.reverse_cons, List.reverse_cons, chain_snoc, ← List.reverse_cons, this]
    simp only [chainT, crossT]
    grind
theorem turn_eq (x : Pt) (xs : List Pt) : turnL (x :: xs) = x :: xs.reverse := by
  unfold turnL turnTill
  rw [show gt (x :: xs) 0 = x from rfl]
  congr 1
  apply List.ext_getElem (by simp)
  intro i h1 h2
  simp only [List.length_map, List.length_range, List.length_cons, Nat.add_sub_cancel] at h1
  rw [List.getElem_map, List.getElem_range, List.getElem_reverse, List.length_cons, gt_at (by simp only [List.length_cons]; omega)]
  have e : xs.length + 1 - 1 - i = (xs.length - 1 - i) + 1 := by omega
  simp only [e, List.getElem_cons_succ]
theorem turn_turn {L : List Pt} (h : 0 < L.length) : turnL (turnL L) = L := by
  cases L with
  | nil => simp at h
  | cons x xs => rw [turn_eq, turn_eq, List.reverse_reverse]
theorem twice_turn {L : List Pt} (h : 0 < L.length) : twiceI (turnL L) = -twiceI L := by
  cases L with
  | nil => simp at h
  | cons x xs =>
    rw [turn_eq, twice_chain, twice_chain, ← chain_rev]
    congr 1
    simp

/-! ### Straightened twice -/
theorem bent_rot1 {x : Pt} {xs : List Pt} (h : ∀ i, i < (xs ++ [x]).length → bentB (xs ++ [x]) i = true) : ∀ i, i < (x :: xs).length → bentB (x :: xs) i = true := fun i hi => by
  have hl : (xs ++ [x]).length = (x :: xs).length := by simp
  cases i with
  | zero =>
    have := h xs.length (by simp)
    rw [bent_step x xs (by simp), nx_eq (by simp), if_pos (by simp)] at this
    exact this
  | succ i =>
    have := h i (by rw [hl]; omega)
    rw [bent_step x xs (by omega), nx_eq (by omega), if_neg (by simp at hi ⊢; omega)] at this
    exact this
theorem bent_straight {L : List Pt} (h : Good L) : ∀ i, i < (straightL L).length → bentB (straightL L) i = true :=
  good_ind (P := fun L => ∀ i, i < (straightL L).length → bentB (straightL L) i = true) (fun x xs h => by
    rw [straight_step] at h
    rw [straight_cons]
    cases hb : bentB (x :: xs) 0
    · rw [hb] at h; simpa using h
    · rw [hb] at h; exact bent_rot1 h) (fun L _ hb => by rw [straight_all hb]; exact hb) (fun b Y _ h3 hon hb hb0 _ ih => by
    rw [straight_drop h3 hon hb hb0]; exact ih) _ L rfl h
theorem straight_twice {L : List Pt} (h : Good L) : straightL (straightL L) = straightL L := straight_all (bent_straight h)
theorem same_straight {L : List Pt} (h : Good L) : sameV L (straightL L) = true := by
  have hg := good_straight _ L rfl h
  unfold sameV
  rw [(poly_iff L).2 h, (poly_iff _).2 hg, straight_twice h]
  show sameB (straightL L) (straightL L) = true
  unfold sameB
  rw [List.any_eq_true]
  refine ⟨0, List.mem_range.2 (by have := hg.1.1; omega), ?_⟩
  unfold testB
  rw [rotL_zero]
  simp
end Go.Proofs.Ythoniopkeiifnaa

/-! PolySame -/
namespace Go.Proofs.Ythoniopkeiifnaa

/-- One list is the other, begun elsewhere. -/
def Rot (a b : List Pt) : Prop := ∃ u v, a = u ++ v ∧ b = v ++ u
theorem Rot.refl (a : List Pt) : Rot a a := ⟨a, [], by simp, by simp⟩
theorem Rot.symm {a b : List Pt} (h : Rot a b) : Rot b a := by obtain ⟨u, v, e1, e2⟩ := h; exact ⟨v, u, e2, e1⟩
theorem Rot.trans {a b c : List Pt} (h1 : Rot a b) (h2 : Rot b c) : Rot a c := by
  obtain ⟨u, v, rfl, e2⟩ := h1
  obtain ⟨u', v', e3, rfl⟩ := h2
  rw [e2] at e3
  rcases List.append_eq_append_iff.1 e3 with ⟨w, k1, k2⟩ | ⟨w, k1, k2⟩
  · exact ⟨w, v' ++ v, by rw [k2]; simp, by rw [k1]; simp⟩
  · exact ⟨u ++ u', w, by rw [k1]; simp, by rw [k2]; simp⟩
theorem Rot.rev {a b : List Pt} (h : Rot a b) : Rot a.reverse b.reverse := by
  obtain ⟨u, v, rfl, rfl⟩ := h
  exact ⟨v.reverse, u.reverse, by simp, by simp⟩
theorem Rot.at {a b : List Pt} (h : Rot b a) (h0 : 0 < b.length) : ∃ k, k < b.length ∧ a = rotL b k := by
  obtain ⟨u, v, rfl, rfl⟩ := h
  cases v with
  | nil => exact ⟨0, h0, by simp [rotL]⟩
  | cons y v => exact ⟨u.length, by simp, by simp [rotL]⟩
theorem rot_rot (L : List Pt) (k : Nat) : Rot L (rotL L k) := ⟨L.take k, L.drop k, (List.take_append_drop k L).symm, rfl⟩
theorem rot_straight {L : List Pt} : ∀ k, k ≤ L.length → Rot (straightL L) (straightL (rotL L k)) := by
  intro k
  induction k with
  | zero => intro _; rw [rotL_zero]; exact Rot.refl _
  | succ k ih =>
    intro hk
    obtain ⟨x, xs, e1, e2⟩ := rotL_succ (L := L) (k := k) (by omega)
    refine (ih (by omega)).trans ?_
    rw [e1, e2, straight_step, straight_cons]
    exact ⟨_, _, rfl, rfl⟩
theorem same_of_rot {a b : List Pt} (h : Rot b a) (h0 : 0 < b.length) : sameB a b = true := by
  obtain ⟨k, hk, e⟩ := h.at h0
  unfold sameB
  rw [List.any_eq_true]
  refine ⟨k, List.mem_range.2 hk, ?_⟩
  unfold testB
  rw [← e]
  simp
theorem same_of_rev {a b : List Pt} (h : Rot b a.reverse) (h0 : 0 < b.length) : sameB a b = true := by
  cases a with
  | nil =>
    obtain ⟨u, v, rfl, e⟩ := h
    simp at e
    simp [e.1, e.2] at h0
  | cons z zs =>
    have h1 : Rot b (z :: zs.reverse) := h.trans ⟨zs.reverse, [z], by simp, by simp⟩
    obtain ⟨k, hk, e⟩ := h1.at h0
    unfold sameB
    rw [List.any_eq_true]
    refine ⟨k, List.mem_range.2 hk, ?_⟩
    unfold testB
    rw [← e, turn_eq, List.reverse_reverse]
    simp
theorem same_rot {L : List Pt} (h : Good L) {k : Nat} (hk : k ≤ L.length) : sameV L (rotL L k) = true := by
  have hg := good_rot h k hk
  unfold sameV
  rw [(poly_iff L).2 h, (poly_iff _).2 hg]
  exact same_of_rot (rot_straight k hk).symm (by have := (good_straight _ _ rfl hg).1.1; omega)

/-! ### Turned -/
theorem gt_turn (x : Pt) (xs : List Pt) {j : Nat} (hj : j < (x :: xs).length) : gt (x :: xs.reverse) j = gt (x :: xs) (if j = 0 then 0 else (x :: xs).length - j) := by
  cases j with
  | zero => rfl
  | succ j =>
    rw [if_neg (by omega)]
    simp only [List.length_cons] at hj ⊢
    rw [gt_at (by simp; omega), gt_at (by simp; omega), List.getElem_cons_succ, List.getElem_reverse]
    have e : xs.length + 1 - (j + 1) = (xs.length - 1 - j) + 1 := by omega
    simp only [e, List.getElem_cons_succ]
theorem bent_turn (x : Pt) (xs : List Pt) {j : Nat} (hj : j < (x :: xs).length) : bentB (x :: xs.reverse) j = bentB (x :: xs) (if j = 0 then 0 else (x :: xs).length - j) := by
  have hl : (x :: xs.reverse).length = (x :: xs).length := by simp
  have h0 : 0 < (x :: xs).length := by simp
  have e1 : pv (x :: xs.reverse) j = pv (x :: xs) j := by unfold pv; rw [hl]
  have e2 : nx (x :: xs.reverse) j = nx (x :: xs) j := by unfold nx; rw [hl]
  unfold bentB
  rw [e1, e2, gt_turn x xs hj, gt_turn x xs (pv_lt h0 j), gt_turn x xs (nx_lt h0 j)]
  have k1 : (if pv (x :: xs) j = 0 then 0 else (x :: xs).length - pv (x :: xs) j) = nx (x :: xs) (if j = 0 then 0 else (x :: xs).length - j) := by
    have hi : (if j = 0 then 0 else (x :: xs).length - j) < (x :: xs).length := by split <;> omega
    rw [nx_eq hi, pv_eq hj]
    (repeat' split) <;> omega
  have k2 : (if nx (x :: xs) j = 0 then 0 else (x :: xs).length - nx (x :: xs) j) = pv (x :: xs) (if j = 0 then 0 else (x :: xs).length - j) := by
    have hi : (if j = 0 then 0 else (x :: xs).length - j) < (x :: xs).length := by split <;> omega
    rw [pv_eq hi, nx_eq hj]
    (repeat' split) <;> omega
  rw [k1, k2]
  generalize gt (x :: xs) (nx (x :: xs) (if j = 0 then 0 else (x :: xs).length - j)) = a
  generalize gt (x :: xs) (if j = 0 then 0 else (x :: xs).length - j) = b
  generalize gt (x :: xs) (pv (x :: xs) (if j = 0 then 0 else (x :: xs).length - j)) = c
  have e : crossP a b c = -crossP c b a := by unfold crossP crossI; grind
  rw [e]
  congr 1
  rw [Bool.eq_iff_iff, beq_iff_eq, beq_iff_eq]
  omega
theorem rest_turn (x : Pt) (xs : List Pt) : restS x xs.reverse = (restS x xs).reverse := by
  have e : (List.range xs.length).map Nat.succ = ((List.range xs.length).map fun i => (x :: xs).length - (i + 1)).reverse := by
    apply List.ext_getElem (by simp)
    intro i h1 h2
    simp only [List.length_map, List.length_range] at h1
    rw [List.getElem_map, List.getElem_range, List.getElem_reverse, List.getElem_map, List.getElem_range]
    simp only [List.length_map, List.length_range, List.length_cons]
    omega
  have r : restS x xs = ((((List.range xs.length).map fun i => (x :: xs).length - (i + 1)).filter (bentB (x :: xs))).map (gt (x :: xs))).reverse := by
    unfold restS
    rw [e, List.filter_reverse, List.map_reverse]
  rw [r, List.reverse_reverse]
  unfold restS
  rw [List.length_reverse]
  rw [List.filter_map, List.filter_map, List.map_map, List.map_map]
  have c1 : ∀ i ∈ List.range xs.length, (bentB (x :: xs.reverse) ∘ Nat.succ) i = (bentB (x :: xs) ∘ fun i => (x :: xs).length - (i + 1)) i := fun i hi => by
    have hi := List.mem_range.1 hi
    have := bent_turn x xs (j := i + 1) (by simp; omega)
    rw [if_neg (by omega)] at this
    exact this
  rw [List.filter_congr c1]
  apply List.map_congr_left
  intro i hi
  have hi := List.mem_range.1 (List.mem_filter.1 hi).1
  have := gt_turn x xs (j := i + 1) (by simp; omega)
  rw [if_neg (by omega)] at this
  exact this
theorem rot_turn {L : List Pt} (h : 0 < L.length) : Rot (straightL (turnL L)) (straightL L).reverse := by
  cases L with
  | nil => simp at h
  | cons x xs =>
    rw [turn_eq, straight_cons, straight_cons, rest_turn]
    have : bentB (x :: xs.reverse) 0 = bentB (x :: xs) 0 := by
      have := bent_turn x xs (j := 0) (by simp)
      rwa [if_pos rfl] at this
    rw [this]
    cases bentB (x :: xs) 0
    · exact ⟨[], (restS x xs).reverse, by simp, by simp⟩
    · exact ⟨[x], (restS x xs).reverse, by simp, by simp⟩
theorem same_turn {L : List Pt} (h : Good L) (ht : Good (turnL L)) {k : Nat} (hk : k ≤ L.length) : sameV (turnL L) (rotL L k) = true := by
  have hg := good_rot h k hk
  have h0 : 0 < L.length := by have := h.1.1; omega
  unfold sameV
  rw [(poly_iff _).2 ht, (poly_iff _).2 hg]
  refine same_of_rev ?_ (by have := (good_straight _ _ rfl hg).1.1; omega)
  have := (rot_turn h0).rev
  rw [List.reverse_reverse] at this
  exact ((rot_straight k hk).symm).trans this.symm
/-- The turned polygon is one. -/
theorem sides_turn {x y : Pt} {ys : List Pt} {s : Pt × Pt} (h : s ∈ sidesL (turnL (x :: y :: ys))) : (s.2, s.1) ∈ sidesL (x :: y :: ys) := by
  obtain ⟨i, hi, rfl⟩ := mem_sides.1 h
  rw [turn_eq] at hi ⊢
  have hl : (x :: (y :: ys).reverse).length = (x :: y :: ys).length := by simp
  have hi' : i < (x :: y :: ys).length := by rw [← hl]; exact hi
  have e2 : nx (x :: (y :: ys).reverse) i = nx (x :: y :: ys) i := by unfold nx; rw [hl]
  simp only
  rw [e2, gt_turn x (y :: ys) hi', gt_turn x (y :: ys) (nx_lt (by simp) i)]
  have hk : (if nx (x :: y :: ys) i = 0 then 0 else (x :: y :: ys).length - nx (x :: y :: ys) i) < (x :: y :: ys).length := by
    have : 0 < (x :: y :: ys).length := by simp
    split <;> omega
  refine mem_sides.2 ⟨_, hk, ?_⟩
  congr 2
  rw [nx_eq hk, nx_eq hi']
  (repeat' split) <;> omega
theorem meet_flips {a b c d : Pt} (h : meetI a b c d = 0) : meetI b a d c = 0 := by
  rw [meet_zero] at h ⊢
  obtain ⟨h1, h2, h3, h4, h5⟩ := h
  refine ⟨?_, ?_, ?_, ?_, ?_⟩
  · have e1 : opp b a d c = opp a b c d := by
      rw [Bool.eq_iff_iff, opp_iff, opp_iff]
      have a1 : crossP b a d = -crossP a b d := crossP_flip a b d
      have a2 : crossP b a c = -crossP a b c := crossP_flip a b c
      omega
    have e2 : opp d c b a = opp c d a b := by
      rw [Bool.eq_iff_iff, opp_iff, opp_iff]
      have a1 : crossP d c b = -crossP c d b := crossP_flip c d b
      have a2 : crossP d c a = -crossP c d a := crossP_flip c d a
      omega
    rw [e1, e2]; exact h1
  all_goals rw [on_flip]; assumption
theorem good_turn {L : List Pt} (h : Good L) : Good (turnL L) := by
  match L, h with
  | [], h => have := h.1.1; simp at this
  | [x], h => have := h.1.1; simp at this
  | x :: y :: ys, h =>
    obtain ⟨h1, h2, h3, h4⟩ := h
    have e := turn_eq x (y :: ys)
    refine ⟨by rw [e]; simpa using h1, ?_, ?_, fun s hs t ht hst => ?_⟩
    · rw [e]
      simp only [allOk, List.all_eq_true] at h2 ⊢
      intro p hp
      refine h2 p ?_
      simpa [or_comm, or_left_comm] using hp
    · rw [e]
      have : (x :: (y :: ys).reverse).Perm (x :: y :: ys) := (List.reverse_perm _).cons x
      exact this.nodup_iff.2 h3
    · have f := h4 _ (sides_turn ht) _ (sides_turn hs) (fun e => hst (Prod.ext (congrArg Prod.snd e).symm (congrArg Prod.fst e).symm))
      simp only at f
      refine ⟨fun k => ?_, fun k1 k2 => ?_⟩
      · have := f.1 k.symm
        exact ⟨by rw [on_flip]; exact this.2, by rw [on_flip]; exact this.1⟩
      · have g := h4 _ (sides_turn hs) _ (sides_turn ht) (fun e => hst (Prod.ext (congrArg Prod.snd e) (congrArg Prod.fst e)))
        simp only at g
        exact meet_flips (g.2 (fun e => k2 e.symm) (fun e => k1 e.symm))
end Go.Proofs.Ythoniopkeiifnaa

/-! Meas -/
namespace Go.Proofs.Ythoniopkeiifnaa
open Go.RowKit

def gN (x y : Int) : Nat := Nat.gcd x.natAbs y.natAbs
def down (x y : Int) : Bool := decide (y < 0) || (y == 0 && decide (x < 0))
/-- The steps of a difference along its direction: negative if it leads the other way. -/
def stp (x y : Int) : Int := bif down x y then -(gN x y : Int) else (gN x y : Int)
def dirP (x y : Int) : Int × Int := (x.tdiv (stp x y), y.tdiv (stp x y))
theorem gN_pos {x y : Int} (h : ¬ (x = 0 ∧ y = 0)) : 0 < gN x y := by
  unfold gN
  rcases Nat.eq_zero_or_pos (Nat.gcd x.natAbs y.natAbs) with h0 | h0
  · rw [Nat.gcd_eq_zero_iff] at h0; exact absurd ⟨by omega, by omega⟩ h
  · exact h0
theorem gN_dvd (x y : Int) : (gN x y : Int) ∣ x ∧ (gN x y : Int) ∣ y :=
  ⟨Int.dvd_natAbs.1 (Int.natCast_dvd_natCast.2 (Nat.gcd_dvd_left _ _)), Int.dvd_natAbs.1 (Int.natCast_dvd_natCast.2 (Nat.gcd_dvd_right _ _))⟩
theorem gN_le {x y : Int} {m : Nat} (hx : x.natAbs ≤ m) (hy : y.natAbs ≤ m) : gN x y ≤ m := by
  unfold gN
  rcases Nat.eq_zero_or_pos x.natAbs with h | h
  · rw [h, Nat.gcd_zero_left]; exact hy
  · exact Nat.le_trans (Nat.gcd_le_left _ h) hx
theorem down_iff (x y : Int) : down x y = true ↔ y < 0 ∨ (y = 0 ∧ x < 0) := by simp [down]
theorem down_no (x y : Int) : down x y = false ↔ ¬ (y < 0 ∨ (y = 0 ∧ x < 0)) := by rw [← down_iff, Bool.not_eq_true]
theorem stp_dvd (x y : Int) : stp x y ∣ x ∧ stp x y ∣ y := by
  unfold stp
  cases down x y
  · exact gN_dvd x y
  · exact ⟨Int.neg_dvd.2 (gN_dvd x y).1, Int.neg_dvd.2 (gN_dvd x y).2⟩
theorem stp_ne {x y : Int} (h : ¬ (x = 0 ∧ y = 0)) : stp x y ≠ 0 := by
  have := gN_pos h
  unfold stp
  cases down x y <;> simp only [cond_true, cond_false] <;> omega
theorem stp_abs (x y : Int) : (stp x y).natAbs = gN x y := by
  unfold stp
  cases down x y <;> simp
theorem dir_mul (x y : Int) : (dirP x y).1 * stp x y = x ∧ (dirP x y).2 * stp x y = y :=
  ⟨Int.tdiv_mul_cancel (stp_dvd x y).1, Int.tdiv_mul_cancel (stp_dvd x y).2⟩
theorem gN_mul (a b k : Int) : gN (a * k) (b * k) = gN a b * k.natAbs := by
  unfold gN
  rw [Int.natAbs_mul, Int.natAbs_mul, Nat.gcd_mul_right]
/-- A pair that is a direction. -/
def isDir (x y : Int) : Bool := (decide (0 < y) || (y == 0 && x == 1)) && gN x y == 1
theorem isDir_iff (x y : Int) : isDir x y = true ↔ (0 < y ∨ (y = 0 ∧ x = 1)) ∧ gN x y = 1 := by simp [isDir]
theorem dir_is {x y : Int} (h : ¬ (x = 0 ∧ y = 0)) : isDir (dirP x y).1 (dirP x y).2 = true := by
  obtain ⟨h1, h2⟩ := dir_mul x y
  have hs := stp_ne h
  have hg := gN_pos h
  have hab := stp_abs x y
  have hG := gN_mul (dirP x y).1 (dirP x y).2 (stp x y)
  rw [h1, h2, hab] at hG
  have hone : gN (dirP x y).1 (dirP x y).2 = 1 := by
    have : gN (dirP x y).1 (dirP x y).2 * gN x y = 1 * gN x y := by omega
    exact Nat.eq_of_mul_eq_mul_right hg this
  rw [isDir_iff]
  refine ⟨?_, hone⟩
  generalize hp : dirP x y = d at *
  obtain ⟨a, b⟩ := d
  simp only at h1 h2 hone ⊢
  cases hd : down x y
  · have e : stp x y = gN x y := by unfold stp; rw [hd]; rfl
    rw [down_no] at hd
    have hpos : 0 < stp x y := by omega
    have hb : 0 ≤ b := by
      rcases Int.lt_or_le b 0 with q | q
      · have := Int.mul_neg_of_neg_of_pos q hpos; omega
      · exact q
    rcases Int.lt_or_eq_of_le hb with q | q
    · exact .inl q
    · right
      refine ⟨q.symm, ?_⟩
      subst q
      have ha : 0 < a := by
        rcases Int.lt_or_le 0 a with q | q
        · exact q
        · have := Int.mul_nonpos_of_nonpos_of_nonneg q (Int.le_of_lt hpos)
          rw [Int.zero_mul] at h2
          omega
      unfold gN at hone
      simp at hone
      omega
  · have e : stp x y = -(gN x y : Int) := by unfold stp; rw [hd]; rfl
    rw [down_iff] at hd
    have hneg : stp x y < 0 := by omega
    have hb : 0 ≤ b := by
      rcases Int.lt_or_le b 0 with q | q
      · have := Int.mul_pos_of_neg_of_neg q hneg; omega
      · exact q
    rcases Int.lt_or_eq_of_le hb with q | q
    · exact .inl q
    · right
      refine ⟨q.symm, ?_⟩
      subst q
      have ha : 0 < a := by
        rcases Int.lt_or_le 0 a with q | q
        · exact q
        · have := Int.mul_nonneg_of_nonpos_of_nonpos q (Int.le_of_lt hneg)
          rw [Int.zero_mul] at h2
          omega
      unfold gN at hone
      simp at hone
      omega
/-- A direction that leads along a difference is its direction. -/
theorem dir_eq {x y a b k : Int} (hk : k ≠ 0) (hd : isDir a b = true) (hx : a * k = x) (hy : b * k = y) : dirP x y = (a, b) ∧ stp x y = k := by
  rw [isDir_iff] at hd
  obtain ⟨h1, h2⟩ := hd
  have hg : gN x y = k.natAbs := by rw [← hx, ← hy, gN_mul, h2, Nat.one_mul]
  have hs : stp x y = k := by
    unfold stp
    cases hdn : down x y
    · rw [down_no] at hdn
      simp only [cond_false]
      rcases Int.lt_or_le k 0 with q | q
      · exfalso; apply hdn
        rcases h1 with p | ⟨p, p'⟩
        · left; rw [← hy]; exact Int.mul_neg_of_pos_of_neg p q
        · right; refine ⟨by rw [← hy, p, Int.zero_mul], by rw [← hx, p']; omega⟩
      · omega
    · rw [down_iff] at hdn
      simp only [cond_true]
      rcases Int.lt_or_le 0 k with q | q
      · exfalso
        rcases h1 with p | ⟨p, p'⟩
        · have := Int.mul_pos p q; omega
        · subst p p'; simp at hx hy; omega
      · omega
  refine ⟨?_, hs⟩
  unfold dirP
  rw [hs, ← hx, ← hy, Int.mul_tdiv_cancel _ hk, Int.mul_tdiv_cancel _ hk]
/-- The model's sign of the steps. -/
theorem stp_model {x y : Int} (h : ¬ (x = 0 ∧ y = 0)) : stp x y = if x = (dirP x y).1 * (gN x y : Int) ∧ y = (dirP x y).2 * (gN x y : Int) then (gN x y : Int) else -(gN x y : Int) := by
  obtain ⟨h1, h2⟩ := dir_mul x y
  have hg := gN_pos h
  rcases (show stp x y = gN x y ∨ stp x y = -(gN x y : Int) by unfold stp; cases down x y <;> simp) with e | e
  · rw [if_pos ⟨by rw [← e, h1], by rw [← e, h2]⟩, e]
  · rw [e]
    split
    case isTrue q =>
      exfalso
      rw [e] at h1 h2
      obtain ⟨q1, q2⟩ := q
      rw [Int.mul_neg] at h1 h2
      exact h ⟨by omega, by omega⟩
    case isFalse => rfl
/-- The model's direction: divide by the common divisor, then turn if it leads down. -/
theorem dir_model {x y : Int} (h : ¬ (x = 0 ∧ y = 0)) : dirP x y = bif down (x.tdiv (gN x y)) (y.tdiv (gN x y)) then (-(x.tdiv (gN x y)), -(y.tdiv (gN x y))) else (x.tdiv (gN x y), y.tdiv (gN x y)) := by
  have hg := gN_pos h
  obtain ⟨e1, e2⟩ := gN_dvd x y
  have m1 := Int.tdiv_mul_cancel e1
  have m2 := Int.tdiv_mul_cancel e2
  have hd : down (x.tdiv (gN x y)) (y.tdiv (gN x y)) = down x y := by
    have hgi : (0 : Int) < (gN x y : Int) := by omega
    generalize hqx : x.tdiv (gN x y) = qx at *
    generalize hqy : y.tdiv (gN x y) = qy at *
    rw [Bool.eq_iff_iff, down_iff, down_iff]
    have s1 : qy < 0 ↔ y < 0 := by
      rw [← m2]; constructor
      · exact fun q => Int.mul_neg_of_neg_of_pos q hgi
      · intro q
        rcases Int.lt_or_le qy 0 with p | p
        · exact p
        · have := Int.mul_nonneg p (Int.le_of_lt hgi); omega
    have s2 : qx < 0 ↔ x < 0 := by
      rw [← m1]; constructor
      · exact fun q => Int.mul_neg_of_neg_of_pos q hgi
      · intro q
        rcases Int.lt_or_le qx 0 with p | p
        · exact p
        · have := Int.mul_nonneg p (Int.le_of_lt hgi); omega
    have s3 : qy = 0 ↔ y = 0 := by
      rw [← m2]; constructor
      · intro q; rw [q, Int.zero_mul]
      · intro q; rcases Int.mul_eq_zero.1 q with p | p
        · exact p
        · omega
    rw [s1, s2, s3]
  rw [hd]
  unfold dirP stp
  cases down x y
  · rfl
  · simp only [cond_true, Int.tdiv_neg]
theorem dir_small {x y : Int} {m : Nat} (h : ¬ (x = 0 ∧ y = 0)) (hx : x.natAbs ≤ m) (hy : y.natAbs ≤ m) : (dirP x y).1.natAbs ≤ m ∧ (dirP x y).2.natAbs ≤ m := by
  obtain ⟨h1, h2⟩ := dir_mul x y
  have hs := stp_ne h
  have q : 1 ≤ (stp x y).natAbs := by omega
  have a1 := congrArg Int.natAbs h1
  have a2 := congrArg Int.natAbs h2
  rw [Int.natAbs_mul] at a1 a2
  have b1 := Nat.le_mul_of_pos_right (dirP x y).1.natAbs q
  have b2 := Nat.le_mul_of_pos_right (dirP x y).2.natAbs q
  omega
/-! ### Ordered lists of directions with measures -/
abbrev Ms := List ((Int × Int) × Int)
def befZ (a b : Int × Int) : Bool := decide (a.2 < b.2) || (a.2 == b.2 && decide (a.1 < b.1))
theorem befZ_iff (a b : Int × Int) : befZ a b = true ↔ a.2 < b.2 ∨ (a.2 = b.2 ∧ a.1 < b.1) := by simp [befZ]
theorem befZ_no (a b : Int × Int) : befZ a b = false ↔ ¬ (a.2 < b.2 ∨ (a.2 = b.2 ∧ a.1 < b.1)) := by rw [← befZ_iff, Bool.not_eq_true]
theorem befZ_trans {a b c : Int × Int} (h1 : befZ a b = true) (h2 : befZ b c = true) : befZ a c = true := by
  rw [befZ_iff] at *; omega
theorem befZ_irr (a : Int × Int) : befZ a a = false := by rw [befZ_no]; omega
theorem befZ_total {a b : Int × Int} (h : a ≠ b) : befZ a b = true ∨ befZ b a = true := by
  rw [befZ_iff, befZ_iff]
  rcases a with ⟨a1, a2⟩; rcases b with ⟨b1, b2⟩
  have : ¬ (a1 = b1 ∧ a2 = b2) := fun e => h (by rw [e.1, e.2])
  simp only
  omega
/-- Puts a measure into an ordered list, or adds it to that of the same direction. -/
def putM : Ms → (Int × Int) → Int → Ms
  | [], d, n => if n = 0 then [] else [(d, n)]
  | a :: M, d, n => bif befZ a.1 d then a :: putM M d n else if a.1 = d then (if n + a.2 = 0 then M else (d, n + a.2) :: M) else (if n = 0 then a :: M else (d, n) :: a :: M)
/-- Ordered, each once, no measure zero. -/
def OrdM (M : Ms) : Prop := M.Pairwise (fun a b => befZ a.1 b.1 = true) ∧ ∀ a ∈ M, a.2 ≠ 0
def valM (M : Ms) (d : Int × Int) : Int := match M with
  | [] => 0
  | a :: M => if a.1 = d then a.2 else valM M d
theorem valM_none {M : Ms} {d : Int × Int} (h : ∀ a ∈ M, a.1 ≠ d) : valM M d = 0 := by
  induction M with
  | nil => rfl
  | cons a M ih => rw [valM, if_neg (h a (by simp))]; exact ih fun b hb => h b (by simp [hb])
theorem valM_mem {M : Ms} (h : OrdM M) {a : (Int × Int) × Int} (ha : a ∈ M) : valM M a.1 = a.2 := by
  induction M with
  | nil => cases ha
  | cons b M ih =>
    rcases List.mem_cons.1 ha with rfl | hm
    · rw [valM, if_pos rfl]
    · have hb := (List.pairwise_cons.1 h.1).1 a hm
      rw [valM, if_neg (fun e => by rw [e, befZ_irr] at hb; cases hb)]
      exact ih ⟨(List.pairwise_cons.1 h.1).2, fun c hc => h.2 c (by simp [hc])⟩ hm
theorem valM_iff {M : Ms} (h : OrdM M) (d : Int × Int) : valM M d ≠ 0 ↔ d ∈ M.map Prod.fst := by
  constructor
  · intro hv
    rcases Classical.em (d ∈ M.map Prod.fst) with q | q
    · exact q
    · exact absurd (valM_none fun a ha e => q (List.mem_map.2 ⟨a, ha, e⟩)) hv
  · intro hm
    obtain ⟨a, ha, rfl⟩ := List.mem_map.1 hm
    rw [valM_mem h ha]; exact h.2 a ha
theorem putM_keys {M : Ms} {d : Int × Int} {n : Int} {a : (Int × Int) × Int} (h : a ∈ putM M d n) : a.1 = d ∨ a ∈ M := by
  induction M with
  | nil =>
    unfold putM at h
    split at h
    · cases h
    · rw [List.mem_singleton.1 h]; exact .inl rfl
  | cons b M ih =>
    unfold putM at h
    cases hb : befZ b.1 d
    · rw [hb] at h; simp only [cond_false] at h
      split at h
      · split at h
        · exact .inr (by simp [h])
        · rcases List.mem_cons.1 h with rfl | q
          · exact .inl rfl
          · exact .inr (by simp [q])
      · split at h
        · exact .inr h
        · rcases List.mem_cons.1 h with rfl | q
          · exact .inl rfl
          · exact .inr q
    · rw [hb] at h; simp only [cond_true] at h
      rcases List.mem_cons.1 h with rfl | q
      · exact .inr (by simp)
      · rcases ih q with q | q
        · exact .inl q
        · exact .inr (by simp [q])
theorem putM_ord {M : Ms} (h : OrdM M) (d : Int × Int) (n : Int) : OrdM (putM M d n) := by
  induction M with
  | nil =>
    unfold putM
    split
    · exact h
    · rename_i hn
      exact ⟨by simp, fun a ha => by rw [List.mem_singleton.1 ha]; exact hn⟩
  | cons b M ih =>
    have hp := List.pairwise_cons.1 h.1
    have h' : OrdM M := ⟨hp.2, fun c hc => h.2 c (by simp [hc])⟩
    unfold putM
    cases hb : befZ b.1 d
    · simp only [cond_false]
      split
      · rename_i he
        split
        · exact h'
        · rename_i hn
          refine ⟨List.pairwise_cons.2 ⟨fun c hc => by have := hp.1 c hc; rw [he] at this; exact this, hp.2⟩, fun c hc => ?_⟩
          rcases List.mem_cons.1 hc with rfl | q
          · exact hn
          · exact h.2 c (by simp [q])
      · rename_i he
        split
        · exact h
        · rename_i hn
          have hdb : befZ d b.1 = true := by
            rcases befZ_total he with q | q
            · rw [hb] at q; cases q
            · exact q
          refine ⟨List.pairwise_cons.2 ⟨fun c hc => ?_, h.1⟩, fun c hc => ?_⟩
          · rcases List.mem_cons.1 hc with rfl | q
            · exact hdb
            · exact befZ_trans hdb (hp.1 c q)
          · rcases List.mem_cons.1 hc with rfl | q
            · exact hn
            · exact h.2 c q
    · simp only [cond_true]
      have hi := ih h'
      refine ⟨List.pairwise_cons.2 ⟨fun c hc => ?_, hi.1⟩, fun c hc => ?_⟩
      · rcases putM_keys hc with q | q
        · rw [q]; exact hb
        · exact hp.1 c q
      · rcases List.mem_cons.1 hc with rfl | q
        · exact h.2 c (by simp)
        · exact hi.2 c q
theorem valM_put {M : Ms} (h : OrdM M) (d : Int × Int) (n : Int) (e : Int × Int) : valM (putM M d n) e = valM M e + if e = d then n else 0 := by
  induction M with
  | nil =>
    unfold putM
    split
    · rename_i hn; subst hn; simp [valM]
    · rename_i hn
      simp only [valM]
      by_cases q : d = e
      · subst q; simp
      · rw [if_neg q, if_neg (Ne.symm q)]; rfl
  | cons b M ih =>
    have hp := List.pairwise_cons.1 h.1
    have h' : OrdM M := ⟨hp.2, fun c hc => h.2 c (by simp [hc])⟩
    unfold putM
    cases hb : befZ b.1 d
    · simp only [cond_false]
      split
      · rename_i he
        subst he
        have hno : ∀ a ∈ M, a.1 ≠ b.1 := fun a ha q => by have := hp.1 a ha; rw [q, befZ_irr] at this; cases this
        split
        · rename_i hn
          by_cases q : e = b.1
          · subst q
            rw [valM_none hno, valM, if_pos rfl, if_pos rfl]; omega
          · rw [valM, if_neg (Ne.symm q), if_neg q]; omega
        · by_cases q : e = b.1
          · subst q
            simp only [valM, if_pos]; omega
          · rw [valM, valM, if_neg (Ne.symm q), if_neg (Ne.symm q), if_neg q]; omega
      · rename_i he
        have hdb : befZ d b.1 = true := by
          rcases befZ_total he with q | q
          · rw [hb] at q; cases q
          · exact q
        have hno : ∀ a ∈ b :: M, a.1 ≠ d := fun a ha q => by
          rcases List.mem_cons.1 ha with rfl | hm
          · exact he q
          · have := befZ_trans hdb (hp.1 a hm); rw [q, befZ_irr] at this; cases this
        split
        · rename_i hn; subst hn; simp
        · by_cases q : e = d
          · subst q
            rw [valM, if_pos rfl, if_pos rfl, valM_none hno]; omega
          · rw [valM, if_neg (Ne.symm q), if_neg q]; omega
    · simp only [cond_true]
      rw [valM, valM, ih h']
      split
      · rename_i he
        subst he
        rw [if_neg (fun q => by rw [q, befZ_irr] at hb; cases hb)]; omega
      · rfl
/-- Two ordered lists that tell the same for every direction are equal. -/
theorem ordM_ext {M : Ms} : ∀ {N : Ms}, OrdM M → OrdM N → (∀ d, valM M d = valM N d) → M = N := by
  induction M with
  | nil =>
    intro N _ hN h
    cases N with
    | nil => rfl
    | cons b N =>
      have := h b.1
      rw [valM, valM, if_pos rfl] at this
      exact absurd this.symm (hN.2 b (by simp))
  | cons a M ih =>
    intro N hM hN h
    have hp := List.pairwise_cons.1 hM.1
    cases N with
    | nil =>
      have := h a.1
      rw [valM, valM, if_pos rfl] at this
      exact absurd this (hM.2 a (by simp))
    | cons b N =>
      have hq := List.pairwise_cons.1 hN.1
      have hab : a.1 = b.1 := by
        rcases Classical.em (a.1 = b.1) with e | e
        · exact e
        · exfalso
          rcases befZ_total e with q | q
          · have hv := h a.1
            rw [valM, if_pos rfl, valM_none (fun c hc => ?_)] at hv
            · exact hM.2 a (by simp) hv
            · rcases List.mem_cons.1 hc with rfl | hm
              · exact Ne.symm e
              · intro r; have := befZ_trans q (hq.1 c hm); rw [r, befZ_irr] at this; cases this
          · have hv := h b.1
            rw [valM_none (fun c hc => ?_), valM, if_pos rfl] at hv
            · exact hN.2 b (by simp) hv.symm
            · rcases List.mem_cons.1 hc with rfl | hm
              · exact e
              · intro r; have := befZ_trans q (hp.1 c hm); rw [r, befZ_irr] at this; cases this
      have hv := h a.1
      rw [valM, if_pos rfl, hab, valM, if_pos rfl] at hv
      obtain ⟨a1, a2⟩ := a; obtain ⟨b1, b2⟩ := b
      simp only at hab hv
      subst hab hv
      congr 1
      refine ih ⟨hp.2, fun c hc => hM.2 c (by simp [hc])⟩ ⟨hq.2, fun c hc => hN.2 c (by simp [hc])⟩ (fun d => ?_)
      have hd := h d
      rw [valM, valM] at hd
      simp only at hd
      by_cases q : a1 = d
      · subst q
        rw [valM_none (fun c hc r => by have := hp.1 c hc; rw [r, befZ_irr] at this; cases this), valM_none (fun c hc r => by have := hq.1 c hc; rw [r, befZ_irr] at this; cases this)]
      · rw [if_neg q, if_neg q] at hd; exact hd
theorem ordM_nil : OrdM [] := ⟨List.Pairwise.nil, fun _ h => by cases h⟩
theorem putM_len (M : Ms) (d : Int × Int) (n : Int) : (putM M d n).length ≤ M.length + 1 := by
  induction M with
  | nil => unfold putM; split <;> simp
  | cons b M ih =>
    unfold putM
    cases befZ b.1 d
    · simp only [cond_false]
      split
      · split
        · simp only [List.length_cons]; omega
        · simp only [List.length_cons]; omega
      · split <;> simp only [List.length_cons] <;> omega
    · simp only [cond_true, List.length_cons]; omega
end Go.Proofs.Ythoniopkeiifnaa

/-! CmpPt -/
namespace Go.Proofs.Ythoniopkeiifnaa
open Go.RowKit

def befP (a b : Int × Int) : Bool := beforeB a.1 a.2 b.1 b.2
def cmpI (a b : Int × Int) : Int := bif befP a b then -1 else bif befP b a then 1 else 0
theorem befP_iff (a b : Int × Int) : befP a b = true ↔ a.2 < b.2 ∨ (a.2 = b.2 ∧ a.1 < b.1) := by
  simp [befP, beforeB]
theorem befP_no (a b : Int × Int) : befP a b = false ↔ ¬ (a.2 < b.2 ∨ (a.2 = b.2 ∧ a.1 < b.1)) := by
  rw [← befP_iff, Bool.not_eq_true]
theorem bef_grow (ax ay bx by' : Int) (w : World) :
    Calls Try.prog 58 #[(.agg #[.int .i64 ax, .int .i64 ay]), (.agg #[.int .i64 bx, .int .i64 by'])] w fun e w' => e = .returned (.bool (beforeB ax ay bx by')) ∧ ∃ os, w' = Go.Sort.grow w os := by
  cases h1 : decide (ay < by')
  · cases h2 : (ay == by')
    · go_enter Try.func58, Try.ntmps58
      go_wp2_with fail
      go_ret
      exact ⟨ret_bool (by simp only [beforeB, h1, h2]; rfl), _, by rw [Go.Sort.alloc_eq_grow, Go.Sort.alloc_eq_grow, Go.Sort.grow_grow]⟩
    · go_enter Try.func58, Try.ntmps58
      go_wp2_with fail
      go_ret
      exact ⟨ret_bool (by simp only [beforeB, h1, h2, Bool.false_or, Bool.true_and]), _, by rw [Go.Sort.alloc_eq_grow, Go.Sort.alloc_eq_grow, Go.Sort.grow_grow]⟩
  · go_enter Try.func58, Try.ntmps58
    go_wp2_with fail
    go_ret
    exact ⟨ret_bool (by simp only [beforeB, h1]; rfl), _, by rw [Go.Sort.alloc_eq_grow, Go.Sort.alloc_eq_grow, Go.Sort.grow_grow]⟩
theorem below_grow (w : World) (os : Array Obj) : Below w.heap.size w (Go.Sort.grow w os) := below_regrown w w.drawn os
theorem two_grow (w : World) (o p : Obj) (os : Array Obj) : Go.Sort.grow ((w.alloc o).alloc p) os = Go.Sort.grow w (#[o] ++ #[p] ++ os) := by
  rw [Go.Sort.alloc_eq_grow, Go.Sort.alloc_eq_grow, Go.Sort.grow_grow, Go.Sort.grow_grow, Array.append_assoc]
theorem cmp_any (ax ay bx by' : Int) (w : World) :
    Calls Try.prog 148 #[(.agg #[.int .i64 ax, .int .i64 ay]), (.agg #[.int .i64 bx, .int .i64 by'])] w fun e w' => e = .returned (.int .i64 (cmpI (ax, ay) (bx, by'))) ∧ ∃ os, w' = Go.Sort.grow w os := by
  have hb0 := two_grow w (.cells #[.int .i64 ax, .int .i64 ay] 45) (.cells #[.int .i64 bx, .int .i64 by'] 45)
  have t0 := two0 w ax ay bx by' 45
  have c1 := t0.1.c0; have c2 := t0.1.c1; have c3 := t0.2.c0; have c4 := t0.2.c1
  have HV : Hid (cmpI (ax, ay) (bx, by') = bif beforeB ax ay bx by' then -1 else bif beforeB bx by' ax ay then 1 else 0) := rfl
  have HT := Lib.hid t0
  have HG := Lib.hid hb0
  clear hb0 t0
  cases h1 : beforeB ax ay bx by'
  · have H1 := Lib.hid (fun w => bef_grow ax ay bx by' w)
    rw [h1] at H1 HV
    go_enter Try.func148, Try.ntmps148
    go_wp2_with fail
    refine (H1.out _).mono ?_
    rintro e w1 ⟨rfl, os1, rfl⟩
    have t1 := HT.out.step (below_grow _ os1)
    have d1 := t1.1.c0; have d2 := t1.1.c1; have d3 := t1.2.c0; have d4 := t1.2.c1
    rw [HG.out] at d1 d2 d3 d4 ⊢
    clear c1 c2 c3 c4 t1
    generalize #[Obj.cells #[.int .i64 ax, .int .i64 ay] 45] ++ #[Obj.cells #[.int .i64 bx, .int .i64 by'] 45] ++ os1 = os2 at *
    obtain ⟨w2, hw2⟩ : ∃ w2, w2 = Go.Sort.grow w os2 := ⟨_, rfl⟩
    have HW := Lib.hid hw2
    rw [← hw2] at d1 d2 d3 d4 ⊢
    clear hw2
    cases h2 : beforeB bx by' ax ay
    all_goals (
      have H2 := Lib.hid (fun w => bef_grow bx by' ax ay w)
      rw [h2] at H2 HV
      go_wp2_with fail
      refine (H2.out _).mono ?_
      rintro e w3 ⟨rfl, os3, rfl⟩
      have HW3 : Hid (Go.Sort.grow w2 os3 = Go.Sort.grow w (os2 ++ os3)) := by
        show _ = _
        rw [HW.out, Go.Sort.grow_grow]
      rw [HW3.out]
      clear d1 d2 d3 d4
      generalize os2 ++ os3 = os4 at *
      go_wp2_with fail
      go_ret
      exact ⟨ret_int HV.out.symm, _, rfl⟩)
  · have H1 := Lib.hid (fun w => bef_grow ax ay bx by' w)
    rw [h1] at H1 HV
    go_enter Try.func148, Try.ntmps148
    go_wp2_with fail
    refine (H1.out _).mono ?_
    rintro e w1 ⟨rfl, os1, rfl⟩
    rw [HG.out]
    clear c1 c2 c3 c4
    generalize #[Obj.cells #[.int .i64 ax, .int .i64 ay] 45] ++ #[Obj.cells #[.int .i64 bx, .int .i64 by'] 45] ++ os1 = os2 at *
    go_wp2_with fail
    go_ret
    exact ⟨ret_int HV.out.symm, _, rfl⟩
end Go.Proofs.Ythoniopkeiifnaa

/-! Head -/
namespace Go.Proofs.Ythoniopkeiifnaa
open Go.RowKit

theorem before_down (ax ay bx by' : Int) : beforeB bx by' ax ay = down (bx - ax) (by' - ay) := by
  unfold beforeB down
  rw [Bool.eq_iff_iff]
  simp only [Bool.or_eq_true, Bool.and_eq_true, decide_eq_true_eq, beq_iff_eq]
  omega
theorem impl_bef (ax ay bx by' : Int) (w : World) :
    Calls Try.prog 58 #[(.agg #[.int .i64 ax, .int .i64 ay]), (.agg #[.int .i64 bx, .int .i64 by'])] w fun e w' => e = .returned (.bool (beforeB ax ay bx by')) ∧ Below w.heap.size w w' :=
  (bef_grow ax ay bx by' w).mono (by rintro e w' ⟨rfl, os, rfl⟩; exact ⟨rfl, below_grow _ _⟩)
/-- A boxed side. -/
def SideB (W : World) (g : Nat) (ax ay bx by' : Int) : Prop := W.heap[g]? = some (.cells #[.int .i64 ax, .int .i64 ay, .int .i64 bx, .int .i64 by'] 99 (0, 0))
theorem SideB.lt {W : World} {g : Nat} {ax ay bx by' : Int} (h : SideB W g ax ay bx by') : g < W.heap.size := (Array.getElem?_eq_some_iff.1 h).1
theorem SideB.step {W W' : World} {g : Nat} {ax ay bx by' : Int} (h : SideB W g ax ay bx by') (hb : Below W.heap.size W W') : SideB W' g ax ay bx by' := (hb.block g h.lt).trans h
theorem sideB_new (W : World) (ax ay bx by' : Int) (o : Obj) : SideB ((W.alloc (.cells #[.int .i64 ax, .int .i64 ay, .int .i64 bx, .int .i64 by'] 99)).alloc o) W.heap.size ax ay bx by' :=
  (Below.heap_alloc _ o W.heap.size (by simp)).trans (heap_alloc_new W _)
theorem SideB.cells {W : World} {g : Nat} {ax ay bx by' : Int} (h : SideB W g ax ay bx by') :
    W.cell? ⟨g, 0, none⟩ = some (.int .i64 ax) ∧ W.cell? ⟨g, 1, none⟩ = some (.int .i64 ay) ∧ W.cell? ⟨g, 2, none⟩ = some (.int .i64 bx) ∧ W.cell? ⟨g, 3, none⟩ = some (.int .i64 by') :=
  ⟨cell_of_row W g 0 _ _ _ h, cell_of_row W g 1 _ _ _ h, cell_of_row W g 2 _ _ _ h, cell_of_row W g 3 _ _ _ h⟩
def headV (dx dy : Int) : Value := .tuple #[(.agg #[.int .i64 (dirP dx dy).1, .int .i64 (dirP dx dy).2]), .int .i64 (stp dx dy)]
set_option maxRecDepth 100000 in
set_option maxHeartbeats 2000000 in
theorem head_any (ax ay bx by' : Int) (w : World) (ha : okP ax ay = true) (hb : okP bx by' = true) (hne : ¬ (bx - ax = 0 ∧ by' - ay = 0)) :
    Calls Try.prog 151 #[.agg #[.int .i64 ax, .int .i64 ay, .int .i64 bx, .int .i64 by']] w fun e w' => e = .returned (headV (bx - ax) (by' - ay)) ∧ Below w.heap.size w w' := by
  have h1 := okP_bounds ha; have h2 := okP_bounds hb
  have hn := stp_ne hne
  have hab := stp_abs (bx - ax) (by' - ay)
  have hle : gN (bx - ax) (by' - ay) ≤ 40 := gN_le (by omega) (by omega)
  obtain ⟨hd1, hd2⟩ := dir_small hne (m := 40) (by omega) (by omega)
  have HS := fun W => impl_steps ax ay bx by' W
  have e0 : stepsV ax ay bx by' = (gN (bx - ax) (by' - ay) : Int) := by rw [stepsV, ha, hb]; rfl
  rw [e0] at HS
  have HB := fun W => impl_bef bx by' ax ay W
  rw [before_down] at HB
  have HM := fun W => minus_any bx by' ax ay W
  rw [wrap_id (x := bx - ax) (by omega), wrap_id (x := by' - ay) (by omega)] at HM
  have HV : Hid (headV (bx - ax) (by' - ay) = .tuple #[(.agg #[.int .i64 ((bx - ax).tdiv (stp (bx - ax) (by' - ay))), .int .i64 ((by' - ay).tdiv (stp (bx - ax) (by' - ay)))]), .int .i64 (stp (bx - ax) (by' - ay))]) := rfl
  have hdd : dirP (bx - ax) (by' - ay) = ((bx - ax).tdiv (stp (bx - ax) (by' - ay)), (by' - ay).tdiv (stp (bx - ax) (by' - ay))) := rfl
  have hsd : stp (bx - ax) (by' - ay) = bif down (bx - ax) (by' - ay) then -(gN (bx - ax) (by' - ay) : Int) else (gN (bx - ax) (by' - ay) : Int) := rfl
  rw [hdd] at hd1 hd2
  clear hdd
  generalize stp (bx - ax) (by' - ay) = s at *
  generalize gN (bx - ax) (by' - ay) = g at *
  generalize down (bx - ax) (by' - ay) = d at *
  generalize bx - ax = dx at *
  generalize by' - ay = dy at *
  obtain ⟨q1, hq1⟩ : ∃ q, q = dx.tdiv s := ⟨_, rfl⟩
  obtain ⟨q2, hq2⟩ : ∃ q, q = dy.tdiv s := ⟨_, rfl⟩
  simp only [← hq1, ← hq2] at hd1 hd2 HV
  have HS := Lib.hid HS; have HB := Lib.hid HB; have HM := Lib.hid HM
  have n1 : wrap64 q1 = q1 := wrap_id (by omega)
  have n2 : wrap64 q2 = q2 := wrap_id (by omega)
  have n3 : wrap64 (-(g : Int)) = -(g : Int) := wrap_id (by omega)
  have hG : 0 ≤ (g : Int) := by omega
  clear hab hle e0
  generalize (g : Int) = g at *
  have hb0 := below2 w (.cells #[.int .i64 ax, .int .i64 ay, .int .i64 bx, .int .i64 by'] 99) (.cells #[.int .i64 0, .int .i64 0] 45)
  go_enter Try.func151, Try.ntmps151
  go_wp2_with fail
  refine (HS.out _).mono ?_
  rintro e w3 ⟨rfl, hb3⟩
  have t3 := (sideB_new w ax ay bx by' (.cells #[.int .i64 0, .int .i64 0] 45)).step hb3
  have r3 := (at_new (w.alloc (.cells #[.int .i64 ax, .int .i64 ay, .int .i64 bx, .int .i64 by'] 99)) 0 0 45).step hb3
  have b3 := below_on hb0 hb3
  simp only [World.size_alloc] at r3
  clear hb3 hb0
  obtain ⟨c0, c1, c2, c3⟩ := t3.cells
  go_wp2_with fail
  refine (HB.out _).mono ?_
  rintro e w4 ⟨rfl, hb4⟩
  have t4 := t3.step hb4
  have r4 := r3.step hb4
  have b4 := below_on b3 hb4
  clear hb4 b3 r3 t3 c0 c1 c2 c3
  obtain ⟨c0, c1, c2, c3⟩ := t4.cells
  have RS : ∀ (W : World), At W (w.heap.size + 1) 0 0 45 → Below w.heap.size w W → At ((W.setCell ⟨w.heap.size + 1, 0, none⟩ (.int .i64 q1)).setCell ⟨w.heap.size + 1, 1, none⟩ (.int .i64 q2)) (w.heap.size + 1) q1 q2 45 ∧ Below w.heap.size w (((W.setCell ⟨w.heap.size + 1, 0, none⟩ (.int .i64 q1)).setCell ⟨w.heap.size + 1, 1, none⟩ (.int .i64 q2)).drew) := fun W hr hb =>
    ⟨at_st1 (at_st0 hr q1 0) q2, ((hb.setCell (p := ⟨w.heap.size + 1, 0, none⟩) (Nat.le_succ _) _).setCell (p := ⟨w.heap.size + 1, 1, none⟩) (Nat.le_succ _) _).drew⟩
  have RS := Lib.hid RS
  have hs0 : s ≠ 0 := hn
  have e3 : IntKind.i64.wrap q1 = q1 := IntWalk.i64_in _ (by omega)
  have e4 : IntKind.i64.wrap q2 = q2 := IntWalk.i64_in _ (by omega)
  cases d
  all_goals simp only [cond_true, cond_false] at hsd
  case' false => subst hsd
  case' true => have n4 := n3.trans hsd.symm; clear n3 hsd
  all_goals
    go_wp2_with fail
    refine (HM.out _).mono ?_
    rintro e w5 ⟨rfl, hb5⟩
    have r6 := (r4.step hb5).alloc (.cells #[.int .i64 dx, .int .i64 dy] 45)
    have b5 := (below_on b4 hb5).alloc (Nat.le_trans b4.size hb5.size) (.cells #[.int .i64 dx, .int .i64 dy] 45)
    have a5 := at_new w5 dx dy 45
    clear hb5 b4 r4 t4 c0 c1 c2 c3
    go_wp2_with fail
    have d1 := a5.c0; have d2 := a5.c1
    have d3 := r6.c0; have d4 := r6.c1
    have d5 := at_froz r6 0; have d6 := at_froz r6 1
    obtain ⟨R1, R2⟩ := RS.out _ r6 b5
    have g1 := R1.c0; have g2 := R1.c1
    have f1 : wrap64 (_ : Int) = q1 := (congrArg wrap64 hq1.symm).trans n1
    have f2 : wrap64 (_ : Int) = q2 := (congrArg wrap64 hq2.symm).trans n2
    have f3 : IntKind.i64.wrap (_ : Int) = q1 := (congrArg IntKind.i64.wrap hq1.symm).trans e3
    have f4 : IntKind.i64.wrap (_ : Int) = q2 := (congrArg IntKind.i64.wrap hq2.symm).trans e4
    have R2 := Lib.hid R2
    clear hq1 hq2 n1 n2 e3 e4 R1 RS r6 b5 a5
    go_region
    go_wp2_with fail
    refine bodyPost_ret (v := .tuple #[.agg #[.int .i64 q1, .int .i64 q2], .int .i64 _]) (by simp [results, Try.results151, go_sem, g1, g2]; first | done | rfl) rfl ⟨by rw [HV.out], R2.out⟩
end Go.Proofs.Ythoniopkeiifnaa

/-! Key -/
namespace Go.Proofs.Ythoniopkeiifnaa
open Go.RowKit
open Go.Maps (Keyed)

/-- What a key reads as. -/
def kl (a b : Int) : Lit := .string (keyBytes [.int .i64 a, .int .i64 b])
def wf64 (a : Int) : Prop := (Lit.int .i64 a).wf = true
/-- A struct of two ints, as the program's table has it. -/
structure TwoInts (P : Program) (k i : TypeId) : Prop where
  row : ∃ f0 f1 : Field, P.underlying k = some (.struct #[f0, f1]) ∧ f0.type = i ∧ f1.type = i ∧ f0.offset = 0 ∧ f1.offset = 1 ∧ (f0.name != "_") = true ∧ (f1.name != "_") = true
  key : P.keyType k = true
  two : P.cellsOf k = 2
  one : P.cellsOf i = 1
  int : P.underlying i = some (.int .i64)
  size : ∃ n, P.types.size + 1 = n + 2
theorem lits_of {P : Program} {k i : TypeId} (T : TwoInts P k i) (n : Nat) (x y : Value) : P.keyLits (n + 2) k [x, y] = ((P.keyLits (n + 1) i [x]).bind fun l => (P.keyLits (n + 1) i [y]).map fun m => [l, m]).map List.flatten := by
  obtain ⟨f0, f1, hu, h0, h1, o0, o1, n0, n1⟩ := T.row
  have ht := T.two
  have ho := T.one
  obtain ⟨X, hX⟩ : ∃ X, P.keyLits (n + 1) i [x] = X := ⟨_, rfl⟩
  obtain ⟨Y, hY⟩ : ∃ Y, P.keyLits (n + 1) i [y] = Y := ⟨_, rfl⟩
  rw [hX, hY]
  conv => lhs; unfold Program.keyLits
  rw [hu]
  simp only [ht]
  simp [n0, n1, h0, h1, o0, o1, ho, List.mapM_cons, List.mapM_nil, hX, hY]
  cases X <;> cases Y <;> rfl
theorem lit_int {P : Program} {k i : TypeId} (T : TwoInts P k i) (n : Nat) {a : Int} (ha : wf64 a) : P.keyLits (n + 1) i [.int .i64 a] = some [.int .i64 a] := by
  unfold wf64 at ha
  unfold Program.keyLits
  rw [T.int]
  simp [ha]
theorem lit_int_inv {P : Program} {k i : TypeId} (T : TwoInts P k i) (n : Nat) {v : Value} {l : List Lit} (h : P.keyLits (n + 1) i [v] = some l) : ∃ a, v = .int .i64 a ∧ l = [.int .i64 a] ∧ wf64 a := by
  unfold Program.keyLits at h
  rw [T.int] at h
  cases v <;> simp at h
  obtain ⟨⟨rfl, hw⟩, rfl⟩ := h
  exact ⟨_, rfl, rfl, hw⟩
theorem key_of {P : Program} {k i : TypeId} (T : TwoInts P k i) {a b : Int} (ha : wf64 a) (hb : wf64 b) : keyOf P k (.agg #[.int .i64 a, .int .i64 b]) = some (kl a b) := by
  obtain ⟨n, hn⟩ := T.size
  obtain ⟨f0, f1, hu, -⟩ := T.row
  have hf : (Value.agg #[.int .i64 a, .int .i64 b]).formed P k = true := by simp [Value.formed, hu, T.two]
  unfold keyOf
  rw [hu]
  simp only [T.key, hf, Bool.and_self, if_true, hn]
  show ((P.keyLits (n + 2) k [.int .i64 a, .int .i64 b]).map fun ls => Lit.string (keyBytes ls)) = _
  rw [lits_of T, lit_int T n ha, lit_int T n hb]
  rfl
theorem key_inv {P : Program} {k i : TypeId} (T : TwoInts P k i) {v : Value} {l : Lit} (h : keyOf P k v = some l) : ∃ a b, v = (.agg #[.int .i64 a, .int .i64 b]) ∧ l = kl a b ∧ wf64 a ∧ wf64 b := by
  obtain ⟨n, hn⟩ := T.size
  obtain ⟨f0, f1, hu, -⟩ := T.row
  unfold keyOf at h
  rw [hu] at h
  simp only [T.key, Bool.true_and, hn] at h
  split at h
  case isFalse => cases h
  case isTrue hf =>
    cases v <;> simp [Value.formed, hu, T.two] at hf
    rename_i cs
    obtain ⟨x, y, rfl⟩ : ∃ x y, cs = #[x, y] := by
      rcases cs with ⟨_ | ⟨x, _ | ⟨y, _ | ⟨z, r⟩⟩⟩⟩ <;> simp at hf ⊢
    have e : (Value.agg #[x, y]).cells.toList = [x, y] := rfl
    rw [e, lits_of T] at h
    cases h1 : P.keyLits (n + 1) i [x] with
    | none => rw [h1] at h; cases h
    | some l1 =>
      cases h2 : P.keyLits (n + 1) i [y] with
      | none => rw [h1, h2] at h; cases h
      | some l2 =>
        obtain ⟨a, rfl, rfl, wa⟩ := lit_int_inv T n h1
        obtain ⟨b, rfl, rfl, wb⟩ := lit_int_inv T n h2
        rw [h1, h2] at h
        simp at h
        exact ⟨a, b, rfl, h.symm, wa, wb⟩
end Go.Proofs.Ythoniopkeiifnaa

/-! KeyT -/
namespace Go.Proofs.Ythoniopkeiifnaa
open Go.RowKit
open Go.Maps (Keyed)

theorem pt_laidOut : laidOutB Try.prog = true := by kernel_rfl
theorem pt_row : (45 : TypeId) < Try.prog.types.size := of_decide_eq_true (by kernel_rfl)
theorem pt_at : Try.prog.keyTypeAt 2 45 = true := by kernel_rfl
theorem pt_law : WideMaps.KeyLaw Try.prog 45 := deep_law_laid (m := 2) pt_laidOut (by omega) pt_row pt_at (by rw [Try.underlying45])
theorem pt_keyed : Keyed Try.prog 45 := Keyed.of_law pt_law
theorem pt_is : Try.prog.keyType 45 = true := by kernel_rfl
theorem pt_cells : Try.prog.cellsOf 45 = 2 := by kernel_rfl
theorem pt_cellI : Try.prog.cellsOf 3 = 1 := by kernel_rfl
theorem pt_size : ∃ n, Try.prog.types.size + 1 = n + 2 := ⟨Try.prog.types.size - 1, by have h : 0 < Try.prog.types.size := Nat.lt_of_le_of_lt (Nat.zero_le _) pt_row; omega⟩
theorem pt_two : TwoInts Try.prog 45 3 := ⟨⟨_, _, Try.underlying45, rfl, rfl, rfl, rfl, rfl, rfl⟩, pt_is, pt_cells, pt_cellI, Try.underlying3, pt_size⟩
theorem pt_key {a b : Int} (ha : wf64 a) (hb : wf64 b) : keyOf Try.prog 45 (.agg #[.int .i64 a, .int .i64 b]) = some (kl a b) := key_of pt_two ha hb
theorem pt_inv {v : Value} {l : Lit} (h : keyOf Try.prog 45 v = some l) : ∃ a b, v = (.agg #[.int .i64 a, .int .i64 b]) ∧ l = kl a b ∧ wf64 a ∧ wf64 b := key_inv pt_two h
theorem klT_inj {a b c d : Int} (ha : wf64 a) (hb : wf64 b) (hc : wf64 c) (hd : wf64 d) (h : kl a b = kl c d) : a = c ∧ b = d := by
  have := pt_keyed.inj (pt_key ha hb) ((pt_key hc hd).trans (by rw [h]))
  simpa using this
theorem klT_ne {a c x y : Int} (ha : wf64 a) (hc : wf64 c) (hx : wf64 x) (hy : wf64 y) (h : (a, c) ≠ (x, y)) : kl a c ≠ kl x y := fun q => h (by obtain ⟨rfl, rfl⟩ := klT_inj ha hc hx hy q; rfl)
theorem zeroT (w : World) : (zeroValue 3).run Try.prog w = .ok (.int .i64 0) w := by kernel_rfl
theorem litT_inj {a b : Int} (h : (DataW.lit (.int .i64 a) : DataW Unit) = .lit (.int .i64 b)) : a = b := by injection h with h; injection h
theorem belowT_grown {w w' : World} (hb : Below w.heap.size w w') : w.grownBy w' none := ⟨hb.os, hb.tape, hb.output, hb.size, fun k hk _ => hb.block k hk⟩
theorem grownT_refl (w : World) (r : Option Nat) : w.grownBy w r := ⟨rfl, rfl, rfl, Nat.le_refl _, fun _ _ _ => rfl⟩
/-- Block b is a map that tells V, with the keys K. -/
structure MapV (w : World) (b : Nat) (K : List (Int × Int)) (V : Int × Int → Int) (n : Nat) (D : DataW Unit) : Prop where
  own : w.ownsMap Try.prog 45 (plainElem Try.prog 3) b n D
  has : ∀ a c, wf64 a → wf64 c → (Maps.has D (kl a c) = true ↔ (a, c) ∈ K)
  at' : ∀ a c, wf64 a → wf64 c → D.atKey (kl a c) (.lit (.int .i64 0)) = .lit (.int .i64 (V (a, c)))
  wf : ∀ z ∈ K, wf64 z.1 ∧ wf64 z.2
theorem MapV.grown {w w' : World} {b n : Nat} {K : List (Int × Int)} {V : Int × Int → Int} {D : DataW Unit} (h : MapV w b K V n D) {row : Option Nat} (hg : w.grownBy w' row) (hne : some b ≠ row) : MapV w' b K V n D :=
  ⟨h.own.kept hg hne, h.has, h.at', h.wf⟩
theorem mapV_put {w w' : World} {b n : Nat} {K : List (Int × Int)} {V : Int × Int → Int} {D : DataW Unit} {p q v : Int} (hp : wf64 p) (hq : wf64 q) (h : MapV w b K V n D)
    (ho : w'.ownsMap Try.prog 45 (plainElem Try.prog 3) b (n + 1) (D.put (kl p q) (.lit (.int .i64 v)))) :
    MapV w' b ((p, q) :: K) (fun z => if z = (p, q) then v else V z) (n + 1) (D.put (kl p q) (.lit (.int .i64 v))) := by
  have hk := pt_keyed.key (pt_key hp hq)
  have hD := h.own.isMap
  refine ⟨ho, ?_, ?_, ?_⟩
  · intro a c ha hc
    by_cases e : (a, c) = (p, q)
    · simp only [Prod.mk.injEq] at e
      obtain ⟨rfl, rfl⟩ := e
      rw [Maps.has_put_same hD hk]
      simp
    · rw [Maps.has_put_other (klT_ne ha hc hp hq e), h.has a c ha hc, List.mem_cons]
      exact ⟨.inr, fun x => x.resolve_left e⟩
  · intro a c ha hc
    by_cases e : (a, c) = (p, q)
    · rw [if_pos e]
      simp only [Prod.mk.injEq] at e
      obtain ⟨rfl, rfl⟩ := e
      rw [Maps.atKey_put_same hD hk]
    · rw [if_neg e, Maps.atKey_put_other (klT_ne ha hc hp hq e), h.at' a c ha hc]
  · intro z hz
    rcases List.mem_cons.1 hz with rfl | hz
    · exact ⟨hp, hq⟩
    · exact h.wf z hz
/-- Block b is a map that tells the measures M. -/
def MapM (w : World) (b : Nat) (M : Ms) (n : Nat) : Prop := ∃ D, MapV w b (M.map Prod.fst) (valM M) n D
theorem MapM.kept {w w' : World} {b n : Nat} {M : Ms} (h : MapM w b M n) {row : Option Nat} (hg : w.grownBy w' row) (hne : some b ≠ row) : MapM w' b M n := by
  obtain ⟨D, h⟩ := h; exact ⟨D, h.grown hg hne⟩
theorem MapM.on {w w' : World} {b n : Nat} {M : Ms} (h : MapM w b M n) (hb : Below w.heap.size w w') : MapM w' b M n := h.kept (belowT_grown hb) (by simp)
theorem MapM.lt {w : World} {b n : Nat} {M : Ms} (h : MapM w b M n) : b < w.heap.size := by obtain ⟨D, h⟩ := h; exact h.own.lt
theorem mapM_made (w : World) : MapM (w.alloc (.map #[] 0)) w.heap.size [] 0 :=
  ⟨.map [], World.ownsMap_made _ _ _ _, fun _ _ _ _ => ⟨fun h => absurd h Bool.false_ne_true, fun h => absurd h List.not_mem_nil⟩, fun _ _ _ _ => rfl, fun _ hz => absurd hz List.not_mem_nil⟩
/-- Behind 't[key] += n', with the sum not zero. -/
theorem mapM_put {w w' : World} {b n : Nat} {M : Ms} {D : DataW Unit} {p q v : Int} (hM : OrdM M) (hp : wf64 p) (hq : wf64 q) (h : MapV w b (M.map Prod.fst) (valM M) n D) (hv : valM M (p, q) + v ≠ 0)
    (ho : w'.ownsMap Try.prog 45 (plainElem Try.prog 3) b (n + 1) (D.put (kl p q) (.lit (.int .i64 (valM M (p, q) + v))))) : MapM w' b (putM M (p, q) v) (n + 1) := by
  have h1 := mapV_put hp hq h ho
  have hO := putM_ord hM (p, q) v
  have hV : ∀ z, valM (putM M (p, q) v) z = if z = (p, q) then valM M (p, q) + v else valM M z := fun z => by
    rw [valM_put hM]
    by_cases e : z = (p, q)
    · subst e; simp
    · rw [if_neg e, if_neg e, Int.add_zero]
  refine ⟨_, h1.own, fun a c ha hc => (h1.has a c ha hc).trans ?_, fun a c ha hc => by rw [h1.at' a c ha hc, hV], fun z hz => ?_⟩
  · rw [← valM_iff hO, hV, List.mem_cons]
    by_cases e : (a, c) = (p, q)
    · rw [if_pos e]; exact ⟨fun _ => hv, fun _ => .inl e⟩
    · rw [if_neg e, valM_iff hM]; exact ⟨fun x => x.resolve_left e, .inr⟩
  · rw [← valM_iff hO, hV] at hz
    by_cases e : z = (p, q)
    · rw [e]; exact ⟨hp, hq⟩
    · rw [if_neg e, valM_iff hM] at hz; exact h.wf z hz
/-- Behind 'delete', with the sum zero. -/
theorem mapM_del {w w' : World} {b n : Nat} {M : Ms} {D : DataW Unit} {p q v : Int} (hM : OrdM M) (hp : wf64 p) (hq : wf64 q) (h : MapV w b ((p, q) :: M.map Prod.fst) (fun z => if z = (p, q) then valM M (p, q) + v else valM M z) n D) (hv : valM M (p, q) + v = 0)
    (ho : w'.ownsMap Try.prog 45 (plainElem Try.prog 3) b n (D.del (kl p q))) : MapM w' b (putM M (p, q) v) n := by
  have hO := putM_ord hM (p, q) v
  have hV : ∀ z, valM (putM M (p, q) v) z = if z = (p, q) then 0 else valM M z := fun z => by
    rw [valM_put hM]
    by_cases e : z = (p, q)
    · subst e; simp [hv]
    · rw [if_neg e, if_neg e, Int.add_zero]
  refine ⟨_, ho, fun a c ha hc => ?_, fun a c ha hc => ?_, fun z hz => ?_⟩
  · rw [← valM_iff hO, hV]
    by_cases e : (a, c) = (p, q)
    · rw [if_pos e]
      simp only [Prod.mk.injEq] at e
      obtain ⟨rfl, rfl⟩ := e
      rw [Maps.has_del_same]; simp
    · rw [if_neg e, Maps.has_del_other (klT_ne ha hc hp hq e), h.has a c ha hc, valM_iff hM, List.mem_cons]
      exact ⟨fun x => x.resolve_left e, .inr⟩
  · by_cases e : (a, c) = (p, q)
    · rw [hV, if_pos e]
      simp only [Prod.mk.injEq] at e
      obtain ⟨rfl, rfl⟩ := e
      rw [Maps.atKey_del_same]
    · have := h.at' a c ha hc
      rw [if_neg e] at this
      rw [Maps.atKey_del_other (klT_ne ha hc hp hq e), this, hV, if_neg e]
  · rw [← valM_iff hO, hV] at hz
    by_cases e : z = (p, q)
    · rw [e]; exact ⟨hp, hq⟩
    · rw [if_neg e, valM_iff hM] at hz; exact h.wf z (List.mem_cons_of_mem _ hz)
end Go.Proofs.Ythoniopkeiifnaa

/-! Maker -/
namespace Go.Proofs.Ythoniopkeiifnaa
open Go.Sort Go.RowKit

/-- No way but the normal one. -/
def Bot : Exit → Act → World → Prop := fun _ _ _ => False
def pureOpB : Op → Bool
  | .move _ | .load _ _ | .fieldAddr _ _ _ | .indexAddr _ _ _ => true
  | _ => false
theorem value_only (P : Program) (s : Sem Value) (w w' : World) (x : Next) (h : (do pure (Next.value (← s)) : Sem Next).run P w = .ok x w') : ∃ u, x = .value u := by
  rw [Sem.run_bind] at h
  cases hs : s.run P w with
  | ok v w1 =>
    rw [hs] at h
    simp only [Result.andThen, Sem.run_pure, Result.ok.injEq] at h
    exact ⟨v, h.1.symm⟩
  | halt y w1 => rw [hs] at h; simp [Result.andThen] at h
theorem pure_value (P : Program) (o : Oper) (a : Act) (w w' : World) (x : Next) (hp : pureOpB o.op = true) (h : (execOp a.eval o).run P w = .ok x w') : ∃ u, x = .value u := by
  unfold execOp at h
  revert hp h
  cases o.op <;> intro hp h <;> first
    | (simp [pureOpB] at hp; done)
    | exact value_only _ _ _ _ _ h
    | (simp only [Sem.run_pure, Result.ok.injEq] at h; exact ⟨_, h.1.symm⟩)
theorem pure_upon {P : Program} {C : World → Prop} {o : Oper} (hp : pureOpB o.op = true) {a : Act} {w : World} {v : Value} (h : o.quietAt P a C w v) : (execOp a.eval o).run P w = .ok (.value v) w := by
  have hv := fun x w' => pure_value P o a w w' x hp
  unfold Oper.quietAt at h
  generalize (execOp a.eval o).run P w = r at *
  cases r with
  | ok x w' =>
    obtain ⟨u, rfl⟩ := hv _ _ rfl
    simp only [Oper.quietUpon] at h
    obtain ⟨rfl, rfl⟩ := h; rfl
  | halt x w' => simp only [Oper.quietUpon] at h

section
variable {F : Fence} {n : Nat} {P : Program} {ops : Array Oper} {md : Region.Mode} {C : World → Prop} {Q : Exit → Act → World → Prop}

theorem oper_bot {o : Oper} {a : Act} {w : World} {K K' K1 : Act → World → Prop} (h : ∀ a w, K a w → K' a w) (hh : o.wpIn F n P a w K (Exit.then K1 Bot)) : o.wpIn F n P a w K' Q := by
  unfold Oper.wpIn at *
  refine ⟨hh.1, ?_⟩
  have hh := hh.2
  generalize (o.semAt F.round a.eval).run P w = r at *
  cases r with
  | ok x w' =>
    cases x <;> simp only [Oper.uponIn] at hh ⊢ <;>
      first
        | exact h _ _ hh
        | exact ⟨hh.1, RowsIn.mono hh.2 (fun _ _ he => h _ _ he)⟩
        | exact ⟨hh.1, CallsIn.mono hh.2 (fun e w'' he => by cases e <;> first | exact h _ _ he | exact False.elim he | (obtain ⟨_, _, he⟩ := he; exact False.elim he))⟩
        | exact ⟨hh.1, RoundIn.mono hh.2 (fun e w'' he => by cases e <;> first | exact h _ _ he | exact False.elim he | (obtain ⟨_, _, he⟩ := he; exact False.elim he))⟩
  | halt x w' => cases x <;> simp only [Oper.uponIn] at hh ⊢ <;> first | exact hh | exact False.elim hh

def wpAnyC (F : Fence) (n : Nat) (P : Program) (md : Region.Mode) (ops : Array Oper) (C : World → Prop) (K : Act → World → Prop) (q : Nat) : Nat → Array Bool → Act → World → Prop
  | 0, listed, a, w => Region.ready md ops listed = [] ∧ K a w
  | fuel + 1, listed, a, w =>
    (Region.ready md ops listed = [] → K a w) ∧
    ∀ i ∈ Region.ready md ops listed, wpOpIn F n P ops (Exit.then K Bot) i (fun a' w' => (i < q → C w') ∧ wpAnyC F n P md ops C K q fuel (listed.setIfInBounds i true) a' w') a w

theorem wpAnyC_any {K : Act → World → Prop} {q : Nat} : ∀ (fuel : Nat) (listed : Array Bool) (a : Act) (w : World), wpAnyC F n P md ops C K q fuel listed a w → wpAnyIn F n P md ops (Exit.then K Bot) fuel listed a w
  | 0, _, _, _, h => h
  | fuel + 1, _, _, _, h => ⟨h.1, fun i hi => wpOpIn_mono (fun a' w' h' => wpAnyC_any fuel _ a' w' h'.2) (h.2 i hi)⟩

/-- In every world of the class the operation yields v and nothing else happens. -/
def PureAt (P : Program) (ops : Array Oper) (C : World → Prop) (o : Oper) (v : Value) (a : Act) : Prop :=
  (Region.wanted o (yielded ops a.tmps) = true ∧ ∀ w, C w → (execOp a.eval o).run P w = .ok (.value v) w) ∨ (Region.wanted o (yielded ops a.tmps) = false ∧ v = undef)
theorem PureAt.of_same {o : Oper} {v : Value} {a a' : Act} (hy : PureAt P ops C o v a) (he : execOp a'.eval o = execOp a.eval o)
    (hw : Region.wanted o (yielded ops a'.tmps) = Region.wanted o (yielded ops a.tmps)) : PureAt P ops C o v a' := by
  unfold PureAt at *
  rw [he, hw]; exact hy
theorem PureAt.step {i : Nat} {o : Oper} {v : Value} {a : Act} {w : World} {K : Act → World → Prop} (hF : IsWide F) (hd : noDeferB ops = true) (hi : ops[i]? = some o) (hC : C w) (hy : PureAt P ops C o v a) (h : K (a.put o.dst v) w) : wpOpIn F n P ops Q i K a w := by
  unfold Go.wpOpIn
  simp only [hi]
  rcases hy with ⟨hw, hv⟩ | ⟨hw, rfl⟩
  · simp only [hw, if_true, Oper.wpIn, semAt_any (noDefer_at hd hi), hv w hC, Oper.uponIn]; exact ⟨fun f _ => hF.fn f, h⟩
  · simp only [hw, Bool.false_eq_true, if_false]; exact ⟨fun f _ => hF.fn f, h⟩

theorem op_putC {j : Nat} {oi oj : Oper} {v : Value} {K0 : Act → World → Prop} (hF : IsWide F) (hd : noDeferB ops = true) (hj : ops[j]? = some oj) (hap : oi.apart ops oj = true)
    (hsi : ∀ cs b, oi.op ≠ .select cs b) (hsj : ∀ cs b, oj.op ≠ .select cs b) {K : Act → World → Prop} {a : Act} {w : World}
    (hy : PureAt P ops C oi v a) (h : wpOpIn F n P ops (Exit.then K0 Bot) j K (a.put oi.dst v) w) :
    wpOpIn F n P ops (Exit.then K0 Bot) j (fun a' w' => PureAt P ops C oi v a' ∧ K (a'.put oi.dst v) w') a w := by
  obtain ⟨h1, h2, h3⟩ := Oper.apart_spec hap
  have keep : ∀ (a : Act), PureAt P ops C oi v a → ∀ u, PureAt P ops C oi v (a.put oj.dst u) := fun a hy u =>
    hy.of_same (execOp_put oi hsi a oj.dst u h3) (wanted_put oi a oj.dst u h3)
  have keepD : ∀ d, PureAt P ops C oi v { a with defers := d :: a.defers } := fun d => hy.of_same rfl rfl
  have hnd := noDefer_at hd hj
  unfold wpOpIn at *
  simp only [hj] at h ⊢
  rw [wanted_put oj a oi.dst v h1] at h
  split
  · rename_i hw
    simp only [hw, if_true] at h
    unfold Oper.wpIn at *
    refine ⟨fun f _ => hF.fn f, ?_⟩
    have h := h.2
    rw [semAt_any hnd, execOp_put oj hsj a oi.dst v h1] at h
    rw [semAt_any hnd]
    generalize (execOp a.eval oj).run P w = r at *
    cases r with
    | ok x w' =>
      cases x <;> simp only [Oper.uponIn] at h ⊢
      case value u => exact ⟨keep a hy u, by rw [← Act.put_comm a v u h2]; exact h⟩
      case skip => exact ⟨keep a hy _, by rw [← Act.put_comm a v undef h2]; exact h⟩
      case defer d =>
        refine ⟨keep _ (keepD d) _, ?_⟩
        rw [← Act.put_comm _ v undef h2, ← Act.put_defers]
        exact h
      case enter f args =>
        refine ⟨h.1, CallsIn.mono h.2 fun e w'' he => ?_⟩
        cases e with
        | returned u => exact ⟨keep a hy u, by rw [← Act.put_comm a v u h2]; exact he⟩
        | panicked c => exact False.elim he
        | outgrown => obtain ⟨_, _, he⟩ := he; exact False.elim he
      case row row args => exact ⟨h.1, RowsIn.mono h.2 fun u w'' he => ⟨keep a hy u, by rw [← Act.put_comm a v u h2]; exact he⟩⟩
      case round l f tmps assign body =>
        refine ⟨h.1, RoundIn.mono h.2 fun e w'' he => ?_⟩
        cases e with
        | returned u => exact ⟨keep a hy u, by rw [← Act.put_comm a v u h2]; exact he⟩
        | panicked c => exact False.elim he
        | outgrown => obtain ⟨_, _, he⟩ := he; exact False.elim he
    | halt x w' =>
      cases x <;> simp only [Oper.uponIn] at h ⊢
      case panic u => exact False.elim h
  · rename_i hw
    simp only [hw] at h
    exact ⟨fun f _ => hF.fn f, keep a hy _, by rw [← Act.put_comm a v undef h2]; exact h.2⟩

theorem firstC {i q : Nat} {oi : Oper} {v : Value} {K0 : Act → World → Prop} (hF : IsWide F) (hd : noDeferB ops = true) (hi : ops[i]? = some oi) (hsel : ∀ (j : Nat) (o : Oper) cs b, ops[j]? = some o → o.op ≠ .select cs b)
    (hs : Region.sinkB md ops q = true) (hc : Region.chainB md ops q = true) (hn : q < ops.size) (hin : i < q) :
    ∀ (fuel : Nat) (listed : Array Bool) (a : Act) (w : World), HeadInv md ops q listed →
      (∀ j oj, ops[j]? = some oj → j ≠ i → listed.getD j true = false → (∀ e ∈ oj.after, Region.binds md e = true → e.on ≠ i) → oi.apart ops oj = true) →
      i ∈ Region.ready md ops listed → PureAt P ops C oi v a → C w →
      wpAnyC F n P md ops C K0 q fuel (listed.setIfInBounds i true) (a.put oi.dst v) w → wpAnyC F n P md ops C K0 q (fuel + 1) listed a w := by
  intro fuel
  induction fuel with
  | zero =>
    intro listed a w inv _ hr hy hC H
    have hun := (mem_ready.1 hr).1
    refine ⟨fun h => (by rw [h] at hr; cases hr), fun j hj => ?_⟩
    by_cases hji : j = i
    · subst hji; exact hy.step hF hd hi hC ⟨fun _ => hC, H⟩
    · have := ready_mono hj hji
      rw [H.1] at this
      cases this
  | succ fuel ih =>
    intro listed a w inv hfree hr hy hC H
    have hun := (mem_ready.1 hr).1
    refine ⟨fun h => (by rw [h] at hr; cases hr), fun j hj => ?_⟩
    have hjn : j < q := by
      rcases Nat.lt_or_ge j q with h | h
      · exact h
      · exact absurd hj (tail_waits hs hc hn inv _ i rfl hin hun j h)
    by_cases hji : j = i
    · subst hji; exact hy.step hF hd hi hC ⟨fun _ => hC, H⟩
    · have h1 := H.2 j (ready_mono hj hji)
      obtain ⟨hjun, oj, hoj, hall⟩ := mem_ready.1 hj
      have hnot : ∀ e ∈ oj.after, Region.binds md e = true → e.on ≠ i := fun e he hb heq => by
        have h1 := hall e he hb
        rw [heq, getD_both hun] at h1
        cases h1
      have h2 := op_putC hF hd hoj (hfree j oj hoj hji hjun hnot) (fun cs b => hsel i oi cs b hi) (fun cs b => hsel j oj cs b hoj) hy h1
      have hfree' : ∀ k ok, ops[k]? = some ok → k ≠ i → (listed.setIfInBounds j true).getD k true = false →
          (∀ e ∈ ok.after, Region.binds md e = true → e.on ≠ i) → oi.apart ops ok = true := fun k ok hk hki hun hno => by
        refine hfree k ok hk hki ?_ hno
        by_cases hjk : j = k
        · subst hjk; exact hjun
        · rw [getD_set_ne true hjk] at hun; exact hun
      refine wpOpIn_mono (fun a' w' h3 => ⟨h3.2.1, ih (listed.setIfInBounds j true) a' w' (inv.set hj hjn) hfree' (ready_mono hr (Ne.symm hji)) h3.1 (h3.2.1 hjn) ?_⟩) h2
      rw [Array.setIfInBounds_comm _ _ hji]
      exact h3.2.2

theorem lexC {m q g : Nat} {K0 : Act → World → Prop} {Lq : Act → Prop} (hF : IsWide F) (hd : noDeferB ops = true) (hsel : Region.noSelect ops = true) (hs : Region.sinkB md ops q = true) (hc : Region.chainB md ops q = true) (hn : q < ops.size) (hmq : m ≤ q)
    (hT : ∀ listed a w, C w → Region.seqB md ops g m listed = true → Lq a → wpAnyC F n P md ops C K0 q g listed a w) :
    ∀ (l : List Oper) (k : Nat) (listed : Array Bool) (a : Act) (w : World), (∀ j, j < l.length → l[j]? = ops[k + j]?) → k + l.length = m → HeadInv md ops q listed →
    Region.lexHead md ops g l.length k listed = true → (l.all fun o => pureOpB o.op) = true → C w → wpQuiet P ops C Lq l a → wpAnyC F n P md ops C K0 q (l.length + g) listed a w
  | [], k, listed, a, w, _, hk, _, hB, _, hC, h => by
    have : k = m := by simpa using hk
    subst this
    rw [List.length_nil, Nat.zero_add]
    exact hT listed a w hC (by simpa [Region.lexHead] using hB) h
  | o :: l, k, listed, a, w, hl, hk, inv, hB, hp, hC, h => by
    have h0 : ops[k]? = some o := by simpa using (hl 0 (by simp)).symm
    simp only [List.length_cons, Region.lexHead, Bool.and_eq_true] at hB
    obtain ⟨⟨hr, hf⟩, hB'⟩ := hB
    simp only [List.all_cons, Bool.and_eq_true] at hp
    have hkn : k < m := by simp only [List.length_cons] at hk; omega
    have hr' : k ∈ Region.ready md ops listed := by simpa using hr
    have hy : ∃ v, PureAt P ops C o v a ∧ wpQuiet P ops C Lq l (a.put o.dst v) := by
      unfold wpQuiet at h
      cases hw : Region.wanted o (yielded ops a.tmps)
      · rw [hw] at h
        exact ⟨undef, .inr ⟨hw, rfl⟩, by simpa using h⟩
      · rw [hw] at h
        simp only [if_true] at h
        obtain ⟨v, hv, hK⟩ := h
        exact ⟨v, .inl ⟨hw, fun w' hw' => pure_upon hp.1 (hv w' hw')⟩, hK⟩
    obtain ⟨v, hy, hK⟩ := hy
    rw [List.length_cons, show l.length + 1 + g = (l.length + g) + 1 by omega]
    exact firstC hF hd h0 (Region.noSelect_spec hsel) hs hc hn (by omega) _ listed a w inv (Region.free_spec h0 hf) hr' hy hC
      (lexC hF hd hsel hs hc hn hmq hT l (k + 1) _ _ w (fun j hj => by have := hl (j + 1) (by simp; omega); simpa [Nat.add_assoc, Nat.add_comm 1 j] using this) (by simp only [List.length_cons] at hk; omega) (inv.set hr' (by omega)) hB' hp.2 hC hK)

theorem seqC {q : Nat} {K0 : Act → World → Prop} : ∀ (l : List Oper) (k : Nat) (listed : Array Bool) (a : Act) (w : World), q ≤ k → (∀ j, l[j]? = ops[k + j]?) →
    Region.seqB md ops l.length k listed = true → wpListIn F n P ops (Exit.then K0 Bot) l a w → wpAnyC F n P md ops C K0 q l.length listed a w
  | [], _, _, _, _, _, _, hB, h => ⟨by simpa [Region.seqB] using hB, h⟩
  | o :: l, k, listed, a, w, hq, hl, hB, h => by
    have h0 : ops[k]? = some o := by simpa using (hl 0).symm
    simp only [List.length_cons, Region.seqB, Bool.and_eq_true, decide_eq_true_eq] at hB
    refine ⟨fun h1 => (by rw [hB.1] at h1; cases h1), fun i hi => ?_⟩
    rw [hB.1] at hi
    have hik : i = k := by simpa using hi
    subst hik
    have hw : wpOpIn F n P ops (Exit.then K0 Bot) i (wpListIn F n P ops (Exit.then K0 Bot) l) a w := by unfold wpOpIn; simp only [h0]; exact h
    exact wpOpIn_mono (fun a' w' h' => ⟨fun h1 => by omega, seqC l (i + 1) _ a' w' (by omega) (fun j => by have := hl (j + 1); simpa [Nat.add_assoc, Nat.add_comm 1 j] using this) hB.2 h'⟩) hw

/-- One operation that is ready alone, behind which the class still holds. -/
theorem oneC {q g : Nat} {K0 K1 : Act → World → Prop} {o : Oper} {k : Nat} {listed : Array Bool} {a : Act} {w : World} (h0 : ops[k]? = some o)
    (hB : Region.seqB md ops (g + 1) k listed = true) (h : wpListIn F n P ops (Exit.then K1 Bot) [o] a w)
    (hK : ∀ listed' a' w', Region.seqB md ops g (k + 1) listed' = true → K1 a' w' → C w' ∧ wpAnyC F n P md ops C K0 q g listed' a' w') : wpAnyC F n P md ops C K0 q (g + 1) listed a w := by
  simp only [Region.seqB, Bool.and_eq_true, decide_eq_true_eq] at hB
  refine ⟨fun h1 => (by rw [hB.1] at h1; cases h1), fun i hi => ?_⟩
  rw [hB.1] at hi
  have hik : i = k := by simpa using hi
  subst hik
  unfold wpOpIn
  simp only [h0]
  unfold wpListIn at h
  split
  · rename_i hw
    rw [if_pos hw] at h
    exact oper_bot (fun a' w' h' => by
      obtain ⟨h1, h2⟩ := hK _ a' w' hB.2 h'
      exact ⟨fun _ => h1, h2⟩) h
  · rename_i hw
    rw [if_neg hw] at h
    refine ⟨h.1, ?_⟩
    obtain ⟨h1, h2⟩ := hK _ _ w hB.2 h.2
    exact ⟨fun _ => h1, h2⟩

def makeB (md : Region.Mode) (ops : Array Oper) (m : Nat) : Bool :=
  Region.noSelect ops && decide (m + 2 < ops.size) && Region.sinkB md ops (m + 2) && Region.chainB md ops (m + 2) && Region.lexHead md ops (ops.size - m) m 0 (Array.replicate ops.size false) && ((ops.toList.take m).all fun o => pureOpB o.op)

/-- **m operations that only look, a call, a maker, a tail in sequence.** -/
theorem region_make_in {id : Nat} {a : Act} {w : World} {l : List Oper} (m : Nat) (hF : IsWide F) (hd : noDeferB l.toArray = true) (hm : P.follows .mixedOrders = true) (hB : makeB .any l.toArray m = true)
    (h : wpQuiet P l.toArray (fun w' => ∃ p : Regrown, w' = grow (redrawn w p.d) p.os) (fun a' => ∀ w', (∃ p : Regrown, w' = grow (redrawn w p.d) p.os) →
      wpListIn F n P l.toArray (Exit.then (fun a1 w1 => Below w.heap.size w w1 ∧ wpListIn F n P l.toArray (Exit.then (fun a2 w2 => Below w.heap.size w w2 ∧ wpListIn F n P l.toArray (Exit.then (Q .normal) Bot) (l.drop (m + 2)) a2 w2) Bot) ((l.drop (m + 1)).take 1) a1 w1) Bot) ((l.drop m).take 1) a' w') (l.take m) a) :
    (Code.region id l.toArray true).wpIn F n P Q a w := by
  simp only [makeB, Bool.and_eq_true, decide_eq_true_eq] at hB
  obtain ⟨⟨⟨⟨⟨hsel, hn⟩, hs⟩, hc⟩, hlex⟩, hpu⟩ := hB
  have hn' : m + 2 < l.length := by simpa using hn
  have htl : (l.take m).length = m := by simp; omega
  have inv0 : HeadInv .any l.toArray (m + 2) (Array.replicate l.toArray.size false) :=
    ⟨by simp, fun j oj _ hl => (by rw [getD_replicate_false] at hl; cases hl), fun t _ ht => getD_in (by simpa using ht) (getD_replicate_false _ _)⟩
  have hC : ∃ p : Regrown, ({ w with drawn := w.drawn + 1 } : World) = grow (redrawn w p.d) p.os := ⟨⟨w.drawn + 1, #[]⟩, by rw [grow_empty]; rfl⟩
  obtain ⟨g, hg⟩ : ∃ g, l.toArray.size - m = g + 1 + 1 := ⟨l.toArray.size - m - 2, by simp; omega⟩
  have e0 : (l.drop m).take 1 = [l[m]'(by omega)] := by rw [List.drop_eq_getElem_cons (by omega)]; rfl
  have e1 : (l.drop (m + 1)).take 1 = [l[m + 1]'(by omega)] := by rw [List.drop_eq_getElem_cons (by omega)]; rfl
  have hdl : (l.drop (m + 2)).length = g := by simp at hg ⊢; omega
  have H := lexC (md := .any) (P := P) (F := F) (n := n) (C := fun w' => ∃ p : Regrown, w' = grow (redrawn w p.d) p.os) (K0 := Q .normal) (m := m) (q := m + 2) (g := l.toArray.size - m) hF hd hsel hs hc hn (by omega)
    (fun listed a' w' hC' hseq hL => by
      rw [hg] at hseq ⊢
      have h1 := hL w' hC'
      rw [e0] at h1
      refine oneC (k := m) (by simp) hseq h1 fun listed1 a1 w1 hseq1 ⟨hb1, h2⟩ => ⟨regrown_of_below hb1, ?_⟩
      rw [e1] at h2
      refine oneC (k := m + 1) (by simp) hseq1 h2 fun listed2 a2 w2 hseq2 ⟨hb2, h3⟩ => ⟨regrown_of_below hb2, ?_⟩
      have := seqC (md := .any) (C := fun w' => ∃ p : Regrown, w' = grow (redrawn w p.d) p.os) (q := m + 2) (l.drop (m + 2)) (m + 2) listed2 a2 w2 (Nat.le_refl _) (fun j => by simp [List.getElem?_drop]) (by rw [hdl]; exact hseq2) h3
      rwa [hdl] at this)
    (l.take m) 0 _ a _ (fun j hj => by
      have hj' : j < m := by rw [htl] at hj; exact hj
      simp [hj']) (by simpa using htl) inv0 (by rw [htl]; exact hlex) (by simpa using hpu) hC h
  rw [htl, show m + (l.toArray.size - m) = l.toArray.size by simp at hn ⊢; omega] at H
  refine Go.wpIn_mono (wpIn_region_any hm (wpAnyC_any _ _ _ _ H)) ?_
  intro e a' w' h'
  cases e <;> first | exact h' | exact False.elim h'
end
end Go.Proofs.Ythoniopkeiifnaa

/-! Entry -/
namespace Go.Proofs.Ythoniopkeiifnaa
open Go.Sort Go.RowKit

def lookOpB : Op → Bool
  | .move _ | .load _ _ | .fieldAddr _ _ _ | .indexAddr _ _ _ | .build _ _ | .binOp _ _ _ _ _ | .lookup _ _ _ _ => true
  | _ => false
theorem look_value (P : Program) (o : Oper) (a : Act) (w w' : World) (x : Next) (hp : lookOpB o.op = true) (h : (execOp a.eval o).run P w = .ok x w') : ∃ u, x = .value u := by
  unfold execOp at h
  revert hp h
  cases o.op <;> intro hp h <;> first
    | (simp [lookOpB] at hp; done)
    | exact value_only _ _ _ _ _ h
    | (simp only [Sem.run_pure, Result.ok.injEq] at h; exact ⟨_, h.1.symm⟩)
theorem look_upon {P : Program} {C : World → Prop} {o : Oper} (hp : lookOpB o.op = true) {a : Act} {w : World} {v : Value} (h : o.quietAt P a C w v) : (execOp a.eval o).run P w = .ok (.value v) w := by
  have hv := fun x w' => look_value P o a w w' x hp
  unfold Oper.quietAt at h
  generalize (execOp a.eval o).run P w = r at *
  cases r with
  | ok x w' =>
    obtain ⟨u, rfl⟩ := hv _ _ rfl
    simp only [Oper.quietUpon] at h
    obtain ⟨rfl, rfl⟩ := h; rfl
  | halt x w' => simp only [Oper.quietUpon] at h

section
variable {F : Fence} {n : Nat} {P : Program} {ops : Array Oper} {md : Region.Mode} {C : World → Prop}
theorem lexC0 {m q g : Nat} {K0 : Act → World → Prop} {Lq : Act → Prop} (hF : IsWide F) (hd : noDeferB ops = true) (hsel : Region.noSelect ops = true) (hs : Region.sinkB md ops q = true) (hc : Region.chainB md ops q = true) (hn : q < ops.size) (hmq : m ≤ q) (w : World) (hC : C w)
    (hT : ∀ listed a, Region.seqB md ops g m listed = true → Lq a → wpAnyC F n P md ops C K0 q g listed a w) :
    ∀ (l : List Oper) (k : Nat) (listed : Array Bool) (a : Act), (∀ j, j < l.length → l[j]? = ops[k + j]?) → k + l.length = m → HeadInv md ops q listed →
    Region.lexHead md ops g l.length k listed = true → (l.all fun o => lookOpB o.op) = true → wpQuiet P ops C Lq l a → wpAnyC F n P md ops C K0 q (l.length + g) listed a w
  | [], k, listed, a, _, hk, _, hB, _, h => by
    have : k = m := by simpa using hk
    subst this
    rw [List.length_nil, Nat.zero_add]
    exact hT listed a (by simpa [Region.lexHead] using hB) h
  | o :: l, k, listed, a, hl, hk, inv, hB, hp, h => by
    have h0 : ops[k]? = some o := by simpa using (hl 0 (by simp)).symm
    simp only [List.length_cons, Region.lexHead, Bool.and_eq_true] at hB
    obtain ⟨⟨hr, hf⟩, hB'⟩ := hB
    simp only [List.all_cons, Bool.and_eq_true] at hp
    have hkn : k < m := by simp only [List.length_cons] at hk; omega
    have hr' : k ∈ Region.ready md ops listed := by simpa using hr
    have hy : ∃ v, PureAt P ops C o v a ∧ wpQuiet P ops C Lq l (a.put o.dst v) := by
      unfold wpQuiet at h
      cases hw : Region.wanted o (yielded ops a.tmps)
      · rw [hw] at h
        exact ⟨undef, .inr ⟨hw, rfl⟩, by simpa using h⟩
      · rw [hw] at h
        simp only [if_true] at h
        obtain ⟨v, hv, hK⟩ := h
        exact ⟨v, .inl ⟨hw, fun w' hw' => look_upon hp.1 (hv w' hw')⟩, hK⟩
    obtain ⟨v, hy, hK⟩ := hy
    rw [List.length_cons, show l.length + 1 + g = (l.length + g) + 1 by omega]
    exact firstC hF hd h0 (Region.noSelect_spec hsel) hs hc hn (by omega) _ listed a w inv (Region.free_spec h0 hf) hr' hy hC
      (lexC0 hF hd hsel hs hc hn hmq w hC hT l (k + 1) _ _ (fun j hj => by have := hl (j + 1) (by simp; omega); simpa [Nat.add_assoc, Nat.add_comm 1 j] using this) (by simp only [List.length_cons] at hk; omega) (inv.set hr' (by omega)) hB' hp.2 hK)

/-- One operation that is ready alone, by its run. -/
theorem runC {q g : Nat} {K0 : Act → World → Prop} {o : Oper} {k : Nat} {listed : Array Bool} {a : Act} {w w1 : World} {x : Next} {v : Value} (hF : IsWide F) (hd : noDeferB ops = true) (h0 : ops[k]? = some o) (hg : o.guard = none)
    (hB : Region.seqB md ops (g + 1) k listed = true) (hx : x = .value v ∨ (x = .skip ∧ v = undef)) (hr : (execOp a.eval o).run P w = .ok x w1)
    (hK : ∀ listed', Region.seqB md ops g (k + 1) listed' = true → (k < q → C w1) ∧ wpAnyC F n P md ops C K0 q g listed' (a.put o.dst v) w1) : wpAnyC F n P md ops C K0 q (g + 1) listed a w := by
  simp only [Region.seqB, Bool.and_eq_true, decide_eq_true_eq] at hB
  refine ⟨fun h1 => (by rw [hB.1] at h1; cases h1), fun i hi => ?_⟩
  rw [hB.1] at hi
  have hik : i = k := by simpa using hi
  subst hik
  unfold wpOpIn
  simp only [h0]
  rw [if_pos (by simp [Region.wanted, hg])]
  refine ⟨fun f _ => hF.fn f, ?_⟩
  rw [semAt_any (noDefer_at hd h0), hr]
  rcases hx with rfl | ⟨rfl, rfl⟩
  · simp only [Oper.uponIn]
    exact hK _ hB.2
  · simp only [Oper.uponIn]
    exact hK _ hB.2

def looksB (md : Region.Mode) (ops : Array Oper) (m : Nat) : Bool :=
  noDeferB ops && Region.noSelect ops && decide (m + 3 = ops.size) && Region.sinkB md ops (m + 2) && Region.chainB md ops (m + 2) && Region.lexHead md ops 3 m 0 (Array.replicate ops.size false) && ((ops.toList.take m).all fun o => lookOpB o.op)
/-- **m operations that only look, an entry's making, its extract, a store.** -/
theorem region_entry {id : Nat} {Q : Exit → Act → World → Prop} {a : Act} {w : World} {l : List Oper} (m : Nat) {S : Type} (sel : S → World) (s0 : S) (hs0 : sel s0 = { w with drawn := w.drawn + 1 }) (o1 o2 o3 : Oper)
    (h1 : l.toArray[m]? = some o1) (h2 : l.toArray[m + 1]? = some o2) (h3 : l.toArray[m + 2]? = some o3) (g1 : o1.guard = none) (g2 : o2.guard = none) (g3 : o3.guard = none)
    (hm : P.follows .mixedOrders = true) (hB : looksB .any l.toArray m = true)
    (h : wpQuiet P l.toArray (fun w' => ∃ s, w' = sel s) (fun a' => ∃ v1 s v2 w3, (execOp a'.eval o1).run P (sel s0) = .ok (.value v1) (sel s) ∧ (execOp (a'.put o1.dst v1).eval o2).run P (sel s) = .ok (.value v2) (sel s) ∧
      (execOp ((a'.put o1.dst v1).put o2.dst v2).eval o3).run P (sel s) = .ok .skip w3 ∧ Q .normal (((a'.put o1.dst v1).put o2.dst v2).put o3.dst undef) w3) (l.take m) a) :
    (Code.region id l.toArray true).wp P Q a w := by
  simp only [looksB, Bool.and_eq_true, decide_eq_true_eq] at hB
  obtain ⟨⟨⟨⟨⟨⟨hd, hsel⟩, hn⟩, hs⟩, hc⟩, hlex⟩, hpu⟩ := hB
  have hn' : m + 3 = l.length := by simpa using hn
  have htl : (l.take m).length = m := by simp; omega
  have inv0 : HeadInv .any l.toArray (m + 2) (Array.replicate l.toArray.size false) :=
    ⟨by simp, fun j oj _ hl => (by rw [getD_replicate_false] at hl; cases hl), fun t _ ht => getD_in (by simpa using ht) (getD_replicate_false _ _)⟩
  have H := lexC0 (md := .any) (P := P) (F := Fence.wide) (n := 0) (C := fun w' => ∃ s, w' = sel s) (K0 := Q .normal) (m := m) (q := m + 2) (g := 3) wide0 hd hsel hs hc (by omega) (by omega) (sel s0) ⟨s0, rfl⟩
    (fun listed a' hseq hL => by
      obtain ⟨v1, s, v2, w3, r1, r2, r3, hq⟩ := hL
      refine runC wide0 hd h1 g1 hseq (.inl rfl) r1 fun listed1 hseq1 => ⟨fun _ => ⟨s, rfl⟩, ?_⟩
      refine runC wide0 hd h2 g2 hseq1 (.inl rfl) r2 fun listed2 hseq2 => ⟨fun _ => ⟨s, rfl⟩, ?_⟩
      refine runC wide0 hd h3 g3 hseq2 (.inr ⟨rfl, rfl⟩) r3 fun listed3 hseq3 => ⟨fun h => by omega, ?_⟩
      exact ⟨by simpa [Region.seqB] using hseq3, hq⟩)
    (l.take m) 0 _ a (fun j hj => by
      have hj' : j < m := by rw [htl] at hj; exact hj
      simp [hj']) (by simpa using htl) inv0 (by rw [htl]; exact hlex) (by simpa using hpu) h
  rw [htl, show m + 3 = l.toArray.size from hn, hs0] at H
  refine wpIn_wide.1 (Go.wpIn_mono (wpIn_region_any hm (wpAnyC_any _ _ _ _ H)) ?_)
  intro e a' w' h'
  cases e <;> first | exact h' | exact False.elim h'
end
theorem entry_op {P : Program} {o : Oper} {a : Act} {w w' : World} {t : TypeId} {m x : Operand} {M X v : Value} (ho : o.op = .mapEntry t m x) (hm : a.eval m = M) (hx : a.eval x = X) (h : (Instr.mapEntry t M X).run P w = .ok v w') : (execOp a.eval o).run P w = .ok (.value v) w' := by
  unfold execOp
  rw [ho]
  simp only [hm, hx, Sem.run_bind, h, Result.andThen, Sem.run_pure]
theorem extract_op {P : Program} {o : Oper} {a : Act} {w : World} {m : Operand} {i : Nat} {vs : Array Value} {v : Value} (ho : o.op = .extract m i) (hm : a.eval m = .tuple vs) (h : vs[i]? = some v) : (execOp a.eval o).run P w = .ok (.value v) w := by
  unfold execOp
  rw [ho]
  simp only [hm]
  simp [go_sem, h]
theorem store_op {P : Program} {o : Oper} {a : Act} {w w' : World} {t : TypeId} {m x y : Operand} {M X Y : Value} (ho : o.op = .entryStore t m x y) (hm : a.eval m = M) (hx : a.eval x = X) (hy : a.eval y = Y) (h : (Instr.entryStore t M X Y).run P w = .ok () w') : (execOp a.eval o).run P w = .ok .skip w' := by
  unfold execOp
  rw [ho]
  simp only [hm, hx, hy, Sem.run_bind, h, Result.andThen, Sem.run_pure]
end Go.Proofs.Ythoniopkeiifnaa

/-! Tally -/
namespace Go.Proofs.Ythoniopkeiifnaa
open Go.RowKit
open Go.Maps (Keyed)
open Go.ChangeMaps Go.MapKept

theorem setBlockT_same {w : World} {b : Nat} {o : Obj} (h : w.heap[b]? = some o) : setBlock w b o = w := by
  obtain ⟨hl, he⟩ := Array.getElem?_eq_some_iff.1 h
  unfold setBlock
  have e : w.heap.set! b o = w.heap := by
    rw [Array.set!_eq_setIfInBounds, Array.setIfInBounds, dif_pos hl]
    apply Array.ext (by simp)
    intro i h1 h2
    rw [Array.getElem_set]
    by_cases q : b = i
    · subst q; rw [if_pos rfl]; exact he.symm
    · rw [if_neg q]
  cases w
  simp_all
theorem setBlockT_twice {w : World} {b : Nat} {o o' : Obj} : setBlock (setBlock w b o) b o' = setBlock w b o' := by
  unfold setBlock
  simp
/-- The operations of 't[key] += n' one by one; the look-up is the same ahead of the entry's making and behind it. -/
theorem addT_runs {w : World} {b n : Nat} {K : List (Int × Int)} {V : Int × Int → Int} {D : DataW Unit} {p q v : Int} (h : MapV w b K V n D) (hp : wf64 p) (hq : wf64 q) (hn : n < 1000) (hV : wf64 (V (p, q) + v)) :
    ∃ (v0 : Value) (st : Nat) (w1 w2 : World), (Instr.mapEntry 93 (.map (some b)) (.agg #[.int .i64 p, .int .i64 q])).run Try.prog w = .ok (.tuple #[v0, goInt st]) w1 ∧
      (Instr.lookup 93 (.map (some b)) (.agg #[.int .i64 p, .int .i64 q]) false).run Try.prog w = .ok (.int .i64 (V (p, q))) w ∧
      (Instr.lookup 93 (.map (some b)) (.agg #[.int .i64 p, .int .i64 q]) false).run Try.prog w1 = .ok (.int .i64 (V (p, q))) w1 ∧
      (Instr.entryStore 93 (.map (some b)) (goInt st) (.int .i64 (V (p, q) + v))).run Try.prog w1 = .ok () w2 ∧
      w.grownBy w1 (some b) ∧ w.grownBy w2 (some b) ∧ w2.ownsMap Try.prog 45 (plainElem Try.prog 3) b (n + 1) (D.put (kl p q) (.lit (.int .i64 (V (p, q) + v)))) := by
  have hM := h
  have hml : n < maxLen := by unfold maxLen; omega
  obtain ⟨c, hlk, hat, -⟩ := hM.own.lookup_int pt_keyed Try.underlying93 Try.underlying3 (zeroT w) (pt_key hp hq)
  have hce : c = V (p, q) := by
    have q1 := hM.at' p q hp hq
    rw [hat] at q1
    exact litT_inj q1
  rw [hce] at hlk
  obtain ⟨wz, hrz, hoz, hgz⟩ := hM.own.update pt_keyed Try.underlying93 hml (pt_key hp hq) (plainElem_int Try.underlying3 (a := 0) (q := .i64) (by decide))
  obtain ⟨w2, hr2, ho2, hg2⟩ := hM.own.update pt_keyed Try.underlying93 hml (pt_key hp hq) (plainElem_int Try.underlying3 (a := V (p, q) + v) (q := .i64) hV)
  obtain ⟨es, clock, hb, F, hs, hD⟩ := hM.own
  obtain ⟨v0, st, es1, clock1, hme, -, hst⟩ := WideElems.entry_then_store pt_law Try.underlying93 (fun u => zeroT u) hb F (pt_key hp hq)
  have h1b : (setBlock w b (.map es1 clock1)).heap[b]? = some (.map es1 clock1) := heap_setBlock_same hb _
  obtain ⟨es', clock', hes, hmu⟩ := hst (setBlock w b (.map es1 clock1)) (.int .i64 (V (p, q) + v)) h1b
  have hw2 : w2 = setBlock w b (.map es' clock') := by
    rw [hr2] at hmu
    exact (Result.ok.inj hmu).2
  rw [setBlockT_twice, ← hw2] at hes
  rcases pt_law.find w (pt_key hp hq) es.toList F.keys with ⟨h1, h2⟩ | ⟨j, e0, h1, h2, h3⟩
  · have hme2 : (Instr.mapEntry 93 (.map (some b)) (.agg #[.int .i64 p, .int .i64 q])).run Try.prog w = .ok (.tuple #[.int .i64 0, goInt clock]) (setBlock w b (.map (es.push ⟨(.agg #[.int .i64 p, .int .i64 q]), .int .i64 0, clock⟩) (clock + 1))) := by
      simp [Instr.mapEntry, run_underlying Try.underlying93, MapKept.run_getObj_map hb, pt_law.check w false (pt_key hp hq), h1, MapKept.run_setObj_map _ hb, Result.andThen, setBlock]
    have hmu2 : (Instr.mapUpdate 93 (.map (some b)) (.agg #[.int .i64 p, .int .i64 q]) (.int .i64 0)).run Try.prog w = .ok () (setBlock w b (.map (es.push ⟨(.agg #[.int .i64 p, .int .i64 q]), .int .i64 0, clock⟩) (clock + 1))) := by
      simp [Instr.mapUpdate, run_underlying Try.underlying93, MapKept.run_getObj_map hb, pt_law.check w false (pt_key hp hq), h1, MapKept.run_setObj_map _ hb, Result.andThen, setBlock]
    have hw1 : setBlock w b (.map es1 clock1) = wz := by
      rw [hme] at hme2
      rw [hrz] at hmu2
      exact (Result.ok.inj hme2).2.trans (Result.ok.inj hmu2).2.symm
    rw [hw1] at hme hes
    have hc0 : V (p, q) = 0 := by
      rcases Maps.fit_look false pt_keyed Try.underlying93 (zeroT w) hb F (pt_key hp hq) with ⟨hrun, -, -⟩ | ⟨e0, y, hm0, hk0, -⟩
      · rw [hlk] at hrun
        exact Value.int.inj (Result.ok.inj hrun).1 |>.2
      · exact absurd hk0 (h2 e0 hm0)
    obtain ⟨c1, hlk1, hat1, -⟩ := hoz.lookup_int pt_keyed Try.underlying93 Try.underlying3 (zeroT wz) (pt_key hp hq)
    have hc1 : c1 = V (p, q) := by
      rw [Maps.atKey_put_same hM.own.isMap (pt_keyed.key (pt_key hp hq))] at hat1
      rw [hc0]
      exact (litT_inj hat1).symm
    rw [hc1] at hlk1
    exact ⟨v0, st, wz, w2, hme, hlk, hlk1, hes, hgz, hg2, ho2⟩
  · have hj : es[j]? = some e0 := by simpa using h2
    have hsame : es.modify j (fun e => { e with key := (.agg #[.int .i64 p, .int .i64 q]) }) = es := by
      apply Array.ext'
      rw [Array.toList_modify, modify_eq_set _ _ _ _ h2]
      have : ({ e0 with key := (.agg #[.int .i64 p, .int .i64 q]) } : MapEntry) = e0 := by rw [← h3]
      rw [this]
      exact WideElems.set_self _ _ _ h2
    have hme2 : (Instr.mapEntry 93 (.map (some b)) (.agg #[.int .i64 p, .int .i64 q])).run Try.prog w = .ok (.tuple #[e0.val, goInt e0.born]) (setBlock w b (.map es clock)) := by
      simp [Instr.mapEntry, run_underlying Try.underlying93, MapKept.run_getObj_map hb, pt_law.check w false (pt_key hp hq), h1, hj, h3, pt_law.stays w (pt_key hp hq), hsame, MapKept.run_setObj_map _ hb, Result.andThen, setBlock]
    have hw1 : setBlock w b (.map es1 clock1) = w := by
      rw [hme, setBlockT_same hb] at hme2
      exact (Result.ok.inj hme2).2
    rw [hw1] at hme hes
    exact ⟨v0, st, w, w2, hme, hlk, hlk, hes, grownT_refl _ _, hg2, ho2⟩
/-- The same, with the two worlds in one letter. -/
theorem addT_sel {w : World} {b n : Nat} {K : List (Int × Int)} {V : Int × Int → Int} {D : DataW Unit} {p q v : Int} (h : MapV w b K V n D) (hp : wf64 p) (hq : wf64 q) (hn : n < 1000) (hV : wf64 (V (p, q) + v)) :
    ∃ (sel : Nat → World) (v0 : Value) (st : Nat) (w3 : World), sel 0 = { w with drawn := w.drawn + 1 } ∧
      (Instr.mapEntry 93 (.map (some b)) (.agg #[.int .i64 p, .int .i64 q])).run Try.prog (sel 0) = .ok (.tuple #[v0, goInt st]) (sel 1) ∧
      (∀ s, (Instr.lookup 93 (.map (some b)) (.agg #[.int .i64 p, .int .i64 q]) false).run Try.prog (sel s) = .ok (.int .i64 (V (p, q))) (sel s)) ∧
      (Instr.entryStore 93 (.map (some b)) (goInt st) (.int .i64 (V (p, q) + v))).run Try.prog (sel 1) = .ok () w3 ∧
      (∀ s, w.grownBy (sel s) (some b)) ∧ w.grownBy w3 (some b) ∧ w3.ownsMap Try.prog 45 (plainElem Try.prog 3) b (n + 1) (D.put (kl p q) (.lit (.int .i64 (V (p, q) + v)))) := by
  have hd : w.grownBy ({ w with drawn := w.drawn + 1 } : World) (some b) := ⟨rfl, rfl, rfl, Nat.le_refl _, fun _ _ _ => rfl⟩
  have h' : MapV ({ w with drawn := w.drawn + 1 } : World) b K V n D := h.grown (belowT_grown ((Below.refl _ w).drew)) (by simp)
  obtain ⟨v0, st, w1, w2, r1, r2, r3, r4, g1, g2, hC⟩ := addT_runs h' hp hq hn hV
  obtain ⟨sel, e0, e1⟩ : ∃ sel : Nat → World, sel 0 = { w with drawn := w.drawn + 1 } ∧ ∀ n, sel (n + 1) = w1 := ⟨fun s => Nat.casesOn s { w with drawn := w.drawn + 1 } fun _ => w1, rfl, fun _ => rfl⟩
  have e1' : sel 1 = w1 := e1 0
  refine ⟨sel, v0, st, w2, e0, by rw [e0, e1']; exact r1, fun s => ?_, by rw [e1']; exact r4, fun s => ?_, hd.andThen g2 (fun j hj => by cases hj; exact .inr rfl), hC⟩
  · cases s with
    | zero => rw [e0]; exact r2
    | succ s => rw [e1 s]; exact r3
  · cases s with
    | zero => rw [e0]; exact hd
    | succ s => rw [e1 s]; exact hd.andThen g1 (fun j hj => by cases hj; exact .inr rfl)
theorem cell_sel1 {w w' : World} {b g o : Nat} {v : Value} (h : w.cell? ⟨g, o, none⟩ = some v) (hg : w.grownBy w' (some b)) (hne : g ≠ b) : w'.cell? ⟨g, o, none⟩ = some v := by
  have hlt : g < w.heap.size := by
    rcases Nat.lt_or_ge g w.heap.size with q | q
    · exact q
    · simp [World.cell?, Array.getElem?_eq_none q] at h
  have e : w'.heap[g]? = w.heap[g]? := hg.block g hlt (fun e => hne (Option.some.inj e))
  simpa only [World.cell?, e] using h
set_option maxRecDepth 100000 in
set_option maxHeartbeats 4000000 in
/-- **t.count(key, n)**. -/
theorem tally_any (b n : Nat) (M : Ms) (p q v : Int) (w : World) (h : MapM w b M n) (hM : OrdM M) (hp : wf64 p) (hq : wf64 q) (hn : n < 1000) (hv : (valM M (p, q)).natAbs ≤ 1000000) (hv2 : v.natAbs ≤ 1000000) :
    Calls Try.prog 152 #[.map (some b), (.agg #[.int .i64 p, .int .i64 q]), .int .i64 v] w fun e w' => (∃ r, e = .returned r) ∧ MapM w' b (putM M (p, q) v) (n + 1) ∧ w.grownBy w' (some b) := by
  obtain ⟨D, hD⟩ := h
  have hbl := hD.own.lt
  have a0 := at_new w p q 45
  have hb0 := below1 w (.cells #[.int .i64 p, .int .i64 q] 45)
  have hD0 := hD.grown (belowT_grown hb0) (by simp)
  have hg0 : w.grownBy (w.alloc (.cells #[.int .i64 p, .int .i64 q] 45)) (some b) := ⟨hb0.os, hb0.tape, hb0.output, hb0.size, fun k hk _ => hb0.block k hk⟩
  obtain ⟨x, hx⟩ : ∃ x, x = valM M (p, q) := ⟨_, rfl⟩
  have hwf : wf64 (valM M (p, q) + v) := WalkArith.wf_i64 (by omega)
  obtain ⟨sel, v0, st, w3, es0, r1, r2, r3, gs, g3, ho⟩ := addT_sel hD0 hp hq hn hwf
  have hP : MapV w3 b ((p, q) :: M.map Prod.fst) (fun z => if z = (p, q) then valM M (p, q) + v else valM M z) (n + 1) _ := mapV_put hp hq hD0 ho
  have c0 : ∀ s, (sel s).cell? ⟨w.heap.size, 0, none⟩ = some (.int .i64 p) := fun s => cell_sel1 a0.c0 (gs s) (by omega)
  have c1 : ∀ s, (sel s).cell? ⟨w.heap.size, 1, none⟩ = some (.int .i64 q) := fun s => cell_sel1 a0.c1 (gs s) (by omega)
  have d0 : w3.cell? ⟨w.heap.size, 0, none⟩ = some (.int .i64 p) := cell_sel1 a0.c0 g3 (by omega)
  have d1 : w3.cell? ⟨w.heap.size, 1, none⟩ = some (.int .i64 q) := cell_sel1 a0.c1 g3 (by omega)
  have hgw : w.grownBy w3 (some b) := hg0.andThen g3 (fun j hj => by cases hj; exact .inr rfl)
  have h3 := hP.own.lookup_int pt_keyed Try.underlying93 Try.underlying3 (zeroT w3) (pt_key hp hq)
  obtain ⟨c, hlk, hat, -⟩ := h3
  have hce : c = valM M (p, q) + v := by
    have q1 := hP.at' p q hp hq
    rw [hat, if_pos rfl] at q1
    exact litT_inj q1
  rw [hce] at hlk
  have HE := Lib.hid (fun hv0 => mapM_put (w := w.alloc (.cells #[.int .i64 p, .int .i64 q] 45)) hM hp hq hD0 hv0 ho)
  have HX : Hid (wrap64 (x + v) = x + v ∧ IntKind.i64.wrap (x + v) = x + v) := ⟨IntWalk.wrap64_in _ (by omega), IntWalk.i64_in _ (by omega)⟩
  have HP := Lib.hid hP
  rw [← hx] at r2 r3 hlk HE
  obtain ⟨s, hs⟩ : ∃ s, s = x + v := ⟨_, rfl⟩
  have f1 : wrap64 (x + v) = s := by rw [HX.out.1, hs]
  have f2 : IntKind.i64.wrap (x + v) = s := by rw [HX.out.2, hs]
  rw [← hs] at r3 hlk HE
  have HS := Lib.hid (And.intro hx hs)
  have R1 := Lib.hid r1; have R3 := Lib.hid r3
  have HG := Lib.hid hgw
  clear hx hs r1 r3 HX hce hat hwf hP ho hD hD0 hg0 hb0 a0 g3 gs hv hv2 hgw
  go_enter Try.func152, Try.ntmps152
  go_wp2_with fail
  refine region_entry 5 sel 0 es0 _ _ _ (by rfl) (by rfl) (by rfl) (by rfl) (by rfl) (by rfl) (by kernel_rfl) (by kernel_rfl) ?_
  simp only [List.take_succ_cons, List.take_zero]
  repeat (first
    | go_big_quiet_step (fail)
    | quiet_step (fail))
  refine wpQuiet_nil ?_
  refine ⟨.tuple #[v0, goInt st], 1, goInt st, w3, entry_op rfl rfl rfl R1.out, extract_op rfl rfl rfl, store_op rfl rfl rfl rfl R3.out, ?_⟩
  clear r2 es0 c0 c1 R1 R3 f1 f2
  go_simp
  by_cases hz : s = 0
  · have HO := HP.out.own
    subst hz
    go_wp2_with (first
      | (at_delete; refine wpList_delete_own _ rfl _ _ 93 45 rfl 3 pt_keyed Try.underlying93 _ b (n + 1) _ rfl HO (.agg #[.int .i64 p, .int .i64 q]) (kl p q) rfl (pt_key hp hq) ?_; intro w4 hown4 hturn4)
      | go_in)
    go_end0
    exact ⟨⟨_, rfl⟩, mapM_del hM hp hq HP.out (by have := HS.out.2; have := HS.out.1; omega) hown4, HG.out.andThen hturn4.grown (fun j hj => by cases hj; exact .inr rfl)⟩
  · have hz' : (s == 0) = false := beq_eq_false_iff_ne.2 hz
    go_wp2_with fail
    go_end0
    exact ⟨⟨_, rfl⟩, HE.out (by have := HS.out.2; have := HS.out.1; omega), HG.out⟩
end Go.Proofs.Ythoniopkeiifnaa

/-! Sum -/
namespace Go.Proofs.Ythoniopkeiifnaa
open Go.RowKit Go.Shelf Go.Sort
attribute [local go_sem] Oper.semAt_some

def sumL (f : Nat → Int) (l : List Nat) : Int := l.foldl (fun s i => s + f i) 0
theorem sumL_snoc (f : Nat → Int) (l : List Nat) (x : Nat) : sumL f (l ++ [x]) = sumL f l + f x := by simp [sumL]
theorem sumL_range (f : Nat → Int) (n : Nat) : sumL f (List.range n) = sumT f n := by
  induction n with
  | zero => rfl
  | succ n ih => rw [List.range_succ, sumL_snoc, ih]; rfl
theorem sumL_abs {f : Nat → Int} {m : Nat} (h : ∀ i, (f i).natAbs ≤ m) (l : List Nat) : (sumL f l).natAbs ≤ l.length * m := by
  have key : ∀ (l : List Nat) (s : Int), (l.foldl (fun s i => s + f i) s).natAbs ≤ s.natAbs + l.length * m := by
    intro l
    induction l with
    | nil => intro s; simp
    | cons x l ih =>
      intro s
      have h1 := ih (s + f x)
      have h2 := h x
      have e : (x :: l).length * m = l.length * m + m := Nat.succ_mul _ _
      rw [List.foldl_cons]
      omega
  have := key l 0
  simp only [Int.natAbs_zero, Nat.zero_add] at this
  exact this

theorem prod_bd {x y : Int} (hx : 0 ≤ x ∧ x ≤ 40) (hy : 0 ≤ y ∧ y ≤ 40) : 0 ≤ x * y ∧ x * y ≤ 1600 :=
  ⟨Int.mul_nonneg hx.1 hy.1, Int.le_trans (Int.mul_le_mul hx.2 hy.2 hy.1 (by omega)) (by omega)⟩
theorem area_bd {ax ay bx by' : Int} (ha : okP ax ay = true) (hb : okP bx by' = true) : (ax * by' - ay * bx).natAbs ≤ 1600 := by
  have h1 := okP_bounds ha; have h2 := okP_bounds hb
  have p1 := prod_bd (x := ax) (y := by') (by omega) (by omega)
  have p2 := prod_bd (x := ay) (y := bx) (by omega) (by omega)
  omega
theorem crossM_ok (ax ay bx by' : Int) (w : World) (ha : okP ax ay = true) (hb : okP bx by' = true) :
    Calls Try.prog 104 #[(.agg #[.int .i64 ax, .int .i64 ay]), (.agg #[.int .i64 bx, .int .i64 by'])] w fun e w' => e = .returned (.int .i64 (ax * by' - ay * bx)) ∧ Below w.heap.size w w' := by
  have h1 := okP_bounds ha; have h2 := okP_bounds hb
  have p1 := prod_bd (x := ax) (y := by') (by omega) (by omega)
  have p2 := prod_bd (x := ay) (y := bx) (by omega) (by omega)
  have e : wrap64 (wrap64 (ax * by') - wrap64 (ay * bx)) = ax * by' - ay * bx := by
    rw [IntWalk.wrap64_in (ax * by') (by omega), IntWalk.wrap64_in (ay * bx) (by omega), IntWalk.wrap64_in _ (by omega)]
  rw [← e]
  exact crossM_any ax ay bx by' w

set_option maxRecDepth 100000 in
set_option maxHeartbeats 4000000 in
theorem impl_twice_yes (A : Option Addr) (c : Nat) (L : List (Int × Int)) (w : World) (hA : PtsA w A L) (hp : polyB L = true) :
    Calls Try.prog 53 #[.slice A L.length c] w fun e w' => e = .returned (.int .i64 (twiceI L)) ∧ Below w.heap.size w w' := by
  obtain ⟨h3, h10, hok⟩ := polyB_all hp
  refine (callsIn_wide (n := 6)).1 ?_
  refine callsIn_of_wp_marks Try.func53 rfl trivial ?_ rfl
  simp only [Try.ntmps53, List.size_toArray, List.length_cons, List.length_nil, Nat.reduceAdd, Nat.reduceSub, Array.replicate_succ, Array.replicate_zero, List.push_toArray, List.append_toArray, List.nil_append, List.cons_append]
  have PC := Lib.hid (impl_poly A c L w hA (by omega))
  rw [hp] at PC
  gi_wp2
  refine ⟨trivial, (wide0.calls PC.out).mono ?_⟩
  rintro e w1 ⟨rfl, hb1⟩
  gi_wp2
  refine ⟨trivial, (wide0.calls (sides_any A L.length c _)).mono ?_⟩
  rintro e w2 ⟨rfl, rfl⟩
  gi_wp2
  have bS := (Boxed.new w1 3 (.int .i64 0)).alloc (.cells #[.slice A L.length c] 34)
  have bN := Boxed.new (w1.alloc (.cells #[.int .i64 0] 3)) 34 (.slice A L.length c)
  simp only [World.size_alloc] at bN
  have hs1 := hb1.size
  have hB0 : Below w.heap.size w ((w1.alloc (.cells #[.int .i64 0] 3)).alloc (.cells #[.slice A L.length c] 34)) := (hb1.alloc hs1 _).alloc (by simp; omega) _
  have hsz : ((w1.alloc (.cells #[.int .i64 0] 3)).alloc (.cells #[.slice A L.length c] 34)).heap.size = w1.heap.size + 2 := by simp
  obtain ⟨W0, hW0⟩ : ∃ W0, (w1.alloc (.cells #[.int .i64 0] 3)).alloc (.cells #[.slice A L.length c] 34) = W0 := ⟨_, rfl⟩
  rw [hW0] at bS bN hB0 hsz ⊢
  clear hW0
  refine wpIn_rangeFunc_ownH rfl (by decide) (gf := 153) (lb := #[.pointer (some ⟨w1.heap.size + 1, 0, none⟩)]) rfl trivial (enters_of Try.func153 (by kernel_rfl) rfl)
    (sides_stops 5 (w1.heap.size + 1) A c L w W0 (by omega) (by omega) hA hB0 (by omega) bN.cell) keepP_t (keepP_b (by omega) (by omega)) (Below.refl _ _) (fun _ => rfl)
    (fun pre W => (Boxed W w1.heap.size 3 (.int .i64 (sumL (twiceT L) pre)) ∧ Boxed W (w1.heap.size + 1) 34 (.slice A L.length c)) ∧ Below w.heap.size w W)
    (fun _ _ _ => False)
    (OwnFrom.and (OwnFrom.and (Own.from (boxed_own _ _ _) _) (Own.from (boxed_own _ _ _) _)) (ownFrom_below (Nat.le_refl _) (by omega)))
    (fun _ => ownFrom_pure _ (fun _ => False))
    ⟨⟨bS, bN⟩, hB0⟩
    (fun x a' W => ∃ Bx, w1.heap.size + 1 < Bx ∧ SideAt W Bx L x ∧ a' = { tmps := #[.slice A L.length c, undef, .int .i64 0, .pointer (some ⟨w1.heap.size, 0, none⟩), undef, .pointer (some ⟨Bx, 0, none⟩), .slice A L.length c, .bool true, .bool false, .slice A L.length c, .func (.func 153) #[] #[.pointer (some ⟨w1.heap.size + 1, 0, none⟩)], .int .i64 (x : Int), .agg #[.int .i64 (gt L x).1, .int .i64 (gt L x).2, .int .i64 (gt L (nx L x)).1, .int .i64 (gt L (nx L x)).2], undef, undef, undef, undef, undef, undef, undef, undef], defers := [] })
    (fun x a' _ X Y row hs hg hr => by obtain ⟨Bx, e1, e2, e3⟩ := hs; exact ⟨Bx, e1, sideAt_own Bx L x _ () X Y row e2 hg hr, e3⟩)
    ?assign ?body ?done ?stop
  case assign =>
    rintro l pre x W K ⟨⟨bS1, bN1⟩, hB1⟩ hK
    simp only [sideV]
    gi_wp2
    have hs2 := hB1.size
    exact hK _ _ (keepsFrom_below (below1 _ _)) (KeepP.of_below (below1 _ _) hs2 bN1.lt) ⟨⟨bS1.alloc _, bN1.alloc _⟩, hB1.alloc hs2 _⟩ ⟨W.heap.size, bN1.lt, sideAt_new W L x, rfl⟩
  case body =>
    rintro l pre x a' W hl - ⟨⟨bS1, bN1⟩, hB1⟩ ⟨Bx, hBx, bX, rfl⟩ hlt
    have cS := bS1.cell
    have fS := bS1.frozen
    obtain ⟨x0, x1, x2, x3⟩ := bX.cells
    obtain ⟨ax, ha⟩ : ∃ ax, ax = (gt L x).1 := ⟨_, rfl⟩
    obtain ⟨ay, hay⟩ : ∃ ay, ay = (gt L x).2 := ⟨_, rfl⟩
    obtain ⟨bx, hbx⟩ : ∃ bx, bx = (gt L (nx L x)).1 := ⟨_, rfl⟩
    obtain ⟨by', hby⟩ : ∃ by', by' = (gt L (nx L x)).2 := ⟨_, rfl⟩
    have oa := gt_ok hok x
    have ob := gt_ok hok (nx L x)
    obtain ⟨s, hs⟩ : ∃ s, s = sumL (twiceT L) pre := ⟨_, rfl⟩
    have sb : s.natAbs ≤ 16000 := by
      have h1 := sumL_abs (f := twiceT L) (m := 1600) (fun i => area_bd (gt_ok hok i) (gt_ok hok (nx L i))) pre
      rw [← hs] at h1
      exact Nat.le_trans h1 (by have := Nat.mul_le_mul_right 1600 (show pre.length ≤ 10 by omega); omega)
    have tb := area_bd oa ob
    have HS : Hid (sumL (twiceT L) (pre ++ [x]) = s + (ax * by' - ay * bx)) := by
      show _ = _
      rw [sumL_snoc, hs, ha, hay, hbx, hby]; rfl
    rw [← ha, ← hay] at oa; rw [← hbx, ← hby] at ob
    rw [← ha, ← hay, ← hbx, ← hby] at tb
    rw [← ha] at x0; rw [← hay] at x1; rw [← hbx] at x2; rw [← hby] at x3
    simp only [← ha, ← hay, ← hbx, ← hby, ← hs] at cS bS1 ⊢
    clear ha hay hbx hby hs
    obtain ⟨t, ht⟩ : ∃ t, t = ax * by' - ay * bx := ⟨_, rfl⟩
    have XC := Lib.hid (fun W => crossM_ok ax ay bx by' W oa ob)
    rw [← ht] at tb HS XC
    clear ht
    have e9 : IntKind.i64.wrap (s + t) = s + t := IntWalk.i64_in _ (by omega)
    have k0 := cell_regrown x0; have k1 := cell_regrown x1; have k2 := cell_regrown x2; have k3 := cell_regrown x3; have k4 := cell_regrown cS
    gi_wp2
    refine region_tail_in 7 (wideR l) (by kernel_rfl) (by kernel_rfl) (by kernel_rfl) ?_
    simp only [List.take_succ_cons, List.take_zero, List.drop_succ_cons, List.drop_zero]
    repeat (first
      | go_big_quiet_step (first | exact Calls.regrown_of (XC.out _))
      | quiet_step (first | exact Calls.regrown_of (XC.out _)))
    refine wpQuiet_nil ?_
    rintro _ ⟨⟨dq, osq⟩, rfl⟩
    have hg := below_regrown W dq osq
    clear k0 k1 k2 k3 k4 x0 x1 x2 x3
    generalize grow (redrawn W dq) osq = W2 at *
    have bS2 := boxed_on bS1 hg
    have bN2 := boxed_on bN1 hg
    have cS2 := bS2.cell
    have fS2 := bS2.frozen
    have hs2 := hB1.size
    gi_wp2
    exact ⟨(keepsFrom_below hg).trans ((KeepsOthers.setCell _ _ _).from _), (KeepP.of_below hg hs2 bN1.lt).setCell (by omega) (by omega) _ _,
      ⟨⟨by rw [HS.out]; exact bS2.set _, bN2.other (by omega) _⟩, (hB1.trans (hg.mono hs2)).setCell (p := ⟨w1.heap.size, 0, none⟩) hs1 _⟩⟩
  case done =>
    rintro D ys W hD rfl ⟨⟨bS1, bN1⟩, hB1⟩ hK
    have cS := bS1.cell
    gi_wp2
    refine ⟨by simp, .inl ⟨_, _, rfl, run_takeDeferred hK, ?_⟩⟩
    exact ⟨_, results_tmp rfl _ _ _, by rw [sumL_range]; rfl, hB1.trans (belowK_b (w := w) (Nat.le_refl _) W D _ _ (by have := hB0.size; omega) hK rfl rfl)⟩
  case stop =>
    rintro D k pre W hD hpre h hK
    exact h.elim
theorem impl_twice (A : Option Addr) (c : Nat) (L : List (Int × Int)) (w : World) (hA : PtsA w A L) (hL : L.length ≤ 1048576) :
    Calls Try.prog 53 #[.slice A L.length c] w fun e w' => e = .returned (.int .i64 (bif polyB L then twiceI L else 0)) ∧ Below w.heap.size w w' := by
  cases hp : polyB L
  · have PC := Lib.hid (impl_poly A c L w hA hL)
    rw [hp] at PC
    go_enter Try.func53, Try.ntmps53
    go_wp2_with fail
    refine PC.out.mono ?_
    rintro e w1 ⟨rfl, hb1⟩
    go_wp2_with fail
    go_ret
    exact ⟨rfl, hb1⟩
  · exact impl_twice_yes A c L w hA hp
end Go.Proofs.Ythoniopkeiifnaa

/-! SidesG -/
namespace Go.Proofs.Ythoniopkeiifnaa
open Go.RowKit Go.Shelf Go.Sort
attribute [local go_sem] Oper.semAt_some

def KeepG (g B : Nat) (X Y : World) : Prop := X.heap.size ≤ Y.heap.size ∧ Y.heap[g]? = X.heap[g]? ∧ Y.heap[B]? = X.heap[B]?
theorem KeepG.refl (g B : Nat) (W : World) : KeepG g B W W := ⟨Nat.le_refl _, rfl, rfl⟩
theorem keepG_t {g B : Nat} {X Y Z : World} (h : KeepG g B X Y) (k : KeepG g B Y Z) : KeepG g B X Z := ⟨Nat.le_trans h.1 k.1, k.2.1.trans h.2.1, k.2.2.trans h.2.2⟩
theorem keepG_b {g B : Nat} {w : World} (hg : g < w.heap.size) (hB : B < w.heap.size) (W : World) (l : Nat) (o o' : Obj) (hl : w.heap.size ≤ l) (_ : W.heap[l]? = some o) (_ : o.isCells = false) (_ : o.isWalk = false) : KeepG g B W (W.putObj l o') :=
  ⟨by simp, World.putObj_heap_other (by omega), World.putObj_heap_other (by omega)⟩
theorem KeepG.of_below {g B : Nat} {W W' : World} (h : Below W.heap.size W W') (hg : g < W.heap.size) (hB : B < W.heap.size) : KeepG g B W W' := ⟨h.size, h.block g hg, h.block B hB⟩
theorem KeepG.of_grown {g B b : Nat} {W W' : World} (h : W.grownBy W' (some b)) (hg : g < W.heap.size) (hB : B < W.heap.size) (h1 : g ≠ b) (h2 : B ≠ b) : KeepG g B W W' :=
  ⟨h.size, h.block g hg (fun e => h1 (Option.some.inj e)), h.block B hB (fun e => h2 (Option.some.inj e))⟩
theorem ptsA_same {X Y : World} {g : Nat} {L : List (Int × Int)} (h : Y.heap[g]? = X.heap[g]?) (hA : PtsA X (some ⟨g, 0, none⟩) L) : PtsA Y (some ⟨g, 0, none⟩) L := fun k hk => by
  obtain ⟨g', e, h1, h2⟩ := hA k hk
  cases e
  exact ⟨g, rfl, cell_same h h1, cell_same h h2⟩
set_option maxRecDepth 100000 in
set_option maxHeartbeats 4000000 in
theorem sidesG1 (n l Bs g c : Nat) (L : List (Int × Int)) (h1 : 1 ≤ L.length) (h2 : L.length ≤ 1048576) (J Jx : List Nat → World → Prop) (W : World) (hJ : AbidesFrom W.heap.size J)
    (hY : ∀ (pre : List Nat) (x : Nat) (W1 : World), x < L.length → J pre W1 → pre.length < L.length → YieldAt Fence.wide (n - 1) Try.prog l #[.int .i64 (x : Int), sideV L x] W1 fun e W' =>
      (e = .returned (.bool true) ∧ J (pre ++ [x]) W' ∧ KeepG g Bs W1 W') ∨ (e = .returned (.bool false) ∧ Jx (pre ++ [x]) W'))
    (hgl : g < W.heap.size) (hA : PtsA W (some ⟨g, 0, none⟩) L) (hBl : Bs < W.heap.size) (hBs : W.cell? ⟨Bs, 0, none⟩ = some (.slice (some ⟨g, 0, none⟩) L.length c)) (h0 : J [] W) :
    CallsIn Fence.wide n Try.prog 153 #[.func (.yield l) #[] #[], .pointer (some ⟨Bs, 0, none⟩)] W fun e W' => (∃ v, e = .returned v) ∧
      ((∃ ys, ys = List.range L.length ∧ J ys W') ∨ (∃ pre, (∃ k, k ≤ L.length ∧ pre = List.range k) ∧ Jx pre W')) := by
  have HA := Lib.hid hA; clear hA
  refine callsIn_of_wp Try.func153 rfl trivial ?_ rfl
  simp only [Try.ntmps153, List.size_toArray, List.length_cons, List.length_nil, Nat.reduceAdd, Nat.reduceSub, Array.replicate_succ, Array.replicate_zero, List.push_toArray, List.append_toArray, List.nil_append, List.cons_append]
  gi_wp2
  gi_loopw [7] (fun i wr => ∃ k : Nat, k ≤ L.length ∧ i = .int .i64 k ∧ J (List.range k) wr ∧ KeepG g Bs W wr)
    (fun i _ => L.length - (intOf i).toNat)
  case atStart => exact ⟨0, Nat.zero_le _, rfl, h0, KeepG.refl _ _ _⟩
  case round =>
    obtain ⟨k, hk, rfl, hJs, hnx⟩ := hrel
    have hsz : W.heap.size ≤ wr.heap.size := hnx.1
    have hbox : wr.cell? ⟨Bs, 0, none⟩ = some (.slice (some ⟨g, 0, none⟩) L.length c) := cell_same hnx.2.2 hBs
    by_cases hlt : k < L.length
    · obtain ⟨c1, c2⟩ := gt_cells (ptsA_same hnx.2.1 HA.out) hlt
      obtain ⟨m, hm⟩ : ∃ m, m = nx L k := ⟨_, rfl⟩
      have hml : m < L.length := by rw [hm]; exact (next_int (i := k) h1).2
      have e2 : ((k : Int) + 1) % (L.length : Int) = (m : Int) := by rw [hm]; unfold nx; exact (Int.natCast_emod (k + 1) L.length).symm
      obtain ⟨d1, d2⟩ := gt_cells (ptsA_same hnx.2.1 HA.out) hml
      obtain ⟨x, hx⟩ : ∃ x, x = (gt L k).1 := ⟨_, rfl⟩
      obtain ⟨y, hy⟩ : ∃ y, y = (gt L k).2 := ⟨_, rfl⟩
      obtain ⟨x', hx'⟩ : ∃ x', x' = (gt L m).1 := ⟨_, rfl⟩
      obtain ⟨y', hy'⟩ : ∃ y', y' = (gt L m).2 := ⟨_, rfl⟩
      rw [← hx] at c1; rw [← hy] at c2; rw [← hx'] at d1; rw [← hy'] at d2
      have HV : Hid (sideV L k = .agg #[.int .i64 x, .int .i64 y, .int .i64 x', .int .i64 y']) := by
        show _ = _
        rw [hx, hy, hx', hy', hm]; rfl
      clear hx hy hx' hy' hm
      have hb0 := below1 wr (.cells #[.int .i64 x, .int .i64 y] 45)
      have A0 := at_new wr x y 45
      have k1 := cell_regrown A0.c0
      have k2 := cell_regrown A0.c1
      have k3 := cell_regrown (cell_on hb0 rfl d1)
      have k4 := cell_regrown (cell_on hb0 rfl d2)
      have k5 := cell_regrown (cell_on hb0 rfl hbox)
      have hJ1 : J (List.range k) (wr.alloc (.cells #[.int .i64 x, .int .i64 y] 45)) := hJ _ _ _ none hJs (grown_of_below hb0) (fun r e => by cases e)
      gi_wp2
      refine region_tail_in 12 wide0 (by kernel_rfl) (by kernel_rfl) (by kernel_rfl) ?_
      simp only [List.take_succ_cons, List.take_zero, List.drop_succ_cons, List.drop_zero]
      repeat (first
        | go_big_quiet_step (fail)
        | quiet_step (fail))
      refine wpQuiet_nil ?_
      rintro _ ⟨⟨dq, osq⟩, rfl⟩
      have hb1 := hb0.trans ((below_regrown _ dq osq).mono (by simp))
      have hJ2 : J (List.range k) (grow (redrawn (wr.alloc (.cells #[.int .i64 x, .int .i64 y] 45)) dq) osq) := hJ _ _ _ none hJs (grown_of_below hb1) (fun r e => by cases e)
      clear k1 k2 k3 k4 k5 c1 c2 d1 d2 hJ1 A0
      generalize grow (redrawn (wr.alloc (.cells #[.int .i64 x, .int .i64 y] 45)) dq) osq = w2 at *
      obtain ⟨fn, tmps, assign, body, hy, hR⟩ := hY _ k w2 hlt hJ2 (by rw [List.length_range]; exact hlt)
      rw [HV.out] at hy
      gi_wp2
      refine ⟨fun e => (by cases e), hR.mono ?_⟩
      have hk2 : KeepG g Bs W w2 := keepG_t hnx (KeepG.of_below hb1 (by omega) (by omega))
      rintro e W3 (⟨rfl, hJ3, hk3⟩ | ⟨rfl, hJx3⟩)
      · gi_wp2
        go_roundw
        case rel => exact ⟨k + 1, by omega, by go_num, by rw [List.range_succ]; exact hJ3, keepG_t hk2 hk3⟩
        case measure => simp [intOf]; omega
      · gi_wp2
        refine bodyPost_ret (results_none rfl _ _ _) rfl ?_
        exact ⟨⟨_, rfl⟩, .inr ⟨_, ⟨k + 1, by omega, List.range_succ.symm⟩, hJx3⟩⟩
    · obtain rfl : k = L.length := by omega
      gi_wp2
      go_end0
      exact ⟨⟨_, rfl⟩, .inl ⟨_, rfl, hJs⟩⟩
/-- **The iterator of the sides.** -/
theorem sidesG_stops (n Bs g c : Nat) (L : List (Int × Int)) (w : World) (h1 : 1 ≤ L.length) (h2 : L.length ≤ 1048576) (hgl : g < w.heap.size) (hA : PtsA w (some ⟨g, 0, none⟩) L) (hBl : Bs < w.heap.size) (hBs : w.cell? ⟨Bs, 0, none⟩ = some (.slice (some ⟨g, 0, none⟩) L.length c)) :
    SeqStopsK Fence.wide n Try.prog 153 #[.pointer (some ⟨Bs, 0, none⟩)] (fun i : Nat => #[.int .i64 (i : Int), sideV L (i % L.length)]) (KeepG g Bs) (fun ys => ys = List.range L.length) (fun pre => ∃ k, k ≤ L.length ∧ pre = List.range k) L.length w := fun l J Jx W hW hJ _ hY h0 =>
  sidesG1 n l Bs g c L h1 h2 J Jx W hJ (fun pre x W1 hx => by have := hY pre x W1; simp only [Nat.mod_eq_of_lt hx] at this; exact this) (Nat.lt_of_lt_of_le hgl hW.size) (ptsA_on hA hW) (Nat.lt_of_lt_of_le hBl hW.size) ((hW.cell (p := ⟨Bs, 0, none⟩) hBl).trans hBs) h0
/-- The iterator over no points. -/
theorem sidesN_stops (n Bs c : Nat) (A : Option Addr) (w : World) (hBl : Bs < w.heap.size) (hBs : w.cell? ⟨Bs, 0, none⟩ = some (.slice A 0 c)) :
    SeqStopsK Fence.wide n Try.prog 153 #[.pointer (some ⟨Bs, 0, none⟩)] (fun i : Nat => #[.int .i64 (i : Int), sideV [] i]) (KeepG 0 Bs) (fun ys => ys = []) (fun pre => pre = []) 0 w := fun l J Jx W hW hJ _ hY h0 => by
  have hbox := (hW.cell (p := ⟨Bs, 0, none⟩) hBl).trans hBs
  refine callsIn_of_wp Try.func153 rfl trivial ?_ rfl
  simp only [Try.ntmps153, List.size_toArray, List.length_cons, List.length_nil, Nat.reduceAdd, Nat.reduceSub, Array.replicate_succ, Array.replicate_zero, List.push_toArray, List.append_toArray, List.nil_append, List.cons_append]
  gi_wp2
  gi_loopw [7] (fun i wr => i = .int .i64 0 ∧ J [] wr) (fun i _ => 0)
  case atStart => exact ⟨rfl, h0⟩
  case round =>
    obtain ⟨rfl, hJs⟩ := hrel
    gi_wp2
    go_end0
    exact ⟨⟨_, rfl⟩, .inl ⟨_, rfl, hJs⟩⟩
end Go.Proofs.Ythoniopkeiifnaa

/-! Conv -/
namespace Go.Proofs.Ythoniopkeiifnaa
open Go.RowKit

/-- The side to which a polygon turns at a corner. -/
def turnI (L : List (Int × Int)) (i : Nat) : Int := sgn (crossP (gt L (pv L i)) (gt L i) (gt L (nx L i)))
def convB (L : List (Int × Int)) : Bool := !(bothB ((List.range L.length).map (turnI L)))
def convV (L : List (Int × Int)) : Bool := polyB L && convB L
theorem turnI_three (L : List (Int × Int)) (i : Nat) : turnI L i = 1 ∨ turnI L i = -1 ∨ turnI L i = 0 := sgn_three _
set_option maxRecDepth 100000 in
set_option maxHeartbeats 4000000 in
theorem conv_any (A : Option Addr) (c : Nat) (L : List (Int × Int)) (w : World) (hA : PtsA w A L) (h1 : 1 ≤ L.length) (h2 : L.length ≤ 10) (hok : allOk L = true) :
    Calls Try.prog 179 #[.slice A L.length c] w fun e w' => e = .returned (.bool (convB L)) ∧ Below w.heap.size w w' := by
  obtain ⟨g, rfl, -⟩ := hA 0 h1
  have hmin : ∀ (w : World) (x y : Int) (ts : Array TypeId) (t : TypeId), (Builtin.min_ ts t #[.int .i64 x, .int .i64 y]).run Try.prog w = .ok (.int .i64 (minI x y)) w := run_minI
  have hmax : ∀ (w : World) (x y : Int) (ts : Array TypeId) (t : TypeId), (Builtin.max_ ts t #[.int .i64 x, .int .i64 y]).run Try.prog w = .ok (.int .i64 (maxI x y)) w := run_maxI
  have HA := Lib.hid hA; have HOK := Lib.hid hok
  have HLH : Hid ((loT (turnI L) L.length == 0 || hiT (turnI L) L.length == 0) = convB L) := lohi (turnI_three L) _
  clear hA hok
  go_enter Try.func179, Try.ntmps179
  go_wp2_with fail
  go_loopw [3, 4, 6, 7, 8, 13] (fun lo hi _ _ _ i wr => ∃ k : Nat, k ≤ L.length ∧ i = .int .i64 k ∧ lo = .int .i64 (loT (turnI L) k) ∧ hi = .int .i64 (hiT (turnI L) k) ∧ Below w.heap.size w wr) (fun _ _ _ _ _ i _ => L.length - (intOf i).toNat)
  case atStart => exact ⟨0, Nat.zero_le _, rfl, rfl, rfl, Below.refl _ _⟩
  case round =>
    obtain ⟨wo, rfl⟩ : ∃ wo : World, wo = wr := ⟨_, rfl⟩
    obtain ⟨k, hk, rfl, rfl, rfl, hb⟩ := hrel
    by_cases hlt : k < L.length
    · obtain ⟨hr, hrl⟩ := next_int (i := k) h1
      have hpl : (k + L.length - 1) % L.length < L.length := Nat.mod_lt _ (by omega)
      have hpr : Int.tmod ((k : Int) + (L.length : Int) - 1) (L.length : Int) = (((k + L.length - 1) % L.length : Nat) : Int) := by
        have : (k : Int) + (L.length : Int) - 1 = ((k + L.length - 1 : Nat) : Int) := by omega
        rw [this, tmod_nat]
      have hap := ptsA_on HA.out hb
      obtain ⟨c1, c2⟩ := gt_cells hap hlt
      obtain ⟨c3, c4⟩ := gt_cells hap hrl
      obtain ⟨c5, c6⟩ := gt_cells hap hpl
      have HCR := Lib.hid (fun w => crossS_on _ _ _ _ _ _ w (all_at HOK.out hpl) (all_at HOK.out hlt) (all_at HOK.out hrl))
      have HLO : Hid (loT (turnI L) (k + 1) = minI (loT (turnI L) k) (turnI L k)) := rfl
      have HHI : Hid (hiT (turnI L) (k + 1) = maxI (hiT (turnI L) k) (turnI L k)) := rfl
      have HBE : Hid (turnI L k = sgn (crossP ((gt L ((k + L.length - 1) % L.length)).1, (gt L ((k + L.length - 1) % L.length)).2) ((gt L k).1, (gt L k).2) ((gt L ((k + 1) % L.length)).1, (gt L ((k + 1) % L.length)).2))) := rfl
      clear hap
      generalize (k + 1) % L.length = r at *
      generalize (k + L.length - 1) % L.length = t at *
      generalize (gt L k).1 = x at *
      generalize (gt L k).2 = y at *
      generalize (gt L r).1 = x' at *
      generalize (gt L r).2 = y' at *
      generalize (gt L t).1 = x'' at *
      generalize (gt L t).2 = y'' at *
      generalize crossP (x'', y'') (x, y) (x', y') = C at *
      generalize loT (turnI L) k = lo at *
      generalize hiT (turnI L) k = hi at *
      have f1 : IntKind.i64.wrap ((k : Int) + 1) = (k : Int) + 1 := IntWalk.i64_in _ (by omega)
      have f2 : IntKind.i64.wrap ((k : Int) + (L.length : Int)) = (k : Int) + (L.length : Int) := IntWalk.i64_in _ (by omega)
      have f3 : IntKind.i64.wrap ((k : Int) + (L.length : Int) - 1) = (k : Int) + (L.length : Int) - 1 := IntWalk.i64_in _ (by omega)
      have f4 : IntKind.i64.wrap (r : Int) = (r : Int) := IntWalk.i64_in _ (by omega)
      have f5 : IntKind.i64.wrap (t : Int) = (t : Int) := IntWalk.i64_in _ (by omega)
      have hp1 : (r : Int) < (L.length : Int) := by omega
      have hp2 : (0 : Int) ≤ (r : Int) := by omega
      have hp3 : (t : Int) < (L.length : Int) := by omega
      have hp4 : (0 : Int) ≤ (t : Int) := by omega
      have hne : ¬ L.length = 0 := by omega
      have hal := (Below.refl wo.heap.size wo).alloc (Nat.le_refl _) (.cells #[.int .i64 x, .int .i64 y] 45)
      have d3 := cell_on hal rfl c3; have d4 := cell_on hal rfl c4; have d5 := cell_on hal rfl c5; have d6 := cell_on hal rfl c6
      have n1 := at_new wo x y 45
      have d1 := n1.c0; have d2 := n1.c1
      have b2 := hb.alloc hb.size (.cells #[.int .i64 x, .int .i64 y] 45)
      have k1 := cell_regrown d1; have k2 := cell_regrown d2; have k3 := cell_regrown d3; have k4 := cell_regrown d4; have k5 := cell_regrown d5; have k6 := cell_regrown d6
      have HSG := Lib.hid (fun n w => (sign_any n w).mono fun e w' (h : _ ∧ w' = w) => And.intro h.1 (show Below w.heap.size w w' by rw [h.2]; exact Below.refl _ _))
      clear hal hb
      go_wp2_with fail
      refine wp_region_quiet_below (by kernel_rfl) (by kernel_rfl) ?_
      repeat (first
        | go_big_quiet_step (first | exact Calls.regrown_of (HCR.out _) | exact Calls.regrown_of (HSG.out _ _))
        | quiet_step (first | exact Calls.regrown_of (HCR.out _) | exact Calls.regrown_of (HSG.out _ _)))
      refine wpQuiet_nil ?_
      rintro _ ⟨⟨dq, osq⟩, rfl⟩
      have hst := below_regrown (wo.alloc (.cells #[.int .i64 x, .int .i64 y] 45)) dq osq
      have b3 := below_on b2 hst
      clear k1 k2 k3 k4 k5 k6 d1 d2 d3 d4 d5 d6 b2 n1 hst c1 c2 c3 c4 c5 c6
      simp only at *
      generalize Go.Sort.grow (redrawn (wo.alloc (.cells #[.int .i64 x, .int .i64 y] 45)) dq) osq = w3 at *
      clear hr hpr f1 f2 f3 f4 f5 hp1 hp2 hp3 hp4
      go_wp2_with fail
      go_roundw
      case rel => exact ⟨k + 1, by omega, by go_num, by rw [HLO.out, HBE.out], by rw [HHI.out, HBE.out], b3⟩
      case measure => simp [intOf]; omega
    · have e : k = L.length := by omega
      have HQ : Hid ((loT (turnI L) k == 0 || hiT (turnI L) k == 0) = convB L) := by
        show _ = _
        rw [e]; exact HLH.out
      clear e HLH
      generalize loT (turnI L) k = lo at *
      generalize hiT (turnI L) k = hi at *
      cases hlo : (lo == 0)
      all_goals (
        rw [hlo] at HQ
        go_wp2_with fail
        go_ret
        exact ⟨ret_bool HQ.out, hb⟩)
theorem spec_conv (A : Option Addr) (c : Nat) (L : List (Int × Int)) (w : World) (hA : PtsA w A L) (hL : L.length ≤ 1048576) :
    Calls Try.prog 161 #[.slice A L.length c] w fun e w' => e = .returned (.bool (convV L)) ∧ Below w.heap.size w w' := by
  have HA := Lib.hid hA
  have HP := Lib.hid (spec_poly A c L w hA hL)
  have HV : Hid (convV L = (polyB L && convB L)) := rfl
  clear hA
  cases hp : polyB L
  all_goals (
    rw [hp] at HP HV
    go_enter Try.func161, Try.ntmps161
    go_wp2_with fail
    refine HP.out.mono ?_
    rintro e w1 ⟨rfl, b1⟩)
  · go_wp2_with fail
    go_ret
    exact ⟨ret_bool HV.out.symm, b1⟩
  · obtain ⟨q1, q2, q3⟩ := polyB_all hp
    have HT := Lib.hid (conv_any A c L w1 (ptsA_on HA.out b1) (by omega) q2 q3)
    clear q1 q2 q3
    go_wp2_with fail
    refine HT.out.mono ?_
    rintro e w2 ⟨rfl, hb2⟩
    have b2 := below_on b1 hb2
    clear b1 hb2
    go_wp2_with fail
    go_ret
    exact ⟨ret_bool HV.out.symm, b2⟩
end Go.Proofs.Ythoniopkeiifnaa

/-! Oval -/
namespace Go.Proofs.Ythoniopkeiifnaa
open Go.RowKit

/-- The vector of a side. -/
def dvec (S : List (Int × Int)) (i : Nat) : Int × Int := ((gt S (nx S i)).1 - (gt S i).1, (gt S (nx S i)).2 - (gt S i).2)
def dvs (S : List (Int × Int)) : List (Int × Int) := (List.range S.length).map (dvec S)
def backB (p q : Int × Int) : Bool := p.1 == -q.1 && p.2 == -q.2
def ovalB (D : List (Int × Int)) : Bool := (List.range D.length).all fun i => (List.range D.length).any fun j => backB (gt D j) (gt D i)
def ovalV (L : List (Int × Int)) : Bool := convV L && ovalB (dvs (straightL L))
theorem dvs_len (S : List (Int × Int)) : (dvs S).length = S.length := by simp [dvs]
theorem oval_true {D : List (Int × Int)} (h : ∀ i, i < D.length → (List.range D.length).any (fun j => backB (gt D j) (gt D i)) = true) : ovalB D = true := by
  simp only [ovalB, List.all_eq_true, List.mem_range]
  exact h
theorem oval_false {D : List (Int × Int)} {i : Nat} (hi : i < D.length) (h : (List.range D.length).any (fun j => backB (gt D j) (gt D i)) = false) : ovalB D = false := by
  cases hb : ovalB D
  · rfl
  · simp only [ovalB, List.all_eq_true, List.mem_range] at hb
    rw [hb i hi] at h; cases h
theorem any_snoc (f : Nat → Bool) (q : Nat) : (List.range (q + 1)).any f = ((List.range q).any f || f q) := by
  rw [List.range_succ, List.any_append]; simp

/-- Slices of two ints, as the cells of an owned slice. -/
def RowsI (w : World) (base : Nat) (v : Value) (D : List (Int × Int)) : Prop := ∃ vals : List Value, w.ownsRow base 22 1 v D.length vals ∧ ∀ j (h : j < D.length), ∃ g, vals[j]? = some (.slice (some ⟨g, 0, none⟩) 2 2) ∧ At w g D[j].1 D[j].2 3 ∧ v.ownBlock ≠ some g
def RowsA (w : World) (gl : Nat) (D : List (Int × Int)) : Prop := ∀ j, j < D.length → ∃ g, w.cell? ⟨gl, j, none⟩ = some (.slice (some ⟨g, 0, none⟩) 2 2) ∧ w.cell? ⟨g, 0, none⟩ = some (.int .i64 (gt D j).1) ∧ w.cell? ⟨g, 1, none⟩ = some (.int .i64 (gt D j).2)
theorem rowsA_on {w w' : World} {gl : Nat} {D : List (Int × Int)} (h : RowsA w gl D) (hb : Below w.heap.size w w') : RowsA w' gl D := fun j hj => by
  obtain ⟨g, h1, h2, h3⟩ := h j hj
  exact ⟨g, cell_on hb rfl h1, cell_on hb rfl h2, cell_on hb rfl h3⟩
theorem rows_at {w : World} {base : Nat} {v : Value} {D : List (Int × Int)} (h : RowsI w base v D) (h0 : 0 < D.length) : ∃ gl cap, v = .slice (some ⟨gl, 0, none⟩) D.length cap ∧ RowsA w gl D := by
  obtain ⟨vals, own, hr⟩ := h
  rcases own.2 with ⟨_, h1⟩ | ⟨gl, cap, cur, hv, _⟩
  · omega
  · refine ⟨gl, cap, hv, fun j hj => ?_⟩
    obtain ⟨g, h1, h2, _⟩ := hr j hj
    rw [hv] at own
    refine ⟨g, ?_, ?_, ?_⟩
    · rw [own.cellAt j (by omega)]; exact h1
    · rw [gt_at hj]; exact h2.c0
    · rw [gt_at hj]; exact h2.c1
theorem rows_below {w w' : World} {base : Nat} {v : Value} {D : List (Int × Int)} (h : RowsI w base v D) (hb : Below w.heap.size w w') : RowsI w' base v D := by
  obtain ⟨vals, own, hr⟩ := h
  refine ⟨vals, own_below own hb, fun j hj => ?_⟩
  obtain ⟨g, h1, h2, h3⟩ := hr j hj
  exact ⟨g, h1, h2.step hb, h3⟩
theorem rows_step {w w6 : World} {base : Nat} {v : Value} {D : List (Int × Int)} {vals : List Value} {x y : Int} {gP g6 cp : Nat}
    (hr : ∀ j (h : j < D.length), ∃ g, vals[j]? = some (.slice (some ⟨g, 0, none⟩) 2 2) ∧ At w g D[j].1 D[j].2 3 ∧ v.ownBlock ≠ some g) (hl : vals.length = D.length)
    (hP : At w gP x y 3) (hgP : v.ownBlock ≠ some gP)
    (own6 : w6.ownsRow base 22 1 (.slice (some ⟨g6, 0, none⟩) (D.length + 1) cp) (D.length + 1) (vals ++ [.slice (some ⟨gP, 0, none⟩) 2 2])) (hgrow : w.grownBy w6 v.ownBlock) (hg6 : v.ownBlock = some g6 ∨ g6 = w.heap.size) :
    RowsI w6 base (.slice (some ⟨g6, 0, none⟩) (D.length + 1) cp) (D ++ [(x, y)]) := by
  have hob : (Value.slice (some ⟨g6, 0, none⟩) (D.length + 1) cp).ownBlock = some g6 := rfl
  refine ⟨_, by simpa using own6, fun j hj => ?_⟩
  rw [hob]
  rcases Nat.lt_or_ge j D.length with h1 | h1
  · obtain ⟨g, e1, e2, e3⟩ := hr j h1
    refine ⟨g, by rw [List.getElem?_append_left (by omega)]; exact e1, ?_, ?_⟩
    · rw [List.getElem_append_left h1]; exact e2.grown hgrow (Ne.symm e3)
    · intro e
      rcases hg6 with h | h
      · exact e3 (h.trans e)
      · have := e2.lt; simp only [Option.some.injEq] at e; omega
  · have hj' : j = D.length := by simp at hj; omega
    subst hj'
    refine ⟨gP, by rw [List.getElem?_append_right (by omega)]; simp [hl], ?_, ?_⟩
    · rw [List.getElem_append_right (Nat.le_refl _)]; simpa using hP.grown hgrow (Ne.symm hgP)
    · intro e
      rcases hg6 with h | h
      · exact hgP (h.trans e)
      · have := hP.lt; simp only [Option.some.injEq] at e; omega

theorem infoInts : (Try.prog.info? 22).map (fun i => (i.zero, i.size, i.bytes)) = some (some (.slice none 0 0), 1, 24) := by kernel_rfl
set_option maxRecDepth 100000 in
set_option maxHeartbeats 4000000 in
theorem vecs_any (A : Option Addr) (c : Nat) (L : List (Int × Int)) (w : World) (hA : PtsA w A L) (h1 : 1 ≤ L.length) (h2 : L.length ≤ 10) (hok : allOk L = true) :
    Calls Try.prog 162 #[.slice A L.length c] w fun e w' => ∃ v, e = .returned v ∧ RowsI w' w.heap.size v (dvs L) ∧ Below w.heap.size w w' := by
  obtain ⟨g, rfl, -⟩ := hA 0 h1
  have HA := Lib.hid hA; have HOK := Lib.hid hok
  clear hA hok
  obtain ⟨i0, hi0, hz0, hz1, hz2⟩ := info_parts infoInts
  have own0 := World.ownsRow_lit (base := w.heap.size) (e := 22) (size := 1) w #[] 0 (Nat.le_refl _) (by decide) rfl
  have b0 := below1 w (.cells #[] 22)
  go_enter Try.func162, Try.ntmps162
  go_wp2_with fail
  go_loopw [3, 4, 5, 6, 10] (fun s _ _ _ i wr => ∃ (k g5 cap : Nat) (D : List (Int × Int)), k ≤ L.length ∧ i = .int .i64 k ∧ s = .slice (some ⟨g5, 0, none⟩) D.length cap ∧ Hid (D = (List.range k).map (dvec L)) ∧ Hid (RowsI wr w.heap.size (.slice (some ⟨g5, 0, none⟩) D.length cap) D) ∧ Below w.heap.size w wr) (fun _ _ _ _ i _ => L.length - (intOf i).toNat)
  case atStart => exact ⟨0, w.heap.size, 0, [], Nat.zero_le _, rfl, rfl, rfl, ⟨[], own0, fun j hj => by simp at hj⟩, b0⟩
  case round =>
    obtain ⟨wo, rfl⟩ : ∃ wo : World, wo = wr := ⟨_, rfl⟩
    clear own0 b0
    obtain ⟨k, g5, cap, D, hk, rfl, rfl, HD, HR, hb⟩ := hrel
    by_cases hlt : k < L.length
    · obtain ⟨hr, hrl⟩ := next_int (i := k) h1
      have hap := ptsA_on HA.out hb
      obtain ⟨c1, c2⟩ := gt_cells hap hlt
      obtain ⟨c3, c4⟩ := gt_cells hap hrl
      have HST : Hid (D ++ [((gt L ((k + 1) % L.length)).1 - (gt L k).1, (gt L ((k + 1) % L.length)).2 - (gt L k).2)] = (List.range (k + 1)).map (dvec L)) := by
        show _ = _
        rw [HD.out, List.range_succ]; simp [dvec, nx]
      have hDL : D.length ≤ 10 := by rw [HD.out]; simp; omega
      have q1 := okP_bounds (all_at HOK.out hlt)
      have q2 := okP_bounds (all_at HOK.out hrl)
      clear hap HD
      generalize (k + 1) % L.length = r at *
      generalize (gt L k).1 = x at *
      generalize (gt L k).2 = y at *
      generalize (gt L r).1 = x' at *
      generalize (gt L r).2 = y' at *
      have f1 : IntKind.i64.wrap ((k : Int) + 1) = (k : Int) + 1 := IntWalk.i64_in _ (by omega)
      have f4 : IntKind.i64.wrap (r : Int) = (r : Int) := IntWalk.i64_in _ (by omega)
      have f5 : wrap64 (x' - x) = x' - x := IntWalk.wrap64_in _ (by omega)
      have f6 : wrap64 (y' - y) = y' - y := IntWalk.wrap64_in _ (by omega)
      have f7 : IntKind.i64.wrap (x' - x) = x' - x := IntWalk.i64_in _ (by omega)
      have f8 : IntKind.i64.wrap (y' - y) = y' - y := IntWalk.i64_in _ (by omega)
      clear q1 q2
      have hp1 : (r : Int) < (L.length : Int) := by omega
      have hp2 : (0 : Int) ≤ (r : Int) := by omega
      have hne : ¬ L.length = 0 := by omega
      have hal := below1 wo (.cells #[.int .i64 x, .int .i64 y] 45)
      have d3 := cell_on hal rfl c3; have d4 := cell_on hal rfl c4
      obtain ⟨w3, e3⟩ : ∃ w3, w3 = ((wo.alloc (.cells #[.int .i64 x, .int .i64 y] 45)).alloc (.cells #[.int .i64 x', .int .i64 y'] 45)).alloc (.cells #[.int .i64 (x' - x), .int .i64 (y' - y)] 3) := ⟨_, rfl⟩
      have n1 : At w3 wo.heap.size x y 45 := by rw [e3]; exact ((at_new wo x y 45).alloc _).alloc _
      have n2 : At w3 (wo.heap.size + 1) x' y' 45 := by rw [e3]; have := (at_new (wo.alloc (.cells #[.int .i64 x, .int .i64 y] 45)) x' y' 45).alloc (.cells #[.int .i64 (x' - x), .int .i64 (y' - y)] 3); rwa [size_alloc] at this
      have n3 : At w3 (wo.heap.size + 1 + 1) (x' - x) (y' - y) 3 := by
        rw [e3]
        have := at_new ((wo.alloc (.cells #[.int .i64 x, .int .i64 y] 45)).alloc (.cells #[.int .i64 x', .int .i64 y'] 45)) (x' - x) (y' - y) 3
        rwa [size_alloc, size_alloc] at this
      have hb3 : Below wo.heap.size wo w3 := by rw [e3]; exact below3 wo _ _ _
      have hs3 : w3.heap.size = wo.heap.size + 1 + 1 + 1 := by rw [e3]; simp
      have m1 := (two0 wo x y x' y' 45)
      have c5 := m1.1.c0; have c6 := m1.1.c1; have c7 := m1.2.c0; have c8 := m1.2.c1
      have b3 := below_on hb hb3
      have hr3 := rows_below HR.out hb3
      obtain ⟨vals, own3, hrows⟩ := hr3
      have hvl : vals.length = D.length := by simpa using own3.1
      have hg5 := (own3.lt g5 rfl).1
      have hg5b : (Value.slice (some ⟨g5, 0, none⟩) D.length cap).ownBlock ≠ some (wo.heap.size + 1 + 1) := by
        obtain ⟨vals0, own0, _⟩ := HR.out
        have := (own0.lt g5 rfl).2
        simp [Value.ownBlock]; omega
      have own4 := own3.alloc (.cells #[.slice (some ⟨wo.heap.size + 1 + 1, 0, none⟩) 2 2] 22)
      have b4 := b3.alloc b3.size (.cells #[.slice (some ⟨wo.heap.size + 1 + 1, 0, none⟩) 2 2] 22)
      have hnew := World.news_of_block (cs := #[.slice (some ⟨wo.heap.size + 1 + 1, 0, none⟩) 2 2]) (t := 22) (fr := (0, 0)) (heap_alloc_new w3 (.cells #[.slice (some ⟨wo.heap.size + 1 + 1, 0, none⟩) 2 2] 22))
      rw [hs3] at hnew
      have hs4 : (w3.alloc (.cells #[.slice (some ⟨wo.heap.size + 1 + 1, 0, none⟩) 2 2] 22)).heap.size = wo.heap.size + 1 + 1 + 1 + 1 := by rw [size_alloc, hs3]
      have hr4 : ∀ j (h : j < D.length), ∃ g, vals[j]? = some (.slice (some ⟨g, 0, none⟩) 2 2) ∧ At (w3.alloc (.cells #[.slice (some ⟨wo.heap.size + 1 + 1, 0, none⟩) 2 2] 22)) g D[j].1 D[j].2 3 ∧ (Value.slice (some ⟨g5, 0, none⟩) D.length cap).ownBlock ≠ some g := fun j hj => by
        obtain ⟨g, e1, e2, e3⟩ := hrows j hj
        exact ⟨g, e1, e2.alloc _, e3⟩
      have HS := Lib.hid (And.intro hr4 (And.intro hvl (And.intro (n3.alloc (.cells #[.slice (some ⟨wo.heap.size + 1 + 1, 0, none⟩) 2 2] 22)) (And.intro hg5b (And.intro hs4 (And.intro b4 hnew))))))
      have HO4 := Lib.hid own4
      have HG5 := Lib.hid hg5
      have HW3 := Lib.hid e3
      clear hal hb HR hrows own3 b3 hb3 n1 n2 n3 hr4 hvl hg5 hg5b b4 hnew hs3 hs4 own4 e3 m1
      go_wp2_with (at_builtin; refine wpList_append_lies _ rfl _ _ 125 rfl w.heap.size 22 i0 (.slice none 0 0) 1 24 Try.underlying125 hi0 hz0 hz1 hz2 rfl (by decide) _ _ _ rfl (by rw [← HW3.out]; exact HO4.out) ⟨wo.heap.size + 1 + 1 + 1, 0, none⟩ 1 1 [.slice (some ⟨wo.heap.size + 1 + 1, 0, none⟩) 2 2] rfl rfl ?d1 ?d2 (by omega) ?d3 ?d4 ?d5 (wo.heap.size + 1 + 1 + 1 + 1) ?d6 ?_)
      case d2 => simp [Value.oneCell']
      case d3 => unfold maxLen; omega
      case d4 => omega
      case d5 => have h := HS.out.2.2.2.2.2.1.size; have h2 := HS.out.2.2.2.2.1; omega
      intro g6 cp6 w6 own6 hgrow hg6 _
      rw [← HW3.out] at hgrow
      obtain ⟨s1, s2, s3, s4, s5, s6, s7⟩ := HS.out
      have HN : Hid ((D ++ [(x' - x, y' - y)]).length = D.length + 1) := by simp [Hid]
      have R : Hid (RowsI w6 w.heap.size (.slice (some ⟨g6, 0, none⟩) (D ++ [(x' - x, y' - y)]).length cp6) (D ++ [(x' - x, y' - y)]) ∧ Below w.heap.size w w6) := by
        rw [HN.out]
        exact ⟨rows_step s1 s2 s3 s4 own6 hgrow (by rw [s5]; exact hg6), s6.grown hgrow (by have := s6.size; omega) (fun k hk => by cases hk; exact HG5.out)⟩
      clear s1 s2 s3 s4 s5 s6 s7 own6 hgrow hg6 c1 c2 c3 c4 c5 c6 c7 c8 d3 d4
      go_wp2_with fail
      first
        | exact ⟨⟨k + 1, g6, cp6, _, by omega, by go_num, by rw [HN.out], HST, R.out.1, R.out.2⟩, by simp [intOf]; omega⟩
        | (go_roundw
           case rel => exact ⟨k + 1, g6, cp6, _, by omega, by go_num, by rw [HN.out], HST, R.out.1, R.out.2⟩
           case measure => simp [intOf]; omega)
    · have e : k = L.length := by omega
      have HQ : Hid (D = dvs L) := by
        show _ = _
        rw [HD.out, e]; rfl
      clear e HD
      go_wp2_with fail
      go_ret
      exact ⟨_, rfl, by rw [← HQ.out]; exact HR.out, hb⟩
end Go.Proofs.Ythoniopkeiifnaa

/-! MeasIn -/
namespace Go.Proofs.Ythoniopkeiifnaa
open Go.RowKit Go.Shelf Go.Sort
attribute [local go_sem] Oper.semAt_some

def leftL (L : List (Int × Int)) : List (Int × Int) := bif decide (0 < twiceI L) then L else turnL L
/-- What the walks ask of a list: that its reverse is a polygon, too. -/
def TurnOk (L : List (Int × Int)) : Prop := polyB L = true → polyB (leftL L) = true
def leftV (L : List (Int × Int)) : List (Int × Int) := bif polyB L then leftL L else []
def measStep (L : List (Int × Int)) (M : Ms) (i : Nat) : Ms := putM M (dirP (dvec L (i % L.length)).1 (dvec L (i % L.length)).2) (stp (dvec L (i % L.length)).1 (dvec L (i % L.length)).2)
def measL (L : List (Int × Int)) (pre : List Nat) : Ms := pre.foldl (measStep L) []
def measI (L : List (Int × Int)) : Ms := measL L (List.range L.length)
theorem measL_snoc (L : List (Int × Int)) (pre : List Nat) (x : Nat) : measL L (pre ++ [x]) = measStep L (measL L pre) x := by simp [measL]
theorem measL_ord (L : List (Int × Int)) (pre : List Nat) : OrdM (measL L pre) := by
  have key : ∀ (pre : List Nat) (M : Ms), OrdM M → OrdM (pre.foldl (measStep L) M) := by
    intro pre
    induction pre with
    | nil => exact fun M h => h
    | cons x pre ih => exact fun M h => ih _ (putM_ord h _ _)
  exact key pre [] ordM_nil
theorem stp_le {x y : Int} {m : Nat} (hx : x.natAbs ≤ m) (hy : y.natAbs ≤ m) : (stp x y).natAbs ≤ m := by rw [stp_abs]; exact gN_le hx hy
theorem dvec_small {L : List (Int × Int)} (hok : allOk L = true) (i : Nat) : (dvec L i).1.natAbs ≤ 40 ∧ (dvec L i).2.natAbs ≤ 40 := by
  have h1 := okP_bounds (gt_ok hok i); have h2 := okP_bounds (gt_ok hok (nx L i))
  unfold dvec
  simp only
  omega
theorem measL_val {L : List (Int × Int)} (hok : allOk L = true) (pre : List Nat) (d : Int × Int) : (valM (measL L pre) d).natAbs ≤ 40 * pre.length := by
  have key : ∀ (pre : List Nat) (M : Ms), OrdM M → (valM (pre.foldl (measStep L) M) d).natAbs ≤ (valM M d).natAbs + 40 * pre.length := by
    intro pre
    induction pre with
    | nil => intro M _; simp
    | cons x pre ih =>
      intro M h
      have h1 := ih (measStep L M x) (putM_ord h _ _)
      have h2 := dvec_small hok (x % L.length)
      have h3 := stp_le h2.1 h2.2
      have h4 : valM (measStep L M x) d = _ := valM_put h _ _ d
      rw [List.foldl_cons, List.length_cons]
      have h5 : (valM (measStep L M x) d).natAbs ≤ (valM M d).natAbs + 40 := by
        rw [h4]
        split <;> omega
      omega
  have := key pre [] ordM_nil
  simpa [valM, measL] using this
theorem own_ptsA {w : World} {B : Nat} {v : Value} {L : List (Int × Int)} (h : w.ownsRow B 45 2 v L.length (flat L)) : ∃ A c, v = .slice A L.length c ∧ PtsA w A L ∧ ∀ g, A = some ⟨g, 0, none⟩ → B ≤ g := by
  rcases h.2 with ⟨rfl, h0⟩ | ⟨g, cap, cur, rfl, hg, hh, _⟩
  · exact ⟨none, 0, by rw [h0], fun k hk => by omega, fun g e => by cases e⟩
  · refine ⟨some ⟨g, 0, none⟩, cap, rfl, fun k hk => ⟨g, rfl, ?_⟩, fun g' e => by cases e; exact hg⟩
    obtain ⟨f1, f2⟩ := flat_at L k hk
    rw [h.cellAt (k * 2) (by omega), h.cellAt (k * 2 + 1) (by omega)]
    exact ⟨f1, f2⟩
theorem leftV_len (L : List (Int × Int)) : (leftV L).length ≤ 10 ∧ (leftV L = [] ∨ 3 ≤ (leftV L).length) := by
  unfold leftV leftL
  cases hp : polyB L
  · simp
  · obtain ⟨h3, h10, -⟩ := polyB_all hp
    have e : (turnL L).length = L.length := by unfold turnL; rw [turn_len]; omega
    cases decide (0 < twiceI L)
    · simp only [cond_true, cond_false, e]; exact ⟨h10, .inr h3⟩
    · simp only [cond_true]; exact ⟨h10, .inr h3⟩
theorem impl_left (A : Option Addr) (c : Nat) (L : List (Int × Int)) (w : World) (hA : PtsA w A L) (hL : L.length ≤ 1048576) :
    Calls Try.prog 102 #[.slice A L.length c] w fun e w' => ∃ A' c', e = .returned (.slice A' (leftV L).length c') ∧ PtsA w' A' (leftV L) ∧ Below w.heap.size w w' ∧ ((A' = A ∧ leftV L = L) ∨ ∀ g, A' = some ⟨g, 0, none⟩ → w.heap.size ≤ g) := by
  have HT := Lib.hid (fun W hb => impl_turn A c L W (ptsA_on hA hb) hL)
  have PC := Lib.hid (impl_twice A c L w hA hL)
  have HA := Lib.hid hA
  obtain ⟨t, ht⟩ : ∃ t, t = bif polyB L then twiceI L else 0 := ⟨_, rfl⟩
  rw [← ht] at PC
  by_cases h0 : 0 < t
  · have hp : polyB L = true := by
      cases hp : polyB L
      · rw [hp] at ht; simp only [cond_false] at ht; omega
      · rfl
    have HE : Hid (leftV L = L) := by
      show _ = _
      rw [hp] at ht
      simp only [cond_true] at ht
      unfold leftV leftL
      rw [hp, ← ht, decide_eq_true h0]; rfl
    clear hA ht
    go_enter Try.func102, Try.ntmps102
    go_wp2_with fail
    refine PC.out.mono ?_
    rintro e w1 ⟨rfl, hb1⟩
    go_wp2_with fail
    go_ret
    rw [HE.out]
    exact ⟨_, _, rfl, ptsA_on HA.out hb1, hb1, .inl ⟨rfl, rfl⟩⟩
  · have HE : Hid (leftV L = turnV L) := by
      show _ = _
      unfold leftV leftL turnV
      cases hp : polyB L
      · rfl
      · rw [hp] at ht
        simp only [cond_true] at ht
        rw [← ht, decide_eq_false h0]; rfl
    clear hA ht
    go_enter Try.func102, Try.ntmps102
    go_wp2_with fail
    refine PC.out.mono ?_
    rintro e w1 ⟨rfl, hb1⟩
    go_wp2_with fail
    refine (HT.out _ hb1).mono ?_
    rintro e w2 ⟨v, rfl, hv, hb2⟩
    go_wp2_with fail
    go_ret
    rw [HE.out]
    obtain ⟨A', c', rfl, h, hg⟩ := own_ptsA hv
    exact ⟨_, _, rfl, h, below_on hb1 hb2, .inr fun g e => Nat.le_trans hb1.size (hg g e)⟩
theorem meas_side {Q : List (Int × Int)} (hok : allOk Q = true) (hne : ∀ i, i < Q.length → gt Q i ≠ gt Q (nx Q i)) (x : Nat) (hx : x < Q.length) (W : World) :
    Calls Try.prog 151 #[.agg #[.int .i64 (gt Q x).1, .int .i64 (gt Q x).2, .int .i64 (gt Q (nx Q x)).1, .int .i64 (gt Q (nx Q x)).2]] W fun e w' => e = .returned (headV (dvec Q x).1 (dvec Q x).2) ∧ Below W.heap.size W w' :=
  head_any _ _ _ _ W (gt_ok hok x) (gt_ok hok (nx Q x)) (fun h => hne x hx (Prod.ext (by omega) (by omega)))
def MeasP (w : World) (Q : List (Int × Int)) (e : Ending) (w' : World) : Prop := ∃ b, e = .returned (.map (some b)) ∧ w.heap.size ≤ b ∧ MapM w' b (measI Q) Q.length ∧ Below w.heap.size w w'
set_option maxRecDepth 100000 in
set_option maxHeartbeats 4000000 in
theorem measIn_yes (A : Option Addr) (c : Nat) (L : List (Int × Int)) (w : World) (hA : PtsA w A L) (hL : L.length ≤ 1048576) (h3 : 3 ≤ (leftV L).length) (hok : allOk (leftV L) = true) (hne : ∀ i, i < (leftV L).length → gt (leftV L) i ≠ gt (leftV L) (nx (leftV L) i)) :
    Calls Try.prog 101 #[.slice A L.length c] w (MeasP w (leftV L)) := by
  refine (callsIn_wide (n := 8)).1 ?_
  refine callsIn_of_wp_marks Try.func101 rfl trivial ?_ rfl
  simp only [Try.ntmps101, List.size_toArray, List.length_cons, List.length_nil, Nat.reduceAdd, Nat.reduceSub, Array.replicate_succ, Array.replicate_zero, List.push_toArray, List.append_toArray, List.nil_append, List.cons_append]
  have hmm := @run_makeMap Try.prog
  have HLF := Lib.hid (fun W hb => impl_left A c L W (ptsA_on hA hb) hL)
  have hPL : ∀ g, A = some ⟨g, 0, none⟩ → leftV L = L → g < w.heap.size := fun g e e2 => by
    obtain ⟨g', e', h1, -⟩ := hA 0 (by rw [← e2]; omega)
    rw [e] at e'
    cases e'
    rcases Nat.lt_or_ge g w.heap.size with q | q
    · exact q
    · simp [World.cell?, Array.getElem?_eq_none q] at h1
  have h10 := (leftV_len L).1
  clear hA
  obtain ⟨Q, hQ⟩ : ∃ Q, Q = leftV L := ⟨_, rfl⟩
  rw [← hQ] at HLF h3 hok hne h10 hPL ⊢
  clear hQ
  have hM0 := mapM_made w
  have hb0 := below2 w (.map #[] 0) (.cells #[.map (some w.heap.size)] 93)
  have bT := Boxed.new (w.alloc (.map #[] 0)) 93 (.map (some w.heap.size))
  have hM1 := hM0.on (below1 _ (.cells #[.map (some w.heap.size)] 93))
  rw [World.size_alloc] at bT
  gi_wp2
  refine ⟨trivial, (wide0.calls (HLF.out _ hb0)).mono ?_⟩
  rintro e w1 ⟨A', c', rfl, hQ, hb1, hfar⟩
  obtain ⟨g, rfl, -⟩ := hQ 0 (by omega)
  have hgb : g ≠ w.heap.size ∧ g ≠ w.heap.size + 1 := by
    rcases hfar with ⟨e1, e2⟩ | hf
    · have := hPL g e1.symm e2; omega
    · have := hf g rfl; simp at this; omega
  have hgl : g < w1.heap.size := by
    obtain ⟨g', e', h1, -⟩ := hQ 0 (by omega)
    cases e'
    rcases Nat.lt_or_ge g w1.heap.size with q | q
    · exact q
    · simp [World.cell?, Array.getElem?_eq_none q] at h1
  have hM2 := hM1.on hb1
  have bT2 := boxed_on bT hb1
  have hB1 := below_on hb0 hb1
  clear hfar hPL HLF hM0 hM1 bT hb0 hb1 hmm
  gi_wp2
  refine ⟨trivial, (wide0.calls (sides_any _ Q.length c' _)).mono ?_⟩
  rintro e w2 ⟨rfl, rfl⟩
  gi_wp2
  have bN := Boxed.new w1 34 (.slice (some ⟨g, 0, none⟩) Q.length c')
  have bT3 := bT2.alloc (.cells #[.slice (some ⟨g, 0, none⟩) Q.length c'] 34)
  have hb2 := below1 w1 (.cells #[.slice (some ⟨g, 0, none⟩) Q.length c'] 34)
  have hM3 := hM2.on hb2
  have hQ3 := ptsA_on hQ hb2
  have hB3 := below_on hB1 hb2
  have hs1 := hB1.size
  have hbl := bT2.lt
  have hsz : (w1.alloc (.cells #[.slice (some ⟨g, 0, none⟩) Q.length c'] 34)).heap.size = w1.heap.size + 1 := by simp
  obtain ⟨W0, hW0⟩ : ∃ W0, w1.alloc (.cells #[.slice (some ⟨g, 0, none⟩) Q.length c'] 34) = W0 := ⟨_, rfl⟩
  rw [hW0] at bN bT3 hM3 hQ3 hB3 hsz ⊢
  clear hW0 hQ hM2 bT2 hb2 hB1
  refine wpIn_rangeFunc_ownH rfl (by decide) (gf := 153) (lb := #[.pointer (some ⟨w1.heap.size, 0, none⟩)]) rfl trivial (enters_of Try.func153 (by kernel_rfl) rfl)
    (sidesG_stops 7 w1.heap.size g c' Q W0 (by omega) (by omega) (by omega) hQ3 (by omega) bN.cell) keepG_t (keepG_b (by omega) (by omega)) (Below.refl _ _) (fun _ => rfl)
    (fun pre W => ((MapM W w.heap.size (measL Q pre) pre.length ∧ Boxed W (w.heap.size + 1) 93 (.map (some w.heap.size))) ∧ Boxed W w1.heap.size 34 (.slice (some ⟨g, 0, none⟩) Q.length c')) ∧ Below w.heap.size w W ∧ g < W.heap.size)
    (fun _ _ _ => False)
    (OwnFrom.and (OwnFrom.and (OwnFrom.and (fun s X Y row hs hg hr => hs.kept hg (fun e => by have := (hr _ e.symm).1; omega)) (Own.from (boxed_own _ _ _) _)) (Own.from (boxed_own _ _ _) _)) (OwnFrom.and (ownFrom_below (Nat.le_refl _) (by omega)) (fun s X Y row hs hg hr => Nat.lt_of_lt_of_le hs hg.size)))
    (fun _ => ownFrom_pure _ (fun _ => False))
    ⟨⟨⟨hM3, bT3⟩, bN⟩, hB3, by omega⟩
    (fun x a' W => ∃ Bx, w1.heap.size < Bx ∧ SideAt W Bx Q (x % Q.length) ∧ a' = { tmps := #[.slice A L.length c, undef, .map none, .pointer (some ⟨w.heap.size + 1, 0, none⟩), undef, .pointer (some ⟨Bx, 0, none⟩), undef, undef, .map (some w.heap.size), .slice A L.length c, .slice (some ⟨g, 0, none⟩) Q.length c', .func (.func 153) #[] #[.pointer (some ⟨w1.heap.size, 0, none⟩)], .int .i64 (x : Int), .agg #[.int .i64 (gt Q (x % Q.length)).1, .int .i64 (gt Q (x % Q.length)).2, .int .i64 (gt Q (nx Q (x % Q.length))).1, .int .i64 (gt Q (nx Q (x % Q.length))).2], undef, undef, undef, undef, undef, undef, undef, undef, undef, undef], defers := [] })
    (fun x a' _ X Y row hs hg hr => by obtain ⟨Bx, e1, e2, e3⟩ := hs; exact ⟨Bx, e1, sideAt_own Bx Q (x % Q.length) _ () X Y row e2 hg hr, e3⟩)
    ?assign ?body ?done ?stop
  case assign =>
    rintro l pre x W K ⟨⟨⟨hM4, bT4⟩, bN4⟩, hB4, hg4⟩ hK
    simp only [sideV]
    gi_wp2
    have hs2 := hB4.size
    exact hK _ _ (keepsFrom_below (below1 _ _)) (KeepG.of_below (below1 _ _) hg4 bN4.lt) ⟨⟨⟨hM4.on (below1 _ _), bT4.alloc _⟩, bN4.alloc _⟩, hB4.alloc hs2 _, by simp; omega⟩ ⟨W.heap.size, bN4.lt, sideAt_new W Q (x % Q.length), rfl⟩
  case body =>
    rintro l pre x a' W hl hpx ⟨⟨⟨hM4, bT4⟩, bN4⟩, hB4, hg4⟩ ⟨Bx, hBx, bX, rfl⟩ hlt
    obtain ⟨xi, hxi⟩ : ∃ xi, xi = x := ⟨_, rfl⟩
    have HM0 := measL_snoc Q pre x
    unfold measStep at HM0
    have hxl : x % Q.length < Q.length := Nat.mod_lt _ (by omega)
    rw [← hxi] at HM0 ⊢
    rw [hxi] at HM0
    clear hpx
    generalize x % Q.length = x at *
    obtain ⟨x0, x1, x2, x3⟩ := bX.cells
    obtain ⟨ax, ha⟩ : ∃ ax, ax = (gt Q x).1 := ⟨_, rfl⟩
    obtain ⟨ay, hay⟩ : ∃ ay, ay = (gt Q x).2 := ⟨_, rfl⟩
    obtain ⟨bx, hbx⟩ : ∃ bx, bx = (gt Q (nx Q x)).1 := ⟨_, rfl⟩
    obtain ⟨by', hby⟩ : ∃ by', by' = (gt Q (nx Q x)).2 := ⟨_, rfl⟩
    rw [← ha] at x0; rw [← hay] at x1; rw [← hbx] at x2; rw [← hby] at x3
    have HH := Lib.hid (fun W => meas_side hok hne x (by omega) W)
    have hds := dvec_small hok x
    have hst := stp_le hds.1 hds.2
    have hd0 : ¬ ((dvec Q x).1 = 0 ∧ (dvec Q x).2 = 0) := fun e => hne x (by omega) (Prod.ext (by have := e.1; unfold dvec at this; omega) (by have := e.2; unfold dvec at this; omega))
    obtain ⟨hp1, hp2⟩ := dir_small hd0 hds.1 hds.2
    have hvl := measL_val hok pre (dirP (dvec Q x).1 (dvec Q x).2)
    have HC := Lib.hid (fun W h => tally_any w.heap.size pre.length (measL Q pre) (dirP (dvec Q x).1 (dvec Q x).2).1 (dirP (dvec Q x).1 (dvec Q x).2).2 (stp (dvec Q x).1 (dvec Q x).2) W h (measL_ord Q pre) (WalkArith.wf_i64 (by omega)) (WalkArith.wf_i64 (by omega)) (by omega) (Nat.le_trans hvl (by omega)) (by omega))
    have HM : Hid (measL Q (pre ++ [xi]) = putM (measL Q pre) ((dirP (dvec Q x).1 (dvec Q x).2).1, (dirP (dvec Q x).1 (dvec Q x).2).2) (stp (dvec Q x).1 (dvec Q x).2)) := by rw [hxi]; exact HM0
    unfold headV at HH
    simp only [← ha, ← hay, ← hbx, ← hby] at HH ⊢
    generalize (dirP (dvec Q x).1 (dvec Q x).2).1 = p at *
    generalize (dirP (dvec Q x).1 (dvec Q x).2).2 = q at *
    generalize stp (dvec Q x).1 (dvec Q x).2 = s at *
    clear ha hay hbx hby hp1 hp2 hvl hds hst hd0
    have cT := bT4.cell
    gi_wp2
    refine ⟨trivial, ((wideR l).calls (HH.out _)).mono ?_⟩
    rintro e w5 ⟨rfl, hb5⟩
    have hb6 := hb5.alloc hb5.size (.cells #[.int .i64 p, .int .i64 q] 45)
    have cT6 := (boxed_on bT4 hb6).cell
    have cP6 := at_new w5 p q 45
    have cP0 := cP6.c0; have cP1 := cP6.c1
    have hM6 := hM4.on hb6
    clear cT x0 x1 x2 x3
    gi_wp2
    refine ⟨trivial, ((wideR l).calls (HC.out _ hM6)).mono ?_⟩
    rintro e w7 ⟨⟨r, rfl⟩, hM7, hg7⟩
    gi_wp2
    have hs4 := hB4.size
    have hs6 := hb6.size
    have hbT := bT4.lt
    have hbN := bN4.lt
    have hk6 := KeepG.of_below hb6 hg4 hbN
    have hg6 : g < (w5.alloc (.cells #[.int .i64 p, .int .i64 q] 45)).heap.size := by omega
    refine ⟨(keepsFrom_below hb6).trans (KeepsFrom.of_grownBy hg7 (fun j e => by cases e; omega)), keepG_t hk6 (KeepG.of_grown hg7 hg6 (by omega) (by omega) (by omega)),
      ⟨⟨⟨by rw [HM.out, List.length_append]; exact hM7, (boxed_on bT4 hb6).kept hg7 (fun e => by have := Option.some.inj e; omega)⟩, (boxed_on bN4 hb6).kept hg7 (fun e => by have := Option.some.inj e; omega)⟩, ?_, Nat.lt_of_lt_of_le hg6 hg7.size⟩⟩
    exact (hB4.trans (hb6.mono hs4)).grown hg7 (by omega) (fun j e => by cases e; exact Nat.le_refl _)
  case done =>
    rintro D ys W hD rfl ⟨⟨⟨hM4, bT4⟩, bN4⟩, hB4, hg4⟩ hK
    have cT := bT4.cell
    gi_wp2
    refine ⟨by simp, .inl ⟨_, _, rfl, run_takeDeferred hK, ?_⟩⟩
    have hBD := hB4.trans (belowK_b (w := w) (Nat.le_refl _) W D _ (.deferred none) (by have := hB3.size; omega) hK rfl rfl)
    refine ⟨_, results_tmp rfl _ _ _, w.heap.size, rfl, Nat.le_refl _, ?_, hBD⟩
    have := hM4.kept (grownBy_putObj' W D (.deferred none)) (fun e => by have := Option.some.inj e; omega)
    rw [List.length_range] at this
    exact this
  case stop =>
    rintro D k pre W hD hpre h hK
    exact h.elim
set_option maxRecDepth 100000 in
set_option maxHeartbeats 4000000 in
theorem measIn_no (A : Option Addr) (c : Nat) (L : List (Int × Int)) (w : World) (hA : PtsA w A L) (hL : L.length ≤ 1048576) (h0 : leftV L = []) :
    Calls Try.prog 101 #[.slice A L.length c] w (MeasP w []) := by
  refine (callsIn_wide (n := 8)).1 ?_
  refine callsIn_of_wp_marks Try.func101 rfl trivial ?_ rfl
  simp only [Try.ntmps101, List.size_toArray, List.length_cons, List.length_nil, Nat.reduceAdd, Nat.reduceSub, Array.replicate_succ, Array.replicate_zero, List.push_toArray, List.append_toArray, List.nil_append, List.cons_append]
  have hmm := @run_makeMap Try.prog
  have HLF := Lib.hid (fun W hb => impl_left A c L W (ptsA_on hA hb) hL)
  rw [h0] at HLF
  clear hA h0
  have hM0 := mapM_made w
  have hb0 := below2 w (.map #[] 0) (.cells #[.map (some w.heap.size)] 93)
  have bT := Boxed.new (w.alloc (.map #[] 0)) 93 (.map (some w.heap.size))
  have hM1 := hM0.on (below1 _ (.cells #[.map (some w.heap.size)] 93))
  rw [World.size_alloc] at bT
  gi_wp2
  refine ⟨trivial, (wide0.calls (HLF.out _ hb0)).mono ?_⟩
  rintro e w1 ⟨A', c', rfl, hQ, hb1, hfar⟩
  have hM2 := hM1.on hb1
  have bT2 := boxed_on bT hb1
  have hB1 := below_on hb0 hb1
  clear hfar HLF hM0 hM1 bT hb0 hb1 hmm hQ
  gi_wp2
  refine ⟨trivial, (wide0.calls (sides_any _ 0 c' _)).mono ?_⟩
  rintro e w2 ⟨rfl, rfl⟩
  gi_wp2
  have bN := Boxed.new w1 34 (.slice A' 0 c')
  have bT3 := bT2.alloc (.cells #[.slice A' 0 c'] 34)
  have hb2 := below1 w1 (.cells #[.slice A' 0 c'] 34)
  have hM3 := hM2.on hb2
  have hB3 := below_on hB1 hb2
  have hs1 := hB1.size
  have hbl := bT2.lt
  have hsz : (w1.alloc (.cells #[.slice A' 0 c'] 34)).heap.size = w1.heap.size + 1 := by simp
  obtain ⟨W0, hW0⟩ : ∃ W0, w1.alloc (.cells #[.slice A' 0 c'] 34) = W0 := ⟨_, rfl⟩
  rw [hW0] at bN bT3 hM3 hB3 hsz ⊢
  clear hW0 hM2 bT2 hb2 hB1
  refine wpIn_rangeFunc_ownH rfl (by decide) (gf := 153) (lb := #[.pointer (some ⟨w1.heap.size, 0, none⟩)]) rfl trivial (enters_of Try.func153 (by kernel_rfl) rfl)
    (sidesN_stops 7 w1.heap.size c' A' W0 (by omega) bN.cell) keepG_t (keepG_b (by omega) (by omega)) (Below.refl _ _) (fun _ => rfl)
    (fun pre W => ((MapM W w.heap.size [] 0 ∧ Boxed W (w.heap.size + 1) 93 (.map (some w.heap.size))) ∧ Boxed W w1.heap.size 34 (.slice A' 0 c')) ∧ Below w.heap.size w W)
    (fun _ _ _ => False)
    (OwnFrom.and (OwnFrom.and (OwnFrom.and (fun s X Y row hs hg hr => hs.kept hg (fun e => by have := (hr _ e.symm).1; omega)) (Own.from (boxed_own _ _ _) _)) (Own.from (boxed_own _ _ _) _)) (ownFrom_below (Nat.le_refl _) (by omega)))
    (fun _ => ownFrom_pure _ (fun _ => False))
    ⟨⟨⟨hM3, bT3⟩, bN⟩, hB3⟩
    (fun _ _ _ => True) (fun _ _ _ _ _ _ _ _ _ => trivial)
    ?assign ?body ?done ?stop
  case assign =>
    rintro l pre x W K ⟨⟨⟨hM4, bT4⟩, bN4⟩, hB4⟩ hK
    simp only [sideV]
    gi_wp2
    have hs2 := hB4.size
    have hbt := bT4.lt
    exact hK _ _ (keepsFrom_below (below1 _ _)) (KeepG.of_below (below1 _ _) (by omega) bN4.lt) ⟨⟨⟨hM4.on (below1 _ _), bT4.alloc _⟩, bN4.alloc _⟩, hB4.alloc hs2 _⟩ trivial
  case body =>
    rintro l pre x a' W hl hpx - - hlt
    exact absurd hlt (Nat.not_lt_zero _)
  case done =>
    rintro D ys W hD rfl ⟨⟨⟨hM4, bT4⟩, bN4⟩, hB4⟩ hK
    have cT := bT4.cell
    gi_wp2
    refine ⟨by simp, .inl ⟨_, _, rfl, run_takeDeferred hK, ?_⟩⟩
    have hBD := hB4.trans (belowK_b (w := w) (Nat.le_refl _) W D _ (.deferred none) (by have := hB3.size; omega) hK rfl rfl)
    refine ⟨_, results_tmp rfl _ _ _, w.heap.size, rfl, Nat.le_refl _, ?_, hBD⟩
    exact hM4.kept (grownBy_putObj' W D (.deferred none)) (fun e => by have := Option.some.inj e; omega)
  case stop =>
    rintro D k pre W hD hpre h hK
    exact h.elim
theorem poly_next {L : List (Int × Int)} (hp : polyB L = true) : ∀ i, i < L.length → gt L i ≠ gt L (nx L i) := by
  simp only [polyB, Bool.and_eq_true] at hp
  intro i hi e
  have := hp.1.2
  simp only [nbB, List.all_eq_true, List.mem_range] at this
  have h1 := this i hi
  rw [show gt L ((i + 1) % L.length) = gt L i from e.symm] at h1
  simp [eqQ] at h1
/-- **measuresIn**, at any list. -/
theorem measIn_any (A : Option Addr) (c : Nat) (L : List (Int × Int)) (w : World) (hA : PtsA w A L) (hL : L.length ≤ 1048576) (hok : polyB L = true → polyB (leftL L) = true) :
    Calls Try.prog 101 #[.slice A L.length c] w (MeasP w (leftV L)) := by
  rcases (leftV_len L).2 with h0 | h3
  · have := measIn_no A c L w hA hL h0
    rwa [h0]
  · cases hp : polyB L
    · unfold leftV at h3; rw [hp] at h3; simp at h3
    · have e : leftV L = leftL L := by unfold leftV; rw [hp]; rfl
      have hq := hok hp
      rw [← e] at hq
      exact measIn_yes A c L w hA hL h3 (polyB_all hq).2.2 (poly_next hq)
end Go.Proofs.Ythoniopkeiifnaa

/-! MeasS -/
namespace Go.Proofs.Ythoniopkeiifnaa
open Go.RowKit

/-- The answer is a new slice of the two numbers p, q. -/
def DirR (w : World) (p q : Int) (e : Ending) (w' : World) : Prop := ∃ g, e = .returned (.slice (some ⟨g, 0, none⟩) 2 2) ∧ At w' g p q 3 ∧ w.heap.size ≤ g ∧ Below w.heap.size w w'
/-- What the model takes for its list: the same as the program's where the area is not 0. -/
def leftS (L : List (Int × Int)) : List (Int × Int) := bif decide (twiceI L < 0) then turnL L else L
theorem leftS_eq {L : List (Int × Int)} (h : twiceI L ≠ 0) : leftS L = leftL L := by
  unfold leftS leftL
  by_cases q : twiceI L < 0
  · rw [decide_eq_true q, decide_eq_false (show ¬ 0 < twiceI L by omega)]; rfl
  · rw [decide_eq_false q, decide_eq_true (show 0 < twiceI L by omega)]; rfl
end Go.Proofs.Ythoniopkeiifnaa

/-! Diag -/
namespace Go.Proofs.Ythoniopkeiifnaa.Mid
open Go.RowKit

theorem cross_aa (a b : Pt) : crossP a b a = 0 := by unfold crossP crossI; grind
theorem cross_abb (a b : Pt) : crossP a b b = 0 := by unfold crossP crossI; grind
theorem le_of_mulD {d x y : Int} (hd : 0 < d) (h : d * x ≤ d * y) : x ≤ y := Int.le_of_mul_le_mul_left h hd
theorem mix_le {s t a b lo : Int} (hs : 0 ≤ s) (ht : 0 ≤ t) (ha : lo ≤ a) (hb : lo ≤ b) : (s + t) * lo ≤ s * a + t * b := by
  have h1 := Int.mul_le_mul_of_nonneg_left ha hs
  have h2 := Int.mul_le_mul_of_nonneg_left hb ht
  rw [Int.add_mul]; omega
theorem le_mix {s t a b hi : Int} (hs : 0 ≤ s) (ht : 0 ≤ t) (ha : a ≤ hi) (hb : b ≤ hi) : s * a + t * b ≤ (s + t) * hi := by
  have h1 := Int.mul_le_mul_of_nonneg_left ha hs
  have h2 := Int.mul_le_mul_of_nonneg_left hb ht
  rw [Int.add_mul]; omega
theorem on_of_x {a b v : Pt} (h : a.1 ≠ b.1) (hc : crossP a b v = 0) (hb : bt a.1 b.1 v.1) : onP a b v = true := by
  refine (onP_iff _ _ _).2 ⟨hc, hb, ?_⟩
  unfold crossP crossI at hc
  unfold bt at hb
  rcases Int.lt_or_gt_of_ne h with k | k
  · exact frac_bt (m := b.1 - a.1) (q := v.1 - a.1) (by omega) (by omega) (by omega) (by grind)
  · exact frac_bt (m := a.1 - b.1) (q := a.1 - v.1) (by omega) (by omega) (by omega) (by grind)
theorem on_of_y {a b v : Pt} (h : a.2 ≠ b.2) (hc : crossP a b v = 0) (hb : bt a.2 b.2 v.2) : onP a b v = true := by
  refine (onP_iff _ _ _).2 ⟨hc, ?_, hb⟩
  unfold crossP crossI at hc
  unfold bt at hb
  rcases Int.lt_or_gt_of_ne h with k | k
  · exact frac_bt (m := b.2 - a.2) (q := v.2 - a.2) (by omega) (by omega) (by omega) (by grind)
  · exact frac_bt (m := a.2 - b.2) (q := a.2 - v.2) (by omega) (by omega) (by omega) (by grind)
/-- Two intervals with a common point: an end of one is in the other. -/
theorem ends_meet {a b c d s t p q : Int} (hs : 0 ≤ s) (ht : 0 ≤ t) (hp : 0 ≤ p) (hq : 0 ≤ q) (h5 : 0 < s + t) (h6 : s + t = p + q) (h : s * a + t * b = p * c + q * d) : bt a b c ∨ bt a b d ∨ bt c d a ∨ bt c d b := by
  have m1 : (s + t) * min a b ≤ s * a + t * b := mix_le hs ht (by omega) (by omega)
  have m2 : s * a + t * b ≤ (s + t) * max a b := le_mix hs ht (by omega) (by omega)
  have m3 : (p + q) * min c d ≤ p * c + q * d := mix_le hp hq (by omega) (by omega)
  have m4 : p * c + q * d ≤ (p + q) * max c d := le_mix hp hq (by omega) (by omega)
  rw [← h6, ← h] at m3 m4
  have l1 := le_of_mulD h5 (Int.le_trans m1 m4)
  have l2 := le_of_mulD h5 (Int.le_trans m3 m2)
  unfold bt
  omega
theorem mul_zeroR {s x : Int} (h : s * x = 0) (hx : x ≠ 0) : s = 0 := by
  rcases Int.mul_eq_zero.1 h with k | k
  · exact k
  · exact absurd k hx
theorem opp_signs {x y : Int} (h : (0 < x ∧ y < 0) ∨ (x < 0 ∧ 0 < y)) : sgn x * sgn y < 0 := by
  unfold sgn
  rcases h with h | h
  · split <;> split <;> (try split) <;> (try split) <;> omega
  · split <;> split <;> (try split) <;> (try split) <;> omega
theorem cross_lin {a b c d e f : Pt} {s t p q : Int} (h6 : s + t = p + q) (e1 : s * a.1 + t * b.1 = p * c.1 + q * d.1) (e2 : s * a.2 + t * b.2 = p * c.2 + q * d.2) : s * crossP e f a + t * crossP e f b = p * crossP e f c + q * crossP e f d := by
  unfold crossP crossI
  have : p = s + t - q := by omega
  subst this
  grind
theorem strict_opp {s t x y : Int} (hs : 0 ≤ s) (ht : 0 ≤ t) (h5 : 0 < s + t) (h : s * x + t * y = 0) (hx : x ≠ 0) (hy : y ≠ 0) : (0 < x ∧ y < 0) ∨ (x < 0 ∧ 0 < y) := by
  rcases Int.lt_or_gt_of_ne hx with k | k <;> rcases Int.lt_or_gt_of_ne hy with l | l
  · exfalso
    have a1 := Int.mul_nonneg hs (show 0 ≤ -x by omega)
    have a2 := Int.mul_nonneg ht (show 0 ≤ -y by omega)
    rw [Int.mul_neg] at a1 a2
    have b1 := mul_zeroR (show s * x = 0 by omega) hx
    have b2 := mul_zeroR (show t * y = 0 by omega) hy
    omega
  · exact .inr ⟨k, l⟩
  · exact .inl ⟨k, l⟩
  · exfalso
    have a1 := Int.mul_nonneg hs (show 0 ≤ x by omega)
    have a2 := Int.mul_nonneg ht (show 0 ≤ y by omega)
    have b1 := mul_zeroR (show s * x = 0 by omega) hx
    have b2 := mul_zeroR (show t * y = 0 by omega) hy
    omega
theorem wt_on {a b x : Pt} {p q m : Int} (hp : 0 ≤ p) (hq : 0 ≤ q) (hm : 0 < m) (h : m = p + q) (e1 : m * x.1 = p * a.1 + q * b.1) (e2 : m * x.2 = p * a.2 + q * b.2) : onP a b x = true := by
  subst h
  refine (onP_iff _ _ _).2 ⟨?_, ?_, ?_⟩
  · refine mul_zeroR (x := p + q) ?_ (by omega)
    unfold crossP crossI
    grind
  · exact frac_bt (m := p + q) (q := q) hm hq (by omega) (by grind)
  · exact frac_bt (m := p + q) (q := q) hm hq (by omega) (by grind)
theorem apart {a b c d : Pt} (hab : a ≠ b) (hcd : c ≠ d) (h : meetI a b c d = 0) {s t p q : Int} (hs : 0 ≤ s) (ht : 0 ≤ t) (hp : 0 ≤ p) (hq : 0 ≤ q) (h5 : 0 < s + t) (h6 : s + t = p + q) (e1 : s * a.1 + t * b.1 = p * c.1 + q * d.1) (e2 : s * a.2 + t * b.2 = p * c.2 + q * d.2) : False := by
  have hh := meet_zero.1 h
  obtain ⟨ho, q1, q2, q3, q4⟩ := hh
  have f1 := cross_lin (e := c) (f := d) h6 e1 e2
  have f2 := cross_lin (e := a) (f := b) h6 e1 e2
  rw [cross_aa, cross_abb, Int.mul_zero, Int.mul_zero, Int.add_zero] at f1
  rw [cross_aa, cross_abb, Int.mul_zero, Int.mul_zero, Int.add_zero] at f2
  have f2' := f2.symm
  by_cases z1 : crossP c d a = 0
  · by_cases z2 : crossP c d b = 0
    · -- all on one line
      have z3 : crossP a b c = 0 ∧ crossP a b d = 0 := by
        have g : crossP a b c - crossP a b d = crossP c d b - crossP c d a := by unfold crossP crossI; grind
        have g2 : (p + q) * crossP a b c = 0 := by
          have : crossP a b d = crossP a b c := by omega
          rw [this] at f2'; grind
        have g3 : crossP a b c = 0 := mul_zeroR (x := p + q) (by rw [Int.mul_comm]; exact g2) (by omega)
        omega
      by_cases hx : a.1 = b.1 ∧ c.1 = d.1
      · have hy1 : a.2 ≠ b.2 := fun e => hab (Prod.ext hx.1 e)
        have hy2 : c.2 ≠ d.2 := fun e => hcd (Prod.ext hx.2 e)
        rcases ends_meet hs ht hp hq h5 h6 e2 with k | k | k | k
        · rw [on_of_y hy1 z3.1 k] at q3; cases q3
        · rw [on_of_y hy1 z3.2 k] at q4; cases q4
        · rw [on_of_y hy2 z1 k] at q1; cases q1
        · rw [on_of_y hy2 z2 k] at q2; cases q2
      · have hx1 : a.1 ≠ b.1 := fun e => by
          have hy1 : a.2 ≠ b.2 := fun e' => hab (Prod.ext e e')
          have g1 := z3.1
          have g2 := z3.2
          unfold crossP crossI at g1 g2
          rw [← e, Int.sub_self, Int.zero_mul] at g1 g2
          have k1 := mul_zeroR (s := c.1 - a.1) (x := b.2 - a.2) (by rw [Int.mul_comm]; omega) (by omega)
          have k2 := mul_zeroR (s := d.1 - a.1) (x := b.2 - a.2) (by rw [Int.mul_comm]; omega) (by omega)
          exact hx ⟨e, by omega⟩
        have hx2 : c.1 ≠ d.1 := fun e => by
          have hy1 : c.2 ≠ d.2 := fun e' => hcd (Prod.ext e e')
          have g1 := z1
          have g2 := z2
          unfold crossP crossI at g1 g2
          rw [← e, Int.sub_self, Int.zero_mul] at g1 g2
          have k1 := mul_zeroR (s := a.1 - c.1) (x := d.2 - c.2) (by rw [Int.mul_comm]; omega) (by omega)
          have k2 := mul_zeroR (s := b.1 - c.1) (x := d.2 - c.2) (by rw [Int.mul_comm]; omega) (by omega)
          exact hx ⟨by omega, e⟩
        rcases ends_meet hs ht hp hq h5 h6 e1 with k | k | k | k
        · rw [on_of_x hx1 z3.1 k] at q3; cases q3
        · rw [on_of_x hx1 z3.2 k] at q4; cases q4
        · rw [on_of_x hx2 z1 k] at q1; cases q1
        · rw [on_of_x hx2 z2 k] at q2; cases q2
    · have t0 : t = 0 := mul_zeroR (x := crossP c d b) (by rw [z1, Int.mul_zero] at f1; omega) z2
      subst t0
      rw [Int.zero_mul, Int.add_zero] at e1 e2
      rw [wt_on hp hq (by omega) (by omega) e1 e2] at q1; cases q1
  · by_cases z2 : crossP c d b = 0
    · have s0 : s = 0 := mul_zeroR (x := crossP c d a) (by rw [z2, Int.mul_zero] at f1; omega) z1
      subst s0
      rw [Int.zero_mul, Int.zero_add] at e1 e2
      rw [wt_on hp hq (by omega) (by omega) e1 e2] at q2; cases q2
    · have o1 := strict_opp hs ht h5 f1 z1 z2
      by_cases z3 : crossP a b c = 0
      · by_cases z4 : crossP a b d = 0
        · have g : crossP a b c - crossP a b d = crossP c d b - crossP c d a := by unfold crossP crossI; grind
          omega
        · have t0 : q = 0 := mul_zeroR (x := crossP a b d) (by rw [z3, Int.mul_zero] at f2'; omega) z4
          subst t0
          rw [Int.zero_mul, Int.add_zero] at e1 e2
          rw [wt_on hs ht (by omega) (by omega) e1.symm e2.symm] at q3; cases q3
      · by_cases z4 : crossP a b d = 0
        · have t0 : p = 0 := mul_zeroR (x := crossP a b c) (by rw [z4, Int.mul_zero] at f2'; omega) z3
          subst t0
          rw [Int.zero_mul, Int.zero_add] at e1 e2
          rw [wt_on hs ht (by omega) (by omega) e1.symm e2.symm] at q4; cases q4
        · have o2 := strict_opp hp hq (by omega) f2' z3 z4
          have k1 := opp_signs o1
          have k2 := opp_signs o2
          unfold opp at ho
          rw [decide_eq_true k2, decide_eq_true k1] at ho
          cases ho


theorem half {a b d : Pt} {p q : Int} (hq : 0 ≤ q) (hm : 0 < p + q) (e1 : (p + q) * (a.1 + b.1) = 2 * p * a.1 + 2 * q * d.1) (e2 : (p + q) * (a.2 + b.2) = 2 * p * a.2 + 2 * q * d.2) : onP a d b = true ∨ onP a b d = true := by
  rcases Int.le_total q p with h | h
  · exact .inl (wt_on (p := p - q) (q := 2 * q) (m := p + q) (by omega) (by omega) hm (by omega) (by grind) (by grind))
  · exact .inr (wt_on (p := q - p) (q := p + q) (m := 2 * q) (by omega) (by omega) (by omega) (by omega) (by grind) (by grind))
theorem touch {a b c d : Pt} {p q : Int} (hab : a ≠ b) (hcd : c ≠ d) (h : meetI a b c d = 1) (hc : c = a ∨ c = b ∨ d = a ∨ d = b) (hp : 0 ≤ p) (hq : 0 ≤ q) (hm : 0 < p + q)
    (e1 : (p + q) * (a.1 + b.1) = 2 * p * c.1 + 2 * q * d.1) (e2 : (p + q) * (a.2 + b.2) = 2 * p * c.2 + 2 * q * d.2) : False := by
  have M := meet_one h
  rcases hc with rfl | rfl | rfl | rfl
  · rcases half hq hm e1 e2 with k | k
    · exact hab (M c b (mem_shared.2 (.inl ⟨.inl rfl, on_left c d⟩)) (mem_shared.2 (.inl ⟨.inr rfl, k⟩)))
    · exact hcd (M c d (mem_shared.2 (.inl ⟨.inl rfl, on_left c d⟩)) (mem_shared.2 (.inr ⟨.inr rfl, k⟩)))
  · rcases half (a := c) (b := a) hq hm (by rw [← e1, Int.add_comm a.1]) (by rw [← e2, Int.add_comm a.2]) with k | k
    · exact hab (M a c (mem_shared.2 (.inl ⟨.inl rfl, k⟩)) (mem_shared.2 (.inl ⟨.inr rfl, on_left c d⟩)))
    · exact hcd (M c d (mem_shared.2 (.inl ⟨.inr rfl, on_left c d⟩)) (mem_shared.2 (.inr ⟨.inr rfl, by rw [on_flip]; exact k⟩)))
  · rcases half (a := d) (b := b) (d := c) (p := q) (q := p) hp (by omega) (by grind) (by grind) with k | k
    · exact hab (M d b (mem_shared.2 (.inl ⟨.inl rfl, on_right c d⟩)) (mem_shared.2 (.inl ⟨.inr rfl, by rw [on_flip]; exact k⟩)))
    · exact hcd (M c d (mem_shared.2 (.inr ⟨.inl rfl, k⟩)) (mem_shared.2 (.inl ⟨.inl rfl, on_right c d⟩)))
  · rcases half (a := d) (b := a) (d := c) (p := q) (q := p) hp (by omega) (by grind) (by grind) with k | k
    · exact hab (M a d (mem_shared.2 (.inl ⟨.inl rfl, by rw [on_flip]; exact k⟩)) (mem_shared.2 (.inl ⟨.inr rfl, on_right c d⟩)))
    · exact hcd (M c d (mem_shared.2 (.inr ⟨.inl rfl, by rw [on_flip]; exact k⟩)) (mem_shared.2 (.inl ⟨.inr rfl, on_right c d⟩)))
theorem vals (a b c d : Pt) : meetI a b c d = 0 ∨ meetI a b c d = 1 ∨ meetI a b c d = 2 ∨ meetI a b c d = 3 := by
  unfold meetI
  cases opp a b c d && opp c d a b <;> cases (sharedS a b c d).isEmpty <;> cases sameAll (sharedS a b c d) <;> simp
/-- Segments with a common point: they touch or are along each other. -/
theorem has_shared {a b c d p : Pt} (h : p ∈ sharedS a b c d) : meetI a b c d = 1 ∨ meetI a b c d = 3 := by
  have ho : (opp a b c d && opp c d a b) = false := by
    cases ho : opp a b c d && opp c d a b
    · rfl
    · rw [opp_none ho] at h; simp at h
  have he : (sharedS a b c d).isEmpty = false := by
    cases he : (sharedS a b c d).isEmpty
    · rfl
    · rw [List.isEmpty_iff.1 he] at h; simp at h
  unfold meetI
  rw [ho, he]
  cases sameAll (sharedS a b c d) <;> simp
theorem ends_shared {a b c d : Pt} (h : c = a ∨ c = b ∨ d = a ∨ d = b) : ∃ p, p ∈ sharedS a b c d := by
  rcases h with rfl | rfl | rfl | rfl
  · exact ⟨c, mem_shared.2 (.inl ⟨.inl rfl, on_left _ _⟩)⟩
  · exact ⟨c, mem_shared.2 (.inl ⟨.inr rfl, on_left _ _⟩)⟩
  · exact ⟨d, mem_shared.2 (.inl ⟨.inl rfl, on_right _ _⟩)⟩
  · exact ⟨d, mem_shared.2 (.inl ⟨.inr rfl, on_right _ _⟩)⟩
end Go.Proofs.Ythoniopkeiifnaa.Mid
namespace Go.Proofs.Ythoniopkeiifnaa
open Go.RowKit

/-! ### Diagonals -/
def dbQ (p : Pt) : Pt := (p.1 + p.1, p.2 + p.2)
def dblL (L : List Pt) : List Pt := L.map dbQ
def addQ (a b : Pt) : Pt := (a.1 + b.1, a.2 + b.2)
theorem dbl_len (L : List Pt) : (dblL L).length = L.length := by simp [dblL]
theorem dbl_gt (L : List Pt) (i : Nat) : gt (dblL L) i = dbQ (gt L i) := by
  simp only [gt, dblL, List.getD_eq_getElem?_getD, List.getElem?_map]
  cases L[i]? <;> rfl
theorem dbl_nx (L : List Pt) (i : Nat) : nx (dblL L) i = nx L i := by rw [nx, nx, dbl_len]
/-- The segment between corners i and k, and side j: what the document asks. -/
def sideM (L : List Pt) (i k j : Nat) : Int := meetI (gt L i) (gt L k) (gt L j) (gt L (nx L j))
def sharesB (L : List Pt) (i k j : Nat) : Bool := j == i || j == k || nx L j == i || nx L j == k
def sideB (L : List Pt) (i k j : Nat) : Bool := bif sharesB L i k j then !(sideM L i k j == 3 || sideM L i k j == 2) else sideM L i k j == 0
def farB (L : List Pt) (i k : Nat) : Bool := !(nx L i == k || nx L k == i || i == k)
def diagB (L : List Pt) (i k : Nat) : Bool := farB L i k && ((List.range L.length).all (sideB L i k) && insideB (dblL L) (addQ (gt L i) (gt L k)))
/-- What the program asks of side j. -/
def wantI (L : List Pt) (i k j : Nat) : Int := bif (eqQ (gt L j) (gt L i) || eqQ (gt L (nx L j)) (gt L i)) || (eqQ (gt L j) (gt L k) || eqQ (gt L (nx L j)) (gt L k)) then 1 else 0
def atEndsB (L : List Pt) (i k : Nat) : Bool := (List.range L.length).all fun j => meetV (gt L i) (gt L k) (gt L j) (gt L (nx L j)) == wantI L i k j

theorem good_far {L : List Pt} (h : Good L) {i k : Nat} (hi : i < L.length) (hk : k < L.length) (e : i ≠ k) : gt L i ≠ gt L k := fun hg => e (gt_inj h.2.2.1 hi hk hg)
theorem dbl_rim {L : List Pt} (h : Good L) {i k : Nat} (hi : i < L.length) (hk : k < L.length) (hik : i ≠ k) (hs : ∀ j, j < L.length → sideB L i k j = true) : onRim (dblL L) (addQ (gt L i) (gt L k)) = false := by
  refine onRim_false fun j hj => ?_
  rw [dbl_len] at hj
  rw [dbl_nx, dbl_gt, dbl_gt]
  cases hon : onP (dbQ (gt L j)) (dbQ (gt L (nx L j))) (addQ (gt L i) (gt L k))
  · rfl
  · exfalso
    have hn := nx_lt (L := L) (by omega) j
    have hjn : j ≠ nx L j := by
      have := h.1
      rw [nx_eq hj]
      split <;> omega
    have hcd := good_far h hj hn hjn
    have hab := good_far h hi hk hik
    have hne : dbQ (gt L j) ≠ dbQ (gt L (nx L j)) := fun e => hcd (by
      have e1 := congrArg Prod.fst e
      have e2 := congrArg Prod.snd e
      simp only [dbQ] at e1 e2
      exact Prod.ext (by omega) (by omega))
    obtain ⟨p, q, w⟩ := on_wt hon hne
    have w1 := w.e1
    have w2 := w.e2
    simp only [dbQ, addQ] at w1 w2
    have hb := hs j hj
    unfold sideB at hb
    cases hsh : sharesB L i k j
    · rw [hsh] at hb
      simp only [cond_false, beq_iff_eq] at hb
      exact Mid.apart hab hcd hb (s := p + q) (t := p + q) (p := 2 * p) (q := 2 * q) (by have := w.pq; omega) (by have := w.pq; omega) (by have := w.p0; omega) (by have := w.q0; omega) (by have := w.pq; omega) (by omega) (by grind) (by grind)
    · have hc : gt L j = gt L i ∨ gt L j = gt L k ∨ gt L (nx L j) = gt L i ∨ gt L (nx L j) = gt L k := by
        simp only [sharesB, Bool.or_eq_true, beq_iff_eq] at hsh
        rcases hsh with ((e | e) | e) | e <;> simp [e]
      rw [hsh] at hb
      have hm : sideM L i k j = 1 := by
        obtain ⟨x, hx⟩ := Mid.ends_shared hc
        rcases Mid.has_shared hx with e | e
        · exact e
        · rw [show sideM L i k j = 3 from e] at hb; cases hb
      exact Mid.touch hab hcd hm hc w.p0 w.q0 w.pq (by grind) (by grind)
/-- The program's test is the document's. -/
theorem diag_eq {L : List Pt} (h : Good L) {i k : Nat} (hi : i < L.length) (hk : k < L.length) : (atEndsB L i k && aroundB (dblL L) (addQ (gt L i) (gt L k))) = diagB L i k := by
  have hl := h.1
  have hq : ∀ x y, x < L.length → y < L.length → eqQ (gt L x) (gt L y) = (x == y) := fun x y hx hy => by
    rw [Bool.eq_iff_iff, eqQ_iff, beq_iff_eq]
    exact ⟨fun e => gt_inj h.2.2.1 hx hy e, fun e => by rw [e]⟩
  have ok := fun x => gt_ok h.2.1 x
  have hw : ∀ j, j < L.length → wantI L i k j = bif sharesB L i k j then 1 else 0 := fun j hj => by
    have hn := nx_lt (L := L) (by omega) j
    unfold wantI sharesB
    rw [hq j i hj hi, hq j k hj hk, hq _ i hn hi, hq _ k hn hk]
    cases (j == i) <;> cases (j == k) <;> cases (nx L j == i) <;> cases (nx L j == k) <;> rfl
  have hj1 : ∀ j, j < L.length → j ≠ nx L j := fun j hj => by
    rw [nx_eq hj]
    split <;> omega
  have hv : ∀ j, j < L.length → i ≠ k → meetV (gt L i) (gt L k) (gt L j) (gt L (nx L j)) = sideM L i k j := fun j hj hik => by
    have hn := nx_lt (L := L) (by omega) j
    unfold meetV okQ
    rw [ok i, ok k, ok j, ok (nx L j), hq i k hi hk, hq j _ hj hn, beq_eq_false_iff_ne.2 hik, beq_eq_false_iff_ne.2 (hj1 j hj)]
    rfl
  by_cases hik : i = k
  · subst hik
    have e1 : atEndsB L i i = false := by
      simp only [atEndsB, List.all_eq_false, List.mem_range]
      refine ⟨i, hi, ?_⟩
      have e2 : meetV (gt L i) (gt L i) (gt L i) (gt L (nx L i)) = 0 := by
        unfold meetV
        rw [(eqQ_iff (gt L i) (gt L i)).2 rfl]
        simp
      rw [e2, hw i hi]
      simp [sharesB]
    have e2 : farB L i i = false := by simp [farB]
    rw [diagB, e1, e2]; rfl
  · by_cases hf : farB L i k = true
    · rw [diagB, hf, Bool.true_and]
      have e1 : atEndsB L i k = (List.range L.length).all (sideB L i k) := by
        rw [Bool.eq_iff_iff]
        simp only [atEndsB, List.all_eq_true, List.mem_range, beq_iff_eq]
        refine forall_congr' fun j => forall_congr' fun hj => ?_
        rw [hv j hj hik, hw j hj, sideB]
        cases hsh : sharesB L i k j
        · simp
        · have hc : gt L j = gt L i ∨ gt L j = gt L k ∨ gt L (nx L j) = gt L i ∨ gt L (nx L j) = gt L k := by
            simp only [sharesB, Bool.or_eq_true, beq_iff_eq] at hsh
            rcases hsh with ((e | e) | e) | e <;> simp [e]
          obtain ⟨x, hx⟩ := Mid.ends_shared hc
          rcases Mid.has_shared hx with e | e
          · rw [show sideM L i k j = 1 from e]; simp
          · rw [show sideM L i k j = 3 from e]; simp
      rw [e1]
      cases hs : (List.range L.length).all (sideB L i k)
      · rfl
      · rw [Bool.true_and, Bool.true_and, insideB, dbl_rim h hi hk hik (fun j hj => List.all_eq_true.1 hs j (List.mem_range.2 hj)), Bool.false_or]
        rfl
    · have hf' : farB L i k = false := by simpa using hf
      rw [diagB, hf', Bool.false_and]
      have e1 : atEndsB L i k = false := by
        have key : ∀ j, j < L.length → ((j = i ∧ nx L j = k) ∨ (j = k ∧ nx L j = i)) → atEndsB L i k = false := fun j hj hh => by
          simp only [atEndsB, List.all_eq_false, List.mem_range]
          refine ⟨j, hj, ?_⟩
          rw [hv j hj hik, hw j hj]
          have hab := good_far h hi hk hik
          have e3 : sideM L i k j = 3 := by
            have i1 : gt L i ∈ sharedS (gt L i) (gt L k) (gt L j) (gt L (nx L j)) := by
              rcases hh with ⟨e1, e2⟩ | ⟨e1, e2⟩
              · rw [e1]; exact mem_shared.2 (.inl ⟨.inl rfl, on_left _ _⟩)
              · rw [e2]; exact mem_shared.2 (.inl ⟨.inl rfl, on_right _ _⟩)
            have i2 : gt L k ∈ sharedS (gt L i) (gt L k) (gt L j) (gt L (nx L j)) := by
              rcases hh with ⟨e1, e2⟩ | ⟨e1, e2⟩
              · rw [e2]; exact mem_shared.2 (.inl ⟨.inr rfl, on_right _ _⟩)
              · rw [e1]; exact mem_shared.2 (.inl ⟨.inr rfl, on_left _ _⟩)
            rcases Mid.has_shared i1 with e | e
            · exact absurd (meet_one e _ _ i1 i2) hab
            · exact e
          rw [e3]
          cases sharesB L i k j <;> simp
        simp only [farB, Bool.not_eq_false', Bool.or_eq_true, beq_iff_eq] at hf'
        rcases hf' with (e | e) | e
        · exact key i hi (.inl ⟨rfl, e⟩)
        · exact key k hk (.inr ⟨rfl, e⟩)
        · exact absurd e hik
      rw [e1]; rfl
end Go.Proofs.Ythoniopkeiifnaa

/-! DiagI -/
namespace Go.Proofs.Ythoniopkeiifnaa
open Go.RowKit Go.Shelf Go.Sort
attribute [local go_sem] Oper.semAt_some

def dblTill (L : List (Int × Int)) (k : Nat) : List (Int × Int) := (List.range k).map fun i => dbQ (gt L i)
theorem dblTill_all (L : List (Int × Int)) : dblTill L L.length = dblL L := by
  apply List.ext_getElem (by simp [dblTill, dblL])
  intro i h1 h2
  have hi : i < L.length := by simpa [dblTill] using h1
  simp [dblTill, dblL, gt_at hi]
theorem dblTill_step (L : List (Int × Int)) (k : Nat) : dblTill L (k + 1) = dblTill L k ++ [((gt L k).1 + (gt L k).1, (gt L k).2 + (gt L k).2)] := by
  simp [dblTill, List.range_succ, dbQ]
theorem dblTill_len (L : List (Int × Int)) (k : Nat) : (dblTill L k).length = k := by simp [dblTill]
theorem okP_add {a b : Int × Int} (ha : okP a.1 a.2 = true) (hb : okP b.1 b.2 = true) : smP (a.1 + b.1) (a.2 + b.2) = true := by
  have h1 := okP_bounds ha; have h2 := okP_bounds hb
  simp only [smP, Bool.and_eq_true, decide_eq_true_eq]
  omega
theorem dbl_sm {L : List (Int × Int)} (hok : allOk L = true) (i : Nat) : smP (gt (dblL L) i).1 (gt (dblL L) i).2 = true := by
  rw [dbl_gt]
  exact okP_add (a := gt L i) (b := gt L i) (gt_ok hok i) (gt_ok hok i)
theorem plus_ok {ax ay bx by' : Int} (ha : okP ax ay = true) (hb : okP bx by' = true) (w : World) :
    Calls Try.prog 97 #[(.agg #[.int .i64 ax, .int .i64 ay]), (.agg #[.int .i64 bx, .int .i64 by'])] w fun e w' => e = .returned (.agg #[.int .i64 (ax + bx), .int .i64 (ay + by')]) ∧ Below w.heap.size w w' := by
  have h1 := okP_bounds ha; have h2 := okP_bounds hb
  have h := plus_any ax ay bx by' w
  rw [IntWalk.wrap64_in (ax + bx) (by omega), IntWalk.wrap64_in (ay + by') (by omega)] at h
  exact h
end Go.Proofs.Ythoniopkeiifnaa

/-! DiagJ -/
namespace Go.Proofs.Ythoniopkeiifnaa
open Go.RowKit



def diagV (L : List (Int × Int)) (i k : Int) : Bool := polyB L && (inB i 0 ((L.length : Int) - 1) && (inB k 0 ((L.length : Int) - 1) && diagB L i.toNat k.toNat))
end Go.Proofs.Ythoniopkeiifnaa

/-! Diags -/
namespace Go.Proofs.Ythoniopkeiifnaa
open Go.RowKit
open Go.Maps (Keyed)

theorem below_grown {w w' : World} (hb : Below w.heap.size w w') : w.grownBy w' none := ⟨hb.os, hb.tape, hb.output, hb.size, fun k hk _ => hb.block k hk⟩
/-- The diagonals from corner a to corners before k; those from corners before i. -/
def rowD (L : List (Int × Int)) (a k : Nat) : List (Int × Int) := ((List.range k).filter fun (c : Nat) => decide (a < c) && diagB L a c).map fun (c : Nat) => ((a : Int), (c : Int))
def allD (L : List (Int × Int)) (i : Nat) : List (Int × Int) := (List.range i).flatMap fun (a : Nat) => rowD L a L.length
theorem rowD_step (L : List (Int × Int)) (a k : Nat) : rowD L a (k + 1) = bif decide (a < k) && diagB L a k then rowD L a k ++ [((a : Int), (k : Int))] else rowD L a k := by
  unfold rowD
  rw [List.range_succ, List.filter_append, List.map_append]
  cases h : (decide (a < k) && diagB L a k) <;> simp [h]
theorem allD_step (L : List (Int × Int)) (i : Nat) : allD L (i + 1) = allD L i ++ rowD L i L.length := by
  unfold allD
  rw [List.range_succ, List.flatMap_append]
  simp
theorem rowD_start (L : List (Int × Int)) (a : Nat) : rowD L a (a + 1) = [] := by
  unfold rowD
  rw [List.map_eq_nil_iff, List.filter_eq_nil_iff]
  intro c hc
  rw [List.mem_range] at hc
  simp; omega
theorem rowD_mem (L : List (Int × Int)) (a k : Nat) (x y : Int) : (x, y) ∈ rowD L a k ↔ x = (a : Int) ∧ ∃ c : Nat, y = (c : Int) ∧ c < k ∧ a < c ∧ diagB L a c = true := by
  simp only [rowD, List.mem_map, List.mem_filter, List.mem_range, Bool.and_eq_true, decide_eq_true_eq, Prod.mk.injEq]
  constructor
  · rintro ⟨c, ⟨h1, h2, h3⟩, rfl, rfl⟩; exact ⟨rfl, c, rfl, h1, h2, h3⟩
  · rintro ⟨rfl, c, rfl, h1, h2, h3⟩; exact ⟨c, ⟨h1, h2, h3⟩, rfl, rfl⟩
theorem allD_mem (L : List (Int × Int)) (i : Nat) (x y : Int) : (x, y) ∈ allD L i ↔ ∃ a c : Nat, x = (a : Int) ∧ y = (c : Int) ∧ a < i ∧ c < L.length ∧ a < c ∧ diagB L a c = true := by
  simp only [allD, List.mem_flatMap, List.mem_range, rowD_mem]
  constructor
  · rintro ⟨a, h0, rfl, c, rfl, h1, h2, h3⟩; exact ⟨a, c, rfl, rfl, h0, h1, h2, h3⟩
  · rintro ⟨a, c, rfl, rfl, h0, h1, h2, h3⟩; exact ⟨a, h0, rfl, c, rfl, h1, h2, h3⟩
theorem rowD_len (L : List (Int × Int)) (a k : Nat) : (rowD L a k).length ≤ k := by
  unfold rowD
  rw [List.length_map]
  exact Nat.le_trans (List.length_filter_le _ _) (by simp)
theorem allD_len (L : List (Int × Int)) : ∀ i, (allD L i).length ≤ i * L.length
  | 0 => by simp [allD]
  | i + 1 => by
    have h1 := allD_len L i
    have h2 := rowD_len L i L.length
    rw [allD_step, List.length_append, Nat.succ_mul]; omega
end Go.Proofs.Ythoniopkeiifnaa
