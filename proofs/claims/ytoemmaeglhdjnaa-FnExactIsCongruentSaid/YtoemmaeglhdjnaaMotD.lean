/-
  ComposeMotions and InverseMotion of the program.
-/
import Derived.Test.YtoemmaeglhdjnaaMotC
import Derived.Test.YtoemmaeglhdjnaaFloat
namespace Go.Proofs.Ytoemmaeglhdjnaa
open Go.RowKit
attribute [local go_sem] quietB uponB

theorem allocPt (w : World) : (Instr.alloc 56 true (.tuple #[])).run Try.prog w = .ok (ptrV w.heap.size) (w.alloc (.cells #[.int .i64 0, .int .i64 0] 56)) := by
  simp [go_sem, Instr.alloc]
/-- Block g holds the table of motions. -/
def Table (w : World) (g : Nat) : Prop := w.heap[g]? = some (.cells motA 79 (0, 0))
theorem Table.lt {w : World} {g : Nat} (h : Table w g) : g < w.heap.size := (Array.getElem?_eq_some_iff.1 h).1
theorem Table.step {w w' : World} {g : Nat} (h : Table w g) (hb : Below w.heap.size w w') : Table w' g := (hb.block g h.lt).trans h
theorem Table.set {w : World} {g b : Nat} (h : Table w g) (hne : g ≠ b) (o : Nat) (v : Value) : Table (w.setCell ⟨b, o, none⟩ v) g := (Below.heap_setCell w ⟨b, o, none⟩ v g hne).trans h
theorem Table.at {w : World} {g : Nat} (h : Table w g) {m : Nat} (hm : m < 8) : w.cell? ⟨g, m, none⟩ = some (.func (.func (motF m)) #[] #[]) := by
  refine cell_of_row w g m _ _ _ h |>.trans ?_
  match m, hm with
  | 0, _ => rfl
  | 1, _ => rfl
  | 2, _ => rfl
  | 3, _ => rfl
  | 4, _ => rfl
  | 5, _ => rfl
  | 6, _ => rfl
  | 7, _ => rfl
  | k + 8, h => omega

set_option maxRecDepth 100000 in
set_option maxHeartbeats 1000000 in
theorem hit_any (F : FuncId) (ux uy qx qy : Int) (g5 g7 : Nat) (w : World) (h5 : At w g5 1 2 56) (h7 : At w g7 qx qy 56)
    (HE : ∀ x w, Sem.run Try.prog (callFunc F #[x]) w = .ok (.enter F #[x]) w)
    (HF : Hid (∀ w, Calls Try.prog F #[.agg #[.int .i64 1, .int .i64 2]] w fun e w' => e = .returned (.agg #[.int .i64 ux, .int .i64 uy]) ∧ Below w.heap.size w w')) :
    Calls Try.prog 73 #[.func (.func F) #[] #[], .pointer (some ⟨g5, 0, none⟩), .pointer (some ⟨g7, 0, none⟩)] w fun e w' => e = .returned (.bool (ux == qx && uy == qy)) ∧ Below w.heap.size w w' := by
  have GP := guard_pt
  have EP := fun w x y x' y' => eql_pt w x y x' y'
  have c1 := h5.c0; have c2 := h5.c1; have c3 := h7.c0; have c4 := h7.c1
  have k1 := cell_regrown c1; have k2 := cell_regrown c2; have k3 := cell_regrown c3; have k4 := cell_regrown c4
  clear h5 h7
  go_enter Try.func73, Try.ntmps73
  go_wp2_with fail
  refine wp_region_quiet_below (by kernel_rfl) (by kernel_rfl) ?_
  repeat (first
    | go_big_quiet_step (first | exact Calls.regrown_of (HF.out _))
    | quiet_step (first | exact Calls.regrown_of (HF.out _)))
  refine wpQuiet_nil ?_
  rintro _ ⟨⟨dq, osq⟩, rfl⟩
  have b5 := below_regrown w dq osq
  clear k1 k2 k3 k4 c1 c2 c3 c4
  go_wp2_with fail
  go_ret
  exact ⟨rfl, b5⟩

set_option maxRecDepth 100000 in
set_option maxHeartbeats 1000000 in
theorem indexFn_any (m k C : Nat) (g g5 g7 : Nat) (qx qy : Int) (w : World) (hT : Table w g) (h5 : At w g5 1 2 56) (h7 : At w g7 qx qy 56) (hC8 : C < 8)
    (HC : Hid (∀ j, j < 8 → hitB m k j = decide (j = C))) (HQ : Hid (∀ j, hitB m k j = ((mot j (1, 2)).1 == qx && (mot j (1, 2)).2 == qy))) :
    Calls Try.prog 72 #[.slice (some ⟨g, 0, none⟩) 8 8, .func (.func 73) #[] #[.pointer (some ⟨g5, 0, none⟩), .pointer (some ⟨g7, 0, none⟩)]] w fun e w' => e = .returned (.int .i64 (C : Int)) ∧ Below w.heap.size w w' := by
  have HT := Lib.hid hT
  have H5 := Lib.hid h5
  have H7 := Lib.hid h7
  clear hT h5 h7
  go_enter Try.func72, Try.ntmps72
  go_wp2_with fail
  go_loopw [5, 8] (fun _ i wr => ∃ j : Nat, j ≤ C ∧ i = .int .i64 j ∧ Below w.heap.size w wr) (fun _ i _ => 8 - (intOf i).toNat)
  case atStart => exact ⟨0, Nat.zero_le _, rfl, Below.refl _ _⟩
  case round =>
    obtain ⟨j, hjC, rfl, b4⟩ := hrel
    have hj8 : j < 8 := by omega
    have cf := (HT.out.step b4).at hj8
    have a5 := H5.out.step b4
    have a7 := H7.out.step b4
    have HF : Hid (∀ w, Calls Try.prog (motF j) #[.agg #[.int .i64 1, .int .i64 2]] w fun e w' => e = .returned (.agg #[.int .i64 (mot j (1, 2)).1, .int .i64 (mot j (1, 2)).2]) ∧ Below w.heap.size w w') := fun w => motF_any 1 2 j w hj8 (by omega)
    have HE : ∀ x w, Sem.run Try.prog (callFunc (motF j) #[x]) w = .ok (.enter (motF j) #[x]) w := fun x w => enter_mot j hj8 x w
    have HJ : Hid (((mot j (1, 2)).1 == qx && (mot j (1, 2)).2 == qy) = decide (j = C)) := by
      show _ = _
      rw [← HQ.out j, HC.out j hj8]
    generalize (mot j (1, 2)).1 = ux at *
    generalize (mot j (1, 2)).2 = uy at *
    generalize motF j = F at *
    have HH := Lib.hid (hit_any F ux uy qx qy g5 g7 wr a5 a7 HE HF)
    rw [HJ.out] at HH
    clear a5 a7 HE
    by_cases hc : j = C
    · have hE : decide (j = C) = true := decide_eq_true hc
      have HR : Hid ((j : Int) = C) := by
        show _ = _
        rw [hc]
      rw [hE] at HH
      clear hc hjC hE
      go_wp2_with fail
      refine HH.out.mono ?_
      rintro e w1 ⟨rfl, hb1⟩
      have b5 := below_on b4 hb1
      clear hb1 b4
      go_wp2_with fail
      go_ret
      exact ⟨ret_int HR.out, b5⟩
    · have hE : decide (j = C) = false := decide_eq_false hc
      rw [hE] at HH
      clear hE
      go_wp2_with fail
      refine HH.out.mono ?_
      rintro e w1 ⟨rfl, hb1⟩
      have b5 := below_on b4 hb1
      clear hb1 b4
      go_wp2_with fail
      go_roundw
      case rel => exact ⟨j + 1, by omega, by go_num, b5⟩
      case measure => simp [intOf]; omega

set_option maxRecDepth 100000 in
set_option maxHeartbeats 1000000 in
theorem impl_comp (a b : Int) (w : World) : Calls Try.prog 32 #[.int .i64 a, .int .i64 b] w fun e w' => e = .returned (.int .i64 (compV a b)) ∧ Below w.heap.size w w' := by
  have HV : Hid (compV a b = bif inB a 0 7 && inB b 0 7 then (compN a.toNat b.toNat : Int) else -1) := rfl
  cases ha : inB a 0 7
  · go_enter Try.func32, Try.ntmps32
    go_wp2_with fail
    refine (isMotion_any _ _).mono ?_
    rintro e w1 ⟨rfl, rfl⟩
    go_wp2_with fail
    go_ret
    exact ⟨ret_int (by rw [HV.out, ha]; rfl), Below.refl _ _⟩
  cases hb : inB b 0 7
  · go_enter Try.func32, Try.ntmps32
    go_wp2_with fail
    refine (isMotion_any _ _).mono ?_
    rintro e w1 ⟨rfl, rfl⟩
    go_wp2_with fail
    refine (isMotion_any _ _).mono ?_
    rintro e w1 ⟨rfl, rfl⟩
    go_wp2_with fail
    go_ret
    exact ⟨ret_int (by rw [HV.out, ha, hb]; rfl), Below.refl _ _⟩
  have h1 := inB_spec.1 ha
  have h2 := inB_spec.1 hb
  obtain ⟨m, rfl⟩ : ∃ m : Nat, a = m := ⟨a.toNat, by omega⟩
  obtain ⟨k, rfl⟩ : ∃ k : Nat, b = k := ⟨b.toNat, by omega⟩
  have hm : m < 8 := by omega
  have hk : k < 8 := by omega
  have HC := Lib.hid (compN_spec m hm k hk)
  have HV2 : Hid (compV m k = (compN m k : Int)) := by
    show _ = _
    rw [HV.out, ha, hb]; simp
  obtain ⟨C, hC⟩ : ∃ C, C = compN m k := ⟨_, rfl⟩
  rw [← hC] at HC HV2
  clear hC HV
  have HC8 := Lib.hid HC.out.1
  have HH := Lib.hid HC.out.2
  clear HC
  have q1 := mot_one hm
  have HQ : Hid (∀ j, hitB m k j = ((mot j (1, 2)).1 == (mot k (mot m (1, 2))).1 && (mot j (1, 2)).2 == (mot k (mot m (1, 2))).2)) := fun _ => rfl
  have E1 : ∀ x w, Sem.run Try.prog (callFunc (motF m) #[x]) w = .ok (.enter (motF m) #[x]) w := fun x w => enter_mot m hm x w
  have E2 : ∀ x w, Sem.run Try.prog (callFunc (motF k) #[x]) w = .ok (.enter (motF k) #[x]) w := fun x w => enter_mot k hk x w
  have A1 := Lib.hid (fun w => motF_any 1 2 m w hm (by omega))
  have A2 := Lib.hid (fun w => motF_any (mot m (1, 2)).1 (mot m (1, 2)).2 k w hk (by omega))
  have HT : Hid (∀ W g, Table W g → W.cell? ⟨g, m, none⟩ = some (.func (.func (motF m)) #[] #[]) ∧ W.cell? ⟨g, k, none⟩ = some (.func (.func (motF k)) #[] #[])) := fun W g h => ⟨h.at hm, h.at hk⟩
  have HI := Lib.hid (fun g g5 g7 qx qy w hT h5 h7 => indexFn_any m k C g g5 g7 qx qy w hT h5 h7 HC8.out HH)
  generalize motF m = F1 at *
  generalize motF k = F2 at *
  generalize mot m (1, 2) = p at *
  have HP : Hid ((p.1, p.2) = p) := rfl
  rw [HP.out] at A2
  generalize mot k p = q at *
  generalize p.1 = px at *
  generalize p.2 = py at *
  generalize q.1 = qx at *
  generalize q.2 = qy at *
  clear HP p q q1 HH HC8
  have g1 : (0 : Int) ≤ (m : Int) := by omega
  have g2 : (m : Int) < 8 := by omega
  have g3 : (0 : Int) ≤ (k : Int) := by omega
  have g4 : (k : Int) < 8 := by omega
  go_enter Try.func32, Try.ntmps32
  go_wp2_with fail
  refine (isMotion_any _ _).mono ?_
  rintro e w1 ⟨rfl, rfl⟩
  rw [ha]
  go_wp2_with fail
  refine (isMotion_any _ _).mono ?_
  rintro e w1 ⟨rfl, rfl⟩
  rw [hb]
  clear ha hb h1 h2
  go_wp2_with fail
  refine (motions_any _).mono ?_
  rintro e w2 ⟨rfl, hb2⟩
  have a1 := (at_new w1 1 2 56).step hb2
  have b2 := below_on (below1 w1 _) hb2
  clear hb2
  go_wp2_with (refine wpList_store_row rfl 79 _ _ rfl w2.heap.size motA rfl rfl 79 _ (heap_alloc_new w2 _) (by kernel_rfl) rfl (by kernel_rfl) ?_)
  have hT := setRow_heap _ _ _ motA 79 _ (heap_alloc_new w2 (.cells #[.nilFunc, .nilFunc, .nilFunc, .nilFunc, .nilFunc, .nilFunc, .nilFunc, .nilFunc] 79))
  have bA := below_rowM (below1 w2 (.cells #[.nilFunc, .nilFunc, .nilFunc, .nilFunc, .nilFunc, .nilFunc, .nilFunc, .nilFunc] 79)) (Nat.le_refl _) motA
  generalize (w2.alloc (.cells #[.nilFunc, .nilFunc, .nilFunc, .nilFunc, .nilFunc, .nilFunc, .nilFunc, .nilFunc] 79)).setRow w2.heap.size motA = W at *
  have aS := a1.step bA
  have bW := below_on b2 bA
  obtain ⟨t1, t2⟩ := HT.out W w2.heap.size hT
  have c1 := aS.c0; have c2 := aS.c1
  have bS : Below W.heap.size W W.drew := (Below.refl _ _).drew
  clear a1 b2 bA
  have k1 := cell_regrown t1; have k2 := cell_regrown t2; have k3 := cell_regrown c1; have k4 := cell_regrown c2
  refine region_float1 9 (.cells #[.int .i64 0, .int .i64 0] 56) 7 (by kernel_rfl) (by kernel_rfl) (by kernel_rfl) (alloc_run (by kernel_rfl) allocPt) ?_
  simp only [List.take_succ_cons, List.take_zero, List.drop_succ_cons, List.drop_zero]
  repeat (
    refine wpQuietB_step (fun K hK => ?_)
    go_simp
    first
      | (refine hK _ ?_; clear hK K)
      | (apply Exists.intro
         refine ⟨fun _ => ?_, hK _ ?_⟩
         ((first | exact Calls.now (A1.out _) | exact Calls.now (A2.out _)))
         clear hK K))
  refine wpQuietB_nil ?_
  intro g w5 hb5 hg hob
  have l1 := aS.lt
  have l2 := Table.lt hT
  have a5 := aS.step hb5
  have T5 := Table.step hT hb5
  have ag : At w5 g 0 0 56 := hob
  have b5 := below_on bW hb5
  have hwg : w1.heap.size ≤ g := by omega
  have v1 := ag.c0; have v2 := ag.c1
  have f1 := at_frozen ag 0; have f2 := at_frozen ag 1
  have v3 := (at_store ag qx 0).c1
  have a7 := at_store1 (at_store ag qx 0) qy
  have a6 := at_set (at_set a5 (b := g) (by omega) 0 (.int .i64 qx)) (b := g) (by omega) 1 (.int .i64 qy)
  have T6 := Table.set (Table.set T5 (b := g) (by omega) 0 (.int .i64 qx)) (b := g) (by omega) 1 (.int .i64 qy)
  have b6 := (b5.setCell (p := ⟨g, 0, none⟩) hwg (.int .i64 qx)).setCell (p := ⟨g, 1, none⟩) hwg (.int .i64 qy)
  clear k1 k2 k3 k4 c1 c2 t1 t2 hob ag a5 T5 aS hT hb5 b5 l1 l2 hg hwg bS bW A1 A2 E1 E2 HT
  have HX := Lib.hid (HI.out w2.heap.size w1.heap.size g qx qy _ T6 a6 a7 HQ)
  clear T6 a6 a7
  go_wp2_with fail
  refine HX.out.mono ?_
  rintro e w7 ⟨rfl, hb7⟩
  have b7 := below_on b6 hb7
  clear hb7 b6 v1 v2 v3 f1 f2
  go_wp2_with fail
  go_ret
  exact ⟨ret_int HV2.out.symm, b7⟩

set_option maxRecDepth 100000 in
set_option maxHeartbeats 1000000 in
theorem impl_inv (m : Int) (w : World) : Calls Try.prog 34 #[.int .i64 m] w fun e w' => e = .returned (.int .i64 (invV m)) ∧ Below w.heap.size w w' := by
  have HC := Lib.hid (fun b w => impl_comp m b w)
  have HI := Lib.hid (invV_spec m)
  go_enter Try.func34, Try.ntmps34
  go_wp2_with fail
  go_loopw [3, 4] (fun _ i wr => ∃ j : Nat, j ≤ 8 ∧ i = .int .i64 j ∧ Hid (∀ k, k < j → (compV m (k : Nat) == 0) = false) ∧ Below w.heap.size w wr) (fun _ i _ => 8 - (intOf i).toNat)
  case atStart => exact ⟨0, by omega, rfl, fun k hk => by omega, Below.refl _ _⟩
  case round =>
    obtain ⟨j, hj8, rfl, HN, b0⟩ := hrel
    by_cases hlt : j < 8
    · have HV := Lib.hid (HI.out.1 j hlt HN.out)
      cases hc : (compV m (j : Nat) == 0)
      · have HN2 : Hid (∀ k, k < j + 1 → (compV m (k : Nat) == 0) = false) := fun k hk => by
          rcases Nat.lt_or_ge k j with h1 | h1
          · exact HN.out k h1
          · obtain rfl : k = j := by omega
            exact hc
        go_wp2_with fail
        refine (HC.out _ _).mono ?_
        rintro e w1 ⟨rfl, hb1⟩
        have b1 := below_on b0 hb1
        clear hb1 b0
        go_wp2_with fail
        go_roundw
        case rel => exact ⟨j + 1, by omega, by go_num, HN2, b1⟩
        case measure => simp [intOf]; omega
      · go_wp2_with fail
        refine (HC.out _ _).mono ?_
        rintro e w1 ⟨rfl, hb1⟩
        have b1 := below_on b0 hb1
        clear hb1 b0
        go_wp2_with fail
        go_ret
        exact ⟨ret_int (HV.out hc).symm, b1⟩
    · have HV := Lib.hid (HI.out.2 (fun k hk => HN.out k (by omega)))
      go_wp2_with fail
      go_ret
      exact ⟨ret_int HV.out.symm, b0⟩
end Go.Proofs.Ytoemmaeglhdjnaa
