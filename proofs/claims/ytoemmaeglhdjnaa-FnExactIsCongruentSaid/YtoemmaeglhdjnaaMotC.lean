/-
  ComposeMotions and InverseMotion of both programs.
-/
import Derived.Test.YtoemmaeglhdjnaaMotI
namespace Go.Proofs.Ytoemmaeglhdjnaa
open Go.RowKit

/-- The motion that does the same as a and then b, told by where it leads (1, 2). -/
def hitB (a b m : Nat) : Bool := eqQ (mot m (1, 2)) (mot b (mot a (1, 2)))
def compN (a b : Nat) : Nat := (List.range 8).findIdx (hitB a b)
theorem compN_spec : ∀ a, a < 8 → ∀ b, b < 8 → compN a b < 8 ∧ ∀ k, k < 8 → (hitB a b k = decide (k = compN a b)) := by decide +kernel
def compV (a b : Int) : Int := bif inB a 0 7 && inB b 0 7 then (compN a.toNat b.toNat : Int) else -1
/-- The first motion that undoes m. -/
def invV (m : Int) : Int := match (List.range 8).find? (fun k => compV m (k : Nat) == 0) with
  | some k => (k : Int)
  | none => -1
theorem find_first {p : Nat → Bool} {n k : Nat} (hk : k < n) (hn : ∀ j, j < k → p j = false) (h : p k = true) : (List.range n).find? p = some k := by
  rw [List.find?_range_eq_some]
  exact ⟨h, by simpa using hk, fun j hj => by simp [hn j hj]⟩
theorem invV_spec (m : Int) : (∀ j, j < 8 → (∀ k, k < j → (compV m (k : Nat) == 0) = false) → (compV m (j : Nat) == 0) = true → invV m = j) ∧ ((∀ k, k < 8 → (compV m (k : Nat) == 0) = false) → invV m = -1) := by
  constructor
  · intro j hj hn h
    unfold invV
    rw [find_first hj hn h]
  · intro hn
    unfold invV
    have : (List.range 8).find? (fun k => compV m (k : Nat) == 0) = none := by
      rw [List.find?_eq_none]
      intro k hk
      rw [hn k (List.mem_range.1 hk)]; simp
    rw [this]
theorem mot_one {a : Nat} (ha : a < 8) : -2 ≤ (mot a (1, 2)).1 ∧ (mot a (1, 2)).1 ≤ 2 ∧ -2 ≤ (mot a (1, 2)).2 ∧ (mot a (1, 2)).2 ≤ 2 := mot_bd (B := 2) ha (by simp)

set_option maxRecDepth 100000 in
set_option maxHeartbeats 1000000 in
theorem spec_comp (a b : Int) (w : World) : Calls Try.prog 31 #[.int .i64 a, .int .i64 b] w fun e w' => e = .returned (.int .i64 (compV a b)) ∧ Below w.heap.size w w' := by
  have HV : Hid (compV a b = bif inB a 0 7 && inB b 0 7 then (compN a.toNat b.toNat : Int) else -1) := rfl
  cases ha : inB a 0 7
  · go_enter Try.func31, Try.ntmps31
    go_wp2_with fail
    refine (in_any _ _ _ _).mono ?_
    rintro e w1 ⟨rfl, rfl⟩
    go_wp2_with fail
    go_ret
    exact ⟨ret_int (by rw [HV.out, ha]; rfl), Below.refl _ _⟩
  cases hb : inB b 0 7
  · go_enter Try.func31, Try.ntmps31
    go_wp2_with fail
    refine (in_any _ _ _ _).mono ?_
    rintro e w1 ⟨rfl, rfl⟩
    go_wp2_with fail
    refine (in_any _ _ _ _).mono ?_
    rintro e w1 ⟨rfl, rfl⟩
    go_wp2_with fail
    go_ret
    exact ⟨ret_int (by rw [HV.out, ha, hb]; rfl), Below.refl _ _⟩
  have h1 := inB_spec.1 ha
  have h2 := inB_spec.1 hb
  obtain ⟨m, rfl⟩ : ∃ m : Nat, a = m := ⟨a.toNat, by omega⟩
  obtain ⟨k, rfl⟩ : ∃ k : Nat, b = k := ⟨b.toNat, by omega⟩
  have hm : m < 8 := by omega
  have hk : k < 8 := by omega
  have HC := Lib.hid (compN_spec m hm k hk)
  have HV2 : Hid (compV m k = (compN m k : Int)) := by
    show _ = _
    rw [HV.out, ha, hb]; simp
  obtain ⟨C, hC⟩ : ∃ C, C = compN m k := ⟨_, rfl⟩
  rw [← hC] at HC HV2
  clear hC HV
  have hC8 := HC.out.1
  have HH := Lib.hid HC.out.2
  have q1 := mot_one hm
  have q2 := mot_bd (B := 2) hk q1
  have HH2 : Hid (∀ j, hitB m k j = eqQ (mot j (1, 2)) (mot k (mot m (1, 2)))) := fun _ => rfl
  have A1 := Lib.hid (fun w => apply_any 1 2 m w hm (by omega))
  have A2 := Lib.hid (fun w => apply_any (mot m (1, 2)).1 (mot m (1, 2)).2 k w hk (by omega))
  obtain ⟨p, hp⟩ : ∃ p, p = mot m (1, 2) := ⟨_, rfl⟩
  have A2' : Hid (∀ w, Calls Try.prog 71 #[(.agg #[.int .i64 p.1, .int .i64 p.2]), .int .i64 k] w fun e w' => e = .returned (.agg #[.int .i64 (mot k p).1, .int .i64 (mot k p).2]) ∧ Below w.heap.size w w') := by
    show ∀ w, _
    rw [hp]; exact A2.out
  rw [← hp] at A1 HH2
  clear A2 hp q1 q2
  have A3 : Hid (∀ (j : Nat) w, j < 8 → Calls Try.prog 71 #[.agg #[.int .i64 1, .int .i64 2], .int .i64 j] w fun e w' => e = .returned (.agg #[.int .i64 (mot j (1, 2)).1, .int .i64 (mot j (1, 2)).2]) ∧ Below w.heap.size w w') := fun j w hj => apply_any 1 2 j w hj (by omega)
  generalize p.1 = px at *
  generalize p.2 = py at *
  obtain ⟨q, hq⟩ : ∃ q, q = mot k p := ⟨_, rfl⟩
  rw [← hq] at A2' HH2
  clear hq
  have GP := guard_pt
  have EP := fun w x y x' y' => eql_pt w x y x' y'
  go_enter Try.func31, Try.ntmps31
  go_wp2_with fail
  refine (in_any _ _ _ _).mono ?_
  rintro e w1 ⟨rfl, rfl⟩
  rw [ha]
  go_wp2_with fail
  refine (in_any _ _ _ _).mono ?_
  rintro e w1 ⟨rfl, rfl⟩
  rw [hb]
  clear ha hb h1 h2
  go_wp2_with fail
  refine (A1.out _).mono ?_
  rintro e w2 ⟨rfl, hb2⟩
  have a1 := (at_new w1 1 2 56).step hb2
  have b2 := below_on (below1 w1 _) hb2
  clear hb2 A1
  go_wp2_with fail
  refine (A2'.out _).mono ?_
  rintro e w3 ⟨rfl, hb3⟩
  have a2 := a1.step hb3
  have b3 := below_on b2 hb3
  have HL := Lib.hid a2.lt
  clear hb3 A2' a1 b2
  have HQ : Hid (∀ j, hitB m k j = ((mot j (1, 2)).1 == q.1 && (mot j (1, 2)).2 == q.2)) := HH2.out
  clear HH2
  obtain ⟨qx, hqx⟩ : ∃ qx, qx = q.1 := ⟨_, rfl⟩
  obtain ⟨qy, hqy⟩ : ∃ qy, qy = q.2 := ⟨_, rfl⟩
  rw [← hqx, ← hqy] at HQ
  simp only [← hqx, ← hqy]
  clear hqx hqy q
  go_wp2_with fail
  have a3 := at_new w3 qx qy 56
  have a4 := a2.alloc (.cells #[.int .i64 qx, .int .i64 qy] 56)
  have b4 := b3.alloc b3.size (.cells #[.int .i64 qx, .int .i64 qy] 56)
  generalize w3.alloc (.cells #[.int .i64 qx, .int .i64 qy] 56) = W at *
  clear a2 b3
  go_loopw [7] (fun i wr => ∃ j : Nat, j ≤ C ∧ i = .int .i64 j ∧ At wr w1.heap.size 1 2 56 ∧ At wr w3.heap.size qx qy 56 ∧ Below w1.heap.size w1 wr) (fun i _ => 8 - (intOf i).toNat)
  case atStart => exact ⟨0, Nat.zero_le _, rfl, a4, a3, b4⟩
  case round =>
    clear a3 a4 b4
    obtain ⟨j, hjC, rfl, a4, a3, b4⟩ := hrel
    have hj8 : j < 8 := by omega
    have c1 := a4.c0; have c2 := a4.c1; have c3 := a3.c0; have c4 := a3.c1
    have k1 := cell_regrown c1; have k2 := cell_regrown c2; have k3 := cell_regrown c3; have k4 := cell_regrown c4
    have HJ : Hid (((mot j (1, 2)).1 == qx && (mot j (1, 2)).2 == qy) = decide (j = C)) := by
      show _ = _
      rw [← HQ.out j, HH.out j hj8]
    have A4 := Lib.hid (fun w => A3.out j w hj8)
    generalize (mot j (1, 2)).1 = ux at *
    generalize (mot j (1, 2)).2 = uy at *
    by_cases hc : j = C
    · have hE : (ux == qx && uy == qy) = true := by rw [HJ.out]; exact decide_eq_true hc
      have HR : Hid ((j : Int) = C) := by
        show _ = _
        rw [hc]
      clear hc hjC
      go_wp2_with fail
      refine wp_region_quiet_below (by kernel_rfl) (by kernel_rfl) ?_
      repeat (first
        | go_big_quiet_step (first | exact Calls.regrown_of (A4.out _))
        | quiet_step (first | exact Calls.regrown_of (A4.out _)))
      refine wpQuiet_nil ?_
      rintro _ ⟨⟨dq, osq⟩, rfl⟩
      have b5 := below_on b4 (below_regrown _ dq osq)
      clear k1 k2 k3 k4 c1 c2 c3 c4 b4
      go_wp2_with fail
      go_ret
      exact ⟨ret_int (by rw [HV2.out, HR.out]), b5⟩
    · have hE : (ux == qx && uy == qy) = false := by rw [HJ.out]; exact decide_eq_false hc
      go_wp2_with fail
      refine wp_region_quiet_below (by kernel_rfl) (by kernel_rfl) ?_
      repeat (first
        | go_big_quiet_step (first | exact Calls.regrown_of (A4.out _))
        | quiet_step (first | exact Calls.regrown_of (A4.out _)))
      refine wpQuiet_nil ?_
      rintro _ ⟨⟨dq, osq⟩, rfl⟩
      have a5 := a4.step (below_regrown _ dq osq)
      have a6 := a3.step (below_regrown _ dq osq)
      have b5 := below_on b4 (below_regrown _ dq osq)
      clear k1 k2 k3 k4 c1 c2 c3 c4 b4 a3 a4
      simp only at *
      generalize Go.Sort.grow (redrawn wr dq) osq = w5 at *
      go_wp2_with fail
      go_roundw
      case rel => exact ⟨j + 1, by omega, by go_num, a5, a6, b5⟩
      case measure => simp [intOf]; omega

set_option maxRecDepth 100000 in
set_option maxHeartbeats 1000000 in
theorem spec_inv (m : Int) (w : World) : Calls Try.prog 33 #[.int .i64 m] w fun e w' => e = .returned (.int .i64 (invV m)) ∧ Below w.heap.size w w' := by
  have HC := Lib.hid (fun b w => spec_comp m b w)
  have HI := Lib.hid (invV_spec m)
  go_enter Try.func33, Try.ntmps33
  go_wp2_with fail
  go_loopw [3] (fun i wr => ∃ j : Nat, j ≤ 8 ∧ i = .int .i64 j ∧ Hid (∀ k, k < j → (compV m (k : Nat) == 0) = false) ∧ Below w.heap.size w wr) (fun i _ => 8 - (intOf i).toNat)
  case atStart => exact ⟨0, by omega, rfl, fun k hk => by omega, Below.refl _ _⟩
  case round =>
    obtain ⟨j, hj8, rfl, HN, b0⟩ := hrel
    by_cases hlt : j < 8
    · have HV := Lib.hid (HI.out.1 j hlt HN.out)
      cases hc : (compV m (j : Nat) == 0)
      · have HN2 : Hid (∀ k, k < j + 1 → (compV m (k : Nat) == 0) = false) := fun k hk => by
          rcases Nat.lt_or_ge k j with h1 | h1
          · exact HN.out k h1
          · obtain rfl : k = j := by omega
            exact hc
        go_wp2_with fail
        refine (HC.out _ _).mono ?_
        rintro e w1 ⟨rfl, hb1⟩
        have b1 := below_on b0 hb1
        clear hb1 b0
        go_wp2_with fail
        go_roundw
        case rel => exact ⟨j + 1, by omega, by go_num, HN2, b1⟩
        case measure => simp [intOf]; omega
      · go_wp2_with fail
        refine (HC.out _ _).mono ?_
        rintro e w1 ⟨rfl, hb1⟩
        have b1 := below_on b0 hb1
        clear hb1 b0
        go_wp2_with fail
        go_ret
        exact ⟨ret_int (HV.out hc).symm, b1⟩
    · have HV := Lib.hid (HI.out.2 (fun k hk => HN.out k (by omega)))
      go_wp2_with fail
      go_ret
      exact ⟨ret_int HV.out.symm, b0⟩
end Go.Proofs.Ytoemmaeglhdjnaa
