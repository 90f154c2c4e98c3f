/-
  Walks for l05Ear, IsEar of the model and of the program.
-/
import Derived.Test.YtieekeodbflgfaaDiagS
namespace Go.Proofs.Ytieekeodbflgfaa
open Go.RowKit

def earB (L : List (Int × Int)) (i : Nat) : Bool := (L.length == 3) || diagB L (pv L i) (nx L i)
def earV (L : List (Int × Int)) (k : Int) : Bool := polyB L && (inB k 0 ((L.length : Int) - 1) && earB L k.toNat)
theorem prev_int {i n : Nat} (hn : 0 < n) : Int.tmod ((i : Int) + (n : Int) - 1) (n : Int) = (((i + n - 1) % n : Nat) : Int) := by
  have : (i : Int) + (n : Int) - 1 = ((i + n - 1 : Nat) : Int) := by omega
  rw [this, tmod_nat]
set_option maxRecDepth 100000 in
set_option maxHeartbeats 2000000 in
theorem earS_any (A : Option Addr) (c : Nat) (L : List (Int × Int)) (p : Nat) (w : World) (hA : PtsA w A L) (h3 : 3 ≤ L.length) (h10 : L.length ≤ 10) (hok : allOk L = true) (hp : p < L.length) :
    Calls Try.prog 82 #[.slice A L.length c, .int .i64 (p : Int)] w fun e w' => e = .returned (.bool (earB L p)) ∧ Below w.heap.size w w' := by
  by_cases h : L.length = 3
  · have d0 : ((L.length : Int) == 3) = true := by simp; omega
    have HV : Hid (earB L p = true) := by show _ = _; rw [earB, h]; rfl
    clear hA h
    go_enter Try.func82, Try.ntmps82
    go_upto_region 2 with (fail)
    refine wp_region_quiet_below (by kernel_rfl) (by kernel_rfl) ?_
    repeat (first
      | go_big_quiet_step (fail)
      | quiet_step (fail))
    refine wpQuiet_nil ?_
    rintro _ ⟨⟨dq, osq⟩, rfl⟩
    have b3 := below_regrown w dq osq
    go_wp2_with fail
    go_ret
    exact ⟨ret_bool HV.out.symm, b3⟩
  · have d0 : ((L.length : Int) == 3) = false := by simp; omega
    have HV : Hid (earB L p = diagB L (pv L p) (nx L p)) := by
      show _ = _
      rw [earB, beq_eq_false_iff_ne.2 h]; rfl
    obtain ⟨hr, hrl⟩ := next_int (i := p) (n := L.length) (by omega)
    have hpr := prev_int (i := p) (n := L.length) (by omega)
    rw [show (p + 1) % L.length = nx L p from rfl] at hr hrl
    rw [show (p + L.length - 1) % L.length = pv L p from rfl] at hpr
    have HD := Lib.hid (fun d os => diagS_any A c L (pv L p) (nx L p) _ (ptsA_on hA (below_regrown w d os)) h3 h10 hok (pv_lt (by omega) p) (nx_lt (by omega) p))
    generalize pv L p = t at *
    generalize nx L p = r at *
    have f1 : IntKind.i64.wrap ((p : Int) + 1) = (p : Int) + 1 := IntWalk.i64_in _ (by omega)
    have f2 : IntKind.i64.wrap ((p : Int) + (L.length : Int)) = (p : Int) + (L.length : Int) := IntWalk.i64_in _ (by omega)
    have f3 : IntKind.i64.wrap ((p : Int) + (L.length : Int) - 1) = (p : Int) + (L.length : Int) - 1 := IntWalk.i64_in _ (by omega)
    have f4 : IntKind.i64.wrap (r : Int) = (r : Int) := IntWalk.i64_in _ (by omega)
    have hne : ¬ L.length = 0 := by omega
    clear hA h hok
    go_enter Try.func82, Try.ntmps82
    go_upto_region 2 with (fail)
    refine wp_region_quiet_below (by kernel_rfl) (by kernel_rfl) ?_
    repeat (first
      | go_big_quiet_step (first | exact Calls.regrown_of (HD.out _ _))
      | quiet_step (first | exact Calls.regrown_of (HD.out _ _)))
    refine wpQuiet_nil ?_
    rintro _ ⟨⟨dq, osq⟩, rfl⟩
    have b3 := below_regrown w dq osq
    go_wp2_with fail
    go_ret
    exact ⟨ret_bool HV.out.symm, b3⟩
theorem spec_ear (A : Option Addr) (c : Nat) (L : List (Int × Int)) (i : Int) (w : World) (hA : PtsA w A L) (hL : L.length ≤ 1048576) :
    Calls Try.prog 34 #[.slice A L.length c, .int .i64 i] w fun e w' => e = .returned (.bool (earV L i)) ∧ Below w.heap.size w w' := by
  have PC := Lib.hid (spec_poly A c L w hA hL)
  have HI := Lib.hid (fun w => in_any i 0 ((L.length : Int) - 1) w)
  cases hp : polyB L
  · have HV : Hid (earV L i = false) := by
      show _ = _
      rw [earV, hp]; rfl
    rw [hp] at PC
    clear hA
    go_enter Try.func34, Try.ntmps34
    go_wp2_with fail
    refine PC.out.mono ?_
    rintro e w1 ⟨rfl, hb1⟩
    go_wp2_with fail
    go_ret
    exact ⟨ret_bool HV.out.symm, hb1⟩
  obtain ⟨h3, h10, hok⟩ := polyB_all hp
  rw [hp] at PC
  cases hi : inB i 0 ((L.length : Int) - 1)
  · have HV : Hid (earV L i = false) := by
      show _ = _
      rw [earV, hp, hi]; rfl
    rw [hi] at HI
    clear hA
    go_enter Try.func34, Try.ntmps34
    go_wp2_with fail
    refine PC.out.mono ?_
    rintro e w1 ⟨rfl, hb1⟩
    go_wp2_with fail
    refine (HI.out _).mono ?_
    rintro e w2 ⟨rfl, rfl⟩
    go_wp2_with fail
    go_ret
    exact ⟨ret_bool HV.out.symm, hb1⟩
  have hib := inB_spec.1 hi
  obtain ⟨p, rfl⟩ : ∃ p : Nat, i = (p : Int) := ⟨i.toNat, by omega⟩
  have HV : Hid (earV L p = earB L p) := by
    show _ = _
    rw [earV, hp, hi]; rfl
  rw [hi] at HI
  have HD := Lib.hid (fun W (hb : Below w.heap.size w W) => earS_any A c L p W (ptsA_on hA hb) h3 h10 hok (by omega))
  clear hA hib
  go_enter Try.func34, Try.ntmps34
  go_wp2_with fail
  refine PC.out.mono ?_
  rintro e w1 ⟨rfl, hb1⟩
  go_wp2_with fail
  refine (HI.out _).mono ?_
  rintro e w2 ⟨rfl, rfl⟩
  go_wp2_with fail
  refine (HD.out _ hb1).mono ?_
  rintro e w3 ⟨rfl, hb3⟩
  have b3 := below_on hb1 hb3
  go_wp2_with fail
  go_ret
  exact ⟨ret_bool HV.out.symm, b3⟩
set_option maxRecDepth 100000 in
set_option maxHeartbeats 2000000 in
theorem impl_ear (A : Option Addr) (c : Nat) (L : List (Int × Int)) (i : Int) (w : World) (hA : PtsA w A L) (hL : L.length ≤ 1048576) :
    Calls Try.prog 35 #[.slice A L.length c, .int .i64 i] w fun e w' => e = .returned (.bool (earV L i)) ∧ Below w.heap.size w w' := by
  have CI := Lib.hid (corner_any A c L i w hA hL)
  cases hi : (polyB L && inB i 0 ((L.length : Int) - 1))
  · have HV : Hid (earV L i = false) := by
      show _ = _
      rw [earV, ← Bool.and_assoc, hi]; rfl
    rw [hi] at CI
    clear hA
    go_enter Try.func35, Try.ntmps35
    go_wp2_with fail
    refine CI.out.mono ?_
    rintro e w1 ⟨rfl, hb1⟩
    go_wp2_with fail
    go_ret
    exact ⟨ret_bool HV.out.symm, hb1⟩
  obtain ⟨hp, hi2⟩ := (Bool.and_eq_true _ _).mp hi
  obtain ⟨h3, h10, hok⟩ := polyB_all hp
  have hib := inB_spec.1 hi2
  obtain ⟨p, rfl⟩ : ∃ p : Nat, i = (p : Int) := ⟨i.toNat, by omega⟩
  have hpl : p < L.length := by omega
  rw [hi] at CI
  by_cases h : L.length = 3
  · have d0 : ((L.length : Int) == 3) = true := by simp; omega
    have HV : Hid (earV L p = true) := by
      show _ = _
      rw [earV, hp, hi2, earB, h]; rfl
    clear hA h hi hi2 hib
    go_enter Try.func35, Try.ntmps35
    go_wp2_with fail
    refine CI.out.mono ?_
    rintro e w1 ⟨rfl, hb1⟩
    go_upto_region 4 with (fail)
    refine wp_region_quiet_below (by kernel_rfl) (by kernel_rfl) ?_
    repeat (first
      | go_big_quiet_step (fail)
      | quiet_step (fail))
    refine wpQuiet_nil ?_
    rintro _ ⟨⟨dq, osq⟩, rfl⟩
    have b3 := below_on hb1 (below_regrown w1 dq osq)
    go_wp2_with fail
    go_ret
    exact ⟨ret_bool HV.out.symm, b3⟩
  · have d0 : ((L.length : Int) == 3) = false := by simp; omega
    obtain ⟨hr, hrl⟩ := next_int (i := p) (n := L.length) (by omega)
    have hpr := prev_int (i := p) (n := L.length) (by omega)
    have htl := pv_lt (L := L) (by omega) p
    rw [show (p + 1) % L.length = nx L p from rfl] at hr hrl
    rw [show (p + L.length - 1) % L.length = pv L p from rfl] at hpr
    have HV : Hid (earV L p = diagV L (pv L p : Nat) (nx L p : Nat)) := by
      show _ = _
      rw [earV, hp, hi2, earB, beq_eq_false_iff_ne.2 h, diagV, hp, inB_spec.2 (by omega), inB_spec.2 (by omega)]; rfl
    have HD := Lib.hid (fun W (hb : Below w.heap.size w W) => impl_diag A c L (pv L p : Nat) (nx L p : Nat) W (ptsA_on hA hb) hL)
    generalize pv L p = t at *
    generalize nx L p = r at *
    have f1 : IntKind.i64.wrap ((p : Int) + 1) = (p : Int) + 1 := IntWalk.i64_in _ (by omega)
    have f2 : IntKind.i64.wrap ((p : Int) + (L.length : Int)) = (p : Int) + (L.length : Int) := IntWalk.i64_in _ (by omega)
    have f3 : IntKind.i64.wrap ((p : Int) + (L.length : Int) - 1) = (p : Int) + (L.length : Int) - 1 := IntWalk.i64_in _ (by omega)
    have f4 : IntKind.i64.wrap (r : Int) = (r : Int) := IntWalk.i64_in _ (by omega)
    have hne : ¬ L.length = 0 := by omega
    generalize diagV L t r = D at *
    clear hA h hok hi hi2 hib hrl htl
    go_enter Try.func35, Try.ntmps35
    go_wp2_with fail
    refine CI.out.mono ?_
    rintro e w1 ⟨rfl, hb1⟩
    go_upto_region 4 with (fail)
    have HQ := Lib.hid (fun d os => HD.out _ (below_on hb1 (below_regrown w1 d os)))
    refine wp_region_quiet_below (by kernel_rfl) (by kernel_rfl) ?_
    repeat (first
      | go_big_quiet_step (first | exact Calls.regrown_of (HQ.out _ _))
      | quiet_step (first | exact Calls.regrown_of (HQ.out _ _)))
    refine wpQuiet_nil ?_
    rintro _ ⟨⟨dq, osq⟩, rfl⟩
    have b3 := below_on hb1 (below_regrown w1 dq osq)
    go_wp2_with fail
    go_ret
    exact ⟨ret_bool HV.out.symm, b3⟩
end Go.Proofs.Ytieekeodbflgfaa
