/-
  Walks for l05Ear, IsEar of the model and of the program.
-/
import Derived.Test.YtimkknljoeiceaaDiagS
namespace Go.Proofs.Ytimkknljoeiceaa
open Go.RowKit

def earB (L : List (Int × Int)) (i : Nat) : Bool := (L.length == 3) || diagB L (pv L i) (nx L i)
def earV (L : List (Int × Int)) (k : Int) : Bool := polyB L && (inB k 0 ((L.length : Int) - 1) && earB L k.toNat)
theorem prev_int {i n : Nat} (hn : 0 < n) : Int.tmod ((i : Int) + (n : Int) - 1) (n : Int) = (((i + n - 1) % n : Nat) : Int) := by
  have : (i : Int) + (n : Int) - 1 = ((i + n - 1 : Nat) : Int) := by omega
  rw [this, tmod_nat]
set_option maxRecDepth 100000 in
set_option maxHeartbeats 2000000 in
theorem earS_any (A : Option Addr) (c : Nat) (L : List (Int × Int)) (p : Nat) (w : World) (hA : PtsA w A L) (h3 : 3 ≤ L.length) (h10 : L.length ≤ 10) (hok : allOk L = true) (hp : p < L.length) :
    Calls Try.prog 65 #[.slice A L.length c, .int .i64 (p : Int)] w fun e w' => e = .returned (.bool (earB L p)) ∧ Below w.heap.size w w' := by
  by_cases h : L.length = 3
  · have d0 : ((L.length : Int) == 3) = true := by simp; omega
    have HV : Hid (earB L p = true) := by show _ = _; rw [earB, h]; rfl
    clear hA h
    go_enter Try.func65, Try.ntmps65
    go_upto_region 2 with (fail)
    refine wp_region_quiet_below (by kernel_rfl) (by kernel_rfl) ?_
    repeat (first
      | go_big_quiet_step (fail)
      | quiet_step (fail))
    refine wpQuiet_nil ?_
    rintro _ ⟨⟨dq, osq⟩, rfl⟩
    have b3 := below_regrown w dq osq
    go_wp2_with fail
    go_ret
    exact ⟨ret_bool HV.out.symm, b3⟩
  · have d0 : ((L.length : Int) == 3) = false := by simp; omega
    have HV : Hid (earB L p = diagB L (pv L p) (nx L p)) := by
      show _ = _
      rw [earB, beq_eq_false_iff_ne.2 h]; rfl
    obtain ⟨hr, hrl⟩ := next_int (i := p) (n := L.length) (by omega)
    have hpr := prev_int (i := p) (n := L.length) (by omega)
    rw [show (p + 1) % L.length = nx L p from rfl] at hr hrl
    rw [show (p + L.length - 1) % L.length = pv L p from rfl] at hpr
    have HD := Lib.hid (fun d os => diagS_any A c L (pv L p) (nx L p) _ (ptsA_on hA (below_regrown w d os)) h3 h10 hok (pv_lt (by omega) p) (nx_lt (by omega) p))
    generalize pv L p = t at *
    generalize nx L p = r at *
    have f1 : IntKind.i64.wrap ((p : Int) + 1) = (p : Int) + 1 := IntWalk.i64_in _ (by omega)
    have f2 : IntKind.i64.wrap ((p : Int) + (L.length : Int)) = (p : Int) + (L.length : Int) := IntWalk.i64_in _ (by omega)
    have f3 : IntKind.i64.wrap ((p : Int) + (L.length : Int) - 1) = (p : Int) + (L.length : Int) - 1 := IntWalk.i64_in _ (by omega)
    have f4 : IntKind.i64.wrap (r : Int) = (r : Int) := IntWalk.i64_in _ (by omega)
    have hne : ¬ L.length = 0 := by omega
    clear hA h hok
    go_enter Try.func65, Try.ntmps65
    go_upto_region 2 with (fail)
    refine wp_region_quiet_below (by kernel_rfl) (by kernel_rfl) ?_
    repeat (first
      | go_big_quiet_step (first | exact Calls.regrown_of (HD.out _ _))
      | quiet_step (first | exact Calls.regrown_of (HD.out _ _)))
    refine wpQuiet_nil ?_
    rintro _ ⟨⟨dq, osq⟩, rfl⟩
    have b3 := below_regrown w dq osq
    go_wp2_with fail
    go_ret
    exact ⟨ret_bool HV.out.symm, b3⟩
end Go.Proofs.Ytimkknljoeiceaa
