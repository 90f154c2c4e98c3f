/-
  countSets: how many sets of diagonals there are, no two of which cross.
-/
import Derived.Test.YtieekeodbflgfaaSetsB
namespace Go.Proofs.Ytieekeodbflgfaa
open Go.RowKit
open Go.Maps (Keyed)

theorem sum_le (f : List (Int × Int) → Nat) (B K : Nat) (hf : ∀ R, R.length ≤ K → f R ≤ B) : ∀ R : List (Int × Int), R.length ≤ K → sumN f R ≤ R.length * B
  | [], _ => Nat.zero_le _
  | d :: R, h => by
    simp only [List.length_cons] at h
    have h1 := sum_le f B K hf R (by omega)
    have h2 := hf (ncL d R) (Nat.le_trans (ncL_len d R) (by omega))
    rw [List.length_cons, Nat.succ_mul]
    show f (ncL d R) + sumN f R ≤ _
    omega
theorem setN_le (K : Nat) : ∀ (m : Nat) (R : List (Int × Int)), R.length ≤ K → setN m R ≤ K ^ m
  | 0, _, _ => Nat.le_refl _
  | m + 1, R, h => by
    have h1 := sum_le (setN m) (K ^ m) K (setN_le K m) R h
    rw [Nat.pow_succ, Nat.mul_comm]
    exact Nat.le_trans h1 (Nat.mul_le_mul_right _ h)
theorem setN_small {m : Nat} {R : List (Int × Int)} (hR : R.length ≤ 64) (hm : m ≤ 10) : setN m R ≤ 1152921504606846976 := by
  have h1 := setN_le 64 m R hR
  have h2 : 64 ^ m ≤ 64 ^ 10 := Nat.pow_le_pow_right (by omega) hm
  exact Nat.le_trans h1 h2
theorem setN_take {m : Nat} {R : List (Int × Int)} {z : Int × Int} (h : z ∈ R) : setN (m + 1) R = setN m (ncL z (R.erase z)) + setN (m + 1) (R.erase z) := by
  rw [setN_perm _ (List.perm_cons_erase h), setN_cons]
theorem w_sub {n : Int} (h : 0 ≤ n) (h2 : n ≤ 1000) : wrap64 (n - 1) = n - 1 ∧ IntKind.i64.wrap (n - 1) = n - 1 := ⟨IntWalk.wrap64_in _ (by omega), IntWalk.i64_in _ (by omega)⟩
theorem w_add {c d : Int} (h : 0 ≤ c) (h2 : 0 ≤ d) (h3 : c + d ≤ 1152921504606846976) : wrap64 (c + d) = c + d ∧ IntKind.i64.wrap (c + d) = c + d := ⟨IntWalk.wrap64_in _ (by omega), IntWalk.i64_in _ (by omega)⟩
def SetsAt (m : Nat) : Prop := ∀ (n : Int) (b : Nat) (R : List (Int × Int)) (w : World), n = (m : Int) → m ≤ 10 → MapS w b R → R.Nodup → R.length ≤ 64 →
    Calls Try.prog 97 #[.map (some b), .int .i64 n] w fun e w' => e = .returned (.int .i64 (setN m R : Nat)) ∧ w.grownBy w' (some b)
set_option maxRecDepth 100000 in
theorem sets_zero : SetsAt 0 := by
  intro n b R w hn hm hM hR hl
  have hz : n = 0 := hn
  have hone : Hid ((setN 0 R : Int) = 1) := rfl
  subst hz
  clear hM hR hl hm hn
  go_enter Try.func97, Try.ntmps97
  go_wp2_with fail
  go_ret
  exact ⟨by rw [hone.out]; rfl, grown_refl _ _⟩
set_option maxRecDepth 100000 in
set_option maxHeartbeats 2000000 in
theorem sets_step (m : Nat) (ih : SetsAt m) : SetsAt (m + 1) := by
    intro n b R w hn hm hM hR hl
    have IH := Lib.hid ih
    clear ih
    have HN := Lib.hid hn
    have h0 : (n == 0) = false := by rw [beq_eq_false_iff_ne]; omega
    have h0' : ¬ n = 0 := by omega
    obtain ⟨f1, f1'⟩ := w_sub (n := n) (by omega) (by omega)
    obtain ⟨D, k, hown, h2, h3⟩ := hM
    have HH := Lib.hid (And.intro h2 h3)
    have HL := Lib.hid hl
    have HMX := Lib.hid hm
    have hbl := hown.lt
    clear h2 h3 hn hl hm
    go_enter Try.func97, Try.ntmps97
    go_wp2_with (first
      | (at_range; refine wpList_range_own _ rfl _ 85 rfl 95 4 pr_keyed Try.underlying85 _ b k D rfl hown ?_; intro w0 hrg0 hg0 hs0)
      | go_in)
    have HR0 : Hid (RangeS w0 b w.heap.size [] R (Maps.size D)) := rangeS_start hR HH.out.1 HH.out.2 hrg0
    have HG0 : Hid (w.grownBy w0 (some b)) := hg0.but _
    clear hrg0 hg0 hs0 hown HH
    go_frame
    go_loopw [5, 6, 7] (fun cv _ _ wr => ∃ (Rl : List (Int × Int)) (cnt : Nat) (c : Int), cv = .int .i64 c ∧ Hid (0 ≤ c ∧ c + (setN (m + 1) Rl : Nat) = (setN (m + 1) R : Nat)) ∧ Hid (RangeS wr b w.heap.size [] Rl cnt) ∧ Hid (Rl.length ≤ 64 ∧ Rl.Nodup) ∧ Hid (w.grownBy wr (some b))) (fun _ _ _ wr => wr.rangeLeft b w.heap.size)
    case atStart => exact ⟨R, _, 0, rfl, ⟨Int.le_refl _, Int.zero_add _⟩, HR0, ⟨HL.out, hR⟩, HG0⟩
    case round =>
      obtain ⟨wo, rfl⟩ : ∃ wo : World, wo = wr := ⟨_, rfl⟩
      obtain ⟨Rl, cnt, c, rfl, HC, HRG, HRL, HG⟩ := hrel
      clear HR0 HG0
      go_wp2_with (first
        | (at_next; refine step_next _ rfl _ rfl b w.heap.size [] Rl cnt rfl HRG.out ?_ ?_)
        | go_in)
      · intro hnil
        have HF : Hid (c = (setN (m + 1) R : Nat)) := by
          have q := HC.out.2
          rw [hnil, setN_nil] at q
          show _ = _
          omega
        go_wp2_with fail
        go_ret
        exact ⟨by rw [HF.out]; rfl, HG.out⟩
      · intro px py v w1 cnt1 hm hx hy hrg1 hlt hg1 hen
        have HRG1 := Lib.hid hrg1
        have HLT := Lib.hid hlt
        have hg1' : Hid (w.grownBy w1 (some b)) := HG.out.andThen hg1 (fun j hj => by cases hj; exact Or.inl (Nat.le_refl _))
        have hnw := at_new w1 px py 95
        have HNW := Lib.hid hnw
        have HG2 : Hid (w1.grownBy (w1.alloc (.cells #[.int .i64 px, .int .i64 py] 95)) none) := World.grownBy_alloc w1 _ none
        have HRG2 : Hid (RangeS (w1.alloc (.cells #[.int .i64 px, .int .i64 py] 95)) b w.heap.size ([] ++ [(px, py)]) (Rl.erase (px, py)) cnt1) := HRG1.out.kept HG2.out (by simp) (by simp)
        have hbl1 := hrg1.ltb
        have hsz : w1.heap.size ≠ b := by omega
        have v1 := hnw.c0; have v2 := hnw.c1
        have HS := Lib.hid (setN_take (m := m) hm)
        have HLE : Hid ((Rl.erase (px, py)).length ≤ 64 ∧ (Rl.erase (px, py)).Nodup) := ⟨by have := List.length_erase_le (a := (px, py)) (l := Rl); have := HRL.out.1; omega, HRL.out.2.sublist List.erase_sublist⟩
        clear hrg1 hlt hg1 hnw
        go_wp2_with (first
          | (at_delete; refine step_delete _ rfl _ _ rfl b w.heap.size [] (Rl.erase (px, py)) cnt1 px py hx hy rfl HRG2.out rfl ?_; intro w3 cnt3 hrg3 hle hg3))
        have HRG3 : Hid (RangeS w3 b w.heap.size [] (Rl.erase (px, py)) cnt3) := hrg3
        have HG23 : Hid (w1.grownBy w3 (some b)) := (HG2.out.but _).andThen hg3 (fun j hj => by cases hj; exact Or.inr rfl)
        have hlt3 : Hid (cnt3 < cnt) := Nat.lt_of_le_of_lt hle HLT.out
        have hat3 := Lib.hid ((at_new w1 px py 95).grown hg3 (by simpa using hsz))
        have hm3 : MapS w3 b (Rl.erase (px, py)) := by
          have q := hrg3.map
          rwa [List.nil_append] at q
        obtain ⟨D3, k3, hown3, g2, g3⟩ := hm3
        have HK := Lib.hid (And.intro g2 g3)
        have CL := Lib.hid (AnyW.maps_Clone_owns Try.laysClone 95 (plainElem Try.prog 4) b k3 D3 w3 hown3)
        have hb3 := hown3.lt
        have hr3 := HRG3.out.ltr
        clear hrg3 hg3 hle hown3 g2 g3 HRG2 HG2 HLT v1 v2 HRG1 HNW
        go_wp2_with fail
        refine CL.out.mono ?_
        rintro e w4 ⟨rfl, how4, hqq, hb4⟩
        clear hqq
        have HM4 : Hid (MapS w4 w3.heap.size (Rl.erase (px, py))) := ⟨D3, k3, how4, HK.out.1, HK.out.2⟩
        have HRG4 : Hid (RangeS w4 b w.heap.size [] (Rl.erase (px, py)) cnt3) := HRG3.out.kept (below_grown hb4) (by simp) (by simp)
        have HAT4 := Lib.hid (hat3.out.step hb4)
        have HG4 : Hid (w3.grownBy w4 none) := below_grown hb4
        have hgo : w1.heap.size ≠ w3.heap.size := by have := hat3.out.lt; omega
        clear how4 hb4 HK HRG3 hat3
        go_wp2_with fail
        refine (del_any w3.heap.size w1.heap.size _ px py w4 HM4.out HLE.out.2 HAT4.out hgo).mono ?_
        rintro e w5 ⟨rfl, hm5, hg5⟩
        have HM5 := Lib.hid hm5
        have HRG5 : Hid (RangeS w5 b w.heap.size [] (Rl.erase (px, py)) cnt3) := HRG4.out.kept hg5 (by simp; omega) (by simp; omega)
        have hg35 : Hid (w3.grownBy w5 none) := ⟨hg5.os.trans HG4.out.os, hg5.tape.trans HG4.out.tape, hg5.output.trans HG4.out.output, Nat.le_trans HG4.out.size hg5.size, fun i hi hne => (hg5.block i (Nat.lt_of_lt_of_le hi HG4.out.size) (by simp; omega)).trans (HG4.out.block i hi hne)⟩
        clear hm5 hg5 HRG4 HAT4 HG4 HM4
        have HNC : Hid ((ncL (px, py) (Rl.erase (px, py))).length ≤ 64 ∧ (ncL (px, py) (Rl.erase (px, py))).Nodup) := ⟨Nat.le_trans (ncL_len _ _) HLE.out.1, HLE.out.2.filter _⟩
        have hsum := HC.out
        have hS := HS.out
        have hbd := setN_small HRL.out.1 HMX.out
        have hbd2 := setN_small HL.out HMX.out
        obtain ⟨d, hd⟩ : ∃ d : Nat, d = setN m (ncL (px, py) (Rl.erase (px, py))) := ⟨_, rfl⟩
        rw [← hd] at hS
        obtain ⟨g1, g1'⟩ := w_add (c := c) (d := (d : Int)) hsum.1 (by omega) (by omega)
        have HC2 : Hid (0 ≤ c + (d : Int) ∧ c + (d : Int) + (setN (m + 1) (Rl.erase (px, py)) : Nat) = (setN (m + 1) R : Nat)) := ⟨by omega, by omega⟩
        have HD := Lib.hid hd
        clear hsum hS hbd hbd2 hd
        go_wp2_with fail
        have CI := IH.out (n - 1) w3.heap.size _ w5 (by have := HN.out; omega) (by have := HMX.out; omega) HM5.out HNC.out.2 HNC.out.1
        rw [← HD.out] at CI
        refine CI.mono ?_
        rintro e w6 ⟨rfl, hg6⟩
        have HRG6 : Hid (RangeS w6 b w.heap.size [] (Rl.erase (px, py)) cnt3) := HRG5.out.kept hg6 (by simp; omega) (by simp; omega)
        have hg36 : Hid (w3.grownBy w6 none) := ⟨hg6.os.trans hg35.out.os, hg6.tape.trans hg35.out.tape, hg6.output.trans hg35.out.output, Nat.le_trans hg35.out.size hg6.size, fun i hi hne => (hg6.block i (Nat.lt_of_lt_of_le hi hg35.out.size) (by simp; omega)).trans (hg35.out.block i hi hne)⟩
        have HGW : Hid (w.grownBy w6 (some b)) := (hg1'.out.andThen HG23.out (fun j hj => by cases hj; exact Or.inr rfl)).andThen hg36.out (fun j hj => by cases hj)
        clear hg6 CI HM5 HNC HRG5 hg35 hg36
        go_wp2_with fail
        go_roundw
        case rel => exact ⟨_, cnt3, c + (d : Int), rfl, HC2, HRG6, HLE, HGW⟩
        case measure => rw [HRG6.out.left, HRG.out.left]; exact hlt3.out
theorem sets_any : ∀ m, SetsAt m
  | 0 => sets_zero
  | m + 1 => sets_step m (sets_any m)
end Go.Proofs.Ytieekeodbflgfaa
