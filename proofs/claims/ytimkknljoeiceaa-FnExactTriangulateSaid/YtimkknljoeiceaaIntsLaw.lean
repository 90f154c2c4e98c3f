/-
  The laws' helpers on lists of ints: eqIntS, markIntS, heldIntS.
-/
import Derived.Test.YtimkknljoeiceaaInts
import Derived.Test.YtimkknljoeiceaaPolyLaw
namespace Go.Proofs.Ytimkknljoeiceaa
open Go.RowKit

theorem own_apart_g {w w1 : World} {B0 B1 s0 s1 : Nat} {e0 e1 : TypeId} {v0 v1 : Value} {n0 n1 : Nat} {xs0 xs1 : List Value} (h0 : w.ownsRow B0 e0 s0 v0 n0 xs0) (hB : w.heap.size ≤ B1) (h1 : w1.ownsRow B1 e1 s1 v1 n1 xs1) : v0.ownBlock = none ∨ v0.ownBlock ≠ v1.ownBlock := by
  cases hv : v0.ownBlock with
  | none => exact .inl rfl
  | some k =>
    refine .inr fun he => ?_
    have a1 := (h0.lt k hv).2
    have a2 := (h1.lt k he.symm).1
    omega
theorem own_apart_g' {w w1 : World} {B0 B1 s0 s1 : Nat} {e0 e1 : TypeId} {v0 v1 : Value} {n0 n1 : Nat} {xs0 xs1 : List Value} (h0 : w.ownsRow B0 e0 s0 v0 n0 xs0) (hB : w.heap.size ≤ B1) (h1 : w1.ownsRow B1 e1 s1 v1 n1 xs1) : v1.ownBlock = none ∨ v1.ownBlock ≠ v0.ownBlock := by
  rcases own_apart_g h0 hB h1 with h | h
  · cases hv : v1.ownBlock with
    | none => exact .inl rfl
    | some k => exact .inr (fun e => by rw [h] at e; cases e)
  · exact .inr (fun e => h e.symm)
theorem intsA_of {w : World} {B : Nat} {e : TypeId} {A : Option Addr} {n c : Nat} {M : List Int} (h : w.ownsRow B e 1 (.slice A n c) n (ints M)) : IntsA w A M := by
  obtain ⟨_, A', c', hv, hP⟩ := own_ints h
  simp only [Value.slice.injEq] at hv
  obtain ⟨rfl, -, -⟩ := hv
  exact hP
set_option maxRecDepth 100000 in
set_option maxHeartbeats 800000 in
theorem eq_ints (A1 A2 : Option Addr) (c1 c2 : Nat) (M : List Int) (w : World) (h1 : IntsA w A1 M) (h2 : IntsA w A2 M) (hL : M.length ≤ 1048576) :
    Calls Try.prog 30 #[.slice A1 M.length c1, .slice A2 M.length c2] w fun e w' => e = .returned (.bool true) ∧ Below w.heap.size w w' := by
  have H1 := Lib.hid h1; clear h1
  have H2 := Lib.hid h2; clear h2
  go_enter Try.func30, Try.ntmps30
  go_wp2_with fail
  go_loopw [5] (fun i w' => ∃ k : Nat, k ≤ M.length ∧ i = .int .i64 k ∧ Below w.heap.size w w') (fun i _ => M.length - (intOf i).toNat)
  case atStart => exact ⟨0, Nat.zero_le _, rfl, Below.refl _ _⟩
  case round =>
    obtain ⟨wo, rfl⟩ : ∃ wo : World, wo = wr := ⟨_, rfl⟩
    obtain ⟨k, hk, rfl, hb⟩ := hrel
    by_cases hlt : k < M.length
    · obtain ⟨g1, rfl, hc1⟩ := intsA_on H1.out hb k hlt
      obtain ⟨g2, rfl, hc2⟩ := intsA_on H2.out hb k hlt
      obtain ⟨x, hx⟩ : ∃ x, x = M[k] := ⟨_, rfl⟩
      rw [← hx] at hc1 hc2
      clear hx
      have k1 := cell_regrown hc1; have k3 := cell_regrown hc2
      go_wp2_with fail
      refine wp_region_quiet_below (by kernel_rfl) (by kernel_rfl) ?_
      repeat (first
        | go_big_quiet_step (fail)
        | quiet_step (fail))
      refine wpQuiet_nil ?_
      rintro _ ⟨⟨dq, osq⟩, rfl⟩
      have hb2 := hb.trans ((below_regrown wo dq osq).mono hb.size)
      clear hc1 hc2 k1 k3
      simp only at *
      generalize Go.Sort.grow (redrawn wo dq) osq = w2 at *
      go_wp2_with fail
      go_roundw
      case rel => exact ⟨k + 1, by omega, by go_num, hb2⟩
      case measure => simp [intOf]; omega
    · go_wp2_with fail
      go_ret
      exact ⟨rfl, hb⟩
theorem cell_some1 {w : World} {B : Nat} {e : TypeId} {g n cap : Nat} {xs : List Value} (h : w.ownsRow B e 1 (.slice (some ⟨g, 0, none⟩) n cap) n xs) (j : Nat) (hj : j < n) : ∃ u, w.cell? ⟨g, j, none⟩ = some u := by
  rw [h.cellAt j (by omega)]
  have : j < xs.length := by rw [h.1]; omega
  exact ⟨_, List.getElem?_eq_getElem this⟩
set_option maxRecDepth 100000 in
set_option maxHeartbeats 800000 in
/-- Every number of an owned slice of ints is overwritten by its mark. -/
theorem mark_ints (B : Nat) (v : Value) (n : Nat) (xs : List Value) (w : World) (hown : w.ownsRow B 3 1 v n xs) (hn : n ≤ 1048576) :
    Calls Try.prog 31 #[v, .int .i64 1] w fun e w' => e = .returned (.int .i64 (1 + n)) ∧ w'.ownsRow B 3 1 v n (marksI n) ∧ w.grownBy w' v.ownBlock := by
  have hl : xs.length = n := by have := hown.1; omega
  rcases hown.2 with ⟨rfl, rfl⟩ | ⟨g, cap, cur, rfl, _⟩
  · go_enter Try.func31, Try.ntmps31
    go_wp2_with fail
    refine wp_loop_rounds 1 ?_
    rw [rounds_succ]
    go_wp2_with fail
    go_ret
    exact ⟨rfl, World.ownsRow_nil _ _ _ _, World.grownBy.refl _ _⟩
  · go_enter Try.func31, Try.ntmps31
    go_wp2_with fail
    go_loopw [1, 5] (fun m i wr => ∃ k : Nat, k ≤ n ∧ i = .int .i64 k ∧ m = .int .i64 (1 + k) ∧ wr.ownsRow B 3 1 (.slice (some ⟨g, 0, none⟩) n cap) n (marksI k ++ xs.drop k) ∧ w.grownBy wr (some g)) (fun _ i _ => n - (intOf i).toNat)
    case atStart => exact ⟨0, Nat.zero_le _, rfl, rfl, by simpa [marksI] using hown, World.grownBy.refl _ _⟩
    case round =>
      obtain ⟨k, hk, rfl, rfl, hown', hgr⟩ := hrel
      by_cases hlt : k < n
      · obtain ⟨u1, hc1⟩ := cell_some1 hown' k hlt
        have hf1 := hown'.frozenAt k
        have hs1 := (hown'.stored k (.int .i64 (1 + (k : Int)))).1
        rw [marksI_step (by omega)] at hs1
        have hg2 := only_set hgr k (.int .i64 (1 + (k : Int)))
        have R := Lib.hid (And.intro hs1 hg2)
        clear hs1 hg2 hown' hgr hown
        go_wp2_with fail
        go_roundw
        case rel => exact ⟨k + 1, by omega, by go_num, by go_num, R.out.1, R.out.2⟩
        case measure => simp [intOf]; omega
      · obtain rfl : k = n := by omega
        rw [List.drop_of_length_le (by omega), List.append_nil] at hown'
        have R := Lib.hid hown'
        clear hown' hown
        go_wp2_with fail
        go_ret
        exact ⟨rfl, R.out, hgr⟩
set_option maxRecDepth 100000 in
set_option maxHeartbeats 800000 in
/-- The marks are still there. -/
theorem held_ints (B : Nat) (v : Value) (n : Nat) (w : World) (hown : w.ownsRow B 3 1 v n (marksI n)) (hn : n ≤ 1048576) :
    Calls Try.prog 32 #[v, .int .i64 1] w fun e w' => e = .returned (.int .i64 (1 + n)) ∧ w' = w := by
  have hM : ∀ j, j < n → (marksI n)[j]? = some (.int .i64 (1 + (j : Int))) := fun j hj => by simp [marksI, hj]
  rcases hown.2 with ⟨rfl, rfl⟩ | ⟨g, cap, cur, rfl, _⟩
  · clear hM
    go_enter Try.func32, Try.ntmps32
    go_wp2_with fail
    refine wp_loop_rounds 1 ?_
    rw [rounds_succ]
    go_wp2_with fail
    go_ret
    exact ⟨rfl, rfl⟩
  · have HC : Hid (∀ j, j < n → w.cell? ⟨g, j, none⟩ = some (.int .i64 (1 + (j : Int)))) := fun j hj => (hown.cellAt j (by omega)).trans (hM j hj)
    clear hM hown
    go_enter Try.func32, Try.ntmps32
    go_wp2_with fail
    go_loopw [1, 5] (fun m i wr => ∃ k : Nat, k ≤ n ∧ i = .int .i64 k ∧ m = .int .i64 (1 + k) ∧ wr = w) (fun _ i _ => n - (intOf i).toNat)
    case atStart => exact ⟨0, Nat.zero_le _, rfl, rfl, rfl⟩
    case round =>
      obtain ⟨k, hk, rfl, rfl, rfl⟩ := hrel
      by_cases hlt : k < n
      · have hc1 := HC.out k hlt
        go_wp2_with fail
        go_roundw
        case rel => exact ⟨k + 1, by omega, by go_num, by go_num, by first | trivial | rfl⟩
        case measure => simp [intOf]; omega
      · obtain rfl : k = n := by omega
        go_wp2_with fail
        go_ret
        exact ⟨rfl, rfl⟩
end Go.Proofs.Ytimkknljoeiceaa
