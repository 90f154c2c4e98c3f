/-
  Slices of slices of ints that the call owns: each row in a block of its own; the laws' helpers eqIntSS, markIntSS, heldIntSS over them.
-/
import Derived.Test.YtoemmaeglhdjnaaIntsLaw
namespace Go.Proofs.Ytoemmaeglhdjnaa
open Go.RowKit

/-- A row: its block, its capacity, its numbers. -/
structure Rw where
  g : Nat
  cap : Nat
  M : List Int
/-- The slice of a row. -/
def hdr (r : Rw) : Value := .slice (some ⟨r.g, 0, none⟩) r.M.length r.cap
theorem hdr_own (r : Rw) : (hdr r).ownBlock = some r.g := rfl
/-- v is a slice of the rows Rs, all owned from block B on, no two in one block. -/
structure RowsR (w : World) (B : Nat) (v : Value) (Rs : List Rw) : Prop where
  out : w.ownsRow B 48 1 v Rs.length (Rs.map hdr)
  row : ∀ r ∈ Rs, w.ownsRow B 3 1 (hdr r) r.M.length (ints r.M)
  far : ∀ r ∈ Rs, v.ownBlock ≠ some r.g
  nodup : (Rs.map Rw.g).Nodup
theorem rowsR_nil (w : World) (B : Nat) : RowsR w B (.slice none 0 0) [] :=
  ⟨World.ownsRow_nil _ _ _ _, fun r h => (by cases h), fun r h => (by cases h), by simp⟩
theorem RowsR.below {w w' : World} {B : Nat} {v : Value} {Rs : List Rw} (h : RowsR w B v Rs) (hb : Below w.heap.size w w') : RowsR w' B v Rs :=
  ⟨own_below h.out hb, fun r hr => own_below (h.row r hr) hb, h.far, h.nodup⟩
theorem RowsR.base {w : World} {B B' : Nat} {v : Value} {Rs : List Rw} (h : RowsR w B v Rs) (hb : B' ≤ B) : RowsR w B' v Rs :=
  ⟨own_base h.out hb, fun r hr => own_base (h.row r hr) hb, h.far, h.nodup⟩
theorem RowsR.lt {w : World} {B : Nat} {v : Value} {Rs : List Rw} (h : RowsR w B v Rs) {r : Rw} (hr : r ∈ Rs) : B ≤ r.g ∧ r.g < w.heap.size := (h.row r hr).lt r.g rfl
/-- The slice's own address, where it has rows. -/
theorem RowsR.form {w : World} {B : Nat} {v : Value} {Rs : List Rw} (h : RowsR w B v Rs) : ∃ A c, v = .slice A Rs.length c ∧ ∀ i (hi : i < Rs.length), ∃ g, A = some ⟨g, 0, none⟩ ∧ w.cell? ⟨g, i, none⟩ = some (hdr Rs[i]) := by
  rcases h.out.2 with ⟨rfl, h0⟩ | ⟨g, cap, cur, rfl, hg, hh, _⟩
  · exact ⟨none, 0, by rw [h0], fun k hk => by omega⟩
  · refine ⟨some ⟨g, 0, none⟩, cap, rfl, fun k hk => ⟨g, rfl, ?_⟩⟩
    rw [h.out.cellAt k (by omega)]
    simp [hk]
set_option maxRecDepth 100000 in
set_option maxHeartbeats 800000 in
theorem eq_rows (B1 B2 : Nat) (v1 v2 : Value) (Rs Qs : List Rw) (w : World) (h1 : RowsR w B1 v1 Rs) (h2 : RowsR w B2 v2 Qs) (hM : Rs.map Rw.M = Qs.map Rw.M) (hL : Rs.length ≤ 1048576) (hl : ∀ r ∈ Rs, r.M.length ≤ 1048576) :
    Calls Try.prog 17 #[v1, v2] w fun e w' => e = .returned (.bool true) ∧ Below w.heap.size w w' := by
  have hn : Qs.length = Rs.length := by
    have := congrArg List.length hM
    simpa using this.symm
  obtain ⟨A1, c1, rfl, C1⟩ := h1.form
  obtain ⟨A2, c2, rfl, C2⟩ := h2.form
  rw [hn]
  have H1 := Lib.hid C1; clear C1
  have H2 := Lib.hid C2; clear C2
  have HE : Hid (∀ k (hk : k < Rs.length) (hk2 : k < Qs.length) W, Below w.heap.size w W → Calls Try.prog 41 #[hdr Rs[k], hdr Qs[k]] W fun e w' => e = .returned (.bool true) ∧ Below W.heap.size W w') := fun k hk hk2 W hb => by
    have hr := List.getElem_mem hk
    have hq := List.getElem_mem hk2
    have e : (Rs[k]).M = (Qs[k]).M := by
      have := congrArg (·[k]?) hM
      simpa [hk, hk2] using this
    have q := eq_ints (some ⟨(Rs[k]).g, 0, none⟩) (some ⟨(Qs[k]).g, 0, none⟩) (Rs[k]).cap (Qs[k]).cap (Rs[k]).M W (intsA_on (intsA_of (h1.row _ hr)) hb) (by rw [e]; exact intsA_on (intsA_of (h2.row _ hq)) hb) (hl _ hr)
    unfold hdr
    rw [← e]
    exact q
  have HN := Lib.hid hn
  clear h1 h2 hM hl hn
  go_enter Try.func17, Try.ntmps17
  go_wp2_with fail
  go_loopw [5] (fun i w' => ∃ k : Nat, k ≤ Rs.length ∧ i = .int .i64 k ∧ Below w.heap.size w w') (fun i _ => Rs.length - (intOf i).toNat)
  case atStart => exact ⟨0, Nat.zero_le _, rfl, Below.refl _ _⟩
  case round =>
    obtain ⟨wo, rfl⟩ : ∃ wo : World, wo = wr := ⟨_, rfl⟩
    obtain ⟨k, hk, rfl, hb⟩ := hrel
    by_cases hlt : k < Rs.length
    · obtain ⟨g1, rfl, hc1⟩ := H1.out k hlt
      obtain ⟨g2, rfl, hc2⟩ := H2.out k (by rw [HN.out]; exact hlt)
      have HK := Lib.hid (fun d os => HE.out k hlt (by rw [HN.out]; exact hlt) (Go.Sort.grow (redrawn wo d) os) (below_on hb (below_regrown wo d os)))
      replace hc1 := cell_on hb rfl hc1
      replace hc2 := cell_on hb rfl hc2
      generalize hdr Rs[k] = x at *
      generalize hdr (Qs[k]'(by rw [HN.out]; exact hlt)) = y at *
      have k1 := cell_regrown hc1; have k3 := cell_regrown hc2
      go_wp2_with fail
      refine wp_region_quiet_below (by kernel_rfl) (by kernel_rfl) ?_
      repeat (first
        | go_big_quiet_step (first | exact Calls.regrown_of (HK.out _ _))
        | quiet_step (first | exact Calls.regrown_of (HK.out _ _)))
      refine wpQuiet_nil ?_
      rintro _ ⟨⟨dq, osq⟩, rfl⟩
      have hb2 := hb.trans ((below_regrown wo dq osq).mono hb.size)
      clear hc1 hc2 k1 k3
      simp only at *
      generalize Go.Sort.grow (redrawn wo dq) osq = w2 at *
      go_wp2_with fail
      go_roundw
      case rel => exact ⟨k + 1, by omega, by go_num, hb2⟩
      case measure => simp [intOf]; omega
    · go_wp2_with fail
      go_ret
      exact ⟨rfl, hb⟩
/-- Marks from s on. -/
def marksS (s : Int) (m : Nat) : List Int := (List.range m).map fun (j : Nat) => s + (j : Int)
theorem marksS_len (s : Int) (m : Nat) : (marksS s m).length = m := by simp [marksS]
theorem marksS_step {s : Int} {j : Nat} {xs : List Value} (hj : j < xs.length) : (ints (marksS s j) ++ xs.drop j).set j (.int .i64 (s + (j : Int))) = ints (marksS s (j + 1)) ++ xs.drop (j + 1) := by
  have h1 : (ints (marksS s j)).length = j := by rw [ints_len, marksS_len]
  have h2 : (xs.drop j).set 0 (.int .i64 (s + (j : Int))) = .int .i64 (s + (j : Int)) :: xs.drop (j + 1) := by
    rw [List.drop_eq_getElem_cons hj]; rfl
  rw [List.set_append_right _ _ (by omega), h1, Nat.sub_self, h2]
  simp [marksS, ints, List.range_succ]
theorem mark_w {s : Int} {k : Nat} (h0 : 0 ≤ s) (h1 : s ≤ 1000000000) (hk : k ≤ 1048576) : wrap64 (s + (k : Int) + 1) = s + ((k + 1 : Nat) : Int) ∧ IntKind.i64.wrap (s + (k : Int) + 1) = s + ((k + 1 : Nat) : Int) := by
  have e : s + (k : Int) + 1 = s + ((k + 1 : Nat) : Int) := by omega
  rw [e]
  exact ⟨IntWalk.wrap64_in _ (by omega), IntWalk.i64_in _ (by omega)⟩
set_option maxRecDepth 100000 in
set_option maxHeartbeats 800000 in
/-- A row is overwritten by its marks from s on. -/
theorem mark_row (B g cap : Nat) (n : Nat) (xs : List Value) (s : Int) (w : World) (hown : w.ownsRow B 3 1 (.slice (some ⟨g, 0, none⟩) n cap) n xs) (hn : n ≤ 1048576) (hs0 : 0 ≤ s) (hs1 : s ≤ 1000000000) :
    Calls Try.prog 42 #[.slice (some ⟨g, 0, none⟩) n cap, .int .i64 s] w fun e w' => e = .returned (.int .i64 (s + (n : Int))) ∧ w'.ownsRow B 3 1 (.slice (some ⟨g, 0, none⟩) n cap) n (ints (marksS s n)) ∧ w.grownBy w' (some g) := by
  have hl : xs.length = n := by have := hown.1; omega
  go_enter Try.func42, Try.ntmps42
  go_wp2_with fail
  go_loopw [1, 5] (fun m i wr => ∃ (k : Nat) (sv : Int), k ≤ n ∧ Hid (sv = s + (k : Int)) ∧ i = .int .i64 k ∧ m = .int .i64 sv ∧ wr.ownsRow B 3 1 (.slice (some ⟨g, 0, none⟩) n cap) n (ints (marksS s k) ++ xs.drop k) ∧ w.grownBy wr (some g)) (fun _ i _ => n - (intOf i).toNat)
  case atStart => exact ⟨0, s, Nat.zero_le _, by show s = s + ((0 : Nat) : Int); omega, rfl, rfl, by simpa [marksS, ints] using hown, World.grownBy.refl _ _⟩
  case round =>
    obtain ⟨k, sv, hk, HS, rfl, rfl, hown', hgr⟩ := hrel
    by_cases hlt : k < n
    · obtain ⟨u1, hc1⟩ := cell_some1 hown' k hlt
      have hf1 := hown'.frozenAt k
      have hs2 := (hown'.stored k (.int .i64 sv)).1
      have hst := marksS_step (s := s) (j := k) (xs := xs) (by omega)
      rw [← HS.out] at hst
      rw [hst] at hs2
      have hg2 := only_set hgr k (.int .i64 sv)
      have R := Lib.hid (And.intro hs2 hg2)
      obtain ⟨f1, f1'⟩ := mark_w (s := s) (k := k) hs0 hs1 (by omega)
      have HS1 : Hid (s + ((k + 1 : Nat) : Int) = sv + 1) := by show _ = _; rw [HS.out]; omega
      rw [← HS.out, HS1.out] at f1 f1'
      have HS2 : Hid (sv + 1 = s + ((k + 1 : Nat) : Int)) := HS1.out.symm
      clear hs2 hst hg2 hown' hgr hown HS1
      go_wp2_with fail
      clear f1 f1'
      go_roundw
      case rel => exact ⟨k + 1, sv + 1, by omega, HS2, by go_num, rfl, R.out.1, R.out.2⟩
      case measure => simp [intOf]; omega
    · obtain rfl : k = n := by omega
      rw [List.drop_of_length_le (by omega), List.append_nil] at hown'
      have R := Lib.hid hown'
      clear hown' hown
      go_wp2_with fail
      go_ret
      exact ⟨by rw [HS.out]; rfl, R.out, hgr⟩
set_option maxRecDepth 100000 in
set_option maxHeartbeats 800000 in
/-- The marks from s on are still there. -/
theorem held_row (B g cap : Nat) (n : Nat) (s : Int) (w : World) (hown : w.ownsRow B 3 1 (.slice (some ⟨g, 0, none⟩) n cap) n (ints (marksS s n))) (hn : n ≤ 1048576) (hs0 : 0 ≤ s) (hs1 : s ≤ 1000000000) :
    Calls Try.prog 43 #[.slice (some ⟨g, 0, none⟩) n cap, .int .i64 s] w fun e w' => e = .returned (.int .i64 (s + (n : Int))) ∧ w' = w := by
  have HC : Hid (∀ j, j < n → w.cell? ⟨g, j, none⟩ = some (.int .i64 (s + (j : Int)))) := fun j hj => (hown.cellAt j (by omega)).trans (by simp [marksS, ints, hj])
  clear hown
  go_enter Try.func43, Try.ntmps43
  go_wp2_with fail
  go_loopw [1, 5] (fun m i wr => ∃ (k : Nat) (sv : Int), k ≤ n ∧ Hid (sv = s + (k : Int)) ∧ i = .int .i64 k ∧ m = .int .i64 sv ∧ wr = w) (fun _ i _ => n - (intOf i).toNat)
  case atStart => exact ⟨0, s, Nat.zero_le _, by show s = s + ((0 : Nat) : Int); omega, rfl, rfl, rfl⟩
  case round =>
    obtain ⟨k, sv, hk, HS, rfl, rfl, rfl⟩ := hrel
    by_cases hlt : k < n
    · have hc1 := HC.out k hlt
      rw [← HS.out] at hc1
      obtain ⟨f1, f1'⟩ := mark_w (s := s) (k := k) hs0 hs1 (by omega)
      have HS1 : Hid (s + ((k + 1 : Nat) : Int) = sv + 1) := by show _ = _; rw [HS.out]; omega
      rw [← HS.out, HS1.out] at f1 f1'
      have HS2 : Hid (sv + 1 = s + ((k + 1 : Nat) : Int)) := HS1.out.symm
      clear HS1
      go_wp2_with fail
      clear f1 f1'
      go_roundw
      case rel => exact ⟨k + 1, sv + 1, by omega, HS2, by go_num, rfl, by first | trivial | rfl⟩
      case measure => simp [intOf]; omega
    · obtain rfl : k = n := by omega
      go_wp2_with fail
      go_ret
      exact ⟨by rw [HS.out]; rfl, rfl⟩
def mkR (q j : Nat) (r : Rw) : Rw := { r with M := marksS (1 + (q : Int) * (j : Int)) q }
/-- The first k rows are overwritten by marks. -/
def mixR (q : Nat) (Rs : List Rw) (k : Nat) : List Rw := Rs.mapIdx fun j r => bif decide (j < k) then mkR q j r else r
theorem mix_len (q : Nat) (Rs : List Rw) (k : Nat) : (mixR q Rs k).length = Rs.length := by simp [mixR]
theorem mix_get {q : Nat} {Rs : List Rw} {k j : Nat} (hj : j < (mixR q Rs k).length) : (mixR q Rs k)[j] = bif decide (j < k) then mkR q j (Rs[j]'(by rwa [mix_len] at hj)) else (Rs[j]'(by rwa [mix_len] at hj)) := by
  simp [mixR]
theorem mix_zero (q : Nat) (Rs : List Rw) : mixR q Rs 0 = Rs := by
  refine List.ext_getElem (mix_len _ _ _) fun j h1 h2 => ?_
  rw [mix_get]; rfl
theorem mix_g (q : Nat) (Rs : List Rw) (k : Nat) : (mixR q Rs k).map Rw.g = Rs.map Rw.g := by
  refine List.ext_getElem (by simp [mix_len]) fun j h1 h2 => ?_
  rw [List.getElem_map, List.getElem_map, mix_get]
  cases decide (j < k) <;> rfl
theorem mix_hdr {q : Nat} {Rs : List Rw} (hq : ∀ r ∈ Rs, r.M.length = q) (k : Nat) : (mixR q Rs k).map hdr = Rs.map hdr := by
  refine List.ext_getElem (by simp [mix_len]) fun j h1 h2 => ?_
  rw [List.getElem_map, List.getElem_map, mix_get]
  have := hq _ (List.getElem_mem (l := Rs) (n := j) (by simpa using h2))
  cases decide (j < k)
  · rfl
  · simp only [cond_true, hdr, mkR, marksS_len]
    rw [this]
theorem g_inj {Rs : List Rw} (h : (Rs.map Rw.g).Nodup) {i j : Nat} (hi : i < Rs.length) (hj : j < Rs.length) (e : (Rs[i]).g = (Rs[j]).g) : i = j := by
  have h1 : i < (Rs.map Rw.g).length := by simpa using hi
  have h2 : j < (Rs.map Rw.g).length := by simpa using hj
  exact (List.getElem_inj (h₀ := h1) (h₁ := h2) h).1 (by simpa using e)
theorem mix_step {w w' : World} {B : Nat} {v : Value} {Rs : List Rw} {q k : Nat} (hq : ∀ r ∈ Rs, r.M.length = q) (hk : k < Rs.length) (h : RowsR w B v (mixR q Rs k))
    (ho : w'.ownsRow B 3 1 (.slice (some ⟨(Rs[k]).g, 0, none⟩) q (Rs[k]).cap) q (ints (marksS (1 + (q : Int) * (k : Int)) q))) (hg : w.grownBy w' (some (Rs[k]).g)) : RowsR w' B v (mixR q Rs (k + 1)) := by
  have hlen := mix_len q Rs k
  have hkm : (mixR q Rs k)[k]'(by omega) = Rs[k] := by rw [mix_get]; simp
  have hfar : v.ownBlock ≠ some (Rs[k]).g := by
    have := h.far _ (List.getElem_mem (l := mixR q Rs k) (n := k) (by omega))
    rwa [hkm] at this
  have hnd : (Rs.map Rw.g).Nodup := by have := h.nodup; rwa [mix_g] at this
  refine ⟨?_, ?_, ?_, by rw [mix_g]; exact hnd⟩
  · have o := h.out.kept hg (by
      cases hv : v.ownBlock with
      | none => exact .inl rfl
      | some b => exact .inr (fun e => hfar (by rw [hv, ← e])))
    rw [mix_hdr hq, mix_len] at o
    rw [mix_hdr hq, mix_len]
    exact o
  · intro r hr
    obtain ⟨j, hj, rfl⟩ := List.getElem_of_mem hr
    have hj' : j < Rs.length := by rwa [mix_len] at hj
    by_cases e : j = k
    · subst e
      rw [mix_get, decide_eq_true (Nat.lt_succ_self j), cond_true]
      show w'.ownsRow B 3 1 (.slice (some ⟨(Rs[j]).g, 0, none⟩) (marksS _ q).length (Rs[j]).cap) (marksS _ q).length _
      rw [marksS_len]
      exact ho
    · have hd : decide (j < k + 1) = decide (j < k) := by
        rw [decide_eq_decide]; omega
      have hs : (mixR q Rs (k + 1))[j] = (mixR q Rs k)[j]'(by omega) := by rw [mix_get, mix_get, hd]
      rw [hs]
      have o := h.row _ (List.getElem_mem (l := mixR q Rs k) (n := j) (by omega))
      refine o.kept hg (.inr fun e2 => e (g_inj hnd hj' hk ?_))
      have e3 : ((mixR q Rs k)[j]'(by omega)).g = (Rs[j]).g := by rw [mix_get]; cases decide (j < k) <;> rfl
      rw [hdr_own, e3] at e2
      exact Option.some.inj e2
  · intro r hr
    obtain ⟨j, hj, rfl⟩ := List.getElem_of_mem hr
    have := h.far _ (List.getElem_mem (l := mixR q Rs k) (n := j) (by rw [mix_len] at hj ⊢; exact hj))
    have e3 : ((mixR q Rs k)[j]'(by rw [mix_len] at hj ⊢; exact hj)).g = ((mixR q Rs (k + 1))[j]).g := by
      rw [mix_get, mix_get]; cases decide (j < k) <;> cases decide (j < k + 1) <;> rfl
    rwa [e3] at this
theorem mix_all (q : Nat) (Rs : List Rw) {r : Rw} (h : r ∈ mixR q Rs Rs.length) : ∃ j, ∃ hj : j < Rs.length, r = mkR q j Rs[j] := by
  obtain ⟨j, hj, rfl⟩ := List.getElem_of_mem h
  have hj' : j < Rs.length := by rwa [mix_len] at hj
  exact ⟨j, hj', by rw [mix_get, decide_eq_true hj']; rfl⟩
theorem row_w {q k n : Nat} (hq : q ≤ 1000) (hk : k ≤ n) (hn : n ≤ 1000) : 0 ≤ 1 + (q : Int) * (k : Int) ∧ 1 + (q : Int) * (k : Int) ≤ 1000000000 := by
  have h : q * k ≤ 1000 * 1000 := Nat.mul_le_mul hq (Nat.le_trans hk hn)
  have e : (q : Int) * (k : Int) = ((q * k : Nat) : Int) := by simp
  rw [e]; omega
theorem row_nx (q k : Nat) : 1 + (q : Int) * (k : Int) + (q : Int) = 1 + (q : Int) * ((k + 1 : Nat) : Int) := by
  rw [Int.natCast_add, Int.mul_add]; simp; omega
theorem k_w {k n : Nat} (hk : k ≤ n) (hn : n ≤ 1000) : wrap64 ((k : Int) + 1) = (k : Int) + 1 ∧ IntKind.i64.wrap ((k : Int) + 1) = (k : Int) + 1 := ⟨IntWalk.wrap64_in _ (by omega), IntWalk.i64_in _ (by omega)⟩
/-- Nothing of what lay has changed but the rows. -/
structure ButRows (Rs : List Rw) (w w' : World) : Prop where
  os : w'.os = w.os
  tape : w'.tape = w.tape
  output : w'.output = w.output
  size : w.heap.size ≤ w'.heap.size
  block : ∀ j, j < w.heap.size → (∀ r ∈ Rs, r.g ≠ j) → w'.heap[j]? = w.heap[j]?
theorem ButRows.refl (Rs : List Rw) (w : World) : ButRows Rs w w := ⟨rfl, rfl, rfl, Nat.le_refl _, fun _ _ _ => rfl⟩
theorem ButRows.step {Rs : List Rw} {w a b : World} {g : Nat} (h : ButRows Rs w a) (hg : a.grownBy b (some g)) (hn : ∀ j, (∀ r ∈ Rs, r.g ≠ j) → g ≠ j) : ButRows Rs w b :=
  ⟨hg.os.trans h.os, hg.tape.trans h.tape, hg.output.trans h.output, Nat.le_trans h.size hg.size, fun j hj hr => (hg.block j (Nat.lt_of_lt_of_le hj h.size) (fun e => hn j hr (Option.some.inj e).symm)).trans (h.block j hj hr)⟩
theorem ButRows.below {Rs : List Rw} {w a b : World} {B : Nat} (h : ButRows Rs a b) (hb : Below B w a) (hB : B ≤ a.heap.size) (hr : ∀ r ∈ Rs, B ≤ r.g) : Below B w b :=
  ⟨h.os.trans hb.os, h.tape.trans hb.tape, h.output.trans hb.output, Nat.le_trans hb.size h.size, fun j hj => (h.block j (Nat.lt_of_lt_of_le hj hB) (fun r hrr e => by have := hr r hrr; omega)).trans (hb.block j hj)⟩
/-- Another slice of the call's own, whose block is no row's. -/
theorem ButRows.own {Rs : List Rw} {w w' : World} {B size n : Nat} {e : TypeId} {v : Value} {xs : List Value} (h : ButRows Rs w w') (ho : w.ownsRow B e size v n xs) (hf : ∀ r ∈ Rs, v.ownBlock ≠ some r.g) : w'.ownsRow B e size v n xs := by
  refine ⟨ho.1, ?_⟩
  rcases ho.2 with hn | ⟨g, cap, cur, rfl, hb, hgg, rest⟩
  · exact .inl hn
  · refine .inr ⟨g, cap, cur, rfl, hb, ?_, rest⟩
    exact (h.block g (Array.getElem?_eq_some_iff.1 hgg).1 (fun r hr e => hf r hr (by rw [e]; rfl))).trans hgg
set_option maxRecDepth 100000 in
set_option maxHeartbeats 800000 in
/-- Every row is overwritten by its marks. -/
theorem mark_rows (B : Nat) (v : Value) (Rs : List Rw) (q : Nat) (w : World) (h : RowsR w B v Rs) (hq : ∀ r ∈ Rs, r.M.length = q) (hq1 : q ≤ 1000) (hn : Rs.length ≤ 1000) :
    Calls Try.prog 20 #[v, .int .i64 1] w fun e w' => e = .returned (.int .i64 (1 + (q : Int) * (Rs.length : Int))) ∧ RowsR w' B v (mixR q Rs Rs.length) ∧ ButRows Rs w w' := by
  obtain ⟨A, c, rfl, -⟩ := h.form
  have HQ := Lib.hid hq
  have HH := Lib.hid h
  clear h hq
  go_enter Try.func20, Try.ntmps20
  go_wp2_with fail
  go_loopw [1, 5] (fun m i wr => ∃ (k : Nat) (sv : Int), k ≤ Rs.length ∧ Hid (sv = 1 + (q : Int) * (k : Int)) ∧ i = .int .i64 k ∧ m = .int .i64 sv ∧ Hid (RowsR wr B (.slice A Rs.length c) (mixR q Rs k)) ∧ Hid (ButRows Rs w wr)) (fun _ i _ => Rs.length - (intOf i).toNat)
  case atStart => exact ⟨0, 1, Nat.zero_le _, by show (1 : Int) = 1 + (q : Int) * ((0 : Nat) : Int); simp, rfl, rfl, by show RowsR _ _ _ _; rw [mix_zero]; exact HH.out, ButRows.refl _ _⟩
  case round =>
    obtain ⟨wo, rfl⟩ : ∃ wo : World, wo = wr := ⟨_, rfl⟩
    obtain ⟨k, sv, hk, HS, rfl, rfl, HR, HK⟩ := hrel
    by_cases hlt : k < Rs.length
    · obtain ⟨A', c', hv, hcell⟩ := HR.out.form
      simp only [Value.slice.injEq] at hv
      obtain ⟨rfl, hl, rfl⟩ := hv
      obtain ⟨g, rfl, hc⟩ := hcell k (by rw [mix_len]; exact hlt)
      have hkm : (mixR q Rs k)[k]'(by rw [mix_len]; exact hlt) = Rs[k] := by rw [mix_get]; simp
      rw [hkm] at hc
      have hrow := HR.out.row _ (List.getElem_mem (l := mixR q Rs k) (n := k) (by rw [mix_len]; exact hlt))
      rw [hkm] at hrow
      have hql := HQ.out _ (List.getElem_mem hlt)
      obtain ⟨w0, w1⟩ := row_w hq1 hk hn
      have hx : hdr Rs[k] = .slice (some ⟨(Rs[k]).g, 0, none⟩) q (Rs[k]).cap := by unfold hdr; rw [hql]
      rw [hx] at hc hrow
      rw [hql] at hrow
      have HM := Lib.hid (mark_row B (Rs[k]).g (Rs[k]).cap q _ sv wo hrow (by omega) (by rw [HS.out]; exact w0) (by rw [HS.out]; exact w1))
      have HST : Hid (∀ w', w'.ownsRow B 3 1 (.slice (some ⟨(Rs[k]).g, 0, none⟩) q (Rs[k]).cap) q (ints (marksS sv q)) → wo.grownBy w' (some (Rs[k]).g) → RowsR w' B (.slice (some ⟨g, 0, none⟩) Rs.length c) (mixR q Rs (k + 1))) := fun w' ho hg => mix_step HQ.out hlt HR.out (by rw [← HS.out]; exact ho) hg
      have HIN : Hid (∀ j, (∀ r ∈ Rs, r.g ≠ j) → (Rs[k]).g ≠ j) := fun j hh => hh _ (List.getElem_mem hlt)
      obtain ⟨f1, f1'⟩ := k_w hk hn
      have HS1 : Hid (sv + (q : Int) = 1 + (q : Int) * ((k + 1 : Nat) : Int)) := by show _ = _; rw [HS.out, row_nx]
      clear hrow hkm hcell hql hx w0 w1 hl
      generalize (Rs[k]).g = gk at *
      generalize (Rs[k]).cap = ck at *
      go_wp2_with fail
      refine HM.out.mono ?_
      rintro e w2 ⟨rfl, ho, hg⟩
      have R2 := Lib.hid (HST.out w2 ho hg)
      have K2 := Lib.hid (HK.out.step hg HIN.out)
      clear ho hg hc
      go_wp2_with fail
      clear f1 f1'
      go_roundw
      case rel => exact ⟨k + 1, sv + (q : Int), by omega, HS1, by go_num, rfl, R2, K2⟩
      case measure => simp [intOf]; omega
    · obtain rfl : k = Rs.length := by omega
      go_wp2_with fail
      go_ret
      exact ⟨by rw [HS.out]; rfl, HR.out, HK.out⟩
set_option maxRecDepth 100000 in
set_option maxHeartbeats 800000 in
/-- The marks are still there. -/
theorem held_rows (B : Nat) (v : Value) (Rs : List Rw) (q : Nat) (w : World) (h : RowsR w B v (mixR q Rs Rs.length)) (hq1 : q ≤ 1000) (hn : Rs.length ≤ 1000) :
    Calls Try.prog 21 #[v, .int .i64 1] w fun e w' => e = .returned (.int .i64 (1 + (q : Int) * (Rs.length : Int))) ∧ w' = w := by
  obtain ⟨A, c, rfl, hcell⟩ := h.form
  have HH := Lib.hid h
  have HC := Lib.hid hcell
  rw [mix_len]
  clear h hcell
  go_enter Try.func21, Try.ntmps21
  go_wp2_with fail
  go_loopw [1, 5] (fun m i wr => ∃ (k : Nat) (sv : Int), k ≤ Rs.length ∧ Hid (sv = 1 + (q : Int) * (k : Int)) ∧ i = .int .i64 k ∧ m = .int .i64 sv ∧ wr = w) (fun _ i _ => Rs.length - (intOf i).toNat)
  case atStart => exact ⟨0, 1, Nat.zero_le _, by show (1 : Int) = 1 + (q : Int) * ((0 : Nat) : Int); simp, rfl, rfl, rfl⟩
  case round =>
    obtain ⟨k, sv, hk, HS, rfl, rfl, rfl⟩ := hrel
    by_cases hlt : k < Rs.length
    · obtain ⟨g, rfl, hc⟩ := HC.out k (by rw [mix_len]; exact hlt)
      have hkm : (mixR q Rs Rs.length)[k]'(by rw [mix_len]; exact hlt) = mkR q k Rs[k] := by rw [mix_get, decide_eq_true hlt]; rfl
      rw [hkm] at hc
      have hrow := HH.out.row _ (List.getElem_mem (l := mixR q Rs Rs.length) (n := k) (by rw [mix_len]; exact hlt))
      rw [hkm] at hrow
      obtain ⟨w0, w1⟩ := row_w hq1 hk hn
      have hx : hdr (mkR q k Rs[k]) = .slice (some ⟨(Rs[k]).g, 0, none⟩) q (Rs[k]).cap := by simp [hdr, mkR, marksS_len]
      have hml : (mkR q k Rs[k]).M.length = q := marksS_len _ _
      rw [hx] at hc hrow
      rw [hml] at hrow
      have HM := Lib.hid (held_row B (Rs[k]).g (Rs[k]).cap q sv wr (by rw [HS.out]; exact hrow) (by omega) (by rw [HS.out]; exact w0) (by rw [HS.out]; exact w1))
      obtain ⟨f1, f1'⟩ := k_w hk hn
      have HS1 : Hid (sv + (q : Int) = 1 + (q : Int) * ((k + 1 : Nat) : Int)) := by show _ = _; rw [HS.out, row_nx]
      have hnn : decide (sv + (q : Int) < 0) = false := decide_eq_false (by rw [HS.out]; omega)
      have hnn' : ¬ sv + (q : Int) < 0 := by rw [HS.out]; omega
      clear hrow hkm hx hml w0 w1
      generalize (Rs[k]).g = gk at *
      generalize (Rs[k]).cap = ck at *
      go_wp2_with fail
      refine HM.out.mono ?_
      rintro e w2 ⟨rfl, rfl⟩
      clear hc
      go_wp2_with fail
      clear f1 f1' hnn hnn'
      go_roundw
      case rel => exact ⟨k + 1, sv + (q : Int), by omega, HS1, by go_num, rfl, by first | trivial | rfl⟩
      case measure => simp [intOf]; omega
    · obtain rfl : k = Rs.length := by omega
      go_wp2_with fail
      go_ret
      exact ⟨by rw [HS.out]; rfl, rfl⟩
end Go.Proofs.Ytoemmaeglhdjnaa
