/-
  ParseShape of the model.
-/
import Derived.Test.YtimkknljoeiceaaPar8b
namespace Go.Proofs.Ytimkknljoeiceaa
open Go.RowKit

def noShape : Value := .tuple #[.int .i64 0, .int .i64 0, .int .i64 0, .bool false]
def parV (s : ByteArray) : Value := if goodB (splitB s slash) = true then .tuple #[.int .i64 (parA (splitB s slash) : Nat), .int .i64 ((splitB s slash).length : Nat), .int .i64 (parM (splitB s slash) : Nat), .bool true] else noShape
theorem par_no {s : ByteArray} (h : goodB (splitB s slash) = false) : parV s = noShape := by unfold parV; rw [if_neg (by simp [h])]
def ParP (s : ByteArray) (W : World) (e : Ending) (w' : World) : Prop := e = .returned (parV s) ∧ Below W.heap.size W w'
theorem bad_size {R : List ByteArray} {y : Nat} (hy : y < R.length) (h : ¬ (R[y]).size = parA R) : goodB R = false := by
  cases hg : goodB R
  · rfl
  · exact absurd (rowsB_at (good_parts hg).2.2 hy).1 h
theorem bad_char {R : List ByteArray} {y : Nat} (hy : y < R.length) {c : UInt8} (hc : c ∈ (R[y]).data.toList) (h1 : ¬ c = 35) (h2 : ¬ c = 46) : goodB R = false := by
  cases hg : goodB R
  · rfl
  · rcases (rowsB_at (good_parts hg).2.2 hy).2 c hc with h | h
    · exact absurd h h1
    · exact absurd h h2
def RowOk (a : Nat) (r : ByteArray) : Prop := r.size = a ∧ ∀ c ∈ r.data.toList, c = 35 ∨ c = 46
theorem all_good {R : List ByteArray} (ha : inB (parA R) 1 6 = true) (hb : inB R.length 1 6 = true) (h : ∀ y (hy : y < R.length), RowOk (parA R) (R[y])) : goodB R = true := by
  unfold goodB
  rw [ha, hb]
  simp only [Bool.true_and]
  unfold rowsB
  rw [List.all_eq_true]
  intro r hr
  obtain ⟨y, hy, rfl⟩ := List.getElem_of_mem hr
  simp only [Bool.and_eq_true, decide_eq_true_eq, List.all_eq_true]
  refine ⟨(h y hy).1, fun c hc => ?_⟩
  rcases (h y hy).2 c hc with e | e
  · rw [e]; rfl
  · rw [e]; rfl
theorem ofF_next (F : Nat → Bool) (k : Nat) : ofF F (k + 1) = if F k then ofF F k + 2 ^ k else ofF F k := by
  simp only [ofF]
  cases F k
  · rfl
  · simp only [if_true]
    rw [add_two_pow]
    exact Nat.testBit_lt_two_pow (ofF_lt F k)
theorem flag_at {R : List ByteArray} {y x : Nat} (hy : y < R.length) (hx : x < (R[y]).size) (ha : x < parA R) : flagP R (y * parA R + x) = ((R[y])[x]'hx == 35) := by
  obtain ⟨q1, q2⟩ := row_col (show 0 < parA R by omega) ha (rfl : y * parA R + x = y * parA R + x)
  unfold flagP
  rw [q1, q2, getD_lt hy, List.getD_eq_getElem?_getD, List.getElem?_eq_getElem (by rw [data_len]; exact hx)]
  rfl
set_option maxRecDepth 100000 in
set_option maxHeartbeats 2000000 in
theorem spec_parse8 (s : ByteArray) (W : World) (hs : s.size ≤ 1048576) : Calls Try.prog 43 #[.string s] W (ParP s W) := by
  by_cases h50 : (50 : Int) < (s.size : Int)
  · have R : Hid (∀ w', Below W.heap.size W w' → ParP s W (.returned noShape) w') := fun w' hb => by
      refine ⟨?_, hb⟩
      cases hg : goodB (splitB s slash)
      · rw [par_no hg]
      · have := good_size hg
        omega
    go_enter Try.func43, Try.ntmps43
    go_wp2_with fail
    refine bodyPost_ret (v := noShape) (by simp [results, Try.results43, go_sem, noShape]) rfl ?_
    exact R.out _ (Below.refl _ _)
  have HSP := Lib.hid (spec_split s slash W hs (by decide))
  have hpos := splitS_pos s
  have hlen := splitB_len s slash
  have HPV : Hid (∀ w', goodB (splitB s slash) = false → Below W.heap.size W w' → ParP s W (.returned noShape) w') := fun w' hg hb => ⟨by rw [par_no hg], hb⟩
  have HPY : Hid (∀ w', goodB (splitB s slash) = true → Below W.heap.size W w' → ParP s W (.returned (.tuple #[.int .i64 (parA (splitB s slash) : Nat), .int .i64 ((splitB s slash).length : Nat), .int .i64 (parM (splitB s slash) : Nat), .bool true])) w') := fun w' hg hb => ⟨by unfold parV; rw [if_pos hg], hb⟩
  have HRZ := Lib.hid (fun y (hy : y < (splitB s slash).length) => show ((splitB s slash)[y]).size ≤ 1048576 by
    have h1 := rows_size s
    have h2 := tots_succ hy
    have h3 := tots_mono (splitB s slash) (show y + 1 ≤ (splitB s slash).length by omega)
    have h4 := splitS_pos s
    omega)
  have hslash : slash = ⟨#[47]⟩ := rfl
  rw [hslash] at HSP
  generalize hR : splitB s slash = R at *
  rw [hslash] at hR
  rw [hR] at HSP
  generalize ParP s W = PP at *
  clear hR hslash
  obtain ⟨a, ha⟩ : ∃ a, a = parA R := ⟨_, rfl⟩
  have HAQ := Lib.hid ha
  have HA0 : Hid ((R[0]).size = a) := by
    show _ = _
    rw [ha, parA, getD_lt hpos]
  clear ha
  go_enter Try.func43, Try.ntmps43
  go_wp2_with fail
  refine HSP.out.mono ?_
  rintro e w1 ⟨v1, rfl, own1, b1⟩
  obtain ⟨_, A1, c1, rfl, p1⟩ := own_strs own1
  obtain ⟨g1, rfl, d0⟩ := p1 0 hpos
  have HP := Lib.hid p1
  obtain ⟨r0, hr0⟩ : ∃ r0, r0 = R[0] := ⟨_, rfl⟩
  rw [← hr0] at d0
  have hrz := HRZ.out 0 hpos
  have ha0 := HA0.out
  rw [← hr0] at hrz ha0
  clear p1 own1 hr0
  have HA36 := Lib.hid (And.intro HAQ.out hpos)
  cases hia : inB (a : Int) 1 6
  · have R2 := Lib.hid (HPV.out w1 (by unfold goodB; rw [← HAQ.out, hia]; rfl) b1)
    go_wp2_with fail
    refine (in_any _ _ _ _).mono ?_
    rintro e w2 ⟨rfl, rfl⟩
    rw [hia]
    go_wp2_with fail
    refine bodyPost_ret (v := noShape) (by simp [results, Try.results43, go_sem, noShape]) rfl ?_
    exact R2.out
  cases hib : inB (R.length : Int) 1 6
  · have R2 := Lib.hid (HPV.out w1 (by unfold goodB; rw [← HAQ.out, hia, hib]; rfl) b1)
    go_wp2_with fail
    refine (in_any _ _ _ _).mono ?_
    rintro e w2 ⟨rfl, rfl⟩
    rw [hia]
    go_wp2_with fail
    refine (in_any _ _ _ _).mono ?_
    rintro e w2 ⟨rfl, rfl⟩
    rw [hib]
    go_wp2_with fail
    refine bodyPost_ret (v := noShape) (by simp [results, Try.results43, go_sem, noShape]) rfl ?_
    exact R2.out
  have ia := inB_spec.1 hia
  have ib := inB_spec.1 hib
  have HIN := Lib.hid (And.intro hia hib)
  have HFN := Lib.hid (ofF_next (flagP R))
  have HFL := Lib.hid (ofF_lt (flagP R))
  go_wp2_with fail
  refine (in_any _ _ _ _).mono ?_
  rintro e w2 ⟨rfl, rfl⟩
  rw [hia]
  go_wp2_with fail
  refine (in_any _ _ _ _).mono ?_
  rintro e w2 ⟨rfl, rfl⟩
  rw [hib]
  go_wp2_with fail
  clear hia hib d0 ha0 hrz hpos HSP HA0
  go_loop [9, 10, 11, 12, 34] (fun t _ _ _ i => ∃ y m : Nat, y ≤ R.length ∧ i = .int .i64 y ∧ t = .int .i64 m ∧ Hid (m = ofF (flagP R) (y * a) ∧ ∀ q (hq : q < R.length), q < y → RowOk a (R[q]))) (fun _ _ _ _ i => R.length - (intOf i).toNat)
  case atStart => exact ⟨0, 0, Nat.zero_le _, rfl, rfl, ⟨by rw [Nat.zero_mul]; rfl, fun q _ hq => by omega⟩⟩
  case round =>
    obtain ⟨y, m, hy, rfl, rfl, HM⟩ := hrel
    by_cases hlt : y < R.length
    · obtain ⟨g1', e1, d1⟩ := HP.out y hlt
      have e2 : g1' = g1 := by simpa using e1.symm
      subst e2
      obtain ⟨r, hr⟩ : ∃ r, r = R[y] := ⟨_, rfl⟩
      rw [← hr] at d1
      have hrz := HRZ.out y hlt
      rw [← hr] at hrz
      have HR := Lib.hid hr
      clear e1 hr
      by_cases hsz : r.size = a
      · have HSZ := Lib.hid hsz
        obtain ⟨q, hq⟩ : ∃ q, q = y * a := ⟨_, rfl⟩
        have hqi : (y : Int) * (a : Int) = (q : Int) := by rw [hq, Int.natCast_mul]
        have hq36 : q + a ≤ 36 := by
          have h1 : (y + 1) * a ≤ 6 * 6 := Nat.mul_le_mul (by omega) (by omega)
          rw [Nat.add_mul, Nat.one_mul] at h1
          omega
        have H0 : Hid (m = ofF (flagP R) (q + 0) ∧ ∀ j (hj : j < r.size), j < 0 → r[j] = 35 ∨ r[j] = 46) := ⟨by rw [Nat.add_zero, hq]; exact HM.out.1, fun j _ hj => by omega⟩
        have HQ := Lib.hid hq
        clear hq
        go_wp2_with fail
        go_loop [9, 12, 51, 61] (fun t i _ _ => ∃ x m : Nat, x ≤ a ∧ i = .int .i64 x ∧ t = .int .i64 m ∧ Hid (m = ofF (flagP R) (q + x) ∧ ∀ j (hj : j < r.size), j < x → r[j] = 35 ∨ r[j] = 46)) (fun _ i _ _ => a - (intOf i).toNat)
        case atStart => exact ⟨0, m, Nat.zero_le _, rfl, rfl, H0⟩
        case round =>
          clear H0
          obtain ⟨x, m, hx, rfl, rfl, HX⟩ := hrel
          by_cases hlx : x < a
          · have hxr : x < r.size := by have := HSZ.out; omega
            obtain ⟨c, hc⟩ : ∃ c : UInt8, r[x]'hxr = c := ⟨_, rfl⟩
            have hfl : flagP R (q + x) = (c == 35) := by
              have h1 := flag_at (R := R) hlt (x := x) (by rw [← HR.out]; exact hxr) (by rw [← HAQ.out]; exact hlx)
              rw [← HAQ.out, ← HQ.out] at h1
              rw [h1, ← hc]
              congr 1
              simp only [HR.out]
            have hmem : c ∈ r.data.toList := by rw [← hc]; exact mem_at hxr
            have hm : m < 68719476736 := by
              rw [HX.out.1]
              exact Nat.lt_of_lt_of_le (HFL.out _) (two_le36 (by omega))
            have hnx := HFN.out (q + x)
            have hkx : ((q : Int) + (x : Int)).toNat = q + x := by omega
            obtain ⟨p, hp, hp2, hp3⟩ := pow_nat (q + x) (by omega)
            by_cases h35 : c = 35
            · have HX2 : Hid (m + p = ofF (flagP R) (q + (x + 1)) ∧ ∀ j (hj : j < r.size), j < x + 1 → r[j] = 35 ∨ r[j] = 46) := by
                refine ⟨?_, fun j hj hjx => ?_⟩
                · rw [← Nat.add_assoc, hnx, hfl, h35, HX.out.1, hp2]; rfl
                · by_cases e : j = x
                  · subst e; exact .inl (hc.trans h35)
                  · exact HX.out.2 j hj (by omega)
              have hm2 : m + p < 68719476736 := by
                rw [HX2.out.1]
                exact Nat.lt_of_lt_of_le (HFL.out _) (two_le36 (by omega))
              have hq1 : ((c.toNat : Int) == 35) = true := by rw [h35]; rfl
              clear hfl hmem hnx HX hp2 h35
              generalize q + x = qx at *
              go_wp2_with fail
              go_round
              case rel => exact ⟨x + 1, m + p, by omega, by go_num, by go_num, HX2⟩
              case measure => simp [intOf]; omega
            by_cases h46 : c = 46
            · have HX2 : Hid (m = ofF (flagP R) (q + (x + 1)) ∧ ∀ j (hj : j < r.size), j < x + 1 → r[j] = 35 ∨ r[j] = 46) := by
                refine ⟨?_, fun j hj hjx => ?_⟩
                · rw [← Nat.add_assoc, hnx, hfl, h46, HX.out.1]; rfl
                · by_cases e : j = x
                  · subst e; exact .inr (hc.trans h46)
                  · exact HX.out.2 j hj (by omega)
              have hq1 : ((c.toNat : Int) == 35) = false := by rw [h46]; rfl
              have hq2 : ((c.toNat : Int) == 46) = true := by rw [h46]; rfl
              clear hfl hmem hnx HX hp2 h35 h46 hp hkx
              go_wp2_with fail
              go_round
              case rel => exact ⟨x + 1, m, by omega, by go_num, rfl, HX2⟩
              case measure => simp [intOf]; omega
            · have R2 := Lib.hid (HPV.out w2 (bad_char hlt (by rw [← HR.out]; exact hmem) h35 h46) b1)
              have hq1 : ((c.toNat : Int) == 35) = false := by
                rw [beq_eq_false_iff_ne]
                intro e
                exact h35 (UInt8.toNat_inj.1 (by show c.toNat = 35; omega))
              have hq2 : ((c.toNat : Int) == 46) = false := by
                rw [beq_eq_false_iff_ne]
                intro e
                exact h46 (UInt8.toNat_inj.1 (by show c.toNat = 46; omega))
              clear hfl hmem hnx HX hp2 h35 h46 hp hkx
              go_wp2_with fail
              refine bodyPost_ret (v := noShape) (by simp [results, Try.results43, go_sem, noShape]) rfl ?_
              exact R2.out
          · obtain rfl : x = a := by omega
            have HM2 : Hid (m = ofF (flagP R) ((y + 1) * x) ∧ ∀ q (hq : q < R.length), q < y + 1 → RowOk x (R[q])) := by
              refine ⟨by rw [Nat.add_mul, Nat.one_mul, ← HQ.out]; exact HX.out.1, fun j hj hjy => ?_⟩
              by_cases e : j = y
              · subst e
                refine ⟨by rw [← HR.out]; exact HSZ.out, fun c hc => ?_⟩
                rw [← HR.out] at hc
                obtain ⟨k, hk, e⟩ := at_mem hc
                have := HX.out.2 k hk (by have := HSZ.out; omega)
                rw [e] at this
                exact this
              · exact HM.out.2 j hj (by omega)
            clear HX
            go_wp2_with fail
            go_round
            case rel => exact ⟨y + 1, m, by omega, by go_num, rfl, HM2⟩
            case measure => simp [intOf]; omega
      · have R2 := Lib.hid (HPV.out w2 (bad_size hlt (by rw [← HR.out, ← HAQ.out]; exact hsz)) b1)
        have hne : ((r.size : Int) == (a : Int)) = false := by rw [beq_eq_false_iff_ne]; omega
        clear hsz HM
        go_wp2_with fail
        refine bodyPost_ret (v := noShape) (by simp [results, Try.results43, go_sem, noShape]) rfl ?_
        exact R2.out
    · obtain rfl : y = R.length := by omega
      have hg : goodB R = true := all_good (by rw [← HAQ.out]; exact HIN.out.1) HIN.out.2 (fun q hq => by rw [← HAQ.out]; exact HM.out.2 q hq hq)
      have hmm : m = parM R := by
        rw [HM.out.1, Nat.mul_comm, HAQ.out]; rfl
      have R2 := Lib.hid (HPY.out w2 hg b1)
      rw [← hmm, ← HAQ.out] at R2
      clear HM hg hmm
      go_wp2_with fail
      refine bodyPost_ret (v := .tuple #[.int .i64 a, .int .i64 R.length, .int .i64 m, .bool true]) (by simp [results, Try.results43, go_sem]) rfl ?_
      exact R2.out
end Go.Proofs.Ytimkknljoeiceaa
