/-
  Walks for spec.ParseInt, impl.ParseInt and the law FnExactParseInt.
-/
import Derived.Test.YtaaffhiechhbaaaDoorDig
import Derived.Test.YtaaffhiechhbaaaDoorNum
import Derived.Test.YtaaffhiechhbaaaDoorFmtLaw
namespace Go.Proofs.YtaaffhiechhbaaaDoor
open Go.RowKit

/-- What a reading of s ends with: its int and true, or 0 and false. -/
def ParseOut (s : ByteArray) (w : World) (e : Ending) (w' : World) : Prop :=
  ((∃ n, Reads10 s.data.toList n ∧ e = .returned (.tuple #[.int .i64 n, .bool true])) ∨ ((∀ n, ¬ Reads10 s.data.toList n) ∧ e = .returned (.tuple #[.int .i64 0, .bool false]))) ∧ Below w.heap.size w w'

theorem data_head {s : ByteArray} (h : 0 < s.size) : s.data.toList.head? = some s[0] := by
  rw [List.head?_eq_getElem?]
  have hl : 0 < s.data.toList.length := by rw [Array.length_toList]; exact h
  rw [List.getElem?_eq_getElem hl]; rfl
theorem data_tail (s : ByteArray) : (s.extract 1 s.size).data.toList = s.data.toList.drop 1 := by
  rw [Lib.extract_data]
  rw [List.take_of_length_le]
  rw [List.length_drop, Array.length_toList]; exact Nat.le_refl _
theorem size_data (s : ByteArray) : s.data.toList.length = s.size := Array.length_toList

theorem digB_dec {t : ByteArray} {u : Nat} (h : t.data.toList = Lib.decDigits u) : digB t = true := by
  have h1 : 0 < t.size := by
    rw [← size_data, h]
    exact List.length_pos_iff.2 (dec_ne u)
  have h2 : t.data.toList.all isDig = true := by
    rw [h, List.all_eq_true]
    intro c hc
    have := dec_digits u u (Nat.le_refl _) c hc
    exact isDig_true (by omega) (by omega)
  simp [digB, h1, h2]
theorem digB_at {t : ByteArray} (h : digB t = true) {k : Nat} (hk : k < t.size) : 48 ≤ (t[k].toNat : Int) ∧ (t[k].toNat : Int) ≤ 57 := by
  have h2 : t.data.toList.all isDig = true := by
    unfold digB at h
    exact (Bool.and_eq_true_iff.1 h).2
  exact (isDig_iff _).1 (List.all_eq_true.1 h2 _ (mem_at hk))

theorem digB_zero {s : ByteArray} (h : ¬ 0 < s.size) : digB s = false := by simp [digB]; omega

/-- A text that starts with a minus sign. -/
theorem shape_neg {s : ByteArray} {n : Int} (h0 : 0 < s.size) (hm : s[0] = 45) (h : Reads10 s.data.toList n) : n < 0 ∧ (s.extract 1 s.size).data.toList = Lib.decDigits n.natAbs := by
  have hh := data_head h0
  have ht := data_tail s
  cases hl : s.data.toList with
  | nil => rw [hl] at hh; cases hh
  | cons c r =>
    rw [hl] at hh ht h
    simp only [List.head?_cons, Option.some.injEq] at hh
    rw [hh, hm] at h
    have := reads_neg h
    exact ⟨this.1, by rw [ht, ← this.2]; rfl⟩
theorem shape_pos {s : ByteArray} {n : Int} (hm : ∀ h0 : 0 < s.size, s[0] ≠ 45) (h : Reads10 s.data.toList n) : 0 ≤ n ∧ s.data.toList = Lib.decDigits n.toNat := by
  refine reads_pos h ?_
  by_cases h0 : 0 < s.size
  · rw [data_head h0]
    intro e
    exact hm h0 (by injection e)
  · have : s.data.toList = [] := List.length_eq_zero_iff.1 (by rw [size_data]; omega)
    rw [this]; simp
theorem good_dec {t : ByteArray} {u : Nat} (hu : u ≤ 9223372036854775808) (h : t.data.toList = Lib.decDigits u) : digB t = true ∧ t.size ≤ 19 ∧ dval 0 t.data.toList = u :=
  ⟨digB_dec h, by rw [← size_data, h]; exact (dec_bounds hu).1, by rw [h]; exact (dec_bounds hu).2⟩

theorem cut_at (c : Int) (h1 : 48 ≤ c) (h2 : c ≤ 57) : (-9223372036854775808 + (c - 48)).tdiv 10 = -((9223372036854775808 - (c - 48)) / 10) := by
  have e : -9223372036854775808 + (c - 48) = -(9223372036854775808 - (c - 48)) := by omega
  rw [e, Int.neg_tdiv, Int.tdiv_eq_ediv_of_nonneg (by omega)]
theorem cut_no (a c : Int) (h1 : 48 ≤ c) (h2 : c ≤ 57) (h : a * 10 + (c - 48) ≤ 9223372036854775808) : (-9223372036854775808 + (c - 48)).tdiv 10 ≤ -a := by
  rw [cut_at c h1 h2]; omega
theorem cut_yes (a c : Int) (h1 : 48 ≤ c) (h2 : c ≤ 57) (h : ¬ a * 10 + (c - 48) ≤ 9223372036854775808) : -a < (-9223372036854775808 + (c - 48)).tdiv 10 := by
  rw [cut_at c h1 h2]; omega
theorem take_at {t : ByteArray} {k : Nat} (h : k < t.size) : dval 0 (t.data.toList.take (k + 1)) = dval 0 (t.data.toList.take k) * 10 + (t[k].toNat - 48) := by
  have hl : k < t.data.toList.length := by rw [size_data]; exact h
  rw [List.take_succ_eq_append_getElem hl, dval_snoc]; rfl
theorem str_ne {X s : ByteArray} (h : ¬ X = s) : (X.toList == s.toList) = false := by
  rw [beq_eq_false_iff_ne]
  intro e
  apply h
  rw [ByteArray.toList_eq, ByteArray.toList_eq] at e
  apply ByteArray.ext
  exact Array.ext' e
theorem spec_digits2 (s : ByteArray) (w : World) (hs : s.size ≤ maxLen) :
    Calls Tryd.prog 28 #[.string s] w fun e w' => e = .returned (.bool (digB s)) ∧ w = w' := (spec_digits s w hs).mono fun _ _ ⟨a, b⟩ => ⟨a, b.symm⟩

/-- t is what is behind the sign of s. -/
def Behind (s t : ByteArray) (ng : Bool) : Prop := ∀ n, Reads10 s.data.toList n → t.data.toList = Lib.decDigits n.natAbs ∧ n = if ng then -(n.natAbs : Int) else n.natAbs
theorem Behind.no {s t : ByteArray} {ng : Bool} (h : Behind s t ng) (hb : digB t = false ∨ 19 < t.size ∨ ∃ k, 9223372036854775808 < dval 0 (t.data.toList.take k)) : ∀ n, ¬ Reads10 s.data.toList n := fun n hn => by
  have hu : n.natAbs ≤ 9223372036854775808 := by have := hn.1; have := hn.2.1; omega
  obtain ⟨h1, h2, h3⟩ := good_dec hu (h n hn).1
  rcases hb with hb | hb | ⟨k, hb⟩
  · rw [h1] at hb; cases hb
  · omega
  · have := dval_take t.data.toList k
    omega
theorem Behind.val {s t : ByteArray} {ng : Bool} (h : Behind s t ng) {n : Int} (hn : Reads10 s.data.toList n) : n = if ng then -(dval 0 t.data.toList : Int) else dval 0 t.data.toList := by
  have hu : n.natAbs ≤ 9223372036854775808 := by have := hn.1; have := hn.2.1; omega
  obtain ⟨h1, h2, h3⟩ := good_dec hu (h n hn).1
  rw [h3]
  exact (h n hn).2

set_option maxHeartbeats 1600000 in
theorem spec_parse (s : ByteArray) (w : World) (hs : s.size ≤ 1048576) :
    Calls Tryd.prog 15 #[.string s] w (ParseOut s w) := by
  by_cases hneg : ∃ h0 : 0 < s.size, s[0] = 45
  · obtain ⟨h0, hm⟩ := hneg
    have HB : Hid (Behind s (s.extract 1 s.size) true) := fun n hn => by
      have := shape_neg h0 hm hn
      exact ⟨this.2, by simp; omega⟩
    have hb : ((s[0].toNat : Int) == 45) = true := by rw [hm]; rfl
    have hts : (s.extract 1 s.size).size ≤ 1048576 := by simp; omega
    clear hm
    go_enter Tryd.func15, Tryd.ntmps15
    go_wp2_with fail
    obtain ⟨t, ht⟩ : ∃ t, t = s.extract 1 s.size := ⟨_, rfl⟩
    rw [← ht] at HB hts ⊢
    clear ht hb
    refine (spec_digits2 t _ (by unfold maxLen; omega)).mono ?_
    rintro e w' ⟨rfl, rfl⟩
    cases hD : digB t
    · have HN := Lib.hid (HB.out.no (.inl hD))
      clear hD
      go_wp2_with fail
      go_ret2
      exact ⟨.inr ⟨HN.out, rfl⟩, Below.refl _ _⟩
    have HD := Lib.hid hD
    clear hD
    by_cases hL : t.size ≤ 19
    case neg =>
      have HN := Lib.hid (HB.out.no (.inr (.inl (by omega))))
      go_wp2_with fail
      go_ret2
      exact ⟨.inr ⟨HN.out, rfl⟩, Below.refl _ _⟩
    go_wp2_with fail
    go_loop [6, 7, 8] (fun n i _ => ∃ (k : Nat) (a : Int), k ≤ t.size ∧ i = .int .i64 k ∧ n = .int .i64 (-a) ∧ 0 ≤ a ∧ a ≤ 9223372036854775808 ∧ Hid (a = dval 0 (t.data.toList.take k))) (fun _ i _ => t.size - (intOf i).toNat)
    case atStart => exact ⟨0, 0, Nat.zero_le _, rfl, rfl, Int.le_refl _, by omega, by show _ = _; rfl⟩
    case round =>
      obtain ⟨k, a, hk, rfl, rfl, ha0, ha1, HA⟩ := hrel
      by_cases hlt : k < t.size
      · obtain ⟨hc1, hc2⟩ := digB_at HD.out hlt
        by_cases ho : a * 10 + ((t[k].toNat : Int) - 48) ≤ 9223372036854775808
        · have hq := cut_no a _ hc1 hc2 ho
          have HE : Hid (a * 10 + ((t[k].toNat : Int) - 48) = dval 0 (t.data.toList.take (k + 1))) := by
            show _ = _
            rw [take_at hlt, HA.out]; omega
          go_wp2_with fail
          go_round
          case rel => exact ⟨k + 1, a * 10 + ((t[k].toNat : Int) - 48), by omega, by go_num, by congr 1; omega, by omega, ho, HE⟩
          case measure => simp [intOf]; omega
        · have hq := cut_yes a _ hc1 hc2 ho
          have HN := Lib.hid (HB.out.no (.inr (.inr ⟨k + 1, by rw [take_at hlt]; have := HA.out; omega⟩)))
          go_wp2_with fail
          go_ret2
          exact ⟨.inr ⟨HN.out, rfl⟩, Below.refl _ _⟩
      · have HV : Hid (a = dval 0 t.data.toList) := by
          have e : t.data.toList.take k = t.data.toList := List.take_of_length_le (by rw [size_data]; omega)
          show _ = _
          rw [HA.out, e]
        clear HA
        go_wp2_with fail
        refine (spec_fmt (-a) _ (by omega) (by omega)).mono ?_
        rintro e w1 ⟨rfl, hb1⟩
        obtain ⟨X, hX⟩ : ∃ X, X = ByteArray.mk (Lib.itoa (-a)).toArray := ⟨_, rfl⟩
        rw [← hX]
        by_cases hE : X = s
        · have HR : Hid (Reads10 s.data.toList (-a)) := ⟨by omega, by omega, by rw [← hE, hX]⟩
          rw [hE]
          clear hE hX
          go_wp2_with fail
          go_ret2
          exact ⟨.inl ⟨_, HR.out, rfl⟩, hb1⟩
        · have HN : Hid (∀ n, ¬ Reads10 s.data.toList n) := fun n hn => by
            have e := HB.out.val hn
            rw [if_pos rfl, ← HV.out] at e
            apply hE
            rw [hX, ← e, hn.2.2]
          have hne := str_ne hE
          clear hE hX
          go_wp2_with fail
          go_ret2
          exact ⟨.inr ⟨HN.out, rfl⟩, hb1⟩
  · have HB : Hid (Behind s s false) := fun n hn => by
      have := shape_pos (fun h0 e => hneg ⟨h0, e⟩) hn
      exact ⟨by rw [this.2, show n.toNat = n.natAbs by omega], by simp; omega⟩
    have hts := hs
    have HM : Hid (∀ h0 : 0 < s.size, ((s[0].toNat : Int) == 45) = false) := fun h0 => by
      rw [beq_eq_false_iff_ne]
      intro e
      exact hneg ⟨h0, UInt8.toNat_inj.1 (by have e45 : (45 : UInt8).toNat = 45 := rfl; omega)⟩
    clear hneg
    by_cases h0 : 0 < s.size
    case neg =>
      have HN := Lib.hid (HB.out.no (.inl (digB_zero h0)))
      have hd := digB_zero h0
      go_enter Tryd.func15, Tryd.ntmps15
      go_wp2_with fail
      refine (spec_digits2 s _ (by unfold maxLen; omega)).mono ?_
      rintro e w' ⟨rfl, rfl⟩
      rw [hd]
      clear hd
      go_wp2_with fail
      go_ret2
      exact ⟨.inr ⟨HN.out, rfl⟩, Below.refl _ _⟩
    have hb := HM.out h0
    go_enter Tryd.func15, Tryd.ntmps15
    go_wp2_with fail
    clear hb
    refine (spec_digits2 s _ (by unfold maxLen; omega)).mono ?_
    rintro e w' ⟨rfl, rfl⟩
    cases hD : digB s
    · have HN := Lib.hid (HB.out.no (.inl hD))
      clear hD
      go_wp2_with fail
      go_ret2
      exact ⟨.inr ⟨HN.out, rfl⟩, Below.refl _ _⟩
    have HD := Lib.hid hD
    clear hD
    by_cases hL : s.size ≤ 19
    case neg =>
      have HN := Lib.hid (HB.out.no (.inr (.inl (by omega))))
      go_wp2_with fail
      go_ret2
      exact ⟨.inr ⟨HN.out, rfl⟩, Below.refl _ _⟩
    go_wp2_with fail
    go_loop [6, 7, 8] (fun n i _ => ∃ (k : Nat) (a : Int), k ≤ s.size ∧ i = .int .i64 k ∧ n = .int .i64 (-a) ∧ 0 ≤ a ∧ a ≤ 9223372036854775808 ∧ Hid (a = dval 0 (s.data.toList.take k))) (fun _ i _ => s.size - (intOf i).toNat)
    case atStart => exact ⟨0, 0, Nat.zero_le _, rfl, rfl, Int.le_refl _, by omega, by show _ = _; rfl⟩
    case round =>
      obtain ⟨k, a, hk, rfl, rfl, ha0, ha1, HA⟩ := hrel
      by_cases hlt : k < s.size
      · obtain ⟨hc1, hc2⟩ := digB_at HD.out hlt
        by_cases ho : a * 10 + ((s[k].toNat : Int) - 48) ≤ 9223372036854775808
        · have hq := cut_no a _ hc1 hc2 ho
          have HE : Hid (a * 10 + ((s[k].toNat : Int) - 48) = dval 0 (s.data.toList.take (k + 1))) := by
            show _ = _
            rw [take_at hlt, HA.out]; omega
          go_wp2_with fail
          go_round
          case rel => exact ⟨k + 1, a * 10 + ((s[k].toNat : Int) - 48), by omega, by go_num, by congr 1; omega, by omega, ho, HE⟩
          case measure => simp [intOf]; omega
        · have hq := cut_yes a _ hc1 hc2 ho
          have HN := Lib.hid (HB.out.no (.inr (.inr ⟨k + 1, by rw [take_at hlt]; have := HA.out; omega⟩)))
          go_wp2_with fail
          go_ret2
          exact ⟨.inr ⟨HN.out, rfl⟩, Below.refl _ _⟩
      · have HV : Hid (a = dval 0 s.data.toList) := by
          have e : s.data.toList.take k = s.data.toList := List.take_of_length_le (by rw [size_data]; omega)
          show _ = _
          rw [HA.out, e]
        clear HA
        by_cases h63 : a = 9223372036854775808
        · have HN : Hid (∀ n, ¬ Reads10 s.data.toList n) := fun n hn => by
            have e := HB.out.val hn
            rw [if_neg (by decide), ← HV.out] at e
            have := hn.2.1
            omega
          have hq : (-a == -9223372036854775808) = true := by rw [h63]; rfl
          clear h63
          go_wp2_with fail
          go_ret2
          exact ⟨.inr ⟨HN.out, rfl⟩, Below.refl _ _⟩
        have hq : (-a == -9223372036854775808) = false := by rw [beq_eq_false_iff_ne]; omega
        have ha2 : a ≤ 9223372036854775807 := by omega
        clear h63
        go_wp2_with fail
        refine (spec_fmt a _ (by omega) (by omega)).mono ?_
        rintro e w1 ⟨rfl, hb1⟩
        obtain ⟨X, hX⟩ : ∃ X, X = ByteArray.mk (Lib.itoa a).toArray := ⟨_, rfl⟩
        rw [← hX]
        by_cases hE : X = s
        · have HR : Hid (Reads10 s.data.toList a) := ⟨by omega, by omega, by rw [← hE, hX]⟩
          rw [hE]
          clear hE hX
          go_wp2_with fail
          go_ret2
          exact ⟨.inl ⟨_, HR.out, rfl⟩, hb1⟩
        · have HN : Hid (∀ n, ¬ Reads10 s.data.toList n) := fun n hn => by
            have e := HB.out.val hn
            rw [if_neg (by decide), ← HV.out] at e
            apply hE
            rw [hX, ← e, hn.2.2]
          have hne := str_ne hE
          clear hE hX
          go_wp2_with fail
          go_ret2
          exact ⟨.inr ⟨HN.out, rfl⟩, hb1⟩
end Go.Proofs.YtaaffhiechhbaaaDoor
