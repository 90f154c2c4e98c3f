/-
  Walks and facts of this seat, part Oa (merged by a script of this repo out of smaller texts).
-/
import Derived.Test.YtamchfdiehkloaaNa
import Derived.Laws.Cover3
/-! Best9 -/
namespace Go.Proofs.Ytamchfdiehkloaa
open Go.RowKit

def stepB (hf : List Int → Bool) (ln : List Int → Nat) (o : Option (List Int)) (c : List Int) : Option (List Int) := if hf c then (match o with | none => some c | some d => if ln c < ln d then some c else some d) else o
def bestB (hf : List Int → Bool) (ln : List Int → Nat) (L : List (List Int)) : Option (List Int) := L.foldl (stepB hf ln) none
theorem bestB_snoc (hf : List Int → Bool) (ln : List Int → Nat) (L : List (List Int)) (c : List Int) : bestB hf ln (L ++ [c]) = stepB hf ln (bestB hf ln L) c := by unfold bestB; rw [List.foldl_append]; rfl
theorem stepB_no {hf : List Int → Bool} {ln : List Int → Nat} {o : Option (List Int)} {c : List Int} (h : hf c = false) : stepB hf ln o c = o := by unfold stepB; rw [h]; rfl
theorem stepB_first {hf : List Int → Bool} {ln : List Int → Nat} {c : List Int} (h : hf c = true) : stepB hf ln none c = some c := by unfold stepB; rw [h]; rfl
theorem stepB_yes {hf : List Int → Bool} {ln : List Int → Nat} {c d : List Int} (h : hf c = true) (hl : ln c < ln d) : stepB hf ln (some d) c = some c := by unfold stepB; rw [h]; simp [hl]
theorem stepB_old {hf : List Int → Bool} {ln : List Int → Nat} {c d : List Int} (h : hf c = true) (hl : ¬ ln c < ln d) : stepB hf ln (some d) c = some d := by unfold stepB; rw [h]; simp [hl]
theorem bestB_mem (hf : List Int → Bool) (ln : List Int → Nat) (L : List (List Int)) : ∀ c, bestB hf ln L = some c → c ∈ L := by
  obtain ⟨n, hn⟩ : ∃ n, L.length = n := ⟨_, rfl⟩
  induction n generalizing L with
  | zero =>
    intro c hc
    rw [List.eq_nil_of_length_eq_zero hn] at hc
    cases hc
  | succ n ih =>
    intro c hc
    obtain ⟨L', x, rfl⟩ : ∃ L' x, L = L' ++ [x] := by
      rcases List.eq_nil_or_concat L with h | ⟨L', x, h⟩
      · rw [h] at hn; cases hn
      · exact ⟨L', x, by simpa using h⟩
    rw [bestB_snoc] at hc
    have hl : L'.length = n := by simpa using hn
    unfold stepB at hc
    split at hc
    · cases hb : bestB hf ln L' with
      | none => rw [hb] at hc; simp at hc; simp [hc]
      | some d =>
        rw [hb] at hc
        simp only at hc
        split at hc
        · simp at hc; simp [hc]
        · simp at hc; subst hc
          exact List.mem_append_left _ (ih L' hl _ hb)
    · exact List.mem_append_left _ (ih L' hl _ hc)
def optV : Option (List Int) → List Int × Bool
  | none => ([], false)
  | some c => (c, true)
def halfB (w h M : Int) (c : List Int) : Bool := decide (pc 64 (((pieV w h M c).getD 0 0).toNat) = pc 64 (((pieV w h M c).getD 1 0).toNat))
def bestV (w h M : Int) (L : List (List Int)) : Option (List Int) := bestB (halfB w h M) (lenV w h M) L
/-- What BestHalves answers. -/
def BestP (w h M : Int) (V : List Int × Bool) : Prop := (∀ wh, IsWh w h M wh → V = optV (bestV w h M (listsC w h M 2 wh))) ∧ V.1.length ≤ 9
theorem BestP.uniq {w h M : Int} {V V' : List Int × Bool} (h1 : BestP w h M V) (h2 : BestP w h M V') : V = V' := by
  obtain ⟨wh, hw⟩ := isWh_ex w h M
  rw [h1.1 wh hw, h2.1 wh hw]
theorem bestP_of {w h M : Int} {wh : List Int → Bool} (hw : IsWh w h M wh) : BestP w h M (optV (bestV w h M (listsC w h M 2 wh))) := by
  refine ⟨fun wh' h' => by rw [listsC_same h' hw], ?_⟩
  cases hb : bestV w h M (listsC w h M 2 wh) with
  | none => simp [optV]
  | some c => exact listsC_mem _ (bestB_mem _ _ _ _ hb)
theorem half_at {w h M : Int} {wh : List Int → Bool} (hw : IsWh w h M wh) {c : List Int} (hc : c ∈ listsC w h M 2 wh) : CutP w h M c ∧ ∃ a b m n C p q, CutAt w h M c a b m n C ∧ uniF [] (idxL m n) C = [p, q] := by
  unfold listsC at hc
  cases hB : okC w h M
  · rw [hB] at hc; cases hc
  · rw [hB] at hc
    simp only [cond_true] at hc
    obtain ⟨h1, h2⟩ := List.mem_filter.1 hc
    obtain ⟨C, hC, rfl⟩ := List.mem_map.1 h1
    obtain ⟨hl, hn, hK, hK2⟩ := numsD_mem _ _ _ hC
    have hcp : CutP w h M (castL C) := ⟨hB, by rw [castL_len]; exact hl, by rw [numV_cast]; exact hn, (hw _).1 h2⟩
    refine ⟨hcp, ?_⟩
    obtain ⟨a, b, m, n, C', k⟩ := cutAt_of hcp
    have hCC : C' = C := (castL_inj k.ec).symm
    subst hCC
    have h3 : (uniF [] (idxL m n) C').length = 2 := by
      rw [uniF_len _ _ [] k.len hn]
      exact hK2 (by decide)
    obtain ⟨p, q, e⟩ : ∃ p q, uniF [] (idxL m n) C' = [p, q] := by
      match hu : uniF [] (idxL m n) C', h3 with
      | [p, q], _ => exact ⟨p, q, rfl⟩
    exact ⟨a, b, m, n, C', p, q, k, e⟩
theorem half_is {w h M : Int} {c : List Int} {a b m n p q : Nat} {C : List Nat} (k : CutAt w h M c a b m n C) (e : uniF [] (idxL m n) C = [p, q]) : halfB w h M c = decide (pc 64 p = pc 64 q) := by
  unfold halfB
  rw [k.pie, e]
  simp [castL]
theorem half_lt {w h M : Int} {c : List Int} {a b m n p q : Nat} {C : List Nat} (k : CutAt w h M c a b m n C) (e : uniF [] (idxL m n) C = [p, q]) : p < 68719476736 ∧ q < 68719476736 := by
  have h1 := k.plt p (by rw [e]; simp)
  have h2 := k.plt q (by rw [e]; simp)
  have h3 : 2 ^ n ≤ 2 ^ 36 := Nat.pow_le_pow_right (by omega) k.n36
  omega
theorem halfS {w h M : Int} {wh : List Int → Bool} (hw : IsWh w h M wh) (c : List Int) (hc : c ∈ listsC w h M 2 wh) : ∃ p q : Nat, halfB w h M c = decide (pc 64 p = pc 64 q) ∧ p < 68719476736 ∧ q < 68719476736 ∧
    (∀ A cap W, IntsA W A c → Calls Try.prog 98 #[.int .i64 w, .int .i64 M, .slice A c.length cap] W (ListsI W (castL [p, q]))) ∧
    (∀ A cap W, 2 ≤ cap → IntsA W A (castL [p, q]) → Calls Try.prog 105 #[.int .i64 w, .int .i64 h, .slice A 2 cap] W fun e w' => e = .returned (.int .i64 (lenV w h M c : Nat)) ∧ Below W.heap.size W w') := by
  obtain ⟨-, a, b, m, n, C, p, q, k, e⟩ := half_at hw hc
  refine ⟨p, q, half_is k e, (half_lt k e).1, (half_lt k e).2, fun A cap W hA => ?_, fun A cap W hcap hA => ?_⟩
  · have := specPieces_any a m n A cap C W k.a6 k.lt k.n36 (by rw [← k.ec]; exact hA) k.len k.l9 k.num
    rw [e] at this
    rw [k.ew, k.em, k.ec, castL_len]
    exact this
  · have := specLen_any a b n A cap (uniF [] (idxL m n) C) W k.en k.a6 k.b6 k.n36 (by rw [e]; exact hA) k.le k.plt (uniF_apart k.len (idxL_nodup m n) k.num) (by rw [e]; exact hcap)
    rw [k.lenV, k.ew, k.eh]
    rw [e] at this ⊢
    exact this
theorem halfI {w h M : Int} {wh : List Int → Bool} (hw : IsWh w h M wh) (c : List Int) (hc : c ∈ listsC w h M 2 wh) : ∃ p q : Nat, halfB w h M c = decide (pc 64 p = pc 64 q) ∧ pc 64 p ≤ 64 ∧ pc 64 q ≤ 64 ∧
    (∀ A cap W, IntsA W A c → Calls Try.prog 55 #[.int .i64 w, .int .i64 h, .int .i64 M, .slice A c.length cap] W (ListsI W (castL [pc 64 p, pc 64 q]))) ∧
    (∀ A cap W, IntsA W A c → Calls Try.prog 53 #[.int .i64 w, .int .i64 h, .int .i64 M, .slice A c.length cap] W fun e w' => e = .returned (.int .i64 (lenV w h M c : Nat)) ∧ Below W.heap.size W w') := by
  have h9 := listsC_mem c hc
  obtain ⟨hcp, a, b, m, n, C, p, q, k, e⟩ := half_at hw hc
  have hle : ∀ x, pc 64 x ≤ 64 := fun x => by rw [pc_count]; exact Nat.le_trans List.countP_le_length (by simp)
  refine ⟨p, q, half_is k e, hle p, hle q, fun A cap W hA => ?_, fun A cap W hA => ?_⟩
  · refine (impl_sizes w h M A cap c W hA (by omega)).mono ?_
    rintro e2 w2 ⟨P, hP, hL⟩
    have hP2 : P = [p, q] := by
      rcases hP.1 with ⟨-, h2⟩ | ⟨h2, -⟩
      · rw [k.pie, e] at h2; exact castL_inj h2
      · exact absurd hcp h2
    rw [hP2] at hL; exact hL
  · refine (impl_len w h M A cap c W hA (by omega)).mono ?_
    rintro e2 w2 ⟨v, rfl, hv, hb⟩
    rcases hv with ⟨-, rfl⟩ | ⟨h2, -⟩
    · exact ⟨rfl, hb⟩
    · exact absurd hcp h2
end Go.Proofs.Ytamchfdiehkloaa

/-! BstS9 -/
namespace Go.Proofs.Ytamchfdiehkloaa
open Go.RowKit Go.Sort

/-- What the loop holds: the best cut so far, and its length. -/
def Bst (Rs : List Rw) (ln : List Int → Nat) (o : Option (List Int)) (v8 v9 : Value) : Prop := (o = none ∧ v9 = .int .i64 (-1)) ∨ ∃ r ∈ Rs, o = some r.M ∧ v8 = hdr r ∧ v9 = .int .i64 (ln r.M : Nat)
theorem take_map {Rs : List Rw} {k : Nat} (h : k < Rs.length) : (Rs.map Rw.M).take (k + 1) = (Rs.map Rw.M).take k ++ [(Rs[k]).M] := by
  rw [take_snoc (by simpa using h)]; simp
set_option maxRecDepth 100000 in
set_option maxHeartbeats 4000000 in
theorem spec_best (w h M : Int) (W : World) : Calls Try.prog 56 #[.int .i64 w, .int .i64 h, .int .i64 M] W (FirstQ (BestP w h M) W) := by
  have HO := Lib.hid (fun W => specOk_any w h M W)
  obtain ⟨wh, hwh⟩ := isWh_ex w h M
  have HF := Lib.hid (bestP_of hwh)
  cases hB : okC w h M
  · rw [hB] at HO
    have hz : listsC w h M 2 wh = [] := by unfold listsC; rw [hB]; rfl
    have R : Hid (FirstQ (BestP w h M) W (.returned (.tuple #[.slice none 0 0, .bool false])) W) := ⟨([], false), _, rfl, by have := HF.out; rw [hz] at this; exact this, World.ownsRow_nil _ _ _ _, Below.refl _ _⟩
    clear hB hwh hz HF
    go_enter Try.func56, Try.ntmps56
    go_wp2_with fail
    refine (HO.out _).mono ?_
    rintro e w1 ⟨rfl, rfl⟩
    go_wp2_with fail
    go_ret2
    exact R.out
  · rw [hB] at HO
    have HA : Hid (∀ W, Calls Try.prog 103 #[.int .i64 w, .int .i64 h, .int .i64 M, .int .i64 2] W (ListsR9 W (listsC w h M 2 wh))) := fun W => specAll_any w h M 2 wh hwh hB (by omega) W
    have HH := Lib.hid (fun c hc => halfS hwh c hc)
    have HL9 : Hid (∀ c ∈ listsC w h M 2 wh, c.length ≤ 9) := listsC_mem
    have HLE : Hid ((listsC w h M 2 wh).length ≤ 362880) := listsC_le
    generalize listsC w h M 2 wh = LL at *
    have b0 := below1 W (.cells #[] 3)
    clear hB hwh
    go_enter Try.func56, Try.ntmps56
    go_wp2_with fail
    refine (HO.out _).mono ?_
    rintro e w0 ⟨rfl, rfl⟩
    go_wp2_with fail
    refine (HA.out _).mono ?_
    rintro e w1 ⟨v, Rs, rfl, hR, hM, hb1⟩
    obtain ⟨A, c, rfl, hat⟩ := hR.form
    have hbb := below_on b0 hb1
    have hsz := b0.size
    have HR := Lib.hid (hR.base (Nat.le_trans hsz (Nat.le_refl _)))
    have HBB := Lib.hid hbb
    have HAT := Lib.hid hat
    have HM := Lib.hid hM
    have hRl : Rs.length ≤ 362880 := by
      have := congrArg List.length hM
      rw [List.length_map] at this
      rw [this]; exact HLE.out
    have HH2 : Hid (∀ r ∈ Rs, r.M ∈ LL) := fun r hr => by rw [← hM]; exact List.mem_map_of_mem hr
    clear hR hM hb1 hbb b0 hat hsz HLE
    go_wp2_with fail
    go_loopw [8, 9, 25] (fun v8 v9 iv wr => ∃ k : Nat, k ≤ Rs.length ∧ iv = .int .i64 k ∧ Hid (Bst Rs (lenV w h M) (bestV w h M ((Rs.map Rw.M).take k)) v8 v9) ∧ Below w1.heap.size w1 wr) (fun _ _ iv _ => Rs.length - (intOf iv).toNat)
    case atStart => exact ⟨0, Nat.zero_le _, rfl, .inl ⟨rfl, rfl⟩, Below.refl _ _⟩
    case round =>
      obtain ⟨wo, rfl⟩ : ∃ wo : World, wo = wr := ⟨_, rfl⟩
      obtain ⟨k, hk, rfl, HBS, hb⟩ := hrel
      by_cases hkl : k < Rs.length
      · obtain ⟨g, rfl, hc0⟩ := HAT.out k hkl
        have hc1 := cell_on hb rfl hc0
        have hmem := List.getElem_mem hkl
        have HTK := Lib.hid (take_map hkl)
        obtain ⟨p, q, hhf, hp36, hq36, hpc, hln⟩ := HH.out _ (HH2.out _ hmem)
        have hrow := own_below (HR.out.row _ hmem) hb
        obtain ⟨r, hr⟩ : ∃ r, r = Rs[k] := ⟨_, rfl⟩
        rw [← hr] at hc1 hmem HTK hhf hpc hln hrow
        have hl9 := HL9.out _ (HH2.out _ hmem)
        have hc2 : wo.cell? ⟨g, k, none⟩ = some (.slice (some ⟨r.g, 0, none⟩) r.M.length r.cap) := hc1
        have HP := Lib.hid (hpc (some ⟨r.g, 0, none⟩) r.cap wo (intsA_of hrow))
        have HMEM := Lib.hid hmem
        have HLN := Lib.hid hln
        have HC : Hid (∀ (z : Nat) W, (z = p ∨ z = q) → Calls Try.prog 95 #[.int .i64 z] W fun e w' => e = .returned (.int .i64 (pc 64 z : Nat)) ∧ Below W.heap.size W w') := fun z W hz => (ones_any z W (by rcases hz with rfl | rfl <;> assumption)).mono fun e w' ⟨h1, h2⟩ => ⟨h1, by rw [h2]; exact Below.refl _ _⟩
        obtain ⟨F, hF⟩ : ∃ F, F = pc 64 := ⟨_, rfl⟩
        rw [← hF] at HC hhf
        have HHF := Lib.hid hhf
        clear hF
        clear hr hc0 hc1 hmem hhf hpc hln hrow hp36 hq36
        go_wp2_with fail
        refine HP.out.mono ?_
        rintro e w3 ⟨v3, rfl, own3, hb3⟩
        rw [castL_len] at own3
        simp only [List.length_cons, List.length_nil, Nat.zero_add] at own3
        obtain ⟨g3, c3, rfl⟩ := ownsRow_succ own3
        have p3 := intsA_of own3
        obtain ⟨_, e3, q0⟩ := p3 0 (by simp [castL])
        cases e3
        obtain ⟨_, e3, q1⟩ := p3 1 (by simp [castL])
        cases e3
        have q0' : w3.cell? ⟨g3, 0, none⟩ = some (.int .i64 (p : Int)) := q0
        have q1' : w3.cell? ⟨g3, 1, none⟩ = some (.int .i64 (q : Int)) := q1
        have hb33 := below_on hb hb3
        have HP3 := Lib.hid p3
        have HCAP := Lib.hid (own_fits own3)
        have k0 := cell_regrown q0'; have k1 := cell_regrown q1'
        clear own3 p3 q0 q1 hb3 hb
        go_wp2_with fail
        by_cases hxy : F p = F q
        · have HHT : Hid (halfB w h M r.M = true) := by
            show _ = _
            rw [HHF.out]; simp [hxy]
          have hbe : ((F p : Int) != (F q : Int)) = false := by rw [hxy]; simp
          clear hxy
          refine wp_region_quiet_below (by kernel_rfl) (by kernel_rfl) ?_
          iterate 14 (first
            | go_big_quiet_step (first | exact Calls.regrown_of (HC.out _ _ (by first | exact .inl rfl | exact .inr rfl)))
            | quiet_step (first | exact Calls.regrown_of (HC.out _ _ (by first | exact .inl rfl | exact .inr rfl))))
          refine wpQuiet_nil ?_
          rintro _ ⟨⟨dq, osq⟩, rfl⟩
          have hb4 := below_regrown w3 dq osq
          clear k0 k1 q0' q1'
          generalize grow (redrawn w3 dq) osq = w4 at *
          have HL4 := Lib.hid (HLN.out (some ⟨g3, 0, none⟩) c3 w4 HCAP.out (intsA_on HP3.out hb4))
          have hb44 := below_on hb33 hb4
          clear hb4 hb33
          go_wp2_with fail
          refine HL4.out.mono ?_
          rintro e w5 ⟨rfl, hb5⟩
          have hb55 := below_on hb44 hb5
          obtain ⟨z, hz⟩ : ∃ z, z = lenV w h M r.M := ⟨_, rfl⟩
          rw [← hz]
          have HZ := Lib.hid hz
          clear hb44 hb5 hz HL4
          rcases HBS.out with ⟨ho, rfl⟩ | ⟨r0, hr0, ho, rfl, rfl⟩
          · have HB2 : Hid (Bst Rs (lenV w h M) (bestV w h M ((Rs.map Rw.M).take (k + 1))) (.slice (some ⟨r.g, 0, none⟩) r.M.length r.cap) (.int .i64 (z : Int))) := by
              refine .inr ⟨r, HMEM.out, ?_, rfl, by rw [HZ.out]⟩
              unfold bestV at ho ⊢
              rw [HTK.out, bestB_snoc, ho, stepB_first HHT.out]
            clear ho
            go_wp2_with fail
            go_roundw
            case rel => exact ⟨k + 1, by omega, by go_num, HB2, hb55⟩
            case measure => simp [intOf]; omega
          · obtain ⟨z0, hz0⟩ : ∃ z0, z0 = lenV w h M r0.M := ⟨_, rfl⟩
            rw [← hz0]
            by_cases hlt : z < z0
            · have HB2 : Hid (Bst Rs (lenV w h M) (bestV w h M ((Rs.map Rw.M).take (k + 1))) (.slice (some ⟨r.g, 0, none⟩) r.M.length r.cap) (.int .i64 (z : Int))) := by
                refine .inr ⟨r, HMEM.out, ?_, rfl, by rw [HZ.out]⟩
                unfold bestV at ho ⊢
                rw [HTK.out, bestB_snoc, ho, stepB_yes HHT.out (by rw [← hz0, ← HZ.out]; exact hlt)]
              have hge : ((z0 : Int) < 0) = False := by simp
              have hlt' : ((z : Int) < (z0 : Int)) = True := by simp; omega
              clear ho hz0 hlt
              go_wp2_with fail
              go_roundw
              case rel => exact ⟨k + 1, by omega, by go_num, HB2, hb55⟩
              case measure => simp [intOf]; omega
            · have HB2 : Hid (Bst Rs (lenV w h M) (bestV w h M ((Rs.map Rw.M).take (k + 1))) (hdr r0) (.int .i64 (z0 : Int))) := by
                refine .inr ⟨r0, hr0, ?_, rfl, by rw [hz0]⟩
                unfold bestV at ho ⊢
                rw [HTK.out, bestB_snoc, ho, stepB_old HHT.out (by rw [← hz0, ← HZ.out]; exact hlt)]
              have hge : ((z0 : Int) < 0) = False := by simp
              have hlt' : ((z : Int) < (z0 : Int)) = False := by simp; omega
              clear ho hz0 hlt
              go_wp2_with fail
              go_roundw
              case rel => exact ⟨k + 1, by omega, by go_num, HB2, hb55⟩
              case measure => simp [intOf]; omega
        · have hne : ((F p : Int) != (F q : Int)) = true := by rw [bne_iff_ne]; omega
          have HHN : Hid (halfB w h M r.M = false) := by
            show _ = _
            rw [HHF.out]; simp [hxy]
          clear hxy
          have HB2 : Hid (Bst Rs (lenV w h M) (bestV w h M ((Rs.map Rw.M).take (k + 1))) u8 u9) := by
            show Bst _ _ _ _ _
            unfold bestV
            rw [HTK.out, bestB_snoc, stepB_no HHN.out]; exact HBS.out
          refine wp_region_quiet_below (by kernel_rfl) (by kernel_rfl) ?_
          iterate 14 (first
            | go_big_quiet_step (first | exact Calls.regrown_of (HC.out _ _ (by first | exact .inl rfl | exact .inr rfl)))
            | quiet_step (first | exact Calls.regrown_of (HC.out _ _ (by first | exact .inl rfl | exact .inr rfl))))
          refine wpQuiet_nil ?_
          rintro _ ⟨⟨dq, osq⟩, rfl⟩
          have hb4 := below_on hb33 (below_regrown w3 dq osq)
          clear k0 k1 q0' q1' hb33
          generalize grow (redrawn w3 dq) osq = w4 at *
          go_wp2_with fail
          go_roundw
          case rel => exact ⟨k + 1, by omega, by go_num, HB2, hb4⟩
          case measure => simp [intOf]; omega
      · obtain rfl : k = Rs.length := by omega
        have hbs := HBS.out
        rw [List.take_of_length_le (by simp), HM.out] at hbs
        have hb9 := below_on HBB.out hb
        rcases hbs with ⟨ho, rfl⟩ | ⟨r, hr, ho, rfl, rfl⟩
        · have R : Hid (FirstQ (BestP w h M) w0 (.returned (.tuple #[.slice none 0 0, .bool false])) wo) := ⟨([], false), _, rfl, by have := HF.out; rw [ho] at this; exact this, World.ownsRow_nil _ _ _ _, hb9⟩
          clear ho hb9 HBS
          go_wp2_with fail
          go_ret2
          exact R.out
        · have R : Hid (FirstQ (BestP w h M) w0 (.returned (.tuple #[hdr r, .bool true])) wo) := ⟨(r.M, true), _, rfl, by have := HF.out; rw [ho] at this; exact this, own_below (HR.out.row r hr) hb, hb9⟩
          obtain ⟨z, hz⟩ : ∃ z, z = lenV w h M r.M := ⟨_, rfl⟩
          rw [← hz]
          have hge : ((z : Int) < 0) = False := by simp
          clear ho hb9 HBS hz
          go_wp2_with fail
          go_ret2
          exact R.out
end Go.Proofs.Ytamchfdiehkloaa

/-! BstI9 -/
namespace Go.Proofs.Ytamchfdiehkloaa
open Go.RowKit Go.Sort
attribute [local go_sem] Oper.semAt_some

set_option maxRecDepth 100000 in
theorem eq_nil_no (g n c : Nat) (w : World) : (binOp BinOp.eql 43 (.slice (some ⟨g, 0, none⟩) n c) (.slice none 0 0)).run Try.prog w = .ok (.bool false) w := by
  simp [binOp, go_sem, run_equal_slice_nil _ _ _ _ _ _ Try.underlying43, Result.andThen]
set_option maxRecDepth 100000 in
theorem eq_nil_yes (w : World) : (binOp BinOp.eql 43 (.slice none 0 0) (.slice none 0 0)).run Try.prog w = .ok (.bool true) w := by
  simp [binOp, go_sem, run_equal_slice_nil _ _ _ _ _ _ Try.underlying43, Result.andThen]
set_option maxRecDepth 100000 in
theorem ne_nil_no (g n c : Nat) (w : World) : (binOp BinOp.neq 43 (.slice (some ⟨g, 0, none⟩) n c) (.slice none 0 0)).run Try.prog w = .ok (.bool true) w := by
  simp [binOp, go_sem, run_equal_slice_nil _ _ _ _ _ _ Try.underlying43, Result.andThen]
set_option maxRecDepth 100000 in
theorem ne_nil_yes (w : World) : (binOp BinOp.neq 43 (.slice none 0 0) (.slice none 0 0)).run Try.prog w = .ok (.bool false) w := by
  simp [binOp, go_sem, run_equal_slice_nil _ _ _ _ _ _ Try.underlying43, Result.andThen]
def BV (w h M : Int) (pre : List Rw) (v : Value) : Prop := (bestV w h M (pre.map Rw.M) = none ∧ v = .slice none 0 0) ∨ ∃ r ∈ pre, bestV w h M (pre.map Rw.M) = some r.M ∧ v = hdr r
/-- What the rounds keep. -/
structure BI (w h M : Int) (W : World) (pre : List Rw) (W' : World) : Prop where
  e0 : Boxed W' W.heap.size 3 (.int .i64 w)
  e1 : Boxed W' (W.heap.size + 1) 3 (.int .i64 h)
  e2 : Boxed W' (W.heap.size + 1 + 1) 3 (.int .i64 M)
  best : ∃ v, Boxed W' (W.heap.size + 1 + 1 + 1) 43 v ∧ BV w h M pre v
  rows : ∀ y ∈ pre, RowAt W' y
  far : ∀ y ∈ pre, W.heap.size + 4 ≤ y.g
  bel : Below W.heap.size W W'
theorem BI.as {w h M : Int} {W : World} {pre : List Rw} {X Y : World} (b : BI w h M W pre X) (hk : ∀ k, k < X.heap.size → (k < W.heap.size + 4 ∨ ∃ y ∈ pre, y.g = k) → Y.heap[k]? = X.heap[k]?) (ho : Y.os = X.os) (ht : Y.tape = X.tape) (hp : Y.output = X.output) (hs : X.heap.size ≤ Y.heap.size) : BI w h M W pre Y := by
  obtain ⟨v, hv, hB⟩ := b.best
  exact ⟨boxed_as b.e0 (hk _ b.e0.lt (.inl (by omega))), boxed_as b.e1 (hk _ b.e1.lt (.inl (by omega))), boxed_as b.e2 (hk _ b.e2.lt (.inl (by omega))), ⟨v, boxed_as hv (hk _ hv.lt (.inl (by omega))), hB⟩,
    fun y hy => (b.rows y hy).on (hk _ (b.rows y hy).lt (.inr ⟨y, hy, rfl⟩)), b.far, b.bel.trans ⟨ho, ht, hp, hs, fun k hk1 => hk k (Nat.lt_of_lt_of_le hk1 b.bel.size) (.inl (by omega))⟩⟩
theorem BI.below {w h M : Int} {W : World} {pre : List Rw} {X Y : World} (b : BI w h M W pre X) (hb : Below X.heap.size X Y) : BI w h M W pre Y := b.as (fun k hk _ => hb.block k hk) hb.os hb.tape hb.output hb.size
theorem best_next (w h M : Int) (pre : List Rw) (x : Rw) : bestV w h M ((pre ++ [x]).map Rw.M) = stepB (halfB w h M) (lenV w h M) (bestV w h M (pre.map Rw.M)) x.M := by
  unfold bestV
  rw [List.map_append, List.map_singleton, bestB_snoc]
theorem BI.skip {w h M : Int} {W : World} {pre : List Rw} {x : Rw} {X : World} (b : BI w h M W pre X) (hx : RowAt X x) (hg : ∀ y ∈ pre ++ [x], W.heap.size + 4 ≤ y.g) (hs : bestV w h M ((pre ++ [x]).map Rw.M) = bestV w h M (pre.map Rw.M)) : BI w h M W (pre ++ [x]) X := by
  obtain ⟨v, hv, hB⟩ := b.best
  refine ⟨b.e0, b.e1, b.e2, ⟨v, hv, ?_⟩, fun y hy => ?_, hg, b.bel⟩
  · rcases hB with ⟨h1, h2⟩ | ⟨r, hr, h1, h2⟩
    · exact .inl ⟨hs.trans h1, h2⟩
    · exact .inr ⟨r, List.mem_append_left _ hr, hs.trans h1, h2⟩
  · rcases List.mem_append.1 hy with hy | hy
    · exact b.rows y hy
    · rw [List.mem_singleton.1 hy]; exact hx
theorem BI.take {w h M : Int} {W : World} {pre : List Rw} {x : Rw} {X : World} (b : BI w h M W pre X) (hx : RowAt X x) (hg : ∀ y ∈ pre ++ [x], W.heap.size + 4 ≤ y.g) (hs : bestV w h M ((pre ++ [x]).map Rw.M) = some x.M) : BI w h M W (pre ++ [x]) (X.setCell ⟨W.heap.size + 1 + 1 + 1, 0, none⟩ (hdr x)) := by
  obtain ⟨v, hv, -⟩ := b.best
  have hc : ∀ k, k ≠ W.heap.size + 1 + 1 + 1 → (X.setCell ⟨W.heap.size + 1 + 1 + 1, 0, none⟩ (hdr x)).heap[k]? = X.heap[k]? := fun k hk => Below.heap_setCell X ⟨W.heap.size + 1 + 1 + 1, 0, none⟩ (hdr x) k hk
  refine ⟨boxed_as b.e0 (hc _ (by omega)), boxed_as b.e1 (hc _ (by omega)), boxed_as b.e2 (hc _ (by omega)), ⟨hdr x, hv.set _, .inr ⟨x, by simp, hs, rfl⟩⟩, fun y hy => ?_, hg, b.bel.setCell (p := ⟨W.heap.size + 1 + 1 + 1, 0, none⟩) (by simp only; omega) _⟩
  have h1 := hg y hy
  have h2 : RowAt X y := by
    rcases List.mem_append.1 hy with hy | hy
    · exact b.rows y hy
    · rw [List.mem_singleton.1 hy]; exact hx
  exact h2.on (hc _ (by omega))
set_option maxRecDepth 100000 in
set_option maxHeartbeats 4000000 in
theorem impl_best (w h M : Int) (W : World) : Calls Try.prog 57 #[.int .i64 w, .int .i64 h, .int .i64 M] W (FirstQ (BestP w h M) W) := by
  obtain ⟨wh, hwh⟩ := isWh_ex w h M
  have HWH := Lib.hid hwh
  have HFP := Lib.hid (bestP_of hwh)
  have HH := Lib.hid (fun c hc => halfI hwh c hc)
  clear hwh
  refine (callsIn_wide (n := 9)).1 ?_
  refine callsIn_of_wp_marks Try.func57 rfl trivial ?_ rfl
  simp only [Try.ntmps57, List.size_toArray, List.length_cons, List.length_nil, Nat.reduceAdd, Nat.reduceSub, Array.replicate_succ, Array.replicate_zero, List.push_toArray, List.append_toArray, List.nil_append, List.cons_append]
  have x0 := (((Boxed.new W 3 (.int .i64 w)).alloc (.cells #[.int .i64 h] 3)).alloc (.cells #[.int .i64 M] 3)).alloc (.cells #[.slice none 0 0] 43)
  have x1 := ((Boxed.new (W.alloc (.cells #[.int .i64 w] 3)) 3 (.int .i64 h)).alloc (.cells #[.int .i64 M] 3)).alloc (.cells #[.slice none 0 0] 43)
  have x2 := (Boxed.new ((W.alloc (.cells #[.int .i64 w] 3)).alloc (.cells #[.int .i64 h] 3)) 3 (.int .i64 M)).alloc (.cells #[.slice none 0 0] 43)
  have x3 := Boxed.new (((W.alloc (.cells #[.int .i64 w] 3)).alloc (.cells #[.int .i64 h] 3)).alloc (.cells #[.int .i64 M] 3)) 43 (.slice none 0 0)
  have hb1 : Below W.heap.size W ((((W.alloc (.cells #[.int .i64 w] 3)).alloc (.cells #[.int .i64 h] 3)).alloc (.cells #[.int .i64 M] 3)).alloc (.cells #[.slice none 0 0] 43)) := ((((Below.refl _ W).alloc (Nat.le_refl _) _).alloc (by simp) _).alloc (by simp; omega) _).alloc (by simp; omega) _
  simp only [World.size_alloc] at x1 x2 x3
  gi_wp2
  refine ⟨trivial, (wide0.calls (cutsInto_any w h M 2 _)).mono ?_⟩
  rintro e w3 ⟨rfl, rfl⟩
  obtain ⟨wC, hwC⟩ : ∃ wC, (((W.alloc (.cells #[.int .i64 w] 3)).alloc (.cells #[.int .i64 h] 3)).alloc (.cells #[.int .i64 M] 3)).alloc (.cells #[.slice none 0 0] 43) = wC := ⟨_, rfl⟩
  have hsC : wC.heap.size = W.heap.size + 4 := by rw [← hwC]; simp
  rw [hwC] at x0 x1 x2 x3 hb1 ⊢
  obtain ⟨bN, hbN⟩ : ∃ bN, bN = wC.heap.size := ⟨_, rfl⟩
  rw [← hbN]
  have n1 := (((Boxed.new wC 3 (.int .i64 w)).alloc (.cells #[.int .i64 h] 3)).alloc (.cells #[.int .i64 M] 3)).alloc (.cells #[.int .i64 2] 3)
  have n2 := ((Boxed.new (wC.alloc (.cells #[.int .i64 w] 3)) 3 (.int .i64 h)).alloc (.cells #[.int .i64 M] 3)).alloc (.cells #[.int .i64 2] 3)
  have n3 := (Boxed.new ((wC.alloc (.cells #[.int .i64 w] 3)).alloc (.cells #[.int .i64 h] 3)) 3 (.int .i64 M)).alloc (.cells #[.int .i64 2] 3)
  have n4 := Boxed.new (((wC.alloc (.cells #[.int .i64 w] 3)).alloc (.cells #[.int .i64 h] 3)).alloc (.cells #[.int .i64 M] 3)) 3 (.int .i64 2)
  have hbD : Below wC.heap.size wC ((((wC.alloc (.cells #[.int .i64 w] 3)).alloc (.cells #[.int .i64 h] 3)).alloc (.cells #[.int .i64 M] 3)).alloc (.cells #[.int .i64 2] 3)) := ((((Below.refl _ wC).alloc (Nat.le_refl _) _).alloc (by simp) _).alloc (by simp; omega) _).alloc (by simp; omega) _
  simp only [World.size_alloc] at n2 n3 n4
  rw [← hbN] at n1 n2 n3 n4
  obtain ⟨W0, hW0⟩ : ∃ W0, (((wC.alloc (.cells #[.int .i64 w] 3)).alloc (.cells #[.int .i64 h] 3)).alloc (.cells #[.int .i64 M] 3)).alloc (.cells #[.int .i64 2] 3) = W0 := ⟨_, rfl⟩
  have hs0 : W0.heap.size = bN + 4 := by rw [← hW0, hbN]; simp
  rw [hW0] at hbD n1 n2 n3 n4 ⊢
  have bi0 : BI w h M W [] W0 := ⟨boxed_as x0 (hbD.block _ x0.lt), boxed_as x1 (hbD.block _ x1.lt), boxed_as x2 (hbD.block _ x2.lt), ⟨_, boxed_as x3 (hbD.block _ x3.lt), .inl ⟨rfl, rfl⟩⟩, fun y hy => (by cases hy), fun y hy => (by cases hy), below_on hb1 hbD⟩
  have hlt1 : W.heap.size + 4 ≤ bN := by omega
  have hlt2 : bN + 1 + 1 + 1 < W0.heap.size := by omega
  have HS := Lib.hid (seqCuts bN (bN + 1) (bN + 1 + 1) (bN + 1 + 1 + 1) w h M 2 wh HWH.out W0 n1 n2 n3 n4)
  generalize listsC w h M 2 wh = LL at *
  clear hwC hW0 hbD n1 n2 n3 n4 x0 x1 x2 x3 hsC hbN hs0 hb1 HWH
  gi_wp2
  refine wpIn_rangeG (n := 9) (by decide) (gf := 149) (lb := #[.pointer (some ⟨bN, 0, none⟩), .pointer (some ⟨bN + 1, 0, none⟩), .pointer (some ⟨bN + 1 + 1, 0, none⟩), .pointer (some ⟨bN + 1 + 1 + 1, 0, none⟩)]) rfl (enters_of Try.func149 (by kernel_rfl) rfl)
    HS.out (Below.refl _ _) rfl (fun k => k = W.heap.size + 1 + 1 + 1) (fun k hk => by omega) (fun k hk => ⟨fun h => by omega, by omega⟩)
    (fun pre W' => BI w h M W pre W') (fun _ _ _ => False)
    (fun s X Y hs hk => hs.as (fun k hk1 hk2 => hk.block k hk1 (hk2.imp (fun h => by omega) (fun ⟨y, hy, e⟩ => ⟨y, hy, e⟩))) hk.os hk.tape hk.output hk.size)
    (fun _ _ _ _ hs _ => hs)
    bi0
    (fun x => { tmps := #[.int .i64 w, .int .i64 h, .int .i64 M, .pointer (some ⟨W.heap.size, 0, none⟩), .pointer (some ⟨W.heap.size + 1, 0, none⟩), .pointer (some ⟨W.heap.size + 1 + 1, 0, none⟩), .slice none 0 0, .bool false, .pointer (some ⟨W.heap.size + 1 + 1 + 1, 0, none⟩), hdr x, undef, .int .i64 w, .int .i64 h, .int .i64 M, .func (.func 149) #[] #[.pointer (some ⟨bN, 0, none⟩), .pointer (some ⟨bN + 1, 0, none⟩), .pointer (some ⟨bN + 1 + 1, 0, none⟩), .pointer (some ⟨bN + 1 + 1 + 1, 0, none⟩)], hdr x, undef, undef, undef, undef, undef, undef, undef, undef, undef, undef, undef, undef, undef, undef, undef, undef, undef, undef, undef, undef, undef, undef, undef, undef, undef, undef, undef, undef, undef, undef, undef], defers := [] }) ?assign ?body ?done ?stop
  case assign =>
    intro l2 x W2 K2 hK2
    gi_wp2
    simpa using hK2
  case body =>
    rintro l2 pre x W2 bi hx hge -
    have hmem : x.M ∈ LL := hx.next.subset (List.mem_append_right _ (List.mem_singleton.2 rfl))
    obtain ⟨p, q, hhf, hp64, hq64, hsz, hln⟩ := HH.out _ hmem
    have HSZ := Lib.hid (hsz (some ⟨x.g, 0, none⟩) x.cap W2 hx.at_.ints)
    have HLN := Lib.hid hln
    have HHF := Lib.hid hhf
    have HBI := Lib.hid bi
    have HX := Lib.hid hx
    have HG : Hid (∀ y ∈ pre ++ [x], W.heap.size + 4 ≤ y.g) := fun y hy => by
      rcases List.mem_append.1 hy with hy | hy
      · have := hge y hy; omega
      · rw [List.mem_singleton.1 hy]; have := hx.far; omega
    have HMP : Hid (∀ y ∈ pre, y.M ∈ LL) := fun y hy => hx.next.subset (List.mem_append_left _ (List.mem_map_of_mem hy))
    have v0 := bi.e0.cell; have v1 := bi.e1.cell; have v2 := bi.e2.cell
    have hh : hdr x = .slice (some ⟨x.g, 0, none⟩) x.M.length x.cap := rfl
    rw [hh]
    generalize pc 64 p = a1 at *
    generalize pc 64 q = a2 at *
    clear hh hmem hhf hsz hln bi hx hge
    gi_wp2
    refine ⟨trivial, ((wideR l2).calls HSZ.out).mono ?_⟩
    rintro e w3 ⟨v3, rfl, own3, hb3⟩
    rw [castL_len] at own3
    simp only [List.length_cons, List.length_nil, Nat.zero_add] at own3
    obtain ⟨g3, c3, rfl⟩ := ownsRow_succ own3
    have p3 := intsA_of own3
    obtain ⟨_, e3, q0⟩ := p3 0 (by simp [castL])
    cases e3
    obtain ⟨_, e3, q1⟩ := p3 1 (by simp [castL])
    cases e3
    have q0' : w3.cell? ⟨g3, 0, none⟩ = some (.int .i64 (a1 : Int)) := q0
    have q1' : w3.cell? ⟨g3, 1, none⟩ = some (.int .i64 (a2 : Int)) := q1
    have bi3 := HBI.out.below hb3
    have HX3 := Lib.hid (HX.out.at_.below hb3)
    obtain ⟨i1, hi1⟩ : ∃ i1 : Int, i1 = (a1 : Int) := ⟨_, rfl⟩
    obtain ⟨i2, hi2⟩ : ∃ i2 : Int, i2 = (a2 : Int) := ⟨_, rfl⟩
    rw [← hi1] at q0'
    rw [← hi2] at q1'
    have HI12 := Lib.hid (And.intro hi1 hi2)
    clear hi1 hi2
    have k0 := cell_regrown q0'; have k1 := cell_regrown q1'
    have HBT := Lib.hid (ButT.of_below (T := fun k => k = W.heap.size + 1 + 1 + 1) hb3)
    clear own3 p3 q0 q1 v0 v1 v2 HSZ hb3 HBI
    have HBI3 := Lib.hid bi3
    clear bi3
    gi_wp2
    refine region_quiet_in (wideR l2) (by kernel_rfl) (by kernel_rfl) (by kernel_rfl) ?_
    iterate 7 (first
      | go_big_quiet_step (fail)
      | quiet_step (fail))
    refine wpQuiet_nil ?_
    rintro _ ⟨⟨dq, osq⟩, rfl⟩
    have hb4 := below_regrown w3 dq osq
    clear k0 k1 q0' q1'
    generalize grow (redrawn w3 dq) osq = w4 at *
    have bi4 := HBI3.out.below hb4
    have HX4 := Lib.hid (HX3.out.below hb4)
    have HBT4 := Lib.hid (HBT.out.trans (ButT.of_below hb4))
    have HBI4 := Lib.hid bi4
    clear HBI3 HX3 HBT hb4
    by_cases hxy : a1 = a2
    · have hbe : (i1 != i2) = false := by rw [HI12.out.1, HI12.out.2, hxy]; simp
      have HHT : Hid (halfB w h M x.M = true) := by
        show _ = _
        rw [HHF.out]; simp [hxy]
      clear hxy hp64 hq64 HI12
      obtain ⟨vb, hvb, hBV⟩ := HBI4.out.best
      have u0 := bi4.e0.cell; have u1 := bi4.e1.cell; have u2 := bi4.e2.cell
      rcases hBV with ⟨ho, rfl⟩ | ⟨r, hr, ho, rfl⟩
      · have R : Hid (∀ w5, Below w4.heap.size w4 w5 → ∀ a0, postG (fun k => k = W.heap.size + 1 + 1 + 1) (fun pre W' => BI w h M W pre W') (fun _ _ _ => False) (pre ++ [x]) W2 .normal a0 (w5.setCell ⟨W.heap.size + 1 + 1 + 1, 0, none⟩ (.slice (some ⟨x.g, 0, none⟩) x.M.length x.cap))) := fun w5 hb5 a0 =>
          ⟨((HBT4.out.trans (ButT.of_below hb5)).setCell (p := ⟨W.heap.size + 1 + 1 + 1, 0, none⟩) rfl _), (HBI4.out.below hb5).take (HX4.out.below hb5) HG.out (by rw [best_next, ho, stepB_first HHT.out])⟩
        have cb := hvb.cell
        have kb := cell_regrown cb
        have HVB := Lib.hid hvb
        clear bi4 hvb ho HBI4 HX4 HBT4 HG HMP HHF HHT HLN HX HH HFP HS bi0 u0 u1 u2 cb
        have cb := HVB.out.cell
        have hq1 := eq_nil_yes
        gi_wp2
        refine region_quiet_in (wideR l2) (by kernel_rfl) (by kernel_rfl) (by kernel_rfl) ?_
        iterate 15 (first
          | go_big_quiet_step (fail)
          | quiet_step (fail))
        refine wpQuiet_nil ?_
        rintro _ ⟨⟨dq, osq⟩, rfl⟩
        have hb5 := below_regrown w4 dq osq
        clear kb cb
        generalize grow (redrawn w4 dq) osq = w5 at *
        have hv5 := boxed_as HVB.out (hb5.block _ HVB.out.lt)
        have c5 := hv5.cell; have f5 := hv5.frozen
        have RR := Lib.hid (R.out w5 hb5)
        clear hb5 hv5 R HVB
        gi_wp2
        exact RR.out _
      · obtain ⟨F, hF⟩ : ∃ F, F = lenV w h M := ⟨_, rfl⟩
        have HC : Hid (∀ (y : Rw) d os, (y = x ∨ y = r) → Calls Try.prog 53 #[.int .i64 w, .int .i64 h, .int .i64 M, .slice (some ⟨y.g, 0, none⟩) y.M.length y.cap] (grow (redrawn w4 d) os) fun e w' => e = .returned (.int .i64 (F y.M : Nat)) ∧ Below (grow (redrawn w4 d) os).heap.size (grow (redrawn w4 d) os) w') := fun y d os hy => by
          have hat : RowAt w4 y := by
            rcases hy with rfl | rfl
            · exact HX4.out
            · exact HBI4.out.rows y hr
          have hm : y.M ∈ LL := by
            rcases hy with rfl | rfl
            · exact HX.out.next.subset (List.mem_append_right _ (List.mem_singleton.2 rfl))
            · exact HMP.out y hr
          obtain ⟨_, _, _, _, _, _, hl⟩ := HH.out _ hm
          rw [hF]
          exact hl (some ⟨y.g, 0, none⟩) y.cap _ (hat.below (below_regrown w4 d os)).ints
        have RY : Hid (F x.M < F r.M → ∀ w5, Below w4.heap.size w4 w5 → ∀ a0, postG (fun k => k = W.heap.size + 1 + 1 + 1) (fun pre W' => BI w h M W pre W') (fun _ _ _ => False) (pre ++ [x]) W2 .normal a0 (w5.setCell ⟨W.heap.size + 1 + 1 + 1, 0, none⟩ (.slice (some ⟨x.g, 0, none⟩) x.M.length x.cap))) := fun hlt w5 hb5 a0 =>
          ⟨((HBT4.out.trans (ButT.of_below hb5)).setCell (p := ⟨W.heap.size + 1 + 1 + 1, 0, none⟩) rfl _), (HBI4.out.below hb5).take (HX4.out.below hb5) HG.out (by rw [best_next, ho, stepB_yes HHT.out (by rw [← hF]; exact hlt)])⟩
        have RN : Hid (¬ F x.M < F r.M → ∀ w5, Below w4.heap.size w4 w5 → ∀ a0, postG (fun k => k = W.heap.size + 1 + 1 + 1) (fun pre W' => BI w h M W pre W') (fun _ _ _ => False) (pre ++ [x]) W2 .normal a0 w5) := fun hlt w5 hb5 a0 =>
          ⟨HBT4.out.trans (ButT.of_below hb5), (HBI4.out.below hb5).skip (HX4.out.below hb5) HG.out (by rw [best_next, ho, stepB_old HHT.out (by rw [← hF]; exact hlt)])⟩
        have cb : w4.cell? ⟨W.heap.size + 1 + 1 + 1, 0, none⟩ = some (.slice (some ⟨r.g, 0, none⟩) r.M.length r.cap) := hvb.cell
        have kb := cell_regrown cb
        have m0 := cell_regrown u0; have m1 := cell_regrown u1; have m2 := cell_regrown u2
        have HVB := Lib.hid hvb
        clear bi4 hvb ho HBI4 HX4 HBT4 HG HMP HHF HHT HLN HX HH HFP HS bi0 hF hr
        have hq1 := eq_nil_no r.g r.M.length r.cap
        by_cases hlt : F x.M < F r.M
        · have hl2 : ((F x.M : Int) < (F r.M : Int)) = True := by simp; omega
          have hl3 : decide ((F x.M : Int) < (F r.M : Int)) = true := by simp; omega
          have R := Lib.hid (RY.out hlt)
          clear RY RN hlt
          gi_wp2
          refine region_quiet_in (wideR l2) (by kernel_rfl) (by kernel_rfl) (by kernel_rfl) ?_
          iterate 15 (first
            | go_big_quiet_step (first | exact Calls.regrown_of (HC.out _ _ _ (by first | exact .inl rfl | exact .inr rfl)))
            | quiet_step (first | exact Calls.regrown_of (HC.out _ _ _ (by first | exact .inl rfl | exact .inr rfl))))
          refine wpQuiet_nil ?_
          rintro _ ⟨⟨dq, osq⟩, rfl⟩
          have hb5 := below_regrown w4 dq osq
          clear kb cb m0 m1 m2 u0 u1 u2
          generalize grow (redrawn w4 dq) osq = w5 at *
          have hv5 := boxed_as HVB.out (hb5.block _ HVB.out.lt)
          have c5 := hv5.cell; have f5 := hv5.frozen
          have RR := Lib.hid (R.out w5 hb5)
          clear hb5 hv5 R HVB HC
          gi_wp2
          exact RR.out _
        · have hl2 : ((F x.M : Int) < (F r.M : Int)) = False := by simp; omega
          have hl3 : decide ((F x.M : Int) < (F r.M : Int)) = false := by simp; omega
          have R := Lib.hid (RN.out hlt)
          clear RY RN hlt
          gi_wp2
          refine region_quiet_in (wideR l2) (by kernel_rfl) (by kernel_rfl) (by kernel_rfl) ?_
          iterate 15 (first
            | go_big_quiet_step (first | exact Calls.regrown_of (HC.out _ _ _ (by first | exact .inl rfl | exact .inr rfl)))
            | quiet_step (first | exact Calls.regrown_of (HC.out _ _ _ (by first | exact .inl rfl | exact .inr rfl))))
          refine wpQuiet_nil ?_
          rintro _ ⟨⟨dq, osq⟩, rfl⟩
          have hb5 := below_regrown w4 dq osq
          clear kb cb m0 m1 m2 u0 u1 u2
          generalize grow (redrawn w4 dq) osq = w5 at *
          have RR := Lib.hid (R.out w5 hb5)
          clear hb5 R HVB HC
          gi_wp2
          exact RR.out _
    · have hne : (i1 != i2) = true := by rw [HI12.out.1, HI12.out.2, bne_iff_ne]; omega
      have HHN : Hid (halfB w h M x.M = false) := by
        show _ = _
        rw [HHF.out]; simp [hxy]
      have R : Hid (∀ a0, postG (fun k => k = W.heap.size + 1 + 1 + 1) (fun pre W' => BI w h M W pre W') (fun _ _ _ => False) (pre ++ [x]) W2 .normal a0 w4) := fun a0 =>
        ⟨HBT4.out, HBI4.out.skip HX4.out HG.out (by rw [best_next, stepB_no HHN.out])⟩
      clear hxy bi4 hp64 hq64 HI12 HBI4 HX4 HBT4 HG HMP HHF HHN HLN HX HH HFP HS bi0
      gi_wp2
      exact R.out _
  case done =>
    rintro D xs W7 hD hxs bi hK
    subst hD
    have hsz4 : W.heap.size + 4 ≤ W0.heap.size := by omega
    obtain ⟨vb, hvb, hBV⟩ := bi.best
    have cb := hvb.cell
    have kb := cell_regrown cb
    have R : Hid (∀ w5, Below W7.heap.size W7 w5 → w5.heap[W0.heap.size]? = some (.deferred (some [])) ∧ ((bestV w h M LL = none ∧ vb = .slice none 0 0 ∧ FirstQ (BestP w h M) W (.returned (.tuple #[.slice none 0 0, .bool false])) (w5.putObj W0.heap.size (.deferred none))) ∨ ∃ r : Rw, vb = .slice (some ⟨r.g, 0, none⟩) r.M.length r.cap ∧ FirstQ (BestP w h M) W (.returned (.tuple #[.slice (some ⟨r.g, 0, none⟩) r.M.length r.cap, .bool true])) (w5.putObj W0.heap.size (.deferred none)))) := fun w5 hb5 => by
      have hDl : W0.heap.size < W7.heap.size := (Array.getElem?_eq_some_iff.1 hK).1
      have bi5 := bi.below hb5
      have hb7 : Below W.heap.size W (w5.putObj W0.heap.size (.deferred none)) := ⟨bi5.bel.os, bi5.bel.tape, bi5.bel.output, by simpa using bi5.bel.size, fun k hk => (World.putObj_heap_other (by have := bi.bel.size; omega)).trans (bi5.bel.block k hk)⟩
      refine ⟨(hb5.block _ hDl).trans hK, ?_⟩
      rcases hBV with ⟨ho, hv⟩ | ⟨r, hr, ho, hv⟩
      · rw [hxs] at ho
        exact .inl ⟨ho, hv, ([], false), _, rfl, by have := HFP.out; rw [ho] at this; exact this, World.ownsRow_nil _ _ _ _, hb7⟩
      · rw [hxs] at ho
        refine .inr ⟨r, hv, (r.M, true), _, rfl, by have := HFP.out; rw [ho] at this; exact this, ?_, hb7⟩
        have h4 := bi.far r hr
        have hne : r.g ≠ W0.heap.size := fun e => by
          have h6 : RowAt w5 r := bi5.rows r hr
          rcases h6.2 with ⟨h1, _⟩ | ⟨g, cap, cur, hv2, _, hh, _⟩
          · cases h1
          · have e2 : r.g = g := by
              have := congrArg Value.ownBlock hv2
              simpa [hdr, Value.ownBlock] using this
            rw [← e2, e, (hb5.block _ hDl).trans hK] at hh
            cases hh
        exact ((bi5.rows r hr).on (World.putObj_heap_other hne)).own (by omega)
    have HR := Lib.hid R.out
    have HNN := Lib.hid (ne_nil_no)
    have hform : (vb = .slice none 0 0) ∨ ∃ r : Rw, vb = .slice (some ⟨r.g, 0, none⟩) r.M.length r.cap := by
      rcases (R.out W7 (Below.refl _ _)).2 with ⟨-, h, -⟩ | ⟨r, h, -⟩
      · exact .inl h
      · exact .inr ⟨r, h⟩
    clear bi hBV hvb hxs HFP HH HS bi0 R
    rcases hform with rfl | ⟨r, rfl⟩
    · have hq := ne_nil_yes
      gi_wp2
      refine region_quiet_in wide0 (by kernel_rfl) (by kernel_rfl) (by kernel_rfl) ?_
      iterate 5 (first
        | go_big_quiet_step (fail)
        | quiet_step (fail))
      refine wpQuiet_nil ?_
      rintro _ ⟨⟨dq, osq⟩, rfl⟩
      have hb5 := below_regrown W7 dq osq
      clear kb cb
      generalize grow (redrawn W7 dq) osq = w5 at *
      obtain ⟨hK5, hE⟩ := HR.out w5 hb5
      have R : Hid (FirstQ (BestP w h M) W (.returned (.tuple #[.slice none 0 0, .bool false])) (w5.putObj W0.heap.size (.deferred none))) := by
        rcases hE with ⟨-, -, h⟩ | ⟨r, h, -⟩
        · exact h
        · cases h
      clear hb5 hE HR hK hq
      gi_wp2
      refine ⟨by simp, .inl ⟨_, _, rfl, run_takeDeferred hK5, ?_⟩⟩
      refine ⟨_, results_tmp2 rfl _ _ _, ?_⟩
      exact R.out
    · have hq := HNN.out r.g r.M.length r.cap
      gi_wp2
      refine region_quiet_in wide0 (by kernel_rfl) (by kernel_rfl) (by kernel_rfl) ?_
      iterate 5 (first
        | go_big_quiet_step (fail)
        | quiet_step (fail))
      refine wpQuiet_nil ?_
      rintro _ ⟨⟨dq, osq⟩, rfl⟩
      have hb5 := below_regrown W7 dq osq
      clear kb cb
      generalize grow (redrawn W7 dq) osq = w5 at *
      obtain ⟨hK5, hE⟩ := HR.out w5 hb5
      have R : Hid (FirstQ (BestP w h M) W (.returned (.tuple #[.slice (some ⟨r.g, 0, none⟩) r.M.length r.cap, .bool true])) (w5.putObj W0.heap.size (.deferred none))) := by
        rcases hE with ⟨-, h, -⟩ | ⟨r', h, h2⟩
        · cases h
        · rw [h]; exact h2
      clear hb5 hE HR hK hq
      gi_wp2
      refine ⟨by simp, .inl ⟨_, _, rfl, run_takeDeferred hK5, ?_⟩⟩
      refine ⟨_, results_tmp2 rfl _ _ _, ?_⟩
      exact R.out
  case stop =>
    rintro D cd pre W7 hD hpre h hK
    exact h.elim
end Go.Proofs.Ytamchfdiehkloaa

/-! Law9D -/
namespace Go.Proofs.Ytamchfdiehkloaa
open Go.RowKit

set_option maxRecDepth 100000 in
set_option maxHeartbeats 2000000 in
theorem ex_best (w h M : Int) (W : World) : Calls Try.prog 11 #[.int .i64 w, .int .i64 h, .int .i64 M] W fun e w' => e = .returned (.bool true) ∧ Below W.heap.size W w' := by
  have HS := Lib.hid (fun W => spec_best w h M W)
  have HI := Lib.hid (fun W => impl_best w h M W)
  go_enter Try.func11, Try.ntmps11
  go_wp2_with fail
  refine (HS.out _).mono ?_
  rintro e w2 ⟨⟨L, y⟩, v2, rfl, hL, own2, b2⟩
  simp only at own2
  have HL := Lib.hid hL
  have HMM : Hid (L.length ≤ 1048576) := by
    show _ ≤ _
    have := hL.2
    simp only at this
    omega
  clear hL
  go_wp2_with fail
  refine (HI.out w2).mono ?_
  rintro e w4 ⟨⟨L', y'⟩, v4, rfl, hL', own4, hb4⟩
  simp only at own4
  have hq := HL.out.uniq hL'
  simp only [Prod.mk.injEq] at hq
  obtain ⟨rfl, rfl⟩ := hq
  have b4 := below_on b2 hb4
  have ap24 := own_apart_g own2 (Nat.le_refl _) own4
  replace own2 := own_below own2 hb4
  replace own4 := own_base own4 b2.size
  clear hb4 b2 hL'
  obtain ⟨_, A4, c4, rfl, p4⟩ := own_ints own4
  obtain ⟨_, A2, c2, rfl, p2⟩ := own_ints own2
  go_wp2_with fail
  refine (eq_ints A4 A2 c4 c2 L w4 p4 p2 HMM.out).mono ?_
  rintro e w9 ⟨rfl, hb9⟩
  have b9 := below_on b4 hb9
  replace own2 := own_below own2 hb9
  replace own4 := own_below own4 hb9
  clear hb9 p4 p2 b4
  go_wp2_with fail
  refine (mark_ints _ _ _ _ w9 own4 HMM.out).mono ?_
  rintro e w10 ⟨rfl, own4m, hg10⟩
  have b10 := b9.grown hg10 b9.size (fun k hk => (own4.lt k hk).1)
  replace own2 := own2.kept hg10 ap24
  clear hg10 own4 ap24 b9
  go_wp2_with fail
  refine (held_ints _ _ _ w10 own4m HMM.out).mono ?_
  rintro e w11 ⟨rfl, rfl⟩
  go_wp2_with fail
  refine (HI.out w11).mono ?_
  rintro e w13 ⟨⟨L', y'⟩, v13, rfl, hL', own13, hb13⟩
  simp only at own13
  have hq := HL.out.uniq hL'
  simp only [Prod.mk.injEq] at hq
  obtain ⟨rfl, rfl⟩ := hq
  have b13 := below_on b10 hb13
  replace own2 := own_below own2 hb13
  replace own4m := own_below own4m hb13
  obtain ⟨_, A13, c13, rfl, p13⟩ := own_ints own13
  have p2 := intsA_of own2
  clear hb13 own13 b10 hL'
  go_wp2_with fail
  refine (eq_ints A13 A2 c13 c2 L w13 p13 p2 HMM.out).mono ?_
  rintro e w14 ⟨rfl, hb14⟩
  have b14 := below_on b13 hb14
  replace own4m := own_below own4m hb14
  clear hb14 own2 p2 p13 b13
  go_wp2_with fail
  refine (held_ints _ _ _ w14 own4m HMM.out).mono ?_
  rintro e w15 ⟨rfl, rfl⟩
  go_wp2_with fail
  go_ret
  exact ⟨rfl, b14⟩
end Go.Proofs.Ytamchfdiehkloaa
