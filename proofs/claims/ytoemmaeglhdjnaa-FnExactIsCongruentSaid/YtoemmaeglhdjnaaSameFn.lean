/-
  Walks for SamePolygon of both programs.
-/
import Derived.Test.YtoemmaeglhdjnaaShape
import Derived.Test.YtoemmaeglhdjnaaEqual
import Derived.Test.YtoemmaeglhdjnaaLawMk
namespace Go.Proofs.Ytoemmaeglhdjnaa
open Go.RowKit

def testB (a b : List (Int × Int)) (k : Nat) : Bool := decide (a = rotL b k) || decide (a = turnL (rotL b k))
def sameB (a b : List (Int × Int)) : Bool := (List.range b.length).any (testB a b)
def sameV (p q : List (Int × Int)) : Bool := bif polyB p && polyB q then sameB (straightL p) (straightL q) else false
theorem turn_head (M : List (Int × Int)) : gt (turnL M) 0 = gt M 0 := rfl
theorem rot_head {L : List (Int × Int)} {k : Nat} (hk : k < L.length) : gt (rotL L k) 0 = gt L k := by
  rw [gt_at hk, rotL, List.drop_eq_getElem_cons hk]
  rfl
theorem same_eq {p q : List (Int × Int)} (hp : polyB p = true) (hq : polyB q = true) {z : Int} (hz : IdxAt (straightL q) (gt (straightL p) 0) z) :
    (decide (straightL p = startV (straightL q) z) || decide (straightL p = turnV (startV (straightL q) z))) = sameB (straightL p) (straightL q) := by
  have ha := poly_straight hp
  have hb := poly_straight hq
  generalize straightL p = a at *
  generalize straightL q = b at *
  have hal := polyB_all ha
  have hnd := (poly_good hb).2.2.1
  rcases hz with ⟨rfl, hn⟩ | ⟨k, hk, rfl, hke⟩
  · have e1 : startV b (-1) = [] := by
      unfold startV
      have : inB (-1) 0 ((b.length : Int) - 1) = false := by
        cases h : inB (-1) 0 ((b.length : Int) - 1)
        · rfl
        · have := inB_spec.1 h; omega
      rw [this, Bool.and_false]; rfl
    have e2 : turnV [] = [] := by
      unfold turnV
      have : polyB [] = false := rfl
      rw [this]; rfl
    have hane : a ≠ [] := fun h => by rw [h] at hal; simp at hal
    rw [e1, e2, decide_eq_false hane, Bool.false_or]
    symm
    cases hs : sameB a b
    · rfl
    · exfalso
      obtain ⟨j, hj, ht⟩ := List.any_eq_true.1 hs
      have hj' := List.mem_range.1 hj
      simp only [testB, Bool.or_eq_true, decide_eq_true_eq] at ht
      apply hn
      have : gt a 0 = gt b j := by
        rcases ht with h | h
        · rw [h, rot_head hj']
        · rw [h, turn_head, rot_head hj']
      rw [this, gt_at hj']
      exact List.getElem_mem _
  · have e1 : startV b k = rotL b k := by
      unfold startV
      have : inB (k : Int) 0 ((b.length : Int) - 1) = true := inB_spec.2 (by omega)
      rw [this, hb]; simp
    have e2 : turnV (rotL b k) = turnL (rotL b k) := by
      unfold turnV
      rw [poly_rot hb (by omega)]; rfl
    rw [e1, e2]
    show testB a b k = _
    rw [Bool.eq_iff_iff]
    constructor
    · intro h; exact List.any_eq_true.2 ⟨k, List.mem_range.2 hk, h⟩
    · intro hs
      obtain ⟨j, hj, ht⟩ := List.any_eq_true.1 hs
      have hj' := List.mem_range.1 hj
      have ht' := ht
      simp only [testB, Bool.or_eq_true, decide_eq_true_eq] at ht
      have : gt a 0 = gt b j := by
        rcases ht with h | h
        · rw [h, rot_head hj']
        · rw [h, turn_head, rot_head hj']
      have hjk := gt_inj hnd hk hj' (hke.trans this)
      rw [hjk]; exact ht'
theorem turnV_len' (L : List (Int × Int)) : (turnV L).length ≤ 1048576 := by
  unfold turnV
  cases h : polyB L
  · simp
  · have := polyB_all h
    simp [turnL, turnTill]; omega
theorem decide_or_false {P Q : Prop} [Decidable P] [Decidable Q] (h : decide P = false) : (decide P || decide Q) = decide Q := by rw [h]; rfl

set_option maxRecDepth 100000 in
set_option maxHeartbeats 4000000 in
theorem spec_same (A B : Option Addr) (c d : Nat) (p q : List (Int × Int)) (w : World) (hA : PtsA w A p) (hB : PtsA w B q) (h1 : p.length ≤ 1048576) (h2 : q.length ≤ 1048576) :
    Calls Try.prog 85 #[.slice A p.length c, .slice B q.length d] w fun e w' => e = .returned (.bool (sameV p q)) ∧ Below w.heap.size w w' := by
  have P1 := Lib.hid (spec_poly A c p w hA h1)
  have P2 := Lib.hid (fun (W : World) (hb : Below w.heap.size w W) => spec_poly B d q W (ptsA_on hB hb) h2)
  cases hp : polyB p
  · have HV : Hid (sameV p q = false) := by
      show _ = _
      rw [sameV, hp]; rfl
    rw [hp] at P1
    clear hA hB
    go_enter Try.func85, Try.ntmps85
    go_wp2_with fail
    refine P1.out.mono ?_
    rintro e w1 ⟨rfl, hb1⟩
    go_wp2_with fail
    go_ret
    exact ⟨ret_bool HV.out.symm, hb1⟩
  rw [hp] at P1
  cases hq : polyB q
  · have HV : Hid (sameV p q = false) := by
      show _ = _
      rw [sameV, hp, hq]; rfl
    rw [hq] at P2
    clear hA hB
    go_enter Try.func85, Try.ntmps85
    go_wp2_with fail
    refine P1.out.mono ?_
    rintro e w1 ⟨rfl, hb1⟩
    go_wp2_with fail
    refine (P2.out _ hb1).mono ?_
    rintro e w2 ⟨rfl, hb2⟩
    go_wp2_with fail
    go_ret
    exact ⟨ret_bool HV.out.symm, hb1.trans (hb2.mono hb1.size)⟩
  rw [hq] at P2
  have HV : Hid (sameV p q = sameB (straightL p) (straightL q)) := by
    show _ = _
    rw [sameV, hp, hq]; rfl
  obtain ⟨p3, p10, pok⟩ := polyB_all hp
  obtain ⟨q3, q10, qok⟩ := polyB_all hq
  have S1 := Lib.hid (fun (W : World) (hb : Below w.heap.size w W) => straight_any A c p W (ptsA_on hA hb) (by omega) p10 pok)
  have S2 := Lib.hid (fun (W : World) (hb : Below w.heap.size w W) => straight_any B d q W (ptsA_on hB hb) (by omega) q10 qok)
  unfold Lists at S1 S2
  have ha := polyB_all (poly_straight hp)
  have hb := polyB_all (poly_straight hq)
  generalize straightL p = a at *
  generalize straightL q = b at *
  have hal : a.length ≤ 10 := ha.2.1
  have hbl : b.length ≤ 10 := hb.2.1
  clear hA hB ha hb p3 p10 pok q3 q10 qok hp hq
  go_enter Try.func85, Try.ntmps85
  go_wp2_with fail
  refine P1.out.mono ?_
  rintro e w1 ⟨rfl, b1⟩
  go_wp2_with fail
  refine (P2.out _ b1).mono ?_
  rintro e w2 ⟨rfl, hb2⟩
  have b2 := b1.trans (hb2.mono b1.size)
  clear hb2 b1
  go_wp2_with fail
  refine (S1.out _ b2).mono ?_
  rintro e w3 ⟨va, rfl, owna, hb3⟩
  have b3 := b2.trans (hb3.mono b2.size)
  clear hb3 b2
  obtain ⟨_, Aa, ca, rfl, pa⟩ := own_pts owna
  clear owna
  go_wp2_with fail
  refine (S2.out _ b3).mono ?_
  rintro e w4 ⟨vb, rfl, ownb, hb4⟩
  have b4 := b3.trans (hb4.mono b3.size)
  obtain ⟨_, Ab, cb, rfl, pb, qb⟩ := own_ptsc ownb
  have HPA := Lib.hid (ptsA_on pa hb4)
  have HPB := Lib.hid pb
  have HQB := Lib.hid qb
  have HB4 := Lib.hid b4
  clear hb4 b3 ownb pa pb qb b4
  go_wp2_with fail
  go_loopw [23] (fun i wr => ∃ k : Nat, k ≤ b.length ∧ i = .int .i64 k ∧ Hid (∀ j, j < k → testB a b j = false) ∧ Below w4.heap.size w4 wr) (fun i _ => b.length - (intOf i).toNat)
  case atStart => exact ⟨0, Nat.zero_le _, rfl, fun j hj => by omega, Below.refl _ _⟩
  case round =>
    obtain ⟨wo, rfl⟩ : ∃ wo : World, wo = wr := ⟨_, rfl⟩
    obtain ⟨k, hk, rfl, HK, hb⟩ := hrel
    by_cases hlt : k < b.length
    · have HT := Lib.hid (start_any Ab cb k b wo (ptsA_on HPB.out hb) hlt HQB.out (by omega))
      unfold Lists at HT
      have hrl := rotL_len b k
      have HTB : Hid (testB a b k = (decide (a = rotL b k) || decide (a = turnL (rotL b k)))) := rfl
      obtain ⟨r, hr⟩ : ∃ r, r = rotL b k := ⟨_, rfl⟩
      rw [← hr] at HT hrl HTB
      clear hr
      have hr1 : 1 ≤ r.length := by omega
      have hr2 : r.length ≤ 10 := by omega
      clear hrl
      go_wp2_with fail
      refine HT.out.mono ?_
      rintro e w5 ⟨v5, rfl, own5, hb5⟩
      have b5 := hb.trans (hb5.mono hb.size)
      obtain ⟨_, A5, c5, rfl, p5⟩ := own_pts own5
      have HE := Lib.hid (sEq_any Aa A5 ca c5 a r w5 (ptsA_on HPA.out b5) p5 (by omega) (by omega))
      clear own5 hb5 hb
      cases he : decide (a = r)
      · rw [he] at HE
        go_wp2_with fail
        refine HE.out.mono ?_
        rintro e w6 ⟨rfl, hb6⟩
        have b6 := b5.trans (hb6.mono b5.size)
        have HT6 := Lib.hid (turn_any A5 c5 r w6 (ptsA_on p5 hb6) hr1 (by omega))
        unfold Lists at HT6
        clear hb6 b5 p5 HE
        go_wp2_with fail
        refine HT6.out.mono ?_
        rintro e w7 ⟨v7, rfl, own7, hb7⟩
        have b7 := b6.trans (hb7.mono b6.size)
        obtain ⟨_, A7, c7, rfl, p7⟩ := own_pts own7
        have hm7 : (turnL r).length ≤ 10 := by simp [turnL, turnTill]; omega
        have HE7 := Lib.hid (sEq_any Aa A7 ca c7 a (turnL r) w7 (ptsA_on HPA.out b7) p7 (by omega) (by omega))
        generalize turnL r = tr at *
        clear own7 hb7 b6 p7 hm7
        cases ht : decide (a = tr)
        · have HN : Hid (∀ j, j < k + 1 → testB a b j = false) := fun j hj => by
            rcases Nat.lt_or_ge j k with h | h
            · exact HK.out j h
            · obtain rfl : j = k := by omega
              rw [HTB.out, he, ht]; rfl
          rw [ht] at HE7
          go_wp2_with fail
          refine HE7.out.mono ?_
          rintro e w8 ⟨rfl, hb8⟩
          have b8 := b7.trans (hb8.mono b7.size)
          clear hb8 b7
          go_wp2_with fail
          go_roundw
          case rel => exact ⟨k + 1, by omega, by go_num, HN, b8⟩
          case measure => simp [intOf]; omega
        · have HR : Hid (sameB a b = true) := List.any_eq_true.2 ⟨k, List.mem_range.2 hlt, by rw [HTB.out, he, ht]; rfl⟩
          rw [ht] at HE7
          go_wp2_with fail
          refine HE7.out.mono ?_
          rintro e w8 ⟨rfl, hb8⟩
          have b8 := HB4.out.trans ((b7.trans (hb8.mono b7.size)).mono HB4.out.size)
          clear hb8 b7
          go_wp2_with fail
          go_ret
          exact ⟨ret_bool (by rw [HV.out, HR.out]), b8⟩
      · have HR : Hid (sameB a b = true) := List.any_eq_true.2 ⟨k, List.mem_range.2 hlt, by rw [HTB.out, he]; rfl⟩
        rw [he] at HE
        go_wp2_with fail
        refine HE.out.mono ?_
        rintro e w6 ⟨rfl, hb6⟩
        have b6 := HB4.out.trans ((b5.trans (hb6.mono b5.size)).mono HB4.out.size)
        clear hb6 b5 p5
        go_wp2_with fail
        go_ret
        exact ⟨ret_bool (by rw [HV.out, HR.out]), b6⟩
    · have HR : Hid (sameB a b = false) := by
        show _ = _
        cases hs : sameB a b
        · rfl
        · obtain ⟨j, hj, ht⟩ := List.any_eq_true.1 hs
          rw [HK.out j (by have := List.mem_range.1 hj; omega)] at ht
          cases ht
      have b5 := HB4.out.trans (hb.mono HB4.out.size)
      go_wp2_with fail
      go_ret
      exact ⟨ret_bool (by rw [HV.out, HR.out]), b5⟩

set_option maxRecDepth 100000 in
set_option maxHeartbeats 4000000 in
theorem impl_same (A B : Option Addr) (c d : Nat) (p q : List (Int × Int)) (w : World) (hA : PtsA w A p) (hB : PtsA w B q) (h1 : p.length ≤ 1048576) (h2 : q.length ≤ 1048576) :
    Calls Try.prog 86 #[.slice A p.length c, .slice B q.length d] w fun e w' => e = .returned (.bool (sameV p q)) ∧ Below w.heap.size w w' := by
  have P1 := Lib.hid (impl_poly A c p w hA h1)
  have P2 := Lib.hid (fun (W : World) (hb : Below w.heap.size w W) => impl_poly B d q W (ptsA_on hB hb) h2)
  cases hp : polyB p
  · have HV : Hid (sameV p q = false) := by
      show _ = _
      rw [sameV, hp]; rfl
    rw [hp] at P1
    clear hA hB
    go_enter Try.func86, Try.ntmps86
    go_wp2_with fail
    refine P1.out.mono ?_
    rintro e w1 ⟨rfl, hb1⟩
    go_wp2_with fail
    go_ret
    exact ⟨ret_bool HV.out.symm, hb1⟩
  rw [hp] at P1
  cases hq : polyB q
  · have HV : Hid (sameV p q = false) := by
      show _ = _
      rw [sameV, hp, hq]; rfl
    rw [hq] at P2
    clear hA hB
    go_enter Try.func86, Try.ntmps86
    go_wp2_with fail
    refine P1.out.mono ?_
    rintro e w1 ⟨rfl, hb1⟩
    go_wp2_with fail
    refine (P2.out _ hb1).mono ?_
    rintro e w2 ⟨rfl, hb2⟩
    go_wp2_with fail
    go_ret
    exact ⟨ret_bool HV.out.symm, hb1.trans (hb2.mono hb1.size)⟩
  rw [hq] at P2
  have HV : Hid (∀ z, IdxAt (straightL q) (gt (straightL p) 0) z → sameV p q = (decide (straightL p = startV (straightL q) z) || decide (straightL p = turnV (startV (straightL q) z)))) := fun z hz => by
    rw [same_eq hp hq hz, sameV, hp, hq]; rfl
  have S1 := Lib.hid (fun (W : World) (hb : Below w.heap.size w W) => impl_straight A c p W (ptsA_on hA hb) h1)
  have S2 := Lib.hid (fun (W : World) (hb : Below w.heap.size w W) => impl_straight B d q W (ptsA_on hB hb) h2)
  have e1 : straightV p = straightL p := by rw [straightV, hp]; rfl
  have e2 : straightV q = straightL q := by rw [straightV, hq]; rfl
  unfold Lists at S1 S2
  rw [e1] at S1
  rw [e2] at S2
  have ha := polyB_all (poly_straight hp)
  have hb := polyB_all (poly_straight hq)
  generalize straightL p = a at *
  generalize straightL q = b at *
  have hal : a.length ≤ 10 := ha.2.1
  have ha3 : 3 ≤ a.length := ha.1
  have hbl : b.length ≤ 10 := hb.2.1
  clear hA hB ha hb hp hq e1 e2
  go_enter Try.func86, Try.ntmps86
  go_wp2_with fail
  refine P1.out.mono ?_
  rintro e w1 ⟨rfl, b1⟩
  go_wp2_with fail
  refine (P2.out _ b1).mono ?_
  rintro e w2 ⟨rfl, hb2⟩
  have b2 := b1.trans (hb2.mono b1.size)
  clear hb2 b1
  go_wp2_with fail
  refine (S1.out _ b2).mono ?_
  rintro e w3 ⟨va, rfl, owna, hb3⟩
  have b3 := b2.trans (hb3.mono b2.size)
  clear hb3 b2
  obtain ⟨_, Aa, ca, rfl, pa⟩ := own_pts owna
  clear owna
  go_wp2_with fail
  refine (S2.out _ b3).mono ?_
  rintro e w4 ⟨vb, rfl, ownb, hb4⟩
  have b4 := b3.trans (hb4.mono b3.size)
  obtain ⟨_, Ab, cb, rfl, pb, qb⟩ := own_ptsc ownb
  replace pa := ptsA_on pa hb4
  obtain ⟨ga, rfl, -⟩ := pa 0 (by omega)
  obtain ⟨c1, c2⟩ := gt_cells pa (i := 0) (by omega)
  simp only [Nat.zero_mul, Nat.zero_add] at c1 c2
  have hn1 : (0 : Int) < (a.length : Int) := by omega
  have HI := Lib.hid (idx_any Ab cb b (gt a 0).1 (gt a 0).2 w4 pb (by omega))
  have HPA := Lib.hid pa
  have HPB := Lib.hid pb
  have HQB := Lib.hid qb
  clear hb4 b3 ownb pa pb qb
  have HP0 : Hid (((gt a 0).1, (gt a 0).2) = gt a 0) := rfl
  generalize (gt a 0).1 = x0 at *
  generalize (gt a 0).2 = y0 at *
  go_wp2_with fail
  refine HI.out.mono ?_
  rintro e w5 ⟨⟨z, rfl, hz⟩, hb5⟩
  rw [HP0.out] at hz
  have HZ := Lib.hid (HV.out z hz)
  have b5 := b4.trans (hb5.mono b4.size)
  replace HPA := Lib.hid (ptsA_on HPA.out hb5)
  have HT := Lib.hid (impl_start Ab cb b z w5 (ptsA_on HPB.out hb5) HQB.out (by omega))
  unfold Lists at HT
  have hol := startV_len b z
  generalize startV b z = o at *
  clear hz HV hb5 b4 c1 c2 HI
  go_wp2_with fail
  refine HT.out.mono ?_
  rintro e w6 ⟨vo, rfl, owno, hb6⟩
  have b6 := b5.trans (hb6.mono b5.size)
  obtain ⟨_, Ao, co, rfl, po⟩ := own_pts owno
  replace HPA := Lib.hid (ptsA_on HPA.out hb6)
  have HE := Lib.hid (iEq_any (some ⟨ga, 0, none⟩) Ao ca co a o w6 HPA.out po (by omega) hol)
  clear owno hb6 b5 HT
  cases he : decide (a = o)
  · rw [he] at HE
    rw [he, Bool.false_or] at HZ
    go_wp2_with fail
    refine HE.out.mono ?_
    rintro e w7 ⟨rfl, hb7⟩
    have b7 := b6.trans (hb7.mono b6.size)
    replace HPA := Lib.hid (ptsA_on HPA.out hb7)
    have HT7 := Lib.hid (impl_turn Ao co o w7 (ptsA_on po hb7) hol)
    unfold Lists at HT7
    have htl := turnV_len' o
    generalize turnV o = t at *
    clear hb7 b6 po HE
    go_wp2_with fail
    refine HT7.out.mono ?_
    rintro e w8 ⟨vt, rfl, ownt, hb8⟩
    have b8 := b7.trans (hb8.mono b7.size)
    obtain ⟨_, At, ct, rfl, pt⟩ := own_pts ownt
    replace HPA := Lib.hid (ptsA_on HPA.out hb8)
    have HE8 := Lib.hid (iEq_any (some ⟨ga, 0, none⟩) At ca ct a t w8 HPA.out pt (by omega) htl)
    clear ownt hb8 b7 HT7
    go_wp2_with fail
    refine HE8.out.mono ?_
    rintro e w9 ⟨rfl, hb9⟩
    have b9 := b8.trans (hb9.mono b8.size)
    clear hb9 b8 pt
    go_wp2_with fail
    go_ret
    exact ⟨ret_bool HZ.out.symm, b9⟩
  · rw [he] at HE
    rw [he, Bool.true_or] at HZ
    go_wp2_with fail
    refine HE.out.mono ?_
    rintro e w7 ⟨rfl, hb7⟩
    have b7 := b6.trans (hb7.mono b6.size)
    clear hb7 b6 po
    go_wp2_with fail
    go_ret
    exact ⟨ret_bool HZ.out.symm, b7⟩
end Go.Proofs.Ytoemmaeglhdjnaa
