/-
  Walks and facts of this seat, part Na (merged by a script of this repo out of smaller texts).
-/
import Derived.Test.YtbmeemmihkedoaaMa
import Derived.Lib.AppendZerosOnto
/-! AddF -/
namespace Go.Proofs.Ytbmeemmihkedoaa
open Go.RowKit

def toM (L : List (List Int)) : Ms := L.map fun m => (keyL m, m.getD 2 0)
def addV (A B : Ms) : Ms := B.foldl (fun M z => putM M z.1 z.2) A
def sumV (B : Ms) (e : Int × Int) : Int := (B.map fun z => if z.1 = e then z.2 else 0).sum
theorem addV_snoc (A B : Ms) (z : (Int × Int) × Int) : addV A (B ++ [z]) = putM (addV A B) z.1 z.2 := by simp [addV]
theorem addV_append (A B C : Ms) : addV A (B ++ C) = addV (addV A B) C := by simp [addV]
theorem addV_ord {A : Ms} (h : OrdM A) (B : Ms) : OrdM (addV A B) := by
  unfold addV
  induction B generalizing A with
  | nil => exact h
  | cons z B ih => exact ih (putM_ord h _ _)
theorem addV_len (A B : Ms) : (addV A B).length ≤ A.length + B.length := by
  unfold addV
  induction B generalizing A with
  | nil => simp
  | cons z B ih =>
    have h1 := ih (A := putM A z.1 z.2)
    have h2 := putM_len A z.1 z.2
    simp only [List.foldl_cons, List.length_cons]
    omega
theorem valM_addV {A : Ms} (h : OrdM A) (B : Ms) (e : Int × Int) : valM (addV A B) e = valM A e + sumV B e := by
  unfold addV sumV
  induction B generalizing A with
  | nil => simp
  | cons z B ih =>
    simp only [List.foldl_cons, List.map_cons, List.sum_cons]
    rw [ih (putM_ord h _ _), valM_put h]
    by_cases q : z.1 = e
    · rw [if_pos q, if_pos q.symm]; omega
    · rw [if_neg q, if_neg (fun x => q x.symm)]; omega
theorem sumV_none {B : Ms} {e : Int × Int} (h : ∀ z ∈ B, z.1 ≠ e) : sumV B e = 0 := by
  unfold sumV
  induction B with
  | nil => rfl
  | cons z B ih =>
    simp only [List.map_cons, List.sum_cons]
    rw [if_neg (h z (by simp)), ih (fun y hy => h y (by simp [hy]))]; rfl
theorem sumV_ord {B : Ms} (h : OrdM B) (e : Int × Int) : sumV B e = valM B e := by
  induction B with
  | nil => rfl
  | cons z B ih =>
    have h1 := List.pairwise_cons.1 h.1
    have ih := ih ⟨h1.2, fun a ha => h.2 a (by simp [ha])⟩
    unfold sumV valM
    simp only [List.map_cons, List.sum_cons]
    have e2 : (B.map fun z => if z.1 = e then z.2 else 0).sum = sumV B e := rfl
    rw [e2]
    by_cases q : z.1 = e
    · rw [if_pos q, if_pos q]
      have : sumV B e = 0 := sumV_none fun y hy x => by
        have := h1.1 y hy
        rw [q, x, befZ_irr] at this; cases this
      omega
    · rw [if_neg q, if_neg q, ih]; omega
theorem addV_nil {B : Ms} (h : OrdM B) : addV [] B = B := by
  refine ordM_ext (addV_ord ordM_nil B) h fun e => ?_
  rw [valM_addV ordM_nil, sumV_ord h]
  show 0 + _ = _
  omega
theorem sumV_le {B : Ms} (h : ∀ z ∈ B, z.2.natAbs ≤ 1000) (e : Int × Int) : (sumV B e).natAbs ≤ 1000 * B.length := by
  unfold sumV
  induction B with
  | nil => simp
  | cons z B ih =>
    have h1 := h z (by simp)
    have ih := ih (fun y hy => h y (by simp [hy]))
    simp only [List.map_cons, List.sum_cons, List.length_cons]
    split <;> omega
theorem okTill_all {L : List (List Int)} {n : Nat} (h : okTill L n = true) : ∀ k, k < n → stepOk L k = true := fun k hk => List.all_eq_true.1 h k (List.mem_range.2 hk)
/-- A list that MeasureListOk allows. -/
structure GoodL (L : List (List Int)) : Prop where
  len : L.length ≤ 24
  three : ∀ m ∈ L, m.length = 3
  ord : OrdM (toM L)
  key : ∀ z ∈ toM L, (z.1.1.natAbs ≤ 1000 ∧ z.1.2.natAbs ≤ 1000) ∧ z.2.natAbs ≤ 1000
theorem goodL_of {L : List (List Int)} (h : listOk L = true) : GoodL L := by
  unfold listOk at h
  rw [Bool.and_eq_true, decide_eq_true_iff] at h
  obtain ⟨h24, ho⟩ := h
  have hs := okTill_all ho
  have hm : ∀ k (hk : k < L.length), mOk L[k] = true := fun k hk => by
    have := hs k hk
    unfold stepOk at this
    rw [Bool.and_eq_true] at this
    have e : L.getD k [] = L[k] := by simp [hk]
    rw [e] at this
    exact this.1
  have hmem : ∀ m ∈ L, mOk m = true := fun m hmm => by
    obtain ⟨k, hk, rfl⟩ := List.getElem_of_mem hmm
    exact hm k hk
  have hform : ∀ m ∈ L, ∃ a b c, m = [a, b, c] ∧ okD a b = true ∧ inB c (-1000) 1000 = true ∧ c ≠ 0 := fun m hmm => by
    have h1 := hmem m hmm
    obtain ⟨a, b, c, rfl⟩ := mOk_three (mOk_ok h1)
    unfold mOk at h1
    simp only [Bool.and_eq_true, Bool.not_eq_true', beq_eq_false_iff_ne] at h1
    exact ⟨a, b, c, rfl, h1.1.1, h1.1.2, h1.2⟩
  have hbef : ∀ j (hj : j < L.length) i (hi : i < j), befZ (keyL (L.getD i [])) (keyL (L.getD j [])) = true := by
    intro j
    induction j with
    | zero => intro hj i hi; omega
    | succ j ih =>
      intro hj i hi
      have h1 := hs (j + 1) hj
      unfold stepOk at h1
      rw [Bool.and_eq_true, Bool.or_eq_true] at h1
      have h2 : befZ (keyL (L.getD j [])) (keyL (L.getD (j + 1) [])) = true := by
        rcases h1.2 with q | q
        · simp at q
        · simpa using q
      rcases Nat.lt_or_ge i j with q | q
      · exact befZ_trans (ih (by omega) i q) h2
      · obtain rfl : i = j := by omega
        exact h2
  refine ⟨h24, fun m hmm => mOk_ok (hmem m hmm), ⟨?_, ?_⟩, ?_⟩
  · unfold toM
    rw [List.pairwise_map, List.pairwise_iff_getElem]
    intro i j hi hj hij
    have := hbef j hj i hij
    simpa [hi, hj] using this
  · intro z hz
    obtain ⟨m, hmm, rfl⟩ := List.mem_map.1 hz
    obtain ⟨a, b, c, rfl, -, -, hc⟩ := hform m hmm
    exact hc
  · intro z hz
    obtain ⟨m, hmm, rfl⟩ := List.mem_map.1 hz
    obtain ⟨a, b, c, rfl, hd, hc, -⟩ := hform m hmm
    have h3 := inB_spec.1 hc
    unfold okD at hd
    simp only [Bool.and_eq_true] at hd
    have h1 := inB_spec.1 hd.1.1.1
    have h2 := inB_spec.1 hd.1.1.2
    simp only [keyL, List.getD_cons_zero, List.getD_cons_succ]
    omega
theorem rowsM_toM {L : List (List Int)} (h : ∀ m ∈ L, m.length = 3) : rowsM (toM L) = L := by
  unfold rowsM toM
  rw [List.map_map]
  have : ∀ m ∈ L, ((fun z : (Int × Int) × Int => [z.1.1, z.1.2, z.2]) ∘ fun m => (keyL m, m.getD 2 0)) m = id m := fun m hm => by
    obtain ⟨a, b, c, rfl⟩ := mOk_three (h m hm)
    rfl
  rw [List.map_congr_left this, List.map_id]
theorem toM_len (L : List (List Int)) : (toM L).length = L.length := by simp [toM]
def addB (L K : List (List Int)) : Bool := listOk L && listOk K
def addL (L K : List (List Int)) : List (List Int) := bif addB L K then rowsM (addV (toM L) (toM K)) else []
/-- What AddMeasures hands back. -/
def AddR (w : World) (L K : List (List Int)) (e : Ending) (w' : World) : Prop := ∃ v Rs, e = .returned (.tuple #[v, .bool (addB L K)]) ∧ RowsR w' w.heap.size v Rs ∧ Rs.map Rw.M = addL L K ∧ Below w.heap.size w w'
theorem addR_no {w w' : World} {L K : List (List Int)} (h : addB L K = false) (hb : Below w.heap.size w w') : AddR w L K (.returned (.tuple #[.slice none 0 0, .bool false])) w' := by
  refine ⟨_, [], by rw [h], rowsR_nil _ _, ?_, hb⟩
  unfold addL
  rw [h]; rfl
theorem addR_yes {w w' : World} {L K : List (List Int)} {v : Value} {Rs : List Rw} (h : addB L K = true) (hR : RowsR w' w.heap.size v Rs) (hM : Rs.map Rw.M = addL L K) (hb : Below w.heap.size w w') : AddR w L K (.returned (.tuple #[v, .bool true])) w' :=
  ⟨v, Rs, by rw [h], hR, hM, hb⟩
end Go.Proofs.Ytbmeemmihkedoaa

/-! AddS -/
namespace Go.Proofs.Ytbmeemmihkedoaa
open Go.RowKit
attribute [local go_sem] quietB uponB

theorem bnd_take {K : List (List Int)} (h : GoodL K) (j : Nat) : ∀ z ∈ (toM K).take j, z.2.natAbs ≤ 1000 := fun z hz => (h.key z (List.mem_of_mem_take hz)).2
theorem addV_bnd {A B : Ms} (hA : OrdM A) (h1 : ∀ z ∈ A, z.2.natAbs ≤ 1000) (h2 : ∀ z ∈ B, z.2.natAbs ≤ 1000) (hB : B.length ≤ 24) : ∀ a ∈ addV A B, a.2.natAbs ≤ 1000000 := fun a ha => by
  rw [← valM_mem (addV_ord hA B) ha, valM_addV hA]
  have q1 := sumV_le h2 a.1
  have q2 : (valM A a.1).natAbs ≤ 1000 := by
    by_cases q : valM A a.1 = 0
    · rw [q]; decide
    · obtain ⟨z, hz, e⟩ := List.mem_map.1 ((valM_iff hA a.1).1 q)
      rw [← e, valM_mem hA hz]
      exact h1 z hz
  omega
theorem at_rowM {w : World} {B g c : Nat} {Rs : List Rw} {L : List (List Int)} (h : RowsR w B (.slice (some ⟨g, 0, none⟩) Rs.length c) Rs) (hM : Rs.map Rw.M = L) (hG : GoodL L) (j : Nat) (hj : j < Rs.length) :
    ∃ p q n rg rc, w.cell? ⟨g, j, none⟩ = some (.slice (some ⟨rg, 0, none⟩) 3 rc) ∧ w.cell? ⟨rg, 0, none⟩ = some (.int .i64 p) ∧ w.cell? ⟨rg, 1, none⟩ = some (.int .i64 q) ∧ w.cell? ⟨rg, 2, none⟩ = some (.int .i64 n) ∧ (p.natAbs ≤ 1000 ∧ q.natAbs ≤ 1000 ∧ n.natAbs ≤ 1000) ∧ (toM L).take (j + 1) = (toM L).take j ++ [((p, q), n)] := by
  have hR3 : Rs.map Rw.M = rowsM (toM L) := by rw [hM, rowsM_toM hG.three]
  have hjM : j < (toM L).length := by rw [toM_len, ← hM]; simpa using hj
  obtain ⟨c0, l3, r0, r1, r2⟩ := rows_at3 h hR3 j hjM hj
  have ehd : hdr Rs[j] = .slice (some ⟨(Rs[j]).g, 0, none⟩) 3 (Rs[j]).cap := by unfold hdr; rw [l3]
  rw [ehd] at c0
  have hb := hG.key _ (List.getElem_mem hjM)
  exact ⟨_, _, _, _, _, c0, r0, r1, r2, ⟨hb.1.1, hb.1.2, hb.2⟩, by rw [List.take_succ_eq_append_getElem hjM]⟩
set_option maxRecDepth 100000 in
set_option maxHeartbeats 4000000 in
theorem spec_add (B1 g1 c1 B2 g2 c2 : Nat) (Rs Qs : List Rw) (L K : List (List Int)) (w : World) (h1 : RowsR w B1 (.slice (some ⟨g1, 0, none⟩) Rs.length c1) Rs) (h2 : RowsR w B2 (.slice (some ⟨g2, 0, none⟩) Qs.length c2) Qs) (hL : Rs.map Rw.M = L) (hK : Qs.map Rw.M = K)
    (m1 : Rs.length ≤ 1048576) (m2 : Qs.length ≤ 1048576) (k1 : ∀ r ∈ Rs, r.M.length ≤ 1048576) (k2 : ∀ r ∈ Qs, r.M.length ≤ 1048576) :
    Calls Try.prog 41 #[.slice (some ⟨g1, 0, none⟩) Rs.length c1, .slice (some ⟨g2, 0, none⟩) Qs.length c2] w (AddR w L K) := by
  obtain ⟨i0, hi0, hz0, hz1, hz2⟩ := info_parts infoR
  have C1 := Lib.hid (spec_listOk B1 _ Rs L w h1 hL m1 k1)
  have C2 := Lib.hid (fun W hb => spec_listOk B2 _ Qs K W (h2.below hb) hK m2 k2)
  have H1 := Lib.hid h1; have H2 := Lib.hid h2
  have HL := Lib.hid hL; have HK := Lib.hid hK
  have HV : Hid (addB L K = (listOk L && listOk K)) := rfl
  clear h1 h2 hL hK k1 k2
  cases a1 : listOk L
  · rw [a1] at C1 HV
    have HN : Hid (addB L K = false) := HV.out
    go_enter Try.func41, Try.ntmps41
    go_wp2_with fail
    refine C1.out.mono ?_
    rintro e w1 ⟨rfl, hb1⟩
    go_wp2_with fail
    go_returns
    exact addR_no HN.out hb1
  cases a2 : listOk K
  · rw [a1, a2] at HV
    rw [a1] at C1
    rw [a2] at C2
    have HN : Hid (addB L K = false) := HV.out
    go_enter Try.func41, Try.ntmps41
    go_wp2_with fail
    refine C1.out.mono ?_
    rintro e w1 ⟨rfl, hb1⟩
    go_wp2_with fail
    refine (C2.out _ hb1).mono ?_
    rintro e w2 ⟨rfl, hb2⟩
    go_wp2_with fail
    go_returns
    exact addR_no HN.out (below_on hb1 hb2)
  have G1 := Lib.hid (goodL_of a1); have G2 := Lib.hid (goodL_of a2)
  rw [a1, a2] at HV
  rw [a1] at C1
  rw [a2] at C2
  have n1 : Rs.length ≤ 24 := by have := G1.out.len; rw [← HL.out] at this; simpa using this
  have n2 : Qs.length ≤ 24 := by have := G2.out.len; rw [← HK.out] at this; simpa using this
  have HN : Hid (addB L K = true ∧ addL L K = rowsM (addV (toM L) ((toM K).take Qs.length))) := by
    refine ⟨HV.out, ?_⟩
    unfold addL
    rw [HV.out, List.take_of_length_le (by rw [toM_len, ← HK.out]; simp)]; rfl
  clear HV a1 a2
  go_enter Try.func41, Try.ntmps41
  go_wp2_with fail
  refine C1.out.mono ?_
  rintro e w1 ⟨rfl, hb1⟩
  go_wp2_with fail
  refine (C2.out _ hb1).mono ?_
  rintro e w2 ⟨rfl, hb2⟩
  have HB2 := Lib.hid (below_on hb1 hb2)
  clear hb1 hb2 C1 C2
  go_wp2_with fail
  go_loopw [6, 8, 22] (fun s _ i wr => ∃ (j : Nat) (Ps : List Rw) (g c : Nat), j ≤ Rs.length ∧ i = .int .i64 j ∧ s = .slice (some ⟨g, 0, none⟩) Ps.length c ∧ Hid (Ps.map Rw.M = rowsM ((toM L).take j)) ∧ Hid (RowsR wr w2.heap.size (.slice (some ⟨g, 0, none⟩) Ps.length c) Ps) ∧ Hid (Below w2.heap.size w2 wr)) (fun _ _ i _ => Rs.length - (intOf i).toNat)
  case atStart => exact ⟨0, [], _, _, Nat.zero_le _, rfl, rfl, rfl, ⟨World.ownsRow_lit w2 #[] 0 (Nat.le_refl _) (Nat.zero_le _) rfl, fun r h => (by cases h), fun r h => (by cases h), by simp⟩, (Below.refl _ w2).alloc (Nat.le_refl _) _⟩
  case round =>
    obtain ⟨wo, rfl⟩ : ∃ wo : World, wo = wr := ⟨_, rfl⟩
    obtain ⟨j, Ps, g, c, hj, rfl, rfl, HP, HR, HB⟩ := hrel
    by_cases hlt : j < Rs.length
    · have b3 := below_on HB2.out HB.out
      obtain ⟨p, q, n, rg, rc, d0, d1, d2, d3, -, hst⟩ := at_rowM (H1.out.below b3) HL.out G1.out j hlt
      have HST := Lib.hid hst
      have hpl : Ps.length ≤ 100 := by
        have := congrArg List.length HP.out
        rw [rowsM_len, List.length_map, List.length_take] at this
        omega
      have hjj : (j : Int) < (Rs.length : Int) := by omega
      obtain ⟨f1, f1'⟩ := k_w hj (by omega)
      have F1 := Lib.hid (And.intro f1 f1')
      have k1 := cell_regrown d1; have k2 := cell_regrown d2; have k3 := cell_regrown d3
      clear hst f1 f1' b3
      go_wp2_with fail
      refine region_move1 10 _ _ (by rfl) (by rfl) (by rfl) (fun _ _ d _ _ h => by cases d <;> exact h) (by kernel_rfl) (by kernel_rfl) ?_
      simp only [List.take_succ_cons, List.take_zero, List.drop_succ_cons, List.drop_zero]
      repeat (
        refine wpQuietB_step (fun K hK => ?_)
        go_simp
        first
          | (refine hK _ ?_; clear hK K)
          | (apply Exists.intro
             refine ⟨fun _ => ?_, hK _ ?_⟩
             ((fail))
             clear hK K))
      refine wpQuietB_nil ?_
      intro w7 hb7
      have HR7 := HR.out.below hb7
      have B7 := Lib.hid (below_on HB.out hb7)
      have hs7 := B7.out.size
      have hown := HR7.out
      clear k1 k2 k3 d0 d1 d2 d3 hb7
      go_wp2_with (at_builtin; (refine wpList_append_own_at _ rfl _ _ 39 rfl w2.heap.size 24 i0 (.slice none 0 0) 1 24 Try.underlying39 hi0 hz0 hz1 hz2 rfl (by decide) _ _ _ rfl ((hown.alloc _).alloc _) ⟨w7.heap.size + 1, 0, none⟩ 1 1 [hdr (Rw.mk w7.heap.size 3 [p, q, n])] rfl rfl ?y1 ?y2 ?y3 ?y4 ?y5 ?_))
      case y1 =>
        have q1 := heap_alloc_new (w7.alloc (.cells #[.int .i64 p, .int .i64 q, .int .i64 n] 3)) (.cells #[hdr (Rw.mk w7.heap.size 3 [p, q, n])] 24)
        rw [size_alloc] at q1
        exact World.news_of_block (cs := #[hdr (Rw.mk w7.heap.size 3 [p, q, n])]) (t := 24) (fr := (0, 0)) q1
      case y2 => simp [hdr, Value.oneCell']
      case y3 => unfold maxLen; omega
      case y4 => omega
      case y5 => simp; omega
      intro v8 w8 own8 hg8 _ hloc8
      have hrw := fun k hk => (hown.lt k hk).1
      have R8' := HR7.snoc (r := Rw.mk w7.heap.size 3 [p, q, n]) (World.grownBy_alloc w7 _ none) (World.ownsRow_lit w7 #[.int .i64 p, .int .i64 q, .int .i64 n] 3 hs7 (by decide) rfl) (Nat.le_refl _) (World.grownBy_alloc _ _ none) own8 hg8 (by rw [size_alloc, size_alloc]; exact hloc8)
      have B8 : Hid (Below w2.heap.size w2 w8) := ((B7.out.alloc hs7 _).alloc (by simp; omega) _).grown hg8 (by simp; omega) hrw
      have hv8 : ∃ gg, v8.ownBlock = some gg := by
        rcases hloc8 with e | e
        · exact ⟨g, e⟩
        · exact ⟨_, e⟩
      obtain ⟨gg, hgo⟩ := hv8
      obtain ⟨c8, rfl⟩ := slice_some own8 hgo
      have HT : Hid ((Ps ++ [Rw.mk w7.heap.size 3 [p, q, n]]).map Rw.M = rowsM ((toM L).take (j + 1))) := by
        show _ = _
        rw [HST.out, List.map_append, HP.out]; simp [rowsM]
      have el : (Ps ++ [Rw.mk w7.heap.size 3 [p, q, n]]).length = Ps.length + 1 := by simp
      have R8 : Hid (RowsR w8 w2.heap.size (.slice (some ⟨gg, 0, none⟩) (Ps ++ [Rw.mk w7.heap.size 3 [p, q, n]]).length c8) (Ps ++ [Rw.mk w7.heap.size 3 [p, q, n]])) := by
        show RowsR _ _ _ _
        rw [el]; exact R8'
      have f1 := F1.out.1; have f1' := F1.out.2
      clear own8 hg8 hloc8 hrw hown HR7 B7 HR HB R8'
      go_wp2_with fail
      clear f1 f1'
      go_roundw
      case rel => exact ⟨j + 1, _, gg, c8, by omega, by go_num, by rw [el], HT, R8, B8⟩
      case measure => simp [intOf]; omega
    · have hjj : ¬ (j : Int) < (Rs.length : Int) := by omega
      have HT : Hid (Ps.map Rw.M = rowsM (toM L)) := by
        show _ = _
        rw [HP.out, List.take_of_length_le (by rw [toM_len, ← HL.out]; simp; omega)]
      clear HP
      go_wp2_with fail
      go_loopw [6, 10, 42] (fun s _ i wr => ∃ (j : Nat) (Ps : List Rw) (g c : Nat), j ≤ Qs.length ∧ i = .int .i64 j ∧ s = .slice (some ⟨g, 0, none⟩) Ps.length c ∧ Hid (Ps.map Rw.M = rowsM (addV (toM L) ((toM K).take j))) ∧ Hid (RowsR wr w2.heap.size (.slice (some ⟨g, 0, none⟩) Ps.length c) Ps) ∧ Hid (Below w2.heap.size w2 wr)) (fun _ _ i _ => Qs.length - (intOf i).toNat)
      case atStart => exact ⟨0, Ps, g, c, Nat.zero_le _, rfl, rfl, HT, HR, HB⟩
      case round =>
        clear HT HR HB
        obtain ⟨wi, rfl⟩ : ∃ wi : World, wi = wr := ⟨_, rfl⟩
        obtain ⟨k, Ps, g, c, hk, rfl, rfl, HP, HR, HB⟩ := hrel
        by_cases hlk : k < Qs.length
        · have b3 := below_on HB2.out HB.out
          obtain ⟨p, q, n, rg, rc, d0, d1, d2, d3, ⟨-, -, hn⟩, hst⟩ := at_rowM (H2.out.below b3) HK.out G2.out k hlk
          have HST := Lib.hid hst
          have hml : (addV (toM L) ((toM K).take k)).length ≤ 100 := by
            have q1 := addV_len (toM L) ((toM K).take k)
            rw [List.length_take] at q1
            have q2 := G1.out.len
            rw [← toM_len] at q2
            omega
          have HPU := Lib.hid (putS_any w2.heap.size g c rg rc Ps (addV (toM L) ((toM K).take k)) p q n wi HR.out HP.out hml HB.out.size d1 d2 d3 (by omega) (addV_bnd G1.out.ord (fun z hz => (G1.out.key z hz).2) (bnd_take G2.out k) (by rw [List.length_take]; omega)))
          have hkk : (k : Int) < (Qs.length : Int) := by omega
          obtain ⟨f1, f1'⟩ := k_w hk (by omega)
          have F1 := Lib.hid (And.intro f1 f1')
          clear hst f1 f1' b3 d1 d2 d3 hml
          go_wp2_with fail
          refine HPU.out.mono ?_
          rintro e w6 ⟨g6, c6, Us, rfl, hR6, hM6, hb6⟩
          have HR6 := Lib.hid hR6
          have HB6 := Lib.hid (below_on HB.out hb6)
          have HM6 : Hid (Us.map Rw.M = rowsM (addV (toM L) ((toM K).take (k + 1)))) := by
            show _ = _
            rw [hM6, HST.out, addV_snoc]
          have f1 := F1.out.1; have f1' := F1.out.2
          clear hR6 hM6 hb6 HPU HR HB
          go_wp2_with fail
          clear f1 f1'
          go_roundw
          case rel => exact ⟨k + 1, Us, g6, c6, by omega, by go_num, rfl, HM6, HR6, HB6⟩
          case measure => simp [intOf]; omega
        · have hkk : ¬ (k : Int) < (Qs.length : Int) := by omega
          have e : k = Qs.length := by omega
          have HT : Hid (Ps.map Rw.M = addL L K) := by
            show _ = _
            rw [HP.out, e, HN.out.2]
          clear HP e
          go_wp2_with fail
          go_returns
          exact addR_yes HN.out.1 (HR.out.base HB2.out.size) HT.out (below_on HB2.out HB.out)
end Go.Proofs.Ytbmeemmihkedoaa

/-! ConcatR -/
namespace Go.Proofs.Ytbmeemmihkedoaa
open Go.RowKit

theorem grow0_any (w : World) : Calls Try.prog 142 #[.slice none 0 0, .int .i64 0] w fun e w' => e = .returned (.slice none 0 0) ∧ Below w.heap.size w w' := by
  go_enter Try.func142, Try.ntmps142
  go_wp2_with fail
  go_ret
  exact ⟨rfl, Below.refl _ _⟩
set_option maxRecDepth 100000 in
set_option maxHeartbeats 2000000 in
theorem growR_any (n : Nat) (w : World) (h1 : 1 ≤ n) (h2 : n ≤ 1048576) :
    Calls Try.prog 142 #[.slice none 0 0, .int .i64 n] w fun e w' => ∃ g cap, e = .returned (.slice (some ⟨g, 0, none⟩) 0 cap) ∧ w'.ownsRow w.heap.size 24 1 (.slice (some ⟨g, 0, none⟩) 0 cap) 0 [] ∧ Below w.heap.size w w' := by
  obtain ⟨i0, hi0, hz0, hz1, hz2⟩ := info_parts infoR
  have hn0 : ¬ ((n : Int) < 0) := by omega
  have hn1 : (n : Int) > 0 := by omega
  have hold : (Builtin.firstCells i0.size 0 (.slice none 0 0)).run Try.prog w.drew = .ok ([] : List Value).toArray w.drew := run_firstCells_none _ i0.size 0 0 0
  have hrz : ∀ ty, (Builtin.append_ #[39, 3] ty #[.slice none 0 0, .int .i64 n]).run Try.prog w =
      .ok (.slice (some ⟨w.heap.size, 0, none⟩) n (grownCap w n 0 24)) (w.drew.alloc (.cells (([] : List Value).toArray ++ Builtin.zeroCells (Value.slice none 0 0).cells n ++ Builtin.zeroCells (Value.slice none 0 0).cells (grownCap w n 0 24 - n)) 24)) := fun ty => by
    have h := Lib.run_append_grow_zeros w 39 3 ty 24 i0 (.slice none 0 0) .i64 .i64 Try.underlying39 Try.underlying3 hi0 hz0 none 0 0 [] hold n (by omega) (by omega) (by omega) (by omega)
      (by rw [hz2]; omega) (by rw [Nat.zero_add]; exact growslice_fits (by omega) (by rw [hz2]; omega))
    rw [Nat.zero_add] at h
    exact h
  have hGn : n ≤ grownCap w n 0 24 := grownCap_ge w _ _ _
  obtain ⟨G, hG⟩ : ∃ G, G = grownCap w n 0 24 := ⟨_, rfl⟩
  rw [← hG] at hrz hGn
  have hGm : G ≤ maxLen := by rw [hG]; exact grownCap_le_maxLen w n 0 24 (by unfold maxLen; omega)
  have hG63 : G ≤ 9223372036854775807 := by unfold maxLen at hGm; omega
  obtain ⟨C, hC⟩ : ∃ C, C = ([] : List Value).toArray ++ Builtin.zeroCells (Value.slice none 0 0).cells n ++ Builtin.zeroCells (Value.slice none 0 0).cells (G - n) := ⟨_, rfl⟩
  have hCs : C.size = G * 1 := by
    have e : (Value.slice none 0 0).cells.size = 1 := rfl
    rw [hC, Array.size_append, Array.size_append, size_zeroCells, size_zeroCells, e]
    simp; omega
  rw [← hC] at hrz
  have R : Hid ((w.drew.alloc (.cells C 24)).ownsRow w.heap.size 24 1 (.slice (some ⟨w.heap.size, 0, none⟩) 0 G) 0 [] ∧ Below w.heap.size w (w.drew.alloc (.cells C 24))) :=
    ⟨⟨rfl, .inr ⟨w.heap.size, G, C, rfl, Nat.le_refl _, heap_alloc_new w.drew _, Nat.zero_le _, hGm, hCs, rfl⟩⟩, ((Below.refl _ w).drew).alloc (Nat.le_refl _) _⟩
  clear hold hG hC hCs hGm
  go_enter Try.func142, Try.ntmps142
  go_wp2_with (at_builtin; refine Lib.wpList_append_run _ rfl _ _ _ _ rfl _ _ rfl rfl _ _ (hrz _) ?_)
  go_ret
  exact ⟨_, _, rfl, R.out.1, R.out.2⟩
theorem growV_any (n : Nat) (w : World) (h2 : n ≤ 1048576) :
    Calls Try.prog 142 #[.slice none 0 0, .int .i64 n] w fun e w' => ∃ v, e = .returned v ∧ w'.ownsRow w.heap.size 24 1 v 0 [] ∧ Below w.heap.size w w' := by
  rcases Nat.eq_zero_or_pos n with rfl | h
  · refine (grow0_any w).mono ?_
    rintro e w' ⟨rfl, hb⟩
    exact ⟨_, rfl, World.ownsRow_nil _ _ _ _, hb⟩
  · refine (growR_any n w h h2).mono ?_
    rintro e w' ⟨g, cap, rfl, ho, hb⟩
    exact ⟨_, rfl, ho, hb⟩
def catRN (n1 n2 : Nat) : Nat → Nat
  | 0 => 0
  | 1 => n1
  | _ => n1 + n2
def catRL (h1 h2 : List Value) : Nat → List Value
  | 0 => []
  | 1 => h1
  | _ => h1 ++ h2
set_option maxRecDepth 100000 in
set_option maxHeartbeats 4000000 in
theorem concatR_any (g1 n1 c1 g2 n2 c2 gs : Nat) (h1 h2 : List Value) (w : World) (l1 : h1.length = n1) (l2 : h2.length = n2) (hn : n1 + n2 ≤ 1048576)
    (C1 : ∀ j u, h1[j]? = some u → w.cell? ⟨g1, j, none⟩ = some u) (C2 : ∀ j u, h2[j]? = some u → w.cell? ⟨g2, j, none⟩ = some u) (o1 : ∀ u ∈ h1, u.oneCell' = true) (o2 : ∀ u ∈ h2, u.oneCell' = true)
    (s0 : w.cell? ⟨gs, 0, none⟩ = some (.slice (some ⟨g1, 0, none⟩) n1 c1)) (s1 : w.cell? ⟨gs, 1, none⟩ = some (.slice (some ⟨g2, 0, none⟩) n2 c2)) :
    Calls Try.prog 94 #[.slice (some ⟨gs, 0, none⟩) 2 2] w fun e w' => ∃ v, e = .returned v ∧ w'.ownsRow w.heap.size 24 1 v (n1 + n2) (h1 ++ h2) ∧ Below w.heap.size w w' := by
  obtain ⟨i0, hi0, hz0, hz1, hz2⟩ := info_parts infoR
  have HU : Hid ((fun e w' => ∃ v, e = .returned v ∧ w'.ownsRow w.heap.size 24 1 v (n1 + n2) (h1 ++ h2) ∧ Below w.heap.size w w') = fun (e : Ending) (w' : World) => ∃ v, e = .returned v ∧ w'.ownsRow w.heap.size 24 1 v (catRN n1 n2 2) (catRL h1 h2 2) ∧ Below w.heap.size w w') := rfl
  rw [HU.out]
  have HN1 : Hid (∀ W, Below w.heap.size w W → ∀ j u, h1[j]? = some u → W.cell? (Addr.add ⟨g1, 0, none⟩ j) = some u) := fun W hb j u hu => by
    have e : Addr.add ⟨g1, 0, none⟩ j = ⟨g1, j, none⟩ := by unfold Addr.add; split <;> first | (subst_vars; rfl) | simp
    rw [e]; exact cell_on hb rfl (C1 j u hu)
  have HN2 : Hid (∀ W, Below w.heap.size w W → ∀ j u, h2[j]? = some u → W.cell? (Addr.add ⟨g2, 0, none⟩ j) = some u) := fun W hb j u hu => by
    have e : Addr.add ⟨g2, 0, none⟩ j = ⟨g2, j, none⟩ := by unfold Addr.add; split <;> first | (subst_vars; rfl) | simp
    rw [e]; exact cell_on hb rfl (C2 j u hu)
  have HO := Lib.hid (And.intro o1 o2)
  have HL := Lib.hid (And.intro l1 l2)
  have HS0 := Lib.hid s0
  have HS1 := Lib.hid s1
  have HGV := Lib.hid (fun W => growV_any (n1 + n2) W hn)
  rw [Int.natCast_add] at HGV
  clear HU C1 C2 o1 o2 l1 l2
  go_enter Try.func94, Try.ntmps94
  go_wp2_with fail
  go_loop [3, 11] (fun s i => ∃ j : Nat, j ≤ 2 ∧ i = .int .i64 j ∧ s = .int .i64 (catRN n1 n2 j)) (fun _ i => 2 - (intOf i).toNat)
  case atStart => exact ⟨0, by omega, rfl, rfl⟩
  case round =>
    obtain ⟨j, hj, rfl, rfl⟩ := hrel
    match j, hj with
    | 0, _ =>
      have e0 : catRN n1 n2 0 = 0 := rfl
      rw [e0]
      clear e0 s1
      go_wp2_with fail
      go_round
      case rel => exact ⟨1, by omega, by first | rfl | go_num, by first | rfl | go_num⟩
      case measure => simp [intOf]
    | 1, _ =>
      have e0 : catRN n1 n2 1 = n1 := rfl
      have f1 : ((n1 + n2 : Nat) : Int) = (n1 : Int) + (n2 : Int) := by omega
      rw [e0]
      clear e0 s0
      go_wp2_with fail
      go_round
      case rel => exact ⟨2, by omega, by first | rfl | go_num, by first | rfl | go_num | exact congrArg _ f1.symm⟩
      case measure => simp [intOf]
    | 2, _ =>
      have e0 : ((catRN n1 n2 2 : Nat) : Int) = (n1 : Int) + (n2 : Int) := by show ((n1 + n2 : Nat) : Int) = _; omega
      have e3 : ¬ ((n1 : Int) + (n2 : Int) < 0) := by omega
      rw [e0]
      clear e0 s0 s1
      go_wp2_with fail
      refine (HGV.out w).mono ?_
      rintro e w1 ⟨v1, rfl, own1, b1⟩
      have R1 := Lib.hid (And.intro own1 b1)
      clear own1 b1 e3
      go_wp2_with fail
      go_loopw [6, 27] (fun v i wr => ∃ j : Nat, j ≤ 2 ∧ i = .int .i64 j ∧ wr.ownsRow w.heap.size 24 1 v (catRN n1 n2 j) (catRL h1 h2 j) ∧ Below w.heap.size w wr) (fun _ i _ => 2 - (intOf i).toNat)
      case atStart => exact ⟨0, by omega, by first | rfl | go_num, R1.out.1, R1.out.2⟩
      case round =>
        obtain ⟨j, hj, rfl, own, b⟩ := hrel
        match j, hj with
        | 0, _ =>
          have s0 := cell_on b rfl HS0.out
          have HN := Lib.hid (HN1.out _ b)
          have hsz := b.size
          have own0 : wr.ownsRow w.heap.size 24 1 u6 0 [] := own
          have HB := Lib.hid b
          clear own b
          go_wp2_with (at_builtin; refine wpList_append_own _ rfl _ _ 39 rfl w.heap.size 24 i0 (.slice none 0 0) 1 24 Try.underlying39 hi0 hz0 hz1 hz2 rfl (by decide) _ _ _ rfl own0 ⟨g1, 0, none⟩ n1 c1 h1 rfl (by have := HL.out.1; omega) HN.out HO.out.1 ?x3 ?x4 hsz ?_)
          case x3 => unfold maxLen; omega
          case x4 => omega
          intro v' w6 own6 hgrow _
          have R : Hid (w6.ownsRow w.heap.size 24 1 v' (catRN n1 n2 1) (catRL h1 h2 1) ∧ Below w.heap.size w w6) :=
            ⟨show w6.ownsRow w.heap.size 24 1 v' n1 h1 from by simpa using own6, HB.out.grown hgrow hsz (fun q hq => (own0.lt q hq).1)⟩
          clear own0 own6 hgrow s0
          go_wp2_with fail
          go_roundw
          case rel => exact ⟨1, by omega, by first | rfl | go_num, R.out.1, R.out.2⟩
          case measure => simp [intOf]
        | 1, _ =>
          have s0 := cell_on b rfl HS1.out
          have HN := Lib.hid (HN2.out _ b)
          have hsz := b.size
          have own0 : wr.ownsRow w.heap.size 24 1 u6 n1 h1 := own
          have HB := Lib.hid b
          clear own b
          go_wp2_with (at_builtin; refine wpList_append_own _ rfl _ _ 39 rfl w.heap.size 24 i0 (.slice none 0 0) 1 24 Try.underlying39 hi0 hz0 hz1 hz2 rfl (by decide) _ _ _ rfl own0 ⟨g2, 0, none⟩ n2 c2 h2 rfl (by have := HL.out.2; omega) HN.out HO.out.2 ?y3 ?y4 hsz ?_)
          case y3 => unfold maxLen; omega
          case y4 => omega
          intro v' w6 own6 hgrow _
          have R : Hid (w6.ownsRow w.heap.size 24 1 v' (catRN n1 n2 2) (catRL h1 h2 2) ∧ Below w.heap.size w w6) :=
            ⟨own6, HB.out.grown hgrow hsz (fun q hq => (own0.lt q hq).1)⟩
          clear own0 own6 hgrow s0
          go_wp2_with fail
          go_roundw
          case rel => exact ⟨2, by omega, by first | rfl | go_num, R.out.1, R.out.2⟩
          case measure => simp [intOf]
        | 2, _ =>
          have R := Lib.hid (And.intro own b)
          clear own b
          go_wp2_with fail
          go_ret
          exact ⟨_, rfl, R.out.1, R.out.2⟩
end Go.Proofs.Ytbmeemmihkedoaa

/-! AddI -/
namespace Go.Proofs.Ytbmeemmihkedoaa
open Go.RowKit
open Go.ChangeMaps Go.MapKept Go.WideShapes
attribute [local go_sem] quietB uponB

theorem own_some {w : World} {B : Nat} {e : TypeId} {v : Value} {n : Nat} {xs : List Value} (h : w.ownsRow B e 1 v n xs) (h0 : 0 < n) : ∃ g c, v = .slice (some ⟨g, 0, none⟩) n c ∧ B ≤ g := by
  rcases h.2 with ⟨rfl, h1⟩ | ⟨g, c, cur, rfl, hg, -, -⟩
  · omega
  · exact ⟨g, c, rfl, hg⟩
theorem own_form {w : World} {B : Nat} {e : TypeId} {v : Value} {n : Nat} {xs : List Value} (h : w.ownsRow B e 1 v n xs) : ∃ A c, v = .slice A n c := by
  rcases h.2 with ⟨rfl, h1⟩ | ⟨g, c, cur, rfl, hg, -, -⟩
  · exact ⟨none, 0, by rw [h1]⟩
  · exact ⟨_, c, rfl⟩
/-- The header at j and the row behind it, of two lists laid one behind the other. -/
theorem at_both {w wc : World} {B1 B2 g1 c1 g2 c2 : Nat} {Rs Qs : List Rw} {L K : List (List Int)} (h1 : RowsR w B1 (.slice (some ⟨g1, 0, none⟩) Rs.length c1) Rs) (h2 : RowsR w B2 (.slice (some ⟨g2, 0, none⟩) Qs.length c2) Qs) (hL : Rs.map Rw.M = L) (hK : Qs.map Rw.M = K) (hG1 : GoodL L) (hG2 : GoodL K)
    {v : Value} {N : Nat} (hN : N = Rs.length + Qs.length) {Bc : Nat} (hc : w.heap.size < Bc) (ho : wc.ownsRow Bc 24 1 v N (Rs.map hdr ++ Qs.map hdr)) (hb : Below w.heap.size w wc) {b : Nat} (hbw : b = w.heap.size) {wr : World} (hg : wc.grownBy wr (some b)) (j : Nat) (hj : j < N) :
    ∃ p q n rg rc gc cc, v = .slice (some ⟨gc, 0, none⟩) N cc ∧ wr.cell? ⟨gc, j, none⟩ = some (.slice (some ⟨rg, 0, none⟩) 3 rc) ∧ wr.cell? ⟨rg, 0, none⟩ = some (.int .i64 p) ∧ wr.cell? ⟨rg, 1, none⟩ = some (.int .i64 q) ∧ wr.cell? ⟨rg, 2, none⟩ = some (.int .i64 n) ∧ (p.natAbs ≤ 1000 ∧ q.natAbs ≤ 1000 ∧ n.natAbs ≤ 1000) ∧ (toM L ++ toM K).take (j + 1) = (toM L ++ toM K).take j ++ [((p, q), n)] := by
  obtain ⟨gc, cc, rfl, hgc⟩ := own_some ho (by omega)
  have hcell := ho.cellAt j (by omega)
  have hkeep : ∀ {g o : Nat} {u : Value}, w.cell? ⟨g, o, none⟩ = some u → wr.cell? ⟨g, o, none⟩ = some u := fun {g o u} hu => by
    have hlt : g < w.heap.size := cell_lt hu
    exact hg.cell (cell_on hb rfl hu) (fun e => by have e : g = b := Option.some.inj e; omega)
  have hcell' : wr.cell? ⟨gc, j, none⟩ = (Rs.map hdr ++ Qs.map hdr)[j]? := by
    have e : (Rs.map hdr ++ Qs.map hdr)[j]? = some ((Rs.map hdr ++ Qs.map hdr)[j]'(by simp; omega)) := List.getElem?_eq_getElem _
    rw [e] at hcell ⊢
    exact hg.cell hcell (fun e => by have e : gc = b := Option.some.inj e; omega)
  have hl1 : (toM L).length = Rs.length := by rw [toM_len, ← hL]; simp
  rcases Nat.lt_or_ge j Rs.length with q | q
  · obtain ⟨p, q', n, rg, rc, d0, d1, d2, d3, hbd, hst⟩ := at_rowM h1 hL hG1 j q
    refine ⟨p, q', n, rg, rc, gc, cc, rfl, ?_, hkeep d1, hkeep d2, hkeep d3, hbd, ?_⟩
    · have hh := h1.out.cellAt j (by omega)
      rw [d0] at hh
      rw [hcell', List.getElem?_append_left (by simpa using q)]
      exact hh.symm
    · rw [List.take_append_of_le_length (by omega), List.take_append_of_le_length (by omega)]; exact hst
  · obtain ⟨p, q', n, rg, rc, d0, d1, d2, d3, hbd, hst⟩ := at_rowM h2 hK hG2 (j - Rs.length) (by omega)
    refine ⟨p, q', n, rg, rc, gc, cc, rfl, ?_, hkeep d1, hkeep d2, hkeep d3, hbd, ?_⟩
    · have hh := h2.out.cellAt (j - Rs.length) (by omega)
      rw [d0] at hh
      rw [hcell', List.getElem?_append_right (by simpa using q), List.length_map]
      exact hh.symm
    · rw [List.take_append, List.take_append, hl1, show j + 1 - Rs.length = j - Rs.length + 1 by omega, hst, List.take_of_length_le (show (toM L).length ≤ j + 1 by omega), List.take_of_length_le (show (toM L).length ≤ j by omega), List.append_assoc]
theorem addV_val {B : Ms} (h2 : ∀ z ∈ B, z.2.natAbs ≤ 1000) (hB : B.length ≤ 48) (e : Int × Int) : (valM (addV [] B) e).natAbs ≤ 1000000 := by
  rw [valM_addV ordM_nil]
  have := sumV_le h2 e
  show (0 + _ : Int).natAbs ≤ _
  omega
set_option maxRecDepth 100000 in
set_option maxHeartbeats 4000000 in
theorem impl_add (B1 g1 c1 B2 g2 c2 : Nat) (Rs Qs : List Rw) (L K : List (List Int)) (w : World) (h1 : RowsR w B1 (.slice (some ⟨g1, 0, none⟩) Rs.length c1) Rs) (h2 : RowsR w B2 (.slice (some ⟨g2, 0, none⟩) Qs.length c2) Qs) (hL : Rs.map Rw.M = L) (hK : Qs.map Rw.M = K)
    (m1 : Rs.length ≤ 1048576) (m2 : Qs.length ≤ 1048576) (k1 : ∀ r ∈ Rs, r.M.length ≤ 1048576) (k2 : ∀ r ∈ Qs, r.M.length ≤ 1048576) :
    Calls Try.prog 42 #[.slice (some ⟨g1, 0, none⟩) Rs.length c1, .slice (some ⟨g2, 0, none⟩) Qs.length c2] w (AddR w L K) := by
  have C1 := Lib.hid (impl_listOk B1 _ Rs L w h1 hL m1 k1)
  have C2 := Lib.hid (fun W hb => impl_listOk B2 _ Qs K W (h2.below hb) hK m2 k2)
  have H1 := Lib.hid h1; have H2 := Lib.hid h2
  have HL := Lib.hid hL; have HK := Lib.hid hK
  have HV : Hid (addB L K = (listOk L && listOk K)) := rfl
  clear h1 h2 hL hK k1 k2
  cases a1 : listOk L
  · rw [a1] at C1 HV
    have HN : Hid (addB L K = false) := HV.out
    go_enter Try.func42, Try.ntmps42
    go_wp2_with fail
    refine C1.out.mono ?_
    rintro e w1 ⟨rfl, hb1⟩
    go_wp2_with fail
    go_returns
    exact addR_no HN.out hb1
  cases a2 : listOk K
  · rw [a1, a2] at HV
    rw [a1] at C1
    rw [a2] at C2
    have HN : Hid (addB L K = false) := HV.out
    go_enter Try.func42, Try.ntmps42
    go_wp2_with fail
    refine C1.out.mono ?_
    rintro e w1 ⟨rfl, hb1⟩
    go_wp2_with fail
    refine (C2.out _ hb1).mono ?_
    rintro e w2 ⟨rfl, hb2⟩
    go_wp2_with fail
    go_returns
    exact addR_no HN.out (below_on hb1 hb2)
  have G1 := Lib.hid (goodL_of a1); have G2 := Lib.hid (goodL_of a2)
  rw [a1, a2] at HV
  rw [a1] at C1
  rw [a2] at C2
  have n1 : Rs.length ≤ 24 := by have := G1.out.len; rw [← HL.out] at this; simpa using this
  have n2 : Qs.length ≤ 24 := by have := G2.out.len; rw [← HK.out] at this; simpa using this
  have hl1 : (toM L).length = Rs.length := by rw [toM_len, ← HL.out]; simp
  have hl2 : (toM K).length = Qs.length := by rw [toM_len, ← HK.out]; simp
  have HN : Hid (addB L K = true ∧ addL L K = rowsM (addV [] ((toM L ++ toM K).take (Rs.length + Qs.length)))) := by
    refine ⟨HV.out, ?_⟩
    unfold addL
    rw [HV.out, List.take_of_length_le (by simp; omega), addV_append, addV_nil G1.out.ord]; rfl
  have HLZ : Hid ((toM L ++ toM K).length = Rs.length + Qs.length) := by show _ = _; simp; omega
  have HBD : Hid (∀ j, ∀ z ∈ (toM L ++ toM K).take j, z.2.natAbs ≤ 1000) := fun j z hz => by
    rcases List.mem_append.1 (List.mem_of_mem_take hz) with q | q
    · exact (G1.out.key z q).2
    · exact (G2.out.key z q).2
  clear HV a1 a2 hl1 hl2
  go_enter Try.func42, Try.ntmps42
  go_wp2_with fail
  refine C1.out.mono ?_
  rintro e w1 ⟨rfl, hb1⟩
  go_wp2_with fail
  refine (C2.out _ hb1).mono ?_
  rintro e w2 ⟨rfl, hb2⟩
  have HB2 := Lib.hid (below_on hb1 hb2)
  clear hb1 hb2 C1 C2
  have b3 := below2 w2 (.map #[] 0) (.cells #[.slice (some ⟨g1, 0, none⟩) Rs.length c1, .slice (some ⟨g2, 0, none⟩) Qs.length c2] 39)
  have HM3 := Lib.hid ((mapM_made w2).on (below1 (w2.alloc (.map #[] 0)) (.cells #[.slice (some ⟨g1, 0, none⟩) Rs.length c1, .slice (some ⟨g2, 0, none⟩) Qs.length c2] 39)))
  have HNW := heap_alloc_new (w2.alloc (.map #[] 0)) (.cells #[.slice (some ⟨g1, 0, none⟩) Rs.length c1, .slice (some ⟨g2, 0, none⟩) Qs.length c2] 39)
  have bw := below_on HB2.out b3
  have r1 := H1.out.below bw; have r2 := H2.out.below bw
  have HCO := Lib.hid (concatR_any g1 Rs.length c1 g2 Qs.length c2 (w2.alloc (.map #[] 0)).heap.size (Rs.map hdr) (Qs.map hdr) _ (by simp) (by simp) (by omega) (fun j u hu => by
      have := news_take r1 Rs.length (Nat.le_refl _) j u (by rw [List.take_of_length_le (by simp)]; exact hu)
      exact this) (fun j u hu => by
      have := news_take r2 Qs.length (Nat.le_refl _) j u (by rw [List.take_of_length_le (by simp)]; exact hu)
      exact this) (hdr_one (Rs := Rs) fun u hu => hu) (hdr_one (Rs := Qs) fun u hu => hu) (cell_of_row _ _ 0 _ _ _ HNW) (cell_of_row _ _ 1 _ _ _ HNW))
  rw [show (w2.alloc (.map #[] 0)).heap.size = w2.heap.size + 1 from size_alloc _ _] at HCO
  have HBW := Lib.hid bw
  have hmm := @run_makeMap Try.prog
  clear b3 HNW bw r1 r2
  go_wp2_with fail
  refine HCO.out.mono ?_
  rintro e w3 ⟨vc, rfl, oc, hb3⟩
  obtain ⟨N, hN⟩ : ∃ N, N = Rs.length + Qs.length := ⟨_, rfl⟩
  rw [← hN] at oc HN HLZ
  obtain ⟨Ac, cc, rfl⟩ := own_form oc
  have b2 := below2 w2 (.map #[] 0) (.cells #[.slice (some ⟨g1, 0, none⟩) Rs.length c1, .slice (some ⟨g2, 0, none⟩) Qs.length c2] 39)
  have HB23 := Lib.hid (below_on b2 hb3)
  have HAT := Lib.hid (fun wr hg j hj => at_both (b := w2.heap.size) (wr := wr) (H1.out.below HB2.out) (H2.out.below HB2.out) HL.out HK.out G1.out G2.out hN (by simp; omega) oc (below_on b2 hb3) rfl hg j hj)
  have HMM3 := Lib.hid (HM3.out.on hb3)
  clear b2 hb3 oc HM3 HCO hmm
  go_wp2_with fail
  go_loopw [8, 23] (fun _ i wr => ∃ j : Nat, j ≤ N ∧ i = .int .i64 j ∧ Hid (MapM wr w2.heap.size (addV [] ((toM L ++ toM K).take j)) j) ∧ Hid (w3.grownBy wr (some w2.heap.size))) (fun _ i _ => N - (intOf i).toNat)
  case atStart => exact ⟨0, Nat.zero_le _, rfl, HMM3, World.grownBy.refl _ _⟩
  case round =>
    clear HMM3
    obtain ⟨wo, rfl⟩ : ∃ wo : World, wo = wr := ⟨_, rfl⟩
    obtain ⟨j, hj, rfl, HM, HG⟩ := hrel
    by_cases hlt : j < N
    · obtain ⟨p, q, n, rg, rc, gc, cc', hv, d0, d1, d2, d3, hbd, hst⟩ := HAT.out wo HG.out j hlt
      simp only [Value.slice.injEq] at hv
      obtain ⟨rfl, -, rfl⟩ := hv
      have HST := Lib.hid hst
      have hjj : (j : Int) < (N : Int) := by omega
      obtain ⟨f1, f1'⟩ := k_w hj (by omega)
      have F1 := Lib.hid (And.intro f1 f1')
      have k1 := cell_regrown d1; have k2 := cell_regrown d2; have k3 := cell_regrown d3
      have HMD := Lib.hid (fun W h1 h2 => measDir_any rg rc p q W h1 h2)
      have hvl := addV_val (HBD.out j) (by rw [List.length_take]; omega) (p, q)
      clear hst f1 f1'
      go_wp2_with fail
      refine region_move1 6 _ _ (by rfl) (by rfl) (by rfl) (fun _ _ d _ _ h => by cases d <;> exact h) (by kernel_rfl) (by kernel_rfl) ?_
      simp only [List.take_succ_cons, List.take_zero, List.drop_succ_cons, List.drop_zero]
      repeat (
        refine wpQuietB_step (fun K hK => ?_)
        go_simp
        first
          | (refine hK _ ?_; clear hK K)
          | (apply Exists.intro
             refine ⟨fun _ => ?_, hK _ ?_⟩
             ((first | exact Calls.now (HMD.out _ (k1 _ _) (k2 _ _))))
             clear hK K))
      refine wpQuietB_nil ?_
      intro w7 hb7
      have HC := Lib.hid (tally_any w2.heap.size j (addV [] ((toM L ++ toM K).take j)) p q n w7 (HM.out.on hb7) (addV_ord ordM_nil _) (WalkArith.wf_i64 (by omega)) (WalkArith.wf_i64 (by omega)) (by omega) hvl (by omega))
      have HG7 := Lib.hid (HG.out.trans ((belowT_grown hb7).but (some w2.heap.size)))
      clear k1 k2 k3 d0 d1 d2 d3 hb7 HMD hvl HM HG hbd
      go_wp2_with fail
      refine HC.out.mono ?_
      rintro e w8 ⟨⟨r, rfl⟩, hM8, hg8⟩
      have HM8 : Hid (MapM w8 w2.heap.size (addV [] ((toM L ++ toM K).take (j + 1))) (j + 1)) := by
        show MapM _ _ _ _
        rw [HST.out, addV_snoc]; exact hM8
      have HG8 := Lib.hid (HG7.out.trans hg8)
      have f1 := F1.out.1; have f1' := F1.out.2
      clear hM8 hg8 HC HG7
      go_wp2_with fail
      clear f1 f1'
      go_roundw
      case rel => exact ⟨j + 1, by omega, by go_num, HM8, HG8⟩
      case measure => simp [intOf]; omega
    · have hjj : ¬ (j : Int) < (N : Int) := by omega
      obtain rfl : j = N := by omega
      have HLI := Lib.hid (listM_any w2.heap.size j _ wo (addV_ord ordM_nil _) HM.out (by have := addV_len [] ((toM L ++ toM K).take j); rw [List.length_take] at this; simp at this; omega))
      have HBo : Hid (Below w.heap.size w wo) := (below_on HB2.out HB23.out).grown HG.out (Nat.le_trans HB2.out.size HB23.out.size) (fun k hk => by cases hk; exact HB2.out.size)
      clear HM HG
      go_wp2_with fail
      refine HLI.out.mono ?_
      rintro e w9 ⟨v9, R9, rfl, hR9, hM9, hb9⟩
      have HF := Lib.hid (addR_yes (w := w) (L := L) (K := K) HN.out.1 (hR9.base HBo.out.size) (hM9.trans HN.out.2.symm) (below_on HBo.out hb9))
      clear hR9 hM9 hb9 HLI
      go_wp2_with fail
      go_returns
      exact HF.out
end Go.Proofs.Ytbmeemmihkedoaa

/-! Law7E -/
namespace Go.Proofs.Ytbmeemmihkedoaa
open Go.RowKit

set_option maxRecDepth 100000 in
set_option maxHeartbeats 1600000 in
theorem szSS2_any (A : Option Addr) (c : Nat) (Ms : List (List Int)) (m : Int) (w : World) (hA : ArgSS w A Ms) (hm : 0 ≤ m ∧ m ≤ 1048576) (hL : Ms.length ≤ maxLen) :
    Calls Try.prog 37 #[.slice A Ms.length c, .int .i64 m] w fun e w' => (∃ z : Int, e = .returned (.int .i64 z) ∧ (z = -1 ∨ (0 ≤ z ∧ z ≤ 1048576 ∧ Ms.length ≤ 1048576 ∧ ∀ M ∈ Ms, M.length ≤ 1048576))) ∧ w' = w := by
  have HA := Lib.hid hA; clear hA
  have hl9 : Ms.length ≤ 9223372036854775807 := by unfold maxLen at hL; omega
  have e1 : wrap64 (m - (Ms.length : Int)) = m - (Ms.length : Int) := IntWalk.wrap64_in _ (by omega)
  by_cases h : m - (Ms.length : Int) < 0
  · clear hL
    go_enter Try.func37, Try.ntmps37
    go_wp2_with fail
    go_ret
    exact ⟨⟨-1, rfl, .inl rfl⟩, rfl⟩
  · have hn : Ms.length ≤ 1048576 := by omega
    clear hL hl9
    go_enter Try.func37, Try.ntmps37
    go_wp2_with fail
    clear e1
    go_loopw [1, 5] (fun l i wr => ∃ (k : Nat) (z : Int), k ≤ Ms.length ∧ Hid (0 ≤ z ∧ z ≤ 1048576) ∧ i = .int .i64 k ∧ l = .int .i64 z ∧ Hid (∀ j (hj : j < Ms.length), j < k → (Ms[j]).length ≤ 1048576) ∧ wr = w) (fun _ i _ => Ms.length - (intOf i).toNat)
    case atStart => exact ⟨0, _, Nat.zero_le _, by show _ ∧ _; omega, rfl, rfl, fun j _ hj => by omega, rfl⟩
    case round =>
      obtain ⟨k, z, hk, HZ, rfl, rfl, HS, rfl⟩ := hrel
      by_cases hlt : k < Ms.length
      · obtain ⟨a, Ak, ck, rfl, hl, h1, h2, h3⟩ := HA.out k hlt
        have hz := HZ.out
        have HC := Lib.hid (szI_any Ak (Ms[k]).length ck z wr (by omega) (by unfold maxLen at h2; omega))
        have HN : Hid (¬ z - ((Ms[k]).length : Int) < 0 → ∀ j (hj : j < Ms.length), j < k + 1 → (Ms[j]).length ≤ 1048576) := fun hq j hj hj1 => by
          rcases Nat.lt_or_ge j k with q | q
          · exact HS.out j hj q
          · obtain rfl : j = k := by omega
            omega
        have f1 := (k_w' hk hn).1; have f1' := (k_w' hk hn).2
        clear h2 h3 hz
        generalize (Ms[k]).length = len at *
        by_cases hq : z - (len : Int) < 0
        · rw [if_pos hq] at HC
          go_wp2_with fail
          refine HC.out.mono ?_
          rintro e w2 ⟨rfl, rfl⟩
          go_wp2_with fail
          go_ret
          exact ⟨⟨-1, rfl, .inl rfl⟩, rfl⟩
        · rw [if_neg hq] at HC
          have HZ2 : Hid (0 ≤ z - (len : Int) ∧ z - (len : Int) ≤ 1048576) := by have := HZ.out; show _ ∧ _; omega
          have HS2 := Lib.hid (HN.out hq)
          go_wp2_with fail
          refine HC.out.mono ?_
          rintro e w2 ⟨rfl, rfl⟩
          go_wp2_with fail
          clear f1 f1'
          go_roundw
          case rel => exact ⟨k + 1, z - (len : Int), hlt, HZ2, by go_num, rfl, HS2.out, by first | trivial | rfl⟩
          case measure => simp [intOf]; omega
      · have HF : Hid (∀ M ∈ Ms, M.length ≤ 1048576) := fun M hM => by
          obtain ⟨j, hj, rfl⟩ := List.getElem_of_mem hM
          exact HS.out j hj (by omega)
        go_wp2_with fail
        go_ret
        exact ⟨⟨z, rfl, .inr ⟨HZ.out.1, HZ.out.2, hn, HF.out⟩⟩, rfl⟩
theorem markB_w {s : Int} {k : Nat} (h0 : 0 ≤ s) (h1 : s ≤ 4611686018427387904) (hk : k ≤ 1048576) : wrap64 (s + (k : Int) + 1) = s + ((k + 1 : Nat) : Int) ∧ IntKind.i64.wrap (s + (k : Int) + 1) = s + ((k + 1 : Nat) : Int) := by
  have e : s + (k : Int) + 1 = s + ((k + 1 : Nat) : Int) := by omega
  rw [e]
  exact ⟨IntWalk.wrap64_in _ (by omega), IntWalk.i64_in _ (by omega)⟩
set_option maxRecDepth 100000 in
set_option maxHeartbeats 800000 in
theorem markB_row (B g cap : Nat) (n : Nat) (xs : List Value) (s : Int) (w : World) (hown : w.ownsRow B 3 1 (.slice (some ⟨g, 0, none⟩) n cap) n xs) (hn : n ≤ 1048576) (hs0 : 0 ≤ s) (hs1 : s ≤ 4611686018427387904) :
    Calls Try.prog 18 #[.slice (some ⟨g, 0, none⟩) n cap, .int .i64 s] w fun e w' => e = .returned (.int .i64 (s + (n : Int))) ∧ w'.ownsRow B 3 1 (.slice (some ⟨g, 0, none⟩) n cap) n (ints (marksS s n)) ∧ w.grownBy w' (some g) := by
  have hl : xs.length = n := by have := hown.1; omega
  go_enter Try.func18, Try.ntmps18
  go_wp2_with fail
  go_loopw [1, 5] (fun m i wr => ∃ (k : Nat) (sv : Int), k ≤ n ∧ Hid (sv = s + (k : Int)) ∧ i = .int .i64 k ∧ m = .int .i64 sv ∧ wr.ownsRow B 3 1 (.slice (some ⟨g, 0, none⟩) n cap) n (ints (marksS s k) ++ xs.drop k) ∧ w.grownBy wr (some g)) (fun _ i _ => n - (intOf i).toNat)
  case atStart => exact ⟨0, s, Nat.zero_le _, by show s = s + ((0 : Nat) : Int); omega, rfl, rfl, by simpa [marksS, ints] using hown, World.grownBy.refl _ _⟩
  case round =>
    obtain ⟨k, sv, hk, HS, rfl, rfl, hown', hgr⟩ := hrel
    by_cases hlt : k < n
    · obtain ⟨u1, hc1⟩ := cell_some1 hown' k hlt
      have hf1 := hown'.frozenAt k
      have hs2 := (hown'.stored k (.int .i64 sv)).1
      have hst := marksS_step (s := s) (j := k) (xs := xs) (by omega)
      rw [← HS.out] at hst
      rw [hst] at hs2
      have hg2 := only_set hgr k (.int .i64 sv)
      have R := Lib.hid (And.intro hs2 hg2)
      obtain ⟨f1, f1'⟩ := markB_w (s := s) (k := k) hs0 hs1 (by omega)
      have HS1 : Hid (s + ((k + 1 : Nat) : Int) = sv + 1) := by show _ = _; rw [HS.out]; omega
      rw [← HS.out, HS1.out] at f1 f1'
      have HS2 : Hid (sv + 1 = s + ((k + 1 : Nat) : Int)) := HS1.out.symm
      clear hs2 hst hg2 hown' hgr hown HS1
      go_wp2_with fail
      clear f1 f1'
      go_roundw
      case rel => exact ⟨k + 1, sv + 1, by omega, HS2, by go_num, rfl, R.out.1, R.out.2⟩
      case measure => simp [intOf]; omega
    · obtain rfl : k = n := by omega
      rw [List.drop_of_length_le (by omega), List.append_nil] at hown'
      have R := Lib.hid hown'
      clear hown' hown
      go_wp2_with fail
      go_ret
      exact ⟨by rw [HS.out]; rfl, R.out, hgr⟩
set_option maxRecDepth 100000 in
set_option maxHeartbeats 800000 in
/-- Rows of any length are overwritten; nothing else is. -/
theorem markA_rows (B : Nat) (v : Value) (Rs : List Rw) (s0 : Int) (w : World) (h : RowsR w B v Rs) (hn : Rs.length ≤ 1048576) (hlen : ∀ r ∈ Rs, r.M.length ≤ 1048576) (h0 : 0 ≤ s0) (h1 : s0 ≤ 2305843009213693952) :
    Calls Try.prog 29 #[v, .int .i64 s0] w fun e w' => (∃ z : Int, e = .returned (.int .i64 z) ∧ 0 ≤ z ∧ z ≤ s0 + 1099511627776) ∧ ButRows Rs w w' := by
  obtain ⟨A, c, rfl, hcells⟩ := h.form
  have HC := Lib.hid hcells
  have HLEN := Lib.hid hlen
  have HND := Lib.hid h.nodup
  have HFA := Lib.hid h.far
  have HO := Lib.hid h.out
  have HRW : Hid (∀ j (hj : j < Rs.length), 0 ≤ j → w.ownsRow B 3 1 (hdr Rs[j]) (Rs[j]).M.length (ints (Rs[j]).M)) := fun j hj _ => h.row _ (List.getElem_mem hj)
  clear h hlen hcells
  go_enter Try.func29, Try.ntmps29
  go_wp2_with fail
  go_loopw [1, 5] (fun m i wr => ∃ (k : Nat) (sv : Int), k ≤ Rs.length ∧ Hid (0 ≤ sv ∧ sv ≤ s0 + 1048576 * (k : Int)) ∧ i = .int .i64 k ∧ m = .int .i64 sv ∧ Hid (wr.ownsRow B 24 1 (.slice A Rs.length c) Rs.length (Rs.map hdr)) ∧ Hid (∀ j (hj : j < Rs.length), k ≤ j → wr.ownsRow B 3 1 (hdr Rs[j]) (Rs[j]).M.length (ints (Rs[j]).M)) ∧ Hid (ButRows Rs w wr)) (fun _ i _ => Rs.length - (intOf i).toNat)
  case atStart => exact ⟨0, s0, Nat.zero_le _, by show _ ∧ _; omega, rfl, rfl, HO, HRW, ButRows.refl _ _⟩
  case round =>
    clear HO HRW
    obtain ⟨wo, rfl⟩ : ∃ wo : World, wo = wr := ⟨_, rfl⟩
    obtain ⟨k, sv, hk, HS, rfl, rfl, HO, HR, HK⟩ := hrel
    by_cases hlt : k < Rs.length
    · obtain ⟨g, hA1, -⟩ := HC.out k hlt
      subst hA1
      have hc : wo.cell? ⟨g, k, none⟩ = some (hdr Rs[k]) := by
        rw [HO.out.cellAt k (by omega)]; simp [hlt]
      have hrow := HR.out k hlt (Nat.le_refl _)
      have hq := HLEN.out _ (List.getElem_mem hlt)
      have hsv := HS.out
      have HM := Lib.hid (markB_row B (Rs[k]).g (Rs[k]).cap _ _ sv wo hrow hq hsv.1 (by omega))
      have HST : Hid (∀ w', wo.grownBy w' (some (Rs[k]).g) → w'.ownsRow B 24 1 (.slice (some ⟨g, 0, none⟩) Rs.length c) Rs.length (Rs.map hdr) ∧ ∀ j (hj : j < Rs.length), k + 1 ≤ j → w'.ownsRow B 3 1 (hdr Rs[j]) (Rs[j]).M.length (ints (Rs[j]).M)) := fun w' hg =>
        ⟨HO.out.kept hg (.inr (fun e => HFA.out _ (List.getElem_mem hlt) e)), fun j hj hkj => (HR.out j hj (by omega)).kept hg (.inr (fun e => by
          rw [hdr_own] at e
          have := g_inj HND.out hj hlt (Option.some.inj e)
          omega))⟩
      have HIN : Hid (∀ j, (∀ r ∈ Rs, r.g ≠ j) → (Rs[k]).g ≠ j) := fun j hh => hh _ (List.getElem_mem hlt)
      obtain ⟨f1, f1'⟩ := k_w' hk hn
      have HS1 : Hid (0 ≤ sv + ((Rs[k]).M.length : Int) ∧ sv + ((Rs[k]).M.length : Int) ≤ s0 + 1048576 * ((k + 1 : Nat) : Int)) := by show _ ∧ _; omega
      clear hrow hsv hq HO HR
      unfold hdr at hc
      generalize (Rs[k]).M.length = q at *
      generalize (Rs[k]).g = gk at *
      generalize (Rs[k]).cap = ck at *
      go_wp2_with fail
      refine HM.out.mono ?_
      rintro e w2 ⟨rfl, -, hg⟩
      have R2 := HST.out w2 hg
      have HO2 := Lib.hid R2.1; have HR2 := Lib.hid R2.2
      have K2 := Lib.hid (HK.out.step hg HIN.out)
      clear hg hc R2
      go_wp2_with fail
      clear f1 f1'
      go_roundw
      case rel => exact ⟨k + 1, sv + (q : Int), by omega, HS1, by go_num, rfl, HO2, HR2, K2⟩
      case measure => simp [intOf]; omega
    · obtain rfl : k = Rs.length := by omega
      have hs := HS.out
      have HZ : Hid (0 ≤ sv ∧ sv ≤ s0 + 1099511627776) := by show _ ∧ _; omega
      clear hs
      go_wp2_with fail
      go_ret
      exact ⟨⟨sv, rfl, HZ.out.1, HZ.out.2⟩, HK.out⟩
theorem RowsR.butUp {w w' : World} {B N : Nat} {v : Value} {Rs Qs : List Rw} (h : RowsR w B v Rs) (hb : ButRows Qs w w') (hl : (∀ k, v.ownBlock = some k → N ≤ k) ∧ ∀ r ∈ Rs, N ≤ r.g) (hh : ∀ r ∈ Qs, r.g < N) : RowsR w' B v Rs :=
  ⟨hb.own h.out (fun r hr e => by have := hl.1 _ e; have := hh r hr; omega), fun x hx => hb.own (h.row x hx) (fun r hr e => by have := hl.2 x hx; have := hh r hr; have e2 : x.g = r.g := Option.some.inj e; omega), h.far, h.nodup⟩
theorem spec_add2 (B1 g1 c1 B2 g2 c2 : Nat) (Rs Qs : List Rw) (L K : List (List Int)) (w : World) (h1 : RowsR w B1 (.slice (some ⟨g1, 0, none⟩) L.length c1) Rs) (h2 : RowsR w B2 (.slice (some ⟨g2, 0, none⟩) K.length c2) Qs) (hL : Rs.map Rw.M = L) (hK : Qs.map Rw.M = K)
    (m1 : L.length ≤ 1048576) (m2 : K.length ≤ 1048576) (k1 : ∀ m ∈ L, m.length ≤ 1048576) (k2 : ∀ m ∈ K, m.length ≤ 1048576) :
    Calls Try.prog 41 #[.slice (some ⟨g1, 0, none⟩) L.length c1, .slice (some ⟨g2, 0, none⟩) K.length c2] w (AddR w L K) := by
  have e1 : L.length = Rs.length := by rw [← hL]; simp
  have e2 : K.length = Qs.length := by rw [← hK]; simp
  rw [e1] at h1 m1 ⊢
  rw [e2] at h2 m2 ⊢
  exact spec_add B1 g1 c1 B2 g2 c2 Rs Qs L K w h1 h2 hL hK m1 m2 (fun r hr => k1 _ (by rw [← hL]; exact List.mem_map_of_mem hr)) (fun r hr => k2 _ (by rw [← hK]; exact List.mem_map_of_mem hr))
theorem impl_add2 (B1 g1 c1 B2 g2 c2 : Nat) (Rs Qs : List Rw) (L K : List (List Int)) (w : World) (h1 : RowsR w B1 (.slice (some ⟨g1, 0, none⟩) L.length c1) Rs) (h2 : RowsR w B2 (.slice (some ⟨g2, 0, none⟩) K.length c2) Qs) (hL : Rs.map Rw.M = L) (hK : Qs.map Rw.M = K)
    (m1 : L.length ≤ 1048576) (m2 : K.length ≤ 1048576) (k1 : ∀ m ∈ L, m.length ≤ 1048576) (k2 : ∀ m ∈ K, m.length ≤ 1048576) :
    Calls Try.prog 42 #[.slice (some ⟨g1, 0, none⟩) L.length c1, .slice (some ⟨g2, 0, none⟩) K.length c2] w (AddR w L K) := by
  have e1 : L.length = Rs.length := by rw [← hL]; simp
  have e2 : K.length = Qs.length := by rw [← hK]; simp
  rw [e1] at h1 m1 ⊢
  rw [e2] at h2 m2 ⊢
  exact impl_add B1 g1 c1 B2 g2 c2 Rs Qs L K w h1 h2 hL hK m1 m2 (fun r hr => k1 _ (by rw [← hL]; exact List.mem_map_of_mem hr)) (fun r hr => k2 _ (by rw [← hK]; exact List.mem_map_of_mem hr))
theorem addL_small (L K : List (List Int)) : (addL L K).length ≤ 1000 ∧ ∀ m ∈ addL L K, m.length = 3 := by
  unfold addL addB
  cases h1 : listOk L
  · simp
  cases h2 : listOk K
  · simp
  have q1 := (goodL_of h1).len; have q2 := (goodL_of h2).len
  have q3 := addV_len (toM L) (toM K)
  rw [toM_len, toM_len] at q3
  simp only [Bool.and_self, cond_true]
  refine ⟨by rw [rowsM_len]; omega, fun m hm => ?_⟩
  obtain ⟨z, -, rfl⟩ := List.mem_map.1 hm
  rfl
set_option maxRecDepth 100000 in
set_option maxHeartbeats 4000000 in
theorem law_add (A : Option Addr) (c : Nat) (Ms : List (List Int)) (A' : Option Addr) (c' : Nat) (Ns : List (List Int)) (w : World) (hA : ArgSS w A Ms) (hL : Ms.length ≤ maxLen) (hA' : ArgSS w A' Ns) (hL' : Ns.length ≤ maxLen) :
    Calls Try.prog 10 #[.slice A Ms.length c, .slice A' Ns.length c'] w fun e w' => e = .returned (.bool true) ∧ Below w.heap.size w w' := by
  have HB := Lib.hid hA
  have HB' := Lib.hid hA'
  have HZ := Lib.hid (szSS2_any A c Ms 1048576 w hA (by omega) hL)
  have HZ' := Lib.hid (fun z (h : 0 ≤ z ∧ z ≤ 1048576) => szSS2_any A' c' Ns z w hA' h hL')
  clear hA hA' hL hL'
  go_enter Try.func10, Try.ntmps10
  go_wp2_with fail
  refine HZ.out.mono ?_
  rintro e w0 ⟨⟨z, rfl, hz⟩, rfl⟩
  rcases hz with rfl | ⟨hz0, hz1, hn, hr⟩
  · go_wp2_with fail
    go_ret
    exact ⟨rfl, Below.refl _ _⟩
  have hz' : ¬ z < 0 := by omega
  have HR := Lib.hid hr
  have HN := Lib.hid hn
  have HZ2 := Lib.hid (HZ'.out z ⟨hz0, hz1⟩)
  clear hn hr hz0 hz1 HZ HZ'
  go_wp2_with fail
  refine HZ2.out.mono ?_
  rintro e w0 ⟨⟨z2, rfl, hz2⟩, rfl⟩
  rcases hz2 with rfl | ⟨hz0, -, hn, hr⟩
  · go_wp2_with fail
    go_ret
    exact ⟨rfl, Below.refl _ _⟩
  have hz2' : ¬ z2 < 0 := by omega
  have HR' := Lib.hid hr
  have HN' := Lib.hid hn
  clear hn hr hz0 HZ2
  have HS : Hid (∀ B1 g1 c1 B2 g2 c2 R Q W, RowsR W B1 (.slice (some ⟨g1, 0, none⟩) Ms.length c1) R → RowsR W B2 (.slice (some ⟨g2, 0, none⟩) Ns.length c2) Q → R.map Rw.M = Ms → Q.map Rw.M = Ns → Calls Try.prog 41 #[.slice (some ⟨g1, 0, none⟩) Ms.length c1, .slice (some ⟨g2, 0, none⟩) Ns.length c2] W fun e w' => ∃ v Rs, e = .returned (.tuple #[v, .bool (addB Ms Ns)]) ∧ RowsR w' W.heap.size v Rs ∧ Rs.map Rw.M = addL Ms Ns ∧ Below W.heap.size W w') :=
    fun B1 g1 c1 B2 g2 c2 R Q W h1 h2 e1 e2 => spec_add2 B1 g1 c1 B2 g2 c2 R Q Ms Ns W h1 h2 e1 e2 HN.out HN'.out HR.out HR'.out
  have HI : Hid (∀ B1 g1 c1 B2 g2 c2 R Q W, RowsR W B1 (.slice (some ⟨g1, 0, none⟩) Ms.length c1) R → RowsR W B2 (.slice (some ⟨g2, 0, none⟩) Ns.length c2) Q → R.map Rw.M = Ms → Q.map Rw.M = Ns → Calls Try.prog 42 #[.slice (some ⟨g1, 0, none⟩) Ms.length c1, .slice (some ⟨g2, 0, none⟩) Ns.length c2] W fun e w' => ∃ v Rs, e = .returned (.tuple #[v, .bool (addB Ms Ns)]) ∧ RowsR w' W.heap.size v Rs ∧ Rs.map Rw.M = addL Ms Ns ∧ Below W.heap.size W w') :=
    fun B1 g1 c1 B2 g2 c2 R Q W h1 h2 e1 e2 => impl_add2 B1 g1 c1 B2 g2 c2 R Q Ms Ns W h1 h2 e1 e2 HN.out HN'.out HR.out HR'.out
  obtain ⟨hs1, hs2⟩ := addL_small Ms Ns
  obtain ⟨q, hq⟩ : ∃ q : Nat, Hid (q = 3) := ⟨3, rfl⟩
  have hq1 : q ≤ 1000 := by have := hq.out; omega
  have HLE : Hid (∀ Rs : List Rw, Rs.map Rw.M = addL Ms Ns → Rs.length ≤ 1000 ∧ (∀ r ∈ Rs, r.M.length = q)) := fun Rs e => by
    refine ⟨by rw [← e] at hs1; simpa using hs1, fun r hr => (hs2 _ (by rw [← e]; exact List.mem_map_of_mem hr)).trans hq.out.symm⟩
  have HX : Hid (∀ Rs : List Rw, Rs.map Rw.M = Ms → Rs.length ≤ 1048576 ∧ (∀ r ∈ Rs, r.M.length ≤ 1048576)) := fun Rs e => by
    refine ⟨by have := HN.out; rw [← e] at this; simpa using this, fun r hr => HR.out _ (by rw [← e]; exact List.mem_map_of_mem hr)⟩
  have HX' : Hid (∀ Rs : List Rw, Rs.map Rw.M = Ns → Rs.length ≤ 1048576 ∧ (∀ r ∈ Rs, r.M.length ≤ 1048576)) := fun Rs e => by
    refine ⟨by have := HN'.out; rw [← e] at this; simpa using this, fun r hr => HR'.out _ (by rw [← e]; exact List.mem_map_of_mem hr)⟩
  have HQ1 := Lib.hid hq1
  generalize addL Ms Ns = M at *
  generalize addB Ms Ns = bb at *
  clear hs1 hs2 hq hq1
  go_wp2_with fail
  refine (toSS_any A c Ms _ HB.out HN.out HR.out).mono ?_
  rintro e w1 ⟨R1, rfl, own1, m1, b1⟩
  have O1 := Lib.hid own1
  have M1 := Lib.hid m1
  clear own1 m1
  go_wp2_with fail
  refine (toSS_any A' c' Ns _ (HB'.out.step b1) HN'.out HR'.out).mono ?_
  rintro e w1' ⟨Q1, rfl, own1', m1', hb1'⟩
  have b1' := below_on b1 hb1'
  have C1 := Lib.hid (HS.out _ _ _ _ _ _ R1 Q1 w1' (O1.out.below hb1') own1' M1.out m1')
  clear hb1' own1' m1' O1 b1
  go_wp2_with fail
  refine C1.out.mono ?_
  rintro e w2 ⟨v2, R2, rfl, own2, m2, hb2⟩
  have b2 := below_on b1' hb2
  have T2 := Lib.hid own2.top
  have M2 := Lib.hid m2
  have O2 := Lib.hid own2
  clear hb2 b1' m2 own2 C1
  go_wp2_with fail
  refine (toSS_any A c Ms _ (HB.out.step b2) HN.out HR.out).mono ?_
  rintro e w3 ⟨R3, rfl, own3, m3, hb3⟩
  have b3 := below_on b2 hb3
  have O3 := Lib.hid own3
  have M3 := Lib.hid m3
  have O2' := Lib.hid (O2.out.below hb3)
  have T3 := Lib.hid (And.intro own3.top own3.bottom)
  have S3 := Lib.hid hb3.size
  have S2 := Lib.hid b2.size
  clear own3 m3 hb3 b2 O2
  go_wp2_with fail
  refine (toSS_any A' c' Ns _ (HB'.out.step b3) HN'.out HR'.out).mono ?_
  rintro e w4 ⟨R4, rfl, own4, m4, hb4⟩
  have b4 := below_on b3 hb4
  have O4 := Lib.hid own4
  have M4 := Lib.hid m4
  have O3' := Lib.hid (O3.out.below hb4)
  have O2 := Lib.hid (O2'.out.below hb4)
  have T4 := Lib.hid (And.intro own4.top own4.bottom)
  have S4 := Lib.hid hb4.size
  have C4 := Lib.hid (HI.out _ _ _ _ _ _ R3 R4 w4 O3'.out own4 M3.out m4)
  clear own4 m4 hb4 b3 O2' O3
  go_wp2_with fail
  refine C4.out.mono ?_
  rintro e w5 ⟨v5, R5, rfl, own5, m5, hb5⟩
  have b5 := below_on b4 hb5
  have O5 := Lib.hid own5
  have M5 := Lib.hid m5
  have T5 := Lib.hid own5.bottom
  have O4' := Lib.hid (O4.out.below hb5)
  have O3 := Lib.hid (O3'.out.below hb5)
  have O2' := Lib.hid (O2.out.below hb5)
  have S5 := Lib.hid hb5.size
  obtain ⟨l5, q5⟩ := HLE.out R5 m5
  have Q5 := Lib.hid q5
  have E52 : Hid (R5.map Rw.M = R2.map Rw.M) := m5.trans M2.out.symm
  have E5 : Hid (∀ r ∈ R5, r.M.length ≤ 1048576) := fun r hr => by have := q5 r hr; have := HQ1.out; omega
  have C5 := Lib.hid (fun W B1 B2 (h1 : RowsR W B1 v5 R5) (h2 : RowsR W B2 v2 R2) => eq_rows B1 B2 v5 v2 R5 R2 W h1 h2 E52.out (by omega) E5.out)
  clear own5 m5 hb5 b4 O2 O3' O4 C4 q5
  go_wp2_with fail
  refine (C5.out w5 _ _ O5.out O2'.out).mono ?_
  rintro e w6 ⟨rfl, hb6⟩
  have b6 := below_on b5 hb6
  have O2 := Lib.hid (O2'.out.below hb6)
  have O3' := Lib.hid (O3.out.below hb6)
  have O4 := Lib.hid (O4'.out.below hb6)
  have O5' := Lib.hid (O5.out.below hb6)
  clear hb6 b5 O2' O3 O4' O5
  go_wp2_with fail
  refine (toSS_any A c Ms _ (HB.out.step b6) HN.out HR.out).mono ?_
  rintro e w7 ⟨R7, rfl, own7, m7, hb7⟩
  have b7 := below_on b6 hb7
  have O2' := Lib.hid (O2.out.below hb7)
  have O3 := Lib.hid (O3'.out.below hb7)
  have O4' := Lib.hid (O4.out.below hb7)
  have O5 := Lib.hid (O5'.out.below hb7)
  have C7 := Lib.hid (eq_rows _ _ _ _ R3 R7 w7 O3.out own7 (M3.out.trans m7.symm) (HX.out R3 M3.out).1 (HX.out R3 M3.out).2)
  clear hb7 b6 O2 O3' O4 O5' own7 m7
  go_wp2_with fail
  refine C7.out.mono ?_
  rintro e w8 ⟨rfl, hb8⟩
  have b8 := below_on b7 hb8
  have O2 := Lib.hid (O2'.out.below hb8)
  have O3' := Lib.hid (O3.out.below hb8)
  have O4 := Lib.hid (O4'.out.below hb8)
  have O5' := Lib.hid (O5.out.below hb8)
  clear hb8 b7 O2' O3 O4' O5 C7
  go_wp2_with fail
  refine (toSS_any A' c' Ns _ (HB'.out.step b8) HN'.out HR'.out).mono ?_
  rintro e w9 ⟨R9, rfl, own9, m9, hb9⟩
  have b9 := below_on b8 hb9
  have O2' := Lib.hid (O2.out.below hb9)
  have O3 := Lib.hid (O3'.out.below hb9)
  have O4' := Lib.hid (O4.out.below hb9)
  have O5 := Lib.hid (O5'.out.below hb9)
  have C9 := Lib.hid (eq_rows _ _ _ _ R4 R9 w9 O4'.out own9 (M4.out.trans m9.symm) (HX'.out R4 M4.out).1 (HX'.out R4 M4.out).2)
  clear hb9 b8 O2 O3' O4 O5' own9 m9
  go_wp2_with fail
  refine C9.out.mono ?_
  rintro e w10 ⟨rfl, hb10⟩
  have b10 := below_on b9 hb10
  have O2 := Lib.hid (O2'.out.below hb10)
  have O3' := Lib.hid (O3.out.below hb10)
  have O4 := Lib.hid (O4'.out.below hb10)
  have O5' := Lib.hid (O5.out.below hb10)
  have C10 := Lib.hid (markA_rows _ _ R3 1 w10 O3'.out (HX.out R3 M3.out).1 (HX.out R3 M3.out).2 (by omega) (by omega))
  clear hb10 b9 O2' O3 O4' O5 C9
  go_wp2_with fail
  refine C10.out.mono ?_
  rintro e w11 ⟨⟨k1, rfl, hk0, hk1⟩, hg11⟩
  have b11 := hg11.below b10 b10.size (fun r hr => Nat.le_trans S2.out (T3.out.2.2 r hr))
  have O2' := Lib.hid (O2.out.but hg11 (N := w2.heap.size) ⟨fun k hk => T2.out.1 k hk, fun r hr => T2.out.2 r hr⟩ T3.out.2.2)
  have O4' := Lib.hid (O4.out.butUp hg11 (N := w3.heap.size) T4.out.2 T3.out.1.2)
  have O5 := Lib.hid (O5'.out.butUp hg11 (N := w3.heap.size) ⟨fun k hk => Nat.le_trans S4.out (T5.out.1 k hk), fun r hr => Nat.le_trans S4.out (T5.out.2 r hr)⟩ T3.out.1.2)
  have C11 := Lib.hid (markA_rows _ _ R4 k1 w11 O4'.out (HX'.out R4 M4.out).1 (HX'.out R4 M4.out).2 hk0 (by omega))
  clear hg11 b10 O2 O3' O4 O5' C10 hk0 hk1
  go_wp2_with fail
  refine C11.out.mono ?_
  rintro e w12 ⟨⟨k2, rfl, hk0, -⟩, hg12⟩
  have b12 := hg12.below b11 b11.size (fun r hr => Nat.le_trans (Nat.le_trans S2.out S3.out) (T4.out.2.2 r hr))
  have O2 := Lib.hid (O2'.out.but hg12 (N := w2.heap.size) ⟨fun k hk => T2.out.1 k hk, fun r hr => T2.out.2 r hr⟩ (fun r hr => Nat.le_trans S3.out (T4.out.2.2 r hr)))
  have O5' := Lib.hid (O5.out.butUp hg12 (N := w4.heap.size) T5.out T4.out.1.2)
  have hk2 : ¬ k2 < 0 := by omega
  clear hg12 b11 O2' O4' O5 C11 hk0
  go_wp2_with fail
  refine (C5.out w12 _ _ O5'.out O2.out).mono ?_
  rintro e w13 ⟨rfl, hb13⟩
  have b13 := below_on b12 hb13
  have O2' := Lib.hid (O2.out.below hb13)
  have own5 := O5'.out.below hb13
  clear hb13 b12 O2 O5'
  go_wp2_with fail
  refine (mark_rows _ v5 R5 q w13 own5 Q5.out HQ1.out l5).mono ?_
  rintro e w14 ⟨rfl, own5m, hg14⟩
  have b14 := hg14.below b13 b13.size (fun r hr => Nat.le_trans (Nat.le_trans (Nat.le_trans S2.out S3.out) S4.out) (T5.out.2 r hr))
  have O2 := Lib.hid (O2'.out.but hg14 (N := w2.heap.size) ⟨fun k hk => T2.out.1 k hk, fun r hr => T2.out.2 r hr⟩ (fun r hr => Nat.le_trans (Nat.le_trans S3.out S4.out) (T5.out.2 r hr)))
  clear hg14 own5 b13 O2' hk2
  obtain ⟨m, hm⟩ : ∃ m, Hid (m = 1 + (q : Int) * (R5.length : Int)) := ⟨_, rfl⟩
  obtain ⟨z0, z1⟩ := row_w HQ1.out (Nat.le_refl R5.length) l5
  rw [← hm.out] at z0 z1
  have z2 : ¬ m < 0 := by omega
  have HELD := Lib.hid (fun W (o : RowsR W w4.heap.size v5 (mixR q R5 R5.length)) => held_rows _ v5 R5 q W o HQ1.out l5)
  simp only [← hm.out] at HELD
  rw [← hm.out]
  go_wp2_with fail
  refine (HELD.out w14 own5m).mono ?_
  rintro e w15 ⟨rfl, rfl⟩
  have O5 := Lib.hid own5m
  clear own5m
  go_wp2_with fail
  refine (toSS_any A c Ms _ (HB.out.step b14) HN.out HR.out).mono ?_
  rintro e w16 ⟨R16, rfl, own16, m16, hb16⟩
  have b16 := below_on b14 hb16
  have O2' := Lib.hid (O2.out.below hb16)
  have O5' := Lib.hid (O5.out.below hb16)
  have O16 := Lib.hid own16
  have M16 := Lib.hid m16
  clear hb16 b14 O2 O5 own16 m16
  go_wp2_with fail
  refine (toSS_any A' c' Ns _ (HB'.out.step b16) HN'.out HR'.out).mono ?_
  rintro e w17 ⟨R17, rfl, own17, m17, hb17⟩
  have b17 := below_on b16 hb17
  have O2 := Lib.hid (O2'.out.below hb17)
  have O5 := Lib.hid (O5'.out.below hb17)
  have C17 := Lib.hid (HI.out _ _ _ _ _ _ R16 R17 w17 (O16.out.below hb17) own17 M16.out m17)
  clear hb17 b16 O2' O5' own17 m17 O16
  go_wp2_with fail
  refine C17.out.mono ?_
  rintro e w18 ⟨v18, R18, rfl, own18, m18, hb18⟩
  have b18 := below_on b17 hb18
  have O2' := Lib.hid (O2.out.below hb18)
  have O5' := Lib.hid (O5.out.below hb18)
  obtain ⟨l18, q18⟩ := HLE.out R18 m18
  have E18 : Hid (∀ r ∈ R18, r.M.length ≤ 1048576) := fun r hr => by have := q18 r hr; have := HQ1.out; omega
  have C18 := Lib.hid (eq_rows _ _ v18 v2 R18 R2 w18 own18 O2'.out (m18.trans M2.out.symm) (by omega) E18.out)
  clear hb18 b17 O2 O5 own18 m18 q18 C17
  go_wp2_with fail
  refine C18.out.mono ?_
  rintro e w19 ⟨rfl, hb19⟩
  have b19 := below_on b18 hb19
  have O5 := O5'.out.below hb19
  clear hb19 b18 O2' O5' C18
  go_wp2_with fail
  refine (HELD.out w19 O5).mono ?_
  rintro e w20 ⟨rfl, rfl⟩
  go_wp2_with fail
  go_ret
  exact ⟨rfl, b19⟩
end Go.Proofs.Ytbmeemmihkedoaa
