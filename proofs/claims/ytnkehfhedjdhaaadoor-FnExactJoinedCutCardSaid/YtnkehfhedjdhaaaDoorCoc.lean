/-
  Walks and facts of this seat, part Coc (merged by a script of this repo out of smaller texts).
-/
import Derived.Test.YtnkehfhedjdhaaaDoorCob
import Derived.Shelf.Spec.TrailingZeros
import Derived.TacticsIn
import Derived.RangeFuncNested
import Derived.RangeFuncLeaves
import Derived.Shelf.Abstract
import Derived.Maps.AppendAt
import Derived.WalkKit
import Derived.OwnWalkIn
import Derived.TacticsInMore
import Derived.LoopNIn
import Derived.LoopIn
import Derived.Shelf.SlGeneric
import Derived.Shelf.SlSortCmp.Whole1
import Derived.Ground.SlsfProg
import Derived.Test.YtnkehfhedjdhaaaDoorProg
import Derived.ChangeSlices
import Derived.Deep.Matrix
import Derived.Laws.MakeOwn
import Derived.ProofKit
import Derived.OpenShut
/-! CofS10 -/
namespace Go.Proofs.YtnkehfhedjdhaaaDoor
open Go.RowKit

theorem own_types_apart {W : World} {B1 B2 s1 s2 n1 n2 : Nat} {e1 e2 : TypeId} {v1 v2 : Value} {xs1 xs2 : List Value} (h1 : W.ownsRow B1 e1 s1 v1 n1 xs1) (h2 : W.ownsRow B2 e2 s2 v2 n2 xs2) (hne : e1 ≠ e2) : v1.ownBlock = none ∨ v1.ownBlock ≠ v2.ownBlock := by
  rcases h1.2 with ⟨q, _⟩ | ⟨g, cap, cur, hv, _, hh, _⟩
  · subst q; exact .inl rfl
  · refine .inr fun e => ?_
    rcases h2.2 with ⟨q, _⟩ | ⟨g2, cap2, cur2, hv2, _, hh2, _⟩
    · subst q; subst hv; cases e
    · subst hv; subst hv2
      have e' : g = g2 := by simpa [Value.ownBlock] using e
      subst e'
      rw [hh] at hh2
      simp only [Option.some.injEq, Obj.cells.injEq] at hh2
      exact hne hh2.2.1
theorem own_castL' {w : World} {B n : Nat} {e : TypeId} {v : Value} {xs : List Value} (h : w.ownsRow B e 1 v n xs) : ∃ A c, v = .slice A n c := by
  rcases h.2 with ⟨rfl, h0⟩ | ⟨g, cap, cur, rfl, _⟩
  · exact ⟨none, 0, by rw [h0]⟩
  · exact ⟨_, _, rfl⟩
theorem at_apart {w : World} {g B n s : Nat} {e t : TypeId} {v : Value} {xs : List Value} {x y : Int} (h : At w g x y t) (ow : w.ownsRow B e s v n xs) (hne : e ≠ t) : some g ≠ v.ownBlock := fun hg => by
  rcases ow.2 with ⟨q, _⟩ | ⟨g', cap, cur, hv, _, hh, _⟩
  · subst q; cases hg
  · subst hv
    have e' : g = g' := by simpa [Value.ownBlock] using hg
    subst e'
    have h2 : w.heap[g]? = _ := h
    rw [hh] at h2
    simp only [Option.some.injEq, Obj.cells.injEq] at h2
    exact hne h2.2.1
/-- Where a piece stands among the first k names. -/
def atV (rk k : Nat) : Int := if rk < k then rk else -1
theorem atV_hit {rk : Nat} : atV rk (rk + 1) = rk := if_pos (Nat.lt_succ_self _)
theorem atV_miss {rk k : Nat} (h : k ≠ rk) : atV rk (k + 1) = atV rk k := by unfold atV; by_cases h1 : rk < k <;> by_cases h2 : rk < k + 1 <;> simp [h1, h2] <;> omega
/-- The lists after t cells and r names. -/
structure Made10 (I S : List Nat) (B : Nat) (w : World) (o nm : Value) (t r : Nat) : Prop where
  named : Named I S t r
  out : w.ownsRow B 3 1 o t (ints (castL ((I.take t).map (rankF S))))
  names : w.ownsRow B 3 1 nm r (ints (castL (S.take r)))
  ap : o.ownBlock = none ∨ o.ownBlock ≠ nm.ownBlock
  ap' : nm.ownBlock = none ∨ nm.ownBlock ≠ o.ownBlock
theorem Made10.below {I S : List Nat} {B : Nat} {w w' : World} {o nm : Value} {t r : Nat} (h : Made10 I S B w o nm t r) (hb : Below w.heap.size w w') : Made10 I S B w' o nm t r := ⟨h.named, own_below h.out hb, own_below h.names hb, h.ap, h.ap'⟩
/-- The state of the lists within a cell's round. -/
def Mid10 (I S : List Nat) (B : Nat) (t r j0 : Nat) (w : World) (o nm : Value) (j : Nat) : Prop := (j ≤ j0 ∧ Made10 I S B w o nm t r) ∨ (j0 < j ∧ ∃ r', Made10 I S B w o nm (t + 1) r')
theorem Mid10.below {I S : List Nat} {B t r j0 j : Nat} {w w' : World} {o nm : Value} (h : Mid10 I S B t r j0 w o nm j) (hb : Below w.heap.size w w') : Mid10 I S B t r j0 w' o nm j := by
  rcases h with ⟨a, h⟩ | ⟨a, r', h⟩
  · exact .inl ⟨a, h.below hb⟩
  · exact .inr ⟨a, r', h.below hb⟩
theorem Mid10.pass {I S : List Nat} {B t r j0 j : Nat} {w : World} {o nm : Value} (h : Mid10 I S B t r j0 w o nm j) (hj : j ≠ j0) : Mid10 I S B t r j0 w o nm (j + 1) := by
  rcases h with ⟨a, h⟩ | ⟨a, r', h⟩
  · exact .inl ⟨by omega, h⟩
  · exact .inr ⟨by omega, r', h⟩
theorem Mid10.form {I S : List Nat} {B t r j0 j : Nat} {w : World} {o nm : Value} (h : Mid10 I S B t r j0 w o nm j) : (∃ A n c, o = .slice A n c) ∧ ∃ A n c, nm = .slice A n c := by
  rcases h with ⟨a, h⟩ | ⟨a, r', h⟩
  all_goals
    obtain ⟨A1, c1, e1⟩ := own_castL' h.out
    obtain ⟨A2, c2, e2⟩ := own_castL' h.names
    exact ⟨⟨_, _, _, e1⟩, _, _, _, e2⟩
set_option maxRecDepth 100000 in
set_option maxHeartbeats 4000000 in
theorem spec_cutOf (w h M : Int) (A : Option Addr) (c : Nat) (X : List Int) (W : World) (hA : IntsA W A X) (hl : X.length ≤ 1048576) (hw : ∀ x ∈ X, (Lit.int .i64 x).wf = true) :
    Calls Tryd.prog 22 #[.int .i64 w, .int .i64 h, .int .i64 M, .slice A X.length c] W (ResQ (CofP w h M X) W) := by
  obtain ⟨i0, hi0, hz0, hz1, hz2⟩ := info_parts infoI
  have HOK := Lib.hid (fun W => specOk_any w h M W)
  have RN : Hid (okC w h M = false ∨ ¬ FillX w h M X → ∀ w', Below W.heap.size W w' → ResQ (CofP w h M X) W (.returned (.tuple #[.slice none 0 0, .bool false])) w') := fun hn w' hb => ⟨([], false), _, rfl, cofP_no hn, World.ownsRow_nil _ _ _ _, hb⟩
  cases hok : okC w h M
  · have R := Lib.hid (RN.out (.inl hok) W (Below.refl _ _))
    rw [hok] at HOK
    clear RN hok hA hw
    go_enter Tryd.func22, Tryd.ntmps22
    go_wp2_with fail
    refine (HOK.out _).mono ?_
    rintro e w1 ⟨rfl, rfl⟩
    go_wp2_with fail
    go_ret2
    exact R.out
  rw [hok] at HOK
  obtain ⟨a, b, m, n, rfl, rfl, rfl, hn, ha1, ha2, hb1, hb2, hm, h36, hix, hpc, h1, h9, hS⟩ := okC_nat hok
  have HA := Lib.hid hA
  have HR : Hid (∀ (p k : Nat) (W : World), p < 2 ^ n → p.testBit k = true → (∀ j, j < k → p.testBit j = false) → Calls Tryd.prog 54 #[.int .i64 a, .int .i64 b, .int .i64 p] W (ReachP a b p k W)) := fun p k W h1 h2 h3 => reach_any a b p k W ⟨ha1, ha2⟩ ⟨hb1, hb2⟩ (by omega) (by rw [← hn]; exact h1) h2 h3
  have HSB : Hid (∀ p : Nat, p < 2 ^ n → shapeB a b (p : Nat) = true) := shape_of_lt hn ⟨ha1, ha2⟩ ⟨hb1, hb2⟩
  have HW : Hid (∀ x ∈ X, -2 ^ 63 ≤ x ∧ x < 2 ^ 63) := fun x hx => wf_range (hw x hx)
  have HS0 : Hid (SoFar a b m X 0 m) := by
    have := SoFar.start a b m X
    rwa [Int.toNat_natCast] at this
  have hm36 : m < 2 ^ 36 := Nat.lt_of_lt_of_le hm (Nat.pow_le_pow_right (by omega) h36)
  have HPOS : Hid (∀ x : Int, x ≤ 0 → ∀ q : Nat, x = q → OneP a b q → False) := fun x hx q hq ho => by
    obtain rfl : q = 0 := by omega
    exact oneP_zero ho
  have HN := Lib.hid hn
  have HOKK := Lib.hid hok
  have HM := Lib.hid hm
  clear hA hw hok hS hix hpc h1 h9 hn hm
  go_enter Tryd.func22, Tryd.ntmps22
  go_wp2_with fail
  refine (HOK.out _).mono ?_
  rintro e w1 ⟨rfl, rfl⟩
  go_wp2_with fail
  go_loopw [10, 12, 30] (fun s _ i wr => ∃ (k r : Nat), k ≤ X.length ∧ i = .int .i64 k ∧ s = .int .i64 r ∧ r ≤ m ∧ Hid (SoFar a b m X k r) ∧ wr = w1) (fun _ _ i _ => X.length - (intOf i).toNat)
  case atStart => exact ⟨0, m, Nat.zero_le _, rfl, rfl, Nat.le_refl _, HS0, rfl⟩
  case round =>
    clear HS0
    obtain ⟨k, r, hk, rfl, rfl, hr, HSF, rfl⟩ := hrel
    by_cases hlt : k < X.length
    · obtain ⟨g, rfl, e1⟩ := HA.out k hlt
      have hx := HW.out _ (List.getElem_mem hlt)
      have HST : Hid ((∀ q : Nat, X[k] = (q : Int) → OneP a b q → q &&& r = q → False) → ¬ FillX a b m X) := fun hh => HSF.out.stop hlt hh
      have HNX : Hid (∀ q : Nat, X[k] = (q : Int) → OneP a b q → q &&& r = q → SoFar a b m X (k + 1) (r - q)) := fun q q1 q2 q3 => HSF.out.next hlt q1 q2 q3
      generalize X[k] = x at *
      by_cases h0 : x ≤ 0
      · have R := Lib.hid (RN.out (.inr (HST.out fun q hq ho _ => HPOS.out x h0 q hq ho)) wr (Below.refl _ _))
        clear HST HNX HSF hx
        go_wp2_with fail
        go_ret2
        exact R.out
      · obtain ⟨q, rfl⟩ : ∃ q : Nat, x = q := ⟨x.toNat, by omega⟩
        have hor := or_nat63 (a := r) (b := q) (by omega) (by omega)
        by_cases hs : SubM q r
        · have hqr := hs.le
          have hq36 : q < 2 ^ 36 := by omega
          have hqn : q < 2 ^ n := by have := HM.out; omega
          rw [or_sub.2 hs] at hor
          have hne : ((r : Int) != (r : Int)) = false := by simp
          obtain ⟨t, ht, htl⟩ := exists_bit (show 0 < q by omega)
          have HQ := Lib.hid (HR.out q t wr hqn ht htl)
          have HO := Lib.hid (fun p (hp : PartOf (Adj a b) q.testBit t p) => oneP_iff (HSB.out q hqn) ht htl hp)
          have HQR : Hid (q &&& r = q) := and_sub.2 hs
          clear ht htl hqn hs hx HSF
          go_wp2_with fail
          refine HQ.out.mono ?_
          rintro e w2 ⟨p, rfl, hp, rfl⟩
          have hone := HO.out p hp
          by_cases he : p = q
          · have HS2 := Lib.hid (HNX.out q rfl (hone.2 he) HQR.out)
            have hne2 : ((p : Int) != (q : Int)) = false := by rw [he]; simp
            have hsub : (r : Int) - (q : Int) = ((r - q : Nat) : Int) := by omega
            subst he
            clear hone hp HST HNX HQ HO
            go_wp2_with fail
            go_roundw
            case rel => exact ⟨k + 1, r - p, by omega, by go_num, by go_num, by omega, HS2, by first | trivial | rfl⟩
            case measure => simp [intOf]; omega
          · have hne2 : ((p : Int) != (q : Int)) = true := by rw [bne_iff_ne]; omega
            have R := Lib.hid (RN.out (.inr (HST.out fun q' hq ho _ => by
              obtain rfl : q = q' := by omega
              exact he (hone.1 ho))) w2 (Below.refl _ _))
            clear HST HNX hone hp he HQ HO
            go_wp2_with fail
            go_ret2
            exact R.out
        · have hne : (((r ||| q : Nat) : Int) != (r : Int)) = true := by
            rw [bne_iff_ne]
            intro e
            exact hs (or_sub.1 (by omega))
          have R := Lib.hid (RN.out (.inr (HST.out fun q' hq _ h3 => by
            obtain rfl : q = q' := by omega
            exact hs (and_sub.1 h3))) wr (Below.refl _ _))
          clear HST HNX HSF hx hs
          go_wp2_with fail
          go_ret2
          exact R.out
    · obtain rfl : k = X.length := by omega
      by_cases h0 : r = 0
      · subst h0
        obtain ⟨wz, rfl⟩ : ∃ wz : World, wz = wr := ⟨_, rfl⟩
        obtain ⟨Q, hXQ, hAll, hleft⟩ := HSF.out.all
        have HF : Hid (Filled (idxL m n) Q) := fill_of h36 HM.out (by rw [hXQ] at hAll; exact hAll) (by rw [Int.toNat_natCast] at hleft; exact hleft)
        have HCE := Lib.hid (fun W => cellsS_any a m W ha1 hm36)
        rw [cellsC_idx HM.out h36] at HCE
        unfold Lists at HCE
        have RY : Hid (∀ v w', w'.ownsRow wz.heap.size 3 1 v ((idxL m n).map (rankF (sortF Q))).length (ints (castL ((idxL m n).map (rankF (sortF Q))))) → Below wz.heap.size wz w' → ResQ (CofP a b m X) wz (.returned (.tuple #[v, .bool true])) w') := fun v w' own hb => ⟨(castL ((idxL m n).map (rankF (sortF Q))), true), v, rfl, by
          have := cofP_yes (w := a) (h := b) (M := m) (Q := Q) HOKK.out (by rw [← hXQ]; exact hAll) hleft
          rw [hXQ]
          have e : idxV a b m = idxL m n := by
            have := HN.out
            unfold idxV
            rw [Int.toNat_natCast]
            congr 1
            rw [this]
            exact Int.toNat_natCast _
          rw [e] at this
          exact this, by simpa [castL_len] using own, hb⟩
        have HFS := Lib.hid (filled_sort HF.out)
        have HND := Lib.hid (sortF_lt HF.out)
        have HIS : Hid ((idxL m n).Pairwise (· < ·)) := idxL_sorted m n
        have HI : Hid (∀ i ∈ idxL m n, i < 36) := idx36 h36
        have HLI : Hid ((idxL m n).length ≤ 36) := Nat.le_trans (idxL_len m n) h36
        subst hXQ
        rw [castL_len] at *
        have HQQ : Hid (∀ q ∈ Q, q < 2 ^ 36) := fun q hq => (HF.out.pos q hq).2
        clear hAll hleft HSF HR HSB HW HPOS HN HOKK HM RN HOK hr hk
        have hLI := HLI.out
        generalize idxL m n = I at *
        have HNM0 : Hid (Named I (sortF Q) 0 0) := Named.start I _
        have hSL : (sortF Q).length = Q.length := (sortF_perm Q).length_eq
        have HPM : Hid (∀ q, q ∈ sortF Q ↔ q ∈ Q) := fun q => (sortF_perm Q).mem_iff
        generalize sortF Q = S at *
        clear h36
        have bO := below1 wz (.cells #[] 3)
        have oO := (World.ownsRow_lit (base := wz.heap.size) (e := 3) (size := 1) wz #[] 0 (Nat.le_refl _) (by unfold maxLen; omega) (by rfl)).alloc (.cells #[] 3)
        have oN := World.ownsRow_lit (base := wz.heap.size) (e := 3) (size := 1) (wz.alloc (.cells #[] 3)) #[] 0 bO.size (by unfold maxLen; omega) (by rfl)
        have HM0 : Hid (Made10 I S wz.heap.size ((wz.alloc (.cells #[] 3)).alloc (.cells #[] 3)) (.slice (some ⟨wz.heap.size, 0, none⟩) 0 0) (.slice (some ⟨wz.heap.size + 1, 0, none⟩) 0 0) 0 0) := ⟨HNM0.out, oO, by
          have := oN
          rw [size_alloc] at this
          exact this, .inr (by simp [Value.ownBlock]), .inr (by simp [Value.ownBlock])⟩
        have HB2 : Hid (Below wz.heap.size wz ((wz.alloc (.cells #[] 3)).alloc (.cells #[] 3))) := bO.alloc bO.size _
        clear bO oO oN HNM0
        go_wp2_with fail
        refine (HCE.out _).mono ?_
        rintro e w4 ⟨v4, rfl, own4, bb4⟩
        obtain ⟨_, A4, c4, rfl, p4⟩ := own_pts own4
        have hlen : (I.map (ptI a)).length = I.length := by rw [List.length_map]
        rw [hlen] at own4 ⊢
        have HM4 := Lib.hid (HM0.out.below bb4)
        have HB4 := Lib.hid (below_on HB2.out bb4)
        have HP4 := Lib.hid (own_base own4 HB2.out.size)
        clear p4 HCE own4 bb4 HM0 HB2 hlen
        go_wp2_with fail
        go_loopw [13, 14, 16, 18, 19, 20, 21, 63] (fun o nm _ _ _ _ _ i wo => ∃ t r : Nat, t ≤ I.length ∧ i = .int .i64 t ∧ Hid (Made10 I S wz.heap.size wo o nm t r) ∧ Hid (wo.ownsRow wz.heap.size 73 2 (.slice A4 I.length c4) I.length (flat (I.map (ptI a)))) ∧ Hid (Below wz.heap.size wz wo)) (fun _ _ _ _ _ _ _ i _ => I.length - (intOf i).toNat)
        case atStart => exact ⟨0, 0, Nat.zero_le _, rfl, HM4, HP4, HB4⟩
        case round =>
          clear HM4 HP4 HB4
          obtain ⟨wo, rfl⟩ : ∃ wo : World, wo = wr := ⟨_, rfl⟩
          obtain ⟨t, r, ht, rfl, HMD, HPT, HBW⟩ := hrel
          have hrt : r ≤ S.length := HMD.out.named.le
          obtain ⟨Ao, co, rfl⟩ := own_castL' HMD.out.out
          obtain ⟨An, cn, rfl⟩ := own_castL' HMD.out.names
          by_cases hlt : t < I.length
          · have hi36 : I[t] < 36 := HI.out _ (List.getElem_mem hlt)
            obtain ⟨j0, hj0, hbit0, hone0⟩ := cell_place HF.out (List.getElem_mem hlt)
            obtain ⟨g4, rfl, -⟩ := ptsA_of HPT.out t (by rw [List.length_map]; exact hlt)
            have hd := gt_cells (ptsA_of HPT.out) (i := t) (by rw [List.length_map]; exact hlt)
            rw [gt_ptI hlt] at hd
            obtain ⟨d1, d2⟩ := hd
            simp only at d1 d2
            have HNX := Lib.hid (Named.next HFS.out HND.out HIS.out HMD.out.named hlt)
            have hbr := rank_piece HFS.out ((HPM.out _).2 (List.getElem_mem hj0)) hbit0
            have HTK : Hid ((I.take (t + 1)).map (rankF S) = (I.take t).map (rankF S) ++ [rankF S I[t]]) := by
              show _ = _
              rw [take_snoc hlt, List.map_append]; rfl
            have hdm := Nat.div_add_mod I[t] a
            have hmod := Nat.mod_lt I[t] (show a > 0 by omega)
            have hdv : I[t] / a ≤ 36 := Nat.le_trans (Nat.div_le_self _ _) (by omega)
            have HBT : Hid (∀ k (hk : k < Q.length), ∃ z : Nat, (Q[k] : Int) / 2 ^ I[t] = (z : Int) ∧ (bits BinOp.and IntKind.i64 (z : Int) 1 = if k = j0 then 1 else 0)) := fun k hk => by
              obtain ⟨z, hz, hb, -⟩ := bit_at2 Q[k] I[t] (HQQ.out _ (List.getElem_mem hk))
              refine ⟨z, hz, ?_⟩
              rw [hb]
              by_cases e : k = j0
              · subst e; rw [hbit0]; simp
              · have : (Q[k]).testBit I[t] = false := by
                  cases hc : (Q[k]).testBit I[t]
                  · rfl
                  · exact absurd (hone0 k hk hc) e
                rw [this]; simp [e]
            generalize I[t] = ix at *
            obtain ⟨u, hu⟩ : ∃ u, u = ix % a := ⟨_, rfl⟩
            obtain ⟨v, hv⟩ : ∃ v, v = ix / a := ⟨_, rfl⟩
            rw [← hu] at d1 hdm hmod
            rw [← hv] at d2 hdm hdv
            obtain ⟨q4, hq4⟩ : ∃ q4, q4 = v * a := ⟨_, rfl⟩
            rw [Nat.mul_comm, ← hq4] at hdm
            have hqi : (v : Int) * (a : Int) = (q4 : Int) := by rw [hq4, Int.natCast_mul]
            have htn : ((q4 : Int) + (u : Int)).toNat = ix := by omega
            have hqt : (q4 : Int) + (u : Int) = (ix : Int) := by omega
            have hq36 : q4 ≤ 36 := by omega
            clear hu hv hq4 hdm hone0 hbit0
            go_wp2_with fail
            have HPB : Hid (At (wo.alloc (.cells #[.int .i64 (u : Int), .int .i64 (v : Int)] 73)) wo.heap.size u v 73) := at_new wo (u : Int) (v : Int) 73
            have hb1 := below1 wo (.cells #[.int .i64 (u : Int), .int .i64 (v : Int)] 73)
            have HMI : Hid (Mid10 I S wz.heap.size t r j0 (wo.alloc (.cells #[.int .i64 (u : Int), .int .i64 (v : Int)] 73)) (.slice Ao t co) (.slice An r cn) 0) := .inl ⟨Nat.zero_le _, HMD.out.below hb1⟩
            have HPT1 := Lib.hid (own_below HPT.out hb1)
            have HB1 := Lib.hid (below_on HBW.out hb1)
            clear hb1 d1 d2 HMD HPT HBW
            generalize wo.alloc (.cells #[.int .i64 (u : Int), .int .i64 (v : Int)] 73) = w1 at *
            obtain ⟨bX, hbX⟩ : ∃ bX, bX = wo.heap.size := ⟨_, rfl⟩
            rw [← hbX] at HPB ⊢
            clear hbX
            go_loopw [13, 14, 18, 19, 20, 21, 69] (fun o nm _ _ _ _ i w => ∃ j : Nat, j ≤ Q.length ∧ i = .int .i64 j ∧ Hid (Mid10 I S wz.heap.size t r j0 w o nm j) ∧ Hid (w.ownsRow wz.heap.size 73 2 (.slice (some ⟨g4, 0, none⟩) I.length c4) I.length (flat (I.map (ptI a)))) ∧ Hid (At w bX u v 73) ∧ Hid (Below wz.heap.size wz w)) (fun _ _ _ _ _ _ i _ => Q.length - (intOf i).toNat)
            case atStart => exact ⟨0, Nat.zero_le _, rfl, HMI, HPT1, HPB, HB1⟩
            case round =>
              clear HMI HPT1 HPB HB1
              obtain ⟨wi, rfl⟩ : ∃ wi : World, wi = wr := ⟨_, rfl⟩
              obtain ⟨j, hj, rfl, HMJ, HPT, HPB, HBW⟩ := hrel
              by_cases hjl : j < Q.length
              · obtain ⟨g, rfl, e1⟩ := intsA_on HA.out HBW.out j (by rw [castL_len]; exact hjl)
                rw [castL_get] at e1
                obtain ⟨z, hz, hbz⟩ := HBT.out j hjl
                have v1 := HPB.out.c0
                have v2 := HPB.out.c1
                by_cases hjj : j = j0
                · rw [if_pos hjj] at hbz
                  obtain ⟨hrl, hrp⟩ := hbr
                  have hpq : S[rankF S ix] = Q[j] := by subst hjj; exact hrp
                  have hMD : Made10 I S wz.heap.size wi u13 u14 t r := by
                    rcases HMJ.out with ⟨_, h2⟩ | ⟨h2, _⟩
                    · exact h2
                    · omega
                  have HLK : Hid (∀ k (hk : k < S.length), (S[k] = Q[j] ↔ k = rankF S ix)) := fun k hk => by
                    rw [← hpq]
                    have := look_take (filled_nodup HFS.out) hrl k (r := S.length) (by simpa using hk)
                    simpa using this
                  obtain ⟨Ao, co, rfl⟩ := own_castL' hMD.out
                  obtain ⟨An, cn, rfl⟩ := own_castL' hMD.names
                  have HNA : Hid (∀ k (hk : k < r), ∃ g, An = some ⟨g, 0, none⟩ ∧ wi.cell? ⟨g, k, none⟩ = some (.int .i64 (S[k]'(by omega)))) := fun k hk => by
                    obtain ⟨hl5, A5, c5, e5, h5⟩ := own_ints hMD.names
                    rw [← hl5] at e5
                    cases e5
                    obtain ⟨g5, hg5, hc5⟩ := h5 k (by rw [castL_len, List.length_take]; omega)
                    refine ⟨g5, hg5, ?_⟩
                    rw [hc5, castL_get]
                    simp
                  have HMD := Lib.hid hMD
                  have HPQ := Lib.hid hpq
                  generalize Q[j] = q at *
                  have HJJ := Lib.hid hjj
                  clear HMJ hrp hpq hMD hjj
                  obtain ⟨rk, hrk⟩ : ∃ rk, rk = rankF S ix := ⟨_, rfl⟩
                  rw [← hrk] at HLK HTK HNX hrl
                  clear hrk
                  have hr36 : r ≤ 1048576 := by omega
                  go_wp2_with fail
                  go_loopw [19, 20, 21, 86] (fun s _ _ i w => ∃ k : Nat, k ≤ r ∧ i = .int .i64 k ∧ s = .int .i64 (atV rk k) ∧ w = wi) (fun _ _ _ i _ => r - (intOf i).toNat)
                  case atStart => exact ⟨0, Nat.zero_le _, rfl, rfl, rfl⟩
                  case round =>
                    obtain ⟨k, hk, rfl, rfl, rfl⟩ := hrel
                    by_cases hkl : k < r
                    · obtain ⟨g7, rfl, e7⟩ := HNA.out k hkl
                      have hks : k < S.length := by omega
                      have hlk := HLK.out k hks
                      generalize S[k] = sk at *
                      by_cases hkk : k = rk
                      · have hsq : sk = q := hlk.2 hkk
                        subst hsq
                        have hav : atV rk (k + 1) = (k : Int) := by rw [hkk]; exact atV_hit
                        clear hlk hkk
                        go_wp2_with fail
                        go_roundw
                        case rel => exact ⟨k + 1, by omega, by go_num, by rw [hav], by first | trivial | rfl⟩
                        case measure => simp [intOf]; omega
                      · have hne : ((sk : Int) == (q : Int)) = false := by
                          rw [beq_eq_false_iff_ne]
                          intro e
                          exact hkk (hlk.1 (by omega))
                        have hav : atV rk (k + 1) = atV rk k := atV_miss hkk
                        clear hlk
                        generalize atV rk k = av at *
                        go_wp2_with fail
                        go_roundw
                        case rel => exact ⟨k + 1, by omega, by go_num, by rw [hav], by first | trivial | rfl⟩
                        case measure => simp [intOf]; omega
                    · obtain rfl : r = k := by omega
                      by_cases hrr : rk < r
                      · have hav : atV rk r = (rk : Int) := if_pos hrr
                        rw [hav]
                        clear hav
                        have own9 := HMD.out.out
                        have hs9 := HBW.out.size
                        have hrw9 := fun k hk => (HMD.out.out.lt k hk).1
                        go_wp2_with (at_builtin; refine wpList_append_own_at _ rfl _ _ 27 rfl wz.heap.size 3 i0 (.int .i64 0) 1 8 Tryd.underlying27 hi0 hz0 hz1 hz2 rfl (by decide) _ _ _ rfl (own9.alloc _) ⟨wr.heap.size, 0, none⟩ 1 1 [.int .i64 (rk : Int)] rfl rfl (World.news_of_block (cs := #[.int .i64 (rk : Int)]) (t := 3) (fr := (0, 0)) (heap_alloc_new wr _)) ?d2 ?d3 ?d4 ?d5 ?_)
                        case d2 => simp [Value.oneCell']
                        case d3 => unfold maxLen; omega
                        case d4 => omega
                        case d5 => first | omega | (simp; omega)
                        intro v' w7 own7 hgrow _ hat
                        obtain ⟨g9, c9, rfl⟩ := ownsRow_succ own7
                        have hnl := fun q hq => (HMD.out.names.lt q hq).2
                        have HMK : Hid (Mid10 I S wz.heap.size t r j0 w7 (.slice (some ⟨g9, 0, none⟩) (t + 1) c9) (.slice An r cn) (j + 1)) := by
                          refine .inr ⟨by have := HJJ.out; omega, r, ?_, ?_, (HMD.out.names.alloc _).kept hgrow HMD.out.ap', ?_, ?_⟩
                          · rcases HNX.out with ⟨_, h2⟩ | ⟨h2, _⟩
                            · exact h2
                            · omega
                          · rw [HTK.out, castL_snoc, ints_snoc]
                            first | exact own7 | (rw [List.map_take]; exact own7)
                          · rcases hat with h | h
                            · rw [h]; exact HMD.out.ap
                            · refine .inr fun e => ?_
                              have := hnl _ (e.symm.trans h)
                              omega
                          · rcases hat with h | h
                            · rw [h]; exact HMD.out.ap'
                            · refine .inr fun e => ?_
                              have := hnl _ (e.trans h)
                              omega
                        have HPT7 := Lib.hid ((HPT.out.alloc (.cells #[.int .i64 (rk : Int)] 3)).kept hgrow (own_types_apart HPT.out own9 (by decide)))
                        have HPB7 := Lib.hid ((HPB.out.alloc (.cells #[.int .i64 (rk : Int)] 3)).grown hgrow (at_apart HPB.out own9 (by decide)))
                        have HB7 := Lib.hid ((HBW.out.alloc hs9 (.cells #[.int .i64 (rk : Int)] 3)).grown hgrow (by first | omega | (simp; omega)) hrw9)
                        clear own7 hgrow hat own9 hrw9 hnl HMD HPT HPB HBW
                        go_wp2_with fail
                        go_roundw
                        case rel => exact ⟨j + 1, by omega, by go_num, HMK, HPT7, HPB7, HB7⟩
                        case measure => simp [intOf]; omega
                      · have hav : atV rk r = -1 := if_neg hrr
                        rw [hav]
                        obtain ⟨hrkr, hrS, hNM⟩ : rk = r ∧ r < S.length ∧ Named I S (t + 1) (r + 1) := by
                          rcases HNX.out with ⟨h2, _⟩ | h2
                          · omega
                          · exact h2
                        have HNM := Lib.hid hNM
                        have HSN : Hid (S.take (r + 1) = S.take r ++ [q]) := by
                          show _ = _
                          rw [take_snoc hrS, (HLK.out r hrS).2 hrkr.symm]
                        have HTK2 : Hid (List.map (rankF S) (List.take (t + 1) I) = List.map (rankF S) (List.take t I) ++ [r]) := by
                          show _ = _
                          rw [HTK.out, hrkr]
                        clear hav hNM hrr hrkr HTK HNX
                        have own8 := HMD.out.names
                        have hrw8 := fun k hk => (HMD.out.names.lt k hk).1
                        have hs8 := HBW.out.size
                        go_wp2_with (at_builtin; refine wpList_append_own_at _ rfl _ _ 27 rfl wz.heap.size 3 i0 (.int .i64 0) 1 8 Tryd.underlying27 hi0 hz0 hz1 hz2 rfl (by decide) _ _ _ rfl (own8.alloc _) ⟨wr.heap.size, 0, none⟩ 1 1 [.int .i64 (q : Int)] rfl rfl (World.news_of_block (cs := #[.int .i64 (q : Int)]) (t := 3) (fr := (0, 0)) (heap_alloc_new wr _)) ?d2 ?d3 ?d4 ?d5 ?_)
                        case d2 => simp [Value.oneCell']
                        case d3 => unfold maxLen; omega
                        case d4 => omega
                        case d5 => first | omega | (simp; omega)
                        intro v8 w8 own18 hgrow8 _ hat8
                        obtain ⟨g8, c8, rfl⟩ := ownsRow_succ own18
                        have hol := fun q hq => (HMD.out.out.lt q hq).2
                        have HN8 : Hid (w8.ownsRow wz.heap.size 3 1 (.slice (some ⟨g8, 0, none⟩) (r + 1) c8) (r + 1) (ints (castL (S.take (r + 1))))) := by
                          show World.ownsRow _ _ _ _ _ _ _
                          rw [HSN.out, castL_snoc, ints_snoc]
                          first | exact own18 | (rw [List.map_take]; exact own18)
                        have own9 := (HMD.out.out.alloc (.cells #[.int .i64 (q : Int)] 3)).kept hgrow8 HMD.out.ap
                        have hA8 : (Value.slice Ao t co).ownBlock = none ∨ (Value.slice Ao t co).ownBlock ≠ (Value.slice (some ⟨g8, 0, none⟩) (r + 1) c8).ownBlock := by
                          rcases hat8 with h | h
                          · rw [h]; exact HMD.out.ap
                          · rcases HMD.out.ap with h5 | _
                            · exact .inl h5
                            · refine .inr fun e => ?_
                              have := hol _ (e.trans h)
                              omega
                        have HPT8 := Lib.hid ((HPT.out.alloc (.cells #[.int .i64 (q : Int)] 3)).kept hgrow8 (own_types_apart HPT.out own8 (by decide)))
                        have HPB8 := Lib.hid ((HPB.out.alloc (.cells #[.int .i64 (q : Int)] 3)).grown hgrow8 (at_apart HPB.out own8 (by decide)))
                        have HB8 := Lib.hid ((HBW.out.alloc hs8 (.cells #[.int .i64 (q : Int)] 3)).grown hgrow8 (by first | omega | (simp; omega)) hrw8)
                        have hs9 := HB8.out.size
                        have hrw9 := fun k hk => (own9.lt k hk).1
                        clear own18 hgrow8 hat8 own8 hrw8 hol HMD HPT HPB HBW HSN HLK HNA
                        go_wp2_with (at_builtin; refine wpList_append_own_at _ rfl _ _ 27 rfl wz.heap.size 3 i0 (.int .i64 0) 1 8 Tryd.underlying27 hi0 hz0 hz1 hz2 rfl (by decide) _ _ _ rfl (own9.alloc _) ⟨w8.heap.size, 0, none⟩ 1 1 [.int .i64 (r : Int)] rfl rfl (World.news_of_block (cs := #[.int .i64 (r : Int)]) (t := 3) (fr := (0, 0)) (heap_alloc_new w8 _)) ?d2 ?d3 ?d4 ?d5 ?_)
                        case d2 => simp [Value.oneCell']
                        case d3 => unfold maxLen; omega
                        case d4 => omega
                        case d5 => first | omega | (simp; omega)
                        intro v' w7 own7 hgrow _ hat
                        obtain ⟨g9, c9, rfl⟩ := ownsRow_succ own7
                        have hnl := fun q hq => (HN8.out.lt q hq).2
                        have hA9 : (Value.slice (some ⟨g8, 0, none⟩) (r + 1) c8).ownBlock = none ∨ (Value.slice (some ⟨g8, 0, none⟩) (r + 1) c8).ownBlock ≠ (Value.slice Ao t co).ownBlock := by
                          rcases hA8 with h | h
                          · exact .inr (by rw [h]; simp [Value.ownBlock])
                          · exact .inr (Ne.symm h)
                        have HMK : Hid (Mid10 I S wz.heap.size t r j0 w7 (.slice (some ⟨g9, 0, none⟩) (t + 1) c9) (.slice (some ⟨g8, 0, none⟩) (r + 1) c8) (j + 1)) := by
                          refine .inr ⟨by have := HJJ.out; omega, r + 1, HNM.out, ?_, (HN8.out.alloc _).kept hgrow hA9, ?_, ?_⟩
                          · rw [HTK2.out, castL_snoc, ints_snoc]
                            first | exact own7 | (rw [List.map_take]; exact own7)
                          · rcases hat with h | h
                            · rw [h]; exact hA8
                            · refine .inr fun e => ?_
                              have := hnl _ (e.symm.trans h)
                              omega
                          · rcases hat with h | h
                            · rw [h]; exact hA9
                            · refine .inr fun e => ?_
                              have := hnl _ (e.trans h)
                              omega
                        have HPT7 := Lib.hid ((HPT8.out.alloc (.cells #[.int .i64 (r : Int)] 3)).kept hgrow (own_types_apart HPT8.out own9 (by decide)))
                        have HPB7 := Lib.hid ((HPB8.out.alloc (.cells #[.int .i64 (r : Int)] 3)).grown hgrow (at_apart HPB8.out own9 (by decide)))
                        have HB7 := Lib.hid ((HB8.out.alloc hs9 (.cells #[.int .i64 (r : Int)] 3)).grown hgrow (by first | omega | (simp; omega)) hrw9)
                        clear own7 hgrow hat own9 hrw9 hnl hA8 hA9 HN8 HPT8 HPB8 HB8
                        go_wp2_with fail
                        go_roundw
                        case rel => exact ⟨j + 1, by omega, by go_num, HMK, HPT7, HPB7, HB7⟩
                        case measure => simp [intOf]; omega
                · rw [if_neg hjj] at hbz
                  have HMK := Lib.hid (HMJ.out.pass hjj)
                  obtain ⟨⟨A1, n1, c1, rfl⟩, A2, n2, c2, rfl⟩ := HMJ.out.form
                  generalize Q[j] = q at *
                  clear HMJ hbr
                  go_wp2_with fail
                  go_roundw
                  case rel => exact ⟨j + 1, by omega, by go_num, HMK, HPT, HPB, HBW⟩
                  case measure => simp [intOf]; omega
              · have HMK : Hid (∃ r', Made10 I S wz.heap.size wi u13 u14 (t + 1) r') := by
                  rcases HMJ.out with ⟨h1, _⟩ | ⟨_, h2⟩
                  · omega
                  · exact h2
                obtain ⟨r', HMR⟩ := HMK
                have HMR := Lib.hid HMR
                obtain ⟨⟨A1, n1, c1, rfl⟩, A2, n2, c2, rfl⟩ := HMJ.out.form
                clear HMJ hbr
                go_wp2_with fail
                go_roundw
                case rel => exact ⟨t + 1, r', by omega, by go_num, HMR, HPT, HBW⟩
                case measure => simp [intOf]; omega
          · obtain rfl : t = I.length := by omega
            have R := Lib.hid (RY.out _ wo (by have := HMD.out.out; rw [List.take_length] at this; rw [List.length_map]; exact this) HBW.out)
            clear HMD HPT HBW
            go_wp2_with fail
            go_ret2
            exact R.out
      · have hne : ((r : Int) != 0) = true := by rw [bne_iff_ne]; omega
        have R := Lib.hid (RN.out (.inr fun ⟨Q, q1, q2, q3⟩ => by
          obtain ⟨Q', p1, p2, p3⟩ := HSF.out.all
          rw [p1] at q1
          obtain rfl := castL_inj q1
          rw [p3] at q3
          simp at q3
          exact h0 q3) wr (Below.refl _ _))
        clear HSF
        go_wp2_with fail
        go_ret2
        exact R.out
end Go.Proofs.YtnkehfhedjdhaaaDoor

/-! Tz10 -/
namespace Go.Proofs.YtnkehfhedjdhaaaDoor
open Go.RowKit

theorem ctz_fbN {x : Nat} (h0 : 0 < x) (h : x < 2 ^ 64) : Lib.ctz 64 x = fbN x := by
  obtain ⟨m, hm, hk⟩ := Lib.ctzFrom_spec 64 x h0 h
  have e : Lib.ctz 64 x = Lib.ctzFrom 64 x := by simp [Lib.ctz, show x ≠ 0 by omega]
  rw [e]
  generalize Lib.ctzFrom 64 x = k at *
  refine (fbN_eq ?_ ?_ hk).symm
  · rw [hm, Nat.mul_comm, Nat.testBit_mul_two_pow]; simp
  · intro j hj
    rw [hm, Nat.mul_comm, Nat.testBit_mul_two_pow]; simp; omega
set_option maxHeartbeats 1000000 in
theorem tz64_core10 (x k idx : Nat) (w : World) (hx0 : ((x : Int) == 0) = false)
    (key : IntKind.u64.wrap (bits BinOp.and IntKind.u64 (x : Int) (IntKind.u64.wrap (-(x : Int))) * 285870213051353865) / 288230376151711744 = (idx : Int))
    (hi : idx < 64) (hk : k < 64) (hcell : w.cell? ⟨1, idx, none⟩ = some (.int .u8 k)) :
    Calls Tryd.prog 88 #[.int .u64 x] w fun e w' => e = .returned (.int .i64 k) ∧ w' = w := by
  go_enter Tryd.func88, Tryd.ntmps88
  go_wp2_with (simp only [key])
  go_ret
  exact ⟨rfl, rfl⟩
theorem tz64_any (x : Nat) (h0 : 0 < x) (h : x < 2 ^ 64) (W : World) (hT : TabAt 1 Lib.deBruijn64tab W) :
    Calls Tryd.prog 88 #[.int .u64 x] W fun e w' => e = .returned (.int .i64 (fbN x)) ∧ w' = W := by
  obtain ⟨hlow, hk⟩ := Lib.lowest_bit 64 x (by omega) h
  obtain ⟨hi, htab⟩ := Lib.deBruijn64_at _ hk
  have hcell := hT _ hi
  rw [htab] at hcell
  rw [← ctz_fbN h0 h]
  exact tz64_core10 x _ _ W (by simp; omega) (tz64_key x _ h (by omega) hlow) hi hk hcell
theorem tz_any (x : Nat) (h0 : 0 < x) (h : x < 2 ^ 63) (W : World) (hT : TabAt 1 Lib.deBruijn64tab W) :
    Calls Tryd.prog 72 #[.int .u64 x] W fun e w' => e = .returned (.int .i64 (fbN x)) ∧ w' = W := by
  have H := Lib.hid (tz64_any x h0 (by omega) W hT)
  have f1 : IntKind.u64.wrap (x : Int) = x := by rw [IntKind.wrap_u64]; omega
  clear hT
  go_enter Tryd.func72, Tryd.ntmps72
  go_wp2_with fail
  refine H.out.mono ?_
  rintro e w1 ⟨rfl, rfl⟩
  go_wp2_with fail
  go_ret
  exact ⟨rfl, rfl⟩
def cmpI (a b : Int) : Int := bif decide (a < b) then -1 else bif decide (b < a) then 1 else 0
theorem cmpI_neg (a b : Int) : cmpI a b < 0 ↔ a < b := by
  unfold cmpI
  by_cases h1 : a < b
  · simp [h1]
  · by_cases h2 : b < a <;> simp [h1, h2]
set_option maxRecDepth 100000 in
theorem cmpI_any (a b : Int) (w : World) : Calls Tryd.prog 71 #[.int .i64 a, .int .i64 b] w fun e w' => e = .returned (.int .i64 (cmpI a b)) ∧ w' = w := by
  cases h1 : decide (a < b) <;> cases h2 : decide (b < a)
  all_goals (
    have hv : Hid (cmpI a b = bif decide (a < b) then -1 else bif decide (b < a) then 1 else 0) := rfl
    rw [h1, h2] at hv
    go_enter Tryd.func71, Tryd.ntmps71
    go_wp2_with go_in
    go_ret
    exact ⟨by rw [hv.out]; rfl, rfl⟩)
theorem cmpF_any (a b : Nat) (ha : 0 < a ∧ a < 2 ^ 63) (hb : 0 < b ∧ b < 2 ^ 63) (W : World) (hT : TabAt 1 Lib.deBruijn64tab W) :
    Calls Tryd.prog 42 #[.int .i64 a, .int .i64 b] W fun e w' => e = .returned (.int .i64 (cmpI (fbN a) (fbN b))) ∧ w' = W := by
  have H1 := Lib.hid (tz_any a ha.1 ha.2 W hT)
  have H2 := Lib.hid (tz_any b hb.1 hb.2 W hT)
  have H3 := Lib.hid (cmpI_any (fbN a) (fbN b) W)
  have f1 : IntKind.u64.wrap (a : Int) = a := by rw [IntKind.wrap_u64]; omega
  have f2 : IntKind.u64.wrap (b : Int) = b := by rw [IntKind.wrap_u64]; omega
  generalize fbN a = p at *
  generalize fbN b = q at *
  clear hT ha hb
  go_enter Tryd.func42, Tryd.ntmps42
  go_wp2_with fail
  refine H1.out.mono ?_
  rintro e w1 ⟨rfl, rfl⟩
  go_wp2_with fail
  refine H2.out.mono ?_
  rintro e w2 ⟨rfl, rfl⟩
  go_wp2_with fail
  refine H3.out.mono ?_
  rintro e w3 ⟨rfl, rfl⟩
  go_wp2_with fail
  go_ret
  exact ⟨rfl, rfl⟩
end Go.Proofs.YtnkehfhedjdhaaaDoor

/-! Val10 -/
namespace Go.Proofs.YtnkehfhedjdhaaaDoor
open Go.RowKit Go.Shelf Go.Sort
attribute [local go_sem] Oper.semAt_some

theorem infoI10 : (Tryd.prog.info? 3).map (fun i => (i.zero, i.size, i.bytes)) = some (some (.int .i64 0), 1, 8) := by kernel_rfl
theorem kF_below {B : Nat} {W W' : World} (h : Below W.heap.size W W') : KeepsFrom B W W' := ⟨h.size, fun k _ _ h0 _ => (h.block k (Array.getElem?_eq_some_iff.1 h0).1).trans h0⟩
theorem boxed_below {W W' : World} {B : Nat} {t : TypeId} {v : Value} (h : Boxed W B t v) (hb : Below W.heap.size W W') : Boxed W' B t v := (hb.block B h.lt).trans h
theorem setCell_only (W : World) (b o : Nat) (u : Value) : W.grownBy (W.setCell ⟨b, o, none⟩ u) (some b) :=
  ⟨rfl, rfl, rfl, by simp [World.setCell], fun k hk hne => Below.heap_setCell W ⟨b, o, none⟩ u k (fun e => hne (by rw [e]))⟩
theorem row_other {W : World} {B b k : Nat} {e : TypeId} {size : Nat} {v : Value} {xs : List Value} (h : W.ownsRow B e size v k xs) (hb : b < B) (o : Nat) (u : Value) : (W.setCell ⟨b, o, none⟩ u).ownsRow B e size v k xs :=
  h.kept (setCell_only W b o u) (by
    cases hv : v.ownBlock with
    | none => exact .inl rfl
    | some q => exact .inr (fun e => by simp only [Option.some.injEq] at e; have := (h.lt q hv).1; omega))
/-- What lay below m and block B lie as they lay. -/
def KeepB (m B : Nat) (W W' : World) : Prop := Below m W W' ∧ W'.heap[B]? = W.heap[B]?
theorem KeepB.refl (m B : Nat) (W : World) : KeepB m B W W := ⟨Below.refl _ _, rfl⟩
theorem keepB_t {m B : Nat} {X Y Z : World} (h : KeepB m B X Y) (k : KeepB m B Y Z) : KeepB m B X Z := ⟨h.1.trans k.1, k.2.trans h.2⟩
theorem keepB_b {m B : Nat} {w : World} (hn : m ≤ w.heap.size) (hB : B < w.heap.size) (W : World) (l : Nat) (o o' : Obj) (hl : w.heap.size ≤ l) (h : W.heap[l]? = some o) (h1 : o.isCells = false) (h2 : o.isWalk = false) : KeepB m B W (W.putObj l o') :=
  ⟨belowK_b hn W l o o' hl h h1 h2, World.putObj_heap_other (by omega)⟩
theorem KeepB.of_below {m B : Nat} {W W' : World} (h : Below W.heap.size W W') (hm : m ≤ W.heap.size) (hB : B < W.heap.size) : KeepB m B W W' := ⟨h.mono hm, h.block B hB⟩
theorem cell_sameB {X Y : World} {B o : Nat} {v : Value} (h : Y.heap[B]? = X.heap[B]?) (hc : X.cell? ⟨B, o, none⟩ = some v) : Y.cell? ⟨B, o, none⟩ = some v := by
  have : Y.cell? ⟨B, o, none⟩ = X.cell? ⟨B, o, none⟩ := by simp only [World.cell?, h]
  rw [this]; exact hc
def gI (X : List Int) (k : Nat) : Int := X.getD k 0
theorem gI_at {X : List Int} {k : Nat} (h : k < X.length) : gI X k = X[k] := by simp [gI, h]
theorem values_any (A : Option Addr) (n c : Nat) (w : World) :
    Calls Tryd.prog 41 #[.slice A n c] w fun e w' => e = .returned (.func (.func 70) #[] #[.pointer (some ⟨w.heap.size, 0, none⟩)]) ∧ w.alloc (.cells #[.slice A n c] 27) = w' := by
  go_enter Tryd.func41, Tryd.ntmps41
  go_wp2_with fail
  go_ret
  exact ⟨rfl, rfl⟩
set_option maxRecDepth 100000 in
set_option maxHeartbeats 4000000 in
theorem values1 (n l Bs : Nat) (A : Option Addr) (c : Nat) (L : List Int) (w0 : World) (h1 : 1 ≤ L.length) (h2 : L.length ≤ 1048576) (hA : IntsA w0 A L) (J Jx : List Nat → World → Prop) (W : World) (_ : AbidesFrom W.heap.size J)
    (hY : ∀ (pre : List Nat) (x : Nat) (W1 : World), J pre W1 → pre.length < L.length → YieldAt Fence.wide (n - 1) Tryd.prog l #[.int .i64 (gI L x)] W1 fun e W' =>
      (e = .returned (.bool true) ∧ J (pre ++ [x]) W' ∧ KeepB w0.heap.size Bs W1 W') ∨ (e = .returned (.bool false) ∧ Jx (pre ++ [x]) W'))
    (_ : Bs < W.heap.size) (hBs : W.cell? ⟨Bs, 0, none⟩ = some (.slice A L.length c)) (hW : Below w0.heap.size w0 W) (h0 : J [] W) :
    CallsIn Fence.wide n Tryd.prog 70 #[.func (.yield l) #[] #[], .pointer (some ⟨Bs, 0, none⟩)] W fun e W' => (∃ v, e = .returned v) ∧
      ((∃ ys, ys = List.range L.length ∧ J ys W') ∨ (∃ pre, (∃ k, k ≤ L.length ∧ pre = List.range k) ∧ Jx pre W')) := by
  obtain ⟨g, rfl, -⟩ := hA 0 h1
  have HA := Lib.hid hA; clear hA
  refine callsIn_of_wp Tryd.func70 rfl trivial ?_ rfl
  simp only [Tryd.ntmps70, List.size_toArray, List.length_cons, List.length_nil, Nat.reduceAdd, Nat.reduceSub, Array.replicate_succ, Array.replicate_zero, List.push_toArray, List.append_toArray, List.nil_append, List.cons_append]
  gi_wp2
  gi_loopw [4, 7] (fun _ i wr => ∃ k : Nat, k ≤ L.length ∧ i = .int .i64 k ∧ J (List.range k) wr ∧ KeepB w0.heap.size Bs W wr)
    (fun _ i _ => L.length - (intOf i).toNat)
  case atStart => exact ⟨0, Nat.zero_le _, rfl, h0, KeepB.refl _ _ _⟩
  case round =>
    obtain ⟨k, hk, rfl, hJs, hnx⟩ := hrel
    by_cases hlt : k < L.length
    · obtain ⟨g', hg', c1⟩ := intsA_on HA.out (hW.trans hnx.1) k hlt
      simp only [Option.some.injEq, Addr.mk.injEq, and_true] at hg'
      subst hg'
      rw [← gI_at hlt] at c1
      have hp1 : (k : Int) < (L.length : Int) := by omega
      obtain ⟨fn, tmps, assign, body, hy, hR⟩ := hY _ k wr hJs (by rw [List.length_range]; exact hlt)
      generalize gI L k = z at *
      gi_wp2
      refine ⟨fun e => (by cases e), hR.mono ?_⟩
      rintro e W3 (⟨rfl, hJ3, hk3⟩ | ⟨rfl, hJx3⟩)
      · gi_wp2
        go_roundw
        case rel => exact ⟨k + 1, by omega, by go_num, by rw [List.range_succ]; exact hJ3, keepB_t hnx hk3⟩
        case measure => simp [intOf]; omega
      · gi_wp2
        refine bodyPost_ret (results_none rfl _ _ _) rfl ?_
        exact ⟨⟨_, rfl⟩, .inr ⟨_, ⟨k + 1, by omega, List.range_succ.symm⟩, hJx3⟩⟩
    · obtain rfl : k = L.length := by omega
      gi_wp2
      go_end0
      exact ⟨⟨_, rfl⟩, .inl ⟨_, rfl, hJs⟩⟩
theorem values_stops10 (n Bs : Nat) (A : Option Addr) (c : Nat) (L : List Int) (w0 w : World) (h1 : 1 ≤ L.length) (h2 : L.length ≤ 1048576) (hA : IntsA w0 A L) (hB : Below w0.heap.size w0 w) (hBl : Bs < w.heap.size) (hBs : w.cell? ⟨Bs, 0, none⟩ = some (.slice A L.length c)) :
    SeqStopsK Fence.wide n Tryd.prog 70 #[.pointer (some ⟨Bs, 0, none⟩)] (fun i : Nat => #[.int .i64 (gI L i)]) (KeepB w0.heap.size Bs) (fun ys => ys = List.range L.length) (fun pre => ∃ k, k ≤ L.length ∧ pre = List.range k) L.length w := fun l J Jx W hW hJ _ hY h0 =>
  values1 n l Bs A c L w0 h1 h2 hA J Jx W hJ hY (Nat.lt_of_lt_of_le hBl hW.size) ((hW.cell (p := ⟨Bs, 0, none⟩) hBl).trans hBs) (hB.trans (hW.mono hB.size)) h0
def took (X : List Int) (pre : List Nat) : List Int := pre.map (gI X)
theorem took_snoc (X : List Int) (pre : List Nat) (x : Nat) : took X (pre ++ [x]) = took X pre ++ [gI X x] := by simp [took]
theorem took_all (X : List Int) : took X (List.range X.length) = X := by
  apply List.ext_getElem (by simp [took])
  intro k h1 h2
  simp [took, gI, h2]
theorem took_len (X : List Int) (pre : List Nat) : (took X pre).length = pre.length := by simp [took]
set_option maxRecDepth 100000 in
set_option maxHeartbeats 8000000 in
theorem appendSeq_any (A : Option Addr) (c Bs : Nat) (X : List Int) (w : World) (hA : IntsA w A X) (h1 : 1 ≤ X.length) (h2 : X.length ≤ 1048576) (hBl : Bs < w.heap.size) (hBs : w.cell? ⟨Bs, 0, none⟩ = some (.slice A X.length c)) :
    Calls Tryd.prog 83 #[.slice none 0 0, .func (.func 70) #[] #[.pointer (some ⟨Bs, 0, none⟩)]] w (ListsI w X) := by
  obtain ⟨i0, hi0, hz0, hz1, hz2⟩ := info_parts infoI10
  have HT := Lib.hid (took_all X)
  refine (callsIn_wide (n := 6)).1 ?_
  refine callsIn_of_wp_marks Tryd.func83 rfl trivial ?_ rfl
  simp only [Tryd.ntmps83, List.size_toArray, List.length_cons, List.length_nil, Nat.reduceAdd, Nat.reduceSub, Array.replicate_succ, Array.replicate_zero, List.push_toArray, List.append_toArray, List.nil_append, List.cons_append]
  gi_wp2
  have bB := Boxed.new w 27 (.slice none 0 0)
  have hB0 : Below w.heap.size w (w.alloc (.cells #[.slice none 0 0] 27)) := below1 w _
  have hsz : (w.alloc (.cells #[.slice none 0 0] 27)).heap.size = w.heap.size + 1 := by simp
  have d0 := cell_on hB0 rfl hBs
  obtain ⟨W0, hW0⟩ : ∃ W0, w.alloc (.cells #[.slice none 0 0] 27) = W0 := ⟨_, rfl⟩
  rw [hW0] at bB hB0 hsz d0 ⊢
  clear hW0 hBs
  refine wpIn_rangeFunc_ownH rfl (by decide) (gf := 70) (lb := #[.pointer (some ⟨Bs, 0, none⟩)]) rfl trivial (enters_of Tryd.func70 (by kernel_rfl) rfl)
    (values_stops10 5 Bs A c X w W0 h1 h2 hA hB0 (by omega) d0) keepB_t (keepB_b (by omega) (by omega)) (Below.refl _ _) (fun _ => rfl)
    (fun pre W => (∃ v, Boxed W w.heap.size 27 v ∧ W.ownsRow (w.heap.size + 1) 3 1 v (took X pre).length (ints (took X pre)) ∧ True) ∧ Below w.heap.size w W)
    (fun _ _ _ => False)
    (OwnFrom.and (Own.from (holdsRow_own (w.heap.size + 1) w.heap.size 27 3 1 (fun pre => (took X pre).length) (fun pre => ints (took X pre)) (fun _ _ => True)) _) (ownFrom_below (Nat.le_refl _) (by omega)))
    (fun _ => ownFrom_pure _ (fun _ => False))
    ⟨⟨_, bB, World.ownsRow_nil _ _ _ _, trivial⟩, hB0⟩
    (fun x a' W => a' = { tmps := #[.slice none 0 0, .func (.func 70) #[] #[.pointer (some ⟨Bs, 0, none⟩)], .pointer (some ⟨w.heap.size, 0, none⟩), undef, .slice none 0 0, .int .i64 (gI X x), .func (.func 70) #[] #[.pointer (some ⟨Bs, 0, none⟩)], .int .i64 (gI X x), undef, undef, undef, undef, undef], defers := [] })
    (fun x a' => ownFrom_pure _ (fun _ => _))
    ?assign ?body ?done ?stop
  case assign =>
    rintro l pre x W K ⟨⟨v, bB4, own4, -⟩, hB4⟩ hK
    gi_wp2
    exact hK _ _ (kF_below (Below.refl _ _)) (KeepB.refl _ _ _) ⟨⟨v, bB4, own4, trivial⟩, hB4⟩ rfl
  case body =>
    rintro l pre x a' W hl hpl ⟨⟨v, bB4, own4, -⟩, hB4⟩ rfl hlt
    have hs4 := hB4.size
    have hlen := took_len X pre
    have HST := Lib.hid (took_snoc X pre x)
    have hplt : pre.length < X.length := hlt
    generalize took X pre = M at *
    generalize gI X x = z at *
    have hml : M.length < X.length := by omega
    clear hlen hplt hlt
    have cB := bB4.cell
    have fB := bB4.frozen
    have hrw := fun k hk => (own4.lt k hk).1
    have hs1 : w.heap.size ≤ w.heap.size := Nat.le_refl _
    have hlt1 : w.heap.size < W.heap.size := bB4.lt
    gi_wp2_with (gi_at_builtin; refine wpListIn_append_own _ rfl _ _ 27 rfl (w.heap.size + 1) 3 i0 (.int .i64 0) 1 8 Tryd.underlying27 hi0 hz0 hz1 hz2 rfl (by decide) _ _ _ rfl (own4.alloc _) ⟨W.heap.size, 0, none⟩ 1 1 [.int .i64 z] rfl rfl ?d1 ?d2 ?d3 ?d4 ?d5 ?_)
    case d1 => exact World.news_of_block (cs := #[.int .i64 z]) (t := 3) (fr := (0, 0)) (heap_alloc_new W _)
    case d2 => simp [Value.oneCell']
    case d3 => unfold maxLen; omega
    case d4 => omega
    case d5 => simp; omega
    intro v' w6 own6 hgrow _
    obtain ⟨g6, cp6, rfl⟩ := ownsRow_succ own6
    obtain ⟨hv1, hv2, hr2, hk2, hb2⟩ := bB4.appended (by decide) (own_base own4 (show w.heap.size ≤ w.heap.size + 1 by omega)) hs4 hs1 (own_base own6 (show w.heap.size ≤ w.heap.size + 1 by omega)) hgrow
    have hc6 := hv1.cell
    have hf6 := hv1.frozen
    have hv3 := row_other own6 (show w.heap.size < w.heap.size + 1 by omega) 0 (.slice (some ⟨g6, 0, none⟩) (M.length + 1) cp6)
    have hB7 := hB4.trans hb2
    have hKB : w6.heap[Bs]? = W.heap[Bs]? := ((hgrow.block _ (by simp; omega) (fun e => by have := hrw _ e.symm; omega))).trans (Below.heap_alloc _ _ _ (by omega))
    have hK7 : KeepB w.heap.size Bs W (w6.setCell ⟨w.heap.size, 0, none⟩ (.slice (some ⟨g6, 0, none⟩) (M.length + 1) cp6)) := ⟨hb2, (Below.heap_setCell w6 ⟨w.heap.size, 0, none⟩ _ _ (by simp; omega)).trans hKB⟩
    have hF7 := hk2.from W0.heap.size
    have R := Lib.hid (And.intro hv2 (And.intro hv3 (And.intro hB7 (And.intro hK7 hF7))))
    clear hv2 hr2 hk2 hb2 hv3 hB7 hK7 hF7 hKB hgrow own6 own4 hv1 bB4 hB4
    gi_wp2
    obtain ⟨r1, r2, r3, r4, r5⟩ := R.out
    refine ⟨r5, r4, ?_⟩
    simp only [HST.out, List.length_append, List.length_cons, List.length_nil, ints_snoc]
    exact ⟨⟨_, r1, r2, trivial⟩, r3⟩
  case done =>
    rintro D zs W hD rfl ⟨⟨v, bB4, own4, -⟩, hB4⟩ hK
    have cB := bB4.cell
    have hs9 := hB0.size
    rw [HT.out] at own4
    gi_wp2
    refine ⟨by simp, .inl ⟨_, _, rfl, run_takeDeferred hK, ?_⟩⟩
    exact ⟨_, results_tmp rfl _ _ _, v, rfl, ownsRow_putObj (own_base own4 (show w.heap.size ≤ w.heap.size + 1 by omega)) _ hK rfl, hB4.trans (belowK_b (w := w) (Nat.le_refl _) W D _ _ (by omega) hK rfl rfl)⟩
  case stop =>
    rintro D k pre W hD hpre h hK
    exact h.elim
theorem collect_any (A : Option Addr) (c Bs : Nat) (X : List Int) (w : World) (hA : IntsA w A X) (h1 : 1 ≤ X.length) (h2 : X.length ≤ 1048576) (hBl : Bs < w.heap.size) (hBs : w.cell? ⟨Bs, 0, none⟩ = some (.slice A X.length c)) :
    Calls Tryd.prog 68 #[.func (.func 70) #[] #[.pointer (some ⟨Bs, 0, none⟩)]] w (ListsI w X) := by
  have H := Lib.hid (appendSeq_any A c Bs X w hA h1 h2 hBl hBs)
  unfold ListsI at H
  clear hBs hA
  go_enter Tryd.func68, Tryd.ntmps68
  go_wp2_with fail
  refine H.out.mono ?_
  rintro e w1 ⟨v, rfl, own, hb⟩
  have R := Lib.hid (And.intro own hb)
  clear own hb
  go_wp2_with fail
  go_ret
  exact ⟨_, rfl, R.out.1, R.out.2⟩
end Go.Proofs.YtnkehfhedjdhaaaDoor

/-! SortShelf -/
namespace Go.Proofs
open Go.Shelf
def Tryd.laysSort1_ren : Go.Shelf.Ren := ⟨fun | 6 => 69 | 15 => 85 | 14 => 84 | 28 => 101 | 29 => 102 | 20 => 93 | 21 => 94 | 22 => 95 | 23 => 96 | 24 => 97 | 25 => 98 | 26 => 99 | 27 => 100 | 46 => 103 | 47 => 104 | 48 => 105 | 49 => 106 | 50 => 107 | 57 => 108 | n => n, fun | 22 => 27 | 24 => 3 | 25 => 62 | 3 => 3 | 39 => 51 | 0 => 0 | 53 => 97 | 55 => 99 | 4 => 4 | 46 => 105 | 45 => 104 | 50 => 109 | 5 => 5 | 9 => 9 | 66 => 113 | 70 => 117 | 76 => 119 | 77 => 23 | n => n, fun | n => n⟩
theorem Tryd.laysSort1 : Go.Proofs.SlLaysF.n6 Tryd.prog Tryd.laysSort1_ren := {
  mixed := by kernel_rfl
  f6 := ⟨Tryd.f69.name, by decide, Tryd.func69.trans (congrArg some (by kernel_rfl))⟩
  f14 := ⟨Tryd.f84.name, by decide, Tryd.func84.trans (congrArg some (by kernel_rfl))⟩
  f15 := Tryd.func85.trans (congrArg some (by kernel_rfl))
  f20 := ⟨Tryd.f93.name, by decide, Tryd.func93.trans (congrArg some (by kernel_rfl))⟩
  f21 := ⟨Tryd.f94.name, by decide, Tryd.func94.trans (congrArg some (by kernel_rfl))⟩
  f22 := ⟨Tryd.f95.name, by decide, Tryd.func95.trans (congrArg some (by kernel_rfl))⟩
  f23 := ⟨Tryd.f96.name, by decide, Tryd.func96.trans (congrArg some (by kernel_rfl))⟩
  f24 := ⟨Tryd.f97.name, by decide, Tryd.func97.trans (congrArg some (by kernel_rfl))⟩
  f25 := ⟨Tryd.f98.name, by decide, Tryd.func98.trans (congrArg some (by kernel_rfl))⟩
  f26 := ⟨Tryd.f99.name, by decide, Tryd.func99.trans (congrArg some (by kernel_rfl))⟩
  f27 := ⟨Tryd.f100.name, by decide, Tryd.func100.trans (congrArg some (by kernel_rfl))⟩
  f28 := Tryd.func101.trans (congrArg some (by kernel_rfl))
  f29 := Tryd.func102.trans (congrArg some (by kernel_rfl))
  f46 := ⟨Tryd.f103.name, by decide, Tryd.func103.trans (congrArg some (by kernel_rfl))⟩
  f47 := Tryd.func104.trans (congrArg some (by kernel_rfl))
  f48 := Tryd.func105.trans (congrArg some (by kernel_rfl))
  f49 := ⟨Tryd.f106.name, by decide, Tryd.func106.trans (congrArg some (by kernel_rfl))⟩
  f50 := ⟨Tryd.f107.name, by decide, Tryd.func107.trans (congrArg some (by kernel_rfl))⟩
  f57 := ⟨Tryd.f108.name, by decide, Tryd.func108.trans (congrArg some (by kernel_rfl))⟩
  t0 := Tryd.underlying0
  a0 := Tryd.isAgg0
  z0 := Tryd.sizeOf0
  v0 := Tryd.zeroValue0
  t3 := Tryd.underlying3
  a3 := Tryd.isAgg3
  z3 := Tryd.sizeOf3
  v3 := Tryd.zeroValue3
  t4 := Tryd.underlying4
  a4 := Tryd.isAgg4
  z4 := Tryd.sizeOf4
  v4 := Tryd.zeroValue4
  t5 := Tryd.underlying5
  a5 := Tryd.isAgg5
  z5 := Tryd.sizeOf5
  v5 := Tryd.zeroValue5
  t9 := Tryd.underlying9
  a9 := Tryd.isAgg9
  z9 := Tryd.sizeOf9
  v9 := Tryd.zeroValue9
  t22 := Tryd.underlying27
  a22 := Tryd.isAgg27
  z22 := Tryd.sizeOf27
  v22 := Tryd.zeroValue27
  a24 := Tryd.isAgg3
  z24 := Tryd.sizeOf3
  t25 := Tryd.underlying62
  a25 := Tryd.isAgg62
  z25 := Tryd.sizeOf62
  v25 := Tryd.zeroValue62
  t39 := Tryd.underlying51
  a39 := Tryd.isAgg51
  z39 := Tryd.sizeOf51
  v39 := Tryd.zeroValue51
  t45 := Tryd.underlying104
  a45 := Tryd.isAgg104
  z45 := Tryd.sizeOf104
  v45 := Tryd.zeroValue104
  t46 := Tryd.underlying105
  a46 := Tryd.isAgg105
  z46 := Tryd.sizeOf105
  v46 := Tryd.zeroValue105
  t50 := Tryd.underlying109
  a50 := Tryd.isAgg109
  z50 := Tryd.sizeOf109
  v50 := Tryd.zeroValue109
  t53 := Tryd.underlying97
  a53 := Tryd.isAgg97
  z53 := Tryd.sizeOf97
  v53 := Tryd.zeroValue97
  t55 := Tryd.underlying99
  a55 := Tryd.isAgg99
  z55 := Tryd.sizeOf99
  v55 := Tryd.zeroValue99
  t66 := Tryd.underlying113
  a66 := Tryd.isAgg113
  z66 := Tryd.sizeOf113
  v66 := Tryd.zeroValue113
  t70 := Tryd.underlying117
  a70 := Tryd.isAgg117
  z70 := Tryd.sizeOf117
  v70 := Tryd.zeroValue117
  t76 := Tryd.underlying119
  a76 := Tryd.isAgg119
  z76 := Tryd.sizeOf119
  v76 := Tryd.zeroValue119
  t77 := Tryd.underlying23
  a77 := Tryd.isAgg23
  z77 := Tryd.sizeOf23
  v77 := Tryd.zeroValue23 }
end Go.Proofs

/-! SrtI10 -/
namespace Go.Proofs.YtnkehfhedjdhaaaDoor
open Go.RowKit Go.Sort

section
variable {α : Type} [Inhabited α] (enc : α → Value)
theorem holds_g10 {w : World} {g : Nat} {cur : Array Value} {e : TypeId} {ss : List α} (hb : w.heap[g]? = some (.cells cur e (0, 0))) (ht : cur.toList.take ss.length = ss.map enc) : Go.Sort.Holds enc w g 0 ss.toArray := by
  intro j hj
  have hj' : j < ss.length := by simpa using hj
  refine ⟨?_, by simp [World.frozen?, hb]⟩
  have h1 : (cur.toList.take ss.length)[j]? = (ss.map enc)[j]? := by rw [ht]
  rw [List.getElem?_take_of_lt hj'] at h1
  simp only [World.cell?, hb, Nat.zero_add]
  simp only [Option.isSome_none, Bool.false_eq_true, if_false]
  rw [← Array.getElem?_toList, h1]
  simp [hj']
theorem grown_s10 {w : World} {g n : Nat} {os : Array Obj} (d : Array α) : w.grownBy (sortWorld enc w g 0 n d os) (some g) := by
  unfold sortWorld
  refine ⟨rfl, rfl, rfl, by simp, fun k hk hne => ?_⟩
  rw [heap_grow_old _ _ (by simpa using hk)]
  have : g ≠ k := fun e => hne (by rw [e])
  simp [putRow, mapBlock, Go.Sort.ahead, Array.getElem?_modify, this]
theorem owns_s10 {w : World} {base g cap n m : Nat} {e : TypeId} {os : Array Obj} {cur : Array Value} {ts : List α} (hl : ts.length = n) (hbase : base ≤ g) (hb : w.heap[g]? = some (.cells cur e (0, 0)))
    (h1 : n ≤ cap) (h2 : cap ≤ maxLen) (h3 : cur.size = cap * 1) :
    (sortWorld enc w g 0 m ts.toArray os).ownsRow base e 1 (.slice (some ⟨g, 0, none⟩) n cap) n (ts.map enc) := by
  have hg : g < w.heap.size := (Array.getElem?_eq_some_iff.1 hb).1
  have hh : (sortWorld enc w g 0 m ts.toArray os).heap[g]? = some (.cells (putCells enc 0 ts.toArray cur) e (0, 0)) := by
    unfold sortWorld
    rw [heap_grow_old _ _ (by simpa using hg)]
    simp [putRow, mapBlock, Go.Sort.ahead, Array.getElem?_modify, hb, onCells]
  have ht : (putCells enc 0 ts.toArray cur).toList.take n = ts.map enc := by
    subst hl
    apply List.ext_getElem?
    intro j
    by_cases hj : j < ts.length
    · rw [List.getElem?_take_of_lt hj, Array.getElem?_toList]
      simp [putCells, hj, show j < cur.size by omega]
    · rw [List.getElem?_take_eq_none (by omega), List.getElem?_eq_none (by simp; omega)]
  exact ⟨by simp [hl], .inr ⟨g, cap, _, rfl, hbase, hh, h1, h2, by simp [putCells, h3], by rw [Nat.mul_one]; exact ht⟩⟩
end
theorem tab_grown {w w' : World} {g b : Nat} {tab : List Nat} (h : TabAt b tab w) (hg : w.grownBy w' (some g)) (hne : b ≠ g) : TabAt b tab w' := fun j hj =>
  hg.cell (h j hj) (fun e => hne (Option.some.inj e))
set_option maxRecDepth 100000 in
theorem sort_pieces (B g c : Nat) (Q : List Nat) (w : World) (h : w.ownsRow B 3 1 (.slice (some ⟨g, 0, none⟩) Q.length c) Q.length (ints (castL Q))) (hQ : ∀ q ∈ Q, 0 < q ∧ q < 2 ^ 63) (h1 : 0 < Q.length) (hn : Q.length ≤ 1048576)
    (hT : TabAt 1 Lib.deBruijn64tab w) (hgt : 1 < g) :
    Calls Tryd.prog 69 #[.slice (some ⟨g, 0, none⟩) Q.length c, .func (.func 42) #[] #[]] w fun e w' => e = .returned (.tuple #[]) ∧
      ∃ S : List Nat, S.Perm Q ∧ S.Pairwise (fun p q => fbN p ≤ fbN q) ∧ w'.ownsRow B 3 1 (.slice (some ⟨g, 0, none⟩) Q.length c) Q.length (ints (castL S)) ∧ w.grownBy w' (some g) := by
  have eg : ∀ args w, (callFunc 42 args).run Tryd.prog w = .ok (.enter 42 args) w := enters_of Tryd.func42 (by kernel_rfl) rfl
  haveI : Inhabited {q : Nat // q ∈ Q} := ⟨⟨Q[0], List.getElem_mem h1⟩⟩
  have hlt : g < w.heap.size := (h.lt g rfl).2
  obtain ⟨enc, he⟩ : ∃ enc : {q : Nat // q ∈ Q} → Value, enc = fun x => .int .i64 (x.1 : Int) := ⟨_, rfl⟩
  obtain ⟨cf, hcf⟩ : ∃ cf : {q : Nat // q ∈ Q} → {q : Nat // q ∈ Q} → Int, cf = fun x y => cmpI (fbN x.1) (fbN y.1) := ⟨_, rfl⟩
  have hcmp : CmpLays1 Tryd.prog 42 #[] enc cf g 0 Q.attach.toArray.size w := fun m os dk hs x y => by
    have hg := grown_s10 enc (w := w) (g := g) (n := m) (os := os) dk
    have q := cmpF_any x.1 y.1 (hQ _ x.2) (hQ _ y.2) (sortWorld enc w g 0 m dk os) (tab_grown hT hg (by omega))
    have ex : enc x = .int .i64 (x.1 : Int) := by rw [he]
    have ey : enc y = .int .i64 (y.1 : Int) := by rw [he]
    rw [ex, ey]
    refine q.mono fun e w' ⟨h1, h2⟩ => ⟨by rw [h1, hcf], 0, #[], ?_⟩
    rw [h2, grow_empty]; rfl
  have hlto : ∀ x y, ltOf cf x y = true ↔ fbN x.1 < fbN y.1 := fun x y => by
    unfold ltOf
    rw [hcf, decide_eq_true_iff]
    exact (cmpI_neg _ _).trans (by omega)
  have hno : ∀ x y, ltOf cf x y = false ↔ ¬ fbN x.1 < fbN y.1 := fun x y => by rw [← hlto, Bool.not_eq_true]
  have hswo : Go.Sort.SWO (ltOf cf) := {
    irrefl := fun x => by rw [hno]; omega
    trans := fun x y z a b => by rw [hlto] at *; omega
    ntrans := fun x y z a b => by rw [hno] at *; omega }
  rcases h.2 with ⟨hv, _⟩ | ⟨g', cap', cur, hv, hB, hg, hn1, hc, hsz, ht⟩
  · cases hv
  simp only [Value.slice.injEq, Option.some.injEq, Addr.mk.injEq, and_true, true_and] at hv
  obtain ⟨rfl, rfl⟩ := hv
  have hmap : Q.attach.map enc = ints (castL Q) := by
    rw [he]
    unfold ints castL
    rw [List.map_map]
    rw [show (fun x : {q : Nat // q ∈ Q} => Value.int .i64 (x.1 : Int)) = ((fun n : Int => Value.int .i64 n) ∘ (fun n : Nat => (n : Int))) ∘ Subtype.val from rfl, ← List.map_map, List.attach_map_subtype_val]
  have hH : Go.Sort.Holds enc w g 0 Q.attach.toArray := holds_g10 enc hg (by
    rw [List.length_attach, hmap]
    rw [Nat.mul_one] at ht
    exact ht)
  have hcon := Any.slices_SortFunc Tryd.laysSort1 enc (fun x => by rw [he]; rfl) cf hswo 42 #[] g 0 c Q.attach.toArray w eg hcmp hH hlt (by simp; omega)
  change Calls Tryd.prog 69 _ _ _ at hcon
  have hda : Q.attach.toArray.size = Q.length := by simp
  rw [hda] at hcon
  refine hcon.mono ?_
  rintro e w' ⟨rfl, d', m, os, ⟨hp1, _, hp2⟩, hs, rfl⟩
  have hds : d'.size = Q.length := by rw [hp1]; simp
  have hperm : d'.toList.Perm Q.attach := by
    have e1 : (d'.extract 0 Q.length).toList = d'.toList := by rw [← hds, Array.extract_size]
    have e2 : (Q.attach.toArray.extract 0 Q.length).toList = Q.attach := by
      rw [← hda, Array.extract_size]
    rw [e1, e2] at hp2
    exact hp2
  have hS : (d'.toList.map Subtype.val).Perm Q := by
    have := hperm.map Subtype.val
    rwa [List.attach_map_subtype_val] at this
  have hgr := grown_s10 enc (w := w) (g := g) (n := m) (os := os) d'
  have hql : (d'.toList.map Subtype.val).length = Q.length := by simpa using hds
  refine ⟨rfl, d'.toList.map Subtype.val, hS, ?_, ?_, hgr⟩
  · rw [List.pairwise_iff_getElem]
    intro i j hi hj hij
    have hj' : j < d'.size := by simpa using hj
    have := (hno _ _).1 (hs i j (Nat.zero_le _) hij (by rw [← hds]; exact hj'))
    have gj : (d'.toList.map Subtype.val)[j] = (d'[j]!).1 := by simp [hj']
    have gi : (d'.toList.map Subtype.val)[i] = (d'[i]!).1 := by simp [show i < d'.size by omega]
    rw [gj, gi]
    omega
  · have := owns_s10 enc (w := w) (base := B) (g := g) (cap := c) (n := Q.length) (m := m) (os := os) (ts := d'.toList) (by simpa using hds) hB hg hn1 hc hsz
    have e3 : ints (castL (d'.toList.map Subtype.val)) = d'.toList.map enc := by rw [he]; unfold ints castL; rw [List.map_map, List.map_map]; rfl
    rw [e3]
    simpa using this
set_option maxHeartbeats 1000000 in
theorem sorted_any (A : Option Addr) (c Bs : Nat) (Q : List Nat) (w : World) (hA : IntsA w A (castL Q)) (h1 : 1 ≤ Q.length) (h2 : Q.length ≤ 1048576) (hQ : ∀ q ∈ Q, 0 < q ∧ q < 2 ^ 63) (hBl : Bs < w.heap.size) (hBs : w.cell? ⟨Bs, 0, none⟩ = some (.slice A Q.length c))
    (hT : TabAt 1 Lib.deBruijn64tab w) (hgt : 1 < w.heap.size) :
    Calls Tryd.prog 40 #[.func (.func 70) #[] #[.pointer (some ⟨Bs, 0, none⟩)], .func (.func 42) #[] #[]] w fun e w' =>
      ∃ (S : List Nat) (v : Value), e = .returned v ∧ S.Perm Q ∧ S.Pairwise (fun p q => fbN p ≤ fbN q) ∧ w'.ownsRow w.heap.size 3 1 v Q.length (ints (castL S)) ∧ Below w.heap.size w w' := by
  have hl : (castL Q).length = Q.length := by simp [castL]
  have HC := Lib.hid (collect_any A c Bs (castL Q) w hA (by omega) (by omega) hBl (by rw [hl]; exact hBs))
  unfold ListsI at HC
  rw [hl] at HC
  have HT := Lib.hid (fun W (hb : Below w.heap.size w W) => show TabAt 1 Lib.deBruijn64tab W from fun j hj => cell_on hb rfl (hT j hj))
  have HS := Lib.hid (fun g c W (own : W.ownsRow w.heap.size 3 1 (.slice (some ⟨g, 0, none⟩) Q.length c) Q.length (ints (castL Q))) (hT : TabAt 1 Lib.deBruijn64tab W) => sort_pieces w.heap.size g c Q W own hQ (by omega) h2 hT (by have := (own.lt g rfl).1; omega))
  clear hA hBs hT hQ
  go_enter Tryd.func40, Tryd.ntmps40
  go_wp2_with fail
  refine HC.out.mono ?_
  rintro e w1 ⟨v, rfl, own, hb⟩
  have hv : ∃ g cap, v = .slice (some ⟨g, 0, none⟩) Q.length cap := by
    rcases own.2 with ⟨_, h0⟩ | ⟨g, cap, _, rfl, _⟩
    · omega
    · exact ⟨g, cap, rfl⟩
  obtain ⟨g, cap, rfl⟩ := hv
  have hgl := own.lt g rfl
  have HV := Lib.hid (HS.out g cap w1 own (HT.out w1 hb))
  clear own
  go_wp2_with fail
  refine HV.out.mono ?_
  rintro e w2 ⟨rfl, S, hp, hs, own2, hg2⟩
  have b2 := hb.grown hg2 hb.size (fun q hq => by cases hq; exact hgl.1)
  have R := Lib.hid (And.intro hp (And.intro hs (And.intro own2 b2)))
  clear hp hs own2 hg2 hb b2
  go_wp2_with fail
  go_ret
  exact ⟨S, _, rfl, R.out.1, R.out.2.1, R.out.2.2.1, R.out.2.2.2⟩
end Go.Proofs.YtnkehfhedjdhaaaDoor

/-! FilI10 -/
namespace Go.Proofs.YtnkehfhedjdhaaaDoor
open Go.RowKit

theorem castL_drop (Q : List Nat) (k : Nat) : (castL Q).drop k = castL (Q.drop k) := by unfold castL; rw [List.map_drop]
set_option maxRecDepth 100000 in
set_option maxHeartbeats 1000000 in
theorem fill_any (m : Nat) (A : Option Addr) (c : Nat) (Q : List Nat) (W : World) (hm : m < 2 ^ 62) (hA : IntsA W A (castL Q)) (hQ : ∀ q ∈ Q, q < 2 ^ 62) (hl : Q.length ≤ 1048576) :
    Calls Tryd.prog 39 #[.int .i64 m, .slice A Q.length c] W fun e w' => e = .returned (.bool (decide (leftF m Q = some 0))) ∧ w' = W := by
  have HA := Lib.hid hA
  have HQ := Lib.hid hQ
  clear hA hQ
  go_enter Tryd.func39, Tryd.ntmps39
  go_wp2_with fail
  go_loopw [0, 6, 9] (fun s _ i wr => ∃ (k r : Nat), k ≤ Q.length ∧ i = .int .i64 k ∧ s = .int .i64 r ∧ r < 2 ^ 62 ∧ Hid (leftF m Q = leftF r (Q.drop k)) ∧ wr = W) (fun _ _ i _ => Q.length - (intOf i).toNat)
  case atStart => exact ⟨0, m, Nat.zero_le _, rfl, rfl, hm, by show _ = _; rw [List.drop_zero], rfl⟩
  case round =>
    obtain ⟨k, r, hk, rfl, rfl, hr, HL, rfl⟩ := hrel
    by_cases hlt : k < Q.length
    · obtain ⟨g, rfl, e1⟩ := HA.out k (by rw [castL_len]; exact hlt)
      rw [castL_get] at e1
      have hq := HQ.out _ (List.getElem_mem hlt)
      have HL1 : Hid (leftF m Q = if Q[k] &&& r = Q[k] then leftF (r - Q[k]) (Q.drop (k + 1)) else none) := by
        show _ = _
        rw [HL.out, List.drop_eq_getElem_cons hlt, leftF]
      generalize Q[k] = q at *
      have hand := and_nat (a := q) (b := r) hq hr
      have hoff := andNot_nat (a := r) (b := q) hr hq
      clear HL
      by_cases hc : q &&& r = q
      · have HL2 : Hid (leftF m Q = leftF (r - q) (Q.drop (k + 1))) := by
          show _ = _
          rw [HL1.out, if_pos hc]
        rw [hc] at hand
        rw [off_sub (and_sub.1 hc)] at hoff
        have hne : ((q : Int) != (q : Int)) = false := by simp
        have hr2 : r - q < 2 ^ 62 := by omega
        clear HL1 hc
        go_wp2_with fail
        go_roundw
        case rel => exact ⟨k + 1, r - q, by omega, by go_num, rfl, hr2, HL2, by first | trivial | rfl⟩
        case measure => simp [intOf]; omega
      · have HL2 : Hid (leftF m Q = none) := by
          show _ = _
          rw [HL1.out, if_neg hc]
        have hne : (((q &&& r : Nat) : Int) != (q : Int)) = true := by rw [bne_iff_ne]; omega
        have R : Hid (decide (leftF m Q = some 0) = false) := by
          show _ = _
          rw [HL2.out]; rfl
        clear HL1 hoff hc HL2
        go_wp2_with fail
        go_ret
        exact ⟨by rw [R.out]; rfl, rfl⟩
    · obtain rfl : k = Q.length := by omega
      rw [List.drop_length] at HL
      have R : Hid (decide (leftF m Q = some 0) = decide (r = 0)) := by
        show _ = _
        rw [HL.out]
        simp [leftF]
      clear HL
      by_cases h0 : r = 0
      · subst h0
        go_wp2_with fail
        go_ret
        exact ⟨by rw [R.out]; rfl, rfl⟩
      · have hne : ((r : Int) == 0) = false := by rw [beq_eq_false_iff_ne]; omega
        have R2 : Hid (decide (leftF m Q = some 0) = false) := by
          show _ = _
          rw [R.out]; exact decide_eq_false h0
        clear R h0
        go_wp2_with fail
        go_ret
        exact ⟨by rw [R2.out]; rfl, rfl⟩
end Go.Proofs.YtnkehfhedjdhaaaDoor

/-! CofI10 -/
namespace Go.Proofs.YtnkehfhedjdhaaaDoor
open Go.RowKit

theorem allP_nat {w h : Int} {X : List Int} (h0 : AllP w h X) : ∃ Q : List Nat, X = castL Q ∧ ∀ q ∈ Q, 0 < q ∧ q < 2 ^ 36 := by
  induction X with
  | nil => exact ⟨[], rfl, fun q hq => by simp at hq⟩
  | cons x X ih =>
    obtain ⟨Q, e, hQ⟩ := ih fun p hp => h0 p (List.mem_cons_of_mem _ hp)
    have hx := h0 x (by simp)
    have hS : shapeB w h x = true := by
      cases hb : shapeB w h x
      · exact absurd hx (oneP_no hb)
      · rfl
    obtain ⟨a, b, m, rfl, rfl, rfl, -, -, -, -, hm, hab⟩ := mask_nat hS
    refine ⟨m :: Q, by rw [e]; rfl, fun q hq => ?_⟩
    rcases List.mem_cons.1 hq with rfl | hq
    · refine ⟨?_, Nat.lt_of_lt_of_le hm (Nat.pow_le_pow_right (by omega) hab)⟩
      rcases Nat.eq_zero_or_pos q with h1 | h1
      · subst h1; exact absurd hx oneP_zero
      · exact h1
    · exact hQ q hq
theorem srt_eq {I Q S : List Nat} (h : Filled I Q) (hp : S.Perm Q) (hs : S.Pairwise (fun p q => fbN p ≤ fbN q)) : S = sortF Q := by
  refine order_uniq S (sortF Q) (hp.trans (sortF_perm Q).symm) ?_ (sortF_lt h)
  have h' := h.perm hp
  have hn : S.Pairwise (· ≠ ·) := filled_nodup h'
  have := List.pairwise_iff_getElem.1 hs
  refine List.pairwise_iff_getElem.2 fun i j hi hj hij => ?_
  have h1 := this i j hi hj hij
  have h2 := List.pairwise_iff_getElem.1 hn i j hi hj hij
  have h3 : fbN S[i] ≠ fbN S[j] := fun e => h2 (fb_ne h' (List.getElem_mem hi) (List.getElem_mem hj) e)
  omega
theorem and_two (q i : Nat) : q &&& 2 ^ i = if q.testBit i then 2 ^ i else 0 := by
  apply Nat.eq_of_testBit_eq
  intro j
  rw [Nat.testBit_and, Nat.testBit_two_pow]
  by_cases hj : i = j
  · subst hj
    cases h : q.testBit i <;> simp
  · cases h : q.testBit i <;> simp [hj]
theorem cell_any (q i b1 : Nat) (W : World) (hq : q < 2 ^ 36) (hi : i < 36) (h1 : W.cell? ⟨b1, 0, none⟩ = some (.int .i64 ((2 ^ i : Nat) : Int))) :
    Calls Tryd.prog 44 #[.int .i64 q, .pointer (some ⟨b1, 0, none⟩)] W fun e w' => e = .returned (.bool (q.testBit i)) ∧ w' = W := by
  have h2 : 2 ^ i < 2 ^ 36 := Nat.pow_lt_pow_right (by omega) hi
  have ha := and_nat (a := q) (b := 2 ^ i) (by omega) (by omega)
  have he : q.testBit i = (((q &&& 2 ^ i : Nat) : Int) != 0) := by
    rw [and_two]
    have hp : 0 < 2 ^ i := Nat.two_pow_pos i
    cases q.testBit i
    · rfl
    · simp only [if_true]
      rw [eq_comm, bne_iff_ne]
      omega
  rw [he]
  generalize q &&& 2 ^ i = r at *
  generalize 2 ^ i = t at *
  clear he hq h2 hi
  go_enter Tryd.func44, Tryd.ntmps44
  go_wp2_with fail
  go_ret
  exact ⟨rfl, rfl⟩
set_option maxRecDepth 100000 in
theorem rank_any (i b1 : Nat) (A : Option Addr) (c : Nat) (S : List Nat) (W : World) (hP : IntsA W A (castL S)) (hL : S.length ≤ 1048576) (hi : i < 36) (h36 : ∀ q ∈ S, q < 2 ^ 36) (h1 : W.cell? ⟨b1, 0, none⟩ = some (.int .i64 ((2 ^ i : Nat) : Int)))
    (hr : rankF S i < S.length) :
    Calls Tryd.prog 43 #[.slice A S.length c, .func (.func 44) #[] #[.pointer (some ⟨b1, 0, none⟩)]] W fun e w' => e = .returned (.int .i64 (rankF S i)) ∧ w' = W := by
  have HP := Lib.hid hP
  have HW : Hid (∀ k (hk : k < S.length), Calls Tryd.prog 44 #[.int .i64 (S[k] : Nat), .pointer (some ⟨b1, 0, none⟩)] W fun e w' => e = .returned (.bool (S[k].testBit i)) ∧ w' = W) := fun k hk => cell_any _ i b1 W (h36 _ (List.getElem_mem hk)) hi h1
  have HR : Hid (S[rankF S i].testBit i = true ∧ ∀ t (ht : t < S.length), t < rankF S i → S[t].testBit i = false) := by
    refine ⟨List.findIdx_getElem (xs := S) (p := fun q : Nat => q.testBit i) (w := by simpa only [rankF] using hr), fun t ht hlt => ?_⟩
    have := List.not_of_lt_findIdx (p := fun q : Nat => q.testBit i) (xs := S) hlt
    simpa using this
  generalize rankF S i = rk at *
  clear hP h1 h36 hi
  go_enter Tryd.func43, Tryd.ntmps43
  go_wp2_with fail
  go_loopw [5, 8] (fun _ i wr => ∃ j : Nat, j ≤ rk ∧ i = .int .i64 j ∧ wr = W) (fun _ i _ => S.length - (intOf i).toNat)
  case atStart => exact ⟨0, Nat.zero_le _, rfl, rfl⟩
  case round =>
    obtain ⟨k, hk, rfl, rfl⟩ := hrel
    have hlt : k < S.length := by omega
    obtain ⟨g, rfl, hc⟩ := HP.out k (by rw [castL_len]; exact hlt)
    rw [castL_get] at hc
    have HC := Lib.hid (HW.out k hlt)
    have hlI : (k : Int) < (S.length : Int) := by omega
    by_cases hkr : k < rk
    · have hf := HR.out.2 k hlt hkr
      generalize S[k] = q at *
      rw [hf] at HC
      clear hf
      go_wp2_with fail
      refine HC.out.mono ?_
      rintro e w1 ⟨rfl, rfl⟩
      go_wp2_with fail
      go_roundw
      case rel => exact ⟨k + 1, by omega, by go_num, by first | trivial | rfl⟩
      case measure => simp [intOf]; omega
    · have hkE : k = rk := by omega
      have ht : S[k].testBit i = true := by
        have := HR.out.1
        simp only [hkE]; exact this
      generalize S[k] = q at *
      rw [ht] at HC
      have HK := Lib.hid hkE
      clear ht hkE
      go_wp2_with fail
      refine HC.out.mono ?_
      rintro e w1 ⟨rfl, rfl⟩
      go_wp2_with fail
      go_ret
      exact ⟨by rw [HK.out]; rfl, rfl⟩
theorem take_castL {I : List Nat} {f : Nat → Nat} {k : Nat} (hk : k < I.length) : castL ((I.take (k + 1)).map f) = castL ((I.take k).map f) ++ [((f I[k] : Nat) : Int)] := by
  rw [List.take_succ_eq_append_getElem hk]
  unfold castL
  rw [List.map_append, List.map_append]; rfl
set_option maxRecDepth 100000 in
set_option maxHeartbeats 8000000 in
theorem impl_cutOf (w h M : Int) (A : Option Addr) (c : Nat) (X : List Int) (W : World) (hA : IntsA W A X) (hl : X.length ≤ 1048576)
    (hT : TabAt 1 Lib.deBruijn64tab W) (hgt : 1 < W.heap.size) :
    Calls Tryd.prog 12 #[.int .i64 w, .int .i64 h, .int .i64 M, .slice A X.length c] W (ResQ (CofP w h M X) W) := by
  obtain ⟨i0, hi0, hz0, hz1, hz2⟩ := info_parts infoI10
  have HCT := Lib.hid (cellsTo_any w h M W)
  unfold ListsI at HCT
  have RN : Hid (okC w h M = false ∨ ¬ FillX w h M X → ∀ w', Below W.heap.size W w' → ResQ (CofP w h M X) W (.returned (.tuple #[.slice none 0 0, .bool false])) w') := fun hn w' hb => ⟨([], false), _, rfl, cofP_no hn, World.ownsRow_nil _ _ _ _, hb⟩
  cases hok : okC w h M
  · have HE : cutCells w h M = [] := by unfold cutCells; rw [hok]; rfl
    rw [HE] at HCT
    have R := Lib.hid (RN.out (.inl hok))
    clear RN hok hA hT HE
    go_enter Tryd.func12, Tryd.ntmps12
    go_wp2_with fail
    refine HCT.out.mono ?_
    rintro e w1 ⟨v, rfl, own, hb⟩
    obtain ⟨_, A1, c1, rfl, -⟩ := own_ints own
    have R1 := Lib.hid (R.out w1 hb)
    clear own hb R
    simp only [List.length_nil]
    go_wp2_with fail
    go_ret2
    exact R1.out
  have HE : cutCells w h M = castL ((idxV w h M).map (2 ^ ·)) := by unfold cutCells; rw [hok]; rfl
  have HOKK := Lib.hid hok
  obtain ⟨a, b, m, n, rfl, rfl, rfl, hn, ha1, ha2, hb1, hb2, hm, h36, hix, hpc, h1, h9, hS⟩ := okC_nat hok
  have HIX := Lib.hid hix
  rw [HE, hix] at HCT
  have hm36 : m < 2 ^ 36 := Nat.lt_of_lt_of_le hm (Nat.pow_le_pow_right (by omega) h36)
  have HI36 : Hid (∀ i ∈ idxL m n, i < 36) := idx36 h36
  have HF36 : Hid (∀ Q, AllP a b (castL Q) → leftF m Q = some 0 → Filled (idxL m n) Q) := fun Q hA hF => fill_of h36 hm hA hF
  clear HE hok hix hpc hS hn hm h36
  generalize idxL m n = I at *
  obtain ⟨C, hC⟩ : ∃ C, C = castL (I.map (2 ^ ·)) := ⟨_, rfl⟩
  rw [← hC] at HCT
  have HCg : Hid (∀ k (h1 : k < C.length) (h2 : k < I.length), C[k] = ((2 ^ I[k] : Nat) : Int)) := fun k h1 h2 => by
    subst hC; simp [castL]
  have hCl : C.length = I.length := by rw [hC]; simp [castL]
  have hC1 : 1 ≤ C.length := by omega
  have hC9 : C.length ≤ 9 := by omega
  have HA := Lib.hid (fun (W' : World) (hb : Below W.heap.size W W') => intsA_on hA hb)
  have HT := Lib.hid (fun (W' : World) (hb : Below W.heap.size W W') => show TabAt 1 Lib.deBruijn64tab W' from fun j hj => cell_on hb rfl (hT j hj))
  have HWH := Lib.hid (fun W' (hb : Below W.heap.size W W') => areWhole_any a b A c X W' (HA.out W' hb) hl)
  have HCL := Lib.hid hCl
  clear hA hT hC hCl h1 h9
  go_enter Tryd.func12, Tryd.ntmps12
  go_wp2_with fail
  refine HCT.out.mono ?_
  rintro e w1 ⟨v, rfl, own1, hb1⟩
  obtain ⟨_, A1, c1, rfl, -⟩ := own_ints own1
  have hz : ((C.length : Int) == 0) = false := by rw [beq_eq_false_iff_ne]; omega
  have hz' : ¬ ((C.length : Int) = 0) := by omega
  have HWH1 := Lib.hid (HWH.out w1 hb1)
  clear HCT HWH
  go_wp2_with fail
  refine HWH1.out.mono ?_
  rintro e w2 ⟨wh, rfl, hwh, hb2'⟩
  have hb2 := below_on hb1 hb2'
  have own2 := own_below own1 hb2'
  clear own1 hb1 hb2' HWH1 hz hz'
  cases wh
  · have R := Lib.hid (RN.out (.inr (fun ⟨Q, q1, q2, q3⟩ => by have := hwh.2 q2; cases this)) w2 hb2)
    clear RN hwh own2 hb2
    go_wp2_with fail
    go_ret2
    exact R.out
  have hall := hwh.1 rfl
  obtain ⟨Q, hXQ, hQ⟩ := allP_nat hall
  have hXl : X.length = Q.length := by rw [hXQ, castL_len]
  have HDF := Lib.hid (fill_any m A c Q w2 (by omega) (by rw [← hXQ]; exact HA.out w2 hb2) (fun q hq => by have := hQ q hq; omega) (by omega))
  rw [hXl]
  cases hd : decide (leftF m Q = some 0)
  · have R := Lib.hid (RN.out (.inr (fun ⟨Q', q1, q2, q3⟩ => by
      have e : Q' = Q := castL_inj (q1.symm.trans hXQ)
      rw [e, Int.toNat_natCast] at q3
      rw [decide_eq_false_iff_not] at hd
      exact hd q3)) w2 hb2)
    rw [hd] at HDF
    clear RN hwh own2 hb2 hd hall hXl hQ
    go_wp2_with fail
    refine HDF.out.mono ?_
    rintro e w3 ⟨rfl, rfl⟩
    go_wp2_with fail
    go_ret2
    exact R.out
  rw [hd] at HDF
  have hleft := of_decide_eq_true hd
  have HFI : Hid (Filled I Q) := HF36.out Q (by rw [← hXQ]; exact hall) hleft
  have HFIN : Hid (CofP a b m X (castL (I.map (rankF (sortF Q))), true)) := by
    have := cofP_yes (w := a) (h := b) (M := m) HOKK.out (by rw [← hXQ]; exact hall) (by rw [Int.toNat_natCast]; exact hleft)
    rw [HIX.out] at this
    rw [hXQ]; exact this
  have HQ := Lib.hid hQ
  have hQ1 : 1 ≤ Q.length := by
    rcases Nat.eq_zero_or_pos Q.length with h0 | h0
    · exfalso
      have hQ0 : Q = [] := List.length_eq_zero_iff.1 h0
      have hI1 : 0 < I.length := by have := HCL.out; omega
      obtain ⟨q, hq, -⟩ := (HFI.out.fill I[0]).1 (List.getElem_mem hI1)
      rw [hQ0] at hq; simp at hq
    · exact h0
  have hb3 := hb2.alloc hb2.size (.cells #[.slice A Q.length c] 27)
  have HSD := Lib.hid (sorted_any A c w2.heap.size Q (w2.alloc (.cells #[.slice A Q.length c] 27)) (by rw [← hXQ]; exact HA.out _ hb3) hQ1 (by omega) (fun q hq => by have := hQ q hq; omega) (by simp) (cell_of_row _ _ 0 _ _ _ (heap_alloc_new w2 _)) (HT.out _ hb3) (by have := hb3.size; omega))
  have HVA := Lib.hid (values_any A Q.length c w2)
  have hQl : Q.length ≤ 1048576 := by omega
  have HRS : Hid (∀ v' w', w'.ownsRow W.heap.size 3 1 v' (castL (I.map (rankF (sortF Q)))).length (ints (castL (I.map (rankF (sortF Q))))) → Below W.heap.size W w' → ResQ (CofP a b m X) W (.returned (.tuple #[v', .bool true])) w') := fun v' w' h1 h2 => ⟨_, v', rfl, HFIN.out, h1, h2⟩
  clear RN hwh hd hall hXl hQ hleft hXQ HF36
  go_wp2_with fail
  refine HDF.out.mono ?_
  rintro e w3 ⟨rfl, rfl⟩
  go_wp2_with fail
  refine HVA.out.mono ?_
  rintro e w4 ⟨rfl, rfl⟩
  go_wp2_with fail
  refine HSD.out.mono ?_
  rintro e w5 ⟨S, vS, rfl, hp, hs, ownS, hb5'⟩
  have hb5 := below_on hb3 hb5'
  have own5 := own_below (own2.alloc _) hb5'
  have HSE : Hid (S = sortF Q) := srt_eq HFI.out hp hs
  have hSl : S.length = Q.length := hp.length_eq
  have HSF : Hid (Filled I S) := HFI.out.perm hp
  obtain ⟨-, A5, c5, rfl, p5⟩ := own_ints (by rw [← hSl] at ownS; simpa only [castL_len] using (show w5.ownsRow _ _ 1 vS (castL S).length (ints (castL S)) from by rw [castL_len]; exact ownS))
  obtain ⟨sl, hsl⟩ : ∃ sl, sl = (castL S).length := ⟨_, rfl⟩
  rw [← hsl]
  obtain rfl : sl = S.length := hsl.trans (castL_len S)
  clear hsl
  have hSl1 : S.length ≤ 1048576 := by omega
  have PC := Lib.hid (fun W' (hb : Below w5.heap.size w5 W') => intsA_on (intsA_of own5) hb)
  have PS := Lib.hid (fun W' (hb : Below w5.heap.size w5 W') => intsA_on p5 hb)
  have HR36 : Hid (∀ q ∈ S, q < 2 ^ 36) := fun q hq => (HSF.out.pos q hq).2
  have HCP : Hid (∀ k (hk : k < I.length), rankF S I[k] < S.length) := fun k hk => (rankF_lt HSF.out (List.getElem_mem hk)).1
  clear own2 hb2 hb3 hb5' HDF HVA HSD hp hs ownS own5 p5 hSl hQ1 hQl HFI HFIN HA HT HQ HSF
  go_wp2_with fail
  go_loopw [12, 14, 40] (fun s _ i wr => ∃ (k : Nat) (K : List Int), k ≤ C.length ∧ i = .int .i64 k ∧ Hid (K = castL ((I.take k).map (rankF S))) ∧ wr.ownsRow w5.heap.size 3 1 s K.length (ints K) ∧ Below w5.heap.size w5 wr) (fun _ _ i _ => C.length - (intOf i).toNat)
  case atStart => exact ⟨0, [], Nat.zero_le _, rfl, rfl, World.ownsRow_nil _ _ _ _, Below.refl _ _⟩
  case round =>
    obtain ⟨wo, rfl⟩ : ∃ wo : World, wo = wr := ⟨_, rfl⟩
    obtain ⟨k, K, hk, rfl, HK, own, hb⟩ := hrel
    by_cases hlt : k < C.length
    · have hkI : k < I.length := by have := HCL.out; omega
      obtain ⟨g, rfl, e1⟩ := PC.out wo hb k hlt
      rw [HCg.out k hlt hkI] at e1
      have hKl : K.length ≤ 9 := by rw [HK.out, castL_len, List.length_map, List.length_take]; omega
      have HK2 : Hid (K ++ [((rankF S I[k] : Nat) : Int)] = castL ((I.take (k + 1)).map (rankF S))) := by
        show _ = _
        rw [HK.out]; exact (take_castL hkI).symm
      have hi36 := HI36.out _ (List.getElem_mem hkI)
      have hrk := HCP.out k hkI
      generalize I[k] = i at *
      have HRK := Lib.hid (rank_any i wo.heap.size A5 c5 S (wo.alloc (.cells #[.int .i64 ((2 ^ i : Nat) : Int)] 3)) (PS.out _ (hb.alloc hb.size _)) hSl1 hi36 HR36.out (cell_of_row _ _ 0 _ _ _ (heap_alloc_new wo _)) hrk)
      generalize rankF S i = rk at *
      generalize 2 ^ i = t at *
      have hp1 : (k : Int) < (C.length : Int) := by omega
      have hsz := hb.size
      have hB := Lib.hid hb
      clear HK hi36 hrk hkI hb
      go_wp2_with fail
      refine HRK.out.mono ?_
      rintro e w6 ⟨rfl, rfl⟩
      go_wp2_with (at_builtin; refine wpList_append_own _ rfl _ _ 27 rfl w5.heap.size 3 i0 (.int .i64 0) 1 8 Tryd.underlying27 hi0 hz0 hz1 hz2 rfl (by decide) _ _ _ rfl ((own.alloc _).alloc _) ⟨wo.heap.size + 1, 0, none⟩ 1 1 [.int .i64 rk] rfl rfl ?d1 ?d2 ?d3 ?d4 ?d5 ?_)
      case d1 =>
        have hx := World.news_of_block (cs := #[.int .i64 (rk : Int)]) (t := 3) (fr := (0, 0)) (heap_alloc_new (wo.alloc (.cells #[.int .i64 (t : Int)] 3)) (.cells #[.int .i64 (rk : Int)] 3))
        rw [World.size_alloc] at hx
        exact hx
      case d2 => simp [Value.oneCell']
      case d3 => unfold maxLen; omega
      case d4 => omega
      case d5 => simp; omega
      intro v' w7 own7 hgrow _
      have R : Hid (w7.ownsRow w5.heap.size 3 1 v' (K ++ [(rk : Int)]).length (ints (K ++ [(rk : Int)])) ∧ Below w5.heap.size w5 w7) :=
        ⟨by rw [ints_snoc, List.length_append]; exact own7, ((hB.out.alloc hsz _).alloc (by simp; omega) _).grown hgrow (by simp; omega) (fun q hq => (own.lt q hq).1)⟩
      clear own own7 hgrow HRK e1
      go_wp2_with fail
      go_roundw
      case rel => exact ⟨k + 1, K ++ [(rk : Int)], by omega, by go_num, HK2, R.out.1, R.out.2⟩
      case measure => simp [intOf]; omega
    · have HE : Hid (K = castL (I.map (rankF (sortF Q)))) := by
        show _ = _
        rw [HK.out, List.take_of_length_le (by have := HCL.out; omega), HSE.out]
      have R := Lib.hid (And.intro own hb)
      have HB5 := Lib.hid hb5
      clear own hb HK hb5
      go_wp2_with fail
      go_ret2
      exact HRS.out _ _ (by rw [← HE.out]; exact own_base R.out.1 HB5.out.size) (below_on HB5.out R.out.2)
end Go.Proofs.YtnkehfhedjdhaaaDoor

/-! MarkS10 -/
namespace Go.Proofs.YtnkehfhedjdhaaaDoor
open Go.RowKit

theorem markS_ints (B : Nat) (v : Value) (n : Nat) (xs : List Value) (s : Int) (w : World) (hown : w.ownsRow B 3 1 v n xs) (hn : n ≤ 1048576) (hs0 : 0 ≤ s) (hs1 : s ≤ 1000000000) :
    Calls Tryd.prog 25 #[v, .int .i64 s] w fun e w' => e = .returned (.int .i64 (s + (n : Int))) ∧ w'.ownsRow B 3 1 v n (ints (marksS s n)) ∧ w.grownBy w' v.ownBlock := by
  rcases hown.2 with ⟨rfl, rfl⟩ | ⟨g, cap, cur, rfl, _⟩
  · have e : s + ((0 : Nat) : Int) = s := by omega
    rw [e]
    go_enter Tryd.func25, Tryd.ntmps25
    go_wp2_with fail
    refine wp_loop_rounds 1 ?_
    rw [rounds_succ]
    go_wp2_with fail
    go_ret
    exact ⟨rfl, World.ownsRow_nil _ _ _ _, World.grownBy.refl _ _⟩
  · exact mark_row B g cap n xs s w hown hn hs0 hs1
theorem heldS_ints (B : Nat) (v : Value) (n : Nat) (s : Int) (w : World) (hown : w.ownsRow B 3 1 v n (ints (marksS s n))) (hn : n ≤ 1048576) (hs0 : 0 ≤ s) (hs1 : s ≤ 1000000000) :
    Calls Tryd.prog 26 #[v, .int .i64 s] w fun e w' => e = .returned (.int .i64 (s + (n : Int))) ∧ w' = w := by
  rcases hown.2 with ⟨rfl, rfl⟩ | ⟨g, cap, cur, rfl, _⟩
  · have e : s + ((0 : Nat) : Int) = s := by omega
    rw [e]
    go_enter Tryd.func26, Tryd.ntmps26
    go_wp2_with fail
    refine wp_loop_rounds 1 ?_
    rw [rounds_succ]
    go_wp2_with fail
    go_ret
    exact ⟨rfl, rfl⟩
  · exact held_row B g cap n s w hown hn hs0 hs1
open Go.ChangeShapes
section
variable {H : Type} {enc : TypeId × Value → H} {P : Program} {w : World} {base : Nat} {spare : Nat → Bool} {held : Bool}
theorem trodAll_five {t0 t1 t2 t3 t4 : TypeId} {args : Array Value} {ds : List (DataW H)} {ps : List MemPlace} (h : DataW.TrodAll enc P w base spare held [t0, t1, t2, t3, t4] args.toList ds ps) :
    ∃ v0 v1 v2 v3 v4 d0 d1 d2 d3 d4 p0 p1 p2 p3 p4, args = #[v0, v1, v2, v3, v4] ∧ ds = [d0, d1, d2, d3, d4] ∧ ps = p0 ++ p1 ++ p2 ++ p3 ++ p4 ∧ DataW.Trod enc P w base spare held t0 v0 d0 p0 ∧ DataW.Trod enc P w base spare held t1 v1 d1 p1 ∧ DataW.Trod enc P w base spare held t2 v2 d2 p2 ∧ DataW.Trod enc P w base spare held t3 v3 d3 p3 ∧ DataW.Trod enc P w base spare held t4 v4 d4 p4 := by
  obtain ⟨v0, vs0, d0, ds0, p0, q0, hargs, rfl, rfl, h0, r0⟩ := trodAll_cons h
  obtain ⟨v1, vs1, d1, ds1, p1, q1, rfl, rfl, rfl, h1, r1⟩ := trodAll_cons r0
  obtain ⟨v2, vs2, d2, ds2, p2, q2, rfl, rfl, rfl, h2, r2⟩ := trodAll_cons r1
  obtain ⟨v3, vs3, d3, ds3, p3, q3, rfl, rfl, rfl, h3, r3⟩ := trodAll_cons r2
  obtain ⟨v4, vs4, d4, ds4, p4, q4, rfl, rfl, rfl, h4, r4⟩ := trodAll_cons r3
  obtain ⟨rfl, rfl, rfl⟩ := trodAll_nil r4
  exact ⟨v0, v1, v2, v3, v4, d0, d1, d2, d3, d4, p0, p1, p2, p3, p4, by cases args; simp_all, rfl, by simp, h0, h1, h2, h3, h4⟩
theorem trodAll_six {t0 t1 t2 t3 t4 t5 : TypeId} {args : Array Value} {ds : List (DataW H)} {ps : List MemPlace} (h : DataW.TrodAll enc P w base spare held [t0, t1, t2, t3, t4, t5] args.toList ds ps) :
    ∃ v0 v1 v2 v3 v4 v5 d0 d1 d2 d3 d4 d5 p0 p1 p2 p3 p4 p5, args = #[v0, v1, v2, v3, v4, v5] ∧ ds = [d0, d1, d2, d3, d4, d5] ∧ ps = p0 ++ p1 ++ p2 ++ p3 ++ p4 ++ p5 ∧ DataW.Trod enc P w base spare held t0 v0 d0 p0 ∧ DataW.Trod enc P w base spare held t1 v1 d1 p1 ∧ DataW.Trod enc P w base spare held t2 v2 d2 p2 ∧ DataW.Trod enc P w base spare held t3 v3 d3 p3 ∧ DataW.Trod enc P w base spare held t4 v4 d4 p4 ∧ DataW.Trod enc P w base spare held t5 v5 d5 p5 := by
  obtain ⟨v0, vs0, d0, ds0, p0, q0, hargs, rfl, rfl, h0, r0⟩ := trodAll_cons h
  obtain ⟨v1, vs1, d1, ds1, p1, q1, rfl, rfl, rfl, h1, r1⟩ := trodAll_cons r0
  obtain ⟨v2, vs2, d2, ds2, p2, q2, rfl, rfl, rfl, h2, r2⟩ := trodAll_cons r1
  obtain ⟨v3, vs3, d3, ds3, p3, q3, rfl, rfl, rfl, h3, r3⟩ := trodAll_cons r2
  obtain ⟨v4, vs4, d4, ds4, p4, q4, rfl, rfl, rfl, h4, r4⟩ := trodAll_cons r3
  obtain ⟨v5, vs5, d5, ds5, p5, q5, rfl, rfl, rfl, h5, r5⟩ := trodAll_cons r4
  obtain ⟨rfl, rfl, rfl⟩ := trodAll_nil r5
  exact ⟨v0, v1, v2, v3, v4, v5, d0, d1, d2, d3, d4, d5, p0, p1, p2, p3, p4, p5, by cases args; simp_all, rfl, by simp, h0, h1, h2, h3, h4, h5⟩
end
end Go.Proofs.YtnkehfhedjdhaaaDoor

/-! ArgSS -/
namespace Go.Proofs.YtnkehfhedjdhaaaDoor
open Go.RowKit

/-- The cells of a slice of ints that came in, wherever it lies. -/
def ArgI (w : World) (A : Option Addr) (M : List Int) : Prop := ∀ k (h : k < M.length), ∃ a : Addr, A = some a ∧ a.block < w.heap.size ∧ w.cell? (a.add k) = some (.int .i64 M[k])
theorem ArgI.step {w w' : World} {A : Option Addr} {M : List Int} (h : ArgI w A M) (hb : Below w.heap.size w w') : ArgI w' A M := fun k hk => by
  obtain ⟨a, hA, hl, h1⟩ := h k hk
  exact ⟨a, hA, Nat.lt_of_lt_of_le hl hb.size, cell_on hb rfl h1⟩
/-- A slice of such slices. -/
def ArgSS (w : World) (A : Option Addr) (Ms : List (List Int)) : Prop := ∀ k (h : k < Ms.length), ∃ (a : Addr) (Ak : Option Addr) (ck : Nat), A = some a ∧ a.block < w.heap.size ∧ w.cell? (a.add k) = some (.slice Ak (Ms[k]).length ck) ∧ (Ms[k]).length ≤ maxLen ∧ ArgI w Ak Ms[k]
theorem ArgSS.step {w w' : World} {A : Option Addr} {Ms : List (List Int)} (h : ArgSS w A Ms) (hb : Below w.heap.size w w') : ArgSS w' A Ms := fun k hk => by
  obtain ⟨a, Ak, ck, hA, hl, h1, h2, h3⟩ := h k hk
  exact ⟨a, Ak, ck, hA, Nat.lt_of_lt_of_le hl hb.size, cell_on hb rfl h1, h2, h3.step hb⟩
theorem view_intss {H : Type} {enc : TypeId × Value → H} {P : Program} {W : World} {t e q : TypeId} {fuel : Nat} {A : Option Addr} {n c : Nat} {x : DataW H × List MemPlace}
    (ht : P.underlying t = some (.slice e)) (he : P.underlying e = some (.slice q)) (hq : P.underlying q = some (.int .i64)) (ce : P.cellsOf e = 1) (cq : P.cellsOf q = 1)
    (h : DataW.trod enc P W 0 (fun _ => true) true fuel t [.slice A n c] = some x) : ∃ Ms : List (List Int), n = Ms.length ∧ ArgSS W A Ms ∧ Ms.length ≤ maxLen ∧ ∀ M ∈ Ms, ∀ z ∈ M, (Lit.int .i64 z).wf = true := by
  rcases Go.Deep.open_int_rows ht he hq ce cq h with ⟨h1, _⟩ | ⟨a, len, cap, A', L, C, Z, h1, _, hlc, hcm, _, hcell⟩
  · simp only [List.cons.injEq, Value.slice.injEq, and_true] at h1
    obtain ⟨rfl, rfl, rfl⟩ := h1
    exact ⟨[], rfl, fun k hk => absurd hk (by simp), by simp, fun M hM => by cases hM⟩
  · simp only [List.cons.injEq, Value.slice.injEq, and_true] at h1
    obtain ⟨rfl, rfl, rfl⟩ := h1
    refine ⟨(List.range n).map fun r => (Z r).take (L r), by simp, fun k hk => ?_, by simp; omega, ?_⟩
    · have hk' : k < n := by simpa using hk
      obtain ⟨g1, g2, g3, g4, g5, g6, g7⟩ := hcell k (by omega)
      have hb := World.block_lt_of_cell? W _ g1
      have hbl : (a.add k).block = a.block := by unfold Addr.add; split <;> rfl
      rw [hbl] at hb
      have hl : ((Z k).take (L k)).length = L k := by rw [List.length_take]; omega
      have hget : ((List.range n).map fun r => (Z r).take (L r))[k] = (Z k).take (L k) := by simp
      rw [hget]
      refine ⟨a, A' k, C k, rfl, hb, by rw [hl]; exact g1, by rw [hl]; omega, fun j hj => ?_⟩
      rw [hl] at hj
      cases hA : A' k with
      | none => have := g6 hA; omega
      | some a' =>
        have q1 := (g7 a' hA).2 j (by omega)
        have hb2 := World.block_lt_of_cell? W _ q1
        have hbl2 : (a'.add j).block = a'.block := by unfold Addr.add; split <;> rfl
        rw [hbl2] at hb2
        refine ⟨a', rfl, hb2, ?_⟩
        rw [q1]
        simp [show j < (Z k).length by omega]
    · intro M hM z hz
      obtain ⟨r, hr, rfl⟩ := List.mem_map.1 hM
      obtain ⟨g1, g2, g3, g4, g5, g6, g7⟩ := hcell r (by have := List.mem_range.1 hr; omega)
      exact g5 z (List.mem_of_mem_take hz)
theorem infoN : (Tryd.prog.info? 3).map (fun i => (i.zero, i.size, i.bytes)) = some (some (.int .i64 0), 1, 8) := by kernel_rfl
theorem infoRow : (Tryd.prog.info? 27).map (fun i => (i.zero, i.size, i.bytes)) = some (some (.slice none 0 0), 1, 24) := by kernel_rfl
theorem ints_set {M : List Int} {zs : List Value} (hz : zs.length = M.length) (k : Nat) (hk : k < M.length) : (ints (M.take k) ++ zs.drop k).set k (.int .i64 M[k]) = ints (M.take (k + 1)) ++ zs.drop (k + 1) := by
  have h1 : (ints (M.take k)).length = k := by rw [ints_len, List.length_take]; omega
  have h2 : (zs.drop k).set 0 (.int .i64 M[k]) = .int .i64 M[k] :: zs.drop (k + 1) := by
    rw [List.drop_eq_getElem_cons (by omega)]; rfl
  rw [List.set_append_right _ _ (by omega), h1, Nat.sub_self, h2, List.take_succ_eq_append_getElem hk, ints_snoc, List.append_assoc]
  rfl
set_option maxRecDepth 100000 in
set_option maxHeartbeats 1600000 in
theorem toI_any (A : Option Addr) (c : Nat) (M : List Int) (w : World) (hA : ArgI w A M) (hL : M.length ≤ 1048576) :
    Calls Tryd.prog 23 #[.slice A M.length c] w fun e w' => e = .returned (.slice (some ⟨w.heap.size, 0, none⟩) M.length M.length) ∧ w'.ownsRow w.heap.size 3 1 (.slice (some ⟨w.heap.size, 0, none⟩) M.length M.length) M.length (ints M) ∧ Below w.heap.size w w' := by
  obtain ⟨i0, hi0, hz0, hz1, hz2⟩ := info_parts infoN
  have hmk : ∀ w, (Instr.makeSlice 27 (.int .i64 (M.length : Int)) (.int .i64 (M.length : Int))).run Tryd.prog w = .ok (.slice (some ⟨w.heap.size, 0, none⟩) M.length M.length) (w.alloc (.cells (madeCells #[.int .i64 0] M.length) 3)) := fun w => by
    have h := run_make (P := Tryd.prog) w 27 3 i0 _ Tryd.underlying27 hi0 hz0 .i64 .i64 (M.length : Int) (M.length : Int) (by omega) (Int.le_refl _) (by rw [hz2]; omega) (by omega)
    rw [hz1] at h
    simpa [Value.cells, Nat.mul_one] using h
  have hown := World.ownsRow_lit (base := w.heap.size) (e := 3) (size := 1) w (madeCells #[.int .i64 0] M.length) M.length (Nat.le_refl _) (by unfold maxLen; omega) ((size_madeCells _ _).trans (Nat.mul_one _).symm)
  have hzl : (madeCells #[.int .i64 0] M.length).toList.length = M.length := by rw [Array.length_toList, size_madeCells]
  have hb0 := below1 w (.cells (madeCells #[.int .i64 0] M.length) 3)
  have HA := Lib.hid hA; clear hA
  go_enter Tryd.func23, Tryd.ntmps23
  go_wp2_with fail
  generalize (madeCells #[.int .i64 0] M.length).toList = zs at *
  generalize w.alloc (.cells (madeCells #[.int .i64 0] M.length) 3) = w1 at *
  clear hmk
  go_loopw [4] (fun i wr => ∃ k : Nat, k ≤ M.length ∧ i = .int .i64 k ∧ wr.ownsRow w.heap.size 3 1 (.slice (some ⟨w.heap.size, 0, none⟩) M.length M.length) M.length (ints (M.take k) ++ zs.drop k) ∧ Below w.heap.size w wr) (fun i _ => M.length - (intOf i).toNat)
  case atStart => exact ⟨0, Nat.zero_le _, rfl, by simpa [ints] using hown, hb0⟩
  case round =>
    obtain ⟨wo, rfl⟩ : ∃ wo : World, wo = wr := ⟨_, rfl⟩
    clear hown
    obtain ⟨k, hk, rfl, hown, hb⟩ := hrel
    by_cases hlt : k < M.length
    · obtain ⟨a, rfl, hl, h1⟩ := HA.out k hlt
      have c1 := cell_on hb rfl h1
      have hs := ints_set hzl k hlt
      obtain ⟨x, hx⟩ : ∃ x, x = M[k] := ⟨_, rfl⟩
      rw [← hx] at c1 hs
      have HS := Lib.hid hs
      clear hs h1 hx
      obtain ⟨u1, d1⟩ := cell_some1 hown k hlt
      have f1 := hown.frozenAt k
      have own3 := (hown.stored k (.int .i64 x)).1
      rw [HS.out] at own3
      have b4 := hb.setCell (p := ⟨w.heap.size, k, none⟩) (Nat.le_refl _) (.int .i64 x)
      have R := Lib.hid (And.intro own3 b4)
      clear own3 b4
      go_wp2_with fail
      go_roundw
      case rel => exact ⟨k + 1, by omega, by go_num, R.out.1, R.out.2⟩
      case measure => simp [intOf]; omega
    · obtain rfl : k = M.length := by omega
      rw [List.drop_of_length_le (by omega), List.take_of_length_le (Nat.le_refl _), List.append_nil] at hown
      have R := Lib.hid hown
      clear hown
      go_wp2_with fail
      go_ret
      exact ⟨rfl, R.out, hb⟩
theorem hdrs_set {Qs : List Rw} {r : Rw} {zs : List Value} {n k : Nat} (hz : zs.length = n) (hq : Qs.length = k) (hk : k < n) : (Qs.map hdr ++ zs.drop k).set k (hdr r) = (Qs ++ [r]).map hdr ++ zs.drop (k + 1) := by
  have h1 : (Qs.map hdr).length = k := by rw [List.length_map, hq]
  have h2 : (zs.drop k).set 0 (hdr r) = hdr r :: zs.drop (k + 1) := by
    rw [List.drop_eq_getElem_cons (by omega)]; rfl
  rw [List.set_append_right _ _ (by omega), h1, Nat.sub_self, h2, List.map_append, List.append_assoc]
  rfl
/-- Rows that are owned, no two in one block. -/
structure Owned (w : World) (B : Nat) (Rs : List Rw) : Prop where
  row : ∀ r ∈ Rs, w.ownsRow B 3 1 (hdr r) r.M.length (ints r.M)
  nodup : (Rs.map Rw.g).Nodup
theorem Owned.below {w w' : World} {B : Nat} {Rs : List Rw} (h : Owned w B Rs) (hb : Below w.heap.size w w') : Owned w' B Rs := ⟨fun r hr => own_below (h.row r hr) hb, h.nodup⟩
theorem Owned.lt {w : World} {B : Nat} {Rs : List Rw} (h : Owned w B Rs) {r : Rw} (hr : r ∈ Rs) : B ≤ r.g ∧ r.g < w.heap.size := (h.row r hr).lt r.g rfl
theorem Owned.set {w : World} {B : Nat} {Rs : List Rw} (h : Owned w B Rs) (g j : Nat) (u : Value) (hg : g < B) : Owned (w.setCell ⟨g, j, none⟩ u) B Rs :=
  ⟨fun r hr => (h.row r hr).kept (only_set (World.grownBy.refl w (some g)) j u) (.inr (fun e => by
    have e2 : r.g = g := Option.some.inj (by rw [← e, hdr_own])
    have := (h.lt hr).1; omega)), h.nodup⟩
theorem Owned.snoc {w w' : World} {B : Nat} {Rs : List Rw} {r : Rw} (h : Owned w B Rs) (hb : Below w.heap.size w w') (hr : w'.ownsRow B 3 1 (hdr r) r.M.length (ints r.M)) (hlo : w.heap.size ≤ r.g) : Owned w' B (Rs ++ [r]) := by
  refine ⟨fun x hx => ?_, ?_⟩
  · rcases List.mem_append.1 hx with hx | hx
    · exact own_below (h.row x hx) hb
    · rw [List.mem_singleton.1 hx]; exact hr
  · rw [List.map_append]
    refine List.nodup_append.2 ⟨h.nodup, by simp, ?_⟩
    intro a ha b hb' e
    obtain ⟨x, hx, rfl⟩ := List.mem_map.1 ha
    simp only [List.map_cons, List.map_nil, List.mem_singleton] at hb'
    have := (h.lt hx).2
    omega
theorem k_w' {k n : Nat} (hk : k ≤ n) (hn : n ≤ 1048576) : wrap64 ((k : Int) + 1) = (k : Int) + 1 ∧ IntKind.i64.wrap ((k : Int) + 1) = (k : Int) + 1 := ⟨IntWalk.wrap64_in _ (by omega), IntWalk.i64_in _ (by omega)⟩
end Go.Proofs.YtnkehfhedjdhaaaDoor

/-! Base -/
namespace Go.Proofs.YtnkehfhedjdhaaaDoor
open Go.ChangeShapes Go.WideShapes Go.ChangeAt Go.RowKit

/-- The arguments read behind the call as before, if below the old heap's size nothing has turned. -/
theorem args_stay {H : Type} {enc : TypeId × Value → H} {P : Program} (hl : laidOutB P = true) {W W' : World} (hb : Below W.heap.size W W') :
    ∀ (ts : List TypeId) (vs : List Value) (ds : List (DataW H)) (p : List MemPlace), (∀ t ∈ ts, P.readableRec t = true ∧ t < P.types.size) →
      DataW.TrodAll enc P W 0 (fun _ => true) true ts vs ds p → (∀ x ∈ p, x.block < W.heap.size) → DataW.TrodAll enc P W' 0 (fun b => decide (b < W.heap.size)) true ts vs ds p
  | [], vs, ds, p, _, h, _ => by
    obtain ⟨rfl, rfl, rfl⟩ := trodAll_nil h
    exact trodAll_mk0
  | t :: ts, vs, ds, p, ht, h, hp => by
    obtain ⟨v, vs1, d, ds1, a, b, rfl, rfl, rfl, h1, h2⟩ := trodAll_cons h
    exact trodAll_cons_mk (Below.trod hl (ht t (by simp)).1 (ht t (by simp)).2 h1 hb (fun x hx => hp x (by simp [hx])))
      (args_stay hl hb ts vs1 ds1 b (fun t h => ht t (by simp [h])) h2 (fun x hx => hp x (by simp [hx])))

/-- A law's 'post': one bool back, true; the arguments as they were; no variable is listed. -/
theorem law_post {H : Type} {enc : TypeId × Value → H} {P : Program} {f : Func} {s : ChangeSpec} {W W' : World} {args : Array Value} {ds gs : List (DataW H)} {before : List MemPlace} {tb : TypeId}
    (hl : laidOutB P = true) (ht : f.params.toList.all (fun t => P.readableRec t && decide (t < P.types.size)) = true) (hr : f.resultTypes = #[tb]) (ub : P.underlying tb = some .bool) (hv : s.vars = [])
    (hs : (s.fn H (ds ++ gs)).results = [.lit (.bool true)] ∧ (s.fn H (ds ++ gs)).args = ds ∧ (s.fn H (ds ++ gs)).vars = [])
    (hW : DataW.Whole enc P f.params.toList s.vars false W args.toList ds gs before) (hb : Below W.heap.size W W') :
    s.post enc P f false true false false W args (.bool true) W' := by
  have hW' := hW
  obtain ⟨p, q, hA, hV, hpq, _, _⟩ := hW
  rw [hv] at hV
  obtain ⟨rfl, rfl⟩ := trodVars_none hV
  have hlt : ∀ x ∈ p, x.block < W.heap.size := fun x hx => by simpa using hW'.lt x (by rw [hpq]; simp [hx])
  refine ⟨ds, [], before, [], p, [], hW', ?_, ?_, ?_, hb.frame _, fun h => by cases h⟩
  · rw [hs.1, hr]
    exact trodAll_mk1 (shut_bool ub _)
  · rw [hs.2.1]
    exact args_stay hl hb _ _ _ _ (fun t h => by simpa using List.all_eq_true.1 ht t h) hA hlt
  · rw [hs.2.2, hv]
    rfl
end Go.Proofs.YtnkehfhedjdhaaaDoor

/-! ArgI9 -/
namespace Go.Proofs.YtnkehfhedjdhaaaDoor
open Go.RowKit

theorem view_ints {H : Type} {enc : TypeId × Value → H} {P : Program} {W : World} {t e : TypeId} {fuel : Nat} {A : Option Addr} {n c : Nat} {x : DataW H × List MemPlace}
    (ht : P.underlying t = some (.slice e)) (he : P.underlying e = some (.int .i64)) (ce : P.cellsOf e = 1)
    (h : DataW.trod enc P W 0 (fun _ => true) true fuel t [.slice A n c] = some x) : ∃ M : List Int, n = M.length ∧ ArgI W A M ∧ M.length ≤ maxLen := by
  rcases Go.ChangeShapes.open_ints ht he ce h with ⟨h1, _⟩ | ⟨a, len, cap, zs, h1, _, hlc, hcm, hz, _, hcell, _⟩
  · simp only [List.cons.injEq, Value.slice.injEq, and_true] at h1
    obtain ⟨rfl, rfl, rfl⟩ := h1
    exact ⟨[], rfl, fun k hk => absurd hk (by simp), by simp⟩
  · simp only [List.cons.injEq, Value.slice.injEq, and_true] at h1
    obtain ⟨rfl, rfl, rfl⟩ := h1
    simp only [if_true] at hz
    have hl : (zs.take n).length = n := by rw [List.length_take]; omega
    refine ⟨zs.take n, hl.symm, fun k hk => ?_, by omega⟩
    have g1 := hcell k (by omega)
    have hb := World.block_lt_of_cell? W _ g1
    have hbl : (a.add k).block = a.block := by unfold Addr.add; split <;> rfl
    rw [hbl] at hb
    refine ⟨a, rfl, hb, ?_⟩
    rw [g1]
    have hk' : k < zs.length := by omega
    simp [hk']

end Go.Proofs.YtnkehfhedjdhaaaDoor

/-! LawC10 -/
namespace Go.Proofs.YtnkehfhedjdhaaaDoor
open Go.RowKit

theorem CofP.len {w h M : Int} {X : List Int} {V : List Int × Bool} (h1 : CofP w h M X V) : V.1.length ≤ 1048576 := by
  by_cases hn : okC w h M = false ∨ ¬ FillX w h M X
  · rw [h1.no hn]; simp
  · have a : okC w h M = true := by cases hh : okC w h M <;> simp_all
    have b : FillX w h M X := Classical.byContradiction fun hb => hn (.inr hb)
    obtain ⟨Q, q1, q2, q3⟩ := b
    rw [h1.yes Q a q1 q2 q3]
    show (castL _).length ≤ _
    rw [castL_len, List.length_map]
    obtain ⟨_, _, _, _, _, _, _, _, _, _, _, _, _, _, hix, _, _, h9, _⟩ := okC_nat a
    rw [hix]; omega
set_option maxRecDepth 100000 in
set_option maxHeartbeats 4000000 in
theorem ex_cutOf (w h M : Int) (AX : Option Addr) (cX : Nat) (X : List Int) (W : World) (hX : ArgI W AX X) (_lX : X.length ≤ maxLen) (hw : ∀ x ∈ X, (Lit.int .i64 x).wf = true) (hT : TabAt 1 Lib.deBruijn64tab W) (hgt : 1 < W.heap.size) :
    Calls Tryd.prog 4 #[.int .i64 w, .int .i64 h, .int .i64 M, .slice AX X.length cX] W fun e w' => e = .returned (.bool true) ∧ Below W.heap.size W w' := by
  by_cases hsX : X.length ≤ 1048576
  case neg =>
    have hq : ((1048576 : Int) < (X.length : Int)) := by omega
    clear hX hsX
    unfold maxLen at *
    go_enter Tryd.func4, Tryd.ntmps4
    go_wp2_with fail
    go_ret
    exact ⟨rfl, Below.refl _ _⟩
  have HS := Lib.hid (fun AX cX W hX => spec_cutOf w h M AX cX X W hX hsX hw)
  have HI := Lib.hid (fun AX cX W' hX (hb : Below W.heap.size W W') => impl_cutOf w h M AX cX X W' hX hsX (fun j hj => cell_on hb rfl (hT j hj)) (Nat.lt_of_lt_of_le hgt hb.size))
  have HTX := Lib.hid (fun W h => toI_any AX cX X W h hsX)
  have HAX := Lib.hid hX
  have hnX : ¬ ((1048576 : Int) < (X.length : Int)) := by omega
  have HZX := Lib.hid hsX
  clear hX _lX hsX
  go_enter Tryd.func4, Tryd.ntmps4
  go_wp2_with fail
  refine (HTX.out _ HAX.out).mono ?_
  rintro e w1 ⟨rfl, osX, hb1⟩
  have b1 := hb1
  clear hb1
  go_wp2_with fail
  have psX := intsA_of osX
  clear osX
  refine (HS.out _ _ _ psX).mono ?_
  rintro e w2 ⟨⟨L, y⟩, v2, rfl, hL, own2, hb2⟩
  simp only at own2
  have HL := Lib.hid hL
  have HMM : Hid (L.length ≤ 1048576) := hL.len
  clear hL
  have b2 := below_on b1 hb2
  replace own2 := own_base own2 b1.size
  clear hb2 b1
  clear psX
  go_wp2_with fail
  refine (HTX.out _ (HAX.out.step b2)).mono ?_
  rintro e w3 ⟨rfl, oxX, hb3⟩
  have ap_own2_oxX := own_apart_g own2 (Nat.le_refl _) oxX
  have ap_oxX_own2 := own_apart_g' own2 (Nat.le_refl _) oxX
  have b3 := below_on b2 hb3
  replace own2 := own_below own2 hb3
  replace oxX := own_base oxX b2.size
  clear hb3 b2
  go_wp2_with fail
  have psX := intsA_of oxX
  refine (HI.out _ _ _ psX b3).mono ?_
  rintro e w4 ⟨⟨L', y'⟩, v4, rfl, hL', own4, hb4⟩
  simp only at own4
  have hq := HL.out.uniq hL'
  simp only [Prod.mk.injEq] at hq
  obtain ⟨rfl, rfl⟩ := hq
  clear hL'
  have ap_own2_own4 := own_apart_g own2 (Nat.le_refl _) own4
  have ap_own4_own2 := own_apart_g' own2 (Nat.le_refl _) own4
  have ap_oxX_own4 := own_apart_g oxX (Nat.le_refl _) own4
  have ap_own4_oxX := own_apart_g' oxX (Nat.le_refl _) own4
  have b4 := below_on b3 hb4
  replace own2 := own_below own2 hb4
  replace oxX := own_below oxX hb4
  replace own4 := own_base own4 b3.size
  clear hb4 b3
  clear psX
  obtain ⟨_, A4, c4, rfl, -⟩ := own_ints own4
  obtain ⟨_, A2, c2, rfl, -⟩ := own_ints own2
  go_wp2_with fail
  refine (eq_ints _ _ _ _ L _ (intsA_of own4) (intsA_of own2) HMM.out).mono ?_
  rintro e w5 ⟨rfl, hb5⟩
  have b5 := below_on b4 hb5
  replace own2 := own_below own2 hb5
  replace oxX := own_below oxX hb5
  replace own4 := own_below own4 hb5
  clear hb5 b4
  go_wp2_with fail
  refine (HTX.out _ (HAX.out.step b5)).mono ?_
  rintro e w6 ⟨rfl, oy, hb6⟩
  have ap_own2_oy := own_apart_g own2 (Nat.le_refl _) oy
  have ap_oy_own2 := own_apart_g' own2 (Nat.le_refl _) oy
  have ap_oxX_oy := own_apart_g oxX (Nat.le_refl _) oy
  have ap_oy_oxX := own_apart_g' oxX (Nat.le_refl _) oy
  have ap_own4_oy := own_apart_g own4 (Nat.le_refl _) oy
  have ap_oy_own4 := own_apart_g' own4 (Nat.le_refl _) oy
  have b6 := below_on b5 hb6
  replace own2 := own_below own2 hb6
  replace oxX := own_below oxX hb6
  replace own4 := own_below own4 hb6
  replace oy := own_base oy b5.size
  clear hb6 b5
  go_wp2_with fail
  refine (eq_ints _ _ _ _ X _ (intsA_of oxX) (intsA_of oy) HZX.out).mono ?_
  rintro e w7 ⟨rfl, hb7⟩
  have b7 := below_on b6 hb7
  replace own2 := own_below own2 hb7
  replace oxX := own_below oxX hb7
  replace own4 := own_below own4 hb7
  replace oy := own_below oy hb7
  clear hb7 b6
  clear oy ap_own2_oy ap_own4_oy ap_oxX_oy ap_oy_own2 ap_oy_own4 ap_oy_oxX
  go_wp2_with fail
  refine (markS_ints _ _ _ _ (1) _ oxX HZX.out (by omega) (by have := HZX.out; have := HZX.out; omega)).mono ?_
  rintro e w8 ⟨rfl, own_m, hg8⟩
  have b8 := b7.grown hg8 b7.size (fun k hk => (oxX.lt k hk).1)
  replace own2 := own2.kept hg8 ap_own2_oxX
  replace own4 := own4.kept hg8 ap_own4_oxX
  clear hg8 b7
  clear own_m
  clear oxX ap_own2_oxX ap_own4_oxX ap_oxX_own2 ap_oxX_own4
  go_wp2_with fail
  refine (eq_ints _ _ _ _ L _ (intsA_of own4) (intsA_of own2) HMM.out).mono ?_
  rintro e w9 ⟨rfl, hb9⟩
  have b9 := below_on b8 hb9
  replace own2 := own_below own2 hb9
  replace own4 := own_below own4 hb9
  clear hb9 b8
  go_wp2_with fail
  refine (mark_ints _ _ _ _ _ own4 HMM.out).mono ?_
  rintro e w10 ⟨rfl, own_m, hg10⟩
  have b10 := b9.grown hg10 b9.size (fun k hk => (own4.lt k hk).1)
  replace own2 := own2.kept hg10 ap_own2_own4
  clear hg10 b9
  clear own4 ap_own2_own4 ap_own4_own2
  go_wp2_with fail
  refine (held_ints _ _ _ _ own_m HMM.out).mono ?_
  rintro e w11 ⟨rfl, rfl⟩
  go_wp2_with fail
  refine (HTX.out _ (HAX.out.step b10)).mono ?_
  rintro e w12 ⟨rfl, ozX, hb12⟩
  have ap_own2_ozX := own_apart_g own2 (Nat.le_refl _) ozX
  have ap_ozX_own2 := own_apart_g' own2 (Nat.le_refl _) ozX
  have ap_own_m_ozX := own_apart_g own_m (Nat.le_refl _) ozX
  have ap_ozX_own_m := own_apart_g' own_m (Nat.le_refl _) ozX
  have b12 := below_on b10 hb12
  replace own2 := own_below own2 hb12
  replace own_m := own_below own_m hb12
  replace ozX := own_base ozX b10.size
  clear hb12 b10
  go_wp2_with fail
  have psX := intsA_of ozX
  clear ozX ap_own2_ozX ap_own_m_ozX ap_ozX_own2 ap_ozX_own_m
  refine (HI.out _ _ _ psX b12).mono ?_
  rintro e w13 ⟨⟨L', y'⟩, v13, rfl, hL', own13, hb13⟩
  simp only at own13
  have hq := HL.out.uniq hL'
  simp only [Prod.mk.injEq] at hq
  obtain ⟨rfl, rfl⟩ := hq
  clear hL'
  have ap_own2_own13 := own_apart_g own2 (Nat.le_refl _) own13
  have ap_own13_own2 := own_apart_g' own2 (Nat.le_refl _) own13
  have ap_own_m_own13 := own_apart_g own_m (Nat.le_refl _) own13
  have ap_own13_own_m := own_apart_g' own_m (Nat.le_refl _) own13
  have b13 := below_on b12 hb13
  replace own2 := own_below own2 hb13
  replace own_m := own_below own_m hb13
  replace own13 := own_base own13 b12.size
  clear hb13 b12
  clear psX
  obtain ⟨_, A13, c13, rfl, -⟩ := own_ints own13
  go_wp2_with fail
  refine (eq_ints _ _ _ _ L _ (intsA_of own13) (intsA_of own2) HMM.out).mono ?_
  rintro e w14 ⟨rfl, hb14⟩
  have b14 := below_on b13 hb14
  replace own2 := own_below own2 hb14
  replace own_m := own_below own_m hb14
  replace own13 := own_below own13 hb14
  clear hb14 b13
  go_wp2_with fail
  refine (held_ints _ _ _ _ own_m HMM.out).mono ?_
  rintro e w15 ⟨rfl, rfl⟩
  go_wp2_with fail
  go_ret
  exact ⟨rfl, b14⟩
end Go.Proofs.YtnkehfhedjdhaaaDoor

/-! ArgW10 -/
namespace Go.Proofs.YtnkehfhedjdhaaaDoor
open Go.RowKit Go.ChangeShapes

theorem view_intsW {H : Type} {enc : TypeId × Value → H} {P : Program} {W : World} {t e : TypeId} {fuel : Nat} {A : Option Addr} {n c : Nat} {x : DataW H × List MemPlace}
    (ht : P.underlying t = some (.slice e)) (he : P.underlying e = some (.int .i64)) (ce : P.cellsOf e = 1)
    (h : DataW.trod enc P W 0 (fun _ => true) true fuel t [.slice A n c] = some x) : ∃ M : List Int, n = M.length ∧ ArgI W A M ∧ M.length ≤ maxLen ∧ ∀ z ∈ M, (Lit.int .i64 z).wf = true := by
  rcases Go.ChangeShapes.open_ints ht he ce h with ⟨h1, _⟩ | ⟨a, len, cap, zs, h1, _, hlc, hcm, hz, _, hcell, hw⟩
  · simp only [List.cons.injEq, Value.slice.injEq, and_true] at h1
    obtain ⟨rfl, rfl, rfl⟩ := h1
    exact ⟨[], rfl, fun k hk => absurd hk (by simp), by simp, fun z hz => by cases hz⟩
  · simp only [List.cons.injEq, Value.slice.injEq, and_true] at h1
    obtain ⟨rfl, rfl, rfl⟩ := h1
    simp only [if_true] at hz
    have hl : (zs.take n).length = n := by rw [List.length_take]; omega
    refine ⟨zs.take n, hl.symm, fun k hk => ?_, by omega, fun z hz => hw z (List.mem_of_mem_take hz)⟩
    have g1 := hcell k (by omega)
    have hb := World.block_lt_of_cell? W _ g1
    have hbl : (a.add k).block = a.block := by unfold Addr.add; split <;> rfl
    rw [hbl] at hb
    refine ⟨a, rfl, hb, ?_⟩
    rw [g1]
    have hk' : k < zs.length := by omega
    simp [hk']
end Go.Proofs.YtnkehfhedjdhaaaDoor
