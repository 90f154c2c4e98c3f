/-
  DiagonalsOf of the program: the map's keys collected in whatever order, and sorted.
-/
import Derived.Test.YtieekeodbflgfaaSortNil
import Derived.Test.YtieekeodbflgfaaSetsA
import Derived.Test.YtieekeodbflgfaaLaw5F
namespace Go.Proofs.Ytieekeodbflgfaa
open Go.RowKit
open Go.Maps (Keyed)

def lexZ (a b : Int × Int) : Prop := a.1 < b.1 ∨ (a.1 = b.1 ∧ a.2 < b.2)
theorem allD_lex (L : List (Int × Int)) : ∀ i, (allD L i).Pairwise lexZ
  | 0 => by simp [allD]
  | i + 1 => by
    rw [allD_step, List.pairwise_append]
    refine ⟨allD_lex L i, ?_, ?_⟩
    · unfold rowD
      refine List.Pairwise.map _ (fun x y hxy => ?_) ((List.pairwise_lt_range (n := L.length)).filter _)
      exact .inr ⟨rfl, by simp only; omega⟩
    · rintro ⟨x, y⟩ h1 ⟨x', y'⟩ h2
      obtain ⟨a, c, rfl, -, ha, -⟩ := (allD_mem L i x y).1 h1
      have := ((rowD_mem L i L.length x' y').1 h2).1
      left
      simp only
      omega
theorem lex_unique : ∀ {S T : List (Int × Int)}, S.Pairwise lexZ → T.Pairwise lexZ → (∀ z, z ∈ S ↔ z ∈ T) → S = T
  | [], [], _, _, _ => rfl
  | [], t :: T, _, _, h => by have := (h t).2 (by simp); simp at this
  | s :: S, [], _, _, h => by have := (h s).1 (by simp); simp at this
  | s :: S, t :: T, hS, hT, h => by
    obtain ⟨s1, s2⟩ := List.pairwise_cons.1 hS
    obtain ⟨t1, t2⟩ := List.pairwise_cons.1 hT
    have irr : ∀ a : Int × Int, ¬ lexZ a a := fun a q => by unfold lexZ at q; omega
    have asym : ∀ a b : Int × Int, lexZ a b → lexZ b a → False := fun a b p q => by unfold lexZ at p q; omega
    have e : s = t := by
      rcases List.mem_cons.1 ((h s).1 (by simp)) with q | q
      · exact q
      · rcases List.mem_cons.1 ((h t).2 (by simp)) with q2 | q2
        · exact q2.symm
        · exact (asym _ _ (t1 s q) (s1 t q2)).elim
    subst e
    rw [lex_unique s2 t2 fun z => ?_]
    constructor
    · intro hz
      rcases List.mem_cons.1 ((h z).1 (by simp [hz])) with q | q
      · subst q; exact (irr _ (s1 _ hz)).elim
      · exact q
    · intro hz
      rcases List.mem_cons.1 ((h z).2 (by simp [hz])) with q | q
      · subst q; exact (irr _ (t1 _ hz)).elim
      · exact q
/-- Rows in order that hold just the diagonals are the diagonals in order. -/
theorem rows_all {L : List (Int × Int)} {R : List (Int × Int)} {Rs Qs : List Rw} (hR : Rs.map Rw.M = pairsL R) (hp : R.Perm (allD L L.length)) (hQ : Qs.Perm Rs) (hs : ∀ i j (hi : i < j) (hj : j < Qs.length), ¬ lexP (k0 Qs[j]) (k1 Qs[j]) (k0 Qs[i]) (k1 Qs[i])) : Qs.map Rw.M = pairsL (allD L L.length) := by
  obtain ⟨T, hT⟩ : ∃ T, T = Qs.map fun r => (k0 r, k1 r) := ⟨_, rfl⟩
  have hRk : Rs.map (fun r => (k0 r, k1 r)) = R := by
    have : (Rs.map Rw.M).map (fun M => (M.getD 0 0, M.getD 1 0)) = (pairsL R).map fun M => (M.getD 0 0, M.getD 1 0) := by rw [hR]
    rw [List.map_map, pairsL, List.map_map] at this
    have e : R.map ((fun M : List Int => (M.getD 0 0, M.getD 1 0)) ∘ fun z : Int × Int => [z.1, z.2]) = R := by
      conv => rhs; rw [← List.map_id R]
      rfl
    rw [e] at this
    exact this
  have hTp : T.Perm (allD L L.length) := by
    rw [hT]
    refine (hQ.map _).trans ?_
    rw [hRk]; exact hp
  have hTn : T.Nodup := hTp.nodup_iff.2 (allD_nodup L _)
  have hTl : T.Pairwise lexZ := by
    rw [List.pairwise_iff_getElem]
    intro i j hi hj hij
    have hj' : j < Qs.length := by rw [hT] at hj; simpa using hj
    have hi' : i < Qs.length := by omega
    have h1 := hs i j hij hj'
    have e1 : T[i] = (k0 Qs[i], k1 Qs[i]) := by subst hT; simp
    have e2 : T[j] = (k0 Qs[j], k1 Qs[j]) := by subst hT; simp
    have hne : T[i] ≠ T[j] := fun e => by
      have := (List.getElem_inj (h₀ := hi) (h₁ := hj) hTn).1 e
      omega
    rw [e1, e2] at hne ⊢
    unfold lexP at h1
    unfold lexZ
    simp only [ne_eq, Prod.mk.injEq] at hne ⊢
    omega
  have hE := lex_unique hTl (allD_lex L L.length) fun z => hTp.mem_iff
  have hform : ∀ r ∈ Qs, r.M = [k0 r, k1 r] := fun r hr => by
    have : r.M ∈ Rs.map Rw.M := List.mem_map_of_mem (hQ.mem_iff.1 hr)
    rw [hR] at this
    obtain ⟨z, _, e⟩ := List.mem_map.1 this
    exact two_form (by rw [← e]; rfl)
  rw [← hE, hT, pairsL, List.map_map]
  exact List.map_congr_left hform
set_option maxRecDepth 100000 in
set_option maxHeartbeats 2000000 in
theorem impl_diagonals (A : Option Addr) (c : Nat) (L : List (Int × Int)) (w : World) (hA : PtsA w A L) (hL : L.length ≤ 1048576) :
    Calls Try.prog 52 #[.slice A L.length c] w (ListsR w (diagsV L)) := by
  have PC := Lib.hid (impl_poly A c L w hA hL)
  cases hp : polyB L
  · have HU : Hid (ListsR w (diagsV L) = fun e w' => ∃ v Rs, e = .returned v ∧ RowsR w' w.heap.size v Rs ∧ Rs.map Rw.M = [] ∧ Below w.heap.size w w') := by
      show _ = _
      rw [diagsV, hp]; rfl
    rw [hp] at PC
    clear hA
    go_enter Try.func52, Try.ntmps52
    go_wp2_with fail
    refine PC.out.mono ?_
    rintro e w1 ⟨rfl, hb1⟩
    go_wp2_with fail
    go_ret
    rw [HU.out]
    exact ⟨_, [], rfl, rowsR_nil _ _, rfl, hb1⟩
  · obtain ⟨i0, hi0, hz0, hz1, hz2⟩ := info_parts infoR
    obtain ⟨h3, h10, hok⟩ := polyB_all hp
    have HU : Hid (ListsR w (diagsV L) = fun e w' => ∃ v Rs, e = .returned v ∧ RowsR w' w.heap.size v Rs ∧ Rs.map Rw.M = pairsL (allD L L.length) ∧ Below w.heap.size w w') := by
      show _ = _
      rw [diagsV, hp]; rfl
    have HD := Lib.hid (fun W (hb : Below w.heap.size w W) => impl_diags A c L W (ptsA_on hA hb) hp)
    have H100 : Hid ((allD L L.length).length ≤ 100) := by
      show _ ≤ _
      have h1 := allD_len L L.length
      have h2 : L.length * L.length ≤ 10 * 10 := Nat.mul_le_mul h10 h10
      omega
    rw [hp] at PC
    clear hA hok
    go_enter Try.func52, Try.ntmps52
    go_wp2_with fail
    refine PC.out.mono ?_
    rintro e w1 ⟨rfl, hb1⟩
    go_wp2_with fail
    refine (HD.out w1 hb1).mono ?_
    rintro e w2 ⟨b, rfl, hbb, hm2, hb2⟩
    have B2 := below_on hb1 hb2
    have hlow : w.heap.size ≤ b := Nat.le_trans hb1.size hbb
    obtain ⟨D, n, hown, g2, g3⟩ := hm2.keys
    have HG := Lib.hid (And.intro g2 g3)
    have hbl := hown.lt
    clear hb1 hb2 hbb hm2 g2 g3
    go_wp2_with (at_range; refine wpList_range_own _ rfl _ 85 rfl 95 4 pr_keyed Try.underlying85 _ b n D rfl hown ?_; intro w3 hrg0 hg0 hs0)
    have HR0 : Hid (RangeS w3 b w2.heap.size [] (allD L L.length) (Maps.size D)) := rangeS_start (allD_nodup L _) HG.out.1 HG.out.2 hrg0
    have HB0 : Hid (Below w.heap.size w w3) := B2.grown hg0 B2.size (fun j hj => by cases hj)
    have hr3 : w2.heap.size < w3.heap.size := by omega
    have hb3 : b < w3.heap.size := by omega
    have hw2 : w.heap.size ≤ w2.heap.size := B2.size
    have hw3 : w.heap.size ≤ w3.heap.size := by omega
    clear hrg0 hg0 hs0 hown HG B2
    go_frame
    go_loopw [3, 4] (fun s _ wr => ∃ (Rk Rl : List (Int × Int)) (cnt : Nat) (Qs : List Rw), Hid (RangeS wr b w2.heap.size Rk Rl cnt) ∧ Hid ((Rk ++ Rl).Perm (allD L L.length)) ∧ Hid (Qs.map Rw.M = pairsL Rk) ∧ Hid (RowsR wr w3.heap.size s Qs ∧ (Qs = [] → s = .slice none 0 0)) ∧ Hid (Below w.heap.size w wr ∧ w3.heap.size ≤ wr.heap.size)) (fun _ _ wr => wr.rangeLeft b w2.heap.size)
    case atStart => exact ⟨[], _, _, [], HR0, List.Perm.refl _, rfl, ⟨rowsR_nil _ _, fun _ => rfl⟩, HB0.out, Nat.le_refl _⟩
    case round =>
      obtain ⟨wo, rfl⟩ : ∃ wo : World, wo = wr := ⟨_, rfl⟩
      obtain ⟨Rk, Rl, cnt, Qs, HRG, HP, HQ, HR, HB⟩ := hrel
      clear HR0 HB0
      have hQn : Qs.length ≤ 100 := by
        have e := congrArg List.length HQ.out
        have e2 := HP.out.length_eq
        have e3 := H100.out
        simp only [pairsL, List.length_map] at e
        rw [List.length_append] at e2
        omega
      go_wp2_with (first
        | (at_next; refine step_next _ rfl _ rfl b w2.heap.size Rk Rl cnt rfl HRG.out ?_ ?_)
        | go_in)
      · intro hnil
        have HPN : Hid (Rk.Perm (allD L L.length)) := by
          have q := HP.out
          rwa [hnil, List.append_nil] at q
        by_cases hq : Qs = []
        · have hz := HR.out.2 hq
          subst hz
          have HF : Hid (allD L L.length = []) := by
            have e := HQ.out
            rw [hq] at e
            have hk : Rk = [] := by
              cases Rk with
              | nil => rfl
              | cons z R => simp [pairsL] at e
            have q := HPN.out
            rw [hk] at q
            exact q.nil_eq.symm
          have HN := Lib.hid (sort_nil (.func (.func 95) #[] #[]) wo)
          clear hq
          go_wp2_with fail
          refine HN.out.mono ?_
          rintro e w5 ⟨rfl, hb5⟩
          have B5 := Lib.hid (below_on HB.out.1 hb5)
          clear hb5
          go_wp2_with fail
          go_ret
          rw [HU.out, HF.out]
          exact ⟨_, [], rfl, rowsR_nil _ _, rfl, B5.out⟩
        · have hlen : 0 < Qs.length := by
            cases Qs with
            | nil => exact absurd rfl hq
            | cons _ _ => simp
          obtain ⟨A', c', rfl, hcell⟩ := HR.out.1.form
          obtain ⟨g, rfl, -⟩ := hcell 0 hlen
          have hform : ∀ r ∈ Qs, r.M.length = 2 := fun r hr => by
            have q : r.M ∈ Qs.map Rw.M := List.mem_map_of_mem hr
            rw [HQ.out] at q
            obtain ⟨z, _, e⟩ := List.mem_map.1 q
            rw [← e]; rfl
          have HS := Lib.hid (sort_rows w3.heap.size g c' Qs wo HR.out.1 hform hlen (by omega))
          have hgl := (HR.out.1.out.lt g rfl).1
          clear hcell hform hq
          go_wp2_with fail
          refine HS.out.mono ?_
          rintro e w5 ⟨rfl, Ts, hperm, hsorted, hrows, hgr⟩
          have HFin := Lib.hid (rows_all HQ.out HPN.out hperm hsorted)
          have HRows := Lib.hid (hrows.base hw3)
          have B5 : Hid (Below w.heap.size w w5) := HB.out.1.grown hgr HB.out.1.size (fun j hj => by cases hj; omega)
          clear hperm hsorted hrows hgr
          go_wp2_with fail
          go_ret
          rw [HU.out]
          exact ⟨_, Ts, rfl, HRows.out, HFin.out, B5.out⟩
      · intro px py v w4 cnt1 hm hx hy hrg1 hlt hg1 hen
        have HRG1 := Lib.hid hrg1
        have HLT := Lib.hid hlt
        have hsz4 := hg1.size
        have HBW : Hid (Below w.heap.size w w4) := HB.out.1.grown hg1 HB.out.1.size (fun j hj => by cases hj; exact hw2)
        obtain ⟨t1, t2⟩ := HR.out.1.bottom
        have HR4 : Hid (RowsR w4 w3.heap.size _ Qs) := HR.out.1.kept hg1 (fun k hk => by cases hk; exact ⟨fun e => by have := t1 _ e; omega, fun r hr e => by have := t2 r hr; omega⟩)
        have h34 : w3.heap.size ≤ w4.heap.size := Nat.le_trans HB.out.2 hsz4
        have hnw := at_new w4 px py 95
        have HPER : Hid (((Rk ++ [(px, py)]) ++ Rl.erase (px, py)).Perm (allD L L.length)) := by
          refine List.Perm.trans ?_ HP.out
          rw [List.append_assoc]
          exact (List.perm_cons_erase hm).symm.append_left Rk
        have HQ2 : Hid ((Qs ++ [Rw.mk (w4.heap.size + 1) 2 [px, py]]).map Rw.M = pairsL (Rk ++ [(px, py)])) := by
          show _ = _
          rw [pairs_snoc, ← HQ.out]; simp
        have v1 := hnw.c0; have v2 := hnw.c1
        have hown := HR4.out.out
        clear hrg1 hlt hnw
        go_wp2_with (at_builtin; refine wpList_append_own_at _ rfl _ _ 54 rfl w3.heap.size 48 i0 (.slice none 0 0) 1 24 Try.underlying54 hi0 hz0 hz1 hz2 rfl (by decide) _ _ _ rfl (((hown.alloc _).alloc _).alloc _) ⟨w4.heap.size + 1 + 1, 0, none⟩ 1 1 [hdr (Rw.mk (w4.heap.size + 1) 2 [px, py])] rfl rfl ?d1 ?d2 ?d3 ?d4 ?d5 ?_)
        case d1 =>
          have q := heap_alloc_new ((w4.alloc (.cells #[.int .i64 px, .int .i64 py] 95)).alloc (.cells #[.int .i64 px, .int .i64 py] 3)) (.cells #[hdr (Rw.mk (w4.heap.size + 1) 2 [px, py])] 48)
          rw [size_alloc, size_alloc] at q
          exact World.news_of_block (cs := #[hdr (Rw.mk (w4.heap.size + 1) 2 [px, py])]) (t := 48) (fr := (0, 0)) q
        case d2 => simp [hdr, Value.oneCell']
        case d3 => unfold maxLen; omega
        case d4 => omega
        case d5 => simp; omega
        intro v' w7 own7 hgrow hnil hloc
        obtain ⟨wA, hwA⟩ : ∃ wA, wA = w4.alloc (.cells #[.int .i64 px, .int .i64 py] 95) := ⟨_, rfl⟩
        have hsA : wA.heap.size = w4.heap.size + 1 := by rw [hwA, size_alloc]
        have gA : w4.grownBy wA none := by rw [hwA]; exact World.grownBy_alloc w4 _ none
        have RA : RowsR wA w3.heap.size _ Qs := HR4.out.kept gA (fun k hk => by cases hk)
        have gB : wA.grownBy (wA.alloc (.cells #[.int .i64 px, .int .i64 py] 3)) none := World.grownBy_alloc wA _ none
        have gC : (wA.alloc (.cells #[.int .i64 px, .int .i64 py] 3)).grownBy ((wA.alloc (.cells #[.int .i64 px, .int .i64 py] 3)).alloc (.cells #[.slice (some ⟨w4.heap.size + 1, 0, none⟩) 2 2] 48)) none := World.grownBy_alloc _ _ none
        rw [← hwA] at hgrow
        have hrow : (wA.alloc (.cells #[.int .i64 px, .int .i64 py] 3)).ownsRow w3.heap.size 3 1 (hdr (Rw.mk (w4.heap.size + 1) 2 [px, py])) 2 (ints [px, py]) := by
          have q := World.ownsRow_lit (base := w3.heap.size) (e := 3) (size := 1) wA #[.int .i64 px, .int .i64 py] 2 (by omega) (by decide) rfl
          rw [hsA] at q
          exact q
        have R7 : Hid (RowsR w7 w3.heap.size v' (Qs ++ [Rw.mk (w4.heap.size + 1) 2 [px, py]])) := RA.snoc gB hrow (by rw [hsA]; exact Nat.le_refl _) gC own7 hgrow (by rw [size_alloc, size_alloc, hsA]; exact hloc)
        have gW : Hid (w4.grownBy w7 u3.ownBlock) := (((gA.andThen gB (fun j hj => by cases hj)).andThen gC (fun j hj => by cases hj)).but u3.ownBlock).andThen hgrow (fun j hj => .inr hj)
        have hown4 : ∀ k, u3.ownBlock = some k → w3.heap.size ≤ k := fun k hk => (hown.lt k hk).1
        have HRG7 : Hid (RangeS w7 b w2.heap.size (Rk ++ [(px, py)]) (Rl.erase (px, py)) cnt1) := HRG1.out.kept gW.out (fun e => by have := hown4 b e.symm; omega) (fun e => by have := hown4 _ e.symm; omega)
        have HB7 : Hid (Below w.heap.size w w7 ∧ w3.heap.size ≤ w7.heap.size) := ⟨HBW.out.grown gW.out HBW.out.size (fun j hj => Nat.le_trans hw3 (hown4 j hj)), Nat.le_trans h34 gW.out.size⟩
        have HR7 : Hid (RowsR w7 w3.heap.size v' (Qs ++ [Rw.mk (w4.heap.size + 1) 2 [px, py]]) ∧ (Qs ++ [Rw.mk (w4.heap.size + 1) 2 [px, py]] = [] → v' = .slice none 0 0)) := ⟨R7.out, fun e => by simp at e⟩
        clear own7 hgrow hnil hloc RA gA gB gC hrow R7 gW hown4 hown HR4 hwA hsA v1 v2
        go_wp2_with fail
        go_roundw
        case rel => exact ⟨_, _, cnt1, _, HRG7, HPER, HQ2, HR7, HB7⟩
        case measure => rw [HRG7.out.left, HRG.out.left]; exact HLT.out
theorem diagsV_len (L : List (Int × Int)) : (diagsV L).length ≤ 1000 := by
  unfold diagsV
  cases hp : polyB L
  · simp
  · obtain ⟨h3, h10, -⟩ := polyB_all hp
    simp only [cond_true, pairsL, List.length_map]
    have h1 := allD_len L L.length
    have h2 : L.length * L.length ≤ 10 * 10 := Nat.mul_le_mul h10 h10
    omega
theorem diagsV_two (L : List (Int × Int)) : ∀ m ∈ diagsV L, m.length = 2 := fun m hm => by
  unfold diagsV at hm
  cases hp : polyB L
  · rw [hp] at hm; simp at hm
  · rw [hp, cond_true] at hm
    obtain ⟨z, _, rfl⟩ := List.mem_map.1 hm
    rfl
theorem ex_diagonalsOf (A : Option Addr) (c : Nat) (L : List (Int × Int)) (w : World) (hA : ArgA w A L) (hL : L.length ≤ maxLen) :
    Calls Try.prog 10 #[.slice A L.length c] w fun e w' => e = .returned (.bool true) ∧ Below w.heap.size w w' :=
  law_diagonalsOf A c L (diagsV L) 2 w hA hL (fun h A c w hp => spec_diagonals A c L w hp h) (fun h A c w hp => impl_diagonals A c L w hp h) (diagsV_len L) (diagsV_two L) (by omega)
end Go.Proofs.Ytieekeodbflgfaa
