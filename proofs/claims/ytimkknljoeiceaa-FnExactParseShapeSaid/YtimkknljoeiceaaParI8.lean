/-
  ParseShape of the program, and the law.
-/
import Derived.Test.YtimkknljoeiceaaParS8
import Derived.Test.YtimkknljoeiceaaJoin2
namespace Go.Proofs.Ytimkknljoeiceaa
open Go.RowKit

theorem good_shape0 {R : List ByteArray} (h : goodB R = true) : shapeB (parA R : Nat) (R.length : Nat) 0 = true := by
  obtain ⟨ha, hb, _⟩ := good_parts h
  have := shape_of (m := 0) ha hb (Nat.two_pow_pos _)
  exact this
set_option maxRecDepth 100000 in
set_option maxHeartbeats 2000000 in
theorem impl_parse8 (s : ByteArray) (W : World) (hs : s.size ≤ 1048576) : Calls Try.prog 44 #[.string s] W (ParP s W) := by
  have HSP := Lib.hid (impl_split s slash W hs (by decide))
  have hpos := splitS_pos s
  have hlen := splitB_len s slash
  have HRS := Lib.hid (rows_size s)
  have HPV : Hid (∀ w', goodB (splitB s slash) = false → Below W.heap.size W w' → ParP s W (.returned noShape) w') := fun w' hg hb => ⟨by rw [par_no hg], hb⟩
  have HPY : Hid (∀ w', goodB (splitB s slash) = true → Below W.heap.size W w' → ParP s W (.returned (.tuple #[.int .i64 (parA (splitB s slash) : Nat), .int .i64 ((splitB s slash).length : Nat), .int .i64 (parM (splitB s slash) : Nat), .bool true])) w') := fun w' hg hb => ⟨by unfold parV; rw [if_pos hg], hb⟩
  have HRZ := Lib.hid (fun y (hy : y < (splitB s slash).length) => show ((splitB s slash)[y]).size ≤ 1048576 by
    have h1 := rows_size s
    have h2 := tots_succ hy
    have h3 := tots_mono (splitB s slash) (show y + 1 ≤ (splitB s slash).length by omega)
    have h4 := splitS_pos s
    omega)
  have HGF := Lib.hid (fun h => @good_fmt s h)
  have HFG := Lib.hid (fun a b m h1 h2 h3 h4 => @fmt_good s a b m h1 h2 h3 h4)
  have hslash : slash = ⟨#[47]⟩ := rfl
  rw [hslash] at HSP
  generalize hR : splitB s slash = R at *
  rw [hslash] at hR
  rw [hR] at HSP
  generalize ParP s W = PP at *
  clear hR hslash
  obtain ⟨a, ha⟩ : ∃ a, a = parA R := ⟨_, rfl⟩
  have HAQ := Lib.hid ha
  have HA0 : Hid ((R[0]).size = a) := by
    show _ = _
    rw [ha, parA, getD_lt hpos]
  clear ha
  have HSH := Lib.hid (fun w h W => impl_shape w h 0 W)
  have HJL : Hid ((jl R [] R.length).length ≤ 2097152) := by
    show _ ≤ _
    have h1 := jl_len R [] R.length
    have h2 := HRS.out
    simp at h1
    omega
  go_enter Try.func44, Try.ntmps44
  go_wp2_with fail
  refine HSP.out.mono ?_
  rintro e w1 ⟨v1, rfl, own1, b1⟩
  obtain ⟨_, A1, c1, rfl, p1⟩ := own_strs own1
  have HJN := Lib.hid (impl_join2 A1 c1 R ⟨#[]⟩ w1 (StrsAt.of own1) (by have := HRS.out; omega) (by decide))
  obtain ⟨g1, rfl, d0⟩ := p1 0 hpos
  obtain ⟨r0, hr0⟩ : ∃ r0, r0 = R[0] := ⟨_, rfl⟩
  rw [← hr0] at d0
  have hrz := HRZ.out 0 hpos
  have ha0 := HA0.out
  rw [← hr0] at hrz ha0
  have e0 : (ByteArray.mk #[]).data.toList = [] := rfl
  rw [e0] at HJN
  clear p1 own1 hr0 e0
  have HMK := Lib.hid (fun h => good_marks (R := R) h)
  go_wp2_with fail
  refine HJN.out.mono ?_
  rintro e w2 ⟨rfl, hb2⟩
  have b2 := below_on b1 hb2
  generalize hJ : jl R [] R.length = J at *
  clear b1 hb2 HJN hJ d0 ha0 hrz HSP HA0 hpos
  obtain ⟨T, hT⟩ : ∃ T : ByteArray, T = ⟨J.toArray⟩ := ⟨_, rfl⟩
  have hTs : T.size = J.length := by rw [hT]; exact mk_size J
  have hTd : T.data.toList = J := by rw [hT]
  rw [← hT]
  have HTS := Lib.hid hTs
  have hT2 : T.size ≤ 2097152 := by have := HJL.out; omega
  clear hT hTs
  go_wp2_with fail
  cases hsh : shapeB (a : Int) (R.length : Int) 0
  · have R2 := Lib.hid (fun w' hb => HPV.out w' (by
      cases hg : goodB R
      · rfl
      · have := good_shape0 hg
        rw [← HAQ.out, hsh] at this; cases this) hb)
    have HC := Lib.hid (HSH.out (a : Int) (R.length : Int) w2)
    rw [hsh] at HC
    clear hsh
    refine HC.out.mono ?_
    rintro e w3 ⟨rfl, rfl⟩
    go_wp2_with fail
    refine bodyPost_ret (v := noShape) (by simp [results, Try.results44, go_sem, noShape]) rfl ?_
    exact R2.out _ b2
  have HC := Lib.hid (HSH.out (a : Int) (R.length : Int) w2)
  rw [hsh] at HC
  obtain ⟨a', h', m', q1, q2, q3, ha1, ha2, hb1, hb2', hm', hab⟩ := mask_nat (M := (0 : Int)) hsh
  have r1 := Int.ofNat.inj q1
  have r2 := Int.ofNat.inj q2
  clear q1 q2 q3 hm'
  subst r1
  rw [← r2] at hb1 hb2' hab
  clear r2
  obtain ⟨n, hn⟩ : ∃ n, n = a * R.length := ⟨_, rfl⟩
  have hN : ((a : Int) * (R.length : Int) = (n : Int)) := by rw [hn, Int.natCast_mul]
  have HNN := Lib.hid hn
  rw [← hn] at hab
  clear hn hsh
  refine HC.out.mono ?_
  rintro e w3 ⟨rfl, rfl⟩
  by_cases hTn : T.size = n
  case neg =>
    have R2 := Lib.hid (HPV.out w3 (by
      cases hg : goodB R
      · rfl
      · have := (HMK.out hg).1
        rw [← HAQ.out, ← HNN.out, ← HTS.out] at this
        exact absurd this hTn) b2)
    have hne : ((T.size : Int) == (n : Int)) = false := by rw [beq_eq_false_iff_ne]; omega
    have hne2 : ((T.size : Int) != (n : Int)) = true := by rw [bne, hne]; rfl
    clear hTn
    go_wp2_with fail
    refine bodyPost_ret (v := noShape) (by simp [results, Try.results44, go_sem, noShape]) rfl ?_
    exact R2.out
  have HTN := Lib.hid hTn
  have heq : ((T.size : Int) == (n : Int)) = true := by rw [hTn]; simp
  have heq2 : ((T.size : Int) != (n : Int)) = false := by rw [bne, heq]; rfl
  clear hTn
  have t2 := brd_new w3 0 0 fun _ => false
  go_wp2_with (first
    | (refine wpList_allocB rfl rfl ?_; try simp only [size_alloc])
    | refine wpList_buildB rfl _ _ rfl _ _ rfl rfl ?_
    | refine wpList_storeB rfl _ _ rfl w3.heap.size a R.length _ _ (fun _ => false) _ rfl rfl t2 ?_)
  have t1 := brd_setRow t2 a R.length (fun _ => false)
  have hs3 := b2.size
  have bb := below_rowB (b2.alloc hs3 (.cells (bdV 0 0 fun _ => false) 75)) hs3 (bdV a R.length fun _ => false)
  generalize (w3.alloc (.cells (bdV 0 0 fun _ => false) 75)).setRow w3.heap.size (bdV a R.length fun _ => false) = w4 at *
  have hFX : ∃ F : Nat → Bool, F = fun i => J.getD i 0 == 35 := ⟨_, rfl⟩
  obtain ⟨F, hF⟩ := hFX
  have HF : Hid (∀ k (h : k < T.size), F k = (T[k] == 35)) := fun k h => by
    rw [hF]
    show (J.getD k 0 == 35) = _
    rw [List.getD_eq_getElem?_getD, List.getElem?_eq_getElem (by have := HTS.out; omega)]
    simp only [Option.getD_some, ← hTd]
    rfl
  have HF2 := Lib.hid hF
  have H0 : Hid (Brd w4 w3.heap.size a R.length (fun j => decide (j < 0) && F j)) := by
    have : (fun j => decide (j < 0) && F j) = fun _ => false := by funext j; simp
    show Brd _ _ _ _ _
    rw [this]; exact t1
  have HUP : Hid (∀ k, updF (fun j => decide (j < k) && F j) k (F k) = fun j => decide (j < k + 1) && F j) := fun k => by
    funext j
    by_cases e : j = k
    · subst e; simp [updF]
    · have : decide (j < k + 1) = decide (j < k) := by rw [decide_eq_decide]; omega
      simp [updF, e, this]
  clear t2 t1 b2 hF heq heq2 hTd HC HSH HRZ
  go_loopw [11, 41] (fun _ i wr => ∃ k : Nat, k ≤ n ∧ i = .int .i64 k ∧ Brd wr w3.heap.size a R.length (fun j => decide (j < k) && F j) ∧ Below W.heap.size W wr) (fun _ i _ => n - (intOf i).toNat)
  case atStart => exact ⟨0, Nat.zero_le _, rfl, H0.out, bb⟩
  case round =>
    clear H0 bb
    obtain ⟨wo, rfl⟩ : ∃ wo : World, wo = wr := ⟨_, rfl⟩
    obtain ⟨k, hk, rfl, hg, hb⟩ := hrel
    by_cases hlt : k < n
    · have hk36 : k < 36 := by omega
      have hkT : k < T.size := by have := HTN.out; omega
      have hfk := HF.out k hkT
      have c1 := hg.at hk36
      have f1 := hg.frozen (2 + k)
      have g1' := hg.set hk36 (F k)
      rw [HUP.out] at g1'
      have b1' := hb.setCell (p := ⟨w3.heap.size, 2 + k, none⟩) hs3 (.bool (F k))
      have RR := Lib.hid (And.intro g1' b1')
      obtain ⟨c, hc⟩ : ∃ c : UInt8, T[k]'hkT = c := ⟨_, rfl⟩
      rw [hc] at hfk
      clear g1' b1' hg hb
      by_cases h35 : c = 35
      · have hq1 : ((c.toNat : Int) == 35) = true := by rw [h35]; rfl
        have hv : F k = true := by rw [hfk, h35]; rfl
        rw [hv] at RR
        clear h35 hfk hv
        go_wp2_with fail
        go_roundw
        case rel => exact ⟨k + 1, by omega, by go_num, RR.out.1, RR.out.2⟩
        case measure => simp [intOf]; omega
      · have hq1 : ((c.toNat : Int) == 35) = false := by
          rw [beq_eq_false_iff_ne]
          intro e
          exact h35 (UInt8.toNat_inj.1 (by show c.toNat = 35; omega))
        have hv : F k = false := by rw [hfk]; simpa using h35
        rw [hv] at RR
        clear h35 hfk hv
        go_wp2_with fail
        go_roundw
        case rel => exact ⟨k + 1, by omega, by go_num, RR.out.1, RR.out.2⟩
        case measure => simp [intOf]; omega
    · obtain rfl : k = n := by omega
      have HMB := Lib.hid (fun W => maskB_any a R.length (fun j => decide (j < k) && F j) W (by rw [← HNN.out]; exact hab))
      have hof : ofF (fun j => decide (j < k) && F j) (a * R.length) = ofF F k := by
        rw [← HNN.out]
        exact ofF_congr fun j hj => by simp [hj]
      rw [hof] at HMB
      have hmlt := ofF_lt F k
      obtain ⟨m, hm⟩ : ∃ m, m = ofF F k := ⟨_, rfl⟩
      rw [← hm] at HMB hmlt
      have HFM := Lib.hid (fun W => impl_format a R.length m W)
      have HGO : Hid (goodB R = true ↔ fmtV a R.length m = s) := by
        constructor
        · intro hg'
          have h1 := HGF.out hg'
          have h2 := (HMK.out hg').2
          rw [← HAQ.out, ← HNN.out, ← HF2.out, ← hm] at h2
          rw [← HAQ.out, ← h2] at h1
          exact h1
        · intro h
          exact HFG.out a R.length m ⟨ha1, ha2⟩ ⟨hb1, hb2'⟩ (by rw [← HNN.out]; exact hmlt) h
      have HPM : Hid (goodB R = true → m = parM R) := fun hg' => by
        have h2 := (HMK.out hg').2
        rw [← HAQ.out, ← HNN.out, ← HF2.out, ← hm] at h2
        exact h2
      generalize fmtV (a : Int) (R.length : Int) (m : Int) = Z at *
      clear hof hmlt hm
      go_wp2_with (refine wpList_loadB rfl _ rfl _ _ _ _ rfl hg ?_)
      refine (HMB.out _).mono ?_
      rintro e w5 ⟨rfl, hb5⟩
      have bb5 := below_on hb hb5
      clear hb hb5 hg
      go_wp2_with fail
      refine (HFM.out _).mono ?_
      rintro e w6 ⟨rfl, hb6⟩
      have bb6 := below_on bb5 hb6
      clear bb5 hb6
      by_cases hz : Z = s
      · have hg' := HGO.out.2 hz
        have R2 := Lib.hid (HPY.out w6 hg' bb6)
        rw [← HPM.out hg', ← HAQ.out] at R2
        subst hz
        go_wp2_with fail
        refine bodyPost_ret (v := .tuple #[.int .i64 a, .int .i64 R.length, .int .i64 m, .bool true]) (by simp [results, Try.results44, go_sem]) rfl ?_
        exact R2.out
      · have R2 := Lib.hid (HPV.out w6 (by
          cases hg' : goodB R
          · rfl
          · exact absurd (HGO.out.1 hg') hz) bb6)
        have hzl : (Z.toList == s.toList) = false := by
          rw [beq_eq_false_iff_ne, ByteArray.toList_eq, ByteArray.toList_eq]
          intro e
          exact hz (ByteArray.ext (Array.toList_inj.1 e))
        have hzn : (!Z.toList == s.toList) = true := by rw [hzl]; rfl
        go_wp2_with fail
        refine bodyPost_ret (v := noShape) (by simp [results, Try.results44, go_sem, noShape]) rfl ?_
        exact R2.out
set_option maxRecDepth 100000 in
theorem ex_parseShape (s : ByteArray) (W : World) (hs : s.size ≤ maxLen) : Calls Try.prog 12 #[.string s] W fun e w' => e = .returned (.bool true) ∧ Below W.heap.size W w' := by
  unfold maxLen at hs
  by_cases hb : (1048576 : Int) < (s.size : Int)
  · go_enter Try.func12, Try.ntmps12
    go_wp2_with fail
    go_ret
    exact ⟨rfl, Below.refl _ _⟩
  have HS := Lib.hid (fun W => spec_parse8 s W (by omega))
  have HI := Lib.hid (fun W => impl_parse8 s W (by omega))
  obtain ⟨x, y, z, q, hv⟩ : ∃ x y z : Int, ∃ q : Bool, parV s = .tuple #[.int .i64 x, .int .i64 y, .int .i64 z, .bool q] := by
    unfold parV noShape
    split
    · exact ⟨_, _, _, _, rfl⟩
    · exact ⟨_, _, _, _, rfl⟩
  unfold ParP at HS HI
  rw [hv] at HS HI
  clear hv
  go_enter Try.func12, Try.ntmps12
  go_wp2_with fail
  refine (HS.out _).mono ?_
  rintro e w1 ⟨rfl, b1⟩
  go_wp2_with fail
  refine (HI.out _).mono ?_
  rintro e w2 ⟨rfl, hb2⟩
  have b2 := below_on b1 hb2
  go_wp2_with fail
  go_ret
  exact ⟨rfl, b2⟩
end Go.Proofs.Ytimkknljoeiceaa
