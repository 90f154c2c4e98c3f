/-
  Walks and facts of this seat, part Lb (merged by a script of this repo out of smaller texts).
-/
import Derived.Test.YtncahchhinfneaaLa
/-! DscI10 -/
namespace Go.Proofs.Ytncahchhinfneaa
open Go.RowKit

theorem cpF_get : ∀ (Cs : List Cp) (i : Nat) (hi : i < Cs.length), (Cs.flatMap cpF)[i * 2]? = some (hdr Cs[i].r) ∧ (Cs.flatMap cpF)[i * 2 + 1]? = some (pcV Cs[i])
  | c :: Cs, 0, _ => ⟨rfl, rfl⟩
  | c :: Cs, i + 1, hi => by
    have h := cpF_get Cs i (by simpa using hi)
    rw [List.flatMap_cons, show (i + 1) * 2 = i * 2 + 1 + 1 by omega]
    simpa [cpF] using h
theorem CpsR.form {w : World} {B : Nat} {v : Value} {Cs : List Cp} (h : CpsR w B v Cs) : ∃ A c, v = .slice A Cs.length c ∧ ∀ i (hi : i < Cs.length), ∃ g, A = some ⟨g, 0, none⟩ ∧ w.cell? ⟨g, i * 2, none⟩ = some (hdr Cs[i].r) ∧ w.cell? ⟨g, i * 2 + 1, none⟩ = some (pcV Cs[i]) := by
  rcases h.out.2 with ⟨q, _⟩ | ⟨g, cap, cur, hv, _, hh, hl⟩
  · rename_i e; exact ⟨none, 0, by rw [q, e], fun i hi => absurd hi (by omega)⟩
  · subst hv
    refine ⟨some ⟨g, 0, none⟩, cap, rfl, fun i hi => ⟨g, rfl, ?_, ?_⟩⟩
    · rw [h.out.cellAt (i * 2) (by omega)]; exact (cpF_get Cs i hi).1
    · rw [h.out.cellAt (i * 2 + 1) (by omega)]; exact (cpF_get Cs i hi).2
theorem matP_ok {K L : List (Option Int)} {V : List Int × Bool} (h : MatP K L V) : V.2 = (matchV K L).isSome := by
  rw [h.eq]; cases matchV K L <;> rfl
theorem cut_kinds {w h M : Int} {c : List Int} (hc : CutP w h M c) : (kindsV w h (pieV w h M c)).length ≤ 9 ∧ kindsV w h (pieV w h M c) ≠ [] := by
  obtain ⟨-, h2, n, h3⟩ := cut_pieces hc
  rw [kinds_len]
  refine ⟨h2, fun e => ?_⟩
  have := congrArg List.length e
  rw [kinds_len, h3] at this
  cases this
theorem own_at {w : World} {B : Nat} {e : TypeId} {g n c : Nat} {xs : List Value} (h : w.ownsRow B e 1 (.slice (some ⟨g, 0, none⟩) n c) n xs) : ValsA w (some ⟨g, 0, none⟩) xs := by
  obtain ⟨-, A, c', hv, hA⟩ := own_vals h
  cases hv
  exact hA
theorem cell_new (w : World) (cs : Array Value) (t : TypeId) (k : Nat) (v : Value) (h : cs[k]? = some v) : (w.alloc (.cells cs t)).cell? ⟨w.heap.size, k, none⟩ = some v := by
  simp [World.cell?_alloc_mark, h]
theorem cell_on10 {w w' : World} (hb : Below w.heap.size w w') {a : Addr} {v : Value} (hc : w.cell? a = some v) : w'.cell? a = some v := (hb.cell (World.block_lt_of_cell? w a hc)).trans hc
set_option maxRecDepth 100000 in
set_option maxHeartbeats 4000000 in
theorem impl_dissect (w h a b K : Int) (W : World) : Calls Try.prog 63 #[.int .i64 w, .int .i64 h, .int .i64 a, .int .i64 b, .int .i64 K] W (DisQ (DisD w h a b K) W) := by
  have H1 := Lib.hid (fun W => sevenI_any w h a W)
  have H2 := Lib.hid (fun W => sevenI_any w h b W)
  have RN : Hid (DisD w h a b K ([], [], false) → DisQ (DisD w h a b K) W (.returned (.tuple #[.slice none 0 0, .slice none 0 0, .bool false])) W) := fun hd => ⟨([], [], false), _, _, rfl, hd, World.ownsRow_nil _ _ _ _, World.ownsRow_nil _ _ _ _, .inl rfl, Below.refl _ _⟩
  cases h7a : seven w h a
  · have R := Lib.hid (RN.out (disD_no fun wa wb _ _ => by rw [if_neg (by simp [h7a])]))
    rw [h7a] at H1
    clear h7a RN H2
    go_enter Try.func63, Try.ntmps63
    go_wp2_with fail
    refine (H1.out _).mono ?_
    rintro e w1 ⟨rfl, rfl⟩
    go_wp2_with fail
    go_ret3
    exact R.out
  cases h7b : seven w h b
  · have R := Lib.hid (RN.out (disD_no fun wa wb _ _ => by rw [if_neg (by simp [h7b])]))
    rw [h7a] at H1
    rw [h7b] at H2
    clear h7a h7b RN
    go_enter Try.func63, Try.ntmps63
    go_wp2_with fail
    refine (H1.out _).mono ?_
    rintro e w1 ⟨rfl, rfl⟩
    go_wp2_with fail
    refine (H2.out _).mono ?_
    rintro e w1 ⟨rfl, rfl⟩
    go_wp2_with fail
    go_ret3
    exact R.out
  rw [h7a] at H1
  rw [h7b] at H2
  obtain ⟨wa, ha⟩ := isWh_ex w h a
  obtain ⟨wb, hb⟩ := isWh_ex w h b
  obtain ⟨LA, hLA⟩ : ∃ LA, LA = listsC w h a K wa := ⟨_, rfl⟩
  obtain ⟨LB, hLB⟩ : ∃ LB, LB = listsC w h b K wb := ⟨_, rfl⟩
  have CA : Hid (∀ x ∈ LA, CutP w h a x) := by rw [hLA]; exact listsC_cut ha (K := K)
  have CB : Hid (∀ x ∈ LB, CutP w h b x) := by rw [hLB]; exact listsC_cut hb (K := K)
  have LEA : Hid (LA.length ≤ 362880) := by rw [hLA]; exact listsC_le
  have LEB : Hid (LB.length ≤ 362880) := by rw [hLB]; exact listsC_le
  have SA : Hid (∀ W, Calls Try.prog 133 #[.int .i64 w, .int .i64 h, .int .i64 a, .int .i64 K] W fun e w' => ∃ v Cs, e = .returned v ∧ CpsR w' W.heap.size v Cs ∧ Cs.map (fun c => c.r.M) = LA ∧ (∀ c ∈ Cs, c.L = kindsV w h (pieV w h a c.r.M)) ∧ Below W.heap.size W w') := fun W => (cwp_any w h a K W).mono fun e w' ⟨v, Cs, q1, q2, q3, q4, q5⟩ => ⟨v, Cs, q1, q2, by rw [hLA]; exact q3 wa ha, q4, q5⟩
  have SB : Hid (∀ W, Calls Try.prog 133 #[.int .i64 w, .int .i64 h, .int .i64 b, .int .i64 K] W fun e w' => ∃ v Cs, e = .returned v ∧ CpsR w' W.heap.size v Cs ∧ Cs.map (fun c => c.r.M) = LB ∧ (∀ c ∈ Cs, c.L = kindsV w h (pieV w h b c.r.M)) ∧ Below W.heap.size W w') := fun W => (cwp_any w h b K W).mono fun e w' ⟨v, Cs, q1, q2, q3, q4, q5⟩ => ⟨v, Cs, q1, q2, by rw [hLB]; exact q3 wb hb, q4, q5⟩
  have HD : Hid (∀ V, V = resD (findD (hitD w h a b) LA LB) → DisD w h a b K V) := fun V hV => disD_of ha hb ⟨h7a, h7b⟩ (by rw [hV, hLA, hLB])
  have HFN : Hid ((∀ x ∈ LA, ∀ y ∈ LB, hitD w h a b x y = false) → findD (hitD w h a b) LA LB = none) := findD_none
  have HFA : Hid (∀ i j (hi : i < LA.length) (hj : j < LB.length), (∀ k (hk : k < LA.length), k < i → ∀ y ∈ LB, hitD w h a b LA[k] y = false) → (∀ k (hk : k < LB.length), k < j → hitD w h a b LA[i] LB[k] = false) → hitD w h a b LA[i] LB[j] = true → findD (hitD w h a b) LA LB = some (LA[i], LB[j])) := fun i j hi hj => findD_at hi hj
  generalize findD (hitD w h a b) LA LB = FD at *
  clear ha hb hLA hLB h7a h7b RN
  go_enter Try.func63, Try.ntmps63
  go_wp2_with fail
  refine (H1.out _).mono ?_
  rintro e w1 ⟨rfl, rfl⟩
  go_wp2_with fail
  refine (H2.out _).mono ?_
  rintro e w1 ⟨rfl, rfl⟩
  go_wp2_with fail
  refine (SB.out _).mono ?_
  rintro e w2 ⟨vB, DB, rfl, hRB, hMB, hKB, hb2⟩
  obtain ⟨AB, cB, rfl, -⟩ := hRB.form
  have HRB := Lib.hid hRB
  have HMB := Lib.hid hMB
  have HKB := Lib.hid hKB
  have HB2 := Lib.hid hb2
  have hlB : DB.length ≤ 362880 := by
    have := LEB.out
    rw [← hMB, List.length_map] at this; exact this
  clear hRB hMB hKB hb2 SB LEB H1 H2
  go_wp2_with fail
  refine (SA.out _).mono ?_
  rintro e w3 ⟨vA, DA, rfl, hRA, hMA, hKA, hb3⟩
  obtain ⟨AA, cA, rfl, -⟩ := hRA.form
  have hlA : DA.length ≤ 362880 := by
    have := LEA.out
    rw [← hMA, List.length_map] at this; exact this
  have HAP : Hid (∀ r ∈ DA, ∀ s ∈ DB, r.r.g ≠ s.r.g) := fun r hr s hs e => by
    have h1 := ((hRA.row r hr).lt r.r.g rfl).1
    have h2 := ((HRB.out.row s hs).lt s.r.g rfl).2
    omega
  have HRA := Lib.hid (hRA.base HB2.out.size)
  have HMA := Lib.hid hMA
  have HKA := Lib.hid hKA
  have HRB3 := Lib.hid (HRB.out.below hb3)
  have HB3 := Lib.hid (below_on HB2.out hb3)
  clear hRA hMA hKA hb3 SA LEA HRB HB2
  go_wp2_with fail
  go_loopw [15, 17, 18, 19, 43] (fun _ _ _ _ i wr => ∃ t : Nat, t ≤ DA.length ∧ i = .int .i64 t ∧ Hid (∀ k (hk : k < LA.length), k < t → ∀ y ∈ LB, hitD w h a b LA[k] y = false) ∧ Hid (Below w3.heap.size w3 wr)) (fun _ _ _ _ i _ => DA.length - (intOf i).toNat)
  case atStart => exact ⟨0, Nat.zero_le _, rfl, fun k _ h => absurd h (Nat.not_lt_zero k), Below.refl _ _⟩
  case round =>
    obtain ⟨wi, rfl⟩ : ∃ wi : World, wi = wr := ⟨_, rfl⟩
    obtain ⟨t, ht, rfl, HT, HBI⟩ := hrel
    have hLAl : LA.length = DA.length := by rw [← HMA.out, List.length_map]
    have HLAL := Lib.hid hLAl
    by_cases htl : t < DA.length
    · have hRA2 := HRA.out.below HBI.out
      obtain ⟨A', c', hv, hat⟩ := hRA2.form
      cases hv
      obtain ⟨gA, rfl, hc1, hc2⟩ := hat t htl
      have hrow := hRA2.row _ (List.getElem_mem htl)
      have hprow := hRA2.prow _ (List.getElem_mem htl)
      have hLAt : LA[t]'(by omega) = (DA[t]).r.M := by simp only [← HMA.out, List.getElem_map]
      have hmem : (DA[t]).r.M ∈ LA := by rw [← hLAt]; exact List.getElem_mem _
      have HCX := Lib.hid (CA.out _ hmem)
      have HKX := Lib.hid (HKA.out _ (List.getElem_mem htl))
      have HT2 : Hid ((∀ y ∈ LB, hitD w h a b (DA[t]).r.M y = false) → ∀ k (hk : k < LA.length), k < t + 1 → ∀ y ∈ LB, hitD w h a b LA[k] y = false) := fun hq k hk hkt => by
        rcases Nat.lt_or_ge k t with q | q
        · exact HT.out k hk q
        · obtain rfl : k = t := by omega
          rw [hLAt]; exact hq
      have HF2 : Hid (∀ j (hj : j < LB.length), (∀ k (hk : k < LB.length), k < j → hitD w h a b (DA[t]).r.M LB[k] = false) → hitD w h a b (DA[t]).r.M LB[j] = true → FD = some ((DA[t]).r.M, LB[j])) := fun j hj h1 h2 => by
        have := HFA.out t j (by omega) hj HT.out (by rw [hLAt]; exact h1) (by rw [hLAt]; exact h2)
        rw [hLAt] at this
        exact this
      have HRM : Hid (DA[t] ∈ DA) := List.getElem_mem htl
      generalize DA[t] = x at *
      have hh : hdr x.r = .slice (some ⟨x.r.g, 0, none⟩) x.r.M.length x.r.cap := rfl
      have hp : pcV x = .slice (some ⟨x.pg, 0, none⟩) x.L.length x.pcap := rfl
      rw [hh] at hc1 hrow
      rw [hp] at hc2 hprow
      have HRW := Lib.hid hrow
      have HPW := Lib.hid hprow
      clear hrow hprow hmem hh hp hat hRA2 hLAt hLAl
      go_wp2_with fail
      have HBF : Hid (Below wi.heap.size wi (wi.alloc (.cells #[.slice (some ⟨x.r.g, 0, none⟩) x.r.M.length x.r.cap, .slice (some ⟨x.pg, 0, none⟩) x.L.length x.pcap] 142))) := below1 wi _
      have f1 : (wi.alloc (.cells #[.slice (some ⟨x.r.g, 0, none⟩) x.r.M.length x.r.cap, .slice (some ⟨x.pg, 0, none⟩) x.L.length x.pcap] 142)).cell? ⟨wi.heap.size, 0, none⟩ = some (.slice (some ⟨x.r.g, 0, none⟩) x.r.M.length x.r.cap) := cell_new wi _ _ 0 _ rfl
      have f2 : (wi.alloc (.cells #[.slice (some ⟨x.r.g, 0, none⟩) x.r.M.length x.r.cap, .slice (some ⟨x.pg, 0, none⟩) x.L.length x.pcap] 142)).cell? ⟨wi.heap.size, 1, none⟩ = some (.slice (some ⟨x.pg, 0, none⟩) x.L.length x.pcap) := cell_new wi _ _ 1 _ rfl
      have HF1 := Lib.hid f1
      have HF2' := Lib.hid f2
      have hsF : wi.heap.size < (wi.alloc (.cells #[.slice (some ⟨x.r.g, 0, none⟩) x.r.M.length x.r.cap, .slice (some ⟨x.pg, 0, none⟩) x.L.length x.pcap] 142)).heap.size := by simp
      clear hc1 hc2 f1 f2
      generalize wi.alloc (.cells #[.slice (some ⟨x.r.g, 0, none⟩) x.r.M.length x.r.cap, .slice (some ⟨x.pg, 0, none⟩) x.L.length x.pcap] 142) = wF at *
      obtain ⟨bX, hbX⟩ : ∃ bX, bX = wi.heap.size := ⟨_, rfl⟩
      rw [← hbX] at HF1 HF2' hsF ⊢
      have HIF := Lib.hid (below_on HBI.out HBF.out)
      have HRW2 := Lib.hid (own_below HRW.out HBF.out)
      have HPW2 := Lib.hid (own_below HPW.out HBF.out)
      clear hbX HBF HRW HPW
      go_loopw [17, 18, 19, 49] (fun _ _ _ i wr => ∃ j : Nat, j ≤ DB.length ∧ i = .int .i64 j ∧ Hid (∀ k (hk : k < LB.length), k < j → hitD w h a b x.r.M LB[k] = false) ∧ Hid (Below wF.heap.size wF wr)) (fun _ _ _ i _ => DB.length - (intOf i).toNat)
      case atStart => exact ⟨0, Nat.zero_le _, rfl, fun k _ h => absurd h (Nat.not_lt_zero k), Below.refl _ _⟩
      case round =>
        obtain ⟨wj, rfl⟩ : ∃ wj : World, wj = wr := ⟨_, rfl⟩
        obtain ⟨j, hj, rfl, HJ, HBJ⟩ := hrel
        have hLBl : LB.length = DB.length := by rw [← HMB.out, List.length_map]
        by_cases hjl : j < DB.length
        · have HIJ := Lib.hid (below_on HIF.out HBJ.out)
          have hRB2 := HRB3.out.below HIJ.out
          obtain ⟨A', c', hv, hat⟩ := hRB2.form
          cases hv
          obtain ⟨gB, rfl, hc1, hc2⟩ := hat j hjl
          have hrow := hRB2.row _ (List.getElem_mem hjl)
          have hprow := hRB2.prow _ (List.getElem_mem hjl)
          have hLBj : LB[j]'(by omega) = (DB[j]).r.M := by simp only [← HMB.out, List.getElem_map]
          have hmem : (DB[j]).r.M ∈ LB := by rw [← hLBj]; exact List.getElem_mem _
          have hCY := CB.out _ hmem
          have hKY := HKB.out _ (List.getElem_mem hjl)
          have HJ2 : Hid (hitD w h a b x.r.M (DB[j]).r.M = false → ∀ k (hk : k < LB.length), k < j + 1 → hitD w h a b x.r.M LB[k] = false) := fun hq k hk hkt => by
            rcases Nat.lt_or_ge k j with q | q
            · exact HJ.out k hk q
            · obtain rfl : k = j := by omega
              rw [hLBj]; exact hq
          have HFD : Hid (hitD w h a b x.r.M (DB[j]).r.M = true → FD = some (x.r.M, (DB[j]).r.M)) := fun hq => by
            have := HF2.out j (by omega) HJ.out (by rw [hLBj]; exact hq)
            rw [hLBj] at this
            exact this
          have hap := HAP.out _ HRM.out _ (List.getElem_mem hjl)
          have HHM : Hid (hitD w h a b x.r.M (DB[j]).r.M = (matchV x.L (DB[j]).L).isSome) := by
            show _ = _
            rw [HKX.out, hKY]; exact hit_match HCX.out hCY
          have hLX : x.L.length ≤ 9 := by rw [HKX.out]; exact (cut_kinds HCX.out).1
          have hLY : (DB[j]).L.length ≤ 9 := by rw [hKY]; exact (cut_kinds hCY).1
          have hLN : (DB[j]).L ≠ [] := by rw [hKY]; exact (cut_kinds hCY).2
          generalize DB[j] = y at *
          have hh : hdr y.r = .slice (some ⟨y.r.g, 0, none⟩) y.r.M.length y.r.cap := rfl
          have hp : pcV y = .slice (some ⟨y.pg, 0, none⟩) y.L.length y.pcap := rfl
          rw [hh] at hc1 hrow
          rw [hp] at hc2 hprow
          have f1 := cell_on10 HBJ.out HF1.out
          have f2 := cell_on10 HBJ.out HF2'.out
          have hbY : Below wj.heap.size wj (wj.alloc (.cells #[.slice (some ⟨y.r.g, 0, none⟩) y.r.M.length y.r.cap, .slice (some ⟨y.pg, 0, none⟩) y.L.length y.pcap] 142)) := below1 wj _
          have g1 : (wj.alloc (.cells #[.slice (some ⟨y.r.g, 0, none⟩) y.r.M.length y.r.cap, .slice (some ⟨y.pg, 0, none⟩) y.L.length y.pcap] 142)).cell? ⟨wj.heap.size, 0, none⟩ = some (.slice (some ⟨y.r.g, 0, none⟩) y.r.M.length y.r.cap) := cell_new wj _ _ 0 _ rfl
          have HMT := Lib.hid (match_any (some ⟨x.pg, 0, none⟩) (some ⟨y.pg, 0, none⟩) x.pcap y.pcap x.L y.L (wj.alloc (.cells #[.slice (some ⟨y.r.g, 0, none⟩) y.r.M.length y.r.cap, .slice (some ⟨y.pg, 0, none⟩) y.L.length y.pcap] 142)) (own_at (own_below (own_below HPW2.out HBJ.out) hbY)) (own_at (own_below hprow hbY)) (fun e => absurd e hLN) (by omega) (by omega))
          have HRX := Lib.hid (own_below (own_below HRW2.out HBJ.out) hbY)
          have HRY := Lib.hid (own_below hrow hbY)
          have HYB := Lib.hid hbY
          have HG1 := Lib.hid g1
          have HFX := Lib.hid (cell_on10 hbY f1)
          have f3 := cell_on10 hbY f1
          have f4 := cell_on10 hbY f2
          have hsY : wj.heap.size < (wj.alloc (.cells #[.slice (some ⟨y.r.g, 0, none⟩) y.r.M.length y.r.cap, .slice (some ⟨y.pg, 0, none⟩) y.L.length y.pcap] 142)).heap.size := by simp
          clear hrow hprow hat hRB2 hh hp hCY hKY hmem hLX hLY hLN g1 hbY f1 f2
          go_wp2_with fail
          refine HMT.out.mono ?_
          rintro e w6 ⟨V, v6, rfl, hV, -, hb6⟩
          have hok : V.2 = hitD w h a b x.r.M y.r.M := by rw [HHM.out, matP_ok hV]
          generalize V.2 = ok at *
          have HB6 := Lib.hid hb6
          have HB7 := Lib.hid (below_on HYB.out hb6)
          have g1 := cell_on10 hb6 HG1.out
          have g2 := cell_on10 hb6 HFX.out
          clear hLBj
          clear hc1 hc2 hb6 hV HMT HHM hLBl f3 f4
          generalize wj.alloc (.cells #[.slice (some ⟨y.r.g, 0, none⟩) y.r.M.length y.r.cap, .slice (some ⟨y.pg, 0, none⟩) y.L.length y.pcap] 142) = wY at *
          obtain ⟨bY, hbY⟩ : ∃ bY, bY = wj.heap.size := ⟨_, rfl⟩
          rw [← hbY] at g1 HG1 ⊢
          clear HG1 HFX hbY
          cases ok
          · have HJ3 := Lib.hid (HJ2.out hok.symm)
            have HBJ2 := Lib.hid (below_on HBJ.out HB7.out)
            clear g1 g2 hok HFD HJ2
            go_wp2_with fail
            go_roundw
            case rel => exact ⟨j + 1, by omega, by go_num, HJ3, HBJ2⟩
            case measure => simp [intOf]; omega
          · have HQ := Lib.hid (HFD.out hok.symm)
            have RR : Hid (DisQ (DisD w h a b K) w1 (.returned (.tuple #[hdr x.r, hdr y.r, .bool true])) w6) := ⟨(x.r.M, y.r.M, true), hdr x.r, hdr y.r, rfl, HD.out _ (by rw [HQ.out]; rfl), own_below HRX.out HB6.out, own_below HRY.out HB6.out, .inr (fun e => hap (by simpa [hdr, Value.ownBlock] using e)), below_on HB3.out (below_on HIJ.out HB7.out)⟩
            have hhy : hdr y.r = .slice (some ⟨y.r.g, 0, none⟩) y.r.M.length y.r.cap := rfl
            have hhr : hdr x.r = .slice (some ⟨x.r.g, 0, none⟩) x.r.M.length x.r.cap := rfl
            rw [hhy, hhr] at RR
            have k1 := cell_regrown g1
            have k2 := cell_regrown g2
            clear hap hok HQ HFD HJ2 hhy hhr
            go_wp2_with fail
            refine wp_region_quiet_below (by kernel_rfl) (by kernel_rfl) ?_
            repeat (first
              | go_big_quiet_step (fail)
              | quiet_step (fail))
            refine wpQuiet_nil ?_
            rintro _ ⟨⟨dq, osq⟩, rfl⟩
            have RR2 := Lib.hid (RR.out.on (below_regrown w6 dq osq))
            clear g1 g2 k1 k2
            go_wp2_with fail
            go_ret3
            exact RR2.out
        · have HT3 := Lib.hid (HT2.out (fun y hy => by
            obtain ⟨k, hk, rfl⟩ := List.getElem_of_mem hy
            exact HJ.out k hk (by omega)))
          have HBJ2 := Lib.hid (below_on HIF.out HBJ.out)
          clear HT2 HF2 HJ hLBl
          go_wp2_with fail
          go_roundw
          case rel => exact ⟨t + 1, by omega, by go_num, HT3, HBJ2⟩
          case measure => simp [intOf]; omega
    · have HN := Lib.hid (HFN.out (fun x hx y hy => by
        obtain ⟨k, hk, rfl⟩ := List.getElem_of_mem hx
        exact HT.out k hk (by have := HLAL.out; omega) y hy))
      have RR : Hid (DisQ (DisD w h a b K) w1 (.returned (.tuple #[.slice none 0 0, .slice none 0 0, .bool false])) wi) := ⟨([], [], false), _, _, rfl, HD.out _ (by rw [HN.out]; rfl), World.ownsRow_nil _ _ _ _, World.ownsRow_nil _ _ _ _, .inl rfl, below_on HB3.out HBI.out⟩
      clear hLAl HT HN
      go_wp2_with fail
      go_ret3
      exact RR.out
end Go.Proofs.Ytncahchhinfneaa

/-! Law10E -/
namespace Go.Proofs.Ytncahchhinfneaa
open Go.RowKit

set_option maxRecDepth 100000 in
set_option maxHeartbeats 4000000 in
theorem ex_dissect (w h a b K : Int) (W : World) : Calls Try.prog 9 #[.int .i64 w, .int .i64 h, .int .i64 a, .int .i64 b, .int .i64 K] W fun e w' => e = .returned (.bool true) ∧ Below W.heap.size W w' := by
  have HS := Lib.hid (fun W => spec_dissect w h a b K W)
  have HI := Lib.hid (fun W => impl_dissect w h a b K W)
  go_enter Try.func9, Try.ntmps9
  go_wp2_with fail
  refine (HS.out _).mono ?_
  rintro e w1 ⟨⟨L, M, y⟩, v1, v2, rfl, hV, s1, s2, -, hb1⟩
  simp only at s1 s2
  have HV := Lib.hid hV
  have HL : Hid (L.length ≤ 9) := hV.le1
  have HM : Hid (M.length ≤ 9) := hV.le2
  clear hV
  have b1 := hb1
  clear hb1
  obtain ⟨_, A1, c1, rfl, -⟩ := own_ints s1
  obtain ⟨_, A2, c2, rfl, -⟩ := own_ints s2
  go_wp2_with fail
  refine (HI.out _).mono ?_
  rintro e w2 ⟨⟨L', M', y'⟩, v31, v32, rfl, hV', p1, p2, ap_p1_p2, hb2⟩
  simp only at p1 p2
  have hq := HV.out.uniq hV'
  simp only [Prod.mk.injEq] at hq
  obtain ⟨rfl, rfl, rfl⟩ := hq
  clear hV'
  have ap_p2_p1 : v32.ownBlock = none ∨ v32.ownBlock ≠ v31.ownBlock := by
    rcases ap_p1_p2 with h | h
    · cases h2 : v32.ownBlock
      · exact .inl rfl
      · exact .inr (by rw [h]; simp)
    · exact .inr (Ne.symm h)
  have ap_s1_p1 := own_apart_g s1 (Nat.le_refl _) p1
  have ap_p1_s1 := own_apart_g' s1 (Nat.le_refl _) p1
  have ap_s2_p1 := own_apart_g s2 (Nat.le_refl _) p1
  have ap_p1_s2 := own_apart_g' s2 (Nat.le_refl _) p1
  have ap_s1_p2 := own_apart_g s1 (Nat.le_refl _) p2
  have ap_p2_s1 := own_apart_g' s1 (Nat.le_refl _) p2
  have ap_s2_p2 := own_apart_g s2 (Nat.le_refl _) p2
  have ap_p2_s2 := own_apart_g' s2 (Nat.le_refl _) p2
  have b2 := below_on b1 hb2
  replace s1 := own_below s1 hb2
  replace s2 := own_below s2 hb2
  replace p1 := own_base p1 b1.size
  replace p2 := own_base p2 b1.size
  clear hb2 b1
  obtain ⟨_, B31, d31, rfl, -⟩ := own_ints p1
  obtain ⟨_, B32, d32, rfl, -⟩ := own_ints p2
  go_wp2_with fail
  refine (eq_ints _ _ _ _ L _ (intsA_of p1) (intsA_of s1) (by have := HL.out; omega)).mono ?_
  rintro e w3 ⟨rfl, hb3⟩
  have b3 := below_on b2 hb3
  replace s1 := own_below s1 hb3
  replace s2 := own_below s2 hb3
  replace p1 := own_below p1 hb3
  replace p2 := own_below p2 hb3
  clear hb3 b2
  go_wp2_with fail
  refine (eq_ints _ _ _ _ M _ (intsA_of p2) (intsA_of s2) (by have := HM.out; omega)).mono ?_
  rintro e w4 ⟨rfl, hb4⟩
  have b4 := below_on b3 hb4
  replace s1 := own_below s1 hb4
  replace s2 := own_below s2 hb4
  replace p1 := own_below p1 hb4
  replace p2 := own_below p2 hb4
  clear hb4 b3
  go_wp2_with fail
  refine (markS_ints _ _ _ _ (1) _ p1 (by have := HL.out; omega) (by omega) (by have := HL.out; have := HM.out; omega)).mono ?_
  rintro e w5 ⟨rfl, m1, hg5⟩
  have b5 := b4.grown hg5 b4.size (fun k hk => (p1.lt k hk).1)
  replace s1 := s1.kept hg5 ap_s1_p1
  replace s2 := s2.kept hg5 ap_s2_p1
  replace p2 := p2.kept hg5 ap_p2_p1
  clear hg5 b4 p1
  have ap_s2_m1 := ap_s2_p1
  clear ap_s2_p1
  have ap_s1_m1 := ap_s1_p1
  clear ap_s1_p1
  have ap_m1_s1 := ap_p1_s1
  clear ap_p1_s1
  have ap_m1_p2 := ap_p1_p2
  clear ap_p1_p2
  have ap_m1_s2 := ap_p1_s2
  clear ap_p1_s2
  have ap_p2_m1 := ap_p2_p1
  clear ap_p2_p1
  go_wp2_with fail
  refine (markS_ints _ _ _ _ (1 + (L.length : Int)) _ p2 (by have := HM.out; omega) (by omega) (by have := HL.out; have := HM.out; omega)).mono ?_
  rintro e w6 ⟨rfl, m2, hg6⟩
  have b6 := b5.grown hg6 b5.size (fun k hk => (p2.lt k hk).1)
  replace s1 := s1.kept hg6 ap_s1_p2
  replace s2 := s2.kept hg6 ap_s2_p2
  replace m1 := m1.kept hg6 ap_m1_p2
  clear hg6 b5 p2
  have ap_m2_s2 := ap_p2_s2
  clear ap_p2_s2
  have ap_m2_s1 := ap_p2_s1
  clear ap_p2_s1
  have ap_s2_m2 := ap_s2_p2
  clear ap_s2_p2
  have ap_m1_m2 := ap_m1_p2
  clear ap_m1_p2
  have ap_s1_m2 := ap_s1_p2
  clear ap_s1_p2
  have ap_m2_m1 := ap_p2_m1
  clear ap_p2_m1
  go_wp2_with fail
  have hn1 : ¬ (1 + (L.length : Int) < 0) := by omega
  have hn2 : ¬ (1 + (L.length : Int) + (M.length : Int) < 0) := by omega
  refine (heldS_ints _ _ _ (1) _ m1 (by have := HL.out; omega) (by omega) (by have := HL.out; have := HM.out; omega)).mono ?_
  rintro e w7 ⟨rfl, rfl⟩
  go_wp2_with fail
  refine (heldS_ints _ _ _ (1 + (L.length : Int)) _ m2 (by have := HM.out; omega) (by omega) (by have := HL.out; have := HM.out; omega)).mono ?_
  rintro e w8 ⟨rfl, rfl⟩
  go_wp2_with fail
  refine (HI.out _).mono ?_
  rintro e w9 ⟨⟨L', M', y'⟩, v51, v52, rfl, hV', q1, q2, ap_q1_q2, hb9⟩
  simp only at q1 q2
  have hq := HV.out.uniq hV'
  simp only [Prod.mk.injEq] at hq
  obtain ⟨rfl, rfl, rfl⟩ := hq
  clear hV'
  have ap_q2_q1 : v52.ownBlock = none ∨ v52.ownBlock ≠ v51.ownBlock := by
    rcases ap_q1_q2 with h | h
    · cases h2 : v52.ownBlock
      · exact .inl rfl
      · exact .inr (by rw [h]; simp)
    · exact .inr (Ne.symm h)
  have ap_s1_q1 := own_apart_g s1 (Nat.le_refl _) q1
  have ap_q1_s1 := own_apart_g' s1 (Nat.le_refl _) q1
  have ap_s2_q1 := own_apart_g s2 (Nat.le_refl _) q1
  have ap_q1_s2 := own_apart_g' s2 (Nat.le_refl _) q1
  have ap_m1_q1 := own_apart_g m1 (Nat.le_refl _) q1
  have ap_q1_m1 := own_apart_g' m1 (Nat.le_refl _) q1
  have ap_m2_q1 := own_apart_g m2 (Nat.le_refl _) q1
  have ap_q1_m2 := own_apart_g' m2 (Nat.le_refl _) q1
  have ap_s1_q2 := own_apart_g s1 (Nat.le_refl _) q2
  have ap_q2_s1 := own_apart_g' s1 (Nat.le_refl _) q2
  have ap_s2_q2 := own_apart_g s2 (Nat.le_refl _) q2
  have ap_q2_s2 := own_apart_g' s2 (Nat.le_refl _) q2
  have ap_m1_q2 := own_apart_g m1 (Nat.le_refl _) q2
  have ap_q2_m1 := own_apart_g' m1 (Nat.le_refl _) q2
  have ap_m2_q2 := own_apart_g m2 (Nat.le_refl _) q2
  have ap_q2_m2 := own_apart_g' m2 (Nat.le_refl _) q2
  have b9 := below_on b6 hb9
  replace s1 := own_below s1 hb9
  replace s2 := own_below s2 hb9
  replace m1 := own_below m1 hb9
  replace m2 := own_below m2 hb9
  replace q1 := own_base q1 b6.size
  replace q2 := own_base q2 b6.size
  clear hb9 b6
  obtain ⟨_, B51, d51, rfl, -⟩ := own_ints q1
  obtain ⟨_, B52, d52, rfl, -⟩ := own_ints q2
  go_wp2_with fail
  refine (eq_ints _ _ _ _ L _ (intsA_of q1) (intsA_of s1) (by have := HL.out; omega)).mono ?_
  rintro e w10 ⟨rfl, hb10⟩
  have b10 := below_on b9 hb10
  replace s1 := own_below s1 hb10
  replace s2 := own_below s2 hb10
  replace m1 := own_below m1 hb10
  replace m2 := own_below m2 hb10
  replace q1 := own_below q1 hb10
  replace q2 := own_below q2 hb10
  clear hb10 b9
  go_wp2_with fail
  refine (eq_ints _ _ _ _ M _ (intsA_of q2) (intsA_of s2) (by have := HM.out; omega)).mono ?_
  rintro e w11 ⟨rfl, hb11⟩
  have b11 := below_on b10 hb11
  replace s1 := own_below s1 hb11
  replace s2 := own_below s2 hb11
  replace m1 := own_below m1 hb11
  replace m2 := own_below m2 hb11
  replace q1 := own_below q1 hb11
  replace q2 := own_below q2 hb11
  clear hb11 b10
  go_wp2_with fail
  refine (heldS_ints _ _ _ (1) _ m1 (by have := HL.out; omega) (by omega) (by have := HL.out; have := HM.out; omega)).mono ?_
  rintro e w12 ⟨rfl, rfl⟩
  go_wp2_with fail
  refine (heldS_ints _ _ _ (1 + (L.length : Int)) _ m2 (by have := HM.out; omega) (by omega) (by have := HL.out; have := HM.out; omega)).mono ?_
  rintro e w13 ⟨rfl, rfl⟩
  go_wp2_with fail
  go_ret
  exact ⟨rfl, b11⟩
end Go.Proofs.Ytncahchhinfneaa

/-! FewS10 -/
namespace Go.Proofs.Ytncahchhinfneaa
open Go.RowKit

/-- The least number of pieces, or -1. -/
structure FewP (w h a b v : Int) : Prop where
  out : (v = -1 ∧ ∀ (k : Nat) V, 1 ≤ k → k ≤ 7 → DisD w h a b k V → V.2.2 = false) ∨ ∃ k : Nat, v = k ∧ 1 ≤ k ∧ k ≤ 7 ∧ (∀ V, DisD w h a b k V → V.2.2 = true) ∧ ∀ (j : Nat) V, 1 ≤ j → j < k → DisD w h a b j V → V.2.2 = false
theorem disD_ex (w h a b K : Int) : ∃ V, DisD w h a b K V := by
  obtain ⟨wa, ha⟩ := isWh_ex w h a
  obtain ⟨wb, hb⟩ := isWh_ex w h b
  by_cases h7 : seven w h a = true ∧ seven w h b = true
  · exact ⟨_, disD_of ha hb h7 rfl⟩
  · exact ⟨_, disD_no fun wa wb _ _ => by rw [if_neg h7]⟩
theorem FewP.uniq {w h a b v v' : Int} (h1 : FewP w h a b v) (h2 : FewP w h a b v') : v = v' := by
  have key : ∀ (k : Nat), 1 ≤ k → k ≤ 7 → (∀ V, DisD w h a b k V → V.2.2 = true) → (∀ V, DisD w h a b k V → V.2.2 = false) → False := fun k _ _ ht hf => by
    obtain ⟨V, hV⟩ := disD_ex w h a b k
    have := ht V hV
    rw [hf V hV] at this
    cases this
  rcases h1.out with ⟨rfl, n1⟩ | ⟨k, rfl, a1, a2, a3, a4⟩ <;> rcases h2.out with ⟨rfl, n2⟩ | ⟨j, rfl, b1, b2, b3, b4⟩
  · rfl
  · exact (key j b1 b2 b3 fun V => n1 j V b1 b2).elim
  · exact (key k a1 a2 a3 fun V => n2 k V a1 a2).elim
  · rcases Nat.lt_trichotomy k j with q | q | q
    · exact (key k a1 a2 a3 fun V => b4 k V a1 q).elim
    · rw [q]
    · exact (key j b1 b2 b3 fun V => a4 j V b1 q).elim
set_option maxRecDepth 100000 in
set_option maxHeartbeats 4000000 in
theorem impl_few (w h a b : Int) (W : World) : Calls Try.prog 65 #[.int .i64 w, .int .i64 h, .int .i64 a, .int .i64 b] W fun e w' => ∃ v, e = .returned (.int .i64 v) ∧ FewP w h a b v ∧ Below W.heap.size W w' := by
  have HD := Lib.hid (fun K W => impl_dissect w h a b K W)
  have HU : Hid (∀ (K : Int) V V', DisD w h a b K V → DisD w h a b K V' → V = V') := fun K V V' => DisD.uniq
  have HR : Hid (∀ v w', FewP w h a b v → Below W.heap.size W w' → ∃ u, Ending.returned (.int .i64 v) = .returned (.int .i64 u) ∧ FewP w h a b u ∧ Below W.heap.size W w') := fun v w' h1 h2 => ⟨v, rfl, h1, h2⟩
  go_enter Try.func65, Try.ntmps65
  go_wp2_with fail
  go_loopw [9, 10, 11, 12] (fun i _ _ _ wr => ∃ k : Nat, 1 ≤ k ∧ k ≤ 8 ∧ i = .int .i64 k ∧ Hid (∀ (j : Nat) V, 1 ≤ j → j < k → DisD w h a b j V → V.2.2 = false) ∧ Hid (Below W.heap.size W wr)) (fun i _ _ _ _ => 8 - (intOf i).toNat)
  case atStart => exact ⟨1, by omega, by omega, rfl, fun j V h1 h2 => by omega, Below.refl _ _⟩
  case round =>
    obtain ⟨wi, rfl⟩ : ∃ wi : World, wi = wr := ⟨_, rfl⟩
    obtain ⟨k, hk1, hk8, rfl, HJ, HBW⟩ := hrel
    by_cases hk : k ≤ 7
    · have HC := Lib.hid (HD.out k wi)
      go_wp2_with fail
      refine HC.out.mono ?_
      rintro e w1 ⟨⟨L, M, y⟩, v1, v2, rfl, hV, -, -, -, hb1⟩
      have HB1 := Lib.hid (below_on HBW.out hb1)
      have HV := Lib.hid hV
      clear hV hb1 HC
      cases y
      · have HJ2 : Hid (∀ (j : Nat) V, 1 ≤ j → j < k + 1 → DisD w h a b j V → V.2.2 = false) := fun j V h1 h2 hD => by
          rcases Nat.lt_or_ge j k with q | q
          · exact HJ.out j V h1 q hD
          · obtain rfl : k = j := by omega
            rw [HU.out _ _ _ hD HV.out]
        clear HJ HV
        go_wp2_with fail
        go_roundw
        case rel => exact ⟨k + 1, by omega, by omega, by go_num, HJ2, HB1⟩
        case measure => simp [intOf]; omega
      · have R := Lib.hid (HR.out k w1 ⟨.inr ⟨k, rfl, hk1, hk, fun V hD => by rw [HU.out _ _ _ hD HV.out], HJ.out⟩⟩ HB1.out)
        clear HJ HV
        go_wp2_with fail
        go_ret
        exact R.out
    · have R := Lib.hid (HR.out (-1) wi ⟨.inl ⟨rfl, fun j V h1 h2 => HJ.out j V h1 (by omega)⟩⟩ HBW.out)
      clear HJ
      go_wp2_with fail
      go_ret
      exact R.out
theorem fewP_no {w h a b : Int} (h1 : ∀ K : Int, DisD w h a b K ([], [], false)) : FewP w h a b (-1) := ⟨.inl ⟨rfl, fun k V _ _ hD => by rw [hD.uniq (h1 k)]⟩⟩
set_option maxRecDepth 100000 in
set_option maxHeartbeats 4000000 in
theorem spec_few (w h a b : Int) (W : World) : Calls Try.prog 64 #[.int .i64 w, .int .i64 h, .int .i64 a, .int .i64 b] W fun e w' => ∃ v, e = .returned (.int .i64 v) ∧ FewP w h a b v ∧ Below W.heap.size W w' := by
  have H1 := Lib.hid (fun W => sevenS_any w h a W)
  have H2 := Lib.hid (fun W => sevenS_any w h b W)
  have HR : Hid (∀ v w', FewP w h a b v → Below W.heap.size W w' → ∃ u, Ending.returned (.int .i64 v) = .returned (.int .i64 u) ∧ FewP w h a b u ∧ Below W.heap.size W w') := fun v w' h1 h2 => ⟨v, rfl, h1, h2⟩
  cases h7a : seven w h a
  · have R := Lib.hid (HR.out (-1) W (fewP_no fun K => disD_no fun wa wb _ _ => by rw [if_neg (by simp [h7a])]) (Below.refl _ _))
    rw [h7a] at H1
    clear h7a HR H2
    go_enter Try.func64, Try.ntmps64
    go_wp2_with fail
    refine (H1.out _).mono ?_
    rintro e w1 ⟨rfl, rfl⟩
    go_wp2_with fail
    go_ret
    exact R.out
  cases h7b : seven w h b
  · have R := Lib.hid (HR.out (-1) W (fewP_no fun K => disD_no fun wa wb _ _ => by rw [if_neg (by simp [h7b])]) (Below.refl _ _))
    rw [h7a] at H1
    rw [h7b] at H2
    clear h7a h7b HR
    go_enter Try.func64, Try.ntmps64
    go_wp2_with fail
    refine (H1.out _).mono ?_
    rintro e w1 ⟨rfl, rfl⟩
    go_wp2_with fail
    refine (H2.out _).mono ?_
    rintro e w1 ⟨rfl, rfl⟩
    go_wp2_with fail
    go_ret
    exact R.out
  obtain ⟨m, rfl, hm, p1, p7⟩ := seven_nat h7a
  obtain ⟨n, rfl, hn, q1, q7⟩ := seven_nat h7b
  have O1 := Lib.hid (fun W => ones_any m W hm)
  have O2 := Lib.hid (fun W => ones_any n W hn)
  rw [h7a] at H1
  rw [h7b] at H2
  by_cases hpc : pc 64 m = pc 64 n
  case neg =>
    have R := Lib.hid (HR.out (-1) W (fewP_no fun K => disD_apart (by simpa using hpc)) (Below.refl _ _))
    have hne : ((pc 64 m : Int) != (pc 64 n : Int)) = true := by rw [bne_iff_ne]; omega
    clear HR h7a h7b hm hn
    generalize pc 64 m = pm at *
    generalize pc 64 n = pn at *
    clear hpc
    go_enter Try.func64, Try.ntmps64
    go_wp2_with fail
    refine (H1.out _).mono ?_
    rintro e w1 ⟨rfl, rfl⟩
    go_wp2_with fail
    refine (H2.out _).mono ?_
    rintro e w1 ⟨rfl, rfl⟩
    go_wp2_with fail
    refine (O1.out _).mono ?_
    rintro e w1 ⟨rfl, rfl⟩
    go_wp2_with fail
    refine (O2.out _).mono ?_
    rintro e w1 ⟨rfl, rfl⟩
    go_wp2_with fail
    go_ret
    exact R.out
  have hne : ((pc 64 m : Int) != (pc 64 m : Int)) = false := by simp
  rw [← hpc] at O2
  obtain ⟨wa, ha⟩ := isWh_ex w h m
  obtain ⟨wb, hb⟩ := isWh_ex w h n
  have HF : Hid (∀ k : Nat, k ≤ 9 → ∀ W, Calls Try.prog 131 #[.int .i64 w, .int .i64 h, .int .i64 m, .int .i64 n, .int .i64 k] W (DisQ (DisD w h m n k) W)) := fun k hk W => (findS_any w h m n k wa wb ha hb (seven_ok h7a) (seven_ok h7b) hk W).mono fun e w' ⟨V, v1, v2, he, hV, r⟩ => ⟨V, v1, v2, he, disD_of ha hb ⟨h7a, h7b⟩ hV, r⟩
  have HU : Hid (∀ (K : Int) V V', DisD w h m n K V → DisD w h m n K V' → V = V') := fun K V V' => DisD.uniq
  have HMO : Hid (∀ j : Nat, pc 64 m < j → DisD w h m n j ([], [], false)) := fun j hj => disD_few h7a (by
    have : ¬ ((j : Int) ≤ (pc 64 m : Int)) := by omega
    simp [inB, this])
  clear h7a h7b hm hn hpc ha hb
  generalize pc 64 m = pm at *
  go_enter Try.func64, Try.ntmps64
  go_wp2_with fail
  refine (H1.out _).mono ?_
  rintro e w1 ⟨rfl, rfl⟩
  go_wp2_with fail
  refine (H2.out _).mono ?_
  rintro e w1 ⟨rfl, rfl⟩
  go_wp2_with fail
  refine (O1.out _).mono ?_
  rintro e w1 ⟨rfl, rfl⟩
  go_wp2_with fail
  refine (O2.out _).mono ?_
  rintro e w1 ⟨rfl, rfl⟩
  go_wp2_with fail
  go_loopw [9, 10, 11, 12] (fun i _ _ _ wr => ∃ k : Nat, 1 ≤ k ∧ k ≤ pm + 1 ∧ i = .int .i64 k ∧ Hid (∀ (j : Nat) V, 1 ≤ j → j < k → DisD w h m n j V → V.2.2 = false) ∧ Hid (Below w1.heap.size w1 wr)) (fun i _ _ _ _ => pm + 1 - (intOf i).toNat)
  case atStart => exact ⟨1, by omega, by omega, rfl, fun j V h1 h2 => by omega, Below.refl _ _⟩
  case round =>
    obtain ⟨wi, rfl⟩ : ∃ wi : World, wi = wr := ⟨_, rfl⟩
    obtain ⟨k, hk1, hk8, rfl, HJ, HBW⟩ := hrel
    have HO3 := Lib.hid (O1.out wi)
    go_wp2_with fail
    refine HO3.out.mono ?_
    rintro e w9 ⟨rfl, rfl⟩
    clear HO3
    by_cases hk : k ≤ pm
    · have HC := Lib.hid (HF.out k (by omega) w9)
      go_wp2_with fail
      refine HC.out.mono ?_
      rintro e w2 ⟨⟨L, M, y⟩, v1, v2, rfl, hV, -, -, -, hb1⟩
      have HB1 := Lib.hid (below_on HBW.out hb1)
      have HV := Lib.hid hV
      clear hV hb1 HC
      cases y
      · have HJ2 : Hid (∀ (j : Nat) V, 1 ≤ j → j < k + 1 → DisD w h m n j V → V.2.2 = false) := fun j V h1 h2 hD => by
          rcases Nat.lt_or_ge j k with q | q
          · exact HJ.out j V h1 q hD
          · obtain rfl : k = j := by omega
            rw [HU.out _ _ _ hD HV.out]
        clear HJ HV
        go_wp2_with fail
        go_roundw
        case rel => exact ⟨k + 1, by omega, by omega, by go_num, HJ2, HB1⟩
        case measure => simp [intOf]; omega
      · have R := Lib.hid (HR.out k w2 ⟨.inr ⟨k, rfl, hk1, by omega, fun V hD => by rw [HU.out _ _ _ hD HV.out], HJ.out⟩⟩ HB1.out)
        clear HJ HV
        go_wp2_with fail
        go_ret
        exact R.out
    · have R := Lib.hid (HR.out (-1) w9 ⟨.inl ⟨rfl, fun j V h1 h2 hD => by
        rcases Nat.lt_or_ge j k with q | q
        · exact HJ.out j V h1 q hD
        · rw [HU.out _ _ _ hD (HMO.out j (by omega))]⟩⟩ HBW.out)
      clear HJ
      go_wp2_with fail
      go_ret
      exact R.out
end Go.Proofs.Ytncahchhinfneaa

/-! Law10G -/
namespace Go.Proofs.Ytncahchhinfneaa
open Go.RowKit

set_option maxRecDepth 100000 in
set_option maxHeartbeats 1000000 in
theorem ex_few (w h a b : Int) (W : World) : Calls Try.prog 10 #[.int .i64 w, .int .i64 h, .int .i64 a, .int .i64 b] W fun e w' => e = .returned (.bool true) ∧ Below W.heap.size W w' := by
  have HS := Lib.hid (spec_few w h a b)
  have HI := Lib.hid (impl_few w h a b)
  go_enter Try.func10, Try.ntmps10
  go_wp2_with fail
  refine (HS.out _).mono ?_
  rintro e w1 ⟨v, rfl, hv, hb1⟩
  have HV := Lib.hid hv
  have HB1 := Lib.hid hb1
  clear hv hb1
  go_wp2_with fail
  refine (HI.out _).mono ?_
  rintro e w2 ⟨v', rfl, hv', hb2⟩
  obtain rfl := HV.out.uniq hv'
  have HB2 := Lib.hid (below_on HB1.out hb2)
  clear hv' hb2
  go_wp2_with fail
  go_ret
  exact ⟨rfl, HB2.out⟩
end Go.Proofs.Ytncahchhinfneaa
