/-
  Walks and facts of this seat, part La (merged by a script of this repo out of smaller texts).
-/
import Derived.Test.YtbmeemmihkedoaaKe
import Derived.Deep.Matrix
import Derived.Laws.MakeOwn
/-! ArgSS -/
namespace Go.Proofs.Ytbmeemmihkedoaa
open Go.RowKit

/-- The cells of a slice of ints that came in, wherever it lies. -/
def ArgI (w : World) (A : Option Addr) (M : List Int) : Prop := ∀ k (h : k < M.length), ∃ a : Addr, A = some a ∧ a.block < w.heap.size ∧ w.cell? (a.add k) = some (.int .i64 M[k])
theorem ArgI.step {w w' : World} {A : Option Addr} {M : List Int} (h : ArgI w A M) (hb : Below w.heap.size w w') : ArgI w' A M := fun k hk => by
  obtain ⟨a, hA, hl, h1⟩ := h k hk
  exact ⟨a, hA, Nat.lt_of_lt_of_le hl hb.size, cell_on hb rfl h1⟩
/-- A slice of such slices. -/
def ArgSS (w : World) (A : Option Addr) (Ms : List (List Int)) : Prop := ∀ k (h : k < Ms.length), ∃ (a : Addr) (Ak : Option Addr) (ck : Nat), A = some a ∧ a.block < w.heap.size ∧ w.cell? (a.add k) = some (.slice Ak (Ms[k]).length ck) ∧ (Ms[k]).length ≤ maxLen ∧ ArgI w Ak Ms[k]
theorem ArgSS.step {w w' : World} {A : Option Addr} {Ms : List (List Int)} (h : ArgSS w A Ms) (hb : Below w.heap.size w w') : ArgSS w' A Ms := fun k hk => by
  obtain ⟨a, Ak, ck, hA, hl, h1, h2, h3⟩ := h k hk
  exact ⟨a, Ak, ck, hA, Nat.lt_of_lt_of_le hl hb.size, cell_on hb rfl h1, h2, h3.step hb⟩
theorem view_intss {H : Type} {enc : TypeId × Value → H} {P : Program} {W : World} {t e q : TypeId} {fuel : Nat} {A : Option Addr} {n c : Nat} {x : DataW H × List MemPlace}
    (ht : P.underlying t = some (.slice e)) (he : P.underlying e = some (.slice q)) (hq : P.underlying q = some (.int .i64)) (ce : P.cellsOf e = 1) (cq : P.cellsOf q = 1)
    (h : DataW.trod enc P W 0 (fun _ => true) true fuel t [.slice A n c] = some x) : ∃ Ms : List (List Int), n = Ms.length ∧ ArgSS W A Ms ∧ Ms.length ≤ maxLen ∧ ∀ M ∈ Ms, ∀ z ∈ M, (Lit.int .i64 z).wf = true := by
  rcases Go.Deep.open_int_rows ht he hq ce cq h with ⟨h1, _⟩ | ⟨a, len, cap, A', L, C, Z, h1, _, hlc, hcm, _, hcell⟩
  · simp only [List.cons.injEq, Value.slice.injEq, and_true] at h1
    obtain ⟨rfl, rfl, rfl⟩ := h1
    exact ⟨[], rfl, fun k hk => absurd hk (by simp), by simp, fun M hM => by cases hM⟩
  · simp only [List.cons.injEq, Value.slice.injEq, and_true] at h1
    obtain ⟨rfl, rfl, rfl⟩ := h1
    refine ⟨(List.range n).map fun r => (Z r).take (L r), by simp, fun k hk => ?_, by simp; omega, ?_⟩
    · have hk' : k < n := by simpa using hk
      obtain ⟨g1, g2, g3, g4, g5, g6, g7⟩ := hcell k (by omega)
      have hb := World.block_lt_of_cell? W _ g1
      have hbl : (a.add k).block = a.block := by unfold Addr.add; split <;> rfl
      rw [hbl] at hb
      have hl : ((Z k).take (L k)).length = L k := by rw [List.length_take]; omega
      have hget : ((List.range n).map fun r => (Z r).take (L r))[k] = (Z k).take (L k) := by simp
      rw [hget]
      refine ⟨a, A' k, C k, rfl, hb, by rw [hl]; exact g1, by rw [hl]; omega, fun j hj => ?_⟩
      rw [hl] at hj
      cases hA : A' k with
      | none => have := g6 hA; omega
      | some a' =>
        have q1 := (g7 a' hA).2 j (by omega)
        have hb2 := World.block_lt_of_cell? W _ q1
        have hbl2 : (a'.add j).block = a'.block := by unfold Addr.add; split <;> rfl
        rw [hbl2] at hb2
        refine ⟨a', rfl, hb2, ?_⟩
        rw [q1]
        simp [show j < (Z k).length by omega]
    · intro M hM z hz
      obtain ⟨r, hr, rfl⟩ := List.mem_map.1 hM
      obtain ⟨g1, g2, g3, g4, g5, g6, g7⟩ := hcell r (by have := List.mem_range.1 hr; omega)
      exact g5 z (List.mem_of_mem_take hz)
theorem infoN : (Try.prog.info? 3).map (fun i => (i.zero, i.size, i.bytes)) = some (some (.int .i64 0), 1, 8) := by kernel_rfl
theorem infoRow : (Try.prog.info? 24).map (fun i => (i.zero, i.size, i.bytes)) = some (some (.slice none 0 0), 1, 24) := by kernel_rfl
theorem ints_set {M : List Int} {zs : List Value} (hz : zs.length = M.length) (k : Nat) (hk : k < M.length) : (ints (M.take k) ++ zs.drop k).set k (.int .i64 M[k]) = ints (M.take (k + 1)) ++ zs.drop (k + 1) := by
  have h1 : (ints (M.take k)).length = k := by rw [ints_len, List.length_take]; omega
  have h2 : (zs.drop k).set 0 (.int .i64 M[k]) = .int .i64 M[k] :: zs.drop (k + 1) := by
    rw [List.drop_eq_getElem_cons (by omega)]; rfl
  rw [List.set_append_right _ _ (by omega), h1, Nat.sub_self, h2, List.take_succ_eq_append_getElem hk, ints_snoc, List.append_assoc]
  rfl
set_option maxRecDepth 100000 in
set_option maxHeartbeats 1600000 in
theorem toI_any (A : Option Addr) (c : Nat) (M : List Int) (w : World) (hA : ArgI w A M) (hL : M.length ≤ 1048576) :
    Calls Try.prog 90 #[.slice A M.length c] w fun e w' => e = .returned (.slice (some ⟨w.heap.size, 0, none⟩) M.length M.length) ∧ w'.ownsRow w.heap.size 3 1 (.slice (some ⟨w.heap.size, 0, none⟩) M.length M.length) M.length (ints M) ∧ Below w.heap.size w w' := by
  obtain ⟨i0, hi0, hz0, hz1, hz2⟩ := info_parts infoN
  have hmk : ∀ w, (Instr.makeSlice 24 (.int .i64 (M.length : Int)) (.int .i64 (M.length : Int))).run Try.prog w = .ok (.slice (some ⟨w.heap.size, 0, none⟩) M.length M.length) (w.alloc (.cells (madeCells #[.int .i64 0] M.length) 3)) := fun w => by
    have h := run_make (P := Try.prog) w 24 3 i0 _ Try.underlying24 hi0 hz0 .i64 .i64 (M.length : Int) (M.length : Int) (by omega) (Int.le_refl _) (by rw [hz2]; omega) (by omega)
    rw [hz1] at h
    simpa [Value.cells, Nat.mul_one] using h
  have hown := World.ownsRow_lit (base := w.heap.size) (e := 3) (size := 1) w (madeCells #[.int .i64 0] M.length) M.length (Nat.le_refl _) (by unfold maxLen; omega) ((size_madeCells _ _).trans (Nat.mul_one _).symm)
  have hzl : (madeCells #[.int .i64 0] M.length).toList.length = M.length := by rw [Array.length_toList, size_madeCells]
  have hb0 := below1 w (.cells (madeCells #[.int .i64 0] M.length) 3)
  have HA := Lib.hid hA; clear hA
  go_enter Try.func90, Try.ntmps90
  go_wp2_with fail
  generalize (madeCells #[.int .i64 0] M.length).toList = zs at *
  generalize w.alloc (.cells (madeCells #[.int .i64 0] M.length) 3) = w1 at *
  clear hmk
  go_loopw [4] (fun i wr => ∃ k : Nat, k ≤ M.length ∧ i = .int .i64 k ∧ wr.ownsRow w.heap.size 3 1 (.slice (some ⟨w.heap.size, 0, none⟩) M.length M.length) M.length (ints (M.take k) ++ zs.drop k) ∧ Below w.heap.size w wr) (fun i _ => M.length - (intOf i).toNat)
  case atStart => exact ⟨0, Nat.zero_le _, rfl, by simpa [ints] using hown, hb0⟩
  case round =>
    obtain ⟨wo, rfl⟩ : ∃ wo : World, wo = wr := ⟨_, rfl⟩
    clear hown
    obtain ⟨k, hk, rfl, hown, hb⟩ := hrel
    by_cases hlt : k < M.length
    · obtain ⟨a, rfl, hl, h1⟩ := HA.out k hlt
      have c1 := cell_on hb rfl h1
      have hs := ints_set hzl k hlt
      obtain ⟨x, hx⟩ : ∃ x, x = M[k] := ⟨_, rfl⟩
      rw [← hx] at c1 hs
      have HS := Lib.hid hs
      clear hs h1 hx
      obtain ⟨u1, d1⟩ := cell_some1 hown k hlt
      have f1 := hown.frozenAt k
      have own3 := (hown.stored k (.int .i64 x)).1
      rw [HS.out] at own3
      have b4 := hb.setCell (p := ⟨w.heap.size, k, none⟩) (Nat.le_refl _) (.int .i64 x)
      have R := Lib.hid (And.intro own3 b4)
      clear own3 b4
      go_wp2_with fail
      go_roundw
      case rel => exact ⟨k + 1, by omega, by go_num, R.out.1, R.out.2⟩
      case measure => simp [intOf]; omega
    · obtain rfl : k = M.length := by omega
      rw [List.drop_of_length_le (by omega), List.take_of_length_le (Nat.le_refl _), List.append_nil] at hown
      have R := Lib.hid hown
      clear hown
      go_wp2_with fail
      go_ret
      exact ⟨rfl, R.out, hb⟩
theorem hdrs_set {Qs : List Rw} {r : Rw} {zs : List Value} {n k : Nat} (hz : zs.length = n) (hq : Qs.length = k) (hk : k < n) : (Qs.map hdr ++ zs.drop k).set k (hdr r) = (Qs ++ [r]).map hdr ++ zs.drop (k + 1) := by
  have h1 : (Qs.map hdr).length = k := by rw [List.length_map, hq]
  have h2 : (zs.drop k).set 0 (hdr r) = hdr r :: zs.drop (k + 1) := by
    rw [List.drop_eq_getElem_cons (by omega)]; rfl
  rw [List.set_append_right _ _ (by omega), h1, Nat.sub_self, h2, List.map_append, List.append_assoc]
  rfl
/-- Rows that are owned, no two in one block. -/
structure Owned (w : World) (B : Nat) (Rs : List Rw) : Prop where
  row : ∀ r ∈ Rs, w.ownsRow B 3 1 (hdr r) r.M.length (ints r.M)
  nodup : (Rs.map Rw.g).Nodup
theorem Owned.below {w w' : World} {B : Nat} {Rs : List Rw} (h : Owned w B Rs) (hb : Below w.heap.size w w') : Owned w' B Rs := ⟨fun r hr => own_below (h.row r hr) hb, h.nodup⟩
theorem Owned.lt {w : World} {B : Nat} {Rs : List Rw} (h : Owned w B Rs) {r : Rw} (hr : r ∈ Rs) : B ≤ r.g ∧ r.g < w.heap.size := (h.row r hr).lt r.g rfl
theorem Owned.set {w : World} {B : Nat} {Rs : List Rw} (h : Owned w B Rs) (g j : Nat) (u : Value) (hg : g < B) : Owned (w.setCell ⟨g, j, none⟩ u) B Rs :=
  ⟨fun r hr => (h.row r hr).kept (only_set (World.grownBy.refl w (some g)) j u) (.inr (fun e => by
    have e2 : r.g = g := Option.some.inj (by rw [← e, hdr_own])
    have := (h.lt hr).1; omega)), h.nodup⟩
theorem Owned.snoc {w w' : World} {B : Nat} {Rs : List Rw} {r : Rw} (h : Owned w B Rs) (hb : Below w.heap.size w w') (hr : w'.ownsRow B 3 1 (hdr r) r.M.length (ints r.M)) (hlo : w.heap.size ≤ r.g) : Owned w' B (Rs ++ [r]) := by
  refine ⟨fun x hx => ?_, ?_⟩
  · rcases List.mem_append.1 hx with hx | hx
    · exact own_below (h.row x hx) hb
    · rw [List.mem_singleton.1 hx]; exact hr
  · rw [List.map_append]
    refine List.nodup_append.2 ⟨h.nodup, by simp, ?_⟩
    intro a ha b hb' e
    obtain ⟨x, hx, rfl⟩ := List.mem_map.1 ha
    simp only [List.map_cons, List.map_nil, List.mem_singleton] at hb'
    have := (h.lt hx).2
    omega
set_option maxRecDepth 100000 in
set_option maxHeartbeats 1600000 in
theorem toSS_any (A : Option Addr) (c : Nat) (Ms : List (List Int)) (w : World) (hA : ArgSS w A Ms) (hL : Ms.length ≤ 1048576) (hM : ∀ M ∈ Ms, M.length ≤ 1048576) :
    Calls Try.prog 39 #[.slice A Ms.length c] w fun e w' => ∃ Rs, e = .returned (.slice (some ⟨w.heap.size, 0, none⟩) Ms.length Ms.length) ∧ RowsR w' w.heap.size (.slice (some ⟨w.heap.size, 0, none⟩) Ms.length Ms.length) Rs ∧ Rs.map Rw.M = Ms ∧ Below w.heap.size w w' := by
  obtain ⟨i0, hi0, hz0, hz1, hz2⟩ := info_parts infoRow
  have hmk : ∀ w, (Instr.makeSlice 39 (.int .i64 (Ms.length : Int)) (.int .i64 (Ms.length : Int))).run Try.prog w = .ok (.slice (some ⟨w.heap.size, 0, none⟩) Ms.length Ms.length) (w.alloc (.cells (madeCells #[.slice none 0 0] Ms.length) 24)) := fun w => by
    have h := run_make (P := Try.prog) w 39 24 i0 _ Try.underlying39 hi0 hz0 .i64 .i64 (Ms.length : Int) (Ms.length : Int) (by omega) (Int.le_refl _) (by rw [hz2]; omega) (by omega)
    rw [hz1] at h
    simpa [Value.cells, Nat.mul_one] using h
  have hown := World.ownsRow_lit (base := w.heap.size) (e := 24) (size := 1) w (madeCells #[.slice none 0 0] Ms.length) Ms.length (Nat.le_refl _) (by unfold maxLen; omega) ((size_madeCells _ _).trans (Nat.mul_one _).symm)
  have hzl : (madeCells #[.slice none 0 0] Ms.length).toList.length = Ms.length := by rw [Array.length_toList, size_madeCells]
  have hb0 := below1 w (.cells (madeCells #[.slice none 0 0] Ms.length) 24)
  have hs1 : (w.alloc (.cells (madeCells #[.slice none 0 0] Ms.length) 24)).heap.size = w.heap.size + 1 := size_alloc _ _
  have HA := Lib.hid hA; clear hA
  have HM := Lib.hid hM; clear hM
  go_enter Try.func39, Try.ntmps39
  go_wp2_with fail
  generalize (madeCells #[.slice none 0 0] Ms.length).toList = zs at *
  generalize w.alloc (.cells (madeCells #[.slice none 0 0] Ms.length) 24) = w1 at *
  clear hmk
  go_loopw [4] (fun i wr => ∃ (k : Nat) (Qs : List Rw), k ≤ Ms.length ∧ i = .int .i64 k ∧ Hid (Qs.map Rw.M = Ms.take k ∧ Qs.length = k) ∧ Hid (wr.ownsRow w.heap.size 24 1 (.slice (some ⟨w.heap.size, 0, none⟩) Ms.length Ms.length) Ms.length (Qs.map hdr ++ zs.drop k)) ∧ Hid (Owned wr (w.heap.size + 1) Qs) ∧ Hid (Below w.heap.size w wr ∧ w.heap.size + 1 ≤ wr.heap.size)) (fun i _ => Ms.length - (intOf i).toNat)
  case atStart => exact ⟨0, [], Nat.zero_le _, rfl, ⟨rfl, rfl⟩, by show World.ownsRow _ _ _ _ _ _ _; simpa using hown, ⟨fun r h => (by cases h), by simp⟩, hb0, by omega⟩
  case round =>
    obtain ⟨wo, rfl⟩ : ∃ wo : World, wo = wr := ⟨_, rfl⟩
    clear hown hs1
    obtain ⟨k, Qs, hk, rfl, HQ, HO, HW, HB⟩ := hrel
    by_cases hlt : k < Ms.length
    · obtain ⟨a, Ak, ck, rfl, hl, h1, h2, h3⟩ := HA.out k hlt
      have c1 := cell_on HB.out.1 rfl h1
      have HT := Lib.hid (toI_any Ak ck Ms[k] wo (h3.step HB.out.1) (HM.out _ (List.getElem_mem hlt)))
      have HTK : Hid ((Qs ++ [Rw.mk wo.heap.size (Ms[k]).length Ms[k]]).map Rw.M = Ms.take (k + 1) ∧ (Qs ++ [Rw.mk wo.heap.size (Ms[k]).length Ms[k]]).length = k + 1) := by
        refine ⟨?_, by simp [HQ.out.2]⟩
        rw [List.map_append, HQ.out.1, List.take_succ_eq_append_getElem hlt]; rfl
      have hst := hdrs_set (r := Rw.mk wo.heap.size (Ms[k]).length Ms[k]) hzl HQ.out.2 hlt
      have HST := Lib.hid hst
      have hhd : hdr (Rw.mk wo.heap.size (Ms[k]).length Ms[k]) = .slice (some ⟨wo.heap.size, 0, none⟩) (Ms[k]).length (Ms[k]).length := rfl
      clear h1 h2 h3 hst
      generalize Ms[k] = M at *
      go_wp2_with fail
      refine HT.out.mono ?_
      rintro e w2 ⟨rfl, ho, hb2⟩
      have o2 := own_below HO.out hb2
      obtain ⟨u1, d1⟩ := cell_some1 o2 k hlt
      have f1 := o2.frozenAt k
      have o3 := (o2.stored k (hdr (Rw.mk wo.heap.size M.length M))).1
      rw [HST.out] at o3
      have W2 : Owned w2 (w.heap.size + 1) (Qs ++ [Rw.mk wo.heap.size M.length M]) := HW.out.snoc hb2 (own_base ho HB.out.2) (Nat.le_refl _)
      have W3 := Lib.hid (W2.set w.heap.size k (hdr (Rw.mk wo.heap.size M.length M)) (Nat.lt_succ_self _))
      have O3 := Lib.hid o3
      have b2 := below_on HB.out.1 hb2
      have hs2 := hb2.size
      have B3 : Hid (Below w.heap.size w (w2.setCell ⟨w.heap.size, k, none⟩ (hdr (Rw.mk wo.heap.size M.length M))) ∧ w.heap.size + 1 ≤ (w2.setCell ⟨w.heap.size, k, none⟩ (hdr (Rw.mk wo.heap.size M.length M))).heap.size) :=
        ⟨b2.setCell (p := ⟨w.heap.size, k, none⟩) (Nat.le_refl _) _, by have := HB.out.2; simp [World.setCell]; omega⟩
      rw [hhd] at O3 W3 B3
      clear o2 o3 W2 b2 ho hb2 hs2 c1
      go_wp2_with fail
      go_roundw
      case rel => exact ⟨k + 1, _, by omega, by go_num, HTK, O3, W3, B3⟩
      case measure => simp [intOf]; omega
    · have e : k = Ms.length := by omega
      have hq2 := HQ.out.2
      have HE : Hid (Qs.map Rw.M = Ms) := by
        have q := HQ.out.1
        rwa [e, List.take_of_length_le (Nat.le_refl _)] at q
      have HR : Hid (RowsR wo w.heap.size (.slice (some ⟨w.heap.size, 0, none⟩) Ms.length Ms.length) Qs) := by
        refine ⟨?_, fun r hr => own_base (HW.out.row r hr) (Nat.le_succ _), fun r hr e2 => ?_, HW.out.nodup⟩
        · have q := HO.out
          rw [List.drop_of_length_le (by omega), List.append_nil] at q
          rw [show Qs.length = Ms.length from by omega]
          exact q
        · have := (HW.out.lt hr).1
          have e3 : w.heap.size = r.g := Option.some.inj e2
          omega
      clear e hq2
      go_wp2_with fail
      go_ret
      exact ⟨Qs, rfl, HR.out, HE.out, HB.out.1⟩
theorem k_w' {k n : Nat} (hk : k ≤ n) (hn : n ≤ 1048576) : wrap64 ((k : Int) + 1) = (k : Int) + 1 ∧ IntKind.i64.wrap ((k : Int) + 1) = (k : Int) + 1 := ⟨IntWalk.wrap64_in _ (by omega), IntWalk.i64_in _ (by omega)⟩
theorem szI_any (A : Option Addr) (n c : Nat) (m : Int) (w : World) (hm : 0 ≤ m ∧ m ≤ 1073741824) (hn : n ≤ 9223372036854775807) :
    Calls Try.prog 87 #[.slice A n c, .int .i64 m] w fun e w' => e = .returned (.int .i64 (if m - n < 0 then -1 else m - n)) ∧ w' = w := by
  have e1 : wrap64 (m - n) = m - n := IntWalk.wrap64_in _ (by omega)
  by_cases h : m - (n : Int) < 0
  · rw [if_pos h]
    go_enter Try.func87, Try.ntmps87
    go_wp2_with fail
    go_ret
    exact ⟨rfl, rfl⟩
  · rw [if_neg h]
    go_enter Try.func87, Try.ntmps87
    go_wp2_with fail
    go_ret
    exact ⟨rfl, rfl⟩
set_option maxRecDepth 100000 in
set_option maxHeartbeats 1600000 in
/-- Either the lists are too long, or each is short. -/
theorem szSS_any (A : Option Addr) (c : Nat) (Ms : List (List Int)) (m : Int) (w : World) (hA : ArgSS w A Ms) (hm : 0 ≤ m ∧ m ≤ 1048576) (hL : Ms.length ≤ maxLen) :
    Calls Try.prog 37 #[.slice A Ms.length c, .int .i64 m] w fun e w' => (∃ z : Int, e = .returned (.int .i64 z) ∧ (z = -1 ∨ (0 ≤ z ∧ Ms.length ≤ 1048576 ∧ ∀ M ∈ Ms, M.length ≤ 1048576))) ∧ w' = w := by
  have HA := Lib.hid hA; clear hA
  have hl9 : Ms.length ≤ 9223372036854775807 := by unfold maxLen at hL; omega
  have e1 : wrap64 (m - (Ms.length : Int)) = m - (Ms.length : Int) := IntWalk.wrap64_in _ (by omega)
  by_cases h : m - (Ms.length : Int) < 0
  · clear hL
    go_enter Try.func37, Try.ntmps37
    go_wp2_with fail
    go_ret
    exact ⟨⟨-1, rfl, .inl rfl⟩, rfl⟩
  · have hn : Ms.length ≤ 1048576 := by omega
    clear hL hl9
    go_enter Try.func37, Try.ntmps37
    go_wp2_with fail
    clear e1
    go_loopw [1, 5] (fun l i wr => ∃ (k : Nat) (z : Int), k ≤ Ms.length ∧ Hid (0 ≤ z ∧ z ≤ 1048576) ∧ i = .int .i64 k ∧ l = .int .i64 z ∧ Hid (∀ j (hj : j < Ms.length), j < k → (Ms[j]).length ≤ 1048576) ∧ wr = w) (fun _ i _ => Ms.length - (intOf i).toNat)
    case atStart => exact ⟨0, _, Nat.zero_le _, by show _ ∧ _; omega, rfl, rfl, fun j _ hj => by omega, rfl⟩
    case round =>
      obtain ⟨k, z, hk, HZ, rfl, rfl, HS, rfl⟩ := hrel
      by_cases hlt : k < Ms.length
      · obtain ⟨a, Ak, ck, rfl, hl, h1, h2, h3⟩ := HA.out k hlt
        have hz := HZ.out
        have HC := Lib.hid (szI_any Ak (Ms[k]).length ck z wr (by omega) (by unfold maxLen at h2; omega))
        have HN : Hid (¬ z - ((Ms[k]).length : Int) < 0 → ∀ j (hj : j < Ms.length), j < k + 1 → (Ms[j]).length ≤ 1048576) := fun hq j hj hj1 => by
          rcases Nat.lt_or_ge j k with q | q
          · exact HS.out j hj q
          · obtain rfl : j = k := by omega
            omega
        have f1 := (k_w' hk hn).1; have f1' := (k_w' hk hn).2
        clear h2 h3 hz
        generalize (Ms[k]).length = len at *
        by_cases hq : z - (len : Int) < 0
        · rw [if_pos hq] at HC
          go_wp2_with fail
          refine HC.out.mono ?_
          rintro e w2 ⟨rfl, rfl⟩
          go_wp2_with fail
          go_ret
          exact ⟨⟨-1, rfl, .inl rfl⟩, rfl⟩
        · rw [if_neg hq] at HC
          have HZ2 : Hid (0 ≤ z - (len : Int) ∧ z - (len : Int) ≤ 1048576) := by have := HZ.out; show _ ∧ _; omega
          have HS2 := Lib.hid (HN.out hq)
          go_wp2_with fail
          refine HC.out.mono ?_
          rintro e w2 ⟨rfl, rfl⟩
          go_wp2_with fail
          clear f1 f1'
          go_roundw
          case rel => exact ⟨k + 1, z - (len : Int), hlt, HZ2, by go_num, rfl, HS2.out, by first | trivial | rfl⟩
          case measure => simp [intOf]; omega
      · have HF : Hid (∀ M ∈ Ms, M.length ≤ 1048576) := fun M hM => by
          obtain ⟨j, hj, rfl⟩ := List.getElem_of_mem hM
          exact HS.out j hj (by omega)
        go_wp2_with fail
        go_ret
        exact ⟨⟨z, rfl, .inr ⟨HZ.out.1, hn, HF.out⟩⟩, rfl⟩
end Go.Proofs.Ytbmeemmihkedoaa

/-! ListOk -/
namespace Go.Proofs.Ytbmeemmihkedoaa
open Go.RowKit

def mOk (m : List Int) : Bool := match m with
  | [a, b, c] => okD a b && inB c (-1000) 1000 && !(c == 0)
  | _ => false
def keyL (m : List Int) : Int × Int := (m.getD 0 0, m.getD 1 0)
def stepOk (Ms : List (List Int)) (i : Nat) : Bool := mOk (Ms.getD i []) && (i == 0 || befZ (keyL (Ms.getD (i - 1) [])) (keyL (Ms.getD i [])))
def okTill (Ms : List (List Int)) (k : Nat) : Bool := (List.range k).all (stepOk Ms)
def listOk (Ms : List (List Int)) : Bool := decide (Ms.length ≤ 24) && okTill Ms Ms.length
theorem okTill_step (Ms : List (List Int)) (k : Nat) : okTill Ms (k + 1) = (okTill Ms k && stepOk Ms k) := by
  unfold okTill
  rw [List.range_succ, List.all_append]; simp
theorem okTill_no {Ms : List (List Int)} {k n : Nat} (hk : k < n) (h : stepOk Ms k = false) : okTill Ms n = false := by
  unfold okTill
  rw [List.all_eq_false]
  exact ⟨k, List.mem_range.2 hk, by rw [h]; simp⟩
theorem mOk_len {m : List Int} (h : m.length ≠ 3) : mOk m = false := by
  unfold mOk
  split
  · exact absurd rfl h
  · rfl
theorem mOk_three {m : List Int} (h : m.length = 3) : ∃ a b c, m = [a, b, c] := by
  match m, h with
  | [a, b, c], _ => exact ⟨a, b, c, rfl⟩
theorem mOk_ok {m : List Int} (h : mOk m = true) : m.length = 3 := by
  rcases Classical.em (m.length = 3) with q | q
  · exact q
  · rw [mOk_len q] at h; cases h
theorem getD_row {Rs : List Rw} {Ms : List (List Int)} (hM : Rs.map Rw.M = Ms) {k : Nat} (hk : k < Rs.length) : Ms.getD k [] = (Rs[k]).M := by
  rw [← hM]; simp [hk]
theorem cells3 {w : World} {B : Nat} {r : Rw} {a b c : Int} (h : w.ownsRow B 3 1 (hdr r) r.M.length (ints r.M)) (e : r.M = [a, b, c]) : w.cell? ⟨r.g, 0, none⟩ = some (.int .i64 a) ∧ w.cell? ⟨r.g, 1, none⟩ = some (.int .i64 b) ∧ w.cell? ⟨r.g, 2, none⟩ = some (.int .i64 c) ∧ hdr r = .slice (some ⟨r.g, 0, none⟩) 3 r.cap := by
  have c' := fun i (hi : i < 3) => h.cellAt i (by rw [e]; exact hi)
  rw [e] at c'
  exact ⟨by rw [c' 0 (by omega)]; rfl, by rw [c' 1 (by omega)]; rfl, by rw [c' 2 (by omega)]; rfl, by unfold hdr; rw [e]; rfl⟩
set_option maxRecDepth 100000 in
set_option maxHeartbeats 4000000 in
theorem spec_listOk (B : Nat) (v : Value) (Rs : List Rw) (Ms : List (List Int)) (w : World) (hR : RowsR w B v Rs) (hM : Rs.map Rw.M = Ms) (hl : Rs.length ≤ 1048576) (hlen : ∀ r ∈ Rs, r.M.length ≤ 1048576) :
    Calls Try.prog 38 #[v] w fun e w' => e = .returned (.bool (listOk Ms)) ∧ Below w.heap.size w w' := by
  obtain ⟨A, c, rfl, hcells⟩ := hR.form
  have hML : Ms.length = Rs.length := by rw [← hM]; simp
  by_cases h24 : 24 < Rs.length
  · have HV : Hid (listOk Ms = false) := by
      show _ = _
      unfold listOk
      rw [decide_eq_false (by omega)]; rfl
    have hi : (24 : Int) < (Rs.length : Int) := by omega
    clear hcells hR
    go_enter Try.func38, Try.ntmps38
    go_wp2_with fail
    go_ret
    exact ⟨ret_bool HV.out.symm, Below.refl _ _⟩
  have hi : ¬ (24 : Int) < (Rs.length : Int) := by omega
  have hn24 : Rs.length ≤ 24 := by omega
  have HLO : Hid (listOk Ms = okTill Ms Rs.length) := by
    show _ = _
    unfold listOk
    rw [decide_eq_true (by omega), hML]; rfl
  have HR := Lib.hid hR; have HM := Lib.hid hM; have HC := Lib.hid hcells; have HLEN := Lib.hid hlen
  have hl' : Rs.length ≤ 1048576 := hl
  clear hcells hR hM hML h24 hl hlen
  go_enter Try.func38, Try.ntmps38
  go_wp2_with fail
  go_loopw [3, 4, 10] (fun _ _ i wr => ∃ k : Nat, k ≤ Rs.length ∧ i = .int .i64 k ∧ Hid (okTill Ms k = true) ∧ Below w.heap.size w wr) (fun _ _ i _ => Rs.length - (intOf i).toNat)
  case atStart => exact ⟨0, Nat.zero_le _, rfl, rfl, Below.refl _ _⟩
  case round =>
    obtain ⟨wo, rfl⟩ : ∃ wo : World, wo = wr := ⟨_, rfl⟩
    obtain ⟨k, hk, rfl, HK, hb⟩ := hrel
    by_cases hlt : k < Rs.length
    · obtain ⟨g, rfl, c0⟩ := HC.out k hlt
      have c1 := cell_on hb rfl c0
      have hki : (k : Int) < (Rs.length : Int) := by omega
      have HMk := Lib.hid (getD_row HM.out hlt)
      have HNO : Hid (stepOk Ms k = false → listOk Ms = false) := fun h => by rw [HLO.out]; exact okTill_no hlt h
      by_cases h3 : (Rs[k]).M.length = 3
      · obtain ⟨a, b, cc, hab⟩ := mOk_three h3
        obtain ⟨r0, r1, r2, rh⟩ := cells3 ((HR.out.below hb).row _ (List.getElem_mem hlt)) hab
        rw [rh] at c1
        have HMO : Hid (mOk (Ms.getD k []) = (okD a b && inB cc (-1000) 1000 && !(cc == 0))) := by
          show _ = _
          rw [HMk.out, hab]; rfl
        have HIS := Lib.hid (fun W => isS_any a b W)
        have HIN := Lib.hid (fun W => in_any cc (-1000) 1000 W)
        obtain ⟨mo, hmo⟩ : ∃ mo, mo = mOk (Ms.getD k []) := ⟨_, rfl⟩
        have HMO2 := Lib.hid hmo
        clear hmo h3
        go_upto_region 6 with (fail)
        go_cut [40] from 15 to 39 (fun s wx => s = .bool (!mo) ∧ Below wo.heap.size wo wx)
        case first =>
          cases h1 : okD a b
          · rw [h1] at HMO HIS
            have hm : mo = false := by rw [HMO2.out, HMO.out]; rfl
            subst hm
            go_wp2_with fail
            go_quiet (first | (go_at_call 75; exact Calls.quiet_of_same (HIS.out _)) | (go_at_call 88; exact Calls.quiet_of_same (HIN.out _)))
            go_wp2_with fail
            go_meet
            exact ⟨rfl, ⟨rfl, rfl, rfl, Nat.le_refl _, fun _ _ => rfl⟩⟩
          cases h2 : inB cc (-1000) 1000
          · rw [h1, h2] at HMO
            rw [h1] at HIS
            rw [h2] at HIN
            have hm : mo = false := by rw [HMO2.out, HMO.out]; rfl
            subst hm
            go_wp2_with fail
            go_quiet (first | (go_at_call 75; exact Calls.quiet_of_same (HIS.out _)) | (go_at_call 88; exact Calls.quiet_of_same (HIN.out _)))
            go_wp2_with fail
            go_meet
            exact ⟨rfl, ⟨rfl, rfl, rfl, Nat.le_refl _, fun _ _ => rfl⟩⟩
          rw [h1, h2] at HMO
          rw [h1] at HIS
          rw [h2] at HIN
          cases h3 : (cc == 0)
          all_goals
            rw [h3] at HMO
            have hm := HMO2.out.trans HMO.out
            simp only [Bool.true_and, Bool.not_true, Bool.not_false] at hm
            subst hm
            go_wp2_with fail
            go_quiet (first | (go_at_call 75; exact Calls.quiet_of_same (HIS.out _)) | (go_at_call 88; exact Calls.quiet_of_same (HIN.out _)))
            go_wp2_with fail
            go_meet
            exact ⟨rfl, ⟨rfl, rfl, rfl, Nat.le_refl _, fun _ _ => rfl⟩⟩
        case rest =>
          obtain ⟨rfl, hb6⟩ := hcut
          have b6 := below_on hb hb6
          have r0' := cell_on hb6 rfl r0; have r1' := cell_on hb6 rfl r1
          clear r0 r1 r2 c0 c1 hb6 HIS HIN
          cases mo
          · have HD := Lib.hid (HNO.out (by unfold stepOk; rw [← HMO2.out]; rfl))
            go_wp2_with fail
            go_ret
            exact ⟨ret_bool HD.out.symm, b6⟩
          by_cases hk0 : k = 0
          · have HS : Hid (okTill Ms (k + 1) = true) := by
              show _ = _
              rw [okTill_step, HK.out]
              unfold stepOk
              rw [← HMO2.out, hk0]; rfl
            have F1 := Lib.hid (k_w' hk hl')
            subst hk0
            have f1 := F1.out.1; have f1' := F1.out.2
            go_wp2_with fail
            go_roundw
            case rel => exact ⟨1, by omega, by go_num, HS, b6⟩
            case measure => simp [intOf]; omega
          · have hkp : 0 < k := by omega
            obtain ⟨j, hj⟩ : ∃ j, k = j + 1 := ⟨k - 1, by omega⟩
            have hjl : j < Rs.length := by omega
            have hjo : mOk (Ms.getD j []) = true := by
              have := HK.out
              unfold okTill at this
              rw [List.all_eq_true] at this
              have h := this j (List.mem_range.2 (by omega))
              unfold stepOk at h
              rw [Bool.and_eq_true] at h
              exact h.1
            obtain ⟨g', hg', d0⟩ := HC.out j hjl
            cases hg'
            have d1 := cell_on b6 rfl d0
            have HMj := Lib.hid (getD_row HM.out hjl)
            rw [HMj.out] at hjo
            obtain ⟨a', b', c', hab'⟩ := mOk_three (mOk_ok hjo)
            obtain ⟨s0, s1, s2, sh⟩ := cells3 ((HR.out.below b6).row _ (List.getElem_mem hjl)) hab'
            rw [sh] at d1
            have HBF := Lib.hid (beforeS_any (Rs[j]).g 3 (Rs[j]).cap (Rs[k]).g 3 (Rs[k]).cap a' b' a b wc (by omega) (by omega) (by omega) (by omega) s0 s1 r0' r1')
            have hbe : befZ (keyL (Ms.getD (k - 1) [])) (keyL (Ms.getD k [])) = befZ (a', b') (a, b) := by
              rw [show k - 1 = j by omega, HMj.out, HMk.out, hab, hab']; rfl
            have hst : stepOk Ms k = befZ (a', b') (a, b) := by
              unfold stepOk
              rw [← HMO2.out, hbe, Bool.true_and]
              rw [show (k == 0) = false from beq_eq_false_iff_ne.2 hk0]; rfl
            have HST := Lib.hid hst
            have e9 : wrap64 ((k : Int) - 1) = (j : Int) := by
              rw [show (k : Int) - 1 = (j : Int) by omega]
              exact IntWalk.wrap64_in _ (by omega)
            have hkz : (0 : Int) < (k : Int) := by omega
            have hji : (j : Int) < (Rs.length : Int) := by omega
            have hj0 : (0 : Int) ≤ (j : Int) := by omega
            have F1 := Lib.hid (k_w' hk hl')
            have hjk : j = k - 1 := by omega
            clear hst hbe hjo d0 s0 s1 s2 sh hab hab' r0' r1' rh hj
            generalize (Rs[k]).cap = rc at *
            generalize (Rs[k]).g = rg at *
            generalize (Rs[j]).cap = sc at *
            generalize (Rs[j]).g = sg at *
            rw [hjk] at d1
            clear hjk e9
            cases hbf : befZ (a', b') (a, b)
            · rw [hbf] at HBF HST
              have HD := Lib.hid (HNO.out HST.out)
              go_wp2_with fail
              refine HBF.out.mono ?_
              rintro e w7 ⟨rfl, hb7⟩
              go_wp2_with fail
              go_ret
              exact ⟨ret_bool HD.out.symm, below_on b6 hb7⟩
            · rw [hbf] at HBF HST
              have HS : Hid (okTill Ms (k + 1) = true) := by
                show _ = _
                rw [okTill_step, HK.out, HST.out]; rfl
              go_wp2_with fail
              refine HBF.out.mono ?_
              rintro e w7 ⟨rfl, hb7⟩
              have b7 := below_on b6 hb7
              have f1 := F1.out.1; have f1' := F1.out.2
              clear hb7
              go_wp2_with fail
              go_roundw
              case rel => exact ⟨k + 1, by omega, by go_num, HS, b7⟩
              case measure => simp [intOf]; omega
      · have hne : ((Rs[k]).M.length : Int) ≠ 3 := by omega
        have HD := Lib.hid (HNO.out (by unfold stepOk; rw [HMk.out, mOk_len h3]; rfl))
        unfold hdr at c1
        generalize (Rs[k]).M.length = ln at *
        have hne2 : ((ln : Int) != 3) = true := by rw [bne_iff_ne]; exact hne
        have hne3 : ¬ ln = 3 := h3
        go_wp2_with fail
        go_quiet (fail)
        go_wp2_with fail
        go_ret
        exact ⟨ret_bool HD.out.symm, ⟨hb.os, hb.tape, hb.output, hb.size, hb.block⟩⟩
    · have e : k = Rs.length := by omega
      have HD : Hid (listOk Ms = true) := by
        show _ = _
        rw [HLO.out, ← e]; exact HK.out
      have hki : ¬ (k : Int) < (Rs.length : Int) := by omega
      clear e
      go_wp2_with fail
      go_ret
      exact ⟨ret_bool HD.out.symm, hb⟩
end Go.Proofs.Ytbmeemmihkedoaa

/-! ListOkI -/
namespace Go.Proofs.Ytbmeemmihkedoaa
open Go.RowKit Go.Sort

set_option maxRecDepth 100000 in
theorem measDir_any (g c : Nat) (a b : Int) (w : World) (h0 : w.cell? ⟨g, 0, none⟩ = some (.int .i64 a)) (h1 : w.cell? ⟨g, 1, none⟩ = some (.int .i64 b)) :
    Calls Try.prog 92 #[.slice (some ⟨g, 0, none⟩) 3 c] w fun e w' => e = .returned (.agg #[.int .i64 a, .int .i64 b]) ∧ Below w.heap.size w w' := by
  have hb0 := below1 w (.cells #[.int .i64 0, .int .i64 0] 27)
  have e0 := cell_on hb0 rfl h0; have e1 := cell_on hb0 rfl h1
  have k0 := cell_regrown e0; have k1 := cell_regrown e1
  have a0 := at_new w 0 0 27
  go_enter Try.func92, Try.ntmps92
  go_wp2_with fail
  refine region_tail 7 (by kernel_rfl) (by kernel_rfl) ?_
  simp only [List.take_succ_cons, List.take_zero, List.drop_succ_cons, List.drop_zero]
  repeat (first
    | go_big_quiet_step (fail)
    | quiet_step (fail))
  refine wpQuiet_nil ?_
  rintro _ ⟨⟨dq, osq⟩, rfl⟩
  have bq := below_regrown (w.alloc (.cells #[.int .i64 0, .int .i64 0] 27)) dq osq
  have a1 := a0.step bq
  have b1 := below_on hb0 bq
  clear k0 k1 e0 e1 h0 h1 a0 bq hb0
  generalize grow (redrawn (w.alloc (.cells #[.int .i64 0, .int .i64 0] 27)) dq) osq = w2 at *
  have c0 := a1.c0; have c1 := a1.c1
  have f0 := at_froz a1 0; have f1 := at_froz a1 1
  have a2 := at_st1 (at_st0 a1 a 0) b
  have d0 := a2.c0; have d1 := a2.c1
  have b2 := (b1.setCell (p := ⟨w.heap.size, 0, none⟩) (Nat.le_refl _) (.int .i64 a)).setCell (p := ⟨w.heap.size, 1, none⟩) (Nat.le_refl _) (.int .i64 b)
  have B2 := Lib.hid b2
  clear a2 b2 b1 a1
  go_wp2_with fail
  exact bodyPost_ret (v := (.agg #[.int .i64 a, .int .i64 b])) (by simp [results, Try.results92, go_sem, d0, d1]) rfl ⟨rfl, B2.out⟩
theorem okD_eq {x y : Int} (hx : inB x (-1000) 1000 = true) (hy : inB y (-1000) 1000 = true) : okD x y = ((x == 1 && y == 0) || (decide (0 < y) && gN x y == 1)) := by
  have h1 := inB_spec.1 hx; have h2 := inB_spec.1 hy
  unfold okD
  rw [hx, Bool.true_and]
  rcases Int.lt_trichotomy y 0 with h | h | h
  · have e : inB y 0 1000 = false := by
      cases q : inB y 0 1000
      · rfl
      · have := inB_spec.1 q; omega
    rw [e, decide_eq_false (show ¬ 0 < y by omega), show (y == 0) = false from beq_eq_false_iff_ne.2 (by omega)]
    simp
  · subst h
    rw [show inB 0 0 1000 = true from rfl, decide_eq_false (show ¬ (0 : Int) < 0 by omega)]
    by_cases q : x = 1
    · subst q; rfl
    · rw [show (x == 1) = false from beq_eq_false_iff_ne.2 q]; rfl
  · rw [inB_spec.2 (show 0 ≤ y ∧ y ≤ 1000 by omega), decide_eq_true h, show (y == 0) = false from beq_eq_false_iff_ne.2 (by omega)]
    simp
set_option maxRecDepth 100000 in
set_option maxHeartbeats 2000000 in
theorem isDir_any (x y : Int) (w : World) (hx : inB x (-1000) 1000 = true) (hy : inB y (-1000) 1000 = true) :
    Calls Try.prog 141 #[(.agg #[.int .i64 x, .int .i64 y])] w fun e w' => e = .returned (.bool (okD x y)) ∧ Below w.heap.size w w' := by
  have GP := guard_pt
  have EP := fun w x y x' y' => eql_pt w x y x' y'
  have hmax : ∀ (w : World) (x y : Int) (ts : Array TypeId) (t : TypeId), (Builtin.max_ ts t #[.int .i64 x, .int .i64 y]).run Try.prog w = .ok (.int .i64 (maxI x y)) w := run_maxI
  have h1 := inB_spec.1 hx; have h2 := inB_spec.1 hy
  have HV := Lib.hid (okD_eq hx hy)
  have a0 := at_new w x y 27
  have c0 := a0.c0; have c1 := a0.c1
  have b0 := below1 w (.cells #[.int .i64 x, .int .i64 y] 27)
  cases hq : (x == 1 && y == 0)
  · cases hy0 : decide (0 < y)
    · rw [hq, hy0] at HV
      clear a0
      go_enter Try.func141, Try.ntmps141
      go_wp2_with fail
      go_ret
      exact ⟨ret_bool HV.out.symm, b0⟩
    · rw [hq, hy0] at HV
      have hyp := of_decide_eq_true hy0
      obtain ⟨m, hm⟩ : ∃ m : Nat, maxI x (-x) = (m : Int) := ⟨x.natAbs, by unfold maxI; split <;> omega⟩
      obtain ⟨n, hn⟩ : ∃ n : Nat, y = (n : Int) := ⟨y.natAbs, by omega⟩
      have hmx : x.natAbs = m := by unfold maxI at hm; split at hm <;> omega
      have hny : y.natAbs = n := by omega
      have HG := fun W => gcdI_any m n W (by omega) (by omega)
      rw [← hm, ← hn] at HG
      have HG := Lib.hid HG
      have HQ : Hid ((((Nat.gcd m n : Nat) : Int) == 1) = (gN x y == 1)) := by
        show _ = _
        unfold gN
        rw [hmx, hny, Bool.eq_iff_iff, beq_iff_eq, beq_iff_eq]; omega
      have f1 : wrap64 (-x) = -x := wrap_id (by omega)
      generalize (gN x y == 1) = gb at *
      generalize okD x y = ok at *
      clear hmx hny a0 h1 h2 hx hy hyp hm hn
      go_enter Try.func141, Try.ntmps141
      go_wp2_with fail
      refine (HG.out _).mono ?_
      rintro e w1 ⟨rfl, hb1⟩
      have HQ2 := HQ.out
      have b1 := below_on b0 hb1
      clear c0 c1 hb1
      go_wp2_with fail
      go_ret
      exact ⟨ret_bool (by rw [HV.out]; simp), b1⟩
  · rw [hq] at HV
    clear a0
    go_enter Try.func141, Try.ntmps141
    go_wp2_with fail
    go_ret
    exact ⟨ret_bool HV.out.symm, b0⟩
theorem mOk_out {a b c : Int} (h : (inB a (-1000) 1000 && inB b (-1000) 1000 && inB c (-1000) 1000) = false) : mOk [a, b, c] = false := by
  show (okD a b && inB c (-1000) 1000 && !(c == 0)) = false
  cases h2 : inB c (-1000) 1000
  · rw [Bool.and_false, Bool.false_and]
  · have hd : okD a b = false := by
      cases q : okD a b
      · rfl
      · unfold okD at q
        simp only [Bool.and_eq_true] at q
        have q1 := inB_spec.1 q.1.1.2
        rw [q.1.1.1, inB_spec.2 (show -1000 ≤ b ∧ b ≤ 1000 by omega), h2] at h
        cases h
    rw [hd]; rfl
set_option maxRecDepth 100000 in
set_option maxHeartbeats 4000000 in
theorem isMeas_any (B : Nat) (r : Rw) (w : World) (h : w.ownsRow B 3 1 (hdr r) r.M.length (ints r.M)) (hl : r.M.length ≤ 1048576) :
    Calls Try.prog 91 #[hdr r] w fun e w' => e = .returned (.bool (mOk r.M)) ∧ Below w.heap.size w w' := by
  by_cases h3 : r.M.length = 3
  · obtain ⟨a, b, c, hab⟩ := mOk_three h3
    obtain ⟨r0, r1, r2, rh⟩ := cells3 h hab
    rw [rh, hab]
    have HMO : Hid (mOk [a, b, c] = (okD a b && inB c (-1000) 1000 && !(c == 0))) := rfl
    have HOUT := Lib.hid (fun hh => mOk_out (a := a) (b := b) (c := c) hh)
    have HIN := Lib.hid (fun x W => from_any x (-1000) 1000 W)
    generalize r.cap = rc at *
    generalize r.g = rg at *
    clear h hl h3 rh hab
    cases hz : (c == 0)
    · obtain ⟨M, hM⟩ : ∃ M : List Int, M = [a, b, c] := ⟨_, rfl⟩
      have HC : Hid (∀ (j : Nat) (hj : j < 3), ∃ x, M[j]? = some x ∧ w.cell? ⟨rg, j, none⟩ = some (.int .i64 x)) := fun j hj => by
        rw [hM]
        match j, hj with
        | 0, _ => exact ⟨a, rfl, r0⟩
        | 1, _ => exact ⟨b, rfl, r1⟩
        | 2, _ => exact ⟨c, rfl, r2⟩
      have HALL : Hid ((M.all fun x => inB x (-1000) 1000) = (inB a (-1000) 1000 && inB b (-1000) 1000 && inB c (-1000) 1000)) := by
        show _ = _
        rw [hM]; simp [Bool.and_assoc]
      have HML : Hid (M.length = 3) := by show _ = _; rw [hM]; rfl
      have R0 := Lib.hid r0; have R1 := Lib.hid r1
      clear hM r0 r1
      go_enter Try.func91, Try.ntmps91
      go_wp2_with fail
      clear r2
      go_loopw [4, 16] (fun _ i wr => ∃ k : Nat, k ≤ 3 ∧ i = .int .i64 k ∧ Hid (∀ (j : Nat) (x : Int), j < k → M[j]? = some x → inB x (-1000) 1000 = true) ∧ wr = w) (fun _ i _ => 3 - (intOf i).toNat)
      case atStart => exact ⟨0, Nat.zero_le _, rfl, fun j x hj => by omega, rfl⟩
      case round =>
        obtain ⟨k, hk, rfl, HK, rfl⟩ := hrel
        by_cases hlt : k < 3
        · obtain ⟨x, hx, c0⟩ := HC.out k hlt
          have hki : (k : Int) < 3 := by omega
          have F1 := Lib.hid (k_w hk (by omega : 3 ≤ 1000))
          cases hb : inB x (-1000) 1000
          · have HD := Lib.hid (HOUT.out (by
              rw [← HALL.out, List.all_eq_false]
              exact ⟨x, List.mem_of_getElem? hx, by rw [hb]; simp⟩))
            have HI := Lib.hid (fun W => HIN.out x W)
            rw [hb] at HI
            clear hx hb
            go_wp2_with fail
            refine (HI.out _).mono ?_
            rintro e w1 ⟨rfl, rfl⟩
            go_wp2_with fail
            go_ret
            exact ⟨ret_bool HD.out.symm, Below.refl _ _⟩
          · have HS : Hid (∀ (j : Nat) (y : Int), j < k + 1 → M[j]? = some y → inB y (-1000) 1000 = true) := fun j y hj hy => by
              rcases Nat.lt_or_ge j k with q | q
              · exact HK.out j y q hy
              · obtain rfl : j = k := by omega
                rw [hx] at hy
                rw [← Option.some.inj hy]; exact hb
            have HI := Lib.hid (fun W => HIN.out x W)
            rw [hb] at HI
            clear hx hb
            go_wp2_with fail
            refine (HI.out _).mono ?_
            rintro e w1 ⟨rfl, rfl⟩
            have f1 := F1.out.1; have f1' := F1.out.2
            go_wp2_with fail
            go_roundw
            case rel => exact ⟨k + 1, by omega, by go_num, HS, by first | trivial | rfl⟩
            case measure => simp [intOf]; omega
        · have hki : ¬ (k : Int) < 3 := by omega
          have hall : (inB a (-1000) 1000 && inB b (-1000) 1000 && inB c (-1000) 1000) = true := by
            rw [← HALL.out, List.all_eq_true]
            intro x hx
            obtain ⟨j, hj⟩ := List.mem_iff_getElem?.1 hx
            have hjl : j < M.length := (List.getElem?_eq_some_iff.1 hj).1
            exact HK.out j x (by have := HML.out; omega) hj
          simp only [Bool.and_eq_true] at hall
          have HV : Hid (mOk [a, b, c] = okD a b) := by
            show _ = _
            rw [HMO.out, hall.2, hz]; simp
          have HMD := Lib.hid (measDir_any rg rc a b wr R0.out R1.out)
          have HID := Lib.hid (fun W => isDir_any a b W hall.1.1 hall.1.2)
          clear hall
          go_wp2_with fail
          refine HMD.out.mono ?_
          rintro e w1 ⟨rfl, hb1⟩
          go_wp2_with fail
          refine (HID.out _).mono ?_
          rintro e w2 ⟨rfl, hb2⟩
          go_wp2_with fail
          go_ret
          exact ⟨ret_bool HV.out.symm, below_on hb1 hb2⟩
    · have HV : Hid (mOk [a, b, c] = false) := by
        show _ = _
        rw [HMO.out, hz]; simp
      go_enter Try.func91, Try.ntmps91
      go_wp2_with fail
      go_ret
      exact ⟨ret_bool HV.out.symm, Below.refl _ _⟩
  · have HV := Lib.hid (mOk_len h3)
    have hne : ((r.M.length : Int) != 3) = true := by rw [bne_iff_ne]; omega
    have hne2 : ¬ (r.M.length : Int) = 3 := by omega
    unfold hdr
    generalize r.M.length = ln at *
    clear h
    go_enter Try.func91, Try.ntmps91
    go_wp2_with fail
    go_ret
    exact ⟨ret_bool HV.out.symm, Below.refl _ _⟩
set_option maxRecDepth 100000 in
set_option maxHeartbeats 4000000 in
theorem impl_listOk (B : Nat) (v : Value) (Rs : List Rw) (Ms : List (List Int)) (w : World) (hR : RowsR w B v Rs) (hM : Rs.map Rw.M = Ms) (hl : Rs.length ≤ 1048576) (hlen : ∀ r ∈ Rs, r.M.length ≤ 1048576) :
    Calls Try.prog 40 #[v] w fun e w' => e = .returned (.bool (listOk Ms)) ∧ Below w.heap.size w w' := by
  obtain ⟨A, c, rfl, hcells⟩ := hR.form
  have hML : Ms.length = Rs.length := by rw [← hM]; simp
  by_cases h24 : 24 < Rs.length
  · have HV : Hid (listOk Ms = false) := by
      show _ = _
      unfold listOk
      rw [decide_eq_false (by omega)]; rfl
    have hi : (24 : Int) < (Rs.length : Int) := by omega
    clear hcells hR
    go_enter Try.func40, Try.ntmps40
    go_wp2_with fail
    go_ret
    exact ⟨ret_bool HV.out.symm, Below.refl _ _⟩
  have hi : ¬ (24 : Int) < (Rs.length : Int) := by omega
  have HLO : Hid (listOk Ms = okTill Ms Rs.length) := by
    show _ = _
    unfold listOk
    rw [decide_eq_true (by omega), hML]; rfl
  have hl' : Rs.length ≤ 1048576 := hl
  have HR := Lib.hid hR; have HM := Lib.hid hM; have HC := Lib.hid hcells; have HLEN := Lib.hid hlen
  clear hcells hR hM hML h24 hl hlen
  go_enter Try.func40, Try.ntmps40
  go_wp2_with fail
  go_loopw [3, 4, 10] (fun _ _ i wr => ∃ k : Nat, k ≤ Rs.length ∧ i = .int .i64 k ∧ Hid (okTill Ms k = true) ∧ Below w.heap.size w wr) (fun _ _ i _ => Rs.length - (intOf i).toNat)
  case atStart => exact ⟨0, Nat.zero_le _, rfl, rfl, Below.refl _ _⟩
  case round =>
    obtain ⟨wo, rfl⟩ : ∃ wo : World, wo = wr := ⟨_, rfl⟩
    obtain ⟨k, hk, rfl, HK, hb⟩ := hrel
    by_cases hlt : k < Rs.length
    · obtain ⟨g, rfl, c0⟩ := HC.out k hlt
      have c1 := cell_on hb rfl c0
      have hki : (k : Int) < (Rs.length : Int) := by omega
      have HMk := Lib.hid (getD_row HM.out hlt)
      have HNO : Hid (stepOk Ms k = false → listOk Ms = false) := fun h => by rw [HLO.out]; exact okTill_no hlt h
      have HIM := Lib.hid (isMeas_any B Rs[k] wo ((HR.out.below hb).row _ (List.getElem_mem hlt)) (HLEN.out _ (List.getElem_mem hlt)))
      obtain ⟨hd, hhd⟩ : ∃ hd, hd = hdr Rs[k] := ⟨_, rfl⟩
      rw [← hhd] at HIM c1
      have HHD := Lib.hid hhd
      clear hhd c0
      cases hmo : mOk (Rs[k]).M
      · rw [hmo] at HIM
        have HD := Lib.hid (HNO.out (by unfold stepOk; rw [HMk.out, hmo]; rfl))
        clear hmo
        go_wp2_with fail
        refine HIM.out.mono ?_
        rintro e w2 ⟨rfl, hb2⟩
        go_wp2_with fail
        go_ret
        exact ⟨ret_bool HD.out.symm, below_on hb hb2⟩
      rw [hmo] at HIM
      have HMO : Hid (mOk (Ms.getD k []) = true) := by show _ = _; rw [HMk.out, hmo]
      by_cases hk0 : k = 0
      · have HS : Hid (okTill Ms (k + 1) = true) := by
          show _ = _
          rw [okTill_step, HK.out]
          unfold stepOk
          rw [HMO.out, hk0]; rfl
        have F1 := Lib.hid (k_w' hk hl')
        clear hmo HMk HHD HMO HNO
        generalize (Rs[k]).M = dummy at *
        subst hk0
        go_wp2_with fail
        refine HIM.out.mono ?_
        rintro e w2 ⟨rfl, hb2⟩
        have b2 := below_on hb hb2
        have f1 := F1.out.1; have f1' := F1.out.2
        go_wp2_with fail
        go_roundw
        case rel => exact ⟨1, by omega, by go_num, HS, b2⟩
        case measure => simp [intOf]; omega
      · obtain ⟨j, hj⟩ : ∃ j, k = j + 1 := ⟨k - 1, by omega⟩
        have hjl : j < Rs.length := by omega
        have hjo : mOk (Ms.getD j []) = true := by
          have := HK.out
          unfold okTill at this
          rw [List.all_eq_true] at this
          have h := this j (List.mem_range.2 (by omega))
          unfold stepOk at h
          rw [Bool.and_eq_true] at h
          exact h.1
        obtain ⟨g', hg', d0⟩ := HC.out j hjl
        cases hg'
        have HMj := Lib.hid (getD_row HM.out hjl)
        rw [HMj.out] at hjo
        obtain ⟨a, b, cc, hab⟩ := mOk_three (mOk_ok hmo)
        obtain ⟨a', b', c', hab'⟩ := mOk_three (mOk_ok hjo)
        obtain ⟨-, -, -, rh⟩ := cells3 (HR.out.row _ (List.getElem_mem hlt)) hab
        obtain ⟨-, -, -, sh⟩ := cells3 (HR.out.row _ (List.getElem_mem hjl)) hab'
        have HCK := Lib.hid (fun W (hW : Below w.heap.size w W) => cells3 ((HR.out.below hW).row _ (List.getElem_mem hlt)) hab)
        have HCJ := Lib.hid (fun W (hW : Below w.heap.size w W) => cells3 ((HR.out.below hW).row _ (List.getElem_mem hjl)) hab')
        rw [sh] at d0
        have hhd2 : hd = .slice (some ⟨(Rs[k]).g, 0, none⟩) 3 (Rs[k]).cap := by rw [HHD.out, rh]
        have hbe : befZ (keyL (Ms.getD (k - 1) [])) (keyL (Ms.getD k [])) = befZ (a', b') (a, b) := by
          rw [show k - 1 = j by omega, HMj.out, HMk.out, hab, hab']; rfl
        have hst : stepOk Ms k = befZ (a', b') (a, b) := by
          unfold stepOk
          rw [HMO.out, hbe, Bool.true_and]
          rw [show (k == 0) = false from beq_eq_false_iff_ne.2 hk0]; rfl
        have HST := Lib.hid hst
        have HMD := Lib.hid (fun g c x y W h0 h1 => measDir_any g c x y W h0 h1)
        have HBP := Lib.hid (fun W => impl_bef a' b' a b W)
        have hbb : beforeB a' b' a b = befZ (a', b') (a, b) := rfl
        rw [hbb] at HBP
        have hkz : (0 : Int) < (k : Int) := by omega
        have F1 := Lib.hid (k_w' hk hl')
        have hjk : j = k - 1 := by omega
        clear hst hbe hjo hab hab' rh sh hj hbb HHD hmo HMk HMj HMO
        subst hhd2
        generalize (Rs[k]).M = dummy at *
        generalize (Rs[j]).M = dummy2 at *
        generalize (Rs[k]).cap = rc at *
        generalize (Rs[k]).g = rg at *
        generalize (Rs[j]).cap = sc at *
        generalize (Rs[j]).g = sg at *
        rw [hjk] at d0
        clear hjk
        go_wp2_with fail
        refine HIM.out.mono ?_
        rintro e w2 ⟨rfl, hb2⟩
        have b2 := below_on hb hb2
        have d2 := cell_on b2 rfl d0
        obtain ⟨s0, s1, -, -⟩ := HCJ.out w2 b2
        have HM2 := Lib.hid (HMD.out sg sc a' b' w2 s0 s1)
        clear c1 d0 hb2 s0 s1
        go_wp2_with fail
        refine HM2.out.mono ?_
        rintro e w3 ⟨rfl, hb3⟩
        have b3 := below_on b2 hb3
        obtain ⟨s0, s1, -, -⟩ := HCK.out w3 b3
        have HM3 := Lib.hid (HMD.out rg rc a b w3 s0 s1)
        clear d2 hb3 s0 s1 HM2
        go_wp2_with fail
        refine HM3.out.mono ?_
        rintro e w4 ⟨rfl, hb4⟩
        have b4 := below_on b3 hb4
        clear hb4 HM3
        cases hbf : befZ (a', b') (a, b)
        · rw [hbf] at HBP HST
          have HD := Lib.hid (HNO.out HST.out)
          go_wp2_with fail
          refine (HBP.out _).mono ?_
          rintro e w7 ⟨rfl, hb7⟩
          go_wp2_with fail
          go_ret
          exact ⟨ret_bool HD.out.symm, below_on b4 hb7⟩
        · rw [hbf] at HBP HST
          have HS : Hid (okTill Ms (k + 1) = true) := by
            show _ = _
            rw [okTill_step, HK.out, HST.out]; rfl
          go_wp2_with fail
          refine (HBP.out _).mono ?_
          rintro e w7 ⟨rfl, hb7⟩
          have b7 := below_on b4 hb7
          have f1 := F1.out.1; have f1' := F1.out.2
          clear hb7
          go_wp2_with fail
          go_roundw
          case rel => exact ⟨k + 1, by omega, by go_num, HS, b7⟩
          case measure => simp [intOf]; omega
    · have e : k = Rs.length := by omega
      have HD : Hid (listOk Ms = true) := by
        show _ = _
        rw [HLO.out, ← e]; exact HK.out
      have hki : ¬ (k : Int) < (Rs.length : Int) := by omega
      clear e
      go_wp2_with fail
      go_ret
      exact ⟨ret_bool HD.out.symm, hb⟩
end Go.Proofs.Ytbmeemmihkedoaa

/-! Law7C -/
namespace Go.Proofs.Ytbmeemmihkedoaa
open Go.RowKit

set_option maxRecDepth 100000 in
set_option maxHeartbeats 2000000 in
theorem ex_listOk (A : Option Addr) (c : Nat) (Ms : List (List Int)) (w : World) (hA : ArgSS w A Ms) (hL : Ms.length ≤ maxLen) :
    Calls Try.prog 9 #[.slice A Ms.length c] w fun e w' => e = .returned (.bool true) ∧ Below w.heap.size w w' := by
  have HB := Lib.hid hA
  have HZ2 := Lib.hid (szSS_any A c Ms 1048576 w hA (by omega) hL)
  clear hA hL
  go_enter Try.func9, Try.ntmps9
  go_wp2_with fail
  refine HZ2.out.mono ?_
  rintro e w0 ⟨⟨z, rfl, hz⟩, rfl⟩
  rcases hz with rfl | ⟨hz, hn, hr⟩
  · go_wp2_with fail
    go_ret
    exact ⟨rfl, Below.refl _ _⟩
  have hz' : ¬ z < 0 := by omega
  have HR := Lib.hid hr
  have HN := Lib.hid hn
  have HLE : Hid (∀ Rs : List Rw, Rs.map Rw.M = Ms → Rs.length ≤ 1048576 ∧ ∀ r ∈ Rs, r.M.length ≤ 1048576) := fun Rs e => by
    refine ⟨?_, fun r h => hr _ (by rw [← e]; exact List.mem_map_of_mem h)⟩
    rw [← e] at hn; simpa using hn
  have HS := Lib.hid (fun B v Rs W (hR : RowsR W B v Rs) hM => spec_listOk B v Rs Ms W hR hM (HLE.out Rs hM).1 (HLE.out Rs hM).2)
  have HI := Lib.hid (fun B v Rs W (hR : RowsR W B v Rs) hM => impl_listOk B v Rs Ms W hR hM (HLE.out Rs hM).1 (HLE.out Rs hM).2)
  generalize listOk Ms = bb at *
  clear hr hn hz
  go_wp2_with fail
  refine (toSS_any A c Ms _ HB.out HN.out HR.out).mono ?_
  rintro e w2 ⟨R2, rfl, own2, m2, b2⟩
  have C2 := Lib.hid (HS.out _ _ R2 w2 own2 m2)
  clear own2 m2
  go_wp2_with fail
  refine C2.out.mono ?_
  rintro e w3 ⟨rfl, hb3⟩
  have b3 := below_on b2 hb3
  clear b2 hb3 C2
  go_wp2_with fail
  refine (toSS_any A c Ms _ (HB.out.step b3) HN.out HR.out).mono ?_
  rintro e w5 ⟨R5, rfl, own5, m5, hb5⟩
  have b5 := below_on b3 hb5
  clear b3 hb5
  have C5 := Lib.hid (HI.out _ _ R5 w5 own5 m5)
  have M5 := Lib.hid m5
  have O5 := Lib.hid own5
  clear own5 m5
  go_wp2_with fail
  refine C5.out.mono ?_
  rintro e w6 ⟨rfl, hb6⟩
  have b6 := below_on b5 hb6
  have O6 := Lib.hid (O5.out.below hb6)
  clear b5 hb6 C5 O5
  go_wp2_with fail
  refine (toSS_any A c Ms _ (HB.out.step b6) HN.out HR.out).mono ?_
  rintro e w7 ⟨R7, rfl, own7, m7, hb7⟩
  have b7 := below_on b6 hb7
  have O7 := Lib.hid (O6.out.below hb7)
  have C7 := Lib.hid (eq_rows _ _ _ _ R5 R7 w7 O7.out own7 (M5.out.trans m7.symm) (HLE.out R5 M5.out).1 (HLE.out R5 M5.out).2)
  clear b6 hb7 O6 own7 m7
  go_wp2_with fail
  refine C7.out.mono ?_
  rintro e w8 ⟨rfl, hb8⟩
  have b8 := below_on b7 hb8
  clear b7 hb8
  go_wp2_with fail
  go_ret
  exact ⟨rfl, b8⟩
end Go.Proofs.Ytbmeemmihkedoaa
