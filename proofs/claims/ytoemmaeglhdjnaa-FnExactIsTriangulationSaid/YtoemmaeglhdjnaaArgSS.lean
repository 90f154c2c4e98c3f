/-
  Slices of slices of ints that came in: read, measured (szIntSS), copied (toIntSS).
-/
import Derived.Test.YtoemmaeglhdjnaaRowsR
import Derived.Test.YtoemmaeglhdjnaaToPts
import Derived.Deep.Matrix
import Derived.Laws.MakeOwn
namespace Go.Proofs.Ytoemmaeglhdjnaa
open Go.RowKit

/-- The cells of a slice of ints that came in, wherever it lies. -/
def ArgI (w : World) (A : Option Addr) (M : List Int) : Prop := ∀ k (h : k < M.length), ∃ a : Addr, A = some a ∧ a.block < w.heap.size ∧ w.cell? (a.add k) = some (.int .i64 M[k])
theorem ArgI.step {w w' : World} {A : Option Addr} {M : List Int} (h : ArgI w A M) (hb : Below w.heap.size w w') : ArgI w' A M := fun k hk => by
  obtain ⟨a, hA, hl, h1⟩ := h k hk
  exact ⟨a, hA, Nat.lt_of_lt_of_le hl hb.size, cell_on hb rfl h1⟩
/-- A slice of such slices. -/
def ArgSS (w : World) (A : Option Addr) (Ms : List (List Int)) : Prop := ∀ k (h : k < Ms.length), ∃ (a : Addr) (Ak : Option Addr) (ck : Nat), A = some a ∧ a.block < w.heap.size ∧ w.cell? (a.add k) = some (.slice Ak (Ms[k]).length ck) ∧ (Ms[k]).length ≤ maxLen ∧ ArgI w Ak Ms[k]
theorem ArgSS.step {w w' : World} {A : Option Addr} {Ms : List (List Int)} (h : ArgSS w A Ms) (hb : Below w.heap.size w w') : ArgSS w' A Ms := fun k hk => by
  obtain ⟨a, Ak, ck, hA, hl, h1, h2, h3⟩ := h k hk
  exact ⟨a, Ak, ck, hA, Nat.lt_of_lt_of_le hl hb.size, cell_on hb rfl h1, h2, h3.step hb⟩
theorem view_intss {H : Type} {enc : TypeId × Value → H} {P : Program} {W : World} {t e q : TypeId} {fuel : Nat} {A : Option Addr} {n c : Nat} {x : DataW H × List MemPlace}
    (ht : P.underlying t = some (.slice e)) (he : P.underlying e = some (.slice q)) (hq : P.underlying q = some (.int .i64)) (ce : P.cellsOf e = 1) (cq : P.cellsOf q = 1)
    (h : DataW.trod enc P W 0 (fun _ => true) true fuel t [.slice A n c] = some x) : ∃ Ms : List (List Int), n = Ms.length ∧ ArgSS W A Ms ∧ Ms.length ≤ maxLen ∧ ∀ M ∈ Ms, ∀ z ∈ M, (Lit.int .i64 z).wf = true := by
  rcases Go.Deep.open_int_rows ht he hq ce cq h with ⟨h1, _⟩ | ⟨a, len, cap, A', L, C, Z, h1, _, hlc, hcm, _, hcell⟩
  · simp only [List.cons.injEq, Value.slice.injEq, and_true] at h1
    obtain ⟨rfl, rfl, rfl⟩ := h1
    exact ⟨[], rfl, fun k hk => absurd hk (by simp), by simp, fun M hM => by cases hM⟩
  · simp only [List.cons.injEq, Value.slice.injEq, and_true] at h1
    obtain ⟨rfl, rfl, rfl⟩ := h1
    refine ⟨(List.range n).map fun r => (Z r).take (L r), by simp, fun k hk => ?_, by simp; omega, ?_⟩
    · have hk' : k < n := by simpa using hk
      obtain ⟨g1, g2, g3, g4, g5, g6, g7⟩ := hcell k (by omega)
      have hb := World.block_lt_of_cell? W _ g1
      have hbl : (a.add k).block = a.block := by unfold Addr.add; split <;> rfl
      rw [hbl] at hb
      have hl : ((Z k).take (L k)).length = L k := by rw [List.length_take]; omega
      have hget : ((List.range n).map fun r => (Z r).take (L r))[k] = (Z k).take (L k) := by simp
      rw [hget]
      refine ⟨a, A' k, C k, rfl, hb, by rw [hl]; exact g1, by rw [hl]; omega, fun j hj => ?_⟩
      rw [hl] at hj
      cases hA : A' k with
      | none => have := g6 hA; omega
      | some a' =>
        have q1 := (g7 a' hA).2 j (by omega)
        have hb2 := World.block_lt_of_cell? W _ q1
        have hbl2 : (a'.add j).block = a'.block := by unfold Addr.add; split <;> rfl
        rw [hbl2] at hb2
        refine ⟨a', rfl, hb2, ?_⟩
        rw [q1]
        simp [show j < (Z k).length by omega]
    · intro M hM z hz
      obtain ⟨r, hr, rfl⟩ := List.mem_map.1 hM
      obtain ⟨g1, g2, g3, g4, g5, g6, g7⟩ := hcell r (by have := List.mem_range.1 hr; omega)
      exact g5 z (List.mem_of_mem_take hz)
theorem infoN : (Try.prog.info? 3).map (fun i => (i.zero, i.size, i.bytes)) = some (some (.int .i64 0), 1, 8) := by kernel_rfl
theorem infoRow : (Try.prog.info? 48).map (fun i => (i.zero, i.size, i.bytes)) = some (some (.slice none 0 0), 1, 24) := by kernel_rfl
theorem ints_set {M : List Int} {zs : List Value} (hz : zs.length = M.length) (k : Nat) (hk : k < M.length) : (ints (M.take k) ++ zs.drop k).set k (.int .i64 M[k]) = ints (M.take (k + 1)) ++ zs.drop (k + 1) := by
  have h1 : (ints (M.take k)).length = k := by rw [ints_len, List.length_take]; omega
  have h2 : (zs.drop k).set 0 (.int .i64 M[k]) = .int .i64 M[k] :: zs.drop (k + 1) := by
    rw [List.drop_eq_getElem_cons (by omega)]; rfl
  rw [List.set_append_right _ _ (by omega), h1, Nat.sub_self, h2, List.take_succ_eq_append_getElem hk, ints_snoc, List.append_assoc]
  rfl
set_option maxRecDepth 100000 in
set_option maxHeartbeats 1600000 in
theorem toI_any (A : Option Addr) (c : Nat) (M : List Int) (w : World) (hA : ArgI w A M) (hL : M.length ≤ 1048576) :
    Calls Try.prog 59 #[.slice A M.length c] w fun e w' => e = .returned (.slice (some ⟨w.heap.size, 0, none⟩) M.length M.length) ∧ w'.ownsRow w.heap.size 3 1 (.slice (some ⟨w.heap.size, 0, none⟩) M.length M.length) M.length (ints M) ∧ Below w.heap.size w w' := by
  obtain ⟨i0, hi0, hz0, hz1, hz2⟩ := info_parts infoN
  have hmk : ∀ w, (Instr.makeSlice 48 (.int .i64 (M.length : Int)) (.int .i64 (M.length : Int))).run Try.prog w = .ok (.slice (some ⟨w.heap.size, 0, none⟩) M.length M.length) (w.alloc (.cells (madeCells #[.int .i64 0] M.length) 3)) := fun w => by
    have h := run_make (P := Try.prog) w 48 3 i0 _ Try.underlying48 hi0 hz0 .i64 .i64 (M.length : Int) (M.length : Int) (by omega) (Int.le_refl _) (by rw [hz2]; omega) (by omega)
    rw [hz1] at h
    simpa [Value.cells, Nat.mul_one] using h
  have hown := World.ownsRow_lit (base := w.heap.size) (e := 3) (size := 1) w (madeCells #[.int .i64 0] M.length) M.length (Nat.le_refl _) (by unfold maxLen; omega) ((size_madeCells _ _).trans (Nat.mul_one _).symm)
  have hzl : (madeCells #[.int .i64 0] M.length).toList.length = M.length := by rw [Array.length_toList, size_madeCells]
  have hb0 := below1 w (.cells (madeCells #[.int .i64 0] M.length) 3)
  have HA := Lib.hid hA; clear hA
  go_enter Try.func59, Try.ntmps59
  go_wp2_with fail
  generalize (madeCells #[.int .i64 0] M.length).toList = zs at *
  generalize w.alloc (.cells (madeCells #[.int .i64 0] M.length) 3) = w1 at *
  clear hmk
  go_loopw [4] (fun i wr => ∃ k : Nat, k ≤ M.length ∧ i = .int .i64 k ∧ wr.ownsRow w.heap.size 3 1 (.slice (some ⟨w.heap.size, 0, none⟩) M.length M.length) M.length (ints (M.take k) ++ zs.drop k) ∧ Below w.heap.size w wr) (fun i _ => M.length - (intOf i).toNat)
  case atStart => exact ⟨0, Nat.zero_le _, rfl, by simpa [ints] using hown, hb0⟩
  case round =>
    obtain ⟨wo, rfl⟩ : ∃ wo : World, wo = wr := ⟨_, rfl⟩
    clear hown
    obtain ⟨k, hk, rfl, hown, hb⟩ := hrel
    by_cases hlt : k < M.length
    · obtain ⟨a, rfl, hl, h1⟩ := HA.out k hlt
      have c1 := cell_on hb rfl h1
      have hs := ints_set hzl k hlt
      obtain ⟨x, hx⟩ : ∃ x, x = M[k] := ⟨_, rfl⟩
      rw [← hx] at c1 hs
      have HS := Lib.hid hs
      clear hs h1 hx
      obtain ⟨u1, d1⟩ := cell_some1 hown k hlt
      have f1 := hown.frozenAt k
      have own3 := (hown.stored k (.int .i64 x)).1
      rw [HS.out] at own3
      have b4 := hb.setCell (p := ⟨w.heap.size, k, none⟩) (Nat.le_refl _) (.int .i64 x)
      have R := Lib.hid (And.intro own3 b4)
      clear own3 b4
      go_wp2_with fail
      go_roundw
      case rel => exact ⟨k + 1, by omega, by go_num, R.out.1, R.out.2⟩
      case measure => simp [intOf]; omega
    · obtain rfl : k = M.length := by omega
      rw [List.drop_of_length_le (by omega), List.take_of_length_le (Nat.le_refl _), List.append_nil] at hown
      have R := Lib.hid hown
      clear hown
      go_wp2_with fail
      go_ret
      exact ⟨rfl, R.out, hb⟩
theorem hdrs_set {Qs : List Rw} {r : Rw} {zs : List Value} {n k : Nat} (hz : zs.length = n) (hq : Qs.length = k) (hk : k < n) : (Qs.map hdr ++ zs.drop k).set k (hdr r) = (Qs ++ [r]).map hdr ++ zs.drop (k + 1) := by
  have h1 : (Qs.map hdr).length = k := by rw [List.length_map, hq]
  have h2 : (zs.drop k).set 0 (hdr r) = hdr r :: zs.drop (k + 1) := by
    rw [List.drop_eq_getElem_cons (by omega)]; rfl
  rw [List.set_append_right _ _ (by omega), h1, Nat.sub_self, h2, List.map_append, List.append_assoc]
  rfl
/-- Rows that are owned, no two in one block. -/
structure Owned (w : World) (B : Nat) (Rs : List Rw) : Prop where
  row : ∀ r ∈ Rs, w.ownsRow B 3 1 (hdr r) r.M.length (ints r.M)
  nodup : (Rs.map Rw.g).Nodup
theorem Owned.below {w w' : World} {B : Nat} {Rs : List Rw} (h : Owned w B Rs) (hb : Below w.heap.size w w') : Owned w' B Rs := ⟨fun r hr => own_below (h.row r hr) hb, h.nodup⟩
theorem Owned.lt {w : World} {B : Nat} {Rs : List Rw} (h : Owned w B Rs) {r : Rw} (hr : r ∈ Rs) : B ≤ r.g ∧ r.g < w.heap.size := (h.row r hr).lt r.g rfl
theorem Owned.set {w : World} {B : Nat} {Rs : List Rw} (h : Owned w B Rs) (g j : Nat) (u : Value) (hg : g < B) : Owned (w.setCell ⟨g, j, none⟩ u) B Rs :=
  ⟨fun r hr => (h.row r hr).kept (only_set (World.grownBy.refl w (some g)) j u) (.inr (fun e => by
    have e2 : r.g = g := Option.some.inj (by rw [← e, hdr_own])
    have := (h.lt hr).1; omega)), h.nodup⟩
theorem Owned.snoc {w w' : World} {B : Nat} {Rs : List Rw} {r : Rw} (h : Owned w B Rs) (hb : Below w.heap.size w w') (hr : w'.ownsRow B 3 1 (hdr r) r.M.length (ints r.M)) (hlo : w.heap.size ≤ r.g) : Owned w' B (Rs ++ [r]) := by
  refine ⟨fun x hx => ?_, ?_⟩
  · rcases List.mem_append.1 hx with hx | hx
    · exact own_below (h.row x hx) hb
    · rw [List.mem_singleton.1 hx]; exact hr
  · rw [List.map_append]
    refine List.nodup_append.2 ⟨h.nodup, by simp, ?_⟩
    intro a ha b hb' e
    obtain ⟨x, hx, rfl⟩ := List.mem_map.1 ha
    simp only [List.map_cons, List.map_nil, List.mem_singleton] at hb'
    have := (h.lt hx).2
    omega
set_option maxRecDepth 100000 in
set_option maxHeartbeats 1600000 in
theorem toSS_any (A : Option Addr) (c : Nat) (Ms : List (List Int)) (w : World) (hA : ArgSS w A Ms) (hL : Ms.length ≤ 1048576) (hM : ∀ M ∈ Ms, M.length ≤ 1048576) :
    Calls Try.prog 24 #[.slice A Ms.length c] w fun e w' => ∃ Rs, e = .returned (.slice (some ⟨w.heap.size, 0, none⟩) Ms.length Ms.length) ∧ RowsR w' w.heap.size (.slice (some ⟨w.heap.size, 0, none⟩) Ms.length Ms.length) Rs ∧ Rs.map Rw.M = Ms ∧ Below w.heap.size w w' := by
  obtain ⟨i0, hi0, hz0, hz1, hz2⟩ := info_parts infoRow
  have hmk : ∀ w, (Instr.makeSlice 24 (.int .i64 (Ms.length : Int)) (.int .i64 (Ms.length : Int))).run Try.prog w = .ok (.slice (some ⟨w.heap.size, 0, none⟩) Ms.length Ms.length) (w.alloc (.cells (madeCells #[.slice none 0 0] Ms.length) 48)) := fun w => by
    have h := run_make (P := Try.prog) w 24 48 i0 _ Try.underlying24 hi0 hz0 .i64 .i64 (Ms.length : Int) (Ms.length : Int) (by omega) (Int.le_refl _) (by rw [hz2]; omega) (by omega)
    rw [hz1] at h
    simpa [Value.cells, Nat.mul_one] using h
  have hown := World.ownsRow_lit (base := w.heap.size) (e := 48) (size := 1) w (madeCells #[.slice none 0 0] Ms.length) Ms.length (Nat.le_refl _) (by unfold maxLen; omega) ((size_madeCells _ _).trans (Nat.mul_one _).symm)
  have hzl : (madeCells #[.slice none 0 0] Ms.length).toList.length = Ms.length := by rw [Array.length_toList, size_madeCells]
  have hb0 := below1 w (.cells (madeCells #[.slice none 0 0] Ms.length) 48)
  have hs1 : (w.alloc (.cells (madeCells #[.slice none 0 0] Ms.length) 48)).heap.size = w.heap.size + 1 := size_alloc _ _
  have HA := Lib.hid hA; clear hA
  have HM := Lib.hid hM; clear hM
  go_enter Try.func24, Try.ntmps24
  go_wp2_with fail
  generalize (madeCells #[.slice none 0 0] Ms.length).toList = zs at *
  generalize w.alloc (.cells (madeCells #[.slice none 0 0] Ms.length) 48) = w1 at *
  clear hmk
  go_loopw [4] (fun i wr => ∃ (k : Nat) (Qs : List Rw), k ≤ Ms.length ∧ i = .int .i64 k ∧ Hid (Qs.map Rw.M = Ms.take k ∧ Qs.length = k) ∧ Hid (wr.ownsRow w.heap.size 48 1 (.slice (some ⟨w.heap.size, 0, none⟩) Ms.length Ms.length) Ms.length (Qs.map hdr ++ zs.drop k)) ∧ Hid (Owned wr (w.heap.size + 1) Qs) ∧ Hid (Below w.heap.size w wr ∧ w.heap.size + 1 ≤ wr.heap.size)) (fun i _ => Ms.length - (intOf i).toNat)
  case atStart => exact ⟨0, [], Nat.zero_le _, rfl, ⟨rfl, rfl⟩, by show World.ownsRow _ _ _ _ _ _ _; simpa using hown, ⟨fun r h => (by cases h), by simp⟩, hb0, by omega⟩
  case round =>
    obtain ⟨wo, rfl⟩ : ∃ wo : World, wo = wr := ⟨_, rfl⟩
    clear hown hs1
    obtain ⟨k, Qs, hk, rfl, HQ, HO, HW, HB⟩ := hrel
    by_cases hlt : k < Ms.length
    · obtain ⟨a, Ak, ck, rfl, hl, h1, h2, h3⟩ := HA.out k hlt
      have c1 := cell_on HB.out.1 rfl h1
      have HT := Lib.hid (toI_any Ak ck Ms[k] wo (h3.step HB.out.1) (HM.out _ (List.getElem_mem hlt)))
      have HTK : Hid ((Qs ++ [Rw.mk wo.heap.size (Ms[k]).length Ms[k]]).map Rw.M = Ms.take (k + 1) ∧ (Qs ++ [Rw.mk wo.heap.size (Ms[k]).length Ms[k]]).length = k + 1) := by
        refine ⟨?_, by simp [HQ.out.2]⟩
        rw [List.map_append, HQ.out.1, List.take_succ_eq_append_getElem hlt]; rfl
      have hst := hdrs_set (r := Rw.mk wo.heap.size (Ms[k]).length Ms[k]) hzl HQ.out.2 hlt
      have HST := Lib.hid hst
      have hhd : hdr (Rw.mk wo.heap.size (Ms[k]).length Ms[k]) = .slice (some ⟨wo.heap.size, 0, none⟩) (Ms[k]).length (Ms[k]).length := rfl
      clear h1 h2 h3 hst
      generalize Ms[k] = M at *
      go_wp2_with fail
      refine HT.out.mono ?_
      rintro e w2 ⟨rfl, ho, hb2⟩
      have o2 := own_below HO.out hb2
      obtain ⟨u1, d1⟩ := cell_some1 o2 k hlt
      have f1 := o2.frozenAt k
      have o3 := (o2.stored k (hdr (Rw.mk wo.heap.size M.length M))).1
      rw [HST.out] at o3
      have W2 : Owned w2 (w.heap.size + 1) (Qs ++ [Rw.mk wo.heap.size M.length M]) := HW.out.snoc hb2 (own_base ho HB.out.2) (Nat.le_refl _)
      have W3 := Lib.hid (W2.set w.heap.size k (hdr (Rw.mk wo.heap.size M.length M)) (Nat.lt_succ_self _))
      have O3 := Lib.hid o3
      have b2 := below_on HB.out.1 hb2
      have hs2 := hb2.size
      have B3 : Hid (Below w.heap.size w (w2.setCell ⟨w.heap.size, k, none⟩ (hdr (Rw.mk wo.heap.size M.length M))) ∧ w.heap.size + 1 ≤ (w2.setCell ⟨w.heap.size, k, none⟩ (hdr (Rw.mk wo.heap.size M.length M))).heap.size) :=
        ⟨b2.setCell (p := ⟨w.heap.size, k, none⟩) (Nat.le_refl _) _, by have := HB.out.2; simp [World.setCell]; omega⟩
      rw [hhd] at O3 W3 B3
      clear o2 o3 W2 b2 ho hb2 hs2 c1
      go_wp2_with fail
      go_roundw
      case rel => exact ⟨k + 1, _, by omega, by go_num, HTK, O3, W3, B3⟩
      case measure => simp [intOf]; omega
    · have e : k = Ms.length := by omega
      have hq2 := HQ.out.2
      have HE : Hid (Qs.map Rw.M = Ms) := by
        have q := HQ.out.1
        rwa [e, List.take_of_length_le (Nat.le_refl _)] at q
      have HR : Hid (RowsR wo w.heap.size (.slice (some ⟨w.heap.size, 0, none⟩) Ms.length Ms.length) Qs) := by
        refine ⟨?_, fun r hr => own_base (HW.out.row r hr) (Nat.le_succ _), fun r hr e2 => ?_, HW.out.nodup⟩
        · have q := HO.out
          rw [List.drop_of_length_le (by omega), List.append_nil] at q
          rw [show Qs.length = Ms.length from by omega]
          exact q
        · have := (HW.out.lt hr).1
          have e3 : w.heap.size = r.g := Option.some.inj e2
          omega
      clear e hq2
      go_wp2_with fail
      go_ret
      exact ⟨Qs, rfl, HR.out, HE.out, HB.out.1⟩
theorem k_w' {k n : Nat} (hk : k ≤ n) (hn : n ≤ 1048576) : wrap64 ((k : Int) + 1) = (k : Int) + 1 ∧ IntKind.i64.wrap ((k : Int) + 1) = (k : Int) + 1 := ⟨IntWalk.wrap64_in _ (by omega), IntWalk.i64_in _ (by omega)⟩
theorem szI_any (A : Option Addr) (n c : Nat) (m : Int) (w : World) (hm : 0 ≤ m ∧ m ≤ 1073741824) (hn : n ≤ 9223372036854775807) :
    Calls Try.prog 55 #[.slice A n c, .int .i64 m] w fun e w' => e = .returned (.int .i64 (if m - n < 0 then -1 else m - n)) ∧ w' = w := by
  have e1 : wrap64 (m - n) = m - n := IntWalk.wrap64_in _ (by omega)
  by_cases h : m - (n : Int) < 0
  · rw [if_pos h]
    go_enter Try.func55, Try.ntmps55
    go_wp2_with fail
    go_ret
    exact ⟨rfl, rfl⟩
  · rw [if_neg h]
    go_enter Try.func55, Try.ntmps55
    go_wp2_with fail
    go_ret
    exact ⟨rfl, rfl⟩
set_option maxRecDepth 100000 in
set_option maxHeartbeats 1600000 in
/-- Either the lists are too long, or each is short. -/
theorem szSS_any (A : Option Addr) (c : Nat) (Ms : List (List Int)) (m : Int) (w : World) (hA : ArgSS w A Ms) (hm : 0 ≤ m ∧ m ≤ 1048576) (hL : Ms.length ≤ maxLen) :
    Calls Try.prog 22 #[.slice A Ms.length c, .int .i64 m] w fun e w' => (∃ z : Int, e = .returned (.int .i64 z) ∧ (z = -1 ∨ (0 ≤ z ∧ Ms.length ≤ 1048576 ∧ ∀ M ∈ Ms, M.length ≤ 1048576))) ∧ w' = w := by
  have HA := Lib.hid hA; clear hA
  have hl9 : Ms.length ≤ 9223372036854775807 := by unfold maxLen at hL; omega
  have e1 : wrap64 (m - (Ms.length : Int)) = m - (Ms.length : Int) := IntWalk.wrap64_in _ (by omega)
  by_cases h : m - (Ms.length : Int) < 0
  · clear hL
    go_enter Try.func22, Try.ntmps22
    go_wp2_with fail
    go_ret
    exact ⟨⟨-1, rfl, .inl rfl⟩, rfl⟩
  · have hn : Ms.length ≤ 1048576 := by omega
    clear hL hl9
    go_enter Try.func22, Try.ntmps22
    go_wp2_with fail
    clear e1
    go_loopw [1, 5] (fun l i wr => ∃ (k : Nat) (z : Int), k ≤ Ms.length ∧ Hid (0 ≤ z ∧ z ≤ 1048576) ∧ i = .int .i64 k ∧ l = .int .i64 z ∧ Hid (∀ j (hj : j < Ms.length), j < k → (Ms[j]).length ≤ 1048576) ∧ wr = w) (fun _ i _ => Ms.length - (intOf i).toNat)
    case atStart => exact ⟨0, _, Nat.zero_le _, by show _ ∧ _; omega, rfl, rfl, fun j _ hj => by omega, rfl⟩
    case round =>
      obtain ⟨k, z, hk, HZ, rfl, rfl, HS, rfl⟩ := hrel
      by_cases hlt : k < Ms.length
      · obtain ⟨a, Ak, ck, rfl, hl, h1, h2, h3⟩ := HA.out k hlt
        have hz := HZ.out
        have HC := Lib.hid (szI_any Ak (Ms[k]).length ck z wr (by omega) (by unfold maxLen at h2; omega))
        have HN : Hid (¬ z - ((Ms[k]).length : Int) < 0 → ∀ j (hj : j < Ms.length), j < k + 1 → (Ms[j]).length ≤ 1048576) := fun hq j hj hj1 => by
          rcases Nat.lt_or_ge j k with q | q
          · exact HS.out j hj q
          · obtain rfl : j = k := by omega
            omega
        have f1 := (k_w' hk hn).1; have f1' := (k_w' hk hn).2
        clear h2 h3 hz
        generalize (Ms[k]).length = len at *
        by_cases hq : z - (len : Int) < 0
        · rw [if_pos hq] at HC
          go_wp2_with fail
          refine HC.out.mono ?_
          rintro e w2 ⟨rfl, rfl⟩
          go_wp2_with fail
          go_ret
          exact ⟨⟨-1, rfl, .inl rfl⟩, rfl⟩
        · rw [if_neg hq] at HC
          have HZ2 : Hid (0 ≤ z - (len : Int) ∧ z - (len : Int) ≤ 1048576) := by have := HZ.out; show _ ∧ _; omega
          have HS2 := Lib.hid (HN.out hq)
          go_wp2_with fail
          refine HC.out.mono ?_
          rintro e w2 ⟨rfl, rfl⟩
          go_wp2_with fail
          clear f1 f1'
          go_roundw
          case rel => exact ⟨k + 1, z - (len : Int), hlt, HZ2, by go_num, rfl, HS2.out, by first | trivial | rfl⟩
          case measure => simp [intOf]; omega
      · have HF : Hid (∀ M ∈ Ms, M.length ≤ 1048576) := fun M hM => by
          obtain ⟨j, hj, rfl⟩ := List.getElem_of_mem hM
          exact HS.out j hj (by omega)
        go_wp2_with fail
        go_ret
        exact ⟨⟨z, rfl, .inr ⟨HZ.out.1, hn, HF.out⟩⟩, rfl⟩
end Go.Proofs.Ytoemmaeglhdjnaa
