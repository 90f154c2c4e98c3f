/-
  A list of rows that is appended to; DiagonalsOf of the model.
-/
import Derived.Test.YtieekeodbflgfaaRowsR
import Derived.Test.YtieekeodbflgfaaTriGeo
import Derived.Test.YtieekeodbflgfaaDiagS
import Derived.Maps.AppendAt
namespace Go.Proofs.Ytieekeodbflgfaa
open Go.RowKit

theorem infoR : (Try.prog.info? 48).map (fun i => (i.zero, i.size, i.bytes)) = some (some (.slice none 0 0), 1, 24) := by kernel_rfl
/-- One row more. -/
theorem RowsR.snoc {w w1 w2 w3 : World} {B : Nat} {v v' : Value} {Rs : List Rw} {r : Rw} (h : RowsR w B v Rs) (h1 : w.grownBy w1 none) (hr : w1.ownsRow B 3 1 (hdr r) r.M.length (ints r.M)) (hlo : w.heap.size ≤ r.g)
    (h2 : w1.grownBy w2 none) (ho : w3.ownsRow B 48 1 v' (Rs.length + 1) (Rs.map hdr ++ [hdr r])) (h3 : w2.grownBy w3 v.ownBlock) (hl : v'.ownBlock = v.ownBlock ∨ v'.ownBlock = some w2.heap.size) : RowsR w3 B v' (Rs ++ [r]) := by
  have hrl := (hr.lt r.g rfl).2
  have hvl : ∀ b, v.ownBlock = some b → b < w.heap.size := fun b hb => (h.out.lt b hb).2
  have hs1 := h1.size; have hs2 := h2.size
  refine ⟨by simpa using ho, ?_, ?_, ?_⟩
  · intro x hx
    rcases List.mem_append.1 hx with hx | hx
    · exact (((h.row x hx).kept h1 (.inr (by simp [hdr_own]))).kept h2 (.inr (by simp [hdr_own]))).kept h3 (.inr (fun e => h.far x hx (by rw [← e, hdr_own])))
    · rw [List.mem_singleton.1 hx]
      refine (hr.kept h2 (.inr (by simp [hdr_own]))).kept h3 (.inr (fun e => ?_))
      have := hvl r.g (by rw [← e, hdr_own])
      omega
  · intro x hx e
    rcases hl with q | q
    · rw [q] at e
      rcases List.mem_append.1 hx with hx | hx
      · exact h.far x hx e
      · rw [List.mem_singleton.1 hx] at e
        have := hvl _ e
        omega
    · rw [q] at e
      have e := Option.some.inj e
      rcases List.mem_append.1 hx with hx | hx
      · have := (h.lt hx).2; omega
      · rw [List.mem_singleton.1 hx] at e; omega
  · rw [List.map_append]
    refine List.nodup_append.2 ⟨h.nodup, by simp, ?_⟩
    intro a ha b hb e
    obtain ⟨x, hx, rfl⟩ := List.mem_map.1 ha
    simp only [List.map_cons, List.map_nil, List.mem_singleton] at hb
    have := (h.lt hx).2
    omega
theorem nx_w {j : Int} (h : 0 ≤ j) (h2 : j ≤ 100) : wrap64 (j + 1) = j + 1 ∧ IntKind.i64.wrap (j + 1) = j + 1 := ⟨IntWalk.wrap64_in _ (by omega), IntWalk.i64_in _ (by omega)⟩
def pairsL (R : List (Int × Int)) : List (List Int) := R.map fun z => [z.1, z.2]
theorem pairs_snoc (R : List (Int × Int)) (z : Int × Int) : pairsL (R ++ [z]) = pairsL R ++ [[z.1, z.2]] := by simp [pairsL]
def diagsV (L : List (Int × Int)) : List (List Int) := bif polyB L then pairsL (allD L L.length) else []
/-- The answer is a list of rows that the call owns. -/
def ListsR (w : World) (M : List (List Int)) (e : Ending) (w' : World) : Prop := ∃ v Rs, e = .returned v ∧ RowsR w' w.heap.size v Rs ∧ Rs.map Rw.M = M ∧ Below w.heap.size w w'
set_option maxRecDepth 100000 in
set_option maxHeartbeats 2000000 in
theorem spec_diagonals (A : Option Addr) (c : Nat) (L : List (Int × Int)) (w : World) (hA : PtsA w A L) (hL : L.length ≤ 1048576) :
    Calls Try.prog 51 #[.slice A L.length c] w (ListsR w (diagsV L)) := by
  have PC := Lib.hid (spec_poly A c L w hA hL)
  cases hp : polyB L
  · have HU : Hid (ListsR w (diagsV L) = fun e w' => ∃ v Rs, e = .returned v ∧ RowsR w' w.heap.size v Rs ∧ Rs.map Rw.M = [] ∧ Below w.heap.size w w') := by
      show _ = _
      rw [diagsV, hp]; rfl
    rw [hp] at PC
    clear hA
    go_enter Try.func51, Try.ntmps51
    go_wp2_with fail
    refine PC.out.mono ?_
    rintro e w1 ⟨rfl, hb1⟩
    go_wp2_with fail
    go_ret
    rw [HU.out]
    exact ⟨_, [], rfl, rowsR_nil _ _, rfl, hb1⟩
  · obtain ⟨i0, hi0, hz0, hz1, hz2⟩ := info_parts infoR
    obtain ⟨h3, h10, hok⟩ := polyB_all hp
    have HU : Hid (ListsR w (diagsV L) = fun e w' => ∃ v Rs, e = .returned v ∧ RowsR w' w.heap.size v Rs ∧ Rs.map Rw.M = pairsL (allD L L.length) ∧ Below w.heap.size w w') := by
      show _ = _
      rw [diagsV, hp]; rfl
    have HE := Lib.hid (fun (i k : Nat) (hi : i < L.length) (hk : k < L.length) W (hb : Below w.heap.size w W) => diagS_any A c L i k W (ptsA_on hA hb) h3 h10 hok hi hk)
    rw [hp] at PC
    clear hA
    go_enter Try.func51, Try.ntmps51
    go_wp2_with fail
    refine PC.out.mono ?_
    rintro e w1 ⟨rfl, hb1⟩
    have HB1 := Lib.hid hb1
    clear hb1
    go_wp2_with fail
    go_loopw [3, 4, 5, 12] (fun s _ _ i wr => ∃ (k : Nat) (Rs : List Rw), k ≤ L.length ∧ i = .int .i64 k ∧ Hid (Rs.map Rw.M = pairsL (allD L k)) ∧ Hid (RowsR wr w.heap.size s Rs) ∧ Hid (Below w.heap.size w wr)) (fun _ _ _ i _ => L.length - (intOf i).toNat)
    case atStart => exact ⟨0, [], Nat.zero_le _, rfl, rfl, ⟨World.ownsRow_lit w1 #[] 0 HB1.out.size (Nat.zero_le _) rfl, fun r h => (by cases h), fun r h => (by cases h), by simp⟩, HB1.out.alloc HB1.out.size _⟩
    case round =>
      obtain ⟨wo, rfl⟩ : ∃ wo : World, wo = wr := ⟨_, rfl⟩
      obtain ⟨i, Rs, hi, rfl, HRL, HR, HB⟩ := hrel
      by_cases hlt : i < L.length
      · obtain ⟨f1, f1'⟩ := k_w hi (by omega)
        go_wp2_with fail
        clear f1 f1'
        go_loopw [3, 5] (fun s i2 wr => ∃ (k : Nat) (kv : Int) (Qs : List Rw), k ≤ L.length ∧ i < k ∧ Hid (kv = (k : Int)) ∧ i2 = .int .i64 kv ∧ Hid (Qs.map Rw.M = pairsL (allD L i ++ rowD L i k)) ∧ Hid (RowsR wr w.heap.size s Qs) ∧ Hid (Below w.heap.size w wr)) (fun _ i2 _ => L.length - (intOf i2).toNat)
        case atStart => exact ⟨i + 1, (i : Int) + 1, Rs, by omega, by omega, by show (i : Int) + 1 = ((i + 1 : Nat) : Int); omega, rfl, by show _ = _; rw [rowD_start, List.append_nil]; exact HRL.out, HR, HB⟩
        case round =>
          obtain ⟨wi, rfl⟩ : ∃ wi : World, wi = wr := ⟨_, rfl⟩
          obtain ⟨k, kv, Qs, hk, hik, HK, rfl, HQL, HQ, HBi⟩ := hrel
          by_cases hlk : k < L.length
          · have HC := HE.out i k hlt hlk _ HBi.out
            rw [← HK.out] at HC
            have HC' := Lib.hid HC
            have f7 : kv < (L.length : Int) := by have := HK.out; omega
            have f8 : 0 ≤ kv := by have := HK.out; omega
            have HS : Hid (allD L i ++ rowD L i (k + 1) = bif diagB L i k then allD L i ++ rowD L i k ++ [((i : Int), kv)] else allD L i ++ rowD L i k) := by
              show _ = _
              rw [rowD_step, decide_eq_true hik, Bool.true_and, HK.out]
              cases diagB L i k <;> simp
            have hQn : Qs.length ≤ 1000 := by
              have e := congrArg List.length HQL.out
              simp only [pairsL, List.length_map, List.length_append] at e
              have q1 := allD_len L i; have q2 := rowD_len L i k
              have q3 : i * L.length ≤ 10 * 10 := Nat.mul_le_mul (by omega) (by omega)
              omega
            have HNX : Hid (wrap64 (kv + 1) = kv + 1 ∧ IntKind.i64.wrap (kv + 1) = kv + 1) := nx_w f8 (by omega)
            clear HC
            go_wp2_with fail
            refine HC'.out.mono ?_
            rintro e w6 ⟨rfl, hb6⟩
            have HQ6 := Lib.hid (HQ.out.below hb6)
            have HB6 := Lib.hid (below_on HBi.out hb6)
            clear hb6 HC'
            cases hd : diagB L i k
            · have HT : Hid (Qs.map Rw.M = pairsL (allD L i ++ rowD L i (k + 1))) := by
                show _ = _
                rw [HS.out, hd]; exact HQL.out
              have f1 := HNX.out.1; have f1' := HNX.out.2
              go_wp2_with fail
              clear f1 f1'
              go_roundw
              case rel => exact ⟨k + 1, kv + 1, Qs, by omega, by omega, by show kv + 1 = ((k + 1 : Nat) : Int); have := HK.out; omega, rfl, HT, HQ6, HB6⟩
              case measure => simp [intOf]; have := HK.out; omega
            · have HT : Hid ((Qs ++ [Rw.mk w6.heap.size 2 [(i : Int), kv]]).map Rw.M = pairsL (allD L i ++ rowD L i (k + 1))) := by
                show _ = _
                rw [HS.out, hd, cond_true, pairs_snoc, ← HQL.out]; simp
              have hs6 := HB6.out.size
              have hown := HQ6.out.out
              go_wp2_with (at_builtin; refine wpList_append_own_at _ rfl _ _ 54 rfl w.heap.size 48 i0 (.slice none 0 0) 1 24 Try.underlying54 hi0 hz0 hz1 hz2 rfl (by decide) _ _ _ rfl ((hown.alloc _).alloc _) ⟨w6.heap.size + 1, 0, none⟩ 1 1 [hdr (Rw.mk w6.heap.size 2 [(i : Int), kv])] rfl rfl ?d1 ?d2 ?d3 ?d4 ?d5 ?_)
              case d1 =>
                have q := heap_alloc_new (w6.alloc (.cells #[.int .i64 (i : Int), .int .i64 kv] 3)) (.cells #[hdr (Rw.mk w6.heap.size 2 [(i : Int), kv])] 48)
                rw [size_alloc] at q
                exact World.news_of_block (cs := #[hdr (Rw.mk w6.heap.size 2 [(i : Int), kv])]) (t := 48) (fr := (0, 0)) q
              case d2 => simp [hdr, Value.oneCell']
              case d3 => unfold maxLen; omega
              case d4 => omega
              case d5 => simp; omega
              intro v' w7 own7 hgrow _ hloc
              have hrw := fun j hj => (hown.lt j hj).1
              have R7 : Hid (RowsR w7 w.heap.size v' (Qs ++ [Rw.mk w6.heap.size 2 [(i : Int), kv]])) :=
                HQ6.out.snoc (World.grownBy_alloc w6 _ none) (World.ownsRow_lit w6 #[.int .i64 (i : Int), .int .i64 kv] 2 hs6 (by decide) rfl) (Nat.le_refl _) (World.grownBy_alloc _ _ none) own7 hgrow (by rw [size_alloc, size_alloc]; exact hloc)
              have B7 : Hid (Below w.heap.size w w7) := ((HB6.out.alloc hs6 _).alloc (by simp; omega) _).grown hgrow (by simp; omega) hrw
              have f1 := HNX.out.1; have f1' := HNX.out.2
              clear own7 hgrow hloc hrw hown HQ6 HB6
              go_wp2_with fail
              clear f1 f1'
              go_roundw
              case rel => exact ⟨k + 1, kv + 1, _, by omega, by omega, by show kv + 1 = ((k + 1 : Nat) : Int); have := HK.out; omega, rfl, HT, R7, B7⟩
              case measure => simp [intOf]; have := HK.out; omega
          · have f7 : ¬ kv < (L.length : Int) := by have := HK.out; omega
            have HT : Hid (Qs.map Rw.M = pairsL (allD L (i + 1))) := by
              show _ = _
              rw [allD_step, ← show k = L.length from by omega]; exact HQL.out
            obtain ⟨f1, f1'⟩ := k_w hi (by omega)
            go_wp2_with fail
            clear f1 f1'
            go_roundw
            case rel => exact ⟨i + 1, Qs, by omega, by go_num, HT, HQ, HBi⟩
            case measure => simp [intOf]; omega
      · have e : i = L.length := by omega
        have HQ : Hid (Rs.map Rw.M = pairsL (allD L L.length)) := by
          show _ = _
          rw [HRL.out, e]
        clear HRL e
        go_wp2_with fail
        go_ret
        rw [HU.out]
        exact ⟨_, Rs, rfl, HR.out, HQ.out, HB.out⟩
end Go.Proofs.Ytieekeodbflgfaa
