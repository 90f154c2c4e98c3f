/-
  Walks and facts of this seat, part Ca (merged by a script of this repo out of smaller texts).
-/
import Derived.Test.YthoniopkeiifnaaBa
import Derived.Shelf.Sort.Plain
import Derived.Shelf.Slices.CompactI
import Derived.Test.YthoniopkeiifnaaProg
/-! SlShelf -/
namespace Go.Proofs
open Go.Shelf
def Try.lays189_ren : Go.Shelf.Ren := ⟨fun | 189 => 127 | 125 => 167 | 257 => 166 | 128 => 190 | 129 => 191 | 294 => 181 | 295 => 182 | 296 => 183 | 297 => 184 | 298 => 185 | 299 => 186 | 216 => 187 | 300 => 188 | 301 => 189 | 328 => 206 | 329 => 207 | 330 => 208 | 331 => 209 | 332 => 210 | 215 => 178 | 343 => 214 | n => n, fun | 28 => 22 | 3 => 3 | 46 => 131 | 0 => 0 | 51 => 147 | 53 => 149 | 4 => 4 | 183 => 142 | 182 => 141 | 131 => 119 | 5 => 5 | 9 => 9 | 218 => 156 | 222 => 160 | 228 => 165 | 229 => 59 | n => n, fun | n => n⟩
theorem Try.lays189 : Go.Proofs.Lays.n189 Try.prog Try.lays189_ren := {
  mixed := by kernel_rfl
  f125 := Try.func167.trans (congrArg some (by kernel_rfl))
  f128 := Try.func190.trans (congrArg some (by kernel_rfl))
  f129 := Try.func191.trans (congrArg some (by kernel_rfl))
  f189 := Try.func127.trans (congrArg some (by kernel_rfl))
  f215 := Try.func178.trans (congrArg some (by kernel_rfl))
  f216 := Try.func187.trans (congrArg some (by kernel_rfl))
  f257 := Try.func166.trans (congrArg some (by kernel_rfl))
  f294 := Try.func181.trans (congrArg some (by kernel_rfl))
  f295 := Try.func182.trans (congrArg some (by kernel_rfl))
  f296 := Try.func183.trans (congrArg some (by kernel_rfl))
  f297 := Try.func184.trans (congrArg some (by kernel_rfl))
  f298 := Try.func185.trans (congrArg some (by kernel_rfl))
  f299 := Try.func186.trans (congrArg some (by kernel_rfl))
  f300 := Try.func188.trans (congrArg some (by kernel_rfl))
  f301 := Try.func189.trans (congrArg some (by kernel_rfl))
  f328 := Try.func206.trans (congrArg some (by kernel_rfl))
  f329 := Try.func207.trans (congrArg some (by kernel_rfl))
  f330 := Try.func208.trans (congrArg some (by kernel_rfl))
  f331 := Try.func209.trans (congrArg some (by kernel_rfl))
  f332 := Try.func210.trans (congrArg some (by kernel_rfl))
  f343 := Try.func214.trans (congrArg some (by kernel_rfl))
  t0 := Try.underlying0
  a0 := Try.isAgg0
  z0 := Try.sizeOf0
  v0 := Try.zeroValue0
  t3 := Try.underlying3
  a3 := Try.isAgg3
  z3 := Try.sizeOf3
  v3 := Try.zeroValue3
  t4 := Try.underlying4
  a4 := Try.isAgg4
  z4 := Try.sizeOf4
  v4 := Try.zeroValue4
  t5 := Try.underlying5
  a5 := Try.isAgg5
  z5 := Try.sizeOf5
  v5 := Try.zeroValue5
  t9 := Try.underlying9
  a9 := Try.isAgg9
  z9 := Try.sizeOf9
  v9 := Try.zeroValue9
  t28 := Try.underlying22
  a28 := Try.isAgg22
  z28 := Try.sizeOf22
  v28 := Try.zeroValue22
  t46 := Try.underlying131
  a46 := Try.isAgg131
  z46 := Try.sizeOf131
  v46 := Try.zeroValue131
  t51 := Try.underlying147
  a51 := Try.isAgg147
  z51 := Try.sizeOf147
  v51 := Try.zeroValue147
  t53 := Try.underlying149
  a53 := Try.isAgg149
  z53 := Try.sizeOf149
  v53 := Try.zeroValue149
  t131 := Try.underlying119
  a131 := Try.isAgg119
  z131 := Try.sizeOf119
  v131 := Try.zeroValue119
  t182 := Try.underlying141
  a182 := Try.isAgg141
  z182 := Try.sizeOf141
  v182 := Try.zeroValue141
  t183 := Try.underlying142
  a183 := Try.isAgg142
  z183 := Try.sizeOf142
  v183 := Try.zeroValue142
  t218 := Try.underlying156
  a218 := Try.isAgg156
  z218 := Try.sizeOf156
  v218 := Try.zeroValue156
  t222 := Try.underlying160
  a222 := Try.isAgg160
  z222 := Try.sizeOf160
  v222 := Try.zeroValue160
  t228 := Try.underlying165
  a228 := Try.isAgg165
  z228 := Try.sizeOf165
  v228 := Try.zeroValue165
  t229 := Try.underlying59
  a229 := Try.isAgg59
  z229 := Try.sizeOf59
  v229 := Try.zeroValue59 }
open Go.Sort Go.RowKit in
theorem Try.slices_Sort_int (blk off cap : Nat) (zs : List Int) (w : World) (hH : Holds (Value.int .i64) w blk off zs.toArray) (hblk : blk < w.heap.size) (hsz : zs.length < 4611686018427387904) :
    Calls Try.prog 127 #[.slice (some ⟨blk, off, none⟩) zs.length cap] w fun e w' =>
      e = .returned (.tuple #[]) ∧ ∃ n os, w' = grow (putRow (Value.int .i64) (Sort.ahead w n) blk off (zs.mergeSort fun x y => decide (x ≤ y)).toArray) os := Any.slices_Sort_int Try.lays189 blk off cap zs w hH hblk hsz
def Try.laysNm220_ren : Go.Shelf.Ren := ⟨fun | 20 => 82 | n => n, fun | 0 => 0 | 3 => 3 | 4 => 4 | 22 => 22 | n => n, fun | n => n⟩
theorem Try.laysNm220 : Go.Proofs.Lays2.n20 Try.prog Try.laysNm220_ren := {
  mixed := by kernel_rfl
  f20 := Try.func82.trans (congrArg some (by kernel_rfl))
  t0 := Try.underlying0
  a0 := Try.isAgg0
  z0 := Try.sizeOf0
  v0 := Try.zeroValue0
  t3 := Try.underlying3
  a3 := Try.isAgg3
  z3 := Try.sizeOf3
  v3 := Try.zeroValue3
  t4 := Try.underlying4
  a4 := Try.isAgg4
  z4 := Try.sizeOf4
  v4 := Try.zeroValue4
  t22 := Try.underlying22
  a22 := Try.isAgg22
  z22 := Try.sizeOf22
  v22 := Try.zeroValue22
  i3 := by kernel_rfl }
open Go.RowKit Go.Lib Go.Sort in
theorem Try.slices_Compact_int (blk off cap : Nat) (zs : List Int) (w : World) (hH : Holds (Value.int .i64) w blk off zs.toArray) (hsz : zs.length ≤ 9223372036854775807) (hcap : zs.length ≤ cap) :
    Calls Try.prog 82 #[.slice (some ⟨blk, off, none⟩) zs.length cap] w fun e w' => e = .returned (.slice (some ⟨blk, off, none⟩) (Lib.compact zs).length cap) ∧ ∃ q, w' = putRow (Value.int .i64) (Sort.ahead w q) blk off (Lib.compact zs ++ List.replicate (zs.length - (Lib.compact zs).length) 0).toArray := Any.slices_Compact_int Try.laysNm220 blk off cap zs w hH hsz hcap
end Go.Proofs

/-! OwnI -/
namespace Go.Proofs.Ythoniopkeiifnaa
open Go.RowKit Go.Sort

section
variable {α : Type} [Inhabited α] (enc : α → Value)
theorem holds_gI {w : World} {g : Nat} {cur : Array Value} {e : TypeId} {ss : List α} (hb : w.heap[g]? = some (.cells cur e (0, 0))) (ht : cur.toList.take ss.length = ss.map enc) : Go.Sort.Holds enc w g 0 ss.toArray := by
  intro j hj
  have hj' : j < ss.length := by simpa using hj
  refine ⟨?_, by simp [World.frozen?, hb]⟩
  have h1 : (cur.toList.take ss.length)[j]? = (ss.map enc)[j]? := by rw [ht]
  rw [List.getElem?_take_of_lt hj'] at h1
  simp only [World.cell?, hb, Nat.zero_add]
  simp only [Option.isSome_none, Bool.false_eq_true, if_false]
  rw [← Array.getElem?_toList, h1]
  simp [hj']
theorem grown_I {w : World} {g n : Nat} {os : Array Obj} (d : Array α) : w.grownBy (grow (putRow enc (Go.Sort.ahead w n) g 0 d) os) (some g) := by
  refine ⟨rfl, rfl, rfl, by simp, fun k hk hne => ?_⟩
  rw [heap_grow_old _ _ (by simpa using hk)]
  have : g ≠ k := fun e => hne (by rw [e])
  simp [putRow, mapBlock, Go.Sort.ahead, Array.getElem?_modify, this]
theorem owns_I {w : World} {base g cap n m : Nat} {e : TypeId} {os : Array Obj} {cur : Array Value} {ts : List α} (hl : ts.length = n) (hbase : base ≤ g) (hb : w.heap[g]? = some (.cells cur e (0, 0)))
    (h1 : n ≤ cap) (h2 : cap ≤ maxLen) (h3 : cur.size = cap * 1) :
    (grow (putRow enc (Go.Sort.ahead w m) g 0 ts.toArray) os).ownsRow base e 1 (.slice (some ⟨g, 0, none⟩) n cap) n (ts.map enc) := by
  have hg : g < w.heap.size := (Array.getElem?_eq_some_iff.1 hb).1
  have hh : (grow (putRow enc (Go.Sort.ahead w m) g 0 ts.toArray) os).heap[g]? = some (.cells (putCells enc 0 ts.toArray cur) e (0, 0)) := by
    rw [heap_grow_old _ _ (by simpa using hg)]
    simp [putRow, mapBlock, Go.Sort.ahead, Array.getElem?_modify, hb, onCells]
  have ht : (putCells enc 0 ts.toArray cur).toList.take n = ts.map enc := by
    subst hl
    apply List.ext_getElem?
    intro j
    by_cases hj : j < ts.length
    · rw [List.getElem?_take_of_lt hj, Array.getElem?_toList]
      simp [putCells, hj, show j < cur.size by omega]
    · rw [List.getElem?_take_eq_none (by omega), List.getElem?_eq_none (by simp; omega)]
  exact ⟨by simp [hl], .inr ⟨g, cap, _, rfl, hbase, hh, h1, h2, by simp [putCells, h3], by rw [Nat.mul_one]; exact ht⟩⟩
end
theorem own_open {w : World} {B g n cap : Nat} {e : TypeId} {M : List Int} (h : w.ownsRow B e 1 (.slice (some ⟨g, 0, none⟩) n cap) n (ints M)) :
    ∃ cur, B ≤ g ∧ w.heap[g]? = some (.cells cur e (0, 0)) ∧ n ≤ cap ∧ cap ≤ maxLen ∧ cur.size = cap * 1 ∧ cur.toList.take n = ints M := by
  rcases h.2 with ⟨h1, _⟩ | ⟨g', cap', cur, hv, hB, hg, hn, hc, hs, ht⟩
  · cases h1
  simp only [Value.slice.injEq, Option.some.injEq, Addr.mk.injEq, and_true, true_and] at hv
  obtain ⟨rfl, rfl⟩ := hv
  rw [Nat.mul_one] at ht
  exact ⟨cur, hB, hg, hn, hc, hs, ht⟩
theorem own_cut {w : World} {B g n k cap : Nat} {e : TypeId} {M : List Int} (h : w.ownsRow B e 1 (.slice (some ⟨g, 0, none⟩) n cap) n (ints M)) (hl : M.length = n) (hk : k ≤ n) :
    w.ownsRow B e 1 (.slice (some ⟨g, 0, none⟩) k cap) k (ints (M.take k)) := by
  obtain ⟨cur, hB, hg, hn, hc, hs, ht⟩ := own_open h
  refine ⟨by rw [ints_len, List.length_take]; omega, .inr ⟨g, cap, cur, rfl, hB, hg, by omega, hc, hs, ?_⟩⟩
  have : (cur.toList.take n).take k = (ints M).take k := by rw [ht]
  rw [List.take_take, Nat.min_eq_left hk] at this
  rw [Nat.mul_one, this, ints, ints, List.map_take]
theorem sortI_any (B g cap n : Nat) (M : List Int) (w : World) (own : w.ownsRow B 3 1 (.slice (some ⟨g, 0, none⟩) n cap) n (ints M)) (hl : M.length = n) (hn : n ≤ 1048576) :
    Calls Try.prog 127 #[.slice (some ⟨g, 0, none⟩) n cap] w fun e w' => e = .returned (.tuple #[]) ∧ w'.ownsRow B 3 1 (.slice (some ⟨g, 0, none⟩) n cap) n (ints (M.mergeSort fun x y => decide (x ≤ y))) ∧ w.grownBy w' (some g) := by
  obtain ⟨cur, hB, hg, h1, h2, h3, ht⟩ := own_open own
  have h := Try.slices_Sort_int g 0 cap M w (holds_gI _ hg (by rw [hl]; exact ht)) (Array.getElem?_eq_some_iff.1 hg).1 (by omega)
  rw [hl] at h
  refine h.mono ?_
  rintro e w' ⟨rfl, m, os, rfl⟩
  exact ⟨rfl, owns_I (Value.int .i64) (by rw [List.length_mergeSort]; exact hl) hB hg h1 h2 h3, grown_I _ _⟩
end Go.Proofs.Ythoniopkeiifnaa

/-! Per12 -/
namespace Go.Proofs.Ythoniopkeiifnaa
open Go.RowKit Go.Sort

def PerP (w h : Int) (X : List Int) : Prop := (corV w h X).2 = true ∧ X.Nodup
theorem nodup_hI {X : List Int} : X.Nodup ↔ ∀ i j, i < j → j < X.length → hI X i ≠ hI X j := by
  rw [List.Nodup, List.pairwise_iff_getElem]
  constructor
  · intro h i j hij hj
    rw [hI_at (by omega), hI_at hj]
    exact h i j (by omega) hj hij
  · intro h i j hi hj hij
    have := h i j hij hj
    rw [hI_at hi, hI_at hj] at this
    exact this
theorem keeps_hI {Z : List Int} {j : Nat} (hj : j < Z.length) : Lib.keeps Z.toArray j = true ↔ j = 0 ∨ hI Z j ≠ hI Z (j - 1) := by
  unfold Lib.keeps
  rw [decide_eq_true_eq]
  have e1 : Z.toArray[j]! = hI Z j := by simp [hI, hj]
  have e2 : Z.toArray[j - 1]! = hI Z (j - 1) := by simp [hI, show j - 1 < Z.length by omega]
  rw [e1, e2]
theorem compact_len_iff (Z : List Int) : (Lib.compact Z).length = Z.length ↔ ∀ j, j < Z.length → (j = 0 ∨ hI Z j ≠ hI Z (j - 1)) := by
  unfold Lib.compact Lib.compactUpTo
  rw [List.length_map]
  have e := List.length_filter_eq_length_iff (p := Lib.keeps Z.toArray) (l := List.range Z.length)
  rw [List.length_range] at e
  rw [e]
  constructor
  · intro h j hj
    exact (keeps_hI hj).1 (h j (List.mem_range.2 hj))
  · intro h j hj
    exact (keeps_hI (List.mem_range.1 hj)).2 (h j (List.mem_range.1 hj))
theorem sorted_hI (X : List Int) : ∀ i j, i ≤ j → j < (X.mergeSort fun x y => decide (x ≤ y)).length → hI (X.mergeSort fun x y => decide (x ≤ y)) i ≤ hI (X.mergeSort fun x y => decide (x ≤ y)) j := by
  have hs := List.pairwise_mergeSort (le := fun x y : Int => decide (x ≤ y)) (fun a b c h1 h2 => by simp only [decide_eq_true_eq] at *; omega) (fun a b => by simp only [Bool.or_eq_true, decide_eq_true_eq]; omega) X
  rw [List.pairwise_iff_getElem] at hs
  intro i j hij hj
  rcases Nat.lt_or_ge i j with h | h
  · rw [hI_at (by omega), hI_at hj]
    have := hs i j (by omega) hj h
    simpa using this
  · obtain rfl : i = j := by omega
    exact Int.le_refl _
/-- As many numbers are left as there were, exactly if no two are alike. -/
theorem perf_len (X : List Int) : (Lib.compact (X.mergeSort fun x y => decide (x ≤ y))).length = X.length ↔ X.Nodup := by
  have hl : (X.mergeSort fun x y => decide (x ≤ y)).length = X.length := List.length_mergeSort ..
  have hp : (X.mergeSort fun x y => decide (x ≤ y)).Perm X := List.mergeSort_perm ..
  rw [← hp.nodup_iff, ← hl, compact_len_iff, nodup_hI]
  have hs := sorted_hI X
  generalize (X.mergeSort fun x y => decide (x ≤ y)) = Z at *
  constructor
  · intro h i j hij hj
    have h1 := h j hj
    have h2 := hs i (j - 1) (by omega) (by omega)
    have h3 := hs (j - 1) j (by omega) hj
    rcases h1 with h1 | h1
    · omega
    · omega
  · intro h j hj
    rcases Nat.eq_zero_or_pos j with h0 | h0
    · exact .inl h0
    · exact .inr (fun e => h (j - 1) j (by omega) hj e.symm)
theorem corV_ne {w h : Int} {X : List Int} (e : (corV w h X).2 = true) : 1 ≤ X.length ∧ X.length ≤ 40 := by
  unfold corV at e
  cases hok : corOk w h X
  · rw [hok] at e; cases e
  · rw [hok] at e
    unfold corOk at hok
    simp only [Bool.and_eq_true, decide_eq_true_eq] at hok
    obtain ⟨k1, k2, k3, k4⟩ := hok
    refine ⟨?_, k3⟩
    rcases Nat.eq_zero_or_pos X.length with h0 | h0
    · exfalso
      obtain rfl := List.eq_nil_of_length_eq_zero h0
      have hw := inB_spec.1 k1
      have hh := inB_spec.1 k2
      simp only [cond_true, List.map_nil, corN, goC] at e
      split at e
      · next q =>
        have := q 0 (List.mem_replicate.2 ⟨by omega, rfl⟩)
        omega
      · cases e
    · exact h0
set_option maxRecDepth 100000 in
set_option maxHeartbeats 2000000 in
theorem spec_per (w h : Int) (A : Option Addr) (c : Nat) (X : List Int) (W : World) (hA : IntsA W A X) (hL : X.length ≤ 1048576) (hc : X.length ≤ c) :
    Calls Try.prog 35 #[.int .i64 w, .int .i64 h, .slice A X.length c] W fun e w' => ∃ v, e = .returned (.bool v) ∧ (v = true ↔ PerP w h X) ∧ Below W.heap.size W w' := by
  have HS := Lib.hid (spec_sqd w h A c X W hA hL)
  have HA := Lib.hid hA
  clear hA
  by_cases hv : (corV w h X).2 = true
  case neg =>
    have R : Hid (∀ w', Below W.heap.size W w' → ∃ v, Ending.returned (.bool false) = .returned (.bool v) ∧ (v = true ↔ PerP w h X) ∧ Below W.heap.size W w') := fun w' hb => ⟨false, rfl, ⟨fun q => (by cases q), fun q => absurd q.1 hv⟩, hb⟩
    have HVV := Lib.hid hv
    clear hv
    go_enter Try.func35, Try.ntmps35
    go_wp2_with fail
    refine HS.out.mono ?_
    rintro e w1 ⟨v, rfl, h1, hb⟩
    obtain rfl : v = false := by
      cases v
      · rfl
      · exact absurd (h1.1 rfl) HVV.out
    have RR := Lib.hid (R.out _ hb)
    clear h1 hb R
    go_wp2_with fail
    go_ret
    exact RR.out
  have hn := corV_ne hv
  have HND : Hid (PerP w h X ↔ X.Nodup) := ⟨fun q => q.2, fun q => ⟨hv, q⟩⟩
  have HVV := Lib.hid hv
  clear hv
  go_enter Try.func35, Try.ntmps35
  go_wp2_with fail
  refine HS.out.mono ?_
  rintro e w1 ⟨v, rfl, h1, hb⟩
  obtain rfl : v = true := h1.2 HVV.out
  have HB := Lib.hid hb
  clear h1 hb HS HVV
  go_wp2_with fail
  go_loopw [7, 8, 10, 18] (fun _ _ _ i wr => ∃ k : Nat, k ≤ X.length ∧ i = .int .i64 k ∧ Hid (∀ p q, p < q → q < k → hI X p ≠ hI X q) ∧ wr = w1) (fun _ _ _ i _ => X.length - (intOf i).toNat)
  case atStart => exact ⟨0, Nat.zero_le _, rfl, fun p q _ h => absurd h (Nat.not_lt_zero q), rfl⟩
  case round =>
    obtain ⟨k, hk, rfl, HN, rfl⟩ := hrel
    by_cases hlt : k < X.length
    · obtain ⟨g, rfl, hck⟩ := intsA_on HA.out HB.out k hlt
      rw [← hI_at hlt] at hck
      have HC : Hid (∀ q, q < X.length → wr.cell? ⟨g, q, none⟩ = some (.int .i64 (hI X q))) := fun q hq => hI_ints (intsA_on HA.out HB.out) hq
      have hkc : (k : Int) ≤ (c : Int) := by omega
      obtain ⟨z, hz⟩ : ∃ z, z = hI X k := ⟨_, rfl⟩
      rw [← hz] at hck
      have HZ := Lib.hid hz
      clear hz
      go_wp2_with fail
      go_loopw [10, 27] (fun _ i wz => ∃ q : Nat, q ≤ k ∧ i = .int .i64 q ∧ Hid (∀ p, p < q → hI X p ≠ z) ∧ wz = wr) (fun _ i _ => k - (intOf i).toNat)
      case atStart => exact ⟨0, Nat.zero_le _, rfl, fun p h => absurd h (Nat.not_lt_zero p), rfl⟩
      case round =>
        obtain ⟨q, hq, rfl, HQ, hww⟩ := hrel
        subst hww
        by_cases hql : q < k
        · have hcq := HC.out q (by omega)
          have hq2 : (q : Int) < (k : Int) := by omega
          obtain ⟨y, hy⟩ : ∃ y, y = hI X q := ⟨_, rfl⟩
          rw [← hy] at hcq
          by_cases hzy : z = y
          · have R : Hid (∃ v, Ending.returned (.bool false) = .returned (.bool v) ∧ (v = true ↔ PerP w h X) ∧ Below W.heap.size W wr) := ⟨false, rfl, ⟨fun f => (by cases f), fun f => absurd (by rw [← hy, ← HZ.out, hzy]) (nodup_hI.1 (HND.out.1 f) q k hql hlt)⟩, HB.out⟩
            clear hy
            subst hzy
            go_wp2_with fail
            go_ret
            exact R.out
          · have HQ2 : Hid (∀ p, p < q + 1 → hI X p ≠ z) := fun p hp => by
              rcases Nat.lt_or_ge p q with h1 | h1
              · exact HQ.out p h1
              · obtain rfl : p = q := by omega
                rw [← hy]; exact fun e => hzy e.symm
            have hne : (z == y) = false := by rw [beq_eq_false_iff_ne]; exact hzy
            clear hy hzy
            go_wp2_with fail
            go_roundw
            case rel => exact ⟨q + 1, by omega, by go_num, HQ2, by first | trivial | rfl⟩
            case measure => simp [intOf]; omega
        · obtain rfl : q = k := by omega
          have HN2 : Hid (∀ p t, p < t → t < q + 1 → hI X p ≠ hI X t) := fun p t h1 h2 => by
            rcases Nat.lt_or_ge t q with h3 | h3
            · exact HN.out p t h1 h3
            · obtain rfl : t = q := by omega
              rw [← HZ.out]; exact HQ.out p h1
          go_wp2_with fail
          go_roundw
          case rel => exact ⟨q + 1, by omega, by go_num, HN2, by first | trivial | rfl⟩
          case measure => simp [intOf]; omega
    · obtain rfl : k = X.length := by omega
      have R : Hid (∃ v, Ending.returned (.bool true) = .returned (.bool v) ∧ (v = true ↔ PerP w h X) ∧ Below W.heap.size W wr) := ⟨true, rfl, ⟨fun _ => HND.out.2 (nodup_hI.2 fun i j h1 h2 => HN.out i j h1 h2), fun _ => rfl⟩, HB.out⟩
      go_wp2_with fail
      go_ret
      exact R.out
theorem own_some12 {w : World} {B n : Nat} {e : TypeId} {v : Value} {xs : List Value} (h : w.ownsRow B e 1 v n xs) (h0 : 0 < n) : ∃ g cap, v = .slice (some ⟨g, 0, none⟩) n cap ∧ n ≤ cap ∧ cap ≤ maxLen := by
  rcases h.2 with ⟨_, h1⟩ | ⟨g, cap, cur, hv, _, _, h2, h3, _⟩
  · omega
  · exact ⟨g, cap, hv, h2, h3⟩
set_option maxRecDepth 100000 in
set_option maxHeartbeats 2000000 in
theorem sorted_any12 (A : Option Addr) (c Bs : Nat) (X : List Int) (w : World) (hA : IntsA w A X) (h1 : 1 ≤ X.length) (h2 : X.length ≤ 1048576) (hBl : Bs < w.heap.size) (hBs : w.cell? ⟨Bs, 0, none⟩ = some (.slice A X.length c)) :
    Calls Try.prog 83 #[.func (.func 128) #[] #[.pointer (some ⟨Bs, 0, none⟩)]] w (ListsI w (X.mergeSort fun x y => decide (x ≤ y))) := by
  have HC := Lib.hid (collect_any A c Bs X w hA h1 h2 hBl hBs)
  unfold ListsI at HC
  have hl : (X.mergeSort fun x y => decide (x ≤ y)).length = X.length := List.length_mergeSort ..
  have HR : Hid (∀ v w', w'.ownsRow w.heap.size 3 1 v X.length (ints (X.mergeSort fun x y => decide (x ≤ y))) → Below w.heap.size w w' → ListsI w (X.mergeSort fun x y => decide (x ≤ y)) (.returned v) w') := fun v w' a b => ⟨v, rfl, by rw [hl]; exact a, b⟩
  clear hA hBs hl
  go_enter Try.func83, Try.ntmps83
  go_wp2_with fail
  refine HC.out.mono ?_
  rintro e w1 ⟨v, rfl, own, hb⟩
  obtain ⟨g, cap, rfl, hcap, -⟩ := own_some12 own h1
  have hg := (own.lt g rfl).1
  have HST := Lib.hid (sortI_any w.heap.size g cap X.length X w1 own rfl h2)
  have HB := Lib.hid hb
  clear own hb
  go_wp2_with fail
  refine HST.out.mono ?_
  rintro e w2 ⟨rfl, own2, hgr⟩
  have R := Lib.hid (HR.out _ _ own2 (HB.out.grown hgr HB.out.size (fun k hk => by cases hk; exact hg)))
  clear own2 hgr HR
  go_wp2_with fail
  go_ret
  exact R.out
theorem compact_any12 (B g cap n : Nat) (M : List Int) (w : World) (own : w.ownsRow B 3 1 (.slice (some ⟨g, 0, none⟩) n cap) n (ints M)) (hl : M.length = n) (hn : n ≤ 1048576) :
    Calls Try.prog 82 #[.slice (some ⟨g, 0, none⟩) n cap] w fun e w' => e = .returned (.slice (some ⟨g, 0, none⟩) (Lib.compact M).length cap) ∧ w.grownBy w' (some g) := by
  obtain ⟨cur, hB, hg, h1, h2, h3, ht⟩ := own_open own
  have h := Try.slices_Compact_int g 0 cap M w (holds_gI _ hg (by rw [hl]; exact ht)) (by omega) (by omega)
  rw [hl] at h
  refine h.mono ?_
  rintro e w' ⟨rfl, q, rfl⟩
  refine ⟨rfl, ?_⟩
  have gr := grown_I (w := w) (g := g) (n := q) (os := #[]) (Value.int .i64) (Lib.compact M ++ List.replicate (n - (Lib.compact M).length) 0).toArray
  rw [grow_empty] at gr
  exact gr
set_option maxRecDepth 100000 in
set_option maxHeartbeats 2000000 in
theorem impl_per (w h : Int) (A : Option Addr) (c : Nat) (X : List Int) (W : World) (hA : IntsA W A X) (hL : X.length ≤ 1048576) :
    Calls Try.prog 36 #[.int .i64 w, .int .i64 h, .slice A X.length c] W fun e w' => ∃ v, e = .returned (.bool v) ∧ (v = true ↔ PerP w h X) ∧ Below W.heap.size W w' := by
  have HS := Lib.hid (impl_sqd w h A c X W hA hL)
  have HA := Lib.hid hA
  clear hA
  by_cases hv : (corV w h X).2 = true
  case neg =>
    have R : Hid (∀ w', Below W.heap.size W w' → ∃ v, Ending.returned (.bool false) = .returned (.bool v) ∧ (v = true ↔ PerP w h X) ∧ Below W.heap.size W w') := fun w' hb => ⟨false, rfl, ⟨fun q => (by cases q), fun q => absurd q.1 hv⟩, hb⟩
    have HVV := Lib.hid hv
    clear hv
    go_enter Try.func36, Try.ntmps36
    go_wp2_with fail
    refine HS.out.mono ?_
    rintro e w1 ⟨v, rfl, h1, hb⟩
    obtain rfl : v = false := by
      cases v
      · rfl
      · exact absurd (h1.1 rfl) HVV.out
    have RR := Lib.hid (R.out _ hb)
    clear h1 hb R
    go_wp2_with fail
    go_ret
    exact RR.out
  have hn := corV_ne hv
  have HND : Hid (PerP w h X ↔ (Lib.compact (X.mergeSort fun x y => decide (x ≤ y))).length = X.length) := by
    show _ ↔ _
    rw [perf_len]
    exact ⟨fun q => q.2, fun q => ⟨hv, q⟩⟩
  have HVV := Lib.hid hv
  clear hv
  have hml : (X.mergeSort fun x y => decide (x ≤ y)).length = X.length := List.length_mergeSort ..
  have HML := Lib.hid hml
  clear hml
  go_enter Try.func36, Try.ntmps36
  go_wp2_with fail
  refine HS.out.mono ?_
  rintro e w1 ⟨v, rfl, h1, hb⟩
  obtain rfl : v = true := h1.2 HVV.out
  have hb2 := below1 w1 (.cells #[.slice A X.length c] 22)
  have HSO := Lib.hid (sorted_any12 A c w1.heap.size X _ (intsA_on (intsA_on HA.out hb) hb2) hn.1 hL (by simp) (Boxed.new w1 22 (.slice A X.length c)).cell)
  unfold ListsI at HSO
  have HB := Lib.hid (below_on hb hb2)
  clear h1 hb hb2 HS HVV
  go_wp2_with fail
  refine (values_any A X.length c w1).mono ?_
  rintro e w2 ⟨rfl, rfl⟩
  go_wp2_with fail
  refine HSO.out.mono ?_
  rintro e w3 ⟨v, rfl, own, hb3⟩
  rw [HML.out] at own
  obtain ⟨g, cap, rfl, hcap, -⟩ := own_some12 own hn.1
  have hg := (own.lt g rfl).1
  have HCM := Lib.hid (compact_any12 _ g cap X.length _ w3 own HML.out hL)
  have HB3 := Lib.hid (below_on HB.out hb3)
  have hs3 := hb3.size
  have hs1 := HB.out.size
  clear own hb3 HSO
  obtain ⟨m, hm⟩ : ∃ m, m = (Lib.compact (X.mergeSort fun x y => decide (x ≤ y))).length := ⟨_, rfl⟩
  rw [← hm] at HCM HND
  clear hm
  go_wp2_with fail
  refine HCM.out.mono ?_
  rintro e w4 ⟨rfl, hgr⟩
  have R : Hid (∀ v : Bool, (v = true ↔ (m : Int) = (X.length : Int)) → ∃ u, Ending.returned (.bool v) = .returned (.bool u) ∧ (u = true ↔ PerP w h X) ∧ Below W.heap.size W w4) := fun v hv => ⟨v, rfl, by rw [hv, HND.out]; omega, HB3.out.grown hgr HB3.out.size (fun k hk => by cases hk; omega)⟩
  clear hgr HB3 HND
  go_wp2_with fail
  go_ret
  exact R.out _ (by simp)
end Go.Proofs.Ythoniopkeiifnaa

/-! Law12E -/
namespace Go.Proofs.Ythoniopkeiifnaa
open Go.RowKit

set_option maxRecDepth 100000 in
set_option maxHeartbeats 4000000 in
theorem ex_per (w h : Int) (AX : Option Addr) (cX : Nat) (X : List Int) (W : World) (hX : ArgI W AX X) (_lX : X.length ≤ maxLen) :
    Calls Try.prog 10 #[.int .i64 w, .int .i64 h, .slice AX X.length cX] W fun e w' => e = .returned (.bool true) ∧ Below W.heap.size W w' := by
  by_cases hsX : X.length ≤ 1048576
  case neg =>
    have hq : ((1048576 : Int) < (X.length : Int)) := by omega
    clear hX hsX
    unfold maxLen at *
    go_enter Try.func10, Try.ntmps10
    go_wp2_with fail
    go_ret
    exact ⟨rfl, Below.refl _ _⟩
  have HS := Lib.hid (fun AX W hX => spec_per w h AX X.length X W hX hsX (Nat.le_refl _))
  have HI := Lib.hid (fun AX cX W hX => impl_per w h AX cX X W hX hsX)
  have HTX := Lib.hid (fun W h => toI_any AX cX X W h hsX)
  have HAX := Lib.hid hX
  have hnX : ¬ ((1048576 : Int) < (X.length : Int)) := by omega
  have HZX := Lib.hid hsX
  clear hX _lX hsX
  go_enter Try.func10, Try.ntmps10
  go_wp2_with fail
  refine (HTX.out _ HAX.out).mono ?_
  rintro e w1 ⟨rfl, osX, hb1⟩
  have b1 := hb1
  clear hb1
  go_wp2_with fail
  have psX := intsA_of osX
  clear osX
  refine (HS.out _ _ psX).mono ?_
  rintro e w2 ⟨v, rfl, hv, hb2⟩
  have HV := Lib.hid hv
  clear hv
  have b2 := below_on b1 hb2
  clear hb2 b1
  clear psX
  go_wp2_with fail
  refine (HTX.out _ (HAX.out.step b2)).mono ?_
  rintro e w3 ⟨rfl, oxX, hb3⟩
  have b3 := below_on b2 hb3
  replace oxX := own_base oxX b2.size
  clear hb3 b2
  go_wp2_with fail
  have psX := intsA_of oxX
  refine (HI.out _ _ _ psX).mono ?_
  rintro e w4 ⟨v', rfl, hv', hb4⟩
  obtain rfl : v = v' := by rw [Bool.eq_iff_iff, HV.out, hv']
  clear hv'
  have b4 := below_on b3 hb4
  replace oxX := own_below oxX hb4
  clear hb4 b3
  clear psX
  go_wp2_with fail
  refine (HTX.out _ (HAX.out.step b4)).mono ?_
  rintro e w5 ⟨rfl, oy, hb5⟩
  have ap_oxX_oy := own_apart_g oxX (Nat.le_refl _) oy
  have ap_oy_oxX := own_apart_g' oxX (Nat.le_refl _) oy
  have b5 := below_on b4 hb5
  replace oxX := own_below oxX hb5
  replace oy := own_base oy b4.size
  clear hb5 b4
  go_wp2_with fail
  refine (eq_ints _ _ _ _ X _ (intsA_of oxX) (intsA_of oy) HZX.out).mono ?_
  rintro e w6 ⟨rfl, hb6⟩
  have b6 := below_on b5 hb6
  replace oxX := own_below oxX hb6
  replace oy := own_below oy hb6
  clear hb6 b5
  clear oy ap_oxX_oy ap_oy_oxX
  go_wp2_with fail
  go_ret
  exact ⟨rfl, b6⟩
end Go.Proofs.Ythoniopkeiifnaa
