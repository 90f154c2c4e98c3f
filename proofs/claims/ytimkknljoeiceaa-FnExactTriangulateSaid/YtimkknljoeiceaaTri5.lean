/-
  Walks and facts of this seat: TriG, OwnI, Three, Key, Diags, FirstE, RowsR, Tri, TriGeo, RowsD, Law5F, TriI, Float, TriM, Law5T (merged by a script of this repo out of smaller texts).
-/
import Derived.Test.YtimkknljoeiceaaCut
import Derived.Test.YtimkknljoeiceaaSlShelf
import Derived.Test.YtimkknljoeiceaaInts
import Derived.Test.YtimkknljoeiceaaPt
import Derived.Maps.OwnSet
import Derived.Maps.RangeWalk
import Derived.DeepKeys4
import Derived.Test.YtimkknljoeiceaaDiagJ
import Derived.Test.YtimkknljoeiceaaEar
import Derived.Test.YtimkknljoeiceaaIntsLaw
import Derived.Test.YtimkknljoeiceaaProg
import Derived.Test.YtimkknljoeiceaaDiagS
import Derived.Maps.AppendAt
import Derived.Test.YtimkknljoeiceaaLawMk
import Derived.Test.YtimkknljoeiceaaRound
import Derived.Lib.SliceRun
import Derived.Deep.RegionLaw
/-! TriG -/
namespace Go.Proofs.Ytimkknljoeiceaa

theorem far_swap (L : List Pt) (i k : Nat) : farB L i k = farB L k i := by
  rw [Bool.eq_iff_iff]
  simp only [farB, Bool.not_eq_true', Bool.or_eq_false_iff, beq_eq_false_iff_ne]
  constructor <;> rintro ⟨⟨a, b⟩, c⟩ <;> exact ⟨⟨b, a⟩, Ne.symm c⟩
theorem diag_swap {L : List Pt} (h : Good L) {i k : Nat} (hi : i < L.length) (hk : k < L.length) (hik : i ≠ k) : diagB L i k = diagB L k i := by
  rw [Bool.eq_iff_iff, diag_iff h hi hk hik, diag_iff h hk hi (Ne.symm hik), far_swap L i k, wM_swap]
  constructor
  · rintro ⟨a, b, c⟩; exact ⟨a, fun j hj => (b j hj).swap, c⟩
  · rintro ⟨a, b, c⟩; exact ⟨a, fun j hj => (b j hj).swap, c⟩
/-- The first number before n that f takes; -1 if there is none. -/
def frE (f : Nat → Bool) : Nat → Int
  | 0 => -1
  | n + 1 => if frE f n < 0 ∧ f n = true then (n : Int) else frE f n
theorem frE_spec (f : Nat → Bool) : ∀ n, (frE f n = -1 ∧ ∀ j, j < n → f j = false) ∨ ∃ v : Nat, v < n ∧ f v = true ∧ frE f n = (v : Int) ∧ ∀ j, j < v → f j = false
  | 0 => .inl ⟨rfl, fun j hj => by omega⟩
  | n + 1 => by
    rcases frE_spec f n with ⟨e, h⟩ | ⟨v, hv, hf, e, h⟩
    · cases q : f n
      · exact .inl ⟨by rw [frE, if_neg (by rw [q]; simp)]; exact e, fun j hj => by
          rcases Nat.lt_or_eq_of_le (Nat.le_of_lt_succ hj) with k | k
          · exact h j k
          · rw [k]; exact q⟩
      · exact .inr ⟨n, by omega, q, by rw [frE, if_pos ⟨by omega, q⟩], h⟩
    · exact .inr ⟨v, by omega, hf, by rw [frE, if_neg (by omega)]; exact e, h⟩
theorem frE_of {f : Nat → Bool} {v n : Nat} (hv : v < n) (hf : f v = true) (h : ∀ j, j < v → f j = false) : frE f n = (v : Int) := by
  rcases frE_spec f n with ⟨_, g⟩ | ⟨u, hu, gf, e, g⟩
  · rw [g v hv] at hf; cases hf
  · rw [e]
    have : u = v := by
      rcases Nat.lt_trichotomy u v with k | k | k
      · rw [h u k] at gf; cases gf
      · exact k
      · rw [g v k] at hf; cases hf
    rw [this]
theorem frE_none {f : Nat → Bool} {n : Nat} (h : ∀ j, j < n → f j = false) : frE f n = -1 := by
  rcases frE_spec f n with ⟨e, _⟩ | ⟨u, hu, gf, _, _⟩
  · exact e
  · rw [h u hu] at gf; cases gf
def pvR (R : List Nat) (v : Nat) : Nat := R.getD ((v + R.length - 1) % R.length) 0
def nxR (R : List Nat) (v : Nat) : Nat := R.getD ((v + 1) % R.length) 0
/-- Is the corner at place v of those left an ear? -/
def earAt (L : List Pt) (R : List Nat) (v : Nat) : Bool := diagB L (pvR R v) (nxR R v)
def toI (R : List Nat) : List Int := R.map fun (j : Nat) => (j : Int)
theorem toI_len (R : List Nat) : (toI R).length = R.length := by simp [toI]
/-- Three numbers in order. -/
def srt3 (a b c : Int) : List Int := [min (min a b) c, a + b + c - min (min a b) c - max (max a b) c, max (max a b) c]
def rowE (R : List Nat) (v : Nat) : List Int := srt3 (pvR R v) (R.getD v 0) (nxR R v)
/-- One ear after another. -/
def goT (L : List Pt) : Nat → List Nat → List (List Int) → List (List Int) × Bool
  | 0, R, T => (T ++ [toI R], true)
  | k + 1, R, T => if frE (earAt L R) R.length < 0 then ([], false) else goT L k (R.eraseIdx (frE (earAt L R) R.length).toNat) (T ++ [rowE R (frE (earAt L R) R.length).toNat])
def triV (L : List Pt) : List (List Int) × Bool := bif polyB L then goT L (L.length - 3) (List.range L.length) [] else ([], false)
theorem srt3_len (a b c : Int) : (srt3 a b c).length = 3 := rfl
theorem srt3_up {a b c : Int} (h1 : a < b) (h2 : b < c) : srt3 a b c = [a, b, c] := by
  unfold srt3
  have e1 : min (min a b) c = a := by omega
  have e2 : max (max a b) c = c := by omega
  rw [e1, e2]
  have : a + b + c - a - c = b := by omega
  rw [this]
theorem srt3_merge (a b c : Int) : ([a, b, c].mergeSort fun x y => decide (x ≤ y)) = srt3 a b c := by
  have hp : (srt3 a b c).Perm [a, b, c] := by
    have e : (srt3 a b c = [a, b, c] ∨ srt3 a b c = [a, c, b]) ∨ (srt3 a b c = [b, a, c] ∨ srt3 a b c = [b, c, a]) ∨ (srt3 a b c = [c, a, b] ∨ srt3 a b c = [c, b, a]) := by
      unfold srt3
      simp only [List.cons.injEq, and_true]
      omega
    rcases e with (e | e) | (e | e) | (e | e) <;> rw [e]
    · exact (List.Perm.swap _ _ _).cons _
    · exact List.Perm.swap _ _ _
    · exact ((List.Perm.swap _ _ _).cons _).trans (List.Perm.swap _ _ _)
    · exact (List.Perm.swap _ _ _).trans ((List.Perm.swap _ _ _).cons _)
    · exact (((List.Perm.swap _ _ _).cons _).trans (List.Perm.swap _ _ _)).trans ((List.Perm.swap _ _ _).cons _)
  have hs : (srt3 a b c).Pairwise (fun x y : Int => x ≤ y) := by
    unfold srt3
    simp only [List.pairwise_cons, List.mem_cons, List.not_mem_nil, or_false, forall_eq_or_imp, forall_eq, List.Pairwise.nil, and_true, false_implies, implies_true]
    omega
  have hm : ([a, b, c].mergeSort fun x y => decide (x ≤ y)).Pairwise (fun x y : Int => x ≤ y) := by
    have := List.pairwise_mergeSort (le := fun x y : Int => decide (x ≤ y)) (fun x y z h1 h2 => by simp only [decide_eq_true_eq] at *; omega) (fun x y => by simp only [Bool.or_eq_true, decide_eq_true_eq]; omega) [a, b, c]
    exact this.imp fun h => by simpa using h
  exact List.Perm.eq_of_pairwise (fun x y _ _ h1 h2 => by omega) hm hs ((List.mergeSort_perm _ _).trans hp.symm)
end Go.Proofs.Ytimkknljoeiceaa

/-! OwnI -/
namespace Go.Proofs.Ytimkknljoeiceaa
open Go.RowKit Go.Sort

section
variable {α : Type} [Inhabited α] (enc : α → Value)
theorem holds_gI {w : World} {g : Nat} {cur : Array Value} {e : TypeId} {ss : List α} (hb : w.heap[g]? = some (.cells cur e (0, 0))) (ht : cur.toList.take ss.length = ss.map enc) : Go.Sort.Holds enc w g 0 ss.toArray := by
  intro j hj
  have hj' : j < ss.length := by simpa using hj
  refine ⟨?_, by simp [World.frozen?, hb]⟩
  have h1 : (cur.toList.take ss.length)[j]? = (ss.map enc)[j]? := by rw [ht]
  rw [List.getElem?_take_of_lt hj'] at h1
  simp only [World.cell?, hb, Nat.zero_add]
  simp only [Option.isSome_none, Bool.false_eq_true, if_false]
  rw [← Array.getElem?_toList, h1]
  simp [hj']
theorem grown_I {w : World} {g n : Nat} {os : Array Obj} (d : Array α) : w.grownBy (grow (putRow enc (Go.Sort.ahead w n) g 0 d) os) (some g) := by
  refine ⟨rfl, rfl, rfl, by simp, fun k hk hne => ?_⟩
  rw [heap_grow_old _ _ (by simpa using hk)]
  have : g ≠ k := fun e => hne (by rw [e])
  simp [putRow, mapBlock, Go.Sort.ahead, Array.getElem?_modify, this]
theorem owns_I {w : World} {base g cap n m : Nat} {e : TypeId} {os : Array Obj} {cur : Array Value} {ts : List α} (hl : ts.length = n) (hbase : base ≤ g) (hb : w.heap[g]? = some (.cells cur e (0, 0)))
    (h1 : n ≤ cap) (h2 : cap ≤ maxLen) (h3 : cur.size = cap * 1) :
    (grow (putRow enc (Go.Sort.ahead w m) g 0 ts.toArray) os).ownsRow base e 1 (.slice (some ⟨g, 0, none⟩) n cap) n (ts.map enc) := by
  have hg : g < w.heap.size := (Array.getElem?_eq_some_iff.1 hb).1
  have hh : (grow (putRow enc (Go.Sort.ahead w m) g 0 ts.toArray) os).heap[g]? = some (.cells (putCells enc 0 ts.toArray cur) e (0, 0)) := by
    rw [heap_grow_old _ _ (by simpa using hg)]
    simp [putRow, mapBlock, Go.Sort.ahead, Array.getElem?_modify, hb, onCells]
  have ht : (putCells enc 0 ts.toArray cur).toList.take n = ts.map enc := by
    subst hl
    apply List.ext_getElem?
    intro j
    by_cases hj : j < ts.length
    · rw [List.getElem?_take_of_lt hj, Array.getElem?_toList]
      simp [putCells, hj, show j < cur.size by omega]
    · rw [List.getElem?_take_eq_none (by omega), List.getElem?_eq_none (by simp; omega)]
  exact ⟨by simp [hl], .inr ⟨g, cap, _, rfl, hbase, hh, h1, h2, by simp [putCells, h3], by rw [Nat.mul_one]; exact ht⟩⟩
end
theorem own_open {w : World} {B g n cap : Nat} {e : TypeId} {M : List Int} (h : w.ownsRow B e 1 (.slice (some ⟨g, 0, none⟩) n cap) n (ints M)) :
    ∃ cur, B ≤ g ∧ w.heap[g]? = some (.cells cur e (0, 0)) ∧ n ≤ cap ∧ cap ≤ maxLen ∧ cur.size = cap * 1 ∧ cur.toList.take n = ints M := by
  rcases h.2 with ⟨h1, _⟩ | ⟨g', cap', cur, hv, hB, hg, hn, hc, hs, ht⟩
  · cases h1
  simp only [Value.slice.injEq, Option.some.injEq, Addr.mk.injEq, and_true, true_and] at hv
  obtain ⟨rfl, rfl⟩ := hv
  rw [Nat.mul_one] at ht
  exact ⟨cur, hB, hg, hn, hc, hs, ht⟩
theorem own_cut {w : World} {B g n k cap : Nat} {e : TypeId} {M : List Int} (h : w.ownsRow B e 1 (.slice (some ⟨g, 0, none⟩) n cap) n (ints M)) (hl : M.length = n) (hk : k ≤ n) :
    w.ownsRow B e 1 (.slice (some ⟨g, 0, none⟩) k cap) k (ints (M.take k)) := by
  obtain ⟨cur, hB, hg, hn, hc, hs, ht⟩ := own_open h
  refine ⟨by rw [ints_len, List.length_take]; omega, .inr ⟨g, cap, cur, rfl, hB, hg, by omega, hc, hs, ?_⟩⟩
  have : (cur.toList.take n).take k = (ints M).take k := by rw [ht]
  rw [List.take_take, Nat.min_eq_left hk] at this
  rw [Nat.mul_one, this, ints, ints, List.map_take]
theorem sortI_any (B g cap n : Nat) (M : List Int) (w : World) (own : w.ownsRow B 3 1 (.slice (some ⟨g, 0, none⟩) n cap) n (ints M)) (hl : M.length = n) (hn : n ≤ 1048576) :
    Calls Try.prog 125 #[.slice (some ⟨g, 0, none⟩) n cap] w fun e w' => e = .returned (.tuple #[]) ∧ w'.ownsRow B 3 1 (.slice (some ⟨g, 0, none⟩) n cap) n (ints (M.mergeSort fun x y => decide (x ≤ y))) ∧ w.grownBy w' (some g) := by
  obtain ⟨cur, hB, hg, h1, h2, h3, ht⟩ := own_open own
  have h := Try.slices_Sort_int g 0 cap M w (holds_gI _ hg (by rw [hl]; exact ht)) (Array.getElem?_eq_some_iff.1 hg).1 (by omega)
  rw [hl] at h
  refine h.mono ?_
  rintro e w' ⟨rfl, m, os, rfl⟩
  exact ⟨rfl, owns_I (Value.int .i64) (by rw [List.length_mergeSort]; exact hl) hB hg h1 h2 h3, grown_I _ _⟩
theorem delI_any (B g cap n v : Nat) (M : List Int) (w : World) (own : w.ownsRow B 3 1 (.slice (some ⟨g, 0, none⟩) n cap) n (ints M)) (hl : M.length = n) (hv : v < n) :
    Calls Try.prog 71 #[.slice (some ⟨g, 0, none⟩) n cap, .int .i64 (v : Int), .int .i64 ((v : Int) + 1)] w fun e w' => e = .returned (.slice (some ⟨g, 0, none⟩) (n - 1) cap) ∧ w'.ownsRow B 3 1 (.slice (some ⟨g, 0, none⟩) (n - 1) cap) (n - 1) (ints (M.eraseIdx v)) ∧ w.grownBy w' (some g) := by
  obtain ⟨cur, hB, hg, h1, h2, h3, ht⟩ := own_open own
  have h := Try.slices_Delete_int g 0 cap v (v + 1) M w (holds_gI _ hg (by rw [hl]; exact ht)) (by omega) (by unfold maxLen at h2; omega) (by omega) (by omega)
  rw [hl, show v + 1 - v = 1 by omega] at h
  refine h.mono ?_
  rintro e w' ⟨rfl, m, rfl⟩
  have hlen : (M.take v ++ M.drop (v + 1) ++ List.replicate 1 0).length = n := by simp; omega
  have o := owns_I (os := #[]) (m := m) (Value.int .i64) hlen hB hg h1 h2 h3
  have gr := grown_I (w := w) (g := g) (n := m) (os := #[]) (Value.int .i64) (M.take v ++ M.drop (v + 1) ++ List.replicate 1 0).toArray
  rw [grow_empty] at o gr
  refine ⟨rfl, ?_, gr⟩
  have c := own_cut o hlen (k := n - 1) (by omega)
  have e : (M.take v ++ M.drop (v + 1) ++ List.replicate 1 0).take (n - 1) = M.eraseIdx v := by
    rw [List.take_append_of_le_length (by simp; omega), List.take_of_length_le (by simp; omega), List.eraseIdx_eq_take_drop_succ]
  rw [e] at c
  exact c
end Go.Proofs.Ytimkknljoeiceaa

/-! Three -/
namespace Go.Proofs.Ytimkknljoeiceaa
open Go.RowKit

theorem run_min3 (w : World) (x y z : Int) (ts : Array TypeId) (t : TypeId) : (Builtin.min_ ts t #[.int .i64 x, .int .i64 y, .int .i64 z]).run Try.prog w = .ok (.int .i64 (min (min x y) z)) w := by
  have e : (if z < (if y < x then y else x) then z else (if y < x then y else x)) = min (min x y) z := by
    by_cases h1 : y < x <;> simp only [h1, if_true, if_false] <;> split <;> omega
  rw [← e]
  simp [Builtin.min_, Builtin.min2]
theorem run_max3 (w : World) (x y z : Int) (ts : Array TypeId) (t : TypeId) : (Builtin.max_ ts t #[.int .i64 x, .int .i64 y, .int .i64 z]).run Try.prog w = .ok (.int .i64 (max (max x y) z)) w := by
  have e : (if z > (if y > x then y else x) then z else (if y > x then y else x)) = max (max x y) z := by
    by_cases h1 : y > x <;> simp only [h1, if_true, if_false] <;> split <;> omega
  rw [← e]
  simp [Builtin.max_, Builtin.max2]
set_option maxRecDepth 100000 in
set_option maxHeartbeats 1000000 in
theorem three_any (a b c : Nat) (w : World) (h1 : a ≤ 100) (h2 : b ≤ 100) (h3 : c ≤ 100) :
    Calls Try.prog 66 #[.int .i64 (a : Int), .int .i64 (b : Int), .int .i64 (c : Int)] w (ListsI w (srt3 a b c)) := by
  have HU : Hid (ListsI w (srt3 a b c) = fun e w' => ∃ v, e = .returned v ∧ w'.ownsRow w.heap.size 3 1 v 3 (ints (srt3 a b c)) ∧ Below w.heap.size w w') := rfl
  obtain ⟨lo, hlo⟩ : ∃ lo : Int, lo = min (min (a : Int) b) c := ⟨_, rfl⟩
  obtain ⟨hi, hhi⟩ : ∃ hi : Int, hi = max (max (a : Int) b) c := ⟨_, rfl⟩
  have e1 : IntKind.i64.wrap ((a : Int) + b) = (a : Int) + b := IntWalk.i64_in _ (by omega)
  have e2 : IntKind.i64.wrap ((a : Int) + b + c) = (a : Int) + b + c := IntWalk.i64_in _ (by omega)
  have e3 : IntKind.i64.wrap ((a : Int) + b + c - lo) = (a : Int) + b + c - lo := IntWalk.i64_in _ (by omega)
  have e4 : IntKind.i64.wrap ((a : Int) + b + c - lo - hi) = (a : Int) + b + c - lo - hi := IntWalk.i64_in _ (by omega)
  have HS : Hid (srt3 a b c = [lo, (a : Int) + b + c - lo - hi, hi]) := by show _ = _; rw [hlo, hhi]; rfl
  have m1 := run_min3 w (a : Int) b c
  have m2 := run_max3 w (a : Int) b c
  rw [← hlo] at m1
  rw [← hhi] at m2
  clear hlo hhi
  go_enter Try.func66, Try.ntmps66
  go_wp2_with fail
  go_ret
  rw [HU.out, HS.out]
  exact ⟨_, rfl, World.ownsRow_lit (base := w.heap.size) (e := 3) (size := 1) w #[.int .i64 lo, .int .i64 ((a : Int) + b + c - lo - hi), .int .i64 hi] 3 (Nat.le_refl _) (by unfold maxLen; omega) (by rfl), below1 _ _⟩
end Go.Proofs.Ytimkknljoeiceaa

/-! Key -/
namespace Go.Proofs.Ytimkknljoeiceaa
open Go.RowKit
open Go.Maps (Keyed)

/-- What a key reads as. -/
def kl (a b : Int) : Lit := .string (keyBytes [.int .i64 a, .int .i64 b])
def wf64 (a : Int) : Prop := (Lit.int .i64 a).wf = true
/-- A struct of two ints, as the program's table has it. -/
structure TwoInts (P : Program) (k i : TypeId) : Prop where
  row : ∃ f0 f1 : Field, P.underlying k = some (.struct #[f0, f1]) ∧ f0.type = i ∧ f1.type = i ∧ f0.offset = 0 ∧ f1.offset = 1 ∧ (f0.name != "_") = true ∧ (f1.name != "_") = true
  key : P.keyType k = true
  two : P.cellsOf k = 2
  one : P.cellsOf i = 1
  int : P.underlying i = some (.int .i64)
  size : ∃ n, P.types.size + 1 = n + 2
theorem lits_of {P : Program} {k i : TypeId} (T : TwoInts P k i) (n : Nat) (x y : Value) : P.keyLits (n + 2) k [x, y] = ((P.keyLits (n + 1) i [x]).bind fun l => (P.keyLits (n + 1) i [y]).map fun m => [l, m]).map List.flatten := by
  obtain ⟨f0, f1, hu, h0, h1, o0, o1, n0, n1⟩ := T.row
  have ht := T.two
  have ho := T.one
  obtain ⟨X, hX⟩ : ∃ X, P.keyLits (n + 1) i [x] = X := ⟨_, rfl⟩
  obtain ⟨Y, hY⟩ : ∃ Y, P.keyLits (n + 1) i [y] = Y := ⟨_, rfl⟩
  rw [hX, hY]
  conv => lhs; unfold Program.keyLits
  rw [hu]
  simp only [ht]
  simp [n0, n1, h0, h1, o0, o1, ho, List.mapM_cons, List.mapM_nil, hX, hY]
  cases X <;> cases Y <;> rfl
theorem lit_int {P : Program} {k i : TypeId} (T : TwoInts P k i) (n : Nat) {a : Int} (ha : wf64 a) : P.keyLits (n + 1) i [.int .i64 a] = some [.int .i64 a] := by
  unfold wf64 at ha
  unfold Program.keyLits
  rw [T.int]
  simp [ha]
theorem lit_int_inv {P : Program} {k i : TypeId} (T : TwoInts P k i) (n : Nat) {v : Value} {l : List Lit} (h : P.keyLits (n + 1) i [v] = some l) : ∃ a, v = .int .i64 a ∧ l = [.int .i64 a] ∧ wf64 a := by
  unfold Program.keyLits at h
  rw [T.int] at h
  cases v <;> simp at h
  obtain ⟨⟨rfl, hw⟩, rfl⟩ := h
  exact ⟨_, rfl, rfl, hw⟩
theorem key_of {P : Program} {k i : TypeId} (T : TwoInts P k i) {a b : Int} (ha : wf64 a) (hb : wf64 b) : keyOf P k (.agg #[.int .i64 a, .int .i64 b]) = some (kl a b) := by
  obtain ⟨n, hn⟩ := T.size
  obtain ⟨f0, f1, hu, -⟩ := T.row
  have hf : (Value.agg #[.int .i64 a, .int .i64 b]).formed P k = true := by simp [Value.formed, hu, T.two]
  unfold keyOf
  rw [hu]
  simp only [T.key, hf, Bool.and_self, if_true, hn]
  show ((P.keyLits (n + 2) k [.int .i64 a, .int .i64 b]).map fun ls => Lit.string (keyBytes ls)) = _
  rw [lits_of T, lit_int T n ha, lit_int T n hb]
  rfl
theorem key_inv {P : Program} {k i : TypeId} (T : TwoInts P k i) {v : Value} {l : Lit} (h : keyOf P k v = some l) : ∃ a b, v = (.agg #[.int .i64 a, .int .i64 b]) ∧ l = kl a b ∧ wf64 a ∧ wf64 b := by
  obtain ⟨n, hn⟩ := T.size
  obtain ⟨f0, f1, hu, -⟩ := T.row
  unfold keyOf at h
  rw [hu] at h
  simp only [T.key, Bool.true_and, hn] at h
  split at h
  case isFalse => cases h
  case isTrue hf =>
    cases v <;> simp [Value.formed, hu, T.two] at hf
    rename_i cs
    obtain ⟨x, y, rfl⟩ : ∃ x y, cs = #[x, y] := by
      rcases cs with ⟨_ | ⟨x, _ | ⟨y, _ | ⟨z, r⟩⟩⟩⟩ <;> simp at hf ⊢
    have e : (Value.agg #[x, y]).cells.toList = [x, y] := rfl
    rw [e, lits_of T] at h
    cases h1 : P.keyLits (n + 1) i [x] with
    | none => rw [h1] at h; cases h
    | some l1 =>
      cases h2 : P.keyLits (n + 1) i [y] with
      | none => rw [h1, h2] at h; cases h
      | some l2 =>
        obtain ⟨a, rfl, rfl, wa⟩ := lit_int_inv T n h1
        obtain ⟨b, rfl, rfl, wb⟩ := lit_int_inv T n h2
        rw [h1, h2] at h
        simp at h
        exact ⟨a, b, rfl, h.symm, wa, wb⟩
theorem pr_laidOut : laidOutB Try.prog = true := by kernel_rfl
theorem pr_row : (124 : TypeId) < Try.prog.types.size := of_decide_eq_true (by kernel_rfl)
theorem pr_at : Try.prog.keyTypeAt 2 124 = true := by kernel_rfl
theorem pr_law : WideMaps.KeyLaw Try.prog 124 := deep_law_laid (m := 2) pr_laidOut (by omega) pr_row pr_at (by rw [Try.underlying124])
theorem pr_keyed : Keyed Try.prog 124 := Keyed.of_law pr_law
theorem pr_is : Try.prog.keyType 124 = true := by kernel_rfl
theorem pr_cells : Try.prog.cellsOf 124 = 2 := by kernel_rfl
theorem pr_cellI : Try.prog.cellsOf 3 = 1 := by kernel_rfl
theorem pr_size : ∃ n, Try.prog.types.size + 1 = n + 2 := ⟨Try.prog.types.size - 1, by have h : 0 < Try.prog.types.size := Nat.lt_of_le_of_lt (Nat.zero_le _) pr_row; omega⟩
theorem pr_two : TwoInts Try.prog 124 3 := ⟨⟨_, _, Try.underlying124, rfl, rfl, rfl, rfl, rfl, rfl⟩, pr_is, pr_cells, pr_cellI, Try.underlying3, pr_size⟩
theorem pr_key {a b : Int} (ha : wf64 a) (hb : wf64 b) : keyOf Try.prog 124 (.agg #[.int .i64 a, .int .i64 b]) = some (kl a b) := key_of pr_two ha hb
theorem pr_inv {v : Value} {l : Lit} (h : keyOf Try.prog 124 v = some l) : ∃ a b, v = (.agg #[.int .i64 a, .int .i64 b]) ∧ l = kl a b ∧ wf64 a ∧ wf64 b := key_inv pr_two h
theorem kl_inj {a b c d : Int} (ha : wf64 a) (hb : wf64 b) (hc : wf64 c) (hd : wf64 d) (h : kl a b = kl c d) : a = c ∧ b = d := by
  have := pr_keyed.inj (pr_key ha hb) ((pr_key hc hd).trans (by rw [h]))
  simpa using this
end Go.Proofs.Ytimkknljoeiceaa

/-! Diags -/
namespace Go.Proofs.Ytimkknljoeiceaa
open Go.RowKit
open Go.Maps (Keyed)

/-- Block b is a map with just the keys R, each with the value true. -/
def MapB (w : World) (b : Nat) (R : List (Int × Int)) : Prop :=
  ∃ D : DataW Unit, w.ownsMap Try.prog 124 (plainElem Try.prog 4) b R.length D ∧ (∀ a c, wf64 a → wf64 c → (Maps.has D (kl a c) = true ↔ (a, c) ∈ R)) ∧ (∀ z ∈ R, wf64 z.1 ∧ wf64 z.2) ∧ (∀ l zd, Maps.has D l = true → D.atKey l zd = .lit (.bool true))
theorem mapB_made (w : World) : MapB (w.alloc (.map #[] 0)) w.heap.size [] :=
  ⟨.map [], World.ownsMap_made _ _ _ _, fun a c _ _ => (by simp [Maps.has]), fun z hz => (by cases hz), fun l zd h => (by cases h)⟩
theorem below_grown {w w' : World} (hb : Below w.heap.size w w') : w.grownBy w' none := ⟨hb.os, hb.tape, hb.output, hb.size, fun k hk _ => hb.block k hk⟩
theorem MapB.on {w w' : World} {b : Nat} {R : List (Int × Int)} (h : MapB w b R) (hb : Below w.heap.size w w') : MapB w' b R := by
  obtain ⟨D, h1, h2⟩ := h
  exact ⟨D, h1.kept (below_grown hb) (by simp), h2⟩
theorem mapB_put {w' : World} {b : Nat} {R : List (Int × Int)} {D : DataW Unit} {n : Nat} {x y : Int} (hD : Maps.IsMap D) (hx : wf64 x) (hy : wf64 y) (hn : n ≤ R.length + 1)
    (h2 : ∀ a c, wf64 a → wf64 c → (Maps.has D (kl a c) = true ↔ (a, c) ∈ R)) (h3 : ∀ z ∈ R, wf64 z.1 ∧ wf64 z.2) (h4 : ∀ l zd, Maps.has D l = true → D.atKey l zd = .lit (.bool true))
    (h : w'.ownsMap Try.prog 124 (plainElem Try.prog 4) b n (D.put (kl x y) (.lit (.bool true)))) : MapB w' b (R ++ [(x, y)]) := by
  have hk := pr_keyed.key (pr_key hx hy)
  refine ⟨_, h.mono (by simp; omega), ?_, ?_, ?_⟩
  · intro a c ha hc
    rw [List.mem_append, List.mem_singleton]
    by_cases e : (a, c) = (x, y)
    · simp only [Prod.mk.injEq] at e
      obtain ⟨rfl, rfl⟩ := e
      rw [Maps.has_put_same hD hk]
      simp
    · have e2 : kl a c ≠ kl x y := fun q => e (by obtain ⟨rfl, rfl⟩ := kl_inj ha hc hx hy q; rfl)
      rw [Maps.has_put_other e2, h2 a c ha hc]
      simp only [e, or_false]
  · intro z hz
    rcases List.mem_append.1 hz with hz | hz
    · exact h3 z hz
    · rw [List.mem_singleton.1 hz]; exact ⟨hx, hy⟩
  · intro l zd hl
    by_cases e : l = kl x y
    · subst e
      exact Maps.atKey_put_same hD hk _ _
    · rw [Maps.atKey_put_other e]
      rw [Maps.has_put_other e] at hl
      exact h4 l zd hl
/-- The diagonals from corner a to corners before k; those from corners before i. -/
def rowD (L : List (Int × Int)) (a k : Nat) : List (Int × Int) := ((List.range k).filter fun (c : Nat) => decide (a < c) && diagB L a c).map fun (c : Nat) => ((a : Int), (c : Int))
def allD (L : List (Int × Int)) (i : Nat) : List (Int × Int) := (List.range i).flatMap fun (a : Nat) => rowD L a L.length
theorem rowD_step (L : List (Int × Int)) (a k : Nat) : rowD L a (k + 1) = bif decide (a < k) && diagB L a k then rowD L a k ++ [((a : Int), (k : Int))] else rowD L a k := by
  unfold rowD
  rw [List.range_succ, List.filter_append, List.map_append]
  cases h : (decide (a < k) && diagB L a k) <;> simp [h]
theorem allD_step (L : List (Int × Int)) (i : Nat) : allD L (i + 1) = allD L i ++ rowD L i L.length := by
  unfold allD
  rw [List.range_succ, List.flatMap_append]
  simp
theorem rowD_start (L : List (Int × Int)) (a : Nat) : rowD L a (a + 1) = [] := by
  unfold rowD
  rw [List.map_eq_nil_iff, List.filter_eq_nil_iff]
  intro c hc
  rw [List.mem_range] at hc
  simp; omega
theorem rowD_mem (L : List (Int × Int)) (a k : Nat) (x y : Int) : (x, y) ∈ rowD L a k ↔ x = (a : Int) ∧ ∃ c : Nat, y = (c : Int) ∧ c < k ∧ a < c ∧ diagB L a c = true := by
  simp only [rowD, List.mem_map, List.mem_filter, List.mem_range, Bool.and_eq_true, decide_eq_true_eq, Prod.mk.injEq]
  constructor
  · rintro ⟨c, ⟨h1, h2, h3⟩, rfl, rfl⟩; exact ⟨rfl, c, rfl, h1, h2, h3⟩
  · rintro ⟨rfl, c, rfl, h1, h2, h3⟩; exact ⟨c, ⟨h1, h2, h3⟩, rfl, rfl⟩
theorem allD_mem (L : List (Int × Int)) (i : Nat) (x y : Int) : (x, y) ∈ allD L i ↔ ∃ a c : Nat, x = (a : Int) ∧ y = (c : Int) ∧ a < i ∧ c < L.length ∧ a < c ∧ diagB L a c = true := by
  simp only [allD, List.mem_flatMap, List.mem_range, rowD_mem]
  constructor
  · rintro ⟨a, h0, rfl, c, rfl, h1, h2, h3⟩; exact ⟨a, c, rfl, rfl, h0, h1, h2, h3⟩
  · rintro ⟨a, c, rfl, rfl, h0, h1, h2, h3⟩; exact ⟨a, h0, rfl, c, rfl, h1, h2, h3⟩
theorem rowD_len (L : List (Int × Int)) (a k : Nat) : (rowD L a k).length ≤ k := by
  unfold rowD
  rw [List.length_map]
  exact Nat.le_trans (List.length_filter_le _ _) (by simp)
theorem allD_len (L : List (Int × Int)) : ∀ i, (allD L i).length ≤ i * L.length
  | 0 => by simp [allD]
  | i + 1 => by
    have h1 := allD_len L i
    have h2 := rowD_len L i L.length
    rw [allD_step, List.length_append, Nat.succ_mul]; omega
theorem diag_at {L : List (Int × Int)} {i k : Nat} {A : Option Addr} {c : Nat} {w : World} (hp : polyB L = true) (hi : i < L.length) (hk : k < L.length)
    (h : Calls Try.prog 124 #[.slice A L.length c, .int .i64 i, .int .i64 k] w fun e w' => e = .returned (.bool (diagV L i k)) ∧ Below w.heap.size w w') :
    Calls Try.prog 124 #[.slice A L.length c, .int .i64 i, .int .i64 k] w fun e w' => e = .returned (.bool (diagB L i k)) ∧ Below w.heap.size w w' := by
  have e : diagV L i k = diagB L i k := by
    rw [diagV, hp, inB_spec.2 (by omega), inB_spec.2 (by omega)]; rfl
  rw [e] at h
  exact h
set_option maxRecDepth 100000 in
set_option maxHeartbeats 2000000 in
theorem impl_diags (A : Option Addr) (c : Nat) (L : List (Int × Int)) (w : World) (hA : PtsA w A L) (hp : polyB L = true) :
    Calls Try.prog 69 #[.slice A L.length c] w fun e w' => ∃ b, e = .returned (.map (some b)) ∧ w.heap.size ≤ b ∧ MapB w' b (allD L L.length) ∧ Below w.heap.size w w' := by
  obtain ⟨h3, h10, hok⟩ := polyB_all hp
  have HE := Lib.hid (fun (i k : Nat) (hi : i < L.length) (hk : k < L.length) W (hb : Below w.heap.size w W) => diag_at hp hi hk (impl_diag A c L i k W (ptsA_on hA hb) (by omega)))
  clear hA
  have hmm := @run_makeMap Try.prog
  go_enter Try.func69, Try.ntmps69
  go_wp2_with fail
  go_loopw [4, 5, 9] (fun _ _ i wr => ∃ (k : Nat) (R : List (Int × Int)), k ≤ L.length ∧ i = .int .i64 k ∧ Hid (R = allD L k) ∧ Hid (MapB wr w.heap.size R) ∧ Hid (Below w.heap.size w wr)) (fun _ _ i _ => L.length - (intOf i).toNat)
  case atStart => exact ⟨0, [], Nat.zero_le _, rfl, rfl, mapB_made _, (Below.refl _ _).alloc (Nat.le_refl _) _⟩
  case round =>
    obtain ⟨wo, rfl⟩ : ∃ wo : World, wo = wr := ⟨_, rfl⟩
    obtain ⟨i, R, hi, rfl, HR, HM, HB⟩ := hrel
    by_cases hlt : i < L.length
    · have f5 : wrap64 ((i : Int) + 1) = (i : Int) + 1 := IntWalk.wrap64_in _ (by omega)
      go_wp2_with fail
      go_loopw [5] (fun i2 wr => ∃ (k : Nat) (kv : Int) (R2 : List (Int × Int)), k ≤ L.length ∧ i < k ∧ Hid (kv = (k : Int)) ∧ i2 = .int .i64 kv ∧ Hid (R2 = R ++ rowD L i k) ∧ Hid (MapB wr w.heap.size R2) ∧ Hid (Below w.heap.size w wr)) (fun i2 _ => L.length - (intOf i2).toNat)
      case atStart => exact ⟨i + 1, (i : Int) + 1, R, by omega, by omega, by show (i : Int) + 1 = ((i + 1 : Nat) : Int); omega, rfl, by show R = _; rw [rowD_start, List.append_nil], HM, HB⟩
      case round =>
        obtain ⟨wi, rfl⟩ : ∃ wi : World, wi = wr := ⟨_, rfl⟩
        obtain ⟨k, kv, R2, hk, hik, HK, rfl, HR2, HM2, HB2⟩ := hrel
        by_cases hlk : k < L.length
        · have HC := HE.out i k hlt hlk _ HB2.out
          have HS : Hid (R ++ rowD L i (k + 1) = bif diagB L i k then R2 ++ [((i : Int), kv)] else R2) := by
            show _ = _
            rw [HR2.out, rowD_step, decide_eq_true hik, Bool.true_and, HK.out]
            cases diagB L i k <;> simp
          rw [← HK.out] at HC
          have f6 : wrap64 (kv + 1) = kv + 1 := IntWalk.wrap64_in _ (by have := HK.out; omega)
          have f7 : kv < (L.length : Int) := by have := HK.out; omega
          have f8 : 0 ≤ kv := by have := HK.out; omega
          have HC' := Lib.hid HC
          have hRL : R2.length ≤ 1000 := by
            rw [HR2.out, HR.out, List.length_append]
            have q1 := allD_len L i; have q2 := rowD_len L i k
            have q3 : i * L.length ≤ 10 * 10 := Nat.mul_le_mul (by omega) (by omega)
            omega
          clear HC HM HB
          go_wp2_with fail
          refine HC'.out.mono ?_
          rintro e w6 ⟨rfl, hb6⟩
          have HM6 := Lib.hid (HM2.out.on hb6)
          have HB6 := Lib.hid (below_on HB2.out hb6)
          clear hb6 HM2 HB2 HC'
          cases hd : diagB L i k
          · have HT : Hid (R2 = R ++ rowD L i (k + 1)) := by show _ = _; rw [HS.out, hd]; rfl
            clear HS
            go_wp2_with fail
            go_roundw
            case rel => exact ⟨k + 1, kv + 1, R2, by omega, by omega, by show kv + 1 = ((k + 1 : Nat) : Int); have := HK.out; omega, rfl, HT, HM6, HB6⟩
            case measure => simp [intOf]; have := HK.out; omega
          · have HT : Hid (R2 ++ [((i : Int), kv)] = R ++ rowD L i (k + 1)) := by show _ = _; rw [HS.out, hd]; rfl
            have wi1 : wf64 (i : Int) := WalkArith.wf_i64 (by omega)
            have wk1 : wf64 kv := WalkArith.wf_i64 (by omega)
            obtain ⟨D, hown, hh, hw, hv⟩ := HM6.out
            have HH := Lib.hid (And.intro hh (And.intro hw hv))
            clear HS hh hw hv HM6
            go_wp2_with (first
              | (at_mapUpdate; refine wpList_mapUpdate_own _ rfl _ _ _ 66 rfl 124 4 pr_keyed Try.underlying66 _ w.heap.size R2.length D rfl hown (by unfold maxLen; omega) _ _ _ rfl rfl (pr_key wi1 wk1) _ [] (plainElem_bool Try.underlying4 true) ?_; intro w7 hown1 hgrow1)
              | go_in)
            have R' : Hid (MapB w7 w.heap.size (R2 ++ [((i : Int), kv)])) := mapB_put hown.isMap wi1 wk1 (Nat.le_refl _) HH.out.1 HH.out.2.1 HH.out.2.2 hown1
            have B' : Hid (Below w.heap.size w w7) := HB6.out.grown hgrow1 HB6.out.size (fun j hj => by cases hj; exact Nat.le_refl _)
            clear hown hown1 hgrow1 HH HB6
            go_wp2_with fail
            go_roundw
            case rel => exact ⟨k + 1, kv + 1, R2 ++ [((i : Int), kv)], by omega, by omega, by show kv + 1 = ((k + 1 : Nat) : Int); have := HK.out; omega, rfl, HT, R', B'⟩
            case measure => simp [intOf]; have := HK.out; omega
        · have f7 : ¬ kv < (L.length : Int) := by have := HK.out; omega
          have HT : Hid (R2 = allD L (i + 1)) := by
            show _ = _
            rw [HR2.out, allD_step, HR.out, show k = L.length from by omega]
          clear HR HM HB HR2
          go_wp2_with fail
          go_roundw
          case rel => exact ⟨i + 1, R2, by omega, by go_num, HT, HM2, HB2⟩
          case measure => simp [intOf]; omega
    · have e : i = L.length := by omega
      have HQ : Hid (MapB wo w.heap.size (allD L L.length)) := by
        have q := HM.out
        rw [HR.out, e] at q
        exact q
      clear HR HM e
      go_wp2_with fail
      go_ret
      exact ⟨_, rfl, Nat.le_refl _, HQ.out, HB.out⟩
end Go.Proofs.Ytimkknljoeiceaa

/-! FirstE -/
namespace Go.Proofs.Ytimkknljoeiceaa
open Go.RowKit

theorem plainBool_inv {P : Program} {e : TypeId} (he : P.underlying e = some .bool) {v : Value} {c : Bool} {ps : List MemPlace} (h : plainElem (H := Unit) P e v = some (.lit (.bool c), ps)) : v = .bool c := by
  unfold plainElem at h
  rw [he] at h
  cases v <;> simp at h
  rw [h.1]
theorem zeroB (w : World) : (zeroValue 4).run Try.prog w = .ok (.bool false) w := by kernel_rfl
theorem mapB_look {w : World} {b : Nat} {R : List (Int × Int)} (h : MapB w b R) {x y : Int} (hx : wf64 x) (hy : wf64 y) :
    (Instr.lookup 66 (.map (some b)) (.agg #[.int .i64 x, .int .i64 y]) false).run Try.prog w = .ok (.bool (decide ((x, y) ∈ R))) w := by
  obtain ⟨D, hown, hh, -, hv⟩ := h
  obtain ⟨v, ps, hrun, hR⟩ := hown.lookup pr_keyed Try.underlying66 (zeroB w) (plainElem_bool Try.underlying4 false) (pr_key hx hy)
  rw [hrun]
  have hi := hh x y hx hy
  cases q : Maps.has D (kl x y)
  · rw [Maps.atKey_of_not_has q] at hR
    have : decide ((x, y) ∈ R) = false := decide_eq_false fun k => by rw [hi.2 k] at q; cases q
    rw [this, plainBool_inv Try.underlying4 hR]
  · rw [hv _ _ q] at hR
    have : decide ((x, y) ∈ R) = true := decide_eq_true (hi.1 q)
    rw [this, plainBool_inv Try.underlying4 hR]
theorem getD_lt {R : List Nat} {n : Nat} (h : ∀ x ∈ R, x < n) {k : Nat} (hk : k < R.length) : R.getD k 0 < n := by
  rw [List.getD_eq_getElem?_getD, List.getElem?_eq_getElem hk]
  exact h _ (List.getElem_mem hk)
theorem getD_ne {R : List Nat} (h : R.Pairwise (· < ·)) {i k : Nat} (hi : i < R.length) (hk : k < R.length) (e : i ≠ k) : R.getD i 0 ≠ R.getD k 0 := by
  simp only [List.getD_eq_getElem?_getD, List.getElem?_eq_getElem hi, List.getElem?_eq_getElem hk, Option.getD_some]
  rw [List.pairwise_iff_getElem] at h
  rcases Nat.lt_or_gt_of_ne e with k1 | k1
  · have := h i k hi hk k1; omega
  · have := h k i hk hi k1; omega
theorem prev_next {n v : Nat} (h : 4 ≤ n) (hv : v < n) : (v + n - 1) % n < n ∧ (v + 1) % n < n ∧ (v + n - 1) % n ≠ (v + 1) % n := by
  refine ⟨Nat.mod_lt _ (by omega), Nat.mod_lt _ (by omega), ?_⟩
  have e1 : (v + n - 1) % n = if v = 0 then n - 1 else v - 1 := by
    split
    · rename_i e; subst e; rw [Nat.mod_eq_of_lt (by omega)]; omega
    · rw [show v + n - 1 = (v - 1) + n by omega, Nat.add_mod_right, Nat.mod_eq_of_lt (by omega)]
  have e2 : (v + 1) % n = if v + 1 = n then 0 else v + 1 := by
    split
    · rename_i e; rw [e, Nat.mod_self]
    · rw [Nat.mod_eq_of_lt (by omega)]
  rw [e1, e2]
  split <;> split <;> omega
/-- The program's look-up at the pair of the corners beside. -/
theorem ear_look {L : List Pt} (hG : Good L) {R : List Nat} (hR : ∀ x ∈ R, x < L.length) (hup : R.Pairwise (· < ·)) (h4 : 4 ≤ R.length) {v : Nat} (hv : v < R.length) :
    decide ((((min (pvR R v) (nxR R v) : Nat) : Int), ((max (pvR R v) (nxR R v) : Nat) : Int)) ∈ allD L L.length) = earAt L R v := by
  obtain ⟨h1, h2, h3⟩ := prev_next h4 hv
  have l1 : pvR R v < L.length := getD_lt hR h1
  have l2 : nxR R v < L.length := getD_lt hR h2
  have hne : pvR R v ≠ nxR R v := getD_ne hup h1 h2 h3
  have e : earAt L R v = diagB L (min (pvR R v) (nxR R v)) (max (pvR R v) (nxR R v)) := by
    unfold earAt
    rcases Nat.lt_or_gt_of_ne hne with k | k
    · rw [Nat.min_eq_left (by omega), Nat.max_eq_right (by omega)]
    · rw [Nat.min_eq_right (by omega), Nat.max_eq_left (by omega), diag_swap hG l1 l2 hne]
  rw [e, Bool.eq_iff_iff, decide_eq_true_eq, allD_mem]
  constructor
  · rintro ⟨a, c, ea, ec, _, _, _, hd⟩
    have : a = min (pvR R v) (nxR R v) := by omega
    subst this
    have : c = max (pvR R v) (nxR R v) := by omega
    subst this
    exact hd
  · intro hd
    exact ⟨_, _, rfl, rfl, by omega, by omega, by omega, hd⟩
theorem toI_cell {w : World} {A : Option Addr} {R : List Nat} (h : IntsA w A (toI R)) {k : Nat} (hk : k < R.length) : ∃ g, A = some ⟨g, 0, none⟩ ∧ w.cell? ⟨g, k, none⟩ = some (.int .i64 ((R.getD k 0 : Nat) : Int)) := by
  obtain ⟨g, hA, hc⟩ := h k (by rw [toI_len]; exact hk)
  refine ⟨g, hA, ?_⟩
  rw [hc]
  simp [toI, hk]
theorem mm_wf {a b n : Nat} (h1 : a < n) (h2 : b < n) (h3 : n ≤ 10) : wf64 ((min a b : Nat) : Int) ∧ wf64 ((max a b : Nat) : Int) := ⟨WalkArith.wf_i64 (by omega), WalkArith.wf_i64 (by omega)⟩
theorem ear_at {w : World} {b : Nat} {L : List Pt} (hG : Good L) {R : List Nat} (hR : ∀ x ∈ R, x < L.length) (hup : R.Pairwise (· < ·)) (h4 : 4 ≤ R.length) {v : Nat} (hv : v < R.length) (hM : MapB w b (allD L L.length)) :
    (Instr.lookup 66 (.map (some b)) (.agg #[.int .i64 ((min (pvR R v) (nxR R v) : Nat) : Int), .int .i64 ((max (pvR R v) (nxR R v) : Nat) : Int)]) false).run Try.prog w = .ok (.bool (earAt L R v)) w := by
  obtain ⟨h1, h2, -⟩ := prev_next h4 hv
  rw [← ear_look hG hR hup h4 hv]
  exact mapB_look hM (mm_wf (getD_lt hR h1) (getD_lt hR h2) hG.1.2).1 (mm_wf (getD_lt hR h1) (getD_lt hR h2) hG.1.2).2
theorem idx3 {R : List Nat} (h4 : 4 ≤ R.length) {k : Nat} (hk : k < R.length) : ∃ t r : Nat, t < R.length ∧ r < R.length ∧ Int.tmod ((k : Int) + (R.length : Int) - 1) (R.length : Int) = (t : Int) ∧ Int.tmod ((k : Int) + 1) (R.length : Int) = (r : Int) ∧ R.getD t 0 = pvR R k ∧ R.getD r 0 = nxR R k := by
  obtain ⟨p1, p2, -⟩ := prev_next h4 hk
  have h0 : 0 < R.length := Nat.lt_of_lt_of_le (by decide) h4
  exact ⟨_, _, p1, p2, prev_int h0, (next_int h0).1, rfl, rfl⟩
theorem minI_nat (a b : Nat) : minI (a : Int) b = ((min a b : Nat) : Int) := by unfold minI; split <;> omega
theorem maxI_nat (a b : Nat) : maxI (a : Int) b = ((max a b : Nat) : Int) := by unfold maxI; split <;> omega
set_option maxRecDepth 100000 in
set_option maxHeartbeats 2000000 in
theorem firstE_any (A : Option Addr) (c b : Nat) (L : List Pt) (R : List Nat) (w : World) (hG : Good L) (hR : ∀ x ∈ R, x < L.length) (hup : R.Pairwise (· < ·)) (h4 : 4 ≤ R.length) (h10 : R.length ≤ 10)
    (hI : IntsA w A (toI R)) (hM : MapB w b (allD L L.length)) :
    Calls Try.prog 70 #[.slice A R.length c, .map (some b)] w fun e w' => ∃ x, e = .returned (.tuple #[.int .i64 (frE (earAt L R) R.length), x]) ∧ Below w.heap.size w w' ∧
      (0 ≤ frE (earAt L R) R.length → ∃ g cap, x = .slice (some ⟨g, 0, none⟩) 3 cap ∧ w'.ownsRow w.heap.size 3 1 x 3 (ints (rowE R (frE (earAt L R) R.length).toNat))) := by
  have hL10 := hG.1.2
  obtain ⟨g, rfl, -⟩ := toI_cell hI (k := 0) (by omega)
  have HC := Lib.hid (fun (k : Nat) (hk : k < R.length) W (hb : Below w.heap.size w W) => (show W.cell? ⟨g, k, none⟩ = some (.int .i64 ((R.getD k 0 : Nat) : Int)) from by
    obtain ⟨g', e, h⟩ := toI_cell (intsA_on hI hb) hk
    cases e; exact h))
  have HK := Lib.hid (fun (v : Nat) (hv : v < R.length) W (hb : Below w.heap.size w W) => ear_at hG hR hup h4 hv (hM.on hb))
  clear hI hM hR hup hG
  go_enter Try.func70, Try.ntmps70
  go_wp2_with fail
  go_loopw [7, 8, 9, 10, 11, 12, 17] (fun _ _ _ _ _ _ i wr => ∃ k : Nat, k ≤ R.length ∧ i = .int .i64 k ∧ Hid (∀ j, j < k → earAt L R j = false) ∧ Hid (Below w.heap.size w wr)) (fun _ _ _ _ _ _ i _ => R.length - (intOf i).toNat)
  case atStart => exact ⟨0, Nat.zero_le _, rfl, fun j hj => by omega, Below.refl _ _⟩
  case round =>
    obtain ⟨wo, rfl⟩ : ∃ wo : World, wo = wr := ⟨_, rfl⟩
    obtain ⟨k, hk, rfl, HN, HB⟩ := hrel
    by_cases hlt : k < R.length
    · obtain ⟨t, r, p1, p2, hpr, hr, e1, e2⟩ := idx3 h4 hlt
      have d0 := HC.out k hlt wo HB.out
      have d1 := HC.out t p1 wo HB.out
      have d2 := HC.out r p2 wo HB.out
      rw [e1] at d1
      rw [e2] at d2
      have HKL := Lib.hid (HK.out k hlt)
      have HRW : Hid (rowE R k = srt3 (pvR R k : Nat) (R.getD k 0 : Nat) (nxR R k : Nat)) := rfl
      obtain ⟨lo, hlo⟩ : ∃ lo : Int, Hid (lo = ((min (pvR R k) (nxR R k) : Nat) : Int)) := ⟨_, rfl⟩
      obtain ⟨hi, hhi⟩ : ∃ hi : Int, Hid (hi = ((max (pvR R k) (nxR R k) : Nat) : Int)) := ⟨_, rfl⟩
      rw [← hlo.out, ← hhi.out] at HKL
      have hmin : ∀ (w : World) (ts : Array TypeId) (t : TypeId), (Builtin.min_ ts t #[.int .i64 ((pvR R k : Nat) : Int), .int .i64 ((nxR R k : Nat) : Int)]).run Try.prog w = .ok (.int .i64 lo) w := fun w ts t => by
        rw [run_minI, hlo.out, minI_nat]
      have hmax : ∀ (w : World) (ts : Array TypeId) (t : TypeId), (Builtin.max_ ts t #[.int .i64 ((pvR R k : Nat) : Int), .int .i64 ((nxR R k : Nat) : Int)]).run Try.prog w = .ok (.int .i64 hi) w := fun w ts t => by
        rw [run_maxI, hhi.out, maxI_nat]
      clear hlo hhi e1 e2
      generalize pvR R k = pb at *
      generalize nxR R k = pn at *
      generalize R.getD k 0 = pc at *
      have f1 : IntKind.i64.wrap ((k : Int) + 1) = (k : Int) + 1 := IntWalk.i64_in _ (by omega)
      have f1' : wrap64 ((k : Int) + 1) = (k : Int) + 1 := IntWalk.wrap64_in _ (by omega)
      have f2 : IntKind.i64.wrap ((k : Int) + (R.length : Int)) = (k : Int) + (R.length : Int) := IntWalk.i64_in _ (by omega)
      have f3 : IntKind.i64.wrap ((k : Int) + (R.length : Int) - 1) = (k : Int) + (R.length : Int) - 1 := IntWalk.i64_in _ (by omega)
      have f4 : IntKind.i64.wrap (r : Int) = (r : Int) := IntWalk.i64_in _ (by omega)
      have f5 : IntKind.i64.wrap (t : Int) = (t : Int) := IntWalk.i64_in _ (by omega)
      have hne : ¬ R.length = 0 := by omega
      have k0 := cell_regrown d0; have k1 := cell_regrown d1; have k2 := cell_regrown d2
      go_wp2_with fail
      refine wp_region_quiet_below (by kernel_rfl) (by kernel_rfl) ?_
      repeat (first
        | go_big_quiet_step (fail)
        | quiet_step (fail))
      refine wpQuiet_nil ?_
      rintro _ ⟨⟨dq, osq⟩, rfl⟩
      clear k0 k1 k2
      have B5 := below_on HB.out (below_regrown wo dq osq)
      have lk := HKL.out _ (below_on B5 (below1 _ (.cells #[.int .i64 lo, .int .i64 hi] 124)))
      generalize Go.Sort.grow (redrawn wo dq) osq = w5 at *
      clear d0 d1 d2 hr hpr f2 f3 f4 f5
      cases he : earAt L R k
      · rw [he] at lk
        have HB5 := Lib.hid (below_on B5 (below1 _ (.cells #[.int .i64 lo, .int .i64 hi] 124)))
        have HN2 : Hid (∀ j, j < k + 1 → earAt L R j = false) := fun j hj => by
          rcases Nat.lt_or_eq_of_le (Nat.le_of_lt_succ hj) with q | q
          · exact HN.out j q
          · rw [q]; exact he
        clear B5
        go_wp2_with fail
        go_roundw
        case rel => exact ⟨k + 1, by omega, by go_num, HN2, HB5⟩
        case measure => simp [intOf]; omega
      · rw [he] at lk
        have HF : Hid (frE (earAt L R) R.length = (k : Int)) := frE_of hlt he HN.out
        have B6 := below_on B5 (below1 _ (.cells #[.int .i64 lo, .int .i64 hi] 124))
        have own7 := World.ownsRow_lit (base := w.heap.size) (e := 3) (size := 1) (w5.alloc (.cells #[.int .i64 lo, .int .i64 hi] 124)) #[.int .i64 (pb : Int), .int .i64 (pc : Int), .int .i64 (pn : Int)] 3 B6.size (by unfold maxLen; omega) (by rfl)
        rw [size_alloc] at own7
        have B7 := Lib.hid (below_on B6 (below1 _ (.cells #[.int .i64 (pb : Int), .int .i64 (pc : Int), .int .i64 (pn : Int)] 3)))
        have HSo := Lib.hid (sortI_any w.heap.size _ 3 3 [(pb : Int), (pc : Int), (pn : Int)] _ own7 rfl (by omega))
        have hsz := B6.size
        rw [size_alloc] at hsz
        clear B5 B6 own7 f1 f1'
        go_wp2_with fail
        refine HSo.out.mono ?_
        rintro e w8 ⟨rfl, own8, hg8⟩
        rw [srt3_merge, ← HRW.out] at own8
        have B8 := B7.out.grown hg8 B7.out.size (fun j hj => by cases hj; exact hsz)
        go_wp2_with fail
        go_ret2
        rw [HF.out]
        exact ⟨_, rfl, B8, fun _ => ⟨_, _, rfl, by rw [Int.toNat_natCast]; exact own8⟩⟩
    · have e : k = R.length := by omega
      have HF : Hid (frE (earAt L R) R.length = -1) := frE_none fun j hj => HN.out j (by omega)
      go_wp2_with fail
      go_ret2
      rw [HF.out]
      exact ⟨_, rfl, HB.out, fun h => by omega⟩
end Go.Proofs.Ytimkknljoeiceaa

/-! RowsR -/
namespace Go.Proofs.Ytimkknljoeiceaa
open Go.RowKit

/-- A row: its block, its capacity, its numbers. -/
structure Rw where
  g : Nat
  cap : Nat
  M : List Int
/-- The slice of a row. -/
def hdr (r : Rw) : Value := .slice (some ⟨r.g, 0, none⟩) r.M.length r.cap
theorem hdr_own (r : Rw) : (hdr r).ownBlock = some r.g := rfl
/-- v is a slice of the rows Rs, all owned from block B on, no two in one block. -/
structure RowsR (w : World) (B : Nat) (v : Value) (Rs : List Rw) : Prop where
  out : w.ownsRow B 36 1 v Rs.length (Rs.map hdr)
  row : ∀ r ∈ Rs, w.ownsRow B 3 1 (hdr r) r.M.length (ints r.M)
  far : ∀ r ∈ Rs, v.ownBlock ≠ some r.g
  nodup : (Rs.map Rw.g).Nodup
theorem rowsR_nil (w : World) (B : Nat) : RowsR w B (.slice none 0 0) [] :=
  ⟨World.ownsRow_nil _ _ _ _, fun r h => (by cases h), fun r h => (by cases h), by simp⟩
theorem RowsR.below {w w' : World} {B : Nat} {v : Value} {Rs : List Rw} (h : RowsR w B v Rs) (hb : Below w.heap.size w w') : RowsR w' B v Rs :=
  ⟨own_below h.out hb, fun r hr => own_below (h.row r hr) hb, h.far, h.nodup⟩
theorem RowsR.base {w : World} {B B' : Nat} {v : Value} {Rs : List Rw} (h : RowsR w B v Rs) (hb : B' ≤ B) : RowsR w B' v Rs :=
  ⟨own_base h.out hb, fun r hr => own_base (h.row r hr) hb, h.far, h.nodup⟩
theorem RowsR.lt {w : World} {B : Nat} {v : Value} {Rs : List Rw} (h : RowsR w B v Rs) {r : Rw} (hr : r ∈ Rs) : B ≤ r.g ∧ r.g < w.heap.size := (h.row r hr).lt r.g rfl
/-- The slice's own address, where it has rows. -/
theorem RowsR.form {w : World} {B : Nat} {v : Value} {Rs : List Rw} (h : RowsR w B v Rs) : ∃ A c, v = .slice A Rs.length c ∧ ∀ i (hi : i < Rs.length), ∃ g, A = some ⟨g, 0, none⟩ ∧ w.cell? ⟨g, i, none⟩ = some (hdr Rs[i]) := by
  rcases h.out.2 with ⟨rfl, h0⟩ | ⟨g, cap, cur, rfl, hg, hh, _⟩
  · exact ⟨none, 0, by rw [h0], fun k hk => by omega⟩
  · refine ⟨some ⟨g, 0, none⟩, cap, rfl, fun k hk => ⟨g, rfl, ?_⟩⟩
    rw [h.out.cellAt k (by omega)]
    simp [hk]
set_option maxRecDepth 100000 in
set_option maxHeartbeats 800000 in
theorem eq_rows (B1 B2 : Nat) (v1 v2 : Value) (Rs Qs : List Rw) (w : World) (h1 : RowsR w B1 v1 Rs) (h2 : RowsR w B2 v2 Qs) (hM : Rs.map Rw.M = Qs.map Rw.M) (hL : Rs.length ≤ 1048576) (hl : ∀ r ∈ Rs, r.M.length ≤ 1048576) :
    Calls Try.prog 19 #[v1, v2] w fun e w' => e = .returned (.bool true) ∧ Below w.heap.size w w' := by
  have hn : Qs.length = Rs.length := by
    have := congrArg List.length hM
    simpa using this.symm
  obtain ⟨A1, c1, rfl, C1⟩ := h1.form
  obtain ⟨A2, c2, rfl, C2⟩ := h2.form
  rw [hn]
  have H1 := Lib.hid C1; clear C1
  have H2 := Lib.hid C2; clear C2
  have HE : Hid (∀ k (hk : k < Rs.length) (hk2 : k < Qs.length) W, Below w.heap.size w W → Calls Try.prog 30 #[hdr Rs[k], hdr Qs[k]] W fun e w' => e = .returned (.bool true) ∧ Below W.heap.size W w') := fun k hk hk2 W hb => by
    have hr := List.getElem_mem hk
    have hq := List.getElem_mem hk2
    have e : (Rs[k]).M = (Qs[k]).M := by
      have := congrArg (·[k]?) hM
      simpa [hk, hk2] using this
    have q := eq_ints (some ⟨(Rs[k]).g, 0, none⟩) (some ⟨(Qs[k]).g, 0, none⟩) (Rs[k]).cap (Qs[k]).cap (Rs[k]).M W (intsA_on (intsA_of (h1.row _ hr)) hb) (by rw [e]; exact intsA_on (intsA_of (h2.row _ hq)) hb) (hl _ hr)
    unfold hdr
    rw [← e]
    exact q
  have HN := Lib.hid hn
  clear h1 h2 hM hl hn
  go_enter Try.func19, Try.ntmps19
  go_wp2_with fail
  go_loopw [5] (fun i w' => ∃ k : Nat, k ≤ Rs.length ∧ i = .int .i64 k ∧ Below w.heap.size w w') (fun i _ => Rs.length - (intOf i).toNat)
  case atStart => exact ⟨0, Nat.zero_le _, rfl, Below.refl _ _⟩
  case round =>
    obtain ⟨wo, rfl⟩ : ∃ wo : World, wo = wr := ⟨_, rfl⟩
    obtain ⟨k, hk, rfl, hb⟩ := hrel
    by_cases hlt : k < Rs.length
    · obtain ⟨g1, rfl, hc1⟩ := H1.out k hlt
      obtain ⟨g2, rfl, hc2⟩ := H2.out k (by rw [HN.out]; exact hlt)
      have HK := Lib.hid (fun d os => HE.out k hlt (by rw [HN.out]; exact hlt) (Go.Sort.grow (redrawn wo d) os) (below_on hb (below_regrown wo d os)))
      replace hc1 := cell_on hb rfl hc1
      replace hc2 := cell_on hb rfl hc2
      generalize hdr Rs[k] = x at *
      generalize hdr (Qs[k]'(by rw [HN.out]; exact hlt)) = y at *
      have k1 := cell_regrown hc1; have k3 := cell_regrown hc2
      go_wp2_with fail
      refine wp_region_quiet_below (by kernel_rfl) (by kernel_rfl) ?_
      repeat (first
        | go_big_quiet_step (first | exact Calls.regrown_of (HK.out _ _))
        | quiet_step (first | exact Calls.regrown_of (HK.out _ _)))
      refine wpQuiet_nil ?_
      rintro _ ⟨⟨dq, osq⟩, rfl⟩
      have hb2 := hb.trans ((below_regrown wo dq osq).mono hb.size)
      clear hc1 hc2 k1 k3
      simp only at *
      generalize Go.Sort.grow (redrawn wo dq) osq = w2 at *
      go_wp2_with fail
      go_roundw
      case rel => exact ⟨k + 1, by omega, by go_num, hb2⟩
      case measure => simp [intOf]; omega
    · go_wp2_with fail
      go_ret
      exact ⟨rfl, hb⟩
/-- Marks from s on. -/
def marksS (s : Int) (m : Nat) : List Int := (List.range m).map fun (j : Nat) => s + (j : Int)
theorem marksS_len (s : Int) (m : Nat) : (marksS s m).length = m := by simp [marksS]
theorem marksS_step {s : Int} {j : Nat} {xs : List Value} (hj : j < xs.length) : (ints (marksS s j) ++ xs.drop j).set j (.int .i64 (s + (j : Int))) = ints (marksS s (j + 1)) ++ xs.drop (j + 1) := by
  have h1 : (ints (marksS s j)).length = j := by rw [ints_len, marksS_len]
  have h2 : (xs.drop j).set 0 (.int .i64 (s + (j : Int))) = .int .i64 (s + (j : Int)) :: xs.drop (j + 1) := by
    rw [List.drop_eq_getElem_cons hj]; rfl
  rw [List.set_append_right _ _ (by omega), h1, Nat.sub_self, h2]
  simp [marksS, ints, List.range_succ]
theorem mark_w {s : Int} {k : Nat} (h0 : 0 ≤ s) (h1 : s ≤ 1000000000) (hk : k ≤ 1048576) : wrap64 (s + (k : Int) + 1) = s + ((k + 1 : Nat) : Int) ∧ IntKind.i64.wrap (s + (k : Int) + 1) = s + ((k + 1 : Nat) : Int) := by
  have e : s + (k : Int) + 1 = s + ((k + 1 : Nat) : Int) := by omega
  rw [e]
  exact ⟨IntWalk.wrap64_in _ (by omega), IntWalk.i64_in _ (by omega)⟩
set_option maxRecDepth 100000 in
set_option maxHeartbeats 800000 in
/-- A row is overwritten by its marks from s on. -/
theorem mark_row (B g cap : Nat) (n : Nat) (xs : List Value) (s : Int) (w : World) (hown : w.ownsRow B 3 1 (.slice (some ⟨g, 0, none⟩) n cap) n xs) (hn : n ≤ 1048576) (hs0 : 0 ≤ s) (hs1 : s ≤ 1000000000) :
    Calls Try.prog 31 #[.slice (some ⟨g, 0, none⟩) n cap, .int .i64 s] w fun e w' => e = .returned (.int .i64 (s + (n : Int))) ∧ w'.ownsRow B 3 1 (.slice (some ⟨g, 0, none⟩) n cap) n (ints (marksS s n)) ∧ w.grownBy w' (some g) := by
  have hl : xs.length = n := by have := hown.1; omega
  go_enter Try.func31, Try.ntmps31
  go_wp2_with fail
  go_loopw [1, 5] (fun m i wr => ∃ (k : Nat) (sv : Int), k ≤ n ∧ Hid (sv = s + (k : Int)) ∧ i = .int .i64 k ∧ m = .int .i64 sv ∧ wr.ownsRow B 3 1 (.slice (some ⟨g, 0, none⟩) n cap) n (ints (marksS s k) ++ xs.drop k) ∧ w.grownBy wr (some g)) (fun _ i _ => n - (intOf i).toNat)
  case atStart => exact ⟨0, s, Nat.zero_le _, by show s = s + ((0 : Nat) : Int); omega, rfl, rfl, by simpa [marksS, ints] using hown, World.grownBy.refl _ _⟩
  case round =>
    obtain ⟨k, sv, hk, HS, rfl, rfl, hown', hgr⟩ := hrel
    by_cases hlt : k < n
    · obtain ⟨u1, hc1⟩ := cell_some1 hown' k hlt
      have hf1 := hown'.frozenAt k
      have hs2 := (hown'.stored k (.int .i64 sv)).1
      have hst := marksS_step (s := s) (j := k) (xs := xs) (by omega)
      rw [← HS.out] at hst
      rw [hst] at hs2
      have hg2 := only_set hgr k (.int .i64 sv)
      have R := Lib.hid (And.intro hs2 hg2)
      obtain ⟨f1, f1'⟩ := mark_w (s := s) (k := k) hs0 hs1 (by omega)
      have HS1 : Hid (s + ((k + 1 : Nat) : Int) = sv + 1) := by show _ = _; rw [HS.out]; omega
      rw [← HS.out, HS1.out] at f1 f1'
      have HS2 : Hid (sv + 1 = s + ((k + 1 : Nat) : Int)) := HS1.out.symm
      clear hs2 hst hg2 hown' hgr hown HS1
      go_wp2_with fail
      clear f1 f1'
      go_roundw
      case rel => exact ⟨k + 1, sv + 1, by omega, HS2, by go_num, rfl, R.out.1, R.out.2⟩
      case measure => simp [intOf]; omega
    · obtain rfl : k = n := by omega
      rw [List.drop_of_length_le (by omega), List.append_nil] at hown'
      have R := Lib.hid hown'
      clear hown' hown
      go_wp2_with fail
      go_ret
      exact ⟨by rw [HS.out]; rfl, R.out, hgr⟩
set_option maxRecDepth 100000 in
set_option maxHeartbeats 800000 in
/-- The marks from s on are still there. -/
theorem held_row (B g cap : Nat) (n : Nat) (s : Int) (w : World) (hown : w.ownsRow B 3 1 (.slice (some ⟨g, 0, none⟩) n cap) n (ints (marksS s n))) (hn : n ≤ 1048576) (hs0 : 0 ≤ s) (hs1 : s ≤ 1000000000) :
    Calls Try.prog 32 #[.slice (some ⟨g, 0, none⟩) n cap, .int .i64 s] w fun e w' => e = .returned (.int .i64 (s + (n : Int))) ∧ w' = w := by
  have HC : Hid (∀ j, j < n → w.cell? ⟨g, j, none⟩ = some (.int .i64 (s + (j : Int)))) := fun j hj => (hown.cellAt j (by omega)).trans (by simp [marksS, ints, hj])
  clear hown
  go_enter Try.func32, Try.ntmps32
  go_wp2_with fail
  go_loopw [1, 5] (fun m i wr => ∃ (k : Nat) (sv : Int), k ≤ n ∧ Hid (sv = s + (k : Int)) ∧ i = .int .i64 k ∧ m = .int .i64 sv ∧ wr = w) (fun _ i _ => n - (intOf i).toNat)
  case atStart => exact ⟨0, s, Nat.zero_le _, by show s = s + ((0 : Nat) : Int); omega, rfl, rfl, rfl⟩
  case round =>
    obtain ⟨k, sv, hk, HS, rfl, rfl, rfl⟩ := hrel
    by_cases hlt : k < n
    · have hc1 := HC.out k hlt
      rw [← HS.out] at hc1
      obtain ⟨f1, f1'⟩ := mark_w (s := s) (k := k) hs0 hs1 (by omega)
      have HS1 : Hid (s + ((k + 1 : Nat) : Int) = sv + 1) := by show _ = _; rw [HS.out]; omega
      rw [← HS.out, HS1.out] at f1 f1'
      have HS2 : Hid (sv + 1 = s + ((k + 1 : Nat) : Int)) := HS1.out.symm
      clear HS1
      go_wp2_with fail
      clear f1 f1'
      go_roundw
      case rel => exact ⟨k + 1, sv + 1, by omega, HS2, by go_num, rfl, by first | trivial | rfl⟩
      case measure => simp [intOf]; omega
    · obtain rfl : k = n := by omega
      go_wp2_with fail
      go_ret
      exact ⟨by rw [HS.out]; rfl, rfl⟩
def mkR (q j : Nat) (r : Rw) : Rw := { r with M := marksS (1 + (q : Int) * (j : Int)) q }
/-- The first k rows are overwritten by marks. -/
def mixR (q : Nat) (Rs : List Rw) (k : Nat) : List Rw := Rs.mapIdx fun j r => bif decide (j < k) then mkR q j r else r
theorem mix_len (q : Nat) (Rs : List Rw) (k : Nat) : (mixR q Rs k).length = Rs.length := by simp [mixR]
theorem mix_get {q : Nat} {Rs : List Rw} {k j : Nat} (hj : j < (mixR q Rs k).length) : (mixR q Rs k)[j] = bif decide (j < k) then mkR q j (Rs[j]'(by rwa [mix_len] at hj)) else (Rs[j]'(by rwa [mix_len] at hj)) := by
  simp [mixR]
theorem mix_zero (q : Nat) (Rs : List Rw) : mixR q Rs 0 = Rs := by
  refine List.ext_getElem (mix_len _ _ _) fun j h1 h2 => ?_
  rw [mix_get]; rfl
theorem mix_g (q : Nat) (Rs : List Rw) (k : Nat) : (mixR q Rs k).map Rw.g = Rs.map Rw.g := by
  refine List.ext_getElem (by simp [mix_len]) fun j h1 h2 => ?_
  rw [List.getElem_map, List.getElem_map, mix_get]
  cases decide (j < k) <;> rfl
theorem mix_hdr {q : Nat} {Rs : List Rw} (hq : ∀ r ∈ Rs, r.M.length = q) (k : Nat) : (mixR q Rs k).map hdr = Rs.map hdr := by
  refine List.ext_getElem (by simp [mix_len]) fun j h1 h2 => ?_
  rw [List.getElem_map, List.getElem_map, mix_get]
  have := hq _ (List.getElem_mem (l := Rs) (n := j) (by simpa using h2))
  cases decide (j < k)
  · rfl
  · simp only [cond_true, hdr, mkR, marksS_len]
    rw [this]
theorem g_inj {Rs : List Rw} (h : (Rs.map Rw.g).Nodup) {i j : Nat} (hi : i < Rs.length) (hj : j < Rs.length) (e : (Rs[i]).g = (Rs[j]).g) : i = j := by
  have h1 : i < (Rs.map Rw.g).length := by simpa using hi
  have h2 : j < (Rs.map Rw.g).length := by simpa using hj
  exact (List.getElem_inj (h₀ := h1) (h₁ := h2) h).1 (by simpa using e)
theorem mix_step {w w' : World} {B : Nat} {v : Value} {Rs : List Rw} {q k : Nat} (hq : ∀ r ∈ Rs, r.M.length = q) (hk : k < Rs.length) (h : RowsR w B v (mixR q Rs k))
    (ho : w'.ownsRow B 3 1 (.slice (some ⟨(Rs[k]).g, 0, none⟩) q (Rs[k]).cap) q (ints (marksS (1 + (q : Int) * (k : Int)) q))) (hg : w.grownBy w' (some (Rs[k]).g)) : RowsR w' B v (mixR q Rs (k + 1)) := by
  have hlen := mix_len q Rs k
  have hkm : (mixR q Rs k)[k]'(by omega) = Rs[k] := by rw [mix_get]; simp
  have hfar : v.ownBlock ≠ some (Rs[k]).g := by
    have := h.far _ (List.getElem_mem (l := mixR q Rs k) (n := k) (by omega))
    rwa [hkm] at this
  have hnd : (Rs.map Rw.g).Nodup := by have := h.nodup; rwa [mix_g] at this
  refine ⟨?_, ?_, ?_, by rw [mix_g]; exact hnd⟩
  · have o := h.out.kept hg (by
      cases hv : v.ownBlock with
      | none => exact .inl rfl
      | some b => exact .inr (fun e => hfar (by rw [hv, ← e])))
    rw [mix_hdr hq, mix_len] at o
    rw [mix_hdr hq, mix_len]
    exact o
  · intro r hr
    obtain ⟨j, hj, rfl⟩ := List.getElem_of_mem hr
    have hj' : j < Rs.length := by rwa [mix_len] at hj
    by_cases e : j = k
    · subst e
      rw [mix_get, decide_eq_true (Nat.lt_succ_self j), cond_true]
      show w'.ownsRow B 3 1 (.slice (some ⟨(Rs[j]).g, 0, none⟩) (marksS _ q).length (Rs[j]).cap) (marksS _ q).length _
      rw [marksS_len]
      exact ho
    · have hd : decide (j < k + 1) = decide (j < k) := by
        rw [decide_eq_decide]; omega
      have hs : (mixR q Rs (k + 1))[j] = (mixR q Rs k)[j]'(by omega) := by rw [mix_get, mix_get, hd]
      rw [hs]
      have o := h.row _ (List.getElem_mem (l := mixR q Rs k) (n := j) (by omega))
      refine o.kept hg (.inr fun e2 => e (g_inj hnd hj' hk ?_))
      have e3 : ((mixR q Rs k)[j]'(by omega)).g = (Rs[j]).g := by rw [mix_get]; cases decide (j < k) <;> rfl
      rw [hdr_own, e3] at e2
      exact Option.some.inj e2
  · intro r hr
    obtain ⟨j, hj, rfl⟩ := List.getElem_of_mem hr
    have := h.far _ (List.getElem_mem (l := mixR q Rs k) (n := j) (by rw [mix_len] at hj ⊢; exact hj))
    have e3 : ((mixR q Rs k)[j]'(by rw [mix_len] at hj ⊢; exact hj)).g = ((mixR q Rs (k + 1))[j]).g := by
      rw [mix_get, mix_get]; cases decide (j < k) <;> cases decide (j < k + 1) <;> rfl
    rwa [e3] at this
theorem mix_all (q : Nat) (Rs : List Rw) {r : Rw} (h : r ∈ mixR q Rs Rs.length) : ∃ j, ∃ hj : j < Rs.length, r = mkR q j Rs[j] := by
  obtain ⟨j, hj, rfl⟩ := List.getElem_of_mem h
  have hj' : j < Rs.length := by rwa [mix_len] at hj
  exact ⟨j, hj', by rw [mix_get, decide_eq_true hj']; rfl⟩
theorem row_w {q k n : Nat} (hq : q ≤ 1000) (hk : k ≤ n) (hn : n ≤ 1000) : 0 ≤ 1 + (q : Int) * (k : Int) ∧ 1 + (q : Int) * (k : Int) ≤ 1000000000 := by
  have h : q * k ≤ 1000 * 1000 := Nat.mul_le_mul hq (Nat.le_trans hk hn)
  have e : (q : Int) * (k : Int) = ((q * k : Nat) : Int) := by simp
  rw [e]; omega
theorem row_nx (q k : Nat) : 1 + (q : Int) * (k : Int) + (q : Int) = 1 + (q : Int) * ((k + 1 : Nat) : Int) := by
  rw [Int.natCast_add, Int.mul_add]; simp; omega
theorem k_w {k n : Nat} (hk : k ≤ n) (hn : n ≤ 1000) : wrap64 ((k : Int) + 1) = (k : Int) + 1 ∧ IntKind.i64.wrap ((k : Int) + 1) = (k : Int) + 1 := ⟨IntWalk.wrap64_in _ (by omega), IntWalk.i64_in _ (by omega)⟩
/-- Nothing of what lay has changed but the rows. -/
structure ButRows (Rs : List Rw) (w w' : World) : Prop where
  os : w'.os = w.os
  tape : w'.tape = w.tape
  output : w'.output = w.output
  size : w.heap.size ≤ w'.heap.size
  block : ∀ j, j < w.heap.size → (∀ r ∈ Rs, r.g ≠ j) → w'.heap[j]? = w.heap[j]?
theorem ButRows.refl (Rs : List Rw) (w : World) : ButRows Rs w w := ⟨rfl, rfl, rfl, Nat.le_refl _, fun _ _ _ => rfl⟩
theorem ButRows.step {Rs : List Rw} {w a b : World} {g : Nat} (h : ButRows Rs w a) (hg : a.grownBy b (some g)) (hn : ∀ j, (∀ r ∈ Rs, r.g ≠ j) → g ≠ j) : ButRows Rs w b :=
  ⟨hg.os.trans h.os, hg.tape.trans h.tape, hg.output.trans h.output, Nat.le_trans h.size hg.size, fun j hj hr => (hg.block j (Nat.lt_of_lt_of_le hj h.size) (fun e => hn j hr (Option.some.inj e).symm)).trans (h.block j hj hr)⟩
theorem ButRows.below {Rs : List Rw} {w a b : World} {B : Nat} (h : ButRows Rs a b) (hb : Below B w a) (hB : B ≤ a.heap.size) (hr : ∀ r ∈ Rs, B ≤ r.g) : Below B w b :=
  ⟨h.os.trans hb.os, h.tape.trans hb.tape, h.output.trans hb.output, Nat.le_trans hb.size h.size, fun j hj => (h.block j (Nat.lt_of_lt_of_le hj hB) (fun r hrr e => by have := hr r hrr; omega)).trans (hb.block j hj)⟩
/-- Another slice of the call's own, whose block is no row's. -/
theorem ButRows.own {Rs : List Rw} {w w' : World} {B size n : Nat} {e : TypeId} {v : Value} {xs : List Value} (h : ButRows Rs w w') (ho : w.ownsRow B e size v n xs) (hf : ∀ r ∈ Rs, v.ownBlock ≠ some r.g) : w'.ownsRow B e size v n xs := by
  refine ⟨ho.1, ?_⟩
  rcases ho.2 with hn | ⟨g, cap, cur, rfl, hb, hgg, rest⟩
  · exact .inl hn
  · refine .inr ⟨g, cap, cur, rfl, hb, ?_, rest⟩
    exact (h.block g (Array.getElem?_eq_some_iff.1 hgg).1 (fun r hr e => hf r hr (by rw [e]; rfl))).trans hgg
set_option maxRecDepth 100000 in
set_option maxHeartbeats 800000 in
/-- Every row is overwritten by its marks. -/
theorem mark_rows (B : Nat) (v : Value) (Rs : List Rw) (q : Nat) (w : World) (h : RowsR w B v Rs) (hq : ∀ r ∈ Rs, r.M.length = q) (hq1 : q ≤ 1000) (hn : Rs.length ≤ 1000) :
    Calls Try.prog 22 #[v, .int .i64 1] w fun e w' => e = .returned (.int .i64 (1 + (q : Int) * (Rs.length : Int))) ∧ RowsR w' B v (mixR q Rs Rs.length) ∧ ButRows Rs w w' := by
  obtain ⟨A, c, rfl, -⟩ := h.form
  have HQ := Lib.hid hq
  have HH := Lib.hid h
  clear h hq
  go_enter Try.func22, Try.ntmps22
  go_wp2_with fail
  go_loopw [1, 5] (fun m i wr => ∃ (k : Nat) (sv : Int), k ≤ Rs.length ∧ Hid (sv = 1 + (q : Int) * (k : Int)) ∧ i = .int .i64 k ∧ m = .int .i64 sv ∧ Hid (RowsR wr B (.slice A Rs.length c) (mixR q Rs k)) ∧ Hid (ButRows Rs w wr)) (fun _ i _ => Rs.length - (intOf i).toNat)
  case atStart => exact ⟨0, 1, Nat.zero_le _, by show (1 : Int) = 1 + (q : Int) * ((0 : Nat) : Int); simp, rfl, rfl, by show RowsR _ _ _ _; rw [mix_zero]; exact HH.out, ButRows.refl _ _⟩
  case round =>
    obtain ⟨wo, rfl⟩ : ∃ wo : World, wo = wr := ⟨_, rfl⟩
    obtain ⟨k, sv, hk, HS, rfl, rfl, HR, HK⟩ := hrel
    by_cases hlt : k < Rs.length
    · obtain ⟨A', c', hv, hcell⟩ := HR.out.form
      simp only [Value.slice.injEq] at hv
      obtain ⟨rfl, hl, rfl⟩ := hv
      obtain ⟨g, rfl, hc⟩ := hcell k (by rw [mix_len]; exact hlt)
      have hkm : (mixR q Rs k)[k]'(by rw [mix_len]; exact hlt) = Rs[k] := by rw [mix_get]; simp
      rw [hkm] at hc
      have hrow := HR.out.row _ (List.getElem_mem (l := mixR q Rs k) (n := k) (by rw [mix_len]; exact hlt))
      rw [hkm] at hrow
      have hql := HQ.out _ (List.getElem_mem hlt)
      obtain ⟨w0, w1⟩ := row_w hq1 hk hn
      have hx : hdr Rs[k] = .slice (some ⟨(Rs[k]).g, 0, none⟩) q (Rs[k]).cap := by unfold hdr; rw [hql]
      rw [hx] at hc hrow
      rw [hql] at hrow
      have HM := Lib.hid (mark_row B (Rs[k]).g (Rs[k]).cap q _ sv wo hrow (by omega) (by rw [HS.out]; exact w0) (by rw [HS.out]; exact w1))
      have HST : Hid (∀ w', w'.ownsRow B 3 1 (.slice (some ⟨(Rs[k]).g, 0, none⟩) q (Rs[k]).cap) q (ints (marksS sv q)) → wo.grownBy w' (some (Rs[k]).g) → RowsR w' B (.slice (some ⟨g, 0, none⟩) Rs.length c) (mixR q Rs (k + 1))) := fun w' ho hg => mix_step HQ.out hlt HR.out (by rw [← HS.out]; exact ho) hg
      have HIN : Hid (∀ j, (∀ r ∈ Rs, r.g ≠ j) → (Rs[k]).g ≠ j) := fun j hh => hh _ (List.getElem_mem hlt)
      obtain ⟨f1, f1'⟩ := k_w hk hn
      have HS1 : Hid (sv + (q : Int) = 1 + (q : Int) * ((k + 1 : Nat) : Int)) := by show _ = _; rw [HS.out, row_nx]
      clear hrow hkm hcell hql hx w0 w1 hl
      generalize (Rs[k]).g = gk at *
      generalize (Rs[k]).cap = ck at *
      go_wp2_with fail
      refine HM.out.mono ?_
      rintro e w2 ⟨rfl, ho, hg⟩
      have R2 := Lib.hid (HST.out w2 ho hg)
      have K2 := Lib.hid (HK.out.step hg HIN.out)
      clear ho hg hc
      go_wp2_with fail
      clear f1 f1'
      go_roundw
      case rel => exact ⟨k + 1, sv + (q : Int), by omega, HS1, by go_num, rfl, R2, K2⟩
      case measure => simp [intOf]; omega
    · obtain rfl : k = Rs.length := by omega
      go_wp2_with fail
      go_ret
      exact ⟨by rw [HS.out]; rfl, HR.out, HK.out⟩
set_option maxRecDepth 100000 in
set_option maxHeartbeats 800000 in
/-- The marks are still there. -/
theorem held_rows (B : Nat) (v : Value) (Rs : List Rw) (q : Nat) (w : World) (h : RowsR w B v (mixR q Rs Rs.length)) (hq1 : q ≤ 1000) (hn : Rs.length ≤ 1000) :
    Calls Try.prog 23 #[v, .int .i64 1] w fun e w' => e = .returned (.int .i64 (1 + (q : Int) * (Rs.length : Int))) ∧ w' = w := by
  obtain ⟨A, c, rfl, hcell⟩ := h.form
  have HH := Lib.hid h
  have HC := Lib.hid hcell
  rw [mix_len]
  clear h hcell
  go_enter Try.func23, Try.ntmps23
  go_wp2_with fail
  go_loopw [1, 5] (fun m i wr => ∃ (k : Nat) (sv : Int), k ≤ Rs.length ∧ Hid (sv = 1 + (q : Int) * (k : Int)) ∧ i = .int .i64 k ∧ m = .int .i64 sv ∧ wr = w) (fun _ i _ => Rs.length - (intOf i).toNat)
  case atStart => exact ⟨0, 1, Nat.zero_le _, by show (1 : Int) = 1 + (q : Int) * ((0 : Nat) : Int); simp, rfl, rfl, rfl⟩
  case round =>
    obtain ⟨k, sv, hk, HS, rfl, rfl, rfl⟩ := hrel
    by_cases hlt : k < Rs.length
    · obtain ⟨g, rfl, hc⟩ := HC.out k (by rw [mix_len]; exact hlt)
      have hkm : (mixR q Rs Rs.length)[k]'(by rw [mix_len]; exact hlt) = mkR q k Rs[k] := by rw [mix_get, decide_eq_true hlt]; rfl
      rw [hkm] at hc
      have hrow := HH.out.row _ (List.getElem_mem (l := mixR q Rs Rs.length) (n := k) (by rw [mix_len]; exact hlt))
      rw [hkm] at hrow
      obtain ⟨w0, w1⟩ := row_w hq1 hk hn
      have hx : hdr (mkR q k Rs[k]) = .slice (some ⟨(Rs[k]).g, 0, none⟩) q (Rs[k]).cap := by simp [hdr, mkR, marksS_len]
      have hml : (mkR q k Rs[k]).M.length = q := marksS_len _ _
      rw [hx] at hc hrow
      rw [hml] at hrow
      have HM := Lib.hid (held_row B (Rs[k]).g (Rs[k]).cap q sv wr (by rw [HS.out]; exact hrow) (by omega) (by rw [HS.out]; exact w0) (by rw [HS.out]; exact w1))
      obtain ⟨f1, f1'⟩ := k_w hk hn
      have HS1 : Hid (sv + (q : Int) = 1 + (q : Int) * ((k + 1 : Nat) : Int)) := by show _ = _; rw [HS.out, row_nx]
      have hnn : decide (sv + (q : Int) < 0) = false := decide_eq_false (by rw [HS.out]; omega)
      have hnn' : ¬ sv + (q : Int) < 0 := by rw [HS.out]; omega
      clear hrow hkm hx hml w0 w1
      generalize (Rs[k]).g = gk at *
      generalize (Rs[k]).cap = ck at *
      go_wp2_with fail
      refine HM.out.mono ?_
      rintro e w2 ⟨rfl, rfl⟩
      clear hc
      go_wp2_with fail
      clear f1 f1' hnn hnn'
      go_roundw
      case rel => exact ⟨k + 1, sv + (q : Int), by omega, HS1, by go_num, rfl, by first | trivial | rfl⟩
      case measure => simp [intOf]; omega
    · obtain rfl : k = Rs.length := by omega
      go_wp2_with fail
      go_ret
      exact ⟨by rw [HS.out]; rfl, rfl⟩
end Go.Proofs.Ytimkknljoeiceaa

/-! Tri -/
namespace Go.Proofs.Ytimkknljoeiceaa

/-- Whether two chords cross. -/
def crB (d e : Int × Int) : Bool := (decide (d.1 < e.1) && (decide (e.1 < d.2) && decide (d.2 < e.2))) || (decide (e.1 < d.1) && (decide (d.1 < e.2) && decide (e.2 < d.2)))
theorem crB_iff (d e : Int × Int) : crB d e = true ↔ (d.1 < e.1 ∧ e.1 < d.2 ∧ d.2 < e.2) ∨ (e.1 < d.1 ∧ d.1 < e.2 ∧ e.2 < d.2) := by simp [crB]
theorem crB_symm (d e : Int × Int) : crB d e = crB e d := by
  rw [Bool.eq_iff_iff, crB_iff, crB_iff]; omega
def ncL (d : Int × Int) (R : List (Int × Int)) : List (Int × Int) := R.filter fun e => !crB d e
def sumN (f : List (Int × Int) → Nat) : List (Int × Int) → Nat
  | [] => 0
  | d :: R => f (ncL d R) + sumN f R
/-- How many sets of m of the chords there are, no two of which cross. -/
def setN : Nat → List (Int × Int) → Nat
  | 0 => fun _ => 1
  | m + 1 => sumN (setN m)
theorem setN_nil (m : Nat) : setN (m + 1) [] = 0 := rfl
theorem setN_cons (m : Nat) (d : Int × Int) (R : List (Int × Int)) : setN (m + 1) (d :: R) = setN m (ncL d R) + setN (m + 1) R := rfl
theorem ncL_comm (a b : Int × Int) (R : List (Int × Int)) : ncL a (ncL b R) = ncL b (ncL a R) := by
  unfold ncL
  rw [List.filter_filter, List.filter_filter]
  exact List.filter_congr fun x _ => Bool.and_comm _ _
theorem ncL_cons (a b : Int × Int) (R : List (Int × Int)) : ncL a (b :: R) = bif crB a b then ncL a R else b :: ncL a R := by
  unfold ncL
  rw [List.filter_cons]
  cases crB a b <;> rfl
theorem sum_swap (m : Nat) (a b : Int × Int) (R : List (Int × Int)) : setN m (ncL a (b :: R)) + setN m (ncL b R) = setN m (ncL b (a :: R)) + setN m (ncL a R) := by
  cases m with
  | zero => rfl
  | succ m =>
    rw [ncL_cons, ncL_cons, crB_symm b a]
    cases h : crB a b
    · simp only [cond_false, setN_cons]
      rw [ncL_comm b a]; omega
    · simp only [cond_true]; omega
theorem setN_perm (m : Nat) {R R' : List (Int × Int)} (h : R.Perm R') : setN m R = setN m R' := by
  induction m generalizing R R' with
  | zero => rfl
  | succ m ih =>
    induction h with
    | nil => rfl
    | cons d h ih2 =>
      rw [setN_cons, setN_cons, ih2]
      exact congrArg (· + _) (ih (h.filter _))
    | swap a b R =>
      rw [setN_cons, setN_cons, setN_cons, setN_cons]
      have := sum_swap m b a R
      omega
    | trans _ _ h1 h2 => exact h1.trans h2
/-- No set of more than p. -/
def Cap (A : List (Int × Int)) (p : Nat) : Prop := ∀ s, p < s → setN s A = 0
theorem cap_nil (p : Nat) : Cap [] p := fun s h => by
  obtain ⟨s, rfl⟩ : ∃ t, s = t + 1 := ⟨s - 1, by omega⟩
  rfl
theorem cap_cons {d : Int × Int} {A : List (Int × Int)} {p : Nat} (h : Cap (d :: A) p) : ∃ q, p = q + 1 ∧ Cap (ncL d A) q ∧ Cap A p := by
  cases p with
  | zero =>
    have := h 1 (by omega)
    rw [setN_cons] at this
    have e : setN 0 (ncL d A) = 1 := rfl
    omega
  | succ q =>
    refine ⟨q, rfl, fun s hs => ?_, fun s hs => ?_⟩
    · have := h (s + 1) (by omega)
      rw [setN_cons] at this; omega
    · obtain ⟨t, rfl⟩ : ∃ t, s = t + 1 := ⟨s - 1, by omega⟩
      have := h (t + 1) hs
      rw [setN_cons] at this; omega
theorem cap_mk {d : Int × Int} {A : List (Int × Int)} {q : Nat} (h1 : Cap (ncL d A) q) (h2 : Cap A (q + 1)) : Cap (d :: A) (q + 1) := fun s hs => by
  obtain ⟨t, rfl⟩ : ∃ t, s = t + 1 := ⟨s - 1, by omega⟩
  rw [setN_cons, h1 t (by omega), h2 (t + 1) hs]
theorem cap_perm {A B : List (Int × Int)} {p : Nat} (h : A.Perm B) (hc : Cap A p) : Cap B p := fun s hs => by rw [← setN_perm s h]; exact hc s hs
theorem cap_more {A : List (Int × Int)} {p q : Nat} (h : Cap A p) (hq : p ≤ q) : Cap A q := fun s hs => h s (by omega)
def NoCr (A B : List (Int × Int)) : Prop := ∀ a ∈ A, ∀ b ∈ B, crB a b = false
theorem ncL_apart {d : Int × Int} {A B : List (Int × Int)} (h : ∀ b ∈ B, crB d b = false) : ncL d (A ++ B) = ncL d A ++ B := by
  unfold ncL
  rw [List.filter_append]
  congr 1
  exact List.filter_eq_self.2 fun b hb => by rw [h b hb]; rfl
theorem ncL_all {d : Int × Int} {B : List (Int × Int)} (h : ∀ b ∈ B, crB d b = false) : ncL d B = B := by
  have := ncL_apart (A := []) h
  simpa [ncL] using this
theorem ncL_len (d : Int × Int) (A : List (Int × Int)) : (ncL d A).length ≤ A.length := List.length_filter_le _ _
theorem product : ∀ (n : Nat) (A : List (Int × Int)), A.length ≤ n → ∀ (B : List (Int × Int)) (p q : Nat), NoCr A B → Cap A p → Cap B q → setN (p + q) (A ++ B) = setN p A * setN q B ∧ Cap (A ++ B) (p + q)
  | _, [], _, B, p, q, _, _, hB => by
    refine ⟨?_, fun s hs => hB s (by omega)⟩
    cases p with
    | zero => rw [Nat.zero_add]; show setN q B = 1 * _; omega
    | succ p => rw [setN_nil, Nat.zero_mul]; exact hB _ (by omega)
  | 0, d :: A, hn, _, _, _, _, _, _ => by simp at hn
  | n + 1, d :: A, hn, B, p, q, hx, hA, hB => by
    obtain ⟨r, rfl, h1, h2⟩ := cap_cons hA
    have hl := ncL_len d A
    simp only [List.length_cons] at hn
    have hd : ∀ b ∈ B, crB d b = false := hx d (by simp)
    obtain ⟨k1, k2⟩ := product n (ncL d A) (by omega) B r q (fun a ha => hx a (by simp [(List.mem_filter.1 ha).1])) h1 hB
    obtain ⟨k3, k4⟩ := product n A (by omega) B (r + 1) q (fun a ha => hx a (by simp [ha])) h2 hB
    rw [← ncL_apart hd] at k1 k2
    have e : r + 1 + q = (r + q) + 1 := by omega
    rw [e] at k3 k4 ⊢
    refine ⟨?_, cap_mk k2 k4⟩
    rw [List.cons_append, setN_cons, k1, k3, setN_cons, Nat.add_mul]
/-! ### chords within a part of the polygon -/
def inO (i k : Nat) (e : Int × Int) : Bool := decide ((i : Int) ≤ e.1) && (decide (e.2 ≤ (k : Int)) && !(decide (e.1 = (i : Int)) && decide (e.2 = (k : Int))))
def inC (i k : Nat) (e : Int × Int) : Bool := decide ((i : Int) ≤ e.1) && decide (e.2 ≤ (k : Int))
def inX (i k j : Nat) (e : Int × Int) : Bool := decide ((i : Int) ≤ e.1) && (decide (e.2 ≤ (k : Int)) && (!decide (e.1 = (i : Int)) || decide (e.2 < (j : Int))))
/-- Chords with at least one corner between their ends, each once. -/
def Chords (S : List (Int × Int)) : Prop := S.Nodup ∧ ∀ e ∈ S, e.1 + 2 ≤ e.2
def seesB (S : List (Int × Int)) (i k : Nat) : Bool := k == i + 1 || S.contains ((i : Int), (k : Int))
def sumT' (f : Nat → Nat) : Nat → Nat
  | 0 => 0
  | t + 1 => sumT' f t + f t
def triN (S : List (Int × Int)) : Nat → Nat → Nat → Nat
  | 0, _, _ => 1
  | d + 1, i, k => bif k == i + 1 then 1 else sumT' (fun t => bif seesB S i (i + 1 + t) && seesB S (i + 1 + t) k then triN S d i (i + 1 + t) * triN S d (i + 1 + t) k else 0) (k - i - 1)
theorem perm_of {S T : List (Int × Int)} (hS : S.Nodup) (hT : T.Nodup) (h : ∀ e, e ∈ S ↔ e ∈ T) : S.Perm T := (List.perm_ext_iff_of_nodup hS hT).2 h
def OpenOk (S : List (Int × Int)) (d i k : Nat) : Prop := Cap (S.filter (inO i k)) (k - i - 2) ∧ setN (k - i - 2) (S.filter (inO i k)) = triN S d i k
def ShutOk (S : List (Int × Int)) (d i k : Nat) : Prop := Cap (S.filter (inC i k)) (k - i - 1) ∧ setN (k - i - 1) (S.filter (inC i k)) = bif seesB S i k then triN S d i k else 0
theorem shut_of {S : List (Int × Int)} (hS : Chords S) {d i k : Nat} (hik : i < k) (h : OpenOk S d i k) : ShutOk S d i k := by
  obtain ⟨h1, h2⟩ := h
  by_cases hm : ((i : Int), (k : Int)) ∈ S
  · have hk : i + 2 ≤ k := by have := hS.2 _ hm; simp only at this; omega
    have hp : (S.filter (inC i k)).Perm (((i : Int), (k : Int)) :: S.filter (inO i k)) := by
      refine perm_of (hS.1.filter _) (List.nodup_cons.2 ⟨by simp [inO], hS.1.filter _⟩) fun e => ?_
      simp only [List.mem_filter, List.mem_cons, inC, inO, Bool.and_eq_true, decide_eq_true_eq, Bool.not_eq_true', Bool.and_eq_false_imp, decide_eq_false_iff_not]
      constructor
      · rintro ⟨a, b, c⟩
        by_cases q : e = ((i : Int), (k : Int))
        · exact Or.inl q
        · exact Or.inr ⟨a, b, c, fun q1 q2 => q (Prod.ext q1 q2)⟩
      · rintro (rfl | ⟨a, b, c, -⟩)
        · exact ⟨hm, Int.le_refl _, Int.le_refl _⟩
        · exact ⟨a, b, c⟩
    have hnc : ncL ((i : Int), (k : Int)) (S.filter (inO i k)) = S.filter (inO i k) := ncL_all fun b hb => by
      simp only [List.mem_filter, inO, Bool.and_eq_true, decide_eq_true_eq] at hb
      rw [← Bool.not_eq_true, crB_iff]; simp only; omega
    have e : k - i - 1 = (k - i - 2) + 1 := by omega
    have hs : seesB S i k = true := by simp [seesB, hm]
    rw [ShutOk, e, hs, cond_true]
    refine ⟨cap_perm hp.symm (cap_mk (by rw [hnc]; exact h1) (cap_more h1 (by omega))), ?_⟩
    rw [setN_perm _ hp, setN_cons, hnc, h2, h1 (k - i - 2 + 1) (by omega)]
    rfl
  · have hp : S.filter (inC i k) = S.filter (inO i k) := List.filter_congr fun e he => by
      by_cases q1 : e.1 = (i : Int) <;> by_cases q2 : e.2 = (k : Int)
      · exact absurd (show ((i : Int), (k : Int)) ∈ S by rw [← q1, ← q2]; exact he) hm
      all_goals simp [inC, inO, q1, q2]
    have hc : S.contains ((i : Int), (k : Int)) = false := by simp [hm]
    rw [ShutOk, hp]
    refine ⟨cap_more h1 (by omega), ?_⟩
    rw [seesB, hc, Bool.or_false]
    cases hq : (k == i + 1)
    · have hne : k ≠ i + 1 := by simpa using hq
      exact h1 _ (by omega)
    · have he : k = i + 1 := by simpa using hq
      subst he
      have e1 : i + 1 - i - 1 = 0 := by omega
      have e2 : i + 1 - i - 2 = 0 := by omega
      rw [e2] at h2
      rw [e1, h2]; rfl
theorem sum_step (S : List (Int × Int)) (hS : Chords S) (d i k : Nat) (hik : i + 2 ≤ k) (hO : ∀ j, i < j → j < k → OpenOk S d i j) (hC : ∀ j, i < j → j < k → ShutOk S d j k) :
    ∀ t, t + i + 2 ≤ k → Cap (S.filter (inX i k (i + 2 + t))) (k - i - 2) ∧ setN (k - i - 2) (S.filter (inX i k (i + 2 + t))) = sumT' (fun t => bif seesB S i (i + 1 + t) && seesB S (i + 1 + t) k then triN S d i (i + 1 + t) * triN S d (i + 1 + t) k else 0) (t + 1)
  | 0, ht => by
    have hp : S.filter (inX i k (i + 2 + 0)) = S.filter (inC (i + 1) k) := List.filter_congr fun e he => by
      have := hS.2 e he
      rw [Bool.eq_iff_iff]
      simp only [inX, inC, Bool.and_eq_true, Bool.or_eq_true, decide_eq_true_eq, Bool.not_eq_true', decide_eq_false_iff_not]
      omega
    obtain ⟨c1, c2⟩ := hC (i + 1) (by omega) (by omega)
    have e : k - (i + 1) - 1 = k - i - 2 := by omega
    rw [e] at c1 c2
    rw [hp]
    refine ⟨c1, c2.trans ?_⟩
    show _ = 0 + _
    have o := (hO (i + 1) (by omega) (by omega)).2
    have e2 : i + 1 - i - 2 = 0 := by omega
    rw [e2] at o
    have s1 : seesB S i (i + 1) = true := by simp [seesB]
    have o' : triN S d i (i + 1) = 1 := o.symm
    simp only [Nat.add_zero, s1, Bool.true_and, o', Nat.one_mul, Nat.zero_add]
  | t + 1, ht => by
    obtain ⟨c1, c2⟩ := sum_step S hS d i k hik hO hC t (by omega)
    have ej : i + 1 + (t + 1) = i + 2 + t := by omega
    show _ ∧ _ = sumT' _ (t + 1) + _
    rw [← c2]
    simp only [ej]
    generalize hj : i + 2 + t = j at *
    have e2 : i + 2 + (t + 1) = j + 1 := by omega
    rw [e2]
    obtain ⟨o1, o2⟩ := hO j (by omega) (by omega)
    obtain ⟨s1, s2⟩ := hC j (by omega) (by omega)
    by_cases hm : ((i : Int), (j : Int)) ∈ S
    · have hp : (S.filter (inX i k (j + 1))).Perm (((i : Int), (j : Int)) :: S.filter (inX i k j)) := by
        refine perm_of (hS.1.filter _) (List.nodup_cons.2 ⟨by simp [inX], hS.1.filter _⟩) fun e => ?_
        simp only [List.mem_filter, List.mem_cons, inX, Bool.and_eq_true, Bool.or_eq_true, decide_eq_true_eq, Bool.not_eq_true', decide_eq_false_iff_not]
        constructor
        · rintro ⟨a, b, c, x⟩
          by_cases q : e = ((i : Int), (j : Int))
          · exact Or.inl q
          · refine Or.inr ⟨a, b, c, ?_⟩
            have q' : e.1 = (i : Int) → e.2 ≠ (j : Int) := fun q1 q2 => q (Prod.ext q1 q2)
            omega
        · rintro (rfl | ⟨a, b, c, x⟩)
          · exact ⟨hm, by simp only; omega, by simp only; omega, by simp only; omega⟩
          · exact ⟨a, b, c, by omega⟩
      have hnc : (ncL ((i : Int), (j : Int)) (S.filter (inX i k j))).Perm (S.filter (inO i j) ++ S.filter (inC j k)) := by
        refine perm_of ((hS.1.filter _).filter _) (List.nodup_append.2 ⟨hS.1.filter _, hS.1.filter _, ?_⟩) fun e => ?_
        · intro a ha b hb
          simp only [List.mem_filter, inO, inC, Bool.and_eq_true, decide_eq_true_eq] at ha hb
          have h1 := hS.2 a ha.1
          rintro rfl
          omega
        · simp only [ncL, List.mem_filter, List.mem_append, inX, inO, inC, Bool.and_eq_true, Bool.or_eq_true, decide_eq_true_eq, Bool.not_eq_true', decide_eq_false_iff_not, Bool.and_eq_false_imp]
          have cr : (crB ((i : Int), (j : Int)) e = false) ↔ ¬ (((i : Int) < e.1 ∧ e.1 < (j : Int) ∧ (j : Int) < e.2) ∨ (e.1 < (i : Int) ∧ (i : Int) < e.2 ∧ e.2 < (j : Int))) := by
            rw [← Bool.not_eq_true, crB_iff]
          rw [cr]
          constructor
          · rintro ⟨⟨a, b, c, x⟩, y⟩
            have := hS.2 e a
            by_cases z : e.2 ≤ (j : Int)
            · exact Or.inl ⟨a, b, z, fun q => by omega⟩
            · exact Or.inr ⟨a, by omega, c⟩
          · rintro (⟨a, b, c, x⟩ | ⟨a, b, c⟩)
            · have := hS.2 e a
              refine ⟨⟨a, b, by omega, ?_⟩, by omega⟩
              by_cases q : e.1 = (i : Int)
              · have := x q; omega
              · exact Or.inl q
            · have := hS.2 e a
              exact ⟨⟨a, by omega, c, by omega⟩, by omega⟩
      have hap : NoCr (S.filter (inO i j)) (S.filter (inC j k)) := fun a ha b hb => by
        simp only [List.mem_filter, inO, inC, Bool.and_eq_true, decide_eq_true_eq] at ha hb
        have h1 := hS.2 a ha.1; have h2 := hS.2 b hb.1
        rw [← Bool.not_eq_true, crB_iff]; omega
      obtain ⟨p1, p2⟩ := product _ _ (Nat.le_refl _) _ _ _ hap o1 s1
      have e3 : j - i - 2 + (k - j - 1) = k - i - 3 := by omega
      rw [e3] at p1 p2
      have e4 : k - i - 2 = (k - i - 3) + 1 := by omega
      have hs : seesB S i j = true := by simp [seesB, hm]
      rw [e4] at c1 ⊢
      refine ⟨cap_perm hp.symm (cap_mk (cap_perm hnc.symm p2) c1), ?_⟩
      rw [setN_perm _ hp, setN_cons, setN_perm _ hnc, p1, o2, s2, hs, Bool.true_and, Nat.add_comm]
      cases seesB S j k <;> rfl
    · have hp : S.filter (inX i k (j + 1)) = S.filter (inX i k j) := List.filter_congr fun e he => by
        rw [Bool.eq_iff_iff]
        simp only [inX, Bool.and_eq_true, Bool.or_eq_true, decide_eq_true_eq, Bool.not_eq_true', decide_eq_false_iff_not]
        have q' : e.1 = (i : Int) → e.2 ≠ (j : Int) := fun q1 q2 => hm (by rw [← q1, ← q2]; exact he)
        omega
      have hs : seesB S i j = false := by
        simp only [seesB, Bool.or_eq_false_iff]
        exact ⟨by simp; omega, by simp [hm]⟩
      rw [hp, hs]
      exact ⟨c1, rfl⟩
theorem tri_ok (S : List (Int × Int)) (hS : Chords S) : ∀ d i k, i < k → k - i ≤ d → OpenOk S d i k
  | 0, i, k, hik, hd => by omega
  | d + 1, i, k, hik, hd => by
    cases hq : (k == i + 1)
    · have hne : k ≠ i + 1 := by simpa using hq
      have hO : ∀ j, i < j → j < k → OpenOk S d i j := fun j h1 h2 => tri_ok S hS d i j h1 (by omega)
      have hC : ∀ j, i < j → j < k → ShutOk S d j k := fun j h1 h2 => shut_of hS h2 (tri_ok S hS d j k h2 (by omega))
      obtain ⟨c1, c2⟩ := sum_step S hS d i k (by omega) hO hC (k - i - 2) (by omega)
      have e1 : i + 2 + (k - i - 2) = k := by omega
      have e2 : k - i - 2 + 1 = k - i - 1 := by omega
      rw [e1] at c1 c2
      rw [e2] at c2
      have hp : S.filter (inX i k k) = S.filter (inO i k) := List.filter_congr fun e he => by
        rw [Bool.eq_iff_iff]
        simp only [inX, inO, Bool.and_eq_true, Bool.or_eq_true, decide_eq_true_eq, Bool.not_eq_true', decide_eq_false_iff_not, Bool.and_eq_false_imp]
        constructor
        · rintro ⟨a, b, c⟩; exact ⟨a, b, fun q => by omega⟩
        · rintro ⟨a, b, c⟩
          refine ⟨a, b, ?_⟩
          by_cases q : e.1 = (i : Int)
          · have := c q; omega
          · exact Or.inl q
      rw [hp] at c1 c2
      refine ⟨c1, c2.trans ?_⟩
      rw [triN, hq]; rfl
    · have he : k = i + 1 := by simpa using hq
      have hp : S.filter (inO i k) = [] := List.filter_eq_nil_iff.2 fun e h => by
        have := hS.2 e h
        simp only [inO, Bool.and_eq_true, decide_eq_true_eq]; omega
      rw [OpenOk, hp]
      refine ⟨cap_nil _, ?_⟩
      have e2 : k - i - 2 = 0 := by omega
      rw [e2, triN, hq]; rfl
/-- As many sets of n - 3 chords as triangulations counted part by part. -/
theorem sets_tri {S : List (Int × Int)} (hS : Chords S) {n : Nat} (hn : 3 ≤ n) (hb : ∀ e ∈ S, 0 ≤ e.1 ∧ e.2 < (n : Int) ∧ ¬ (e.1 = 0 ∧ e.2 = (n : Int) - 1)) : setN (n - 3) S = triN S (n - 1) 0 (n - 1) := by
  have h := (tri_ok S hS (n - 1) 0 (n - 1) (by omega) (by omega)).2
  have hp : S.filter (inO 0 (n - 1)) = S := List.filter_eq_self.2 fun e he => by
    have := hb e he
    simp only [inO, Bool.and_eq_true, decide_eq_true_eq, Bool.not_eq_true', Bool.and_eq_false_imp, decide_eq_false_iff_not]
    exact ⟨by omega, by omega, fun q => by omega⟩
  rw [hp] at h
  have e : n - 1 - 0 - 2 = n - 3 := by omega
  rwa [e] at h
end Go.Proofs.Ytimkknljoeiceaa

/-! TriGeo -/
namespace Go.Proofs.Ytimkknljoeiceaa
open Go.RowKit

theorem side_clear {L : List Pt} (h : Good L) {a j : Nat} (ha : a < L.length) (hj : j < L.length) (h1 : j ≠ a) (h2 : j ≠ nx L a) : onP (gt L a) (gt L (nx L a)) (gt L j) = false := by
  have hl := h.1
  have hna := nx_lt (L := L) (by omega) a
  have hnj := nx_lt (L := L) (by omega) j
  have hs : (gt L a, gt L (nx L a)) ∈ sidesL L := mem_sides.2 ⟨a, ha, rfl⟩
  have ht : (gt L j, gt L (nx L j)) ∈ sidesL L := mem_sides.2 ⟨j, hj, rfl⟩
  have hne : gt L j ≠ gt L a := good_far h hj ha h1
  have hne2 : gt L j ≠ gt L (nx L a) := good_far h hj hna h2
  by_cases e : nx L j = a
  · have k := (h.2.2.2 _ ht _ hs (fun q => hne (congrArg Prod.fst q))).1
    simp only at k
    exact (k (by rw [e])).1
  · have hne3 : gt L (nx L j) ≠ gt L a := good_far h hnj ha e
    have k := (h.2.2.2 _ hs _ ht (fun q => hne (congrArg Prod.fst q).symm)).2
    simp only at k
    have m := k (fun q => hne2 q.symm) hne3
    cases ho : onP (gt L a) (gt L (nx L a)) (gt L j)
    · rfl
    · have := Mid.has_shared (a := gt L a) (b := gt L (nx L a)) (c := gt L j) (d := gt L (nx L j)) (p := gt L j) (mem_shared.2 (.inr ⟨.inl rfl, ho⟩))
      rw [m] at this
      rcases this with q | q <;> cases q
theorem diag_clear {L : List Pt} (h : Good L) {a b j : Nat} (_ : a < L.length) (_ : b < L.length) (hj : j < L.length) (h1 : j ≠ a) (h2 : j ≠ b) (hd : diagB L a b = true) : onP (gt L a) (gt L b) (gt L j) = false := by
  have hl := h.1
  have hnj := nx_lt (L := L) (by omega) j
  have hjn : j ≠ nx L j := by rw [nx_eq hj]; split <;> omega
  have hs : sideB L a b j = true := by
    simp only [diagB, Bool.and_eq_true, List.all_eq_true, List.mem_range] at hd
    exact hd.2.1 j hj
  cases ho : onP (gt L a) (gt L b) (gt L j)
  · rfl
  · exfalso
    have m1 : gt L j ∈ sharedS (gt L a) (gt L b) (gt L j) (gt L (nx L j)) := mem_shared.2 (.inr ⟨.inl rfl, ho⟩)
    have hm := Mid.has_shared m1
    unfold sideB at hs
    cases hsh : sharesB L a b j
    · rw [hsh] at hs
      simp only [cond_false, beq_iff_eq] at hs
      rw [show meetI (gt L a) (gt L b) (gt L j) (gt L (nx L j)) = 0 from hs] at hm
      rcases hm with q | q <;> cases q
    · rw [hsh] at hs
      have he : nx L j = a ∨ nx L j = b := by
        simp only [sharesB, Bool.or_eq_true, beq_iff_eq] at hsh
        rcases hsh with ((e | e) | e) | e
        · exact absurd e h1
        · exact absurd e h2
        · exact .inl e
        · exact .inr e
      have m2 : gt L (nx L j) ∈ sharedS (gt L a) (gt L b) (gt L j) (gt L (nx L j)) := mem_shared.2 (.inl ⟨by rcases he with e | e <;> simp [e], on_right _ _⟩)
      rcases hm with e | e
      · exact good_far h hj hnj hjn (meet_one e _ _ m1 m2)
      · rw [show sideM L a b j = 3 from e] at hs; cases hs
/-- Corners that are joined by a side or a diagonal. -/
def Sees (L : List Pt) (a b : Nat) : Prop := nx L a = b ∨ nx L b = a ∨ diagB L a b = true
theorem sees_clear {L : List Pt} (h : Good L) {a b j : Nat} (ha : a < L.length) (hb : b < L.length) (hj : j < L.length) (h1 : j ≠ a) (h2 : j ≠ b) (hs : Sees L a b) : onP (gt L a) (gt L b) (gt L j) = false := by
  rcases hs with rfl | rfl | hd
  · exact side_clear h ha hj h1 h2
  · rw [onP_flip]; exact side_clear h hb hj h2 h1
  · exact diag_clear h ha hb hj h1 h2 hd
theorem sees_cross {L : List Pt} (h : Good L) {i j k : Nat} (hij : i < j) (hjk : j < k) (hk : k < L.length) (s1 : Sees L i j) (s2 : Sees L j k) (s3 : Sees L i k) : crossP (gt L i) (gt L j) (gt L k) ≠ 0 := fun hc => by
  rcases on_line hc with q | q | q
  · rw [sees_clear h (by omega) hk (by omega) (by omega) (by omega) s3] at q; cases q
  · rw [sees_clear h (by omega) hk (by omega) (by omega) (by omega) s2] at q; cases q
  · rw [sees_clear h (by omega) (by omega) hk (by omega) (by omega) s1] at q; cases q
theorem rowD_nodup (L : List (Int × Int)) (a k : Nat) : (rowD L a k).Nodup := by
  unfold rowD
  refine List.Pairwise.map _ (fun x y hxy => ?_) ((List.nodup_range (n := k)).filter _)
  intro e
  simp only [Prod.mk.injEq] at e
  omega
theorem allD_nodup (L : List (Int × Int)) : ∀ i, (allD L i).Nodup
  | 0 => by simp [allD]
  | i + 1 => by
    rw [allD_step]
    refine List.nodup_append.2 ⟨allD_nodup L i, rowD_nodup L i _, ?_⟩
    rintro ⟨x, y⟩ h1 ⟨x', y'⟩ h2 e
    simp only [Prod.mk.injEq] at e
    obtain ⟨a, c, rfl, -, ha, -⟩ := (allD_mem L i x y).1 h1
    have := (rowD_mem L i L.length x' y').1 h2
    omega
theorem far_of {L : List (Int × Int)} {a c : Nat} (h : diagB L a c = true) : nx L a ≠ c ∧ nx L c ≠ a := by
  simp only [diagB, farB, Bool.and_eq_true, Bool.not_eq_true', Bool.or_eq_false_iff, beq_eq_false_iff_ne] at h
  exact ⟨h.1.1.1, h.1.1.2⟩
theorem allD_chords (L : List (Int × Int)) : Chords (allD L L.length) := by
  refine ⟨allD_nodup L _, ?_⟩
  rintro ⟨x, y⟩ h
  obtain ⟨a, c, rfl, rfl, ha, hc, hac, hd⟩ := (allD_mem L _ x y).1 h
  have := (far_of hd).1
  rw [nx_eq ha] at this
  simp only
  split at this <;> omega
theorem allD_ends (L : List (Int × Int)) (h3 : 3 ≤ L.length) : ∀ e ∈ allD L L.length, 0 ≤ e.1 ∧ e.2 < (L.length : Int) ∧ ¬ (e.1 = 0 ∧ e.2 = (L.length : Int) - 1) := by
  rintro ⟨x, y⟩ h
  obtain ⟨a, c, rfl, rfl, ha, hc, hac, hd⟩ := (allD_mem L _ x y).1 h
  have := (far_of hd).2
  rw [nx_eq hc] at this
  simp only
  split at this <;> omega
theorem sees_all (L : List (Int × Int)) {i k : Nat} (hik : i < k) (hk : k < L.length) : seesB (allD L L.length) i k = (k == i + 1 || diagB L i k) := by
  rw [seesB]
  congr 1
  rw [Bool.eq_iff_iff, List.contains_iff_mem, allD_mem]
  constructor
  · rintro ⟨a, c, e1, e2, -, -, -, hd⟩
    rw [show i = a from by omega, show k = c from by omega]
    exact hd
  · exact fun hd => ⟨i, k, rfl, rfl, by omega, hk, hik, hd⟩
theorem sees_of {L : List (Int × Int)} {i k : Nat} (hik : i < k) (hk : k < L.length) (h : seesB (allD L L.length) i k = true) : Sees L i k := by
  rw [sees_all L hik hk, Bool.or_eq_true, beq_iff_eq] at h
  rcases h with rfl | h
  · left
    rw [nx_eq (by omega), if_neg (by omega)]
  · exact .inr (.inr h)
theorem allD_64 (L : List (Int × Int)) (h : L.length ≤ 8) : (allD L L.length).length ≤ 64 := by
  have h1 := allD_len L L.length
  have h2 : L.length * L.length ≤ 8 * 8 := Nat.mul_le_mul h h
  omega
end Go.Proofs.Ytimkknljoeiceaa

/-! RowsD -/
namespace Go.Proofs.Ytimkknljoeiceaa
open Go.RowKit

theorem infoR : (Try.prog.info? 36).map (fun i => (i.zero, i.size, i.bytes)) = some (some (.slice none 0 0), 1, 24) := by kernel_rfl
/-- One row more. -/
theorem RowsR.snoc {w w1 w2 w3 : World} {B : Nat} {v v' : Value} {Rs : List Rw} {r : Rw} (h : RowsR w B v Rs) (h1 : w.grownBy w1 none) (hr : w1.ownsRow B 3 1 (hdr r) r.M.length (ints r.M)) (hlo : w.heap.size ≤ r.g)
    (h2 : w1.grownBy w2 none) (ho : w3.ownsRow B 36 1 v' (Rs.length + 1) (Rs.map hdr ++ [hdr r])) (h3 : w2.grownBy w3 v.ownBlock) (hl : v'.ownBlock = v.ownBlock ∨ v'.ownBlock = some w2.heap.size) : RowsR w3 B v' (Rs ++ [r]) := by
  have hrl := (hr.lt r.g rfl).2
  have hvl : ∀ b, v.ownBlock = some b → b < w.heap.size := fun b hb => (h.out.lt b hb).2
  have hs1 := h1.size; have hs2 := h2.size
  refine ⟨by simpa using ho, ?_, ?_, ?_⟩
  · intro x hx
    rcases List.mem_append.1 hx with hx | hx
    · exact (((h.row x hx).kept h1 (.inr (by simp [hdr_own]))).kept h2 (.inr (by simp [hdr_own]))).kept h3 (.inr (fun e => h.far x hx (by rw [← e, hdr_own])))
    · rw [List.mem_singleton.1 hx]
      refine (hr.kept h2 (.inr (by simp [hdr_own]))).kept h3 (.inr (fun e => ?_))
      have := hvl r.g (by rw [← e, hdr_own])
      omega
  · intro x hx e
    rcases hl with q | q
    · rw [q] at e
      rcases List.mem_append.1 hx with hx | hx
      · exact h.far x hx e
      · rw [List.mem_singleton.1 hx] at e
        have := hvl _ e
        omega
    · rw [q] at e
      have e := Option.some.inj e
      rcases List.mem_append.1 hx with hx | hx
      · have := (h.lt hx).2; omega
      · rw [List.mem_singleton.1 hx] at e; omega
  · rw [List.map_append]
    refine List.nodup_append.2 ⟨h.nodup, by simp, ?_⟩
    intro a ha b hb e
    obtain ⟨x, hx, rfl⟩ := List.mem_map.1 ha
    simp only [List.map_cons, List.map_nil, List.mem_singleton] at hb
    have := (h.lt hx).2
    omega
theorem nx_w {j : Int} (h : 0 ≤ j) (h2 : j ≤ 100) : wrap64 (j + 1) = j + 1 ∧ IntKind.i64.wrap (j + 1) = j + 1 := ⟨IntWalk.wrap64_in _ (by omega), IntWalk.i64_in _ (by omega)⟩
def pairsL (R : List (Int × Int)) : List (List Int) := R.map fun z => [z.1, z.2]
theorem pairs_snoc (R : List (Int × Int)) (z : Int × Int) : pairsL (R ++ [z]) = pairsL R ++ [[z.1, z.2]] := by simp [pairsL]
def diagsV (L : List (Int × Int)) : List (List Int) := bif polyB L then pairsL (allD L L.length) else []
/-- The answer is a list of rows that the call owns. -/
def ListsR (w : World) (M : List (List Int)) (e : Ending) (w' : World) : Prop := ∃ v Rs, e = .returned v ∧ RowsR w' w.heap.size v Rs ∧ Rs.map Rw.M = M ∧ Below w.heap.size w w'
end Go.Proofs.Ytimkknljoeiceaa

/-! Law5F -/
namespace Go.Proofs.Ytimkknljoeiceaa
open Go.RowKit

theorem RowsR.kept {w w' : World} {B : Nat} {v : Value} {Rs : List Rw} {row : Option Nat} (h : RowsR w B v Rs) (hg : w.grownBy w' row) (h1 : ∀ k, row = some k → v.ownBlock ≠ some k ∧ ∀ r ∈ Rs, r.g ≠ k) : RowsR w' B v Rs := by
  refine ⟨h.out.kept hg ?_, fun r hr => (h.row r hr).kept hg (.inr fun e => (h1 r.g (by rw [← e, hdr_own])).2 r hr rfl), h.far, h.nodup⟩
  cases hv : v.ownBlock with
  | none => exact .inl rfl
  | some b => exact .inr fun e => (h1 b e.symm).1 hv
theorem RowsR.but {w w' : World} {B N : Nat} {v : Value} {Rs Qs : List Rw} (h : RowsR w B v Rs) (hb : ButRows Qs w w') (hl : (∀ k, v.ownBlock = some k → k < N) ∧ ∀ r ∈ Rs, r.g < N) (hh : ∀ r ∈ Qs, N ≤ r.g) : RowsR w' B v Rs :=
  ⟨hb.own h.out (fun r hr e => by have := hl.1 _ e; have := hh r hr; omega), fun x hx => hb.own (h.row x hx) (fun r hr e => by have := hl.2 x hx; have := hh r hr; have e2 : x.g = r.g := Option.some.inj e; omega), h.far, h.nodup⟩
theorem RowsR.top {w : World} {B : Nat} {v : Value} {Rs : List Rw} (h : RowsR w B v Rs) : (∀ k, v.ownBlock = some k → k < w.heap.size) ∧ ∀ r ∈ Rs, r.g < w.heap.size :=
  ⟨fun k hk => (h.out.lt k hk).2, fun _ hr => (h.lt hr).2⟩
theorem RowsR.bottom {w : World} {B : Nat} {v : Value} {Rs : List Rw} (h : RowsR w B v Rs) : (∀ k, v.ownBlock = some k → B ≤ k) ∧ ∀ r ∈ Rs, B ≤ r.g :=
  ⟨fun k hk => (h.out.lt k hk).1, fun _ hr => (h.lt hr).1⟩
end Go.Proofs.Ytimkknljoeiceaa

/-! TriI -/
namespace Go.Proofs.Ytimkknljoeiceaa
open Go.RowKit

/-- One row more, that lies already. -/
theorem RowsR.snocOld {w w2 w3 : World} {B : Nat} {v v' : Value} {Rs : List Rw} {r : Rw} (h : RowsR w B v Rs) (hr : w.ownsRow B 3 1 (hdr r) r.M.length (ints r.M)) (hf : v.ownBlock ≠ some r.g) (hn : ∀ x ∈ Rs, x.g ≠ r.g)
    (h2 : w.grownBy w2 none) (ho : w3.ownsRow B 36 1 v' (Rs.length + 1) (Rs.map hdr ++ [hdr r])) (h3 : w2.grownBy w3 v.ownBlock) (hl : v'.ownBlock = v.ownBlock ∨ v'.ownBlock = some w2.heap.size) : RowsR w3 B v' (Rs ++ [r]) := by
  have hs2 := h2.size
  have hrl := (hr.lt r.g rfl).2
  refine ⟨by simpa using ho, ?_, ?_, ?_⟩
  · intro x hx
    rcases List.mem_append.1 hx with hx | hx
    · exact ((h.row x hx).kept h2 (.inr (by simp [hdr_own]))).kept h3 (.inr (fun e => h.far x hx (by rw [← e, hdr_own])))
    · rw [List.mem_singleton.1 hx]
      exact (hr.kept h2 (.inr (by simp [hdr_own]))).kept h3 (.inr (fun e => hf (by rw [← e, hdr_own])))
  · intro x hx e
    rcases hl with q | q
    · rw [q] at e
      rcases List.mem_append.1 hx with hx | hx
      · exact h.far x hx e
      · rw [List.mem_singleton.1 hx] at e
        exact hf e
    · rw [q] at e
      have e := Option.some.inj e
      rcases List.mem_append.1 hx with hx | hx
      · have := (h.lt hx).2; omega
      · rw [List.mem_singleton.1 hx] at e; omega
  · rw [List.map_append]
    refine List.nodup_append.2 ⟨h.nodup, by simp, ?_⟩
    intro a ha b hb e
    obtain ⟨x, hx, rfl⟩ := List.mem_map.1 ha
    simp only [List.map_cons, List.map_nil, List.mem_singleton] at hb
    exact hn x hx (e.trans hb)
def lenS : Value → Nat
  | .slice _ n _ => n
  | _ => 0
/-- The answer: rows that the call owns, and whether there are any. -/
def TriR (w : World) (V : List (List Int) × Bool) (e : Ending) (w' : World) : Prop := ∃ v Rs, e = .returned (.tuple #[v, .bool V.2]) ∧ RowsR w' w.heap.size v Rs ∧ Rs.map Rw.M = V.1 ∧ Below w.heap.size w w'
theorem toI_range (k : Nat) : toI (List.range (k + 1)) = toI (List.range k) ++ [(k : Int)] := by simp [toI, List.range_succ]
theorem toI_erase (R : List Nat) (v : Nat) : (toI R).eraseIdx v = toI (R.eraseIdx v) := by simp [toI, List.eraseIdx_eq_take_drop_succ, List.map_take, List.map_drop]
theorem goT_step {L : List Pt} {R : List Nat} {T : List (List Int)} {v : Nat} (h4 : 4 ≤ R.length) (hv : v < R.length) (hf : frE (earAt L R) R.length = (v : Int)) : goT L (R.length - 3) R T = goT L ((R.eraseIdx v).length - 3) (R.eraseIdx v) (T ++ [rowE R v]) := by
  obtain ⟨k, hk⟩ : ∃ k, R.length - 3 = k + 1 := ⟨R.length - 4, by omega⟩
  have h2 : (R.eraseIdx v).length - 3 = k := by rw [List.length_eraseIdx_of_lt hv]; omega
  rw [hk, h2, goT, if_neg (by omega), hf, Int.toNat_natCast]
theorem goT_none {L : List Pt} {R : List Nat} {T : List (List Int)} (h4 : 4 ≤ R.length) (hf : frE (earAt L R) R.length < 0) : goT L (R.length - 3) R T = ([], false) := by
  obtain ⟨k, hk⟩ : ∃ k, R.length - 3 = k + 1 := ⟨R.length - 4, by omega⟩
  rw [hk, goT, if_pos hf]
theorem goT_last {L : List Pt} {R : List Nat} {T : List (List Int)} (h : R.length = 3) : goT L (R.length - 3) R T = (T ++ [toI R], true) := by rw [h]; rfl
theorem rest_step {L : List Pt} {R : List Nat} (h : Rest L R) (h4 : 4 ≤ R.length) {v : Nat} (hv : v < R.length) (he : earAt L R v = true) : Rest L (R.eraseIdx v) :=
  h.cut h4 hv (by rw [h.ear h4 hv]; exact he)
theorem rest_len {L : List Pt} {R : List Nat} (h : Rest L R) : R.length ≤ 10 := by
  have := h.good.1.2
  rwa [List.length_map] at this
theorem firstE_M (A : Option Addr) (c b : Nat) (L : List Pt) (R : List Nat) (M : List Int) (w : World) (hM' : M = toI R) (hG : Good L) (hS : Rest L R) (h4 : 4 ≤ R.length) (hI : IntsA w A M) (hM : MapB w b (allD L L.length)) :
    Calls Try.prog 70 #[.slice A M.length c, .map (some b)] w fun e w' => ∃ x, e = .returned (.tuple #[.int .i64 (frE (earAt L R) R.length), x]) ∧ Below w.heap.size w w' ∧
      (0 ≤ frE (earAt L R) R.length → ∃ g cap, x = .slice (some ⟨g, 0, none⟩) 3 cap ∧ w'.ownsRow w.heap.size 3 1 x 3 (ints (rowE R (frE (earAt L R) R.length).toNat))) := by
  subst hM'
  rw [toI_len]
  exact firstE_any A c b L R w hG hS.lt hS.up h4 (rest_len hS) hI hM
set_option maxRecDepth 100000 in
set_option maxHeartbeats 2000000 in
theorem impl_tri (A : Option Addr) (c : Nat) (L : List (Int × Int)) (w : World) (hA : PtsA w A L) (hL : L.length ≤ 1048576) :
    Calls Try.prog 18 #[.slice A L.length c] w (TriR w (triV L)) := by
  have PC := Lib.hid (impl_poly A c L w hA hL)
  cases hp : polyB L
  · have HU : Hid (TriR w (triV L) = fun e w' => ∃ v Rs, e = .returned (.tuple #[v, .bool false]) ∧ RowsR w' w.heap.size v Rs ∧ Rs.map Rw.M = [] ∧ Below w.heap.size w w') := by
      show _ = _
      rw [triV, hp]; rfl
    rw [hp] at PC
    clear hA
    go_enter Try.func18, Try.ntmps18
    go_wp2_with fail
    refine PC.out.mono ?_
    rintro e w1 ⟨rfl, hb1⟩
    go_wp2_with fail
    go_ret2
    rw [HU.out]
    exact ⟨_, [], rfl, rowsR_nil _ _, rfl, hb1⟩
  · obtain ⟨i0, hi0, hz0, hz1, hz2⟩ := info_parts infoR
    obtain ⟨i1, hi1, hy0, hy1, hy2⟩ := info_parts infoI
    obtain ⟨h3, h10, hok⟩ := polyB_all hp
    have hG : Hid (Good L) := (poly_iff L).1 hp
    have HV : Hid (triV L = goT L (L.length - 3) (List.range L.length) []) := by show _ = _; rw [triV, hp]; rfl
    have HD := Lib.hid (fun W (hb : Below w.heap.size w W) => impl_diags A c L W (ptsA_on hA hb) hp)
    rw [hp] at PC
    obtain ⟨V, hV⟩ : ∃ V, V = triV L := ⟨_, rfl⟩
    rw [← hV] at HV ⊢
    clear hA hok hV
    go_enter Try.func18, Try.ntmps18
    go_wp2_with fail
    refine PC.out.mono ?_
    rintro e w1 ⟨rfl, hb1⟩
    go_wp2_with fail
    refine (HD.out w1 hb1).mono ?_
    rintro e w2 ⟨b, rfl, hbb, hm2, hb2⟩
    have B2 := Lib.hid (below_on hb1 hb2)
    have HM2 := Lib.hid hm2
    clear hb1 hb2 hbb hm2 PC HD
    go_wp2_with fail
    go_loopw [5, 6, 17] (fun s _ i wr => ∃ (k : Nat) (M : List Int), k ≤ L.length ∧ i = .int .i64 k ∧ M.length ≤ k ∧ Hid (M = toI (List.range k)) ∧ wr.ownsRow w2.heap.size 3 1 s M.length (ints M) ∧ Below w2.heap.size w2 wr) (fun _ _ i _ => L.length - (intOf i).toNat)
    case atStart => exact ⟨0, [], Nat.zero_le _, rfl, Nat.le_refl _, rfl, World.ownsRow_nil _ _ _ _, Below.refl _ _⟩
    case round =>
      obtain ⟨wo, rfl⟩ : ∃ wo : World, wo = wr := ⟨_, rfl⟩
      obtain ⟨k, M, hk, rfl, hMk, HM, own, hb⟩ := hrel
      by_cases hlt : k < L.length
      · have HT : Hid (M ++ [(k : Int)] = toI (List.range (k + 1))) := by show _ = _; rw [toI_range, HM.out]
        have hs6 := hb.size
        clear HM
        go_wp2_with (at_builtin; refine wpList_append_own _ rfl _ _ 36 rfl w2.heap.size 3 i1 (.int .i64 0) 1 8 Try.underlying36 hi1 hy0 hy1 hy2 rfl (by decide) _ _ _ rfl (own.alloc _) ⟨wo.heap.size, 0, none⟩ 1 1 [.int .i64 (k : Int)] rfl rfl ?d1 ?d2 ?d3 ?d4 ?d5 ?_)
        case d1 => exact World.news_of_block (cs := #[.int .i64 (k : Int)]) (t := 3) (fr := (0, 0)) (heap_alloc_new wo _)
        case d2 => simp [Value.oneCell']
        case d3 => unfold maxLen; omega
        case d4 => omega
        case d5 => simp; omega
        intro v' w7 own7 hgrow _
        have hrw := fun k hk => (own.lt k hk).1
        have R : Hid (w7.ownsRow w2.heap.size 3 1 v' (M ++ [(k : Int)]).length (ints (M ++ [(k : Int)])) ∧ Below w2.heap.size w2 w7) :=
          ⟨by rw [ints_snoc, List.length_append]; exact own7, (hb.alloc hs6 _).grown hgrow (by simp; omega) hrw⟩
        clear own own7 hgrow hb hrw
        go_wp2_with fail
        go_roundw
        case rel => exact ⟨k + 1, M ++ [(k : Int)], by omega, by go_num, by simp; omega, HT, R.out.1, R.out.2⟩
        case measure => simp [intOf]; omega
      · have e : k = L.length := by omega
        have HMM : Hid (M = toI (List.range L.length)) := by show _ = _; rw [HM.out, e]
        obtain ⟨-, A', c', rfl, hI⟩ := own_ints own
        have hML : M.length = L.length := by rw [HMM.out, toI_len, List.length_range]
        obtain ⟨g0, rfl, -⟩ := hI 0 (by omega)
        have HO := Lib.hid own
        have HB := Lib.hid hb
        have HRS : Hid (Rest L (List.range L.length)) := Rest.start hG.out
        have HGO : Hid (goT L ((List.range L.length).length - 3) (List.range L.length) (([] : List Rw).map Rw.M) = V) := by show _ = _; rw [List.length_range, HV.out]; rfl
        have h3' : 3 ≤ (List.range L.length).length := by rw [List.length_range]; exact h3
        clear own hb hI e HM hML HV hMk hk
        go_wp2_with fail
        go_loopw [5, 7, 8, 9] (fun s t _ _ wr => ∃ (R : List Nat) (M : List Int) (cap : Nat) (Rs : List Rw), s = .slice (some ⟨g0, 0, none⟩) M.length cap ∧ Hid (M = toI R) ∧ Hid (wr.ownsRow w2.heap.size 3 1 (.slice (some ⟨g0, 0, none⟩) M.length cap) M.length (ints M)) ∧ Hid (RowsR wr w2.heap.size t Rs) ∧ Hid (t.ownBlock ≠ some g0 ∧ ∀ r ∈ Rs, r.g ≠ g0) ∧ Hid (goT L (R.length - 3) R (Rs.map Rw.M) = V) ∧ Hid (Rest L R) ∧ Hid (3 ≤ R.length) ∧ Hid (Rs.length + R.length ≤ 100) ∧ Hid (Below w2.heap.size w2 wr)) (fun s _ _ _ _ => lenS s)
        case atStart => exact ⟨_, M, _, [], rfl, HMM, HO, rowsR_nil _ _, ⟨fun q => (by cases q), fun r hr => (by cases hr)⟩, HGO, HRS, h3', by show _ + _ ≤ _; simp; omega, HB⟩
        case round =>
          clear HMM HO HB HRS HGO h3'
          obtain ⟨wx, rfl⟩ : ∃ wx : World, wx = wr := ⟨_, rfl⟩
          obtain ⟨R, M, cap, Rs, rfl, HMM, HO, HR, HSEP, HGO, HRS, H3, HN, HB⟩ := hrel
          have hMR : Hid (M.length = R.length) := by show _ = _; rw [HMM.out, toI_len]
          have hR10 := rest_len HRS.out
          have hM10 : M.length ≤ 10 := by rw [hMR.out]; exact hR10
          have hRs : Rs.length ≤ 100 := by have := HN.out; omega
          clear hR10
          by_cases hgt : 3 < M.length
          · have h4 : Hid (4 ≤ R.length) := by show _ ≤ _; rw [← hMR.out]; omega
            obtain ⟨-, A9, c9, hv9, hI⟩ := own_ints HO.out
            simp only [Value.slice.injEq] at hv9
            obtain ⟨rfl, -, rfl⟩ := hv9
            have HF := Lib.hid (firstE_M (some ⟨g0, 0, none⟩) cap b L R M wx HMM.out hG.out HRS.out h4.out hI (HM2.out.on HB.out))
            clear hI
            rcases frE_spec (earAt L R) R.length with ⟨hf, -⟩ | ⟨v, hv, he, hf, -⟩
            · have HV0 : Hid (V = ([], false)) := by show _ = _; rw [← HGO.out]; exact goT_none h4.out (by omega)
              rw [hf] at HF
              clear HR HSEP HGO HO
              go_wp2_with fail
              refine HF.out.mono ?_
              rintro e w6 ⟨x, rfl, hb6, -⟩
              have HB6 := Lib.hid (below_on HB.out hb6)
              clear hb6 HF HB
              go_wp2_with fail
              go_ret2
              rw [HV0.out]
              exact ⟨_, [], rfl, rowsR_nil _ _, rfl, below_on B2.out HB6.out⟩
            · have hvM : v < M.length := by rw [hMR.out]; exact hv
              have HF' : Hid (Calls Try.prog 70 #[.slice (some ⟨g0, 0, none⟩) M.length cap, .map (some b)] wx fun e w' => ∃ x, e = .returned (.tuple #[.int .i64 (v : Int), x]) ∧ Below wx.heap.size wx w' ∧
                  ∃ g cap, x = .slice (some ⟨g, 0, none⟩) 3 cap ∧ w'.ownsRow wx.heap.size 3 1 x 3 (ints (rowE R v))) := by
                refine HF.out.mono ?_
                rintro e w' ⟨x, rfl, hb, hx⟩
                rw [hf] at hx ⊢
                exact ⟨x, rfl, hb, by simpa using hx (by omega)⟩
              have HG1 := Lib.hid (goT_step (T := Rs.map Rw.M) h4.out hv hf)
              have HRS1 : Hid (Rest L (R.eraseIdx v)) := rest_step HRS.out h4.out hv he
              have hel : (R.eraseIdx v).length = R.length - 1 := List.length_eraseIdx_of_lt hv
              have H31 : Hid (3 ≤ (R.eraseIdx v).length) := by show _ ≤ _; rw [hel]; have := h4.out; omega
              have hlM : (M.eraseIdx v).length = M.length - 1 := List.length_eraseIdx_of_lt hvM
              have HLM := Lib.hid hlM
              have HEL := Lib.hid hel
              have HMM1 : Hid (M.eraseIdx v = toI (R.eraseIdx v)) := by show _ = _; rw [HMM.out, toI_erase]
              clear HF hf hv he hel hlM
              go_wp2_with fail
              refine HF'.out.mono ?_
              rintro e w6 ⟨x, rfl, hb6, g9, c9, rfl, own9⟩
              have hg9 := (own9.lt g9 rfl).1
              have HR6 := Lib.hid (HR.out.below hb6)
              have HO6 := Lib.hid (own_below HO.out hb6)
              have HB6 := Lib.hid (below_on HB.out hb6)
              have hg0 := (HO.out.lt g0 rfl).2
              have HS6 := Lib.hid hb6.size
              have hs6 := HB6.out.size
              have hsx := HB.out.size
              have own9' := own_base own9 hsx
              have hown := HR6.out.out
              have HG6 := Lib.hid (below_grown hb6)
              clear hb6 own9 HF'
              go_wp2_with (at_builtin; (refine wpList_append_own_at _ rfl _ _ 24 rfl w2.heap.size 36 i0 (.slice none 0 0) 1 24 Try.underlying24 hi0 hz0 hz1 hz2 rfl (by decide) _ _ _ rfl (hown.alloc _) ⟨w6.heap.size, 0, none⟩ 1 1 [hdr (Rw.mk g9 c9 (rowE R v))] rfl rfl ?y1 ?y2 ?y3 ?y4 ?y5 ?_))
              case y1 => exact World.news_of_block (cs := #[hdr (Rw.mk g9 c9 (rowE R v))]) (t := 36) (fr := (0, 0)) (heap_alloc_new w6 _)
              case y2 => simp [hdr, Value.oneCell']
              case y3 => unfold maxLen; omega
              case y4 => omega
              case y5 => simp; omega
              intro v7 w7 own7 hg7 _ hloc7
              have hrw := fun k hk => (hown.lt k hk).1
              have gA := World.grownBy_alloc w6 (.cells #[hdr (Rw.mk g9 c9 (rowE R v))] 36) none
              have R7 := HR.out.snoc (r := Rw.mk g9 c9 (rowE R v)) HG6.out own9' hg9 gA own7 hg7 (by rw [size_alloc]; exact hloc7)
              have O7 : Hid (w7.ownsRow w2.heap.size 3 1 (.slice (some ⟨g0, 0, none⟩) M.length cap) M.length (ints M)) :=
                (HO6.out.kept gA (.inr (by intro q; cases q))).kept hg7 (.inr (fun q => HSEP.out.1 q.symm))
              have B7 : Hid (Below w2.heap.size w2 w7) := (HB6.out.alloc hs6 _).grown hg7 (by simp; omega) hrw
              have hD := delI_any w2.heap.size g0 cap M.length v M w7 O7.out rfl hvM
              have HD7 := Lib.hid hD
              have HR7 := Lib.hid R7
              have HSEP7 : Hid (v7.ownBlock ≠ some g0 ∧ ∀ r ∈ Rs ++ [Rw.mk g9 c9 (rowE R v)], r.g ≠ g0) := ⟨fun q => by
                rcases hloc7 with k | k
                · exact HSEP.out.1 (k.symm.trans q)
                · rw [k] at q
                  have := Option.some.inj q
                  have := HS6.out; omega, fun r hr => by
                rcases List.mem_append.1 hr with k | k
                · exact HSEP.out.2 r k
                · rw [List.mem_singleton.1 k]
                  show g9 ≠ g0
                  omega⟩
              clear own7 hg7 hloc7 hrw gA R7 hown own9' hD
              have f1 : IntKind.i64.wrap ((v : Int) + 1) = (v : Int) + 1 := IntWalk.i64_in _ (by omega)
              have f1' : wrap64 ((v : Int) + 1) = (v : Int) + 1 := IntWalk.wrap64_in _ (by omega)
              go_wp2_with fail
              clear f1 f1'
              refine HD7.out.mono ?_
              rintro e w8 ⟨rfl, own8, hg8⟩
              have HR8 : Hid (RowsR w8 w2.heap.size v7 (Rs ++ [Rw.mk g9 c9 (rowE R v)])) := HR7.out.kept hg8 (fun k hk => by cases hk; exact HSEP7.out)
              have B8 : Hid (Below w2.heap.size w2 w8) := B7.out.grown hg8 B7.out.size (fun j hj => by cases hj; exact (O7.out.lt g0 rfl).1)
              have O8 : Hid (w8.ownsRow w2.heap.size 3 1 (.slice (some ⟨g0, 0, none⟩) (M.length - 1) cap) (M.length - 1) (ints (M.eraseIdx v))) := own8
              rw [← HLM.out] at O8
              have HG8 : Hid (goT L ((R.eraseIdx v).length - 3) (R.eraseIdx v) ((Rs ++ [Rw.mk g9 c9 (rowE R v)]).map Rw.M) = V) := by
                show _ = _
                rw [← HGO.out, HG1.out, List.map_append]; rfl
              have HN8 : Hid ((Rs ++ [Rw.mk g9 c9 (rowE R v)]).length + (R.eraseIdx v).length ≤ 100) := by
                show _ + _ ≤ _
                rw [HEL.out, List.length_append]
                have := HN.out
                have := h4.out
                simp; omega
              clear own8 hg8 HR7 O7 HD7 HR HO HB HG6 HR6 HO6 HB6
              go_wp2_with fail
              go_roundw
              case rel => exact ⟨_, M.eraseIdx v, cap, _, by rw [HLM.out], HMM1, O8, HR8, HSEP7, HG8, HRS1, H31, HN8, B8⟩
              case measure => simp only [lenS]; omega
          · have hM3 : M.length = 3 := by have := hMR.out; have := H3.out; omega
            have HVV : Hid (V = (Rs.map Rw.M ++ [M], true)) := by show _ = _; rw [← HGO.out, goT_last (hMR.out.symm.trans hM3), HMM.out]
            have hown := HR.out.out
            have hsx := HB.out.size
            clear hM3
            go_wp2_with (at_builtin; (refine wpList_append_own_at _ rfl _ _ 24 rfl w2.heap.size 36 i0 (.slice none 0 0) 1 24 Try.underlying24 hi0 hz0 hz1 hz2 rfl (by decide) _ _ _ rfl (hown.alloc _) ⟨wx.heap.size, 0, none⟩ 1 1 [hdr (Rw.mk g0 cap M)] rfl rfl ?y1 ?y2 ?y3 ?y4 ?y5 ?_))
            case y1 => exact World.news_of_block (cs := #[hdr (Rw.mk g0 cap M)]) (t := 36) (fr := (0, 0)) (heap_alloc_new wx _)
            case y2 => simp [hdr, Value.oneCell']
            case y3 => unfold maxLen; omega
            case y4 => omega
            case y5 => simp; omega
            intro v7 w7 own7 hg7 _ hloc7
            have hrw := fun k hk => (hown.lt k hk).1
            have R7 := Lib.hid (HR.out.snocOld (r := Rw.mk g0 cap M) HO.out HSEP.out.1 HSEP.out.2 (World.grownBy_alloc wx (.cells #[hdr (Rw.mk g0 cap M)] 36) none) own7 hg7 (by rw [size_alloc]; exact hloc7))
            have B7 := Lib.hid (below_on B2.out ((HB.out.alloc hsx (.cells #[hdr (Rw.mk g0 cap M)] 36)).grown hg7 (by simp; omega) hrw))
            have hs2 := B2.out.size
            clear own7 hg7 hloc7 hrw hown
            go_wp2_with fail
            go_ret2
            rw [HVV.out]
            exact ⟨_, _, rfl, R7.out.base hs2, by rw [List.map_append]; rfl, B7.out⟩
end Go.Proofs.Ytimkknljoeiceaa

/-! Float -/
namespace Go.Proofs.Ytimkknljoeiceaa
open Go.Sort Go.RowKit

/-- Nothing that was there has changed. -/
def Now (w w' : World) : Prop := Below w.heap.size w w'
theorem Calls.now {P : Program} {f : FuncId} {args : Array Value} {w : World} {v : Value} (h : Calls P f args w fun e w' => e = .returned v ∧ Below w.heap.size w w') : Calls P f args w fun e w' => e = .returned v ∧ Now w w' := h
def uponB (P : Program) (w : World) (v : Value) : Result Next → Prop
  | .ok (.value u) w' => w' = w ∧ u = v
  | .ok .skip w' => w' = w ∧ v = undef
  | .ok (.enter f args) w' => w' = w ∧ Calls P f args w fun e w'' => e = .returned v ∧ Now w w''
  | _ => False
def quietB (P : Program) (C : World → Prop) (o : Oper) (a : Act) (K : Act → Prop) : Prop := ∃ v, (∀ w, C w → uponB P w v ((execOp a.eval o).run P w)) ∧ K (a.put o.dst v)
def wpQuietB (P : Program) (ops : Array Oper) (C : World → Prop) (Q : Act → Prop) : List Oper → Act → Prop
  | [], a => Q a
  | o :: rest, a => if Region.wanted o (yielded ops a.tmps) = true then quietB P C o a (wpQuietB P ops C Q rest) else wpQuietB P ops C Q rest (a.put o.dst undef)

section
variable {P : Program} {ops : Array Oper} {md : Region.Mode} {C : World → Prop}

theorem quietB_mono {o : Oper} {a : Act} {K K' : Act → Prop} (h : ∀ a, K a → K' a) (hh : quietB P C o a K) : quietB P C o a K' :=
  let ⟨v, h1, h2⟩ := hh
  ⟨v, h1, h _ h2⟩
theorem wpQuietB_step {Q : Act → Prop} {a : Act} {o : Oper} {rest : List Oper}
    (h : ∀ K : Act → Prop, (∀ a, wpQuietB P ops C Q rest a → K a) → if Region.wanted o (yielded ops a.tmps) = true then quietB P C o a K else K (a.put o.dst undef)) : wpQuietB P ops C Q (o :: rest) a := by
  have := h (wpQuietB P ops C Q rest) (fun _ h => h)
  exact this
theorem wpQuietB_nil {Q : Act → Prop} {a : Act} (h : Q a) : wpQuietB P ops C Q [] a := h

/-- What an operation yields, in every world of the class. -/
def YieldsB (P : Program) (ops : Array Oper) (C : World → Prop) (o : Oper) (v : Value) (a : Act) : Prop :=
  (Region.wanted o (yielded ops a.tmps) = true ∧ ∀ w, C w → uponB P w v ((execOp a.eval o).run P w)) ∨ (Region.wanted o (yielded ops a.tmps) = false ∧ v = undef)
theorem YieldsB.of_same {o : Oper} {v : Value} {a a' : Act} (hy : YieldsB P ops C o v a) (he : execOp a'.eval o = execOp a.eval o)
    (hw : Region.wanted o (yielded ops a'.tmps) = Region.wanted o (yielded ops a.tmps)) : YieldsB P ops C o v a' := by
  unfold YieldsB at *
  rw [he, hw]; exact hy
theorem YieldsB.put {o : Oper} {v : Value} {a : Act} (hy : YieldsB P ops C o v a) (hs : ∀ cs b, o.op ≠ .select cs b) {d : Option Tmp} {u : Value} (h : ∀ e, d = some e → e ∉ o.looksAt ops) : YieldsB P ops C o v (a.put d u) :=
  hy.of_same (execOp_put o hs a d u h) (wanted_put o a d u h)
/-- One operation, by what it yields. -/
def opB (P : Program) (ops : Array Oper) (C : World → Prop) (i : Nat) (K : Act → Prop) (a : Act) : Prop := ∃ o v, ops[i]? = some o ∧ YieldsB P ops C o v a ∧ K (a.put o.dst v)

theorem wpOp_of_opB {i : Nat} {a : Act} {K : Act → Prop} {K' : Act → World → Prop} {Q' : Exit → Act → World → Prop} {w : World} (hC : C w)
    (h : ∀ a w', Below w.heap.size w w' → K a → K' a w') (hh : opB P ops C i K a) : wpOp P ops Q' i K' a w := by
  obtain ⟨o, v, ho, hy, hK⟩ := hh
  unfold wpOp
  simp only [ho]
  rcases hy with ⟨hw, h1⟩ | ⟨hw, rfl⟩
  · rw [if_pos hw]
    left
    have h3 := h1 w hC
    unfold Oper.wp
    generalize (execOp a.eval o).run P w = r at *
    cases r with
    | ok nx w' =>
      cases nx <;> simp only [uponB] at h3 <;> simp only [Oper.upon]
      case value u =>
        obtain ⟨e1, e2⟩ := h3
        rw [e1, e2]
        exact h _ _ (Below.refl _ _) hK
      case skip =>
        obtain ⟨e1, e2⟩ := h3
        rw [e1, ← e2]
        exact h _ _ (Below.refl _ _) hK
      case enter f args =>
        obtain ⟨e1, hc⟩ := h3
        rw [e1]
        exact hc.mono fun e w'' ⟨he, hw''⟩ => by subst he; exact h _ _ hw'' hK
    | halt x w' => simp only [uponB] at h3
  · rw [if_neg (by rw [hw]; exact Bool.false_ne_true)]
    exact h _ _ (Below.refl _ _) hK

def upd (G : Nat → Nat) (i g : Nat) : Nat → Nat := fun k => if k = i then g else G k
theorem upd_comm (G : Nat → Nat) {i j : Nat} (g h : Nat) (hne : i ≠ j) : upd (upd G i g) j h = upd (upd G j h) i g := by
  funext k
  unfold upd
  by_cases h1 : k = i
  · subst h1
    rw [if_neg hne, if_pos rfl, if_pos rfl]
  · by_cases h2 : k = j
    · subst h2
      rw [if_pos rfl, if_neg h1, if_pos rfl]
    · rw [if_neg h2, if_neg h1, if_neg h1, if_neg h2]
abbrev ptrV (g : Nat) : Value := .pointer (some ⟨g, 0, none⟩)
def dstOf (ops : Array Oper) (i : Nat) : Option Tmp := (ops[i]?).bind (·.dst)

/-- Every order of the head and of the floats; L behind them. -/
def wpX (P : Program) (md : Region.Mode) (ops : Array Oper) (C : World → Prop) (m q : Nat) (L : Array Bool → Act → (Nat → Nat) → Prop) : Nat → Array Bool → Act → (Nat → Nat) → Prop
  | 0, listed, a, G => L listed a G
  | f + 1, listed, a, G => Region.ready md ops listed ≠ [] ∧ ∀ i ∈ Region.ready md ops listed, i < q ∧
      (i < m → opB P ops C i (fun a' => wpX P md ops C m q L f (listed.setIfInBounds i true) a' G) a) ∧
      (m ≤ i → ∀ g, wpX P md ops C m q L f (listed.setIfInBounds i true) (a.put (dstOf ops i) (ptrV g)) (upd G i g))

structure Floats (P : Program) (md : Region.Mode) (ops : Array Oper) (m q : Nat) (obj : Nat → Obj) : Prop where
  op : ∀ i, m ≤ i → i < q → ∃ o, ops[i]? = some o ∧ o.guard = none ∧ (∀ e ∈ o.after, Region.binds md e = false) ∧ (∀ a w, (execOp (Act.eval a) o).run P w = .ok (.value (ptrV w.heap.size)) (w.alloc (obj i)))
  ne : ∀ i j, m ≤ i → i < q → m ≤ j → j < q → i ≠ j → ∀ d, dstOf ops i = some d → dstOf ops j ≠ some d

def Fresh (base m q : Nat) (obj : Nat → Obj) (listed : Array Bool) (G : Nat → Nat) (w : World) : Prop :=
  ∀ i, m ≤ i → i < q → listed.getD i false = true → base ≤ G i ∧ w.heap[G i]? = some (obj i) ∧ ∀ j, m ≤ j → j < q → listed.getD j false = true → j ≠ i → G j ≠ G i
theorem Fresh.lt {base m q : Nat} {obj : Nat → Obj} {listed : Array Bool} {G : Nat → Nat} {w : World} (h : Fresh base m q obj listed G w) {i : Nat} (h1 : m ≤ i) (h2 : i < q) (h3 : listed.getD i false = true) : G i < w.heap.size :=
  (Array.getElem?_eq_some_iff.1 (h i h1 h2 h3).2.1).1
theorem Fresh.step {base m q : Nat} {obj : Nat → Obj} {listed : Array Bool} {G : Nat → Nat} {w w' : World} (h : Fresh base m q obj listed G w) (hb : Below w.heap.size w w') : Fresh base m q obj listed G w' :=
  fun i h1 h2 h3 => ⟨(h i h1 h2 h3).1, (hb.block _ (h.lt h1 h2 h3)).trans (h i h1 h2 h3).2.1, (h i h1 h2 h3).2.2⟩
theorem Fresh.head {base m q : Nat} {obj : Nat → Obj} {listed : Array Bool} {G : Nat → Nat} {w : World} (h : Fresh base m q obj listed G w) {k : Nat} (hk : k < m) : Fresh base m q obj (listed.setIfInBounds k true) G w :=
  fun i h1 h2 h3 => by
    rw [getD_set_ne false (by omega)] at h3
    refine ⟨(h i h1 h2 h3).1, (h i h1 h2 h3).2.1, fun j h4 h5 h6 => ?_⟩
    rw [getD_set_ne false (by omega)] at h6
    exact (h i h1 h2 h3).2.2 j h4 h5 h6
theorem Fresh.float {base m q : Nat} {obj : Nat → Obj} {listed : Array Bool} {G : Nat → Nat} {w : World} (h : Fresh base m q obj listed G w) (hb : base ≤ w.heap.size) (k : Nat) : Fresh base m q obj (listed.setIfInBounds k true) (upd G k w.heap.size) (w.alloc (obj k)) := by
  intro i h1 h2 h3
  by_cases hik : i = k
  · subst hik
    have e : upd G i w.heap.size i = w.heap.size := by simp [upd]
    refine ⟨by rw [e]; exact hb, by rw [e]; exact heap_alloc_new w _, fun j h4 h5 h6 h7 => ?_⟩
    rw [getD_set_ne false (Ne.symm h7)] at h6
    have := h.lt h4 h5 h6
    rw [e]
    simp only [upd, if_neg h7]
    omega
  · rw [getD_set_ne false (Ne.symm hik)] at h3
    have e : upd G k w.heap.size i = G i := by simp [upd, hik]
    have hl := h.lt h1 h2 h3
    refine ⟨by rw [e]; exact (h i h1 h2 h3).1, by rw [e]; exact (Below.heap_alloc w _ _ hl).trans (h i h1 h2 h3).2.1, fun j h4 h5 h6 h7 => ?_⟩
    rw [e]
    by_cases hjk : j = k
    · subst hjk
      simp only [upd, if_true]; omega
    · rw [getD_set_ne false (Ne.symm hjk)] at h6
      simp only [upd, if_neg hjk]
      exact (h i h1 h2 h3).2.2 j h4 h5 h6 h7

theorem wpAny_of_X {m q g base : Nat} {obj : Nat → Obj} {L : Array Bool → Act → (Nat → Nat) → Prop} {Q' : Exit → Act → World → Prop} (hF : Floats P md ops m q obj) (hCB : ∀ w w', C w → Below w.heap.size w w' → C w') (hbase : ∀ w, C w → base ≤ w.heap.size)
    (hL : ∀ listed a G w, C w → Fresh base m q obj listed G w → L listed a G → wpAny P md ops Q' g listed a w) :
    ∀ (f : Nat) (listed : Array Bool) (a : Act) (G : Nat → Nat) (w : World), C w → Fresh base m q obj listed G w → wpX P md ops C m q L f listed a G → wpAny P md ops Q' (f + g) listed a w
  | 0, listed, a, G, w, hw, hf, h => by rw [Nat.zero_add]; exact hL _ _ _ _ hw hf h
  | f + 1, listed, a, G, w, hw, hf, h => by
    rw [show f + 1 + g = (f + g) + 1 by omega]
    refine ⟨fun h0 => absurd h0 h.1, fun i hi => ?_⟩
    obtain ⟨hq, h1, h2⟩ := h.2 i hi
    rcases Nat.lt_or_ge i m with him | him
    · exact wpOp_of_opB hw (fun a' w' hb h' => wpAny_of_X hF hCB hbase hL f _ a' G w' (hCB _ _ hw hb) ((hf.head him).step hb) h') (h1 him)
    · obtain ⟨o, ho, hg, _, hr⟩ := hF.op i him hq
      unfold wpOp
      simp only [ho]
      have hwant : Region.wanted o (yielded ops a.tmps) = true := by simp [Region.wanted, hg]
      rw [if_pos hwant]
      left
      unfold Oper.wp
      rw [hr]
      simp only [Oper.upon]
      have hd : dstOf ops i = o.dst := by simp [dstOf, ho]
      have := h2 him w.heap.size
      rw [hd] at this
      exact wpAny_of_X hF hCB hbase hL f _ _ _ _ (hCB _ _ hw (Below.alloc (Below.refl _ _) (Nat.le_refl _) _)) (hf.float (hbase w hw) i) this

/-- While an operation ahead of q is not yet carried out, none behind it is ready ('pre': carried out from the start). -/
def TW (md : Region.Mode) (ops : Array Oper) (q : Nat) (pre : Nat → Bool) : Prop :=
  ∀ listed, HeadInv md ops q listed → (∀ i, pre i = true → listed.getD i false = true) → ∀ i, i < q → listed.getD i true = false → ∀ t, q ≤ t → t ∉ Region.ready md ops listed
theorem tw_none {q : Nat} (hs : Region.sinkB md ops q = true) (hc : Region.chainB md ops q = true) (hn : q < ops.size) : TW md ops q (fun _ => false) :=
  fun _ inv _ i hi hun t ht => tail_waits hs hc hn inv _ i rfl hi hun t ht
theorem wpX_first {m q i : Nat} {oi : Oper} {v : Value} {L : Array Bool → Act → (Nat → Nat) → Prop} (hi : ops[i]? = some oi) (hsel : ∀ (j : Nat) (o : Oper) cs b, ops[j]? = some o → o.op ≠ .select cs b)
    {pre : Nat → Bool} (htw : TW md ops q pre) (hmq : m ≤ q) (hin : i < m)
    (hdone : ∀ listed a G, L listed a G → ∀ j ∈ Region.ready md ops listed, q ≤ j) :
    ∀ (f : Nat) (listed : Array Bool) (a : Act) (G : Nat → Nat), HeadInv md ops q listed → (∀ k, pre k = true → listed.getD k false = true) →
      (∀ j oj, ops[j]? = some oj → j ≠ i → listed.getD j true = false → (∀ e ∈ oj.after, Region.binds md e = true → e.on ≠ i) → oi.apart ops oj = true) →
      i ∈ Region.ready md ops listed → YieldsB P ops C oi v a →
      wpX P md ops C m q L f (listed.setIfInBounds i true) (a.put oi.dst v) G → wpX P md ops C m q L (f + 1) listed a G := by
  intro f
  induction f with
  | zero =>
    intro listed a G inv hpre _ hr hy H
    have hun := (mem_ready.1 hr).1
    refine ⟨fun h => (by rw [h] at hr; cases hr), fun j hj => ?_⟩
    have hjn : j < q := by
      rcases Nat.lt_or_ge j q with h | h
      · exact h
      · exact absurd hj (htw listed inv hpre i (by omega) hun j h)
    by_cases hji : j = i
    · subst hji
      exact ⟨hjn, fun _ => ⟨oi, v, hi, hy, H⟩, fun h => by omega⟩
    · have := hdone _ _ _ H j (ready_mono hj hji)
      omega
  | succ f ih =>
    intro listed a G inv hpre hfree hr hy H
    have hun := (mem_ready.1 hr).1
    refine ⟨fun h => (by rw [h] at hr; cases hr), fun j hj => ?_⟩
    have hjn : j < q := by
      rcases Nat.lt_or_ge j q with h | h
      · exact h
      · exact absurd hj (htw listed inv hpre i (by omega) hun j h)
    refine ⟨hjn, ?_⟩
    by_cases hji : j = i
    · subst hji
      exact ⟨fun _ => ⟨oi, v, hi, hy, H⟩, fun h => by omega⟩
    · obtain ⟨_, h1, h2⟩ := H.2 j (ready_mono hj hji)
      obtain ⟨hjun, oj, hoj, hall⟩ := mem_ready.1 hj
      have hnot : ∀ e ∈ oj.after, Region.binds md e = true → e.on ≠ i := fun e he hb heq => by
        have h1 := hall e he hb
        rw [heq, getD_both hun] at h1
        cases h1
      obtain ⟨p1, p2, p3⟩ := Oper.apart_spec (hfree j oj hoj hji hjun hnot)
      have hfree' : ∀ k ok, ops[k]? = some ok → k ≠ i → (listed.setIfInBounds j true).getD k true = false →
          (∀ e ∈ ok.after, Region.binds md e = true → e.on ≠ i) → oi.apart ops ok = true := fun k ok hk hki hun hno => by
        refine hfree k ok hk hki ?_ hno
        by_cases hjk : j = k
        · subst hjk; exact hjun
        · rw [getD_set_ne true hjk] at hun; exact hun
      have hsi := fun cs b => hsel i oi cs b hi
      have hsj := fun cs b => hsel j oj cs b hoj
      refine ⟨fun hjm => ?_, fun hjm g => ?_⟩
      · obtain ⟨o', u, ho', hy', hK⟩ := h1 hjm
        obtain rfl : o' = oj := Option.some.inj (ho'.symm.trans hoj)
        refine ⟨o', u, hoj, ?_, ?_⟩
        · exact hy'.of_same (execOp_put o' hsj a oi.dst v p1).symm (wanted_put o' a oi.dst v p1).symm
        · refine ih (listed.setIfInBounds j true) _ G (inv.set hj hjn) (fun k hk => getD_set_true (hpre k hk)) hfree' (ready_mono hr (Ne.symm hji)) (hy.put hsi p3) ?_
          rw [Array.setIfInBounds_comm _ _ hji, ← Act.put_comm a v u p2]
          exact hK
      · have hd : dstOf ops j = oj.dst := by simp [dstOf, hoj]
        have h3 := h2 hjm g
        rw [hd] at h3 ⊢
        refine ih (listed.setIfInBounds j true) _ _ (inv.set hj hjn) (fun k hk => getD_set_true (hpre k hk)) hfree' (ready_mono hr (Ne.symm hji)) (hy.put hsi p3) ?_
        rw [Array.setIfInBounds_comm _ _ hji, ← Act.put_comm a v (ptrV g) p2]
        exact h3

theorem wpX_float {m q i : Nat} {obj : Nat → Obj} {L : Array Bool → Act → (Nat → Nat) → Prop} (hF : Floats P md ops m q obj)
    {pre : Nat → Bool} (htw : TW md ops q pre) (him : m ≤ i) (hin : i < q)
    (hdone : ∀ listed a G, L listed a G → ∀ j ∈ Region.ready md ops listed, q ≤ j) :
    ∀ (f : Nat) (listed : Array Bool) (a : Act) (G : Nat → Nat), HeadInv md ops q listed → (∀ k, pre k = true → listed.getD k false = true) → (∀ j, j < m → listed.getD j false = true) → listed.getD i true = false →
      (∀ g, wpX P md ops C m q L f (listed.setIfInBounds i true) (a.put (dstOf ops i) (ptrV g)) (upd G i g)) → wpX P md ops C m q L (f + 1) listed a G := by
  obtain ⟨oi, hoi, _, hdep, _⟩ := hF.op i him hin
  have rdy : ∀ listed : Array Bool, listed.getD i true = false → i ∈ Region.ready md ops listed := fun listed h => mem_ready.2 ⟨h, oi, hoi, fun e he hb => by rw [hdep e he] at hb; cases hb⟩
  intro f
  induction f with
  | zero =>
    intro listed a G inv hpre hh hun H
    have hr := rdy listed hun
    refine ⟨fun h => (by rw [h] at hr; cases hr), fun j hj => ?_⟩
    have hjn : j < q := by
      rcases Nat.lt_or_ge j q with h | h
      · exact h
      · exact absurd hj (htw listed inv hpre i hin hun j h)
    by_cases hji : j = i
    · subst hji
      exact ⟨hjn, fun h => by omega, fun _ g => H g⟩
    · have := hdone _ _ _ (H 0) j (ready_mono hj hji)
      omega
  | succ f ih =>
    intro listed a G inv hpre hh hun H
    have hr := rdy listed hun
    refine ⟨fun h => (by rw [h] at hr; cases hr), fun j hj => ?_⟩
    have hjn : j < q := by
      rcases Nat.lt_or_ge j q with h | h
      · exact h
      · exact absurd hj (htw listed inv hpre i hin hun j h)
    refine ⟨hjn, ?_⟩
    by_cases hji : j = i
    · subst hji
      exact ⟨fun h => by omega, fun _ g => H g⟩
    · have hjm : m ≤ j := by
        rcases Nat.lt_or_ge j m with h | h
        · have h1 := (mem_ready.1 hj).1
          have := hh j h
          rw [getD_both h1] at this
          cases this
        · exact h
      refine ⟨fun h => by omega, fun _ gj => ?_⟩
      refine ih _ _ _ (inv.set hj hjn) (fun k hk => getD_set_true (hpre k hk)) (fun k hk => getD_set_true (hh k hk)) (by rw [getD_set_ne true hji]; exact hun) fun gi => ?_
      have h2 := ((H gi).2 j (ready_mono hj hji)).2.2 hjm gj
      rw [Array.setIfInBounds_comm _ _ hji, upd_comm G gj gi hji, Act.put_comm a (ptrV gj) (ptrV gi) (hF.ne j i hjm hjn him hin hji)]
      exact h2

def lexHeadX (md : Region.Mode) (ops : Array Oper) (fin : Array Bool → Bool) : Nat → Nat → Array Bool → Bool
  | 0, _, listed => fin listed
  | f + 1, k, listed => (Region.ready md ops listed).contains k && Region.free md ops listed k && lexHeadX md ops fin f (k + 1) (listed.setIfInBounds k true)

theorem opB_of_quietB {Q : Act → Prop} {i : Nat} {a : Act} {o : Oper} {rest : List Oper} (hi : ops[i]? = some o) (h : wpQuietB P ops C Q (o :: rest) a) : opB P ops C i (wpQuietB P ops C Q rest) a := by
  unfold wpQuietB at h
  cases hw : Region.wanted o (yielded ops a.tmps)
  · rw [hw] at h
    exact ⟨o, undef, hi, .inr ⟨hw, rfl⟩, by simpa using h⟩
  · rw [hw] at h
    simp only [if_true] at h
    obtain ⟨v, hv, hK⟩ := h
    exact ⟨o, v, hi, .inl ⟨hw, hv⟩, hK⟩
theorem wpX_lex {m q r : Nat} {fin : Array Bool → Bool} {L : Array Bool → Act → (Nat → Nat) → Prop} {Lq : Act → Prop} (hsel : Region.noSelect ops = true) {pre : Nat → Bool} (htw : TW md ops q pre) (hn : q < ops.size) (hmq : m ≤ q)
    (hdone : ∀ listed a G, L listed a G → ∀ j ∈ Region.ready md ops listed, q ≤ j)
    (hfin : ∀ listed a G, HeadInv md ops q listed → (∀ k, pre k = true → listed.getD k false = true) → (∀ j, j < m → listed.getD j false = true) → (∀ j, m ≤ j → j < q → listed.getD j true = false) → fin listed = true → Lq a → wpX P md ops C m q L r listed a G) :
    ∀ (l : List Oper) (k : Nat) (listed : Array Bool) (a : Act) (G : Nat → Nat), (∀ j, j < l.length → l[j]? = ops[k + j]?) → k + l.length = m → HeadInv md ops q listed → (∀ k, pre k = true → listed.getD k false = true) →
    (∀ j, j < k → listed.getD j false = true) → (∀ j, m ≤ j → j < q → listed.getD j true = false) →
    lexHeadX md ops fin l.length k listed = true → wpQuietB P ops C Lq l a → wpX P md ops C m q L (l.length + r) listed a G
  | [], k, listed, a, G, _, hk, inv, hpre, hh, hf, hB, h => by
    have : k = m := by simpa using hk
    subst this
    rw [List.length_nil, Nat.zero_add]
    exact hfin _ _ _ inv hpre hh hf (by simpa [lexHeadX] using hB) h
  | o :: l, k, listed, a, G, hl, hk, inv, hpre, hh, hf, hB, h => by
    have h0 : ops[k]? = some o := by simpa using (hl 0 (by simp)).symm
    simp only [List.length_cons, lexHeadX, Bool.and_eq_true] at hB
    obtain ⟨⟨hr, hfr⟩, hB'⟩ := hB
    have hkn : k < m := by simp only [List.length_cons] at hk; omega
    have hr' : k ∈ Region.ready md ops listed := by simpa using hr
    obtain ⟨o', v, ho', hy, hK⟩ := opB_of_quietB h0 h
    obtain rfl : o' = o := Option.some.inj (ho'.symm.trans h0)
    rw [List.length_cons, show l.length + 1 + r = (l.length + r) + 1 by omega]
    refine wpX_first h0 (Region.noSelect_spec hsel) htw hmq hkn hdone _ listed a G inv hpre (Region.free_spec h0 hfr) hr' hy ?_
    refine wpX_lex hsel htw hn hmq hdone hfin l (k + 1) _ _ _ (fun j hj => by have := hl (j + 1) (by simp; omega); simpa [Nat.add_assoc, Nat.add_comm 1 j] using this) (by simp only [List.length_cons] at hk; omega) (inv.set hr' (by omega)) (fun k hk => getD_set_true (hpre k hk)) ?_ ?_ hB' hK
    · intro j hj
      by_cases hjk : j = k
      · subst hjk
        have hlt : j < listed.size := by rw [inv.size]; exact (Array.getElem?_eq_some_iff.1 h0).1
        simp [hlt]
      · exact getD_set_true (hh j (by omega))
    · intro j h1 h2
      rw [getD_set_ne true (by omega)]; exact hf j h1 h2

/-- No operation waits for a float but behind q, and floats wait for nothing. -/
def floatOp (md : Region.Mode) (o : Oper) : Bool := o.guard.isNone && o.after.all (fun e => !Region.binds md e) && o.dst.isSome
def float1B (md : Region.Mode) (ops : Array Oper) (m : Nat) : Bool :=
  Region.noSelect ops && decide (m + 1 < ops.size) && Region.sinkB md ops (m + 1) && Region.chainB md ops (m + 1) && (ops[m]?).any (floatOp md)
    && lexHeadX md ops (fun listed => Region.seqB md ops (ops.size - (m + 1)) (m + 1) (listed.setIfInBounds m true)) m 0 (Array.replicate ops.size false)
def float2B (md : Region.Mode) (ops : Array Oper) (m : Nat) : Bool :=
  Region.noSelect ops && decide (m + 2 < ops.size) && Region.sinkB md ops (m + 2) && Region.chainB md ops (m + 2) && (ops[m]?).any (floatOp md) && (ops[m + 1]?).any (floatOp md) && dstOf ops m != dstOf ops (m + 1)
    && lexHeadX md ops (fun listed => Region.seqB md ops (ops.size - (m + 2)) (m + 2) ((listed.setIfInBounds m true).setIfInBounds (m + 1) true)) m 0 (Array.replicate ops.size false)
theorem floatOp_spec {o : Oper} (h : floatOp md o = true) : o.guard = none ∧ (∀ e ∈ o.after, Region.binds md e = false) ∧ o.dst.isSome = true := by
  simp only [floatOp, Bool.and_eq_true, Option.isNone_iff_eq_none] at h
  refine ⟨h.1.1, fun e he => ?_, h.2⟩
  have := Array.all_eq_true'.1 h.1.2 e he
  simpa using this
theorem below_class {w w1 w2 : World} (h : ∃ p : Regrown, w1 = grow (redrawn w p.d) p.os) (hb : Below w1.heap.size w1 w2) : ∃ p : Regrown, w2 = grow (redrawn w p.d) p.os := by
  obtain ⟨p, rfl⟩ := h
  exact regrown_of_below ((below_regrown w p.d p.os).trans (hb.mono (below_regrown w p.d p.os).size))
theorem any_some {o : Option Oper} {p : Oper → Bool} (h : o.any p = true) : ∃ x, o = some x ∧ p x = true := by
  cases o with
  | none => cases h
  | some x => exact ⟨x, rfl, h⟩

def allocAtB (ops : Array Oper) (i : Nat) (T : TypeId) : Bool := (ops[i]?).any fun o => match o.op with
  | .alloc t => t == T
  | _ => false
theorem alloc_run {i : Nat} {T : TypeId} {ob : Obj} (h : allocAtB ops i T = true) (hz : ∀ w, (Instr.alloc T true (.tuple #[])).run P w = .ok (ptrV w.heap.size) (w.alloc ob)) :
    ∀ o, ops[i]? = some o → ∀ a w, (execOp (Act.eval a) o).run P w = .ok (.value (ptrV w.heap.size)) (w.alloc ob) := by
  intro o ho a w
  obtain ⟨o', ho', hb⟩ := any_some h
  obtain rfl : o' = o := Option.some.inj (ho'.symm.trans ho)
  have hop : o'.op = .alloc T := by
    revert hb
    cases o'.op <;> simp
  unfold execOp
  simp only [hop, Sem.run_bind, hz, Result.andThen, Sem.run_pure]
/-- **A head of m operations, an alloc at any time, a tail.** -/
theorem region_float1 {id : Nat} {Q : Exit → Act → World → Prop} {a : Act} {w : World} {l : List Oper} (m : Nat) (ob : Obj) (s : Tmp) (hsl : dstOf l.toArray m = some s) (hm : P.follows .mixedOrders = true) (hB : float1B .any l.toArray m = true)
    (hal : ∀ o, l.toArray[m]? = some o → ∀ a w, (execOp (Act.eval a) o).run P w = .ok (.value (ptrV w.heap.size)) (w.alloc ob))
    (h : wpQuietB P l.toArray (fun w' => ∃ p : Regrown, w' = grow (redrawn w p.d) p.os) (fun a' => ∀ g w', Below w.heap.size w w' → w.heap.size ≤ g → w'.heap[g]? = some ob → wpList P l.toArray Q (l.drop (m + 1)) (a'.put (some s) (ptrV g)) w') (l.take m) a) :
    (Code.region id l.toArray true).wp P Q a w := by
  simp only [float1B, Bool.and_eq_true, decide_eq_true_eq] at hB
  obtain ⟨⟨⟨⟨⟨hsel, hn⟩, hs⟩, hc⟩, hfl⟩, hlex⟩ := hB
  obtain ⟨o1, ho1, hf1⟩ := any_some hfl
  obtain ⟨g1, g2, g3⟩ := floatOp_spec hf1
  have hF : Floats P .any l.toArray m (m + 1) (fun _ => ob) := ⟨fun i h1 h2 => by
      obtain rfl : i = m := by omega
      exact ⟨o1, ho1, g1, g2, fun a w => hal o1 ho1 a w⟩, fun i j h1 h2 h3 h4 h5 => by omega⟩
  have hn' : m + 1 < l.length := by simpa using hn
  have htl : (l.take m).length = m := by simp; omega
  have hdl : (l.drop (m + 1)).length = l.toArray.size - (m + 1) := by simp
  have inv0 : HeadInv .any l.toArray (m + 1) (Array.replicate l.toArray.size false) :=
    ⟨by simp, fun j oj _ hl => (by rw [getD_replicate_false] at hl; cases hl), fun t _ ht => getD_in (by simpa using ht) (getD_replicate_false _ _)⟩
  have hdone : ∀ (listed : Array Bool) (a : Act) (G : Nat → Nat), (Region.seqB .any l.toArray (l.toArray.size - (m + 1)) (m + 1) listed = true ∧ listed.getD m false = true ∧ ∀ w', Below w.heap.size w w' → w.heap.size ≤ G m → w'.heap[G m]? = some ob → wpList P l.toArray Q (l.drop (m + 1)) a w') → ∀ j ∈ Region.ready .any l.toArray listed, m + 1 ≤ j := fun listed a G h => seqB_ready h.1
  have H := wpX_lex (P := P) (C := fun w' => ∃ p : Regrown, w' = grow (redrawn w p.d) p.os) (md := .any) (m := m) (q := m + 1) (r := 1)
    (fin := fun listed => Region.seqB .any l.toArray (l.toArray.size - (m + 1)) (m + 1) (listed.setIfInBounds m true)) hsel (tw_none hs hc hn) hn (by omega) hdone
    (fun listed a G inv hpre hh hf hfin hLq => wpX_float hF (tw_none hs hc hn) (Nat.le_refl m) (by omega) hdone 0 listed a G inv hpre hh (hf m (Nat.le_refl _) (by omega)) fun g =>
      ⟨hfin, (by have hlt : m < listed.size := by rw [inv.size]; omega
                 simp [hlt]), fun w' hb h1 h2 => by
        have e : upd G m g m = g := by simp [upd]
        rw [e] at h1 h2
        rw [hsl]
        exact hLq g w' hb h1 h2⟩)
    (l.take m) 0 _ a (fun _ => 0) (fun j hj => by
      have hj' : j < m := by rw [htl] at hj; exact hj
      simp [hj']) (by simpa using htl) inv0 (fun _ h => by cases h) (fun j hj => by omega) (fun j h1 h2 => getD_in (by simp; omega) (getD_replicate_false _ _)) (by rw [htl]; exact hlex) h
  have hC : ∃ p : Regrown, ({ w with drawn := w.drawn + 1 } : World) = grow (redrawn w p.d) p.os := ⟨⟨w.drawn + 1, #[]⟩, by rw [grow_empty]; rfl⟩
  refine wp_region_any hm ?_
  have := wpAny_of_X (Q' := Q) (g := l.toArray.size - (m + 1)) (base := w.heap.size) hF (fun _ _ => below_class) (fun w' ⟨p, hp⟩ => by rw [hp]; exact (below_regrown w p.d p.os).size)
    (fun listed a' G w' hw' hfr hL => by
      have hb : Below w.heap.size w w' := by obtain ⟨p, hp⟩ := hw'; rw [hp]; exact below_regrown w p.d p.os
      have hf := hfr m (Nat.le_refl _) (by omega) hL.2.1
      have := wpAny_of_seq (md := .any) (Q' := Q) (l.drop (m + 1)) (m + 1) listed a' w' (fun j => by simp [List.getElem?_drop]) (by rw [hdl]; exact hL.1) (hL.2.2 w' hb hf.1 hf.2.1)
      rwa [hdl] at this) _ _ _ _ _ hC (fun i h1 h2 h3 => by rw [getD_replicate_false] at h3; cases h3) H
  rw [htl, show m + 1 + (l.toArray.size - (m + 1)) = l.toArray.size by omega] at this
  exact this

/-- **A head of m operations, two allocs at any time, a tail.** -/
theorem region_float2 {id : Nat} {Q : Exit → Act → World → Prop} {a : Act} {w : World} {l : List Oper} (m : Nat) (ob : Obj) (s1 s2 : Tmp) (hs1 : dstOf l.toArray m = some s1) (hs2 : dstOf l.toArray (m + 1) = some s2) (hm : P.follows .mixedOrders = true) (hB : float2B .any l.toArray m = true)
    (hal : ∀ i o, m ≤ i → i < m + 2 → l.toArray[i]? = some o → ∀ a w, (execOp (Act.eval a) o).run P w = .ok (.value (ptrV w.heap.size)) (w.alloc ob))
    (h : wpQuietB P l.toArray (fun w' => ∃ p : Regrown, w' = grow (redrawn w p.d) p.os) (fun a' => ∀ g1 g2 w', Below w.heap.size w w' → w.heap.size ≤ g1 → w.heap.size ≤ g2 → g1 ≠ g2 → w'.heap[g1]? = some ob → w'.heap[g2]? = some ob →
      wpList P l.toArray Q (l.drop (m + 2)) ((a'.put (some s1) (ptrV g1)).put (some s2) (ptrV g2)) w') (l.take m) a) :
    (Code.region id l.toArray true).wp P Q a w := by
  simp only [float2B, Bool.and_eq_true, decide_eq_true_eq] at hB
  obtain ⟨⟨⟨⟨⟨⟨⟨hsel, hn⟩, hs⟩, hc⟩, hfl1⟩, hfl2⟩, hne⟩, hlex⟩ := hB
  obtain ⟨o1, ho1, hf1⟩ := any_some hfl1
  obtain ⟨g1, g2, g3⟩ := floatOp_spec hf1
  obtain ⟨o2, ho2, hf2⟩ := any_some hfl2
  obtain ⟨k1, k2, k3⟩ := floatOp_spec hf2
  have hne' : dstOf l.toArray m ≠ dstOf l.toArray (m + 1) := by simpa using hne
  have hF : Floats P .any l.toArray m (m + 2) (fun _ => ob) := ⟨fun i h1 h2 => by
      by_cases him : i = m
      · subst him; exact ⟨o1, ho1, g1, g2, fun a w => hal i o1 h1 h2 ho1 a w⟩
      · obtain rfl : i = m + 1 := by omega
        exact ⟨o2, ho2, k1, k2, fun a w => hal (m + 1) o2 h1 h2 ho2 a w⟩, fun i j h1 h2 h3 h4 h5 d hd hd' => by
      by_cases him : i = m
      · subst him
        obtain rfl : j = i + 1 := by omega
        exact hne' (hd.trans hd'.symm)
      · obtain rfl : i = m + 1 := by omega
        obtain rfl : j = m := by omega
        exact hne' (hd'.trans hd.symm)⟩
  have hn' : m + 2 < l.length := by simpa using hn
  have htl : (l.take m).length = m := by simp; omega
  have hdl : (l.drop (m + 2)).length = l.toArray.size - (m + 2) := by simp
  have inv0 : HeadInv .any l.toArray (m + 2) (Array.replicate l.toArray.size false) :=
    ⟨by simp, fun j oj _ hl => (by rw [getD_replicate_false] at hl; cases hl), fun t _ ht => getD_in (by simpa using ht) (getD_replicate_false _ _)⟩
  have hdone : ∀ (listed : Array Bool) (a : Act) (G : Nat → Nat), (Region.seqB .any l.toArray (l.toArray.size - (m + 2)) (m + 2) listed = true ∧ listed.getD m false = true ∧ listed.getD (m + 1) false = true ∧ ∀ w', Below w.heap.size w w' → w.heap.size ≤ G m → w.heap.size ≤ G (m + 1) → G m ≠ G (m + 1) → w'.heap[G m]? = some ob → w'.heap[G (m + 1)]? = some ob → wpList P l.toArray Q (l.drop (m + 2)) a w') → ∀ j ∈ Region.ready .any l.toArray listed, m + 2 ≤ j := fun listed a G h => seqB_ready h.1
  have H := wpX_lex (P := P) (C := fun w' => ∃ p : Regrown, w' = grow (redrawn w p.d) p.os) (md := .any) (m := m) (q := m + 2) (r := 2)
    (fin := fun listed => Region.seqB .any l.toArray (l.toArray.size - (m + 2)) (m + 2) ((listed.setIfInBounds m true).setIfInBounds (m + 1) true)) hsel (tw_none hs hc hn) hn (by omega) hdone
    (fun listed a G inv hpre hh hf hfin hLq => by
      have hlt1 : m < listed.size := by rw [inv.size]; omega
      have hlt2 : m + 1 < listed.size := by rw [inv.size]; omega
      have hr : m ∈ Region.ready .any l.toArray listed := mem_ready.2 ⟨hf m (Nat.le_refl _) (by omega), o1, ho1, fun e he hb => by rw [g2 e he] at hb; cases hb⟩
      refine wpX_float hF (tw_none hs hc hn) (Nat.le_refl m) (by omega) hdone 1 listed a G inv hpre hh (hf m (Nat.le_refl _) (by omega)) fun ga => ?_
      refine wpX_float hF (tw_none hs hc hn) (i := m + 1) (by omega) (by omega) hdone 0 _ _ _ (inv.set hr (by omega)) (fun k hk => getD_set_true (hpre k hk)) (fun j hj => getD_set_true (hh j hj)) (by rw [getD_set_ne true (by omega)]; exact hf (m + 1) (by omega) (by omega)) fun gb => ?_
      refine ⟨hfin, getD_set_true (by simp [hlt1]), by simp [hlt2], fun w' hb h1 h2 h3 h4 h5 => ?_⟩
      have e1 : upd (upd G m ga) (m + 1) gb m = ga := by simp [upd]
      have e2 : upd (upd G m ga) (m + 1) gb (m + 1) = gb := by simp [upd]
      rw [e1] at h1 h3 h4
      rw [e2] at h2 h3 h5
      rw [hs1, hs2]
      exact hLq ga gb w' hb h1 h2 h3 h4 h5)
    (l.take m) 0 _ a (fun _ => 0) (fun j hj => by
      have hj' : j < m := by rw [htl] at hj; exact hj
      simp [hj']) (by simpa using htl) inv0 (fun _ h => by cases h) (fun j hj => by omega) (fun j h1 h2 => getD_in (by simp; omega) (getD_replicate_false _ _)) (by rw [htl]; exact hlex) h
  have hC : ∃ p : Regrown, ({ w with drawn := w.drawn + 1 } : World) = grow (redrawn w p.d) p.os := ⟨⟨w.drawn + 1, #[]⟩, by rw [grow_empty]; rfl⟩
  refine wp_region_any hm ?_
  have := wpAny_of_X (Q' := Q) (g := l.toArray.size - (m + 2)) (base := w.heap.size) hF (fun _ _ => below_class) (fun w' ⟨p, hp⟩ => by rw [hp]; exact (below_regrown w p.d p.os).size)
    (fun listed a' G w' hw' hfr hL => by
      have hb : Below w.heap.size w w' := by obtain ⟨p, hp⟩ := hw'; rw [hp]; exact below_regrown w p.d p.os
      have hf := hfr m (Nat.le_refl _) (by omega) hL.2.1
      have hf2 := hfr (m + 1) (by omega) (by omega) hL.2.2.1
      have := wpAny_of_seq (md := .any) (Q' := Q) (l.drop (m + 2)) (m + 2) listed a' w' (fun j => by simp [List.getElem?_drop]) (by rw [hdl]; exact hL.1) (hL.2.2.2 w' hb hf.1 hf2.1 (hf2.2.2 m (Nat.le_refl _) (by omega) hL.2.1 (by omega)) hf.2.1 hf2.2.1)
      rwa [hdl] at this) _ _ _ _ _ hC (fun i h1 h2 h3 => by rw [getD_replicate_false] at h3; cases h3) H
  rw [htl, show m + 2 + (l.toArray.size - (m + 2)) = l.toArray.size by omega] at this
  exact this

/-! ### A move that may come at any time, a head, a tail -/
def sink1B (md : Region.Mode) (ops : Array Oper) (n : Nat) : Bool :=
  (List.range n).all fun i => i == 0 || (List.range (n + 1)).any fun j => decide (i < j) && Region.waitsFor md ops j i
theorem tw_one {q : Nat} (hs : sink1B md ops q = true) (hc : Region.chainB md ops q = true) (hn : q < ops.size) : TW md ops q (fun i => i == 0) := by
  intro listed inv hpre
  have h0 : listed.getD 0 false = true := hpre 0 rfl
  suffices H : ∀ (d i : Nat), q - i = d → i < q → listed.getD i true = false → ∀ t, q ≤ t → t ∉ Region.ready md ops listed from fun i hi hun t ht => H _ i rfl hi hun t ht
  intro d
  induction d using Nat.strongRecOn with
  | _ d ih =>
    intro i hd hi hun t ht hr
    obtain ⟨_, ot, hot, hall⟩ := mem_ready.1 hr
    have htlt : t < ops.size := (Array.getElem?_eq_some_iff.1 hot).1
    by_cases htn : t = q
    · subst htn
      have h1 := List.all_eq_true.1 hs i (List.mem_range.2 hi)
      simp only [Bool.or_eq_true, beq_iff_eq] at h1
      rcases h1 with rfl | h1
      · rw [getD_both hun] at h0; cases h0
      obtain ⟨j, hj, hj2⟩ := List.any_eq_true.1 h1
      simp only [Bool.and_eq_true, decide_eq_true_eq] at hj2
      obtain ⟨oj, hoj, e, he, hb, hon⟩ := Region.waitsFor_spec hj2.2
      have hjle : j ≤ t := by have := List.mem_range.1 hj; omega
      by_cases hjt : j = t
      · subst hjt
        have : oj = ot := Option.some.inj (hoj.symm.trans hot)
        subst this
        have h2 := hall e he hb
        rw [hon, getD_both hun] at h2
        cases h2
      · cases hl : listed.getD j false with
        | true =>
          have h2 := inv.closed j oj hoj hl e he hb
          rw [hon, getD_both hun] at h2
          cases h2
        | false =>
          have hjs : j < listed.size := by rw [inv.size]; omega
          exact ih (t - j) (by omega) j rfl (by omega) (getD_in hjs hl) t (Nat.le_refl _) hr
    · have h1 := List.all_eq_true.1 hc t (List.mem_range.2 htlt)
      simp only [Bool.or_eq_true, decide_eq_true_eq] at h1
      rcases h1 with h1 | h1
      · omega
      · obtain ⟨o', ho', e, he, hb, hon⟩ := Region.waitsFor_spec h1
        have : o' = ot := Option.some.inj (ho'.symm.trans hot)
        subst this
        have h2 := hall e he hb
        rw [hon, getD_both (inv.tail (t - 1) (by omega) (by omega))] at h2
        cases h2

def move1B (md : Region.Mode) (ops : Array Oper) (m : Nat) : Bool :=
  Region.noSelect ops && decide (m < ops.size) && decide (1 ≤ m) && sink1B md ops m && Region.chainB md ops m && (Region.ready md ops (Array.replicate ops.size false)).contains 0 && Region.free md ops (Array.replicate ops.size false) 0
    && lexHeadX md ops (fun listed => Region.seqB md ops (ops.size - m) m listed) (m - 1) 1 ((Array.replicate ops.size false).setIfInBounds 0 true)
/-- **A move that may come at any time, then operations 1 to m - 1 that read or call, then a tail.** -/
theorem region_move1 {id : Nat} {Q : Exit → Act → World → Prop} {a : Act} {w : World} {l : List Oper} (m : Nat) (o : Oper) (x : Operand) (h0 : l.toArray[0]? = some o) (hop : o.op = .move x) (hg : o.guard = none)
    (hQ : ∀ c a d v w, Q (.panic c) (a.put d v) w → Q (.panic c) a w) (hm : P.follows .mixedOrders = true) (hB : move1B .any l.toArray m = true)
    (h : wpQuietB P l.toArray (fun w' => ∃ p : Regrown, w' = grow (redrawn w p.d) p.os) (fun a' => ∀ w', Below w.heap.size w w' → wpList P l.toArray Q (l.drop m) a' w') ((l.take m).drop 1) (a.put o.dst (a.eval x))) :
    (Code.region id l.toArray true).wp P Q a w := by
  simp only [move1B, Bool.and_eq_true, decide_eq_true_eq] at hB
  obtain ⟨⟨⟨⟨⟨⟨⟨hsel, hn⟩, h1m⟩, hs⟩, hc⟩, hr0⟩, hf0⟩, hlex⟩ := hB
  have hn' : m < l.length := by simpa using hn
  have htl : ((l.take m).drop 1).length = m - 1 := by simp; omega
  have hdl : (l.drop m).length = l.toArray.size - m := by simp
  have inv0 : HeadInv .any l.toArray m (Array.replicate l.toArray.size false) :=
    ⟨by simp, fun j oj _ hl => (by rw [getD_replicate_false] at hl; cases hl), fun t _ ht => getD_in (by simpa using ht) (getD_replicate_false _ _)⟩
  have hr0' : 0 ∈ Region.ready .any l.toArray (Array.replicate l.toArray.size false) := by simpa using hr0
  have hF : Floats P .any l.toArray m m (fun _ => Obj.cells #[] 0) := ⟨fun i h1 h2 => by omega, fun i j h1 h2 h3 h4 h5 => by omega⟩
  have hdone : ∀ (listed : Array Bool) (a : Act) (G : Nat → Nat), (Region.seqB .any l.toArray (l.toArray.size - m) m listed = true ∧ ∀ w', Below w.heap.size w w' → wpList P l.toArray Q (l.drop m) a w') → ∀ j ∈ Region.ready .any l.toArray listed, m ≤ j := fun listed a G h => seqB_ready h.1
  have hset0 : ((Array.replicate l.toArray.size false).setIfInBounds 0 true).getD 0 false = true := by
    have : 0 < l.toArray.size := by omega
    simp
    omega
  have H := wpX_lex (P := P) (C := fun w' => ∃ p : Regrown, w' = grow (redrawn w p.d) p.os) (md := .any) (m := m) (q := m) (r := 0)
    (fin := fun listed => Region.seqB .any l.toArray (l.toArray.size - m) m listed) hsel (tw_one hs hc hn) hn (Nat.le_refl m) hdone
    (fun listed a G inv hpre hh hf hfin hLq => ⟨hfin, hLq⟩)
    ((l.take m).drop 1) 1 _ _ (fun _ => 0) (fun j hj => by
      have hj' : j < m - 1 := by rw [htl] at hj; exact hj
      have e1 : ((l.take m).drop 1)[j]? = l[1 + j]? := by
        rw [List.getElem?_drop, List.getElem?_take, if_pos (by omega)]
      rw [e1]; simp) (by rw [htl]; omega) (inv0.set hr0' (by omega))
    (fun i hi => by
      obtain rfl : i = 0 := by simpa using hi
      exact hset0) (fun j hj => by
      obtain rfl : j = 0 := by omega
      exact hset0) (fun j h1 h2 => by omega) (by rw [htl]; exact hlex) h
  have hC : ∃ p : Regrown, ({ w with drawn := w.drawn + 1 } : World) = grow (redrawn w p.d) p.os := ⟨⟨w.drawn + 1, #[]⟩, by rw [grow_empty]; rfl⟩
  refine wp_region_any hm ?_
  have hx := wpAny_of_X (Q' := Q) (g := l.toArray.size - m) (base := w.heap.size) hF (fun _ _ => below_class) (fun w' ⟨p, hp⟩ => by rw [hp]; exact (below_regrown w p.d p.os).size)
    (fun listed a' G w' hw' hfr hL => by
      have hb : Below w.heap.size w w' := by obtain ⟨p, hp⟩ := hw'; rw [hp]; exact below_regrown w p.d p.os
      have := wpAny_of_seq (md := .any) (Q' := Q) (l.drop m) m listed a' w' (fun j => by simp [List.getElem?_drop]) (by rw [hdl]; exact hL.1) (hL.2 w' hb)
      rwa [hdl] at this) _ _ _ _ _ hC (fun i h1 h2 h3 => by omega) H
  rw [htl, show m - 1 + 0 + (l.toArray.size - m) = l.toArray.size - 1 by omega] at hx
  have hy : Yields P l.toArray o (a.eval x) a := .inl ⟨by simp [Region.wanted, hg], fun w => by unfold execOp; rw [hop]; rfl⟩
  have := wpAny_first (md := .any) h0 (Region.noSelect_spec hsel) (fun c a w => hQ c a _ _ w) (l.toArray.size - 1) _ a _ (Region.free_spec h0 hf0) hr0' hy hx
  rwa [show l.toArray.size - 1 + 1 = l.toArray.size by omega] at this
end
end Go.Proofs.Ytimkknljoeiceaa

/-! TriM -/
namespace Go.Proofs.Ytimkknljoeiceaa
open Go.RowKit
attribute [local go_sem] quietB uponB

theorem step_append_anyI {P : Program} {ops : Array Oper} {o : Oper} {a : Act} {w : World} {K : Act → World → Prop} {Q : Exit → Act → World → Prop} {E : Prop} (hgd : o.guard = none) (s x : Operand) (t : TypeId)
    (ho : o.op = .call { callee := .builtin .append, args := #[s, x], argTypes := #[t, t] })
    (base : Nat) (e : TypeId) (i : TypeInfo) (z : Value) (size bytes : Nat) (ht : P.underlying t = some (.slice e)) (hi : P.info? e = some i) (hz : i.zero = some z)
    (hsize : i.size = size) (hby : i.bytes = bytes) (hzs : z.cells.size = size) (hsz : 0 < size)
    (v : Value) (n : Nat) (xs : List Value) (hs : a.eval s = v) (hown : w.ownsRow base e size v n xs)
    (ad : Addr) (m c : Nat) (news : List Value) (hx : a.eval x = .slice (some ad) m c) (hl : news.length = m * size) (hnews : ∀ j u, news[j]? = some u → w.cell? (ad.add j) = some u) (h1 : ∀ u ∈ news, u.oneCell' = true)
    (h63 : n + m ≤ maxLen) (hbytes : (n + m) * bytes ≤ 140737488355328) (hbase : base ≤ w.heap.size)
    (h : ∀ v' w', w'.ownsRow base e size v' (n + m) (xs ++ news) → w.grownBy w' v.ownBlock → K (a.put o.dst v') w') :
    if Region.wanted o (yielded ops a.tmps) = true then Oper.wp P o a w K Q else E := by
  have hw : Region.wanted o (yielded ops a.tmps) = true := by simp [Region.wanted, hgd]
  rw [if_pos hw]
  obtain ⟨v', w', hrun, r1, r2, _⟩ := run_append_own (P := P) w base t o.type e i z size bytes ht hi hz hsize hby hzs hsz v n xs hown ad m c news hl hnews h1 h63 hbytes hbase
  unfold Oper.wp
  simp [execOp, ho, resolve, invoke, builtin, hs, hx, hrun, Result.andThen]
  exact h v' w' r1 r2
theorem intsA_newsI {w : World} {g : Nat} {M : List Int} (h : IntsA w (some ⟨g, 0, none⟩) M) (k m : Nat) : ∀ j u, (ints ((M.drop k).take m))[j]? = some u → w.cell? (Addr.add ⟨g, k, none⟩ j) = some u := by
  intro j u hu
  have hj : j < (ints ((M.drop k).take m)).length := by
    rcases Nat.lt_or_ge j (ints ((M.drop k).take m)).length with q | q
    · exact q
    · rw [List.getElem?_eq_none q] at hu; cases hu
  rw [ints_len, List.length_take, List.length_drop] at hj
  obtain ⟨g', e, hc⟩ := h (k + j) (by omega)
  cases e
  have : u = .int .i64 (M[k + j]'(by omega)) := by
    simp [ints, List.getElem?_drop, show j < m by omega, show k + j < M.length by omega] at hu
    exact hu.symm
  rw [this]
  unfold Addr.add
  split
  · rename_i h0; subst h0; exact hc
  · exact hc
theorem take_stepR (L : List Pt) {R : List Nat} {k : Nat} (hk : k < R.length) : (R.take (k + 1)).map (gt L) = (R.take k).map (gt L) ++ [gt L (R.getD k 0)] := by
  rw [List.take_add_one, List.map_append, List.getElem?_eq_getElem hk]
  simp [hk]
theorem ints_one (M : List Int) : ∀ u ∈ ints M, u.oneCell' = true := by
  intro u hu
  obtain ⟨n, _, rfl⟩ := List.mem_map.1 hu
  rfl
theorem frE_step (f : Nat → Bool) (n : Nat) : frE f (n + 1) = if frE f n < 0 ∧ f n = true then (n : Int) else frE f n := rfl
theorem earB_at {L : List Pt} {R : List Nat} (h : Rest L R) (h4 : 4 ≤ R.length) {v : Nat} (hv : v < R.length) : earB (R.map (gt L)) v = earAt L R v := by
  unfold earB
  rw [List.length_map, beq_eq_false_iff_ne.2 (by omega), Bool.false_or, h.ear h4 hv]; rfl
theorem rowsR_made (w : World) (B : Nat) (hB : B ≤ w.heap.size) : RowsR (w.alloc (.cells #[] 36)) B (.slice (some ⟨w.heap.size, 0, none⟩) 0 0) [] :=
  ⟨World.ownsRow_lit (base := B) (e := 36) (size := 1) w #[] 0 hB (by unfold maxLen; omega) (by rfl), fun r h => (by cases h), fun r h => (by cases h), by simp⟩
theorem toI_three {R : List Nat} (h : R.length = 3) (hup : R.Pairwise (· < ·)) : srt3 ((R.getD 0 0 : Nat) : Int) ((R.getD 1 0 : Nat) : Int) ((R.getD 2 0 : Nat) : Int) = toI R := by
  match R, h, hup with
  | [a, b, c], _, hup =>
    simp only [List.pairwise_cons, List.mem_cons, List.not_mem_nil, or_false, forall_eq_or_imp, forall_eq] at hup
    obtain ⟨⟨h1, h2⟩, h3, -⟩ := hup
    simp only [List.getD_cons_zero, List.getD_cons_succ]
    rw [srt3_up (by omega) (by omega)]; rfl
theorem idx_w {v n t r : Nat} (hv : v < n) (hn : n ≤ 10) (ht : t < n) (hr : r < n) : IntKind.i64.wrap ((v : Int) + (n : Int)) = (v : Int) + (n : Int) ∧ IntKind.i64.wrap ((v : Int) + (n : Int) - 1) = (v : Int) + (n : Int) - 1 ∧ IntKind.i64.wrap (r : Int) = (r : Int) ∧ IntKind.i64.wrap (t : Int) = (t : Int) ∧ ¬ n = 0 :=
  ⟨IntWalk.i64_in _ (by omega), IntWalk.i64_in _ (by omega), IntWalk.i64_in _ (by omega), IntWalk.i64_in _ (by omega), by omega⟩
theorem u_w {v u n : Nat} (hu : u = v + 1) (hv : v < n) (hn : n ≤ 10) : (v : Int) + 1 = (u : Int) ∧ IntKind.i64.wrap ((v : Int) + 1) = (u : Int) ∧ wrap64 ((v : Int) + 1) = (u : Int) := by
  have e : (v : Int) + 1 = (u : Int) := by omega
  rw [e]
  exact ⟨rfl, IntWalk.i64_in _ (by omega), IntWalk.wrap64_in _ (by omega)⟩
theorem cut_w {v u n cap : Nat} (hu : u = v + 1) (hv : v < n) (hc : n ≤ cap) : (v : Int) ≤ (n : Int) ∧ (v : Int) ≤ (cap : Int) ∧ (u : Int) ≤ (n : Int) ∧ (u : Int) ≤ (cap : Int) ∧ (n : Int) ≤ (cap : Int) ∧ u ≤ n := by omega
theorem cut_eq {M : List Int} {v u : Nat} (hu : u = v + 1) (hv : v < M.length) : ints (M.take v) ++ ints ((M.drop u).take (M.length - u)) = ints (M.eraseIdx v) ∧ v + (M.length - u) = (M.eraseIdx v).length := by
  have e : M.take v ++ (M.drop u).take (M.length - u) = M.eraseIdx v := by
    have q : (M.drop u).take (M.length - u) = M.drop u := List.take_of_length_le (by rw [List.length_drop]; omega)
    rw [q, hu, List.eraseIdx_eq_take_drop_succ]
  refine ⟨by rw [← e, ints, ints, ints, List.map_append], ?_⟩
  rw [List.length_eraseIdx_of_lt hv, hu]; omega
theorem len_w {M : List Int} {v u : Nat} (hv : v < M.length) : (ints (M.take v)).length = v * 1 ∧ (ints ((M.drop u).take (M.length - u))).length = (M.length - u) * 1 := by
  rw [ints_len, ints_len, List.length_take, List.length_take, List.length_drop]; omega
theorem m_w {a n : Nat} (h : a = n - 1) (h3 : 3 < n) : a < n := by omega
theorem b_w0 {v n : Nat} (hv : v < n) (hn : n ≤ 10) : v + 0 ≤ maxLen ∧ (v + 0) * 8 ≤ 140737488355328 := by
  unfold maxLen; omega
theorem b_w {v u n : Nat} (hv : v < n) (hn : n ≤ 10) : 0 + v ≤ maxLen ∧ (0 + v) * 8 ≤ 140737488355328 ∧ v + (n - u) ≤ maxLen ∧ (v + (n - u)) * 8 ≤ 140737488355328 := by
  unfold maxLen; omega
set_option maxRecDepth 100000 in
set_option maxHeartbeats 4000000 in
theorem spec_triang (A : Option Addr) (c : Nat) (L : List (Int × Int)) (w : World) (hA : PtsA w A L) (hL : L.length ≤ 1048576) :
    Calls Try.prog 16 #[.slice A L.length c] w (TriR w (triV L)) := by
  have PC := Lib.hid (spec_poly A c L w hA hL)
  cases hp : polyB L
  · have HU : Hid (TriR w (triV L) = fun e w' => ∃ v Rs, e = .returned (.tuple #[v, .bool false]) ∧ RowsR w' w.heap.size v Rs ∧ Rs.map Rw.M = [] ∧ Below w.heap.size w w') := by
      show _ = _
      rw [triV, hp]; rfl
    rw [hp] at PC
    clear hA
    go_enter Try.func16, Try.ntmps16
    go_wp2_with fail
    refine PC.out.mono ?_
    rintro e w1 ⟨rfl, hb1⟩
    go_wp2_with fail
    go_ret2
    rw [HU.out]
    exact ⟨_, [], rfl, rowsR_nil _ _, rfl, hb1⟩
  · obtain ⟨i0, hi0, hz0, hz1, hz2⟩ := info_parts infoR
    obtain ⟨i1, hi1, hy0, hy1, hy2⟩ := info_parts infoI
    obtain ⟨i2, hi2, hx0, hx1, hx2⟩ := info_parts infoPt
    obtain ⟨h3, h10, hok⟩ := polyB_all hp
    have hG : Hid (Good L) := (poly_iff L).1 hp
    have HV : Hid (triV L = goT L (L.length - 3) (List.range L.length) []) := by show _ = _; rw [triV, hp]; rfl
    rw [hp] at PC
    obtain ⟨V, hV⟩ : ∃ V, V = triV L := ⟨_, rfl⟩
    rw [← hV] at HV ⊢
    obtain ⟨gA, rfl, -⟩ := hA 0 (by omega)
    have HPT : Hid (∀ x, x < L.length → ∀ W, Below w.heap.size w W → W.cell? ⟨gA, x * 2, none⟩ = some (.int .i64 (gt L x).1) ∧ W.cell? ⟨gA, x * 2 + 1, none⟩ = some (.int .i64 (gt L x).2)) := fun x hx W hb => by
      obtain ⟨g', e, d1, d2⟩ := ptsA_on hA hb x hx
      cases e
      rw [gt_at hx]
      exact ⟨d1, d2⟩
    clear hA hok hV
    go_enter Try.func16, Try.ntmps16
    go_wp2_with fail
    refine PC.out.mono ?_
    rintro e w1 ⟨rfl, hb1⟩
    have own0 := World.ownsRow_lit (base := w.heap.size) (e := 3) (size := 1) w1 #[] 0 hb1.size (by unfold maxLen; omega) (by rfl)
    have b0 := hb1.alloc hb1.size (.cells #[] 3)
    clear hb1 PC
    go_wp2_with fail
    go_loopw [4, 5, 19] (fun s _ i wr => ∃ (k : Nat) (M : List Int), k ≤ L.length ∧ i = .int .i64 k ∧ M.length ≤ k ∧ Hid (M = toI (List.range k)) ∧ wr.ownsRow w.heap.size 3 1 s M.length (ints M) ∧ Below w.heap.size w wr) (fun _ _ i _ => L.length - (intOf i).toNat)
    case atStart => exact ⟨0, [], Nat.zero_le _, rfl, Nat.le_refl _, rfl, own0, b0⟩
    case round =>
      obtain ⟨wo, rfl⟩ : ∃ wo : World, wo = wr := ⟨_, rfl⟩
      clear own0 b0
      obtain ⟨k, M, hk, rfl, hMk, HM, own, hb⟩ := hrel
      by_cases hlt : k < L.length
      · have HT : Hid (M ++ [(k : Int)] = toI (List.range (k + 1))) := by show _ = _; rw [toI_range, HM.out]
        have hs6 := hb.size
        clear HM
        go_wp2_with (at_builtin; refine wpList_append_own _ rfl _ _ 36 rfl w.heap.size 3 i1 (.int .i64 0) 1 8 Try.underlying36 hi1 hy0 hy1 hy2 rfl (by decide) _ _ _ rfl (own.alloc _) ⟨wo.heap.size, 0, none⟩ 1 1 [.int .i64 (k : Int)] rfl rfl ?d1 ?d2 ?d3 ?d4 ?d5 ?_)
        case d1 => exact World.news_of_block (cs := #[.int .i64 (k : Int)]) (t := 3) (fr := (0, 0)) (heap_alloc_new wo _)
        case d2 => simp [Value.oneCell']
        case d3 => unfold maxLen; omega
        case d4 => omega
        case d5 => simp; omega
        intro v' w7 own7 hgrow _
        have hrw := fun k hk => (own.lt k hk).1
        have R : Hid (w7.ownsRow w.heap.size 3 1 v' (M ++ [(k : Int)]).length (ints (M ++ [(k : Int)])) ∧ Below w.heap.size w w7) :=
          ⟨by rw [ints_snoc, List.length_append]; exact own7, (hb.alloc hs6 _).grown hgrow (by simp; omega) hrw⟩
        clear own own7 hgrow hb hrw
        go_wp2_with fail
        go_roundw
        case rel => exact ⟨k + 1, M ++ [(k : Int)], by omega, by go_num, by simp; omega, HT, R.out.1, R.out.2⟩
        case measure => simp [intOf]; omega
      · have e : k = L.length := by omega
        have HMM : Hid (M = toI (List.range L.length)) := by show _ = _; rw [HM.out, e]
        obtain ⟨-, A', c', rfl, hI⟩ := own_ints own
        have hML : M.length = L.length := by rw [HMM.out, toI_len, List.length_range]
        obtain ⟨g0, rfl, -⟩ := hI 0 (by omega)
        have HO := Lib.hid (own.alloc (.cells #[] 36))
        have HB := Lib.hid (hb.alloc hb.size (.cells #[] 36))
        have HRW := Lib.hid (rowsR_made wo w.heap.size hb.size)
        have hg0 := (own.lt g0 rfl).2
        have HSP : Hid (∀ k, (Value.slice (some ⟨wo.heap.size, 0, none⟩) 0 0).ownBlock = some k → k ≠ g0) := fun k hk => by
          have : wo.heap.size = k := Option.some.inj hk
          omega
        have HRS : Hid (Rest L (List.range L.length)) := Rest.start hG.out
        have HGO : Hid (goT L ((List.range L.length).length - 3) (List.range L.length) (([] : List Rw).map Rw.M) = V) := by show _ = _; rw [List.length_range, HV.out]; rfl
        have h3' : 3 ≤ (List.range L.length).length := by rw [List.length_range]; exact h3
        clear own hb hI e HM hML HV hMk hk hg0
        go_wp2_with fail
        go_loopw [4, 6, 7, 9, 10, 11, 12] (fun s t _ _ _ _ _ wr => ∃ (R : List Nat) (M : List Int) (g cap : Nat) (Rs : List Rw), s = .slice (some ⟨g, 0, none⟩) M.length cap ∧ Hid (M = toI R) ∧ Hid (wr.ownsRow w.heap.size 3 1 (.slice (some ⟨g, 0, none⟩) M.length cap) M.length (ints M)) ∧ Hid (RowsR wr w.heap.size t Rs) ∧ Hid (∀ k, t.ownBlock = some k → k ≠ g) ∧ Hid (goT L (R.length - 3) R (Rs.map Rw.M) = V) ∧ Hid (Rest L R) ∧ Hid (3 ≤ R.length) ∧ Hid (Rs.length + R.length ≤ 100) ∧ Hid (Below w.heap.size w wr)) (fun s _ _ _ _ _ _ _ => lenS s)
        case atStart => exact ⟨_, M, _, _, [], rfl, HMM, HO, HRW, HSP, HGO, HRS, h3', by show _ + _ ≤ _; simp; omega, HB⟩
        case round =>
          clear HMM HO HB HRS HGO h3' HRW HSP
          obtain ⟨wx, rfl⟩ : ∃ wx : World, wx = wr := ⟨_, rfl⟩
          obtain ⟨R, M, g, cap, Rs, rfl, HMM, HO, HR, HSEP, HGO, HRS, H3, HN, HB⟩ := hrel
          have hMR : Hid (M.length = R.length) := by show _ = _; rw [HMM.out, toI_len]
          have hR10 := rest_len HRS.out
          have hM10 : M.length ≤ 10 := by rw [hMR.out]; exact hR10
          have hRs : Rs.length ≤ 100 := by have := HN.out; omega
          clear hR10
          have HCM : Hid (∀ k, k < R.length → ∀ W, Below wx.heap.size wx W → W.cell? ⟨g, k, none⟩ = some (.int .i64 ((R.getD k 0 : Nat) : Int))) := fun k hk W hb => by
            obtain ⟨-, A', c', e, hI⟩ := own_ints (own_below HO.out hb)
            simp only [Value.slice.injEq] at e
            obtain ⟨rfl, -, rfl⟩ := e
            rw [HMM.out] at hI
            obtain ⟨g', e, h⟩ := toI_cell hI hk
            cases e; exact h
          by_cases hgt : 3 < M.length
          · have h4 : Hid (4 ≤ R.length) := by show _ ≤ _; rw [← hMR.out]; omega
            have ownq0 := World.ownsRow_lit (base := wx.heap.size) (e := 54) (size := 2) wx #[] 0 (Nat.le_refl _) (by unfold maxLen; omega) (by rfl)
            go_wp2_with fail
            go_loopw [7, 9, 34] (fun s _ i wr => ∃ (k : Nat) (P : List (Int × Int)), k ≤ M.length ∧ i = .int .i64 k ∧ P.length ≤ k ∧ Hid (P = (R.take k).map (gt L)) ∧ Hid (wr.ownsRow wx.heap.size 54 2 s P.length (flat P)) ∧ Hid (Below wx.heap.size wx wr)) (fun _ _ i _ => M.length - (intOf i).toNat)
            case atStart => exact ⟨0, [], Nat.zero_le _, rfl, Nat.le_refl _, rfl, ownq0, below1 _ _⟩
            case round =>
              clear ownq0
              obtain ⟨wi, rfl⟩ : ∃ wi : World, wi = wr := ⟨_, rfl⟩
              obtain ⟨k, P, hk, rfl, hPk, HP, HOP, HBP⟩ := hrel
              by_cases hlt2 : k < M.length
              · have hkR : k < R.length := by have := hMR.out; omega
                have dM := HCM.out k hkR wi HBP.out
                have hx := getD_lt HRS.out.lt hkR
                have HST := Lib.hid (take_stepR L hkR)
                generalize R.getD k 0 = x at *
                obtain ⟨d1, d2⟩ := HPT.out x hx wi (below_on HB.out HBP.out)
                obtain ⟨px, hpx⟩ : ∃ px, px = (gt L x).1 := ⟨_, rfl⟩
                obtain ⟨py, hpy⟩ : ∃ py, py = (gt L x).2 := ⟨_, rfl⟩
                have HT : Hid (P ++ [(px, py)] = (R.take (k + 1)).map (gt L)) := by show _ = _; rw [HST.out, ← HP.out, hpx, hpy]
                rw [← hpx] at d1
                rw [← hpy] at d2
                have hs6 := HBP.out.size
                have own := HOP.out
                clear hpx hpy HST HP hkR
                go_wp2_with (at_builtin; refine wpList_append_own _ rfl _ _ 27 rfl wx.heap.size 54 i2 (.agg #[.int .i64 0, .int .i64 0]) 2 16 Try.underlying27 hi2 hx0 hx1 hx2 rfl (by decide) _ _ _ rfl (own.alloc _) ⟨wi.heap.size, 0, none⟩ 1 1 [.int .i64 px, .int .i64 py] rfl rfl ?d1 ?d2 ?d3 ?d4 ?d5 ?_)
                case d1 => exact World.news_of_block (cs := #[.int .i64 px, .int .i64 py]) (t := 54) (fr := (0, 0)) (heap_alloc_new wi _)
                case d2 => simp [Value.oneCell']
                case d3 => unfold maxLen; omega
                case d4 => omega
                case d5 => simp; omega
                intro v' w7 own7 hgrow _
                have hrw := fun k hk => (own.lt k hk).1
                have RR : Hid (w7.ownsRow wx.heap.size 54 2 v' (P ++ [(px, py)]).length (flat (P ++ [(px, py)])) ∧ Below wx.heap.size wx w7) :=
                  ⟨by rw [flat_append, List.length_append]; exact own7, (HBP.out.alloc hs6 _).grown hgrow (by simp; omega) hrw⟩
                have HO7 := Lib.hid RR.out.1
                have HB7 := Lib.hid RR.out.2
                clear own own7 hgrow hrw d1 d2 dM RR HOP HBP
                go_wp2_with fail
                go_roundw
                case rel => exact ⟨k + 1, P ++ [(px, py)], by omega, by go_num, by simp; omega, HT, HO7, HB7⟩
                case measure => simp [intOf]; omega
              · have e : k = M.length := by omega
                have HPP : Hid (P = R.map (gt L)) := by
                  show _ = _
                  rw [HP.out, e, hMR.out, List.take_length]
                obtain ⟨-, AP, cP, rfl, hPA⟩ := own_pts HOP.out
                have hPl : Hid (P.length = R.length) := by show _ = _; rw [HPP.out, List.length_map]
                have HE : Hid (∀ v, v < P.length → ∀ W, Below wi.heap.size wi W → Calls Try.prog 65 #[.slice AP P.length cP, .int .i64 (v : Int)] W fun e w' => e = .returned (.bool (earAt L R v)) ∧ Below W.heap.size W w') := fun v hv W hb => by
                  have hq := HRS.out.good
                  have := earS_any AP cP P v W (ptsA_on hPA hb) (by rw [HPP.out]; exact hq.1.1) (by rw [HPP.out]; exact hq.1.2) (by rw [HPP.out]; exact hq.2.1) hv
                  have e : earB P v = earAt L R v := by rw [HPP.out]; exact earB_at HRS.out h4.out (by rw [← hPl.out]; exact hv)
                  rwa [e] at this
                have HBI := Lib.hid HBP.out
                have hP10 : P.length ≤ 10 := by have := hPl.out; have := hMR.out; omega
                clear hPA HP HOP e
                go_wp2_with fail
                go_loopw [10, 11, 48] (fun z _ i wr => ∃ (k : Nat) (x : Int), k ≤ P.length ∧ i = .int .i64 k ∧ z = .int .i64 x ∧ Hid (x = frE (earAt L R) k) ∧ Hid (Below wi.heap.size wi wr)) (fun _ _ i _ => P.length - (intOf i).toNat)
                case atStart => exact ⟨0, -1, Nat.zero_le _, rfl, rfl, rfl, Below.refl _ _⟩
                case round =>
                  obtain ⟨wj, rfl⟩ : ∃ wj : World, wj = wr := ⟨_, rfl⟩
                  obtain ⟨j, x, hj, rfl, rfl, HXJ, HBJ⟩ := hrel
                  by_cases hlj : j < P.length
                  · have HFS : Hid (frE (earAt L R) (j + 1) = if x < 0 ∧ earAt L R j = true then (j : Int) else x) := by show _ = _; rw [HXJ.out]; rfl
                    by_cases hneg : x < 0
                    · have HEJ := Lib.hid (HE.out j hlj wj HBJ.out)
                      clear HXJ
                      go_wp2_with fail
                      refine HEJ.out.mono ?_
                      rintro e w6 ⟨rfl, hb6⟩
                      have HB6 := Lib.hid (below_on HBJ.out hb6)
                      clear hb6 HEJ HBJ
                      cases he : earAt L R j
                      · have HXN : Hid (x = frE (earAt L R) (j + 1)) := by show _ = _; rw [HFS.out, if_neg (by rw [he]; simp)]
                        go_wp2_with fail
                        go_roundw
                        case rel => exact ⟨j + 1, x, by omega, by go_num, rfl, HXN, HB6⟩
                        case measure => simp [intOf]; omega
                      · have HXN : Hid ((j : Int) = frE (earAt L R) (j + 1)) := by show _ = _; rw [HFS.out, if_pos ⟨hneg, he⟩]
                        go_wp2_with fail
                        go_roundw
                        case rel => exact ⟨j + 1, (j : Int), by omega, by go_num, rfl, HXN, HB6⟩
                        case measure => simp [intOf]; omega
                    · have HXN : Hid (x = frE (earAt L R) (j + 1)) := by show _ = _; rw [HFS.out, if_neg (fun q => hneg q.1)]
                      clear HXJ HFS
                      go_wp2_with fail
                      go_roundw
                      case rel => exact ⟨j + 1, x, by omega, by go_num, rfl, HXN, HBJ⟩
                      case measure => simp [intOf]; omega
                  · have HXX : Hid (x = frE (earAt L R) R.length) := by
                      show _ = _
                      have e : j = R.length := by have := hPl.out; omega
                      rw [HXJ.out, e]
                    clear HXJ HE
                    have HBX := Lib.hid (below_on HBI.out HBJ.out)
                    rcases frE_spec (earAt L R) R.length with ⟨hf, -⟩ | ⟨v, hv, he, hf, -⟩
                    · have HV0 : Hid (V = ([], false)) := by show _ = _; rw [← HGO.out]; exact goT_none h4.out (by omega)
                      have hx : x < 0 := by rw [HXX.out, hf]; omega
                      clear HXX HGO hf
                      go_wp2_with fail
                      go_ret2
                      rw [HV0.out]
                      exact ⟨_, [], rfl, rowsR_nil _ _, rfl, below_on HB.out HBX.out⟩
                    · obtain rfl : x = (v : Int) := HXX.out.trans hf
                      have hvM : v < M.length := by rw [hMR.out]; exact hv
                      have HG1 := Lib.hid (goT_step (T := Rs.map Rw.M) h4.out hv hf)
                      have HRS1 : Hid (Rest L (R.eraseIdx v)) := rest_step HRS.out h4.out hv he
                      have hel : (R.eraseIdx v).length = R.length - 1 := List.length_eraseIdx_of_lt hv
                      have H31 : Hid (3 ≤ (R.eraseIdx v).length) := by show _ ≤ _; rw [hel]; have := h4.out; omega
                      have HLM : Hid ((M.eraseIdx v).length = M.length - 1) := List.length_eraseIdx_of_lt hvM
                      have HEL := Lib.hid hel
                      have HMM1 : Hid (M.eraseIdx v = toI (R.eraseIdx v)) := by show _ = _; rw [HMM.out, toI_erase]
                      obtain ⟨t, r, p1, p2, hpr, hr, e1, e2⟩ := idx3 h4.out hv
                      have d0 := HCM.out v hv wj HBX.out
                      have d1 := HCM.out t p1 wj HBX.out
                      have d2 := HCM.out r p2 wj HBX.out
                      have q0 := getD_lt HRS.out.lt hv
                      have q1 := getD_lt HRS.out.lt p1
                      have q2 := getD_lt HRS.out.lt p2
                      rw [e1] at d1 q1
                      rw [e2] at d2 q2
                      have HTH : Hid (∀ W, Calls Try.prog 66 #[.int .i64 ((pvR R v : Nat) : Int), .int .i64 ((R.getD v 0 : Nat) : Int), .int .i64 ((nxR R v : Nat) : Int)] W (ListsI W (rowE R v))) := fun W => three_any _ _ _ W (by omega) (by omega) (by omega)
                      rw [← hMR.out] at p1 p2 hpr hr
                      clear e1 e2 q0 q1 q2 HXX hf he hv hel
                      generalize pvR R v = pb at *
                      generalize nxR R v = pn at *
                      generalize R.getD v 0 = pc at *
                      obtain ⟨u, hu⟩ : ∃ u : Nat, Hid (u = v + 1) := ⟨_, rfl⟩
                      obtain ⟨hu1, f1, f1'⟩ := u_w hu.out hvM hM10
                      rw [hu1] at hr
                      obtain ⟨f2, f3, f4, f5, hne⟩ := idx_w hvM hM10 p1 p2
                      have k0 := cell_regrown d0; have k1 := cell_regrown d1; have k2 := cell_regrown d2
                      clear hu1
                      go_wp2_with fail
                      refine region_move1 21 _ _ (by rfl) (by rfl) (by rfl) (fun _ _ d _ _ h => by cases d <;> exact h) (by kernel_rfl) (by kernel_rfl) ?_
                      simp only [List.take_succ_cons, List.take_zero, List.drop_succ_cons, List.drop_zero]
                      repeat (
                        refine wpQuietB_step (fun K hK => ?_)
                        go_simp
                        first
                          | (refine hK _ ?_; clear hK K)
                          | (apply Exists.intro
                             refine ⟨fun _ => ?_, hK _ ?_⟩
                             ((fail))
                             clear hK K))
                      refine wpQuietB_nil ?_
                      intro w7 hb7
                      have HB7 := Lib.hid (below_on HBX.out hb7)
                      clear k0 k1 k2 d0 d1 d2 hb7 hpr hr f2 f3 f4 f5 p1 p2 f1 f1'
                      go_wp2_with fail
                      refine (HTH.out w7).mono ?_
                      rintro e w8 ⟨v9, rfl, own9, hb8⟩
                      obtain ⟨-, A9, c9, rfl, hI9⟩ := own_ints own9
                      obtain ⟨g9, rfl, -⟩ := hI9 0 (by show 0 < 3; omega)
                      have hs7 := HB7.out.size
                      have hg9 := Nat.le_trans hs7 (own9.lt g9 rfl).1
                      have hsx := HB.out.size
                      have own9' := own_base own9 (Nat.le_trans hsx hs7)
                      have B8 := below_on HB7.out hb8
                      have hown := (HR.out.below B8).out
                      have HB8 := Lib.hid B8
                      have HO8 := Lib.hid (own_below HO.out B8)
                      have hs8 := B8.size
                      clear own9 hb8 hI9 HTH B8
                      go_wp2_with (at_builtin; (refine wpList_append_own_at _ rfl _ _ 24 rfl w.heap.size 36 i0 (.slice none 0 0) 1 24 Try.underlying24 hi0 hz0 hz1 hz2 rfl (by decide) _ _ _ rfl (hown.alloc _) ⟨w8.heap.size, 0, none⟩ 1 1 [hdr (Rw.mk g9 c9 (rowE R v))] rfl rfl ?y1 ?y2 ?y3 ?y4 ?y5 ?_))
                      case y1 => exact World.news_of_block (cs := #[hdr (Rw.mk g9 c9 (rowE R v))]) (t := 36) (fr := (0, 0)) (heap_alloc_new w8 _)
                      case y2 => simp [hdr, Value.oneCell']
                      case y3 => unfold maxLen; omega
                      case y4 => omega
                      case y5 => simp; omega
                      intro v10 w10 own10 hg10 _ hloc10
                      have hrw := fun k hk => (hown.lt k hk).1
                      have gA := World.grownBy_alloc w8 (.cells #[hdr (Rw.mk g9 c9 (rowE R v))] 36) none
                      have HR10 := Lib.hid (HR.out.snoc (r := Rw.mk g9 c9 (rowE R v)) (below_grown HB8.out) own9' hg9 gA own10 hg10 (by rw [size_alloc]; exact hloc10))
                      have O10 : w10.ownsRow w.heap.size 3 1 (.slice (some ⟨g, 0, none⟩) M.length cap) M.length (ints M) :=
                        (HO8.out.kept gA (.inr (by intro q; cases q))).kept hg10 (.inr (fun q => HSEP.out g q.symm rfl))
                      have HB10 : Hid (Below w.heap.size w w10) := ((below_on HB.out HB8.out).alloc (Nat.le_trans hsx hs8) _).grown hg10 (by simp; omega) hrw
                      have hs10 := HB10.out.size
                      obtain ⟨-, -, -, hnc, -⟩ := own_open O10
                      have HIM : Hid (IntsA w10 (some ⟨g, 0, none⟩) M) := by
                        obtain ⟨-, A', c', e, hI⟩ := own_ints O10
                        simp only [Value.slice.injEq] at e
                        obtain ⟨rfl, -, rfl⟩ := e
                        exact hI
                      have HGN : Hid (goT L ((R.eraseIdx v).length - 3) (R.eraseIdx v) ((Rs ++ [Rw.mk g9 c9 (rowE R v)]).map Rw.M) = V) := by
                        show _ = _
                        rw [← HGO.out, HG1.out, List.map_append]; rfl
                      have HNN : Hid ((Rs ++ [Rw.mk g9 c9 (rowE R v)]).length + (R.eraseIdx v).length ≤ 100) := by
                        show _ + _ ≤ _
                        rw [HEL.out, List.length_append]
                        have := HN.out
                        have := h4.out
                        simp; omega
                      have HEE := Lib.hid (cut_eq hu.out hvM)
                      have own0 := World.ownsRow_lit (base := w10.heap.size) (e := 3) (size := 1) w10 #[] 0 (Nat.le_refl _) (by unfold maxLen; omega) (by rfl)
                      have hcm : cap ≤ maxLen := by
                        obtain ⟨_, _, _, _, q, _⟩ := own_open O10
                        exact q
                      obtain ⟨-, f1, f1'⟩ := u_w hu.out hvM hM10
                      obtain ⟨g1, g2, g3, g4, g5, hu2⟩ := cut_w hu.out hvM hnc
                      clear own10 hg10 hloc10 gA hrw hown own9' O10 HO8 HG1 HO HR HB8 HB7 hcm
                      have HLW := Lib.hid (len_w (u := u) hvM)
                      have HBW := Lib.hid (b_w (u := u) hvM hM10)
                      have HNW1 := Lib.hid (fun W (hb : Below w10.heap.size w10 W) => (show ∀ j z, (ints (M.take v))[j]? = some z → W.cell? (Addr.add ⟨g, 0, none⟩ j) = some z from by
                        have := intsA_newsI (intsA_on HIM.out hb) 0 v
                        rwa [List.drop_zero] at this))
                      obtain ⟨ad, HAD⟩ : ∃ ad : Addr, Hid (ad = if u = cap then ⟨g, 0, none⟩ else ⟨g, u, none⟩) := ⟨_, rfl⟩
                      have HNW2 : ∀ W, Below w10.heap.size w10 W → ∀ j z, (ints ((M.drop u).take (M.length - u)))[j]? = some z → W.cell? (ad.add j) = some z := by
                        intro W hb
                        by_cases huc : u = cap
                        · have e : M.length - u = 0 := Nat.sub_eq_zero_of_le (by rw [huc]; exact hnc)
                          rw [e, List.take_zero]
                          intro j z h
                          simp [ints] at h
                        · rw [HAD.out, if_neg huc]
                          exact intsA_newsI (intsA_on HIM.out hb) u _
                      go_wp2_with fail
                      by_cases huc : u = cap
                      · have hd : ad = ⟨g, 0, none⟩ := by rw [HAD.out, if_pos huc]
                        rw [hd] at HNW2
                        clear hd HAD
                        have HB0 := Lib.hid (b_w0 hvM hM10)
                        have HE0 : Hid (M.length - u = 0) := Nat.sub_eq_zero_of_le (by rw [huc]; exact hnc)
                        subst huc
                        go_region_law (first
                          | (refine step_append_anyI (by rfl) (.tmp 88) (.tmp 91) 36 (by rfl) w10.heap.size 3 i1 _ 1 8 Try.underlying36 hi1 hy0 hy1 hy2 rfl (by decide) (.slice (some ⟨w10.heap.size, 0, none⟩) 0 0) 0 _ (by rfl) own0.drew ⟨g, 0, none⟩ v u (ints (M.take v)) (by rfl) HLW.out.1 (HNW1.out _ (below1 w10 _).drew) (ints_one _) HBW.out.1 HBW.out.2.1 (by simp) ?_; intro v1 w11 own1 hg1; simp only [Nat.zero_add, List.nil_append] at own1; have b1 := (below1 w10 (.cells #[] 3)).drew.grown hg1 (by simp) (fun q hq => (own0.lt q hq).1))
                          | (refine step_append_anyI (by rfl) (.tmp 92) (.tmp 96) 36 (by rfl) w10.heap.size 3 i1 _ 1 8 Try.underlying36 hi1 hy0 hy1 hy2 rfl (by decide) v1 v _ (by rfl) own1 ⟨g, 0, none⟩ 0 0 [] (by rfl) rfl (fun j z h => by simp at h) (fun z h => by cases h) HB0.out.1 HB0.out.2 b1.size ?_; intro v2 w12 own2 hg2))
                        all_goals
                          have own2' : w12.ownsRow w10.heap.size 3 1 v2 (v + (M.length - u)) (ints (M.take v) ++ ints ((M.drop u).take (M.length - u))) := by
                            rw [HE0.out, List.take_zero]; exact own2
                          have b2 := b1.grown hg2 b1.size (fun q hq => (own1.lt q hq).1)
                          have own3 := own2'
                          rw [HEE.out.1, HEE.out.2] at own3
                          obtain ⟨-, A', c', rfl, hI'⟩ := own_ints own3
                          obtain ⟨g', rfl, -⟩ := hI' 0 (by rw [HMM1.out, toI_len]; exact Nat.lt_of_lt_of_le (by decide) H31.out)
                          have hg' := (own3.lt g' rfl).1
                          have O12 := Lib.hid (own_base own3 hs10)
                          have HR12 := Lib.hid (HR10.out.below b2)
                          have HB12 := Lib.hid (below_on HB10.out b2)
                          have HSEP12 : Hid (∀ k, v10.ownBlock = some k → k ≠ g') := fun k hk e => by
                            have := (HR10.out.out.lt k hk).2
                            exact Nat.lt_irrefl _ (Nat.lt_of_lt_of_le this (by rw [e]; exact hg'))
                          clear own0 own1 own2 own2' own3 b1 b2 hg1 hg2 hI' HR10 HB10 HNW2 HNW1 HLW HBW HIM
                          change Exit.inBlock 3 _ Exit.normal (Act.put _ (some 4) _) _
                          go_simp
                          go_wp2_with fail
                          go_roundw
                          case rel => exact ⟨_, M.eraseIdx v, g', c', _, rfl, HMM1, O12, HR12, HSEP12, HGN, HRS1, H31, HNN, HB12⟩
                          case measure => exact m_w HLM.out hgt
                      · have hd : ad = ⟨g, u, none⟩ := by rw [HAD.out, if_neg huc]
                        rw [hd] at HNW2
                        clear hd HAD
                        have huc' : ¬ cap = u := fun q => huc q.symm
                        go_region_law (first
                          | (refine step_append_anyI (by rfl) (.tmp 88) (.tmp 91) 36 (by rfl) w10.heap.size 3 i1 _ 1 8 Try.underlying36 hi1 hy0 hy1 hy2 rfl (by decide) (.slice (some ⟨w10.heap.size, 0, none⟩) 0 0) 0 _ (by rfl) own0.drew ⟨g, 0, none⟩ v cap (ints (M.take v)) (by rfl) HLW.out.1 (HNW1.out _ (below1 w10 _).drew) (ints_one _) HBW.out.1 HBW.out.2.1 (by simp) ?_; intro v1 w11 own1 hg1; simp only [Nat.zero_add, List.nil_append] at own1; have b1 := (below1 w10 (.cells #[] 3)).drew.grown hg1 (by simp) (fun q hq => (own0.lt q hq).1))
                          | (refine step_append_anyI (by rfl) (.tmp 92) (.tmp 96) 36 (by rfl) w10.heap.size 3 i1 _ 1 8 Try.underlying36 hi1 hy0 hy1 hy2 rfl (by decide) v1 v _ (by rfl) own1 ⟨g, u, none⟩ (M.length - u) (cap - u) (ints ((M.drop u).take (M.length - u))) (by rfl) HLW.out.2 (HNW2 _ b1) (ints_one _) HBW.out.2.2.1 HBW.out.2.2.2 b1.size ?_; intro v2 w12 own2 hg2))
                        all_goals
                          have own2' := own2
                          have b2 := b1.grown hg2 b1.size (fun q hq => (own1.lt q hq).1)
                          have own3 := own2'
                          rw [HEE.out.1, HEE.out.2] at own3
                          obtain ⟨-, A', c', rfl, hI'⟩ := own_ints own3
                          obtain ⟨g', rfl, -⟩ := hI' 0 (by rw [HMM1.out, toI_len]; exact Nat.lt_of_lt_of_le (by decide) H31.out)
                          have hg' := (own3.lt g' rfl).1
                          have O12 := Lib.hid (own_base own3 hs10)
                          have HR12 := Lib.hid (HR10.out.below b2)
                          have HB12 := Lib.hid (below_on HB10.out b2)
                          have HSEP12 : Hid (∀ k, v10.ownBlock = some k → k ≠ g') := fun k hk e => by
                            have := (HR10.out.out.lt k hk).2
                            exact Nat.lt_irrefl _ (Nat.lt_of_lt_of_le this (by rw [e]; exact hg'))
                          clear own0 own1 own2 own2' own3 b1 b2 hg1 hg2 hI' HR10 HB10 HNW2 HNW1 HLW HBW HIM
                          change Exit.inBlock 3 _ Exit.normal (Act.put _ (some 4) _) _
                          go_simp
                          go_wp2_with fail
                          go_roundw
                          case rel => exact ⟨_, M.eraseIdx v, g', c', _, rfl, HMM1, O12, HR12, HSEP12, HGN, HRS1, H31, HNN, HB12⟩
                          case measure => exact m_w HLM.out hgt
          · have hM3 : M.length = 3 := by have := hMR.out; have := H3.out; omega
            have hR3 : R.length = 3 := hMR.out.symm.trans hM3
            have HVV : Hid (V = (Rs.map Rw.M ++ [toI R], true)) := by show _ = _; rw [← HGO.out, goT_last hR3]
            have HT3 := Lib.hid (toI_three hR3 HRS.out.up)
            have d0 := HCM.out 0 (by omega) wx (Below.refl _ _)
            have d1 := HCM.out 1 (by omega) wx (Below.refl _ _)
            have d2 := HCM.out 2 (by omega) wx (Below.refl _ _)
            have q0 := getD_lt HRS.out.lt (k := 0) (by omega)
            have q1 := getD_lt HRS.out.lt (k := 1) (by omega)
            have q2 := getD_lt HRS.out.lt (k := 2) (by omega)
            generalize R.getD 0 0 = pa at *
            generalize R.getD 1 0 = pb at *
            generalize R.getD 2 0 = pc at *
            have HTH : Hid (∀ W, Calls Try.prog 66 #[.int .i64 (pa : Int), .int .i64 (pb : Int), .int .i64 (pc : Int)] W (ListsI W (srt3 pa pb pc))) := fun W => three_any _ _ _ W (by omega) (by omega) (by omega)
            have n0 : (0 : Int) < (M.length : Int) := by omega
            have n1 : (1 : Int) < (M.length : Int) := by omega
            have n2 : (2 : Int) < (M.length : Int) := by omega
            have n0' : 0 < M.length := by omega
            have n1' : 1 < M.length := by omega
            have n2' : 2 < M.length := by omega
            have k0 := cell_regrown d0; have k1 := cell_regrown d1; have k2 := cell_regrown d2
            clear q0 q1 q2 hM3 hR3 HCM HO HGO
            go_wp2_with fail
            refine region_move1 10 _ _ (by rfl) (by rfl) (by rfl) (fun _ _ d _ _ h => by cases d <;> exact h) (by kernel_rfl) (by kernel_rfl) ?_
            simp only [List.take_succ_cons, List.take_zero, List.drop_succ_cons, List.drop_zero]
            repeat (
              refine wpQuietB_step (fun K hK => ?_)
              go_simp
              first
                | (refine hK _ ?_; clear hK K)
                | (apply Exists.intro
                   refine ⟨fun _ => ?_, hK _ ?_⟩
                   ((fail))
                   clear hK K))
            refine wpQuietB_nil ?_
            intro w7 hb7
            have HB7 := Lib.hid hb7
            clear k0 k1 k2 d0 d1 d2 hb7
            go_wp2_with fail
            refine (HTH.out w7).mono ?_
            rintro e w8 ⟨v9, rfl, own9, hb8⟩
            obtain ⟨-, A9, c9, rfl, hI9⟩ := own_ints own9
            obtain ⟨g9, rfl, -⟩ := hI9 0 (by show 0 < 3; omega)
            have hs7 := HB7.out.size
            have hg9 := Nat.le_trans hs7 (own9.lt g9 rfl).1
            have hsx := HB.out.size
            have own9' := own_base own9 (Nat.le_trans hsx hs7)
            have B8 := below_on HB7.out hb8
            have hown := (HR.out.below B8).out
            have HB8 := Lib.hid B8
            have hs8 := B8.size
            clear own9 hb8 hI9 HTH B8
            go_wp2_with (at_builtin; (refine wpList_append_own_at _ rfl _ _ 24 rfl w.heap.size 36 i0 (.slice none 0 0) 1 24 Try.underlying24 hi0 hz0 hz1 hz2 rfl (by decide) _ _ _ rfl (hown.alloc _) ⟨w8.heap.size, 0, none⟩ 1 1 [hdr (Rw.mk g9 c9 (srt3 pa pb pc))] rfl rfl ?y1 ?y2 ?y3 ?y4 ?y5 ?_))
            case y1 => exact World.news_of_block (cs := #[hdr (Rw.mk g9 c9 (srt3 pa pb pc))]) (t := 36) (fr := (0, 0)) (heap_alloc_new w8 _)
            case y2 => simp [hdr, Value.oneCell']
            case y3 => unfold maxLen; omega
            case y4 => omega
            case y5 => simp; omega
            intro v10 w10 own10 hg10 _ hloc10
            have hrw := fun k hk => (hown.lt k hk).1
            have gA := World.grownBy_alloc w8 (.cells #[hdr (Rw.mk g9 c9 (srt3 pa pb pc))] 36) none
            have HR10 := Lib.hid (HR.out.snoc (r := Rw.mk g9 c9 (srt3 pa pb pc)) (below_grown HB8.out) own9' hg9 gA own10 hg10 (by rw [size_alloc]; exact hloc10))
            have HB10 : Hid (Below w.heap.size w w10) := ((below_on HB.out HB8.out).alloc (Nat.le_trans hsx hs8) _).grown hg10 (by simp; omega) hrw
            clear own10 hg10 hloc10 gA hrw hown own9' HR HB8 HB7
            go_wp2_with fail
            go_ret2
            rw [HVV.out]
            exact ⟨_, _, rfl, HR10.out, by rw [List.map_append, ← HT3.out]; rfl, HB10.out⟩
end Go.Proofs.Ytimkknljoeiceaa

/-! Law5T -/
namespace Go.Proofs.Ytimkknljoeiceaa
open Go.RowKit

set_option maxRecDepth 100000 in
set_option maxHeartbeats 2000000 in
theorem law_triang (A : Option Addr) (c : Nat) (L : List (Int × Int)) (M : List (List Int)) (bb : Bool) (q : Nat) (w : World) (hA : ArgA w A L) (hL : L.length ≤ maxLen)
    (SC : L.length ≤ 1048576 → ∀ A c w, PtsA w A L → Calls Try.prog 16 #[.slice A L.length c] w (TriR w (M, bb)))
    (IC : L.length ≤ 1048576 → ∀ A c w, PtsA w A L → Calls Try.prog 18 #[.slice A L.length c] w (TriR w (M, bb))) (hM : M.length ≤ 1000) (hq : ∀ m ∈ M, m.length = q) (hq1 : q ≤ 1000) :
    Calls Try.prog 3 #[.slice A L.length c] w fun e w' => e = .returned (.bool true) ∧ Below w.heap.size w w' := by
  by_cases hs : L.length ≤ 1048576
  case neg =>
    clear SC IC hA
    have HZ := Lib.hid (sz_great A L.length c w (by omega) hL)
    go_enter Try.func3, Try.ntmps3
    go_wp2_with fail
    refine HZ.out.mono ?_
    rintro e w0 ⟨rfl, rfl⟩
    go_wp2_with fail
    go_ret
    exact ⟨rfl, Below.refl _ _⟩
  have HS : Hid (∀ A c w, PtsA w A L → Calls Try.prog 16 #[.slice A L.length c] w fun e w' => ∃ v Rs, e = .returned (.tuple #[v, .bool bb]) ∧ RowsR w' w.heap.size v Rs ∧ Rs.map Rw.M = M ∧ Below w.heap.size w w') := SC hs
  have HI : Hid (∀ A c w, PtsA w A L → Calls Try.prog 18 #[.slice A L.length c] w fun e w' => ∃ v Rs, e = .returned (.tuple #[v, .bool bb]) ∧ RowsR w' w.heap.size v Rs ∧ Rs.map Rw.M = M ∧ Below w.heap.size w w') := IC hs
  clear SC IC
  have HLE : Hid (∀ Rs : List Rw, Rs.map Rw.M = M → Rs.length ≤ 1000 ∧ (∀ r ∈ Rs, r.M.length = q)) := fun Rs e => by
    refine ⟨by rw [← e] at hM; simpa using hM, fun r hr => hq _ (by rw [← e]; exact List.mem_map_of_mem hr)⟩
  have HQ1 := Lib.hid hq1
  have HA := Lib.hid hA; clear hA
  have HM := Lib.hid hs
  have HZ := Lib.hid (sz_small A L.length c w hs)
  clear hM hq hq1
  go_enter Try.func3, Try.ntmps3
  go_wp2_with fail
  refine HZ.out.mono ?_
  rintro e w0 ⟨rfl, rfl⟩
  go_wp2_with fail
  refine (toS_any A c L _ HA.out HM.out).mono ?_
  rintro e w1 ⟨v1, rfl, own1, b1⟩
  obtain ⟨_, A1, c1, rfl, p1⟩ := own_pts own1
  clear own1
  go_wp2_with fail
  refine (HS.out A1 c1 w1 p1).mono ?_
  rintro e w2 ⟨v2, R2, rfl, own2, m2, hb2⟩
  have b2 := below_on b1 hb2
  have T2 := Lib.hid own2.top
  have M2 := Lib.hid m2
  clear hb2 b1 p1 m2
  go_wp2_with fail
  refine (toS_any A c L _ (HA.out.step b2) HM.out).mono ?_
  rintro e w3 ⟨v3, rfl, own3, hb3⟩
  have b3 := below_on b2 hb3
  replace own2 := own2.below hb3
  have hsz := Lib.hid hb3.size
  have hB2 := Lib.hid b2.size
  have T3 := Lib.hid own3.lt
  clear hb3 b2
  obtain ⟨_, A3, c3, rfl, p3⟩ := own_pts own3
  go_wp2_with fail
  refine (HI.out A3 c3 w3 p3).mono ?_
  rintro e w4 ⟨v4, R4, rfl, own4, m4, hb4⟩
  have b4 := below_on b3 hb4
  have M4 := Lib.hid m4
  have T4 := Lib.hid own4.bottom
  have hB3 := Lib.hid b3.size
  replace own2 := own2.below hb4
  replace own3 := own_below own3 hb4
  clear hb4 p3 b3 m4
  obtain ⟨l4, q4⟩ := HLE.out R4 M4.out
  obtain ⟨l2, q2⟩ := HLE.out R2 M2.out
  have Q4 := Lib.hid q4
  have Q2 := Lib.hid q2
  have E42 : Hid (R4.map Rw.M = R2.map Rw.M) := M4.out.trans M2.out.symm
  have E4 : Hid (∀ r ∈ R4, r.M.length ≤ 1048576) := fun r hr => by have := q4 r hr; have := HQ1.out; omega
  clear q4 q2
  go_wp2_with fail
  refine (eq_rows _ _ v4 v2 R4 R2 w4 own4 own2 E42.out (by omega) E4.out).mono ?_
  rintro e w5 ⟨rfl, hb5⟩
  have b5 := below_on b4 hb5
  replace own2 := own2.below hb5
  replace own3 := own_below own3 hb5
  replace own4 := own4.below hb5
  clear hb5 b4
  go_wp2_with fail
  refine (toS_any A c L _ (HA.out.step b5) HM.out).mono ?_
  rintro e w6 ⟨v6, rfl, own6, hb6⟩
  have b6 := below_on b5 hb6
  replace own2 := own2.below hb6
  replace own3 := own_below own3 hb6
  replace own4 := own4.below hb6
  obtain ⟨_, A6, c6, rfl, p6⟩ := own_pts own6
  have p3 := ptsA_of own3
  clear hb6 own6 b5
  go_wp2_with fail
  refine (eq_pts A3 A6 c3 c6 L w6 p3 p6 HM.out).mono ?_
  rintro e w7 ⟨rfl, hb7⟩
  have b7 := below_on b6 hb7
  replace own2 := own2.below hb7
  replace own3 := own_below own3 hb7
  replace own4 := own4.below hb7
  clear hb7 p3 p6 b6
  go_wp2_with fail
  refine (mark_pts _ _ _ _ w7 own3 HM.out).mono ?_
  rintro e w8 ⟨rfl, own3m, hg8⟩
  have b8 := b7.grown hg8 b7.size (fun k hk => Nat.le_trans hB2.out (T3.out k hk).1)
  replace own2 := own2.kept hg8 (fun k hk => ⟨fun e => by have := T2.out.1 k e; have := (T3.out k hk).1; omega, fun r hr e => by have := T2.out.2 r hr; have := (T3.out k hk).1; omega⟩)
  replace own4 := own4.kept hg8 (fun k hk => ⟨fun e => by have := T4.out.1 k e; have := (T3.out k hk).2; omega, fun r hr e => by have := T4.out.2 r hr; have := (T3.out k hk).2; omega⟩)
  clear hg8 own3 own3m b7
  go_wp2_with fail
  refine (eq_rows _ _ v4 v2 R4 R2 w8 own4 own2 E42.out (by omega) E4.out).mono ?_
  rintro e w9 ⟨rfl, hb9⟩
  have b9 := below_on b8 hb9
  replace own2 := own2.below hb9
  replace own4 := own4.below hb9
  clear hb9 b8
  go_wp2_with fail
  refine (mark_rows _ v4 R4 q w9 own4 Q4.out HQ1.out l4).mono ?_
  rintro e w10 ⟨rfl, own4m, hg10⟩
  have b10 := hg10.below b9 b9.size (fun r hr => Nat.le_trans hB3.out (T4.out.2 r hr))
  replace own2 := own2.but hg10 ⟨fun k hk => Nat.lt_of_lt_of_le (T2.out.1 k hk) hsz.out, fun r hr => Nat.lt_of_lt_of_le (T2.out.2 r hr) hsz.out⟩ T4.out.2
  clear hg10 own4 b9
  obtain ⟨m, hm⟩ : ∃ m, Hid (m = 1 + (q : Int) * (R4.length : Int)) := ⟨_, rfl⟩
  obtain ⟨z0, z1⟩ := row_w HQ1.out (Nat.le_refl R4.length) l4
  rw [← hm.out] at z0 z1
  have z2 : ¬ m < 0 := by omega
  have HELD := Lib.hid (fun W (o : RowsR W w3.heap.size v4 (mixR q R4 R4.length)) => held_rows _ v4 R4 q W o HQ1.out l4)
  simp only [← hm.out] at HELD
  rw [← hm.out]
  go_wp2_with fail
  refine (HELD.out w10 own4m).mono ?_
  rintro e w11 ⟨rfl, rfl⟩
  go_wp2_with fail
  refine (toS_any A c L _ (HA.out.step b10) HM.out).mono ?_
  rintro e w12 ⟨v12, rfl, own12, hb12⟩
  have b12 := below_on b10 hb12
  replace own2 := own2.below hb12
  replace own4m := own4m.below hb12
  obtain ⟨_, A12, c12, rfl, p12⟩ := own_pts own12
  clear hb12 own12 b10
  go_wp2_with fail
  refine (HI.out A12 c12 w12 p12).mono ?_
  rintro e w13 ⟨v13, R13, rfl, own13, m13, hb13⟩
  have b13 := below_on b12 hb13
  replace own2 := own2.below hb13
  replace own4m := own4m.below hb13
  have E13 : Hid (R13.map Rw.M = R2.map Rw.M) := m13.trans M2.out.symm
  obtain ⟨l13, q13⟩ := HLE.out R13 m13
  have E13' : Hid (∀ r ∈ R13, r.M.length ≤ 1048576) := fun r hr => by have := q13 r hr; have := HQ1.out; omega
  clear hb13 b12 p12 m13 q13
  go_wp2_with fail
  refine (eq_rows _ _ v13 v2 R13 R2 w13 own13 own2 E13.out (by omega) E13'.out).mono ?_
  rintro e w14 ⟨rfl, hb14⟩
  have b14 := below_on b13 hb14
  replace own4m := own4m.below hb14
  clear hb14 own2 own13 b13
  go_wp2_with fail
  refine (HELD.out w14 own4m).mono ?_
  rintro e w15 ⟨rfl, rfl⟩
  go_wp2_with fail
  go_ret
  exact ⟨rfl, b14⟩
theorem goT_facts (L : List Pt) : ∀ (k : Nat) (R : List Nat) (T : List (List Int)), R.length = k + 3 → (∀ m ∈ T, m.length = 3) → (goT L k R T).1.length ≤ T.length + k + 1 ∧ ∀ m ∈ (goT L k R T).1, m.length = 3
  | 0, R, T, hR, hT => by
    refine ⟨by simp [goT], fun m hm => ?_⟩
    rcases List.mem_append.1 (show m ∈ T ++ [toI R] from hm) with q | q
    · exact hT m q
    · rw [List.mem_singleton.1 q, toI_len]; omega
  | k + 1, R, T, hR, hT => by
    rw [goT]
    rcases frE_spec (earAt L R) R.length with ⟨hf, -⟩ | ⟨v, hv, -, hf, -⟩
    · rw [if_pos (by omega)]
      exact ⟨Nat.zero_le _, fun m hm => by cases hm⟩
    · rw [if_neg (by omega), hf, Int.toNat_natCast]
      have h := goT_facts L k (R.eraseIdx v) (T ++ [rowE R v]) (by rw [List.length_eraseIdx_of_lt hv]; omega) (fun m hm => by
        rcases List.mem_append.1 hm with q | q
        · exact hT m q
        · rw [List.mem_singleton.1 q]; rfl)
      refine ⟨Nat.le_trans h.1 ?_, h.2⟩
      rw [List.length_append, List.length_singleton]; omega
theorem triV_facts (L : List Pt) : (triV L).1.length ≤ 1000 ∧ ∀ m ∈ (triV L).1, m.length = 3 := by
  unfold triV
  cases hp : polyB L
  · exact ⟨Nat.zero_le _, fun m hm => by cases hm⟩
  · obtain ⟨h3, h10, -⟩ := polyB_all hp
    have h := goT_facts L (L.length - 3) (List.range L.length) [] (by rw [List.length_range]; omega) (fun m hm => by cases hm)
    refine ⟨Nat.le_trans h.1 ?_, h.2⟩
    simp only [List.length_nil]; omega
theorem ex_triang (A : Option Addr) (c : Nat) (L : List (Int × Int)) (w : World) (hA : ArgA w A L) (hL : L.length ≤ maxLen) :
    Calls Try.prog 3 #[.slice A L.length c] w fun e w' => e = .returned (.bool true) ∧ Below w.heap.size w w' :=
  law_triang A c L (triV L).1 (triV L).2 3 w hA hL (fun h A c w hp => spec_triang A c L w hp h) (fun h A c w hp => impl_tri A c L w hp h) (triV_facts L).1 (triV_facts L).2 (by omega)
end Go.Proofs.Ytimkknljoeiceaa
