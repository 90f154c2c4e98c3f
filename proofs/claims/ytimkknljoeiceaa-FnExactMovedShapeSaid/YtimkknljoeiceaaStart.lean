/-
  StartAt of both programs: l03Start, slices.Grow, slices.Concat.
-/
import Derived.Test.YtimkknljoeiceaaClone
import Derived.Deep.RegionLaw
import Derived.Lib.AppendZerosOnto
import Derived.Lib.SliceRun
namespace Go.Proofs.Ytimkknljoeiceaa
open Go.RowKit

def rotL (L : List (Int × Int)) (k : Nat) : List (Int × Int) := L.drop k ++ L.take k
theorem rotL_len (L : List (Int × Int)) (k : Nat) : (rotL L k).length = L.length := by simp [rotL]; omega

theorem step_append_any {P : Program} {ops : Array Oper} {o : Oper} {a : Act} {w : World} {K : Act → World → Prop} {Q : Exit → Act → World → Prop} {E : Prop} (hgd : o.guard = none) (s x : Operand) (t : TypeId)
    (ho : o.op = .call { callee := .builtin .append, args := #[s, x], argTypes := #[t, t] })
    (base : Nat) (e : TypeId) (i : TypeInfo) (z : Value) (size bytes : Nat) (ht : P.underlying t = some (.slice e)) (hi : P.info? e = some i) (hz : i.zero = some z)
    (hsize : i.size = size) (hby : i.bytes = bytes) (hzs : z.cells.size = size) (hsz : 0 < size)
    (v : Value) (n : Nat) (xs : List Value) (hs : a.eval s = v) (hown : w.ownsRow base e size v n xs)
    (ad : Addr) (m c : Nat) (news : List Value) (hx : a.eval x = .slice (some ad) m c) (hl : news.length = m * size) (hnews : ∀ j u, news[j]? = some u → w.cell? (ad.add j) = some u) (h1 : ∀ u ∈ news, u.oneCell' = true)
    (h63 : n + m ≤ maxLen) (hbytes : (n + m) * bytes ≤ 140737488355328) (hbase : base ≤ w.heap.size)
    (h : ∀ v' w', w'.ownsRow base e size v' (n + m) (xs ++ news) → w.grownBy w' v.ownBlock → K (a.put o.dst v') w') :
    if Region.wanted o (yielded ops a.tmps) = true then Oper.wp P o a w K Q else E := by
  have hw : Region.wanted o (yielded ops a.tmps) = true := by simp [Region.wanted, hgd]
  rw [if_pos hw]
  obtain ⟨v', w', hrun, r1, r2, _⟩ := run_append_own (P := P) w base t o.type e i z size bytes ht hi hz hsize hby hzs hsz v n xs hown ad m c news hl hnews h1 h63 hbytes hbase
  unfold Oper.wp
  simp [execOp, ho, resolve, invoke, builtin, hs, hx, hrun, Result.andThen]
  exact h v' w' r1 r2

theorem ptsA_take {w : World} {g : Nat} {L : List (Int × Int)} (h : PtsA w (some ⟨g, 0, none⟩) L) (k : Nat) : ∀ j u, (flat (L.take k))[j]? = some u → w.cell? (Addr.add ⟨g, 0, none⟩ j) = some u := by
  intro j u hu
  have h0 := ptsA_news h 0 j u
  rw [List.drop_zero, Nat.zero_mul] at h0
  refine h0 ?_
  have e : flat L = flat (L.take k) ++ flat (L.drop k) := by rw [← flat_append, List.take_append_drop]
  have hj : j < (flat (L.take k)).length := by
    rcases Nat.lt_or_ge j (flat (L.take k)).length with h1 | h1
    · exact h1
    · rw [List.getElem?_eq_none h1] at hu; cases hu
  rw [e, List.getElem?_append_left hj]
  exact hu


def catN (L : List (Int × Int)) (k : Nat) : Nat → Nat
  | 0 => 0
  | 1 => L.length - k
  | _ => L.length
def catL (L : List (Int × Int)) (k : Nat) : Nat → List (Int × Int)
  | 0 => []
  | 1 => L.drop k
  | _ => rotL L k
def startV (L : List (Int × Int)) (k : Int) : List (Int × Int) := bif polyB L && inB k 0 ((L.length : Int) - 1) then rotL L k.toNat else []
theorem startV_len (L : List (Int × Int)) (k : Int) : (startV L k).length ≤ 1048576 := by
  unfold startV
  cases h : polyB L
  · simp
  · have := polyB_all h
    cases inB k 0 ((L.length : Int) - 1)
    · simp
    · simp only [Bool.and_self, cond_true, rotL_len]; omega

end Go.Proofs.Ytimkknljoeiceaa
