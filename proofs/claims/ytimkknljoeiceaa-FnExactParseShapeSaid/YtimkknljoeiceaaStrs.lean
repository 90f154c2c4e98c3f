/-
  Walks for the laws' helpers on lists of strings: eqStringS, markText, markStringS, heldStringS.
-/
import Derived.Test.YtimkknljoeiceaaProg
import Derived.WalkKit
import Derived.WalkSpells
import Derived.WalkLawsBesides
import Derived.Lib.Hide
import Derived.BigQuiet
import Derived.Deep.QuietTactic
import Derived.Deep.RegionHeld3
namespace Go.Proofs.Ytimkknljoeiceaa
open Go.RowKit

/-- The cells of a slice of strings. -/
def Strs (w : World) (A : Option Addr) (L : List ByteArray) : Prop := ∀ k (h : k < L.length), ∃ g, A = some ⟨g, 0, none⟩ ∧ w.cell? ⟨g, k, none⟩ = some (.string L[k])

theorem own_strs {w : World} {B : Nat} {e : TypeId} {v : Value} {n : Nat} {L : List ByteArray} (h : w.ownsRow B e 1 v n (L.map Value.string)) :
    n = L.length ∧ ∃ A c, v = .slice A L.length c ∧ Strs w A L := by
  have hl : L.length = n := by have := h.1; simpa using this
  refine ⟨hl.symm, ?_⟩
  subst hl
  rcases h.2 with ⟨rfl, h0⟩ | ⟨g, cap, cur, rfl, hg, hh, _⟩
  · exact ⟨none, 0, by rw [h0], fun k hk => by omega⟩
  · exact ⟨some ⟨g, 0, none⟩, cap, rfl, fun k hk => ⟨g, rfl, by
      rw [h.cellAt k (by omega)]
      simp [hk]⟩⟩

def digF : Nat → Nat → List UInt8
  | 0, _ => []
  | f + 1, n => if n = 0 then [] else digF f (n / 10) ++ [UInt8.ofNat (48 + n % 10)]
theorem digF_ext (f : Nat) : ∀ f' n, n ≤ f → n ≤ f' → digF f n = digF f' n := by
  induction f with
  | zero =>
    intro f' n h _
    obtain rfl : n = 0 := by omega
    cases f' <;> simp [digF]
  | succ f ih =>
    intro f' n h h'
    cases f' with
    | zero =>
      obtain rfl : n = 0 := by omega
      simp [digF]
    | succ f' =>
      simp only [digF]
      split
      · rfl
      · rw [ih f' (n / 10) (by omega) (by omega)]
/-- The decimal digits of n; none for 0. -/
def dig (n : Nat) : List UInt8 := digF n n
theorem dig_step {n : Nat} (h : 0 < n) : dig n = dig (n / 10) ++ [UInt8.ofNat (48 + n % 10)] := by
  obtain ⟨m, rfl⟩ : ∃ m, n = m + 1 := ⟨n - 1, by omega⟩
  show digF (m + 1) (m + 1) = digF _ _ ++ _
  rw [digF, if_neg (by omega), digF_ext m ((m + 1) / 10) _ (by omega) (Nat.le_refl _)]
theorem dig_len (f : Nat) : ∀ n, (digF f n).length ≤ f := by
  induction f with
  | zero => intro n; simp [digF]
  | succ f ih =>
    intro n
    simp only [digF]
    split
    · simp
    · have := ih (n / 10)
      simp; omega

theorem ret_txt {a b : ByteArray} (h : a = b) : Ending.returned (.string a) = .returned (.string b) := by rw [h]
theorem conv_byte {P : Program} (w : World) (tb ts te : TypeId) (hs : P.underlying tb = some (.slice te)) (he : P.underlying te = some (.int .u8)) (hd : P.underlying ts = some .string) (x : Int) (u : UInt8) (hu : (u.toNat : Int) = x) :
    (convert tb ts (.slice (some ⟨w.heap.size, 0, none⟩) 1 1)).run P (w.alloc (.cells #[.int .u8 x] te)) = .ok (.string ⟨#[u]⟩) (w.alloc (.cells #[.int .u8 x] te)) := by
  have := run_convert_bytes_back (P := P) (w.alloc (.cells #[.int .u8 x] te)) tb ts te ⟨w.heap.size, 0, none⟩ 1 [u] hs he hd (fun j hj => by
    obtain rfl : j = 0 := by simpa using hj
    subst hu
    simp [Addr.add, World.cell?_alloc_mark])
  simpa using this
theorem byte_of {k : Nat} : ((UInt8.ofNat (48 + k % 10)).toNat : Int) = 48 + (k : Int) % 10 := by
  have h : 48 + k % 10 < 256 := by omega
  have : (UInt8.ofNat (48 + k % 10)).toNat = 48 + k % 10 := by
    simp [UInt8.toNat_ofNat, Nat.mod_eq_of_lt h]
  omega
theorem run_cons {P : Program} (u : UInt8) (l : List UInt8) (hl : l.length ≤ 1073741824) (w : World) : (Op.stringOp .add ⟨#[u]⟩ ⟨l.toArray⟩).run P w = .ok (.string ⟨(u :: l).toArray⟩) w := by
  have e : (ByteArray.mk l.toArray).size = l.length := by show l.toArray.size = _; simp
  rw [run_string_add_sum w _ _ (by rw [e]; show 1 + _ ≤ _; omega)]
  have := ByteArray.mk_append_mk [u] l
  simpa using this

/-- The mark of k. -/
def mkT (k : Nat) : ByteArray := ⟨(109 :: dig k).toArray⟩
theorem own_below {w w' : World} {B : Nat} {e : TypeId} {size : Nat} {v : Value} {n : Nat} {xs : List Value} (h : w.ownsRow B e size v n xs) (hb : Below w.heap.size w w') : w'.ownsRow B e size v n xs := by
  refine ⟨h.1, ?_⟩
  rcases h.2 with h2 | ⟨g, cap, cur, hv, hg, hh, r⟩
  · exact Or.inl h2
  · exact Or.inr ⟨g, cap, cur, hv, hg, by rw [hb.block g (Array.getElem?_eq_some_iff.1 hh).1]; exact hh, r⟩
theorem only_below {w w1 w2 : World} {row : Option Nat} (h : w.grownBy w1 row) (hb : Below w1.heap.size w1 w2) : w.grownBy w2 row :=
  ⟨hb.os.trans h.os, hb.tape.trans h.tape, hb.output.trans h.output, Nat.le_trans h.size hb.size, fun k hk hr => (hb.block k (by have := h.size; omega)).trans (h.block k hk hr)⟩
theorem only_set {w w1 : World} {g : Nat} (h : w.grownBy w1 (some g)) (j : Nat) (u : Value) : w.grownBy (w1.setCell ⟨g, j, none⟩ u) (some g) :=
  ⟨h.os, h.tape, h.output, by simpa [World.setCell] using h.size, fun k hk hr => (Below.heap_setCell w1 ⟨g, j, none⟩ u k (by
    intro e; exact hr (by rw [e]))).trans (h.block k hk hr)⟩

/-- What the marks of a list of n strings are, from the mark 1 on. -/
def marks (n : Nat) : List ByteArray := (List.range n).map (fun i => mkT (i + 1))
theorem marks_len (n : Nat) : (marks n).length = n := by simp [marks]
theorem marks_step {n k : Nat} {xs : List Value} (hl : xs.length = n) (hk : k < n) :
    ((marks k).map Value.string ++ xs.drop k).set k (.string (mkT (k + 1))) = (marks (k + 1)).map Value.string ++ xs.drop (k + 1) := by
  have h1 : ((marks k).map Value.string).length = k := by simp [marks_len]
  rw [List.set_append_right _ _ (by rw [h1]; exact Nat.le_refl _), h1, Nat.sub_self]
  have h2 : xs.drop k = xs[k]'(by omega) :: xs.drop (k + 1) := List.drop_eq_getElem_cons (by omega)
  rw [h2, List.set_cons_zero]
  simp [marks, List.range_succ]

end Go.Proofs.Ytimkknljoeiceaa
