/- What the document's own answers on texts come to. -/
import Derived.Test.YtlmoeaphikdjnaaFieldSum
import Derived.Test.YtlmoeaphikdjnaaFieldRef
import Derived.StillTailTactics
import Derived.OwnWalk
namespace Go.Proofs.Ytlmoeaphikdjnaa
open Go.RowKit Gf
set_option linter.unusedVariables false
/-- The bytes that '[]byte(s)' makes. -/
theorem Byt.conv (w : World) (s : ByteArray) (cap : Nat) (t : TypeId) : Byt w.heap.size s.size (bt s) (w.drew.alloc (.cells (bytesRow s cap) t ((bytesRow s cap).size, (bytesRow s cap).size + 1))) := by
  have hz : s.size ≤ (bytesRow s cap).size := by unfold bytesRow; rw [Array.size_append, Array.size_map]; exact Nat.le_add_right _ _
  refine ⟨fun j hj => ?_, fun j hj => ?_⟩
  · show (w.alloc (Obj.cells (bytesRow s cap) _ _)).cell? _ = _
    rw [World.cell?_alloc_mark, bytesRow_at s cap j (by simpa using hj)]
    unfold bt
    rw [getElem!_pos s.data.toList j (by simpa using hj)]
    simp
  · show (w.alloc (Obj.cells (bytesRow s cap) _ _)).frozen? _ = _
    rw [World.frozen?_alloc_mark]
    simp
    omega
/-- The first k bytes multiplied. -/
def muls (c : Nat) (s : ByteArray) (k j : Nat) : UInt8 := if j < k then mb c (bt s j) else bt s j
theorem muls_next (c : Nat) (s : ByteArray) (k j : Nat) : muls c s (k + 1) j = upd (muls c s k) k (mb c (bt s k)) j := by
  unfold upd
  by_cases e : j = k
  · subst e; unfold muls; rw [if_pos (by omega), if_pos rfl]
  · rw [if_neg e]
    unfold muls
    by_cases h : j < k
    · rw [if_pos (by omega), if_pos h]
    · rw [if_neg (by omega), if_neg h]
/-- The sum of the first k texts. -/
def xr (ss : List ByteArray) : Nat → Nat → UInt8
  | 0, _ => 0
  | k + 1, j => xr ss k j ^^^ bt (nth ss k) j
def plS (ss : List ByteArray) : ByteArray := if evenB ss = true then strOf (nth ss 0).size (xr ss ss.length) else ⟨#[]⟩
def plE (ss : List ByteArray) : Int := if evenB ss = true then 0 else 2
/-- The sum of the first k texts, of the next one the first q bytes. -/
def xq (ss : List ByteArray) (k q j : Nat) : UInt8 := if j < q then xr ss (k + 1) j else xr ss k j
theorem xq_next (ss : List ByteArray) (k q j : Nat) : xq ss k (q + 1) j = upd (xq ss k q) q (xr ss k q ^^^ bt (nth ss k) q) j := by
  unfold upd
  by_cases e : j = q
  · subst e; unfold xq; rw [if_pos (by omega), if_pos rfl]; rfl
  · rw [if_neg e]
    unfold xq
    by_cases h : j < q
    · rw [if_pos (by omega), if_pos h]
    · rw [if_neg (by omega), if_neg h]
end Go.Proofs.Ytlmoeaphikdjnaa
