/- Plain facts: the sum of several texts, part by part. -/
import Derived.Test.YteonanmgghlefaaSumRow
namespace Go.Proofs.Yteonanmgghlefaa.Sm
/-- All parts, one behind the other. -/
def cat (ss : List ByteArray) : List UInt8 := (ss.map fun s => s.data.toList).flatten
theorem cat_take (ss : List ByteArray) (k : Nat) (h : k < ss.length) : cat (ss.take (k + 1)) = cat (ss.take k) ++ ss[k].data.toList := by
  unfold cat
  rw [List.take_succ_eq_append_getElem h, List.map_append, List.flatten_append]
  simp only [List.map_cons, List.map_nil, List.flatten_cons, List.flatten_nil, List.append_nil]
theorem cat_all (ss : List ByteArray) : cat (ss.take ss.length) = cat ss := by rw [List.take_length]
theorem cat_one (s : ByteArray) : cat [s] = s.data.toList := by simp [cat]
theorem reg_snoc (l : List UInt8) (b : UInt8) : reg (l ++ [b]) = byte (reg l) b := by unfold reg; rw [List.foldl_append, List.foldl_cons, List.foldl_nil]
theorem take_snoc (s : ByteArray) (k : Nat) (h : k < s.size) : s.data.toList.take (k + 1) = s.data.toList.take k ++ [s[k]] := by
  rw [List.take_succ_eq_append_getElem (by simpa using h)]; rfl
end Go.Proofs.Yteonanmgghlefaa.Sm
