/- What the laws' walks share. -/
import Derived.Test.YtccpbgkaeldlaaaNyAlive
import Derived.Test.YtccpbgkaeldlaaaNyEql
namespace Go.Proofs.Ytccpbgkaeldlaaa
open Go.RowKit _root_.Go.Proofs.Ytccpbgkaeldlaaa.Nm Ny
set_option linter.unusedVariables false
set_option linter.unusedSimpArgs false
/-- A key's bytes as a text, empty if there may be no such key; and the error. -/
def encB (k : Key) : ByteArray := if mayK k = true then ⟨(encL k).toArray⟩ else ⟨#[]⟩
def encE (k : Key) : Int := if mayK k = true then 0 else 2
theorem encV_eq (k : Key) : encV k = .tuple #[.string (encB k), .int .i64 (encE k)] := by
  unfold encV encB encE
  split <;> rfl
theorem encL_len (k : Key) (hb : k.bk.size ≤ 2048) (hn : k.nm.size ≤ 2048) : (encL k).length ≤ 10000 := by
  have h1 : (bP k).length ≤ 2049 := by
    unfold bP
    split
    · rw [List.length_append, list_size]; simp; omega
    · simp
  have h2 : (mP k).length ≤ 4098 := by
    unfold mP
    split
    · have := nmL_length k.nm.data.toList
      rw [list_size] at this
      rw [List.length_append]; simp; omega
    · simp
  have h3 : (nP k).length ≤ 8 := by unfold nP; split <;> simp [be_length]
  have h4 : (pP k).length ≤ 2 := by unfold pP; split <;> simp [be_length]
  unfold encL
  rw [List.length_cons, List.length_append, List.length_append, List.length_append]
  omega
theorem encB_len (k : Key) (hb : k.bk.size ≤ 2048) (hn : k.nm.size ≤ 2048) : (encB k).size ≤ 10000 := by
  unfold encB
  split
  · show (encL k).toArray.size ≤ _
    rw [List.size_toArray]
    exact encL_len k hb hn
  · exact Nat.zero_le _
theorem encB_list {k : Key} (h : mayK k = true) : (encB k).data.toList = encL k := by unfold encB; rw [if_pos h]
theorem encE_ok {k : Key} (h : mayK k = true) : encE k = 0 := by unfold encE; rw [if_pos h]
theorem encE_no {k : Key} (h : ¬ mayK k = true) : encE k = 2 := by unfold encE; rw [if_neg h]
theorem long_4 (a b c d : ByteArray) (T : TypeId) (w : World) (h1 : a.size ≤ maxLen) (h2 : b.size ≤ maxLen) (h3 : c.size ≤ maxLen) (h4 : d.size ≤ maxLen) :
    Calls Try.prog 7 #[.slice (some ⟨w.heap.size, 0, none⟩) 4 4] (w.alloc (.cells #[.string a, .string b, .string c, .string d] T)) fun e w' => e = .returned (.bool (longB [a, b, c, d] 0)) ∧ w' = w.alloc (.cells #[.string a, .string b, .string c, .string d] T) := by
  refine long_any [a, b, c, d] 4 _ _ (by simp) (fun s hs => by simp at hs; rcases hs with rfl | rfl | rfl | rfl <;> assumption) fun i hi => ?_
  match i, hi with
  | 0, _ => rw [World.cell?_alloc_mark]; rfl
  | 1, _ => rw [World.cell?_alloc_mark]; rfl
  | 2, _ => rw [World.cell?_alloc_mark]; rfl
  | 3, _ => rw [World.cell?_alloc_mark]; rfl
theorem long_2 (a b : ByteArray) (T : TypeId) (w : World) (h1 : a.size ≤ maxLen) (h2 : b.size ≤ maxLen) :
    Calls Try.prog 7 #[.slice (some ⟨w.heap.size, 0, none⟩) 2 2] (w.alloc (.cells #[.string a, .string b] T)) fun e w' => e = .returned (.bool (longB [a, b] 0)) ∧ w' = w.alloc (.cells #[.string a, .string b] T) := by
  refine long_any [a, b] 2 _ _ (by simp) (fun s hs => by simp at hs; rcases hs with rfl | rfl <;> assumption) fun i hi => ?_
  match i, hi with
  | 0, _ => rw [World.cell?_alloc_mark]; rfl
  | 1, _ => rw [World.cell?_alloc_mark]; rfl
theorem long_1 (a : ByteArray) (T : TypeId) (w : World) (h1 : a.size ≤ maxLen) :
    Calls Try.prog 7 #[.slice (some ⟨w.heap.size, 0, none⟩) 1 1] (w.alloc (.cells #[.string a] T)) fun e w' => e = .returned (.bool (longB [a] 0)) ∧ w' = w.alloc (.cells #[.string a] T) := by
  refine long_any [a] 1 _ _ (by simp) (fun s hs => by simp at hs; rcases hs with rfl; assumption) fun i hi => ?_
  match i, hi with
  | 0, _ => rw [World.cell?_alloc_mark]; rfl
/-- Keys that are not the same: their bytes part before either ends. -/
theorem tri_apart {a b : Key} (wa : a.Wf) (wb : b.Wf) (ha : mayK a = true) (hb : mayK b = true) (hn : a ≠ b) : ∃ (i : Nat) (u v : UInt8), (encL a)[i]? = some u ∧ (encL b)[i]? = some v ∧ u ≠ v := by
  rcases key_tri wa wb ha hb with ⟨h1, _⟩ | ⟨_, h1, _⟩ | ⟨_, h1, _⟩
  · exact absurd h1 hn
  · exact h1.apart
  · exact h1.apart.symm
theorem apart_min {x y : List UInt8} (h : ∃ (i : Nat) (u v : UInt8), x[i]? = some u ∧ y[i]? = some v ∧ u ≠ v) (n : Nat) (hn : n = x.length ∨ n = y.length) : x.take n ≠ y.take n := by
  obtain ⟨i, u, v, h1, h2, h3⟩ := h
  obtain ⟨l1, _⟩ := List.getElem?_eq_some_iff.1 h1
  obtain ⟨l2, _⟩ := List.getElem?_eq_some_iff.1 h2
  intro e
  have e := congrArg (fun l : List UInt8 => l[i]?) e
  have hi : i < n := by rcases hn with rfl | rfl <;> assumption
  simp only [List.getElem?_take_of_lt hi] at e
  rw [h1, h2] at e
  exact h3 (Option.some.inj e)
end Go.Proofs.Ytccpbgkaeldlaaa
