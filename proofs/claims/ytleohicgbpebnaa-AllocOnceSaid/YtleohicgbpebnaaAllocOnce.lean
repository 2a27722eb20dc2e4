/- The program's map beside a map of numbers that tells what each row is. -/
import Derived.Test.YtleohicgbpebnaaAllocPlay
import Derived.Test.YtleohicgbpebnaaMapN
namespace Go.Proofs.Ytleohicgbpebnaa
open Go.RowKit
set_option linter.unusedVariables false
theorem count_sum (f : Nat → Nat) : ∀ n, (∀ j, j < n → 1 ≤ f j ∧ f j ≤ 3) → (rowsL n f 1).length + (rowsL n f 2).length + (rowsL n f 3).length = n
  | 0, _ => rfl
  | n + 1, h => by
    have ih := count_sum f n (fun j hj => h j (by omega))
    have hn := h n (by omega)
    have hcase : f n = 1 ∨ f n = 2 ∨ f n = 3 := by omega
    rcases hcase with h1 | h1 | h1
    · rw [rowsL_yes n f 1 h1, rowsL_no n f 2 (by omega), rowsL_no n f 3 (by omega), List.length_append, List.length_singleton]; omega
    · rw [rowsL_no n f 1 (by omega), rowsL_yes n f 2 h1, rowsL_no n f 3 (by omega), List.length_append, List.length_singleton]; omega
    · rw [rowsL_no n f 1 (by omega), rowsL_no n f 2 (by omega), rowsL_yes n f 3 h1, List.length_append, List.length_singleton]; omega
theorem rowsL_nodup (f : Nat → Nat) (x : Nat) : ∀ n, (rowsL n f x).Pairwise (· ≠ ·)
  | 0 => List.Pairwise.nil
  | n + 1 => by
    by_cases h : f n = x
    · rw [rowsL_yes n f x h, List.pairwise_append]
      refine ⟨rowsL_nodup f x n, List.pairwise_singleton _ _, fun a ha b hb => ?_⟩
      rw [List.mem_singleton] at hb
      obtain ⟨j, h1, h2, _⟩ := rowsL_mem.1 ha
      subst hb h1
      omega
    · rw [rowsL_no n f x h]
      exact rowsL_nodup f x n
theorem mem_take_at {ls : List Int} {i : Nat} {v : Int} (hi : i ≤ ls.length) (h : v ∈ ls.take i) : ∃ k, k < i ∧ nthI ls k = v := by
  rw [List.mem_take_iff_getElem] at h
  obtain ⟨k, hk, rfl⟩ := h
  exact ⟨k, by omega, (nthI_get ls k (by omega)).symm⟩
/-- The rows that are taken were free, one by one. -/
theorem taken_free (n : Nat) (f : Nat → Nat) (m : Int) : ∀ k, k < (takeL n f m).length → ∃ r : Nat, nthI (takeL n f m) k = r ∧ r < n ∧ letF f 2 ((takeL n f m).take k) r = 1 := fun k hk => by
  have hmem : ∀ q, q ∈ takeL n f m → ∃ r : Nat, q = r ∧ r < n ∧ f r = 1 := fun q hq => by
    unfold takeL at hq
    split at hq
    · exact rowsL_mem.1 (List.mem_of_mem_take hq)
    · cases hq
  have hnd : (takeL n f m).Pairwise (· ≠ ·) := by
    unfold takeL
    split
    · exact (rowsL_nodup f 1 n).sublist (List.take_sublist _ _)
    · exact List.Pairwise.nil
  obtain ⟨r, h1, h2, h3⟩ := hmem _ (List.getElem_mem hk)
  rw [nthI_get _ k hk] at h1
  refine ⟨r, h1, h2, ?_⟩
  unfold letF
  rw [if_neg]
  · exact h3
  · intro hm
    obtain ⟨j, hj, he⟩ := mem_take_at (by omega) hm
    have := List.pairwise_iff_getElem.1 hnd j k (by omega) hk hj
    rw [nthI_get _ j (by omega), nthI_get _ k hk, he, h1] at this
    exact this rfl
theorem took_many (n : Nat) (f : Nat → Nat) (m : Int) : (takeE n f m = 0 → ((takeL n f m).length : Int) = m) ∧ (takeE n f m ≠ 0 → (takeL n f m).length = 0) := by
  refine ⟨fun h => ?_, fun h => ?_⟩
  · have h0 : ¬ m < 0 := fun h0 => by unfold takeE at h; rw [if_pos h0] at h; cases h
    have h1 : ¬ ((rowsL n f 1).length : Int) < m := fun h1 => by unfold takeE at h; rw [if_neg h0, if_pos h1] at h; cases h
    unfold takeL
    rw [if_pos h, List.length_take]
    omega
  · unfold takeL
    rw [if_neg h]
    rfl
/-- The rows that are turned were x, one by one. -/
theorem turned_was {n : Nat} {f : Nat → Nat} {x y : Nat} {ls : List Int} (h : turnE n f x ls = 0) : ∀ k, k < ls.length → ∃ r : Nat, nthI ls k = r ∧ r < n ∧ letF f y (ls.take k) r = x := fun k hk => by
  have ho : outB n ls = false := by
    cases ho : outB n ls
    · rfl
    · rw [turnE_out ho] at h; cases h
  have hb : ¬ Bad f x ls := fun hb => by rw [turnE_bad ho hb] at h; cases h
  obtain ⟨r, h1, h2⟩ := outB_no ho k hk
  refine ⟨r, h1, h2, ?_⟩
  unfold letF
  rw [if_neg (fun hm => hb ⟨k, hk, .inr (by rw [h1]; exact hm)⟩)]
  exact Classical.byContradiction fun hne => hb ⟨k, hk, .inl (by rw [h1]; exact hne)⟩
/-- The program's map in g tells fm, the map of numbers in b tells fr; neither lies in one of the blocks of S. -/
structure Once (S : Nat → Prop) (g b n m : Nat) (fm fr : Nat → Nat) (w wr : World) : Prop where
  mp : ∃ c cap, MapAt g c n cap fm wr ∧ w.heap.size ≤ c ∧ c ≠ b ∧ ∀ x, S x → c ≠ x
  d : ∃ F, MapN b m F wr ∧ ∀ j : Nat, j < n → F (j : Int) = fr j
  kept : Kept w wr
  gw : w.heap.size ≤ g
  bw : w.heap.size ≤ b
  gb : g ≠ b
  s : ∀ x, S x → x ≠ g ∧ x ≠ b ∧ x < wr.heap.size
def Same (S : Nat → Prop) (w w' : World) : Prop := ∀ b, S b → w'.heap[b]? = w.heap[b]?
theorem Same.cell {S : Nat → Prop} {w w' : World} (h : Same S w w') {b o : Nat} {v : Value} (hb : S b) (hc : w.cell? ⟨b, o, none⟩ = some v) : w'.cell? ⟨b, o, none⟩ = some v := by
  rw [World.cell?_of_block (w := w) (a := ⟨b, o, none⟩) (h b hb)]; exact hc
section
variable {S : Nat → Prop} {g b n m : Nat} {fm fr : Nat → Nat} {w wr w' : World}
theorem Once.keep (h : Once S g b n m fm fr w wr) (k : Kept wr w') : Once S g b n m fm fr w w' ∧ Same S wr w' := by
  obtain ⟨⟨c, cap, hM, h1, h2, h3⟩, ⟨F, hF, hf⟩, hk, gw, bw, gb, hs⟩ := h
  exact ⟨⟨⟨c, cap, hM.kept k, h1, h2, h3⟩, ⟨F, hF.kept k, hf⟩, hk.trans k, gw, bw, gb, fun x hx => ⟨(hs x hx).1, (hs x hx).2.1, Nat.lt_of_lt_of_le (hs x hx).2.2 k.size⟩⟩, fun x hx => k.block x (hs x hx).2.2⟩
theorem Once.left {f' : Nat → Nat} (h : Once S g b n m fm fr w wr) (hL : ∀ c cap, MapAt g c n cap fm wr → Left g c n f' wr w') : Once S g b n m f' fr w w' ∧ Same S wr w' := by
  obtain ⟨⟨c, cap, hM, h1, h2, h3⟩, ⟨F, hF, hf⟩, hk, gw, bw, gb, hs⟩ := h
  obtain ⟨c', cap', hc', hM', hU⟩ := hL c cap hM
  have hks := hk.size
  refine ⟨⟨⟨c', cap', hM', ?_, ?_, fun x hx => ?_⟩, ⟨F, hF.block (hU.block b hF.lt (fun e => gb e.symm) (fun e => h2 e.symm)), hf⟩, Upd.kept hk gw h1 hU, gw, bw, gb, fun x hx => ⟨(hs x hx).1, (hs x hx).2.1, Nat.lt_of_lt_of_le (hs x hx).2.2 hU.size⟩⟩, fun x hx => hU.block x (hs x hx).2.2 (hs x hx).1 (fun e => h3 x hx e.symm)⟩
  · rcases hc' with rfl | hc'
    · exact h1
    · omega
  · rcases hc' with rfl | hc'
    · exact h2
    · have := hF.lt; omega
  · rcases hc' with rfl | hc'
    · exact h3 x hx
    · have := (hs x hx).2.2; omega
/-- A number is stored under a row. -/
theorem Once.put {r y : Nat} {F : Int → Nat} (h : Once S g b n m fm fr w wr) (hF' : MapN b (m + 1) (putN F (r : Int) y) w') (hf : ∀ j : Nat, j < n → F (j : Int) = fr j) (k : wr.grownBy w' (some b)) : Once S g b n (m + 1) fm (fun j => if j = r then y else fr j) w w' ∧ Same S wr w' := by
  obtain ⟨⟨c, cap, hM, h1, h2, h3⟩, _, hk, gw, bw, gb, hs⟩ := h
  have e : ∀ x, x < wr.heap.size → x ≠ b → w'.heap[x]? = wr.heap[x]? := fun x hx hb => k.block x hx (fun e => hb (by injection e))
  refine ⟨⟨⟨c, cap, hM.frame (e g hM.glt gb) (e c hM.lt h2) k.size, h1, h2, h3⟩, ⟨_, hF', fun j hj => ?_⟩, ?_, gw, bw, gb, fun x hx => ⟨(hs x hx).1, (hs x hx).2.1, Nat.lt_of_lt_of_le (hs x hx).2.2 k.size⟩⟩, fun x hx => e x (hs x hx).2.2 (hs x hx).2.1⟩
  · unfold putN
    by_cases e2 : j = r
    · subst e2; simp
    · rw [if_neg (by omega), if_neg e2]; exact hf j hj
  · exact Below.grown hk k hk.size (fun q hq => by injection hq with hq; omega)
theorem Once.congr {fr' : Nat → Nat} (h : Once S g b n m fm fr w wr) (e : ∀ j, j < n → fr' j = fr j) : Once S g b n m fm fr' w wr := by
  obtain ⟨F, hF, hf⟩ := h.d
  exact { h with d := ⟨F, hF, fun j hj => by rw [e j hj]; exact hf j hj⟩ }
theorem Once.mono {m' : Nat} (h : Once S g b n m fm fr w wr) (hm : m ≤ m') : Once S g b n m' fm fr w wr := by
  obtain ⟨F, hF, hf⟩ := h.d
  exact { h with d := ⟨F, hF.mono hm, hf⟩ }
theorem Once.forget (h : Once S g b n m fm fr w wr) : Once (fun _ => False) g b n m fm fr w wr := by
  obtain ⟨c, cap, hM, h1, h2, h3⟩ := h.mp
  exact { h with mp := ⟨c, cap, hM, h1, h2, fun _ h => h.elim⟩, s := fun _ h => h.elim }
/-- A block more that lies apart, made just now. -/
theorem Once.more (h : Once (fun _ => False) g b n m fm fr w wr) (o : Obj) : Once (fun x => x = wr.heap.size) g b n m fm fr w (wr.alloc o) := by
  have hk := (h.keep ((Kept.refl wr).alloc o)).1
  obtain ⟨c, cap, hM, h1, h2, h3⟩ := h.mp
  obtain ⟨F, hF, hf⟩ := h.d
  refine { hk with mp := ⟨c, cap, hM.kept ((Kept.refl wr).alloc o), h1, h2, fun x hx => by subst hx; exact Nat.ne_of_lt hM.lt⟩, s := fun x hx => ?_ }
  subst hx
  have e1 := hM.glt
  have e2 := hF.lt
  exact ⟨by omega, by omega, by rw [size_up]; omega⟩
/-- Two blocks that lie apart. -/
theorem Once.takeM (h : Once S g b n m fm fr w wr) (k : Int) (hk : -9223372036854775808 ≤ k ∧ k ≤ 9223372036854775807) :
    Calls Try.prog 12 #[.pointer (some ⟨g, 0, none⟩), .int .i64 k] wr fun e w' => ∃ p cp, e = .returned (.tuple #[.slice p (takeL n fm k).length cp, .int .i64 (takeE n fm k : Nat)]) ∧ Ints .i64 w' p (takeL n fm k) ∧ (∀ x, p = some x → wr.heap.size ≤ x.block ∧ x.block < w'.heap.size) ∧ Once S g b n m (takeF n fm k) fr w w' ∧ Same S wr w' := by
  obtain ⟨c, cap, hM, h1, h2, h3⟩ := h.mp
  refine (take_any g c n cap fm k hk wr hM).mono fun e w' ⟨p, cp, he, hG, hM', hB⟩ => ?_
  have hL := h.left (f' := takeF n fm k) (w' := w') fun c2 cap2 hM2 => by
    obtain rfl : c2 = c := by
      have e := hM2.hd.symm.trans hM.hd
      injection e with e; injection e with e; injection e with e; injection e
    exact hM'.left (hB.upd2 g)
  refine ⟨p, cp, he, ?_, fun x hx => ?_, hL.1, hL.2⟩
  · obtain ⟨a', ca', hv, hI⟩ := hG.ints
    injection hv with h1 h2 h3
    subst h1
    exact hI
  · subst hx
    exact hG.lt x.block rfl
theorem Once.dropM (h : Once S g b n m fm fr w wr) (p : Option Addr) (cp : Nat) (l : List Int) (hl : l.length ≤ 1000000) (hr : ∀ r ∈ l, -9223372036854775808 ≤ r ∧ r ≤ 9223372036854775807) (hI : Ints .i64 wr p l) :
    Calls Try.prog 15 #[.pointer (some ⟨g, 0, none⟩), .slice p l.length cp] wr fun e w' => e = .returned (.int .i64 (turnE n fm 2 l : Nat)) ∧ Once S g b n m (turnF n fm 2 3 l) fr w w' ∧ Same S wr w' := by
  obtain ⟨c, cap, hM, h1, h2, h3⟩ := h.mp
  refine (drop_any g c n cap fm p cp l (by unfold maxLen; omega) hr wr hM hI).mono fun e w' ⟨he, hL⟩ => ⟨he, h.left fun c2 cap2 hM2 => ?_⟩
  obtain rfl : c2 = c := by
    have e := hM2.hd.symm.trans hM.hd
    injection e with e; injection e with e; injection e with e; injection e
  exact hL
theorem Once.clearM (h : Once S g b n m fm fr w wr) (p : Option Addr) (cp : Nat) (l : List Int) (hl : l.length ≤ 1000000) (hr : ∀ r ∈ l, -9223372036854775808 ≤ r ∧ r ≤ 9223372036854775807) (hI : Ints .i64 wr p l) :
    Calls Try.prog 17 #[.pointer (some ⟨g, 0, none⟩), .slice p l.length cp] wr fun e w' => e = .returned (.int .i64 (turnE n fm 3 l : Nat)) ∧ Once S g b n m (turnF n fm 3 1 l) fr w w' ∧ Same S wr w' := by
  obtain ⟨c, cap, hM, h1, h2, h3⟩ := h.mp
  refine (clear_any g c n cap fm p cp l (by unfold maxLen; omega) hr wr hM hI).mono fun e w' ⟨he, hL⟩ => ⟨he, h.left fun c2 cap2 hM2 => ?_⟩
  obtain rfl : c2 = c := by
    have e := hM2.hd.symm.trans hM.hd
    injection e with e; injection e with e; injection e with e; injection e
  exact hL
theorem Once.countM (h : Once S g b n m fm fr w wr) :
    Calls Try.prog 18 #[.pointer (some ⟨g, 0, none⟩)] wr fun e w' => ∃ x y z : Nat, e = .returned (.tuple #[.int .i64 (x : Nat), .int .i64 (y : Nat), .int .i64 (z : Nat)]) ∧ x + y + z = n ∧ Once S g b n m fm fr w w' := by
  obtain ⟨c, cap, hM, h1, h2, h3⟩ := h.mp
  exact (count_any g c n cap fm wr hM).mono fun e w' ⟨he, hk⟩ => ⟨_, _, _, he, count_sum fm n hM.wf, (h.keep hk).1⟩
theorem Once.ofM (h : Once S g b n m fm fr w wr) (x : Int) (hx : -9223372036854775808 ≤ x ∧ x ≤ 9223372036854775807) :
    Calls Try.prog 21 #[.pointer (some ⟨g, 0, none⟩), .int .i64 x] wr fun e w' => e = .returned (.int .u8 (ofN n fm x : Nat)) ∧ w' = wr := by
  obtain ⟨c, cap, hM, h1, h2, h3⟩ := h.mp
  exact of_any g c n cap fm x hx wr hM
end
end Go.Proofs.Ytleohicgbpebnaa
