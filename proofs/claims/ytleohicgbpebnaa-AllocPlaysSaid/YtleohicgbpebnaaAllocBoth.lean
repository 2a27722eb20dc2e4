/- Both maps side by side: the program's, and the document's. -/
import Derived.Test.YtleohicgbpebnaaAllocRef4
import Derived.Test.YtleohicgbpebnaaCopyI
namespace Go.Proofs.Ytleohicgbpebnaa
open Go.RowKit
set_option linter.unusedVariables false
/-- The program's map in g tells fm, the document's in r tells fr; neither lies in one of the blocks of S. -/
structure Both (S : Nat → Prop) (g r cr n : Nat) (a : Option Addr) (rc : Nat) (fm fr : Nat → Nat) (w wr : World) : Prop where
  m : ∃ c cap, MapAt g c n cap fm wr ∧ w.heap.size ≤ c ∧ c ≠ r ∧ c ≠ cr ∧ ∀ b, S b → c ≠ b
  d : RefAt r cr n a rc fr wr
  kept : Kept w wr
  gw : w.heap.size ≤ g
  cw : w.heap.size ≤ cr
  gr : g ≠ r
  gc : g ≠ cr
  cl : cr < wr.heap.size
  s : ∀ b, S b → b ≠ g ∧ b ≠ r ∧ b ≠ cr ∧ b < wr.heap.size
/-- What lies in the blocks of S is as it was. -/
def Same (S : Nat → Prop) (w w' : World) : Prop := ∀ b, S b → w'.heap[b]? = w.heap[b]?
theorem Same.cell {S : Nat → Prop} {w w' : World} (h : Same S w w') {b o : Nat} {v : Value} (hb : S b) (hc : w.cell? ⟨b, o, none⟩ = some v) : w'.cell? ⟨b, o, none⟩ = some v := by
  rw [World.cell?_of_block (w := w) (a := ⟨b, o, none⟩) (h b hb)]; exact hc
theorem Both.keep {S : Nat → Prop} {g r cr n : Nat} {a : Option Addr} {rc : Nat} {fm fr : Nat → Nat} {w wr w' : World} (h : Both S g r cr n a rc fm fr w wr) (k : Kept wr w') : Both S g r cr n a rc fm fr w w' := by
  obtain ⟨⟨c, cap, hM, h1, h2, h3, h4⟩, hd, hk, gw, cw, gr, gc, cl, hs⟩ := h
  exact ⟨⟨c, cap, hM.kept k, h1, h2, h3, h4⟩, hd.kept k, hk.trans k, gw, cw, gr, gc, Nat.lt_of_lt_of_le cl k.size, fun b hb => ⟨(hs b hb).1, (hs b hb).2.1, (hs b hb).2.2.1, Nat.lt_of_lt_of_le (hs b hb).2.2.2 k.size⟩⟩
theorem Both.same {S : Nat → Prop} {g r cr n : Nat} {a : Option Addr} {rc : Nat} {fm fr : Nat → Nat} {w wr w' : World} (h : Both S g r cr n a rc fm fr w wr) (k : Kept wr w') : Same S wr w' := fun b hb => k.block b (h.s b hb).2.2.2
theorem Both.drewN {S : Nat → Prop} {g r cr n : Nat} {a : Option Addr} {rc : Nat} {fm fr : Nat → Nat} {w wr : World} (h : Both S g r cr n a rc fm fr w wr) (q : Nat) : Both S g r cr n a rc fm fr w (wr.drewN q) := h.keep ((Kept.refl _).drewN q)
theorem Both.left {S : Nat → Prop} {g r cr n : Nat} {a : Option Addr} {rc : Nat} {fm fr f' : Nat → Nat} {w wr w' : World} (h : Both S g r cr n a rc fm fr w wr) (hL : ∀ c cap, MapAt g c n cap fm wr → Left g c n f' wr w') : Both S g r cr n a rc f' fr w w' ∧ Same S wr w' := by
  obtain ⟨⟨c, cap, hM, h1, h2, h3, h4⟩, hd, hk, gw, cw, gr, gc, cl, hs⟩ := h
  obtain ⟨c', cap', hc', hM', hU⟩ := hL c cap hM
  have hks := hk.size
  refine ⟨⟨⟨c', cap', hM', ?_, ?_, ?_, fun b hb => ?_⟩, hd.frame (hU.block r hd.rlt (fun e => gr e.symm) (fun e => h2 e.symm)) (fun _ => hU.block cr cl (fun e => gc e.symm) (fun e => h3 e.symm)) hU.size, Upd.kept hk gw h1 hU, gw, cw, gr, gc, Nat.lt_of_lt_of_le cl hU.size, fun b hb => ⟨(hs b hb).1, (hs b hb).2.1, (hs b hb).2.2.1, Nat.lt_of_lt_of_le (hs b hb).2.2.2 hU.size⟩⟩, fun b hb => hU.block b (hs b hb).2.2.2 (hs b hb).1 (fun e => h4 b hb e.symm)⟩
  · rcases hc' with rfl | hc'
    · exact h1
    · omega
  · rcases hc' with rfl | hc'
    · exact h2
    · have := hd.rlt; omega
  · rcases hc' with rfl | hc'
    · exact h3
    · omega
  · rcases hc' with rfl | hc'
    · exact h4 b hb
    · have := (hs b hb).2.2.2; omega
theorem Both.right {S : Nat → Prop} {g r cr n : Nat} {a : Option Addr} {rc : Nat} {fm fr f' : Nat → Nat} {w wr w' : World} (h : Both S g r cr n a rc fm fr w wr) (hd' : RefAt r cr n a rc f' w') (k : But cr wr w') : Both S g r cr n a rc fm f' w w' ∧ Same S wr w' := by
  obtain ⟨⟨c, cap, hM, h1, h2, h3, h4⟩, hd, hk, gw, cw, gr, gc, cl, hs⟩ := h
  exact ⟨⟨⟨c, cap, hM.frame (k.block g hM.glt gc) (k.block c hM.lt h3) k.size, h1, h2, h3, h4⟩, hd', But.kept hk cw k, gw, cw, gr, gc, Nat.lt_of_lt_of_le cl k.size, fun b hb => ⟨(hs b hb).1, (hs b hb).2.1, (hs b hb).2.2.1, Nat.lt_of_lt_of_le (hs b hb).2.2.2 k.size⟩⟩, fun b hb => k.block b (hs b hb).2.2.2 (hs b hb).2.2.1⟩
/-- A block more that lies apart, made just now. -/
theorem Both.more {g r cr n : Nat} {a : Option Addr} {rc : Nat} {fm fr : Nat → Nat} {w wr : World} (h : Both (fun _ => False) g r cr n a rc fm fr w wr) (o : Obj) : Both (fun b => b = wr.heap.size) g r cr n a rc fm fr w (wr.alloc o) := by
  have hk := h.keep ((Kept.refl wr).alloc o)
  obtain ⟨⟨c, cap, hM, h1, h2, h3, h4⟩, hd, hkk, gw, cw, gr, gc, cl, hs⟩ := h
  refine ⟨⟨c, cap, hM.kept ((Kept.refl wr).alloc o), h1, h2, h3, fun b hb => by subst hb; exact Nat.ne_of_lt hM.lt⟩, hk.d, hk.kept, gw, cw, gr, gc, hk.cl, fun b hb => ?_⟩
  subst hb
  have e1 := hM.glt
  have e2 := hd.rlt
  exact ⟨by omega, by omega, by omega, by rw [size_up]; omega⟩
theorem Both.forget {S : Nat → Prop} {g r cr n : Nat} {a : Option Addr} {rc : Nat} {fm fr : Nat → Nat} {w wr : World} (h : Both S g r cr n a rc fm fr w wr) : Both (fun _ => False) g r cr n a rc fm fr w wr := by
  obtain ⟨⟨c, cap, hM, h1, h2, h3, h4⟩, hd, hkk, gw, cw, gr, gc, cl, hs⟩ := h
  exact ⟨⟨c, cap, hM, h1, h2, h3, fun _ h => h.elim⟩, hd, hkk, gw, cw, gr, gc, cl, fun _ h => h.elim⟩
/-- Numbers that do not lie in the blocks of the document's map. -/
def Clear (cr : Nat) (w : World) (a : Option Addr) (l : List Int) : Prop := Ints .i64 w a l ∧ (0 < l.length → ∀ x, a = some x → x.block ≠ cr)
theorem Clear.but {cr : Nat} {w w' : World} {a : Option Addr} {l : List Int} (h : Clear cr w a l) (k : But cr w w') : Clear cr w' a l := by
  refine ⟨?_, h.2⟩
  rcases h.1 with h1 | ⟨b, o, ha, h1⟩
  · exact .inl h1
  · refine .inr ⟨b, o, ha, fun i hi => ?_⟩
    rw [k.cell (p := ⟨b, o + i, none⟩) (block_lt_of_cell (h1 i hi)) (show b ≠ cr from h.2 (by omega) _ ha)]
    exact h1 i hi
theorem Clear.kept {cr : Nat} {w w' : World} {a : Option Addr} {l : List Int} (h : Clear cr w a l) (k : Kept w w') : Clear cr w' a l := ⟨h.1.kept k, h.2⟩
section
variable {S : Nat → Prop} {g r cr n : Nat} {a : Option Addr} {rc : Nat} {fm fr : Nat → Nat} {w wr : World}
/-- Take of the program's. -/
theorem Both.takeM (h : Both S g r cr n a rc fm fr w wr) (m : Int) (hm : -9223372036854775808 ≤ m ∧ m ≤ 9223372036854775807) :
    Calls Try.prog 12 #[.pointer (some ⟨g, 0, none⟩), .int .i64 m] wr fun e w' => ∃ p cp, e = .returned (.tuple #[.slice p (takeL n fm m).length cp, .int .i64 (takeE n fm m : Nat)]) ∧ Clear cr w' p (takeL n fm m) ∧ Both S g r cr n a rc (takeF n fm m) fr w w' ∧ Same S wr w' := by
  obtain ⟨c, cap, hM, h1, h2, h3, h4⟩ := h.m
  refine (take_any g c n cap fm m hm wr hM).mono fun e w' ⟨p, cp, he, hG, hM', hB⟩ => ?_
  refine ⟨p, cp, he, ⟨?_, fun _ x hx => ?_⟩, h.left fun c2 cap2 hM2 => ?_⟩
  · obtain ⟨a', ca', hv, hI⟩ := hG.ints
    injection hv with h1 h2 h3
    subst h1
    exact hI
  · subst hx
    have := (hG.lt x.block rfl).1
    have := h.cl
    omega
  · obtain rfl : c2 = c := by
      have e := hM2.hd.symm.trans hM.hd
      injection e with e; injection e with e; injection e with e; injection e
    exact hM'.left (hB.upd2 g)
/-- Take of the document's. -/
theorem Both.takeD (h : Both S g r cr n a rc fm fr w wr) (m : Int) (hm : -9223372036854775808 ≤ m ∧ m ≤ 9223372036854775807) :
    Calls Try.prog 13 #[.pointer (some ⟨r, 0, none⟩), .int .i64 m] wr fun e w' => ∃ p cp, e = .returned (.tuple #[.slice p (takeL n fr m).length cp, .int .i64 (takeE n fr m : Nat)]) ∧ Ints .i64 w' p (takeL n fr m) ∧ Both S g r cr n a rc fm (takeF n fr m) w w' ∧ But cr wr w' ∧ Same S wr w' :=
  (refTake_any r cr n rc a fr m hm wr h.d).mono fun e w' ⟨p, cp, he, hI, hR, hB⟩ => ⟨p, cp, he, hI, (h.right hR hB).1, hB, (h.right hR hB).2⟩
theorem Both.dropM (h : Both S g r cr n a rc fm fr w wr) (p : Option Addr) (cp : Nat) (l : List Int) (hl : l.length ≤ 1000000) (hr : ∀ r ∈ l, -9223372036854775808 ≤ r ∧ r ≤ 9223372036854775807) (hI : Ints .i64 wr p l) :
    Calls Try.prog 15 #[.pointer (some ⟨g, 0, none⟩), .slice p l.length cp] wr fun e w' => e = .returned (.int .i64 (turnE n fm 2 l : Nat)) ∧ Both S g r cr n a rc (turnF n fm 2 3 l) fr w w' ∧ Same S wr w' := by
  obtain ⟨c, cap, hM, h1, h2, h3, h4⟩ := h.m
  refine (drop_any g c n cap fm p cp l (by unfold maxLen; omega) hr wr hM hI).mono fun e w' ⟨he, hL⟩ => ⟨he, h.left fun c2 cap2 hM2 => ?_⟩
  obtain rfl : c2 = c := by
    have e := hM2.hd.symm.trans hM.hd
    injection e with e; injection e with e; injection e with e; injection e
  exact hL
theorem Both.clearM (h : Both S g r cr n a rc fm fr w wr) (p : Option Addr) (cp : Nat) (l : List Int) (hl : l.length ≤ 1000000) (hr : ∀ r ∈ l, -9223372036854775808 ≤ r ∧ r ≤ 9223372036854775807) (hI : Ints .i64 wr p l) :
    Calls Try.prog 17 #[.pointer (some ⟨g, 0, none⟩), .slice p l.length cp] wr fun e w' => e = .returned (.int .i64 (turnE n fm 3 l : Nat)) ∧ Both S g r cr n a rc (turnF n fm 3 1 l) fr w w' ∧ Same S wr w' := by
  obtain ⟨c, cap, hM, h1, h2, h3, h4⟩ := h.m
  refine (clear_any g c n cap fm p cp l (by unfold maxLen; omega) hr wr hM hI).mono fun e w' ⟨he, hL⟩ => ⟨he, h.left fun c2 cap2 hM2 => ?_⟩
  obtain rfl : c2 = c := by
    have e := hM2.hd.symm.trans hM.hd
    injection e with e; injection e with e; injection e with e; injection e
  exact hL
theorem Both.turnD (h : Both S g r cr n a rc fm fr w wr) (x y : Nat) (hx : x ≤ 255) (hy : y ≤ 255) (p : Option Addr) (cp : Nat) (l : List Int) (hl : l.length ≤ 1000000) (hr : ∀ r ∈ l, -9223372036854775808 ≤ r ∧ r ≤ 9223372036854775807) (hC : Clear cr wr p l) :
    Calls Try.prog 16 #[.pointer (some ⟨r, 0, none⟩), .slice p l.length cp, .int .u8 (x : Nat), .int .u8 (y : Nat)] wr fun e w' => e = .returned (.int .i64 (turnE n fr x l : Nat)) ∧ Both S g r cr n a rc fm (turnF n fr x y l) w w' ∧ But cr wr w' ∧ Same S wr w' :=
  (refTurn_any r cr n rc a fr x y hx hy p cp l hl hr wr h.d hC.1 (fun _ => hC.2)).mono fun e w' ⟨he, hR, hB⟩ => ⟨he, (h.right hR hB).1, hB, (h.right hR hB).2⟩
theorem Both.countM (h : Both S g r cr n a rc fm fr w wr) :
    Calls Try.prog 18 #[.pointer (some ⟨g, 0, none⟩)] wr fun e w' => e = .returned (.tuple #[.int .i64 ((rowsL n fm 1).length : Nat), .int .i64 ((rowsL n fm 2).length : Nat), .int .i64 ((rowsL n fm 3).length : Nat)]) ∧ Both S g r cr n a rc fm fr w w' := by
  obtain ⟨c, cap, hM, h1, h2, h3, h4⟩ := h.m
  exact (count_any g c n cap fm wr hM).mono fun e w' ⟨he, hk⟩ => ⟨he, h.keep hk⟩
theorem Both.rowsM (h : Both S g r cr n a rc fm fr w wr) (x : Nat) (hx : x ≤ 255) :
    Calls Try.prog 22 #[.pointer (some ⟨g, 0, none⟩), .int .u8 (x : Nat)] wr fun e w' => ∃ p cp, e = .returned (.slice p (rowsL n fm x).length cp) ∧ Ints .i64 w' p (rowsL n fm x) ∧ Both S g r cr n a rc fm fr w w' := by
  obtain ⟨c, cap, hM, h1, h2, h3, h4⟩ := h.m
  exact (rows_any g c n cap fm x hx wr hM).mono fun e w' ⟨v, he, hG, hk⟩ => by
    obtain ⟨p, cp, hv, hI⟩ := hG.ints
    subst hv
    exact ⟨p, cp, he, hI, h.keep hk⟩
theorem Both.rowsD (h : Both S g r cr n a rc fm fr w wr) (x : Nat) (hx : x ≤ 255) :
    Calls Try.prog 19 #[.pointer (some ⟨r, 0, none⟩), .int .u8 (x : Nat)] wr fun e w' => ∃ p cp, e = .returned (.slice p (rowsL n fr x).length cp) ∧ Ints .i64 w' p (rowsL n fr x) ∧ Both S g r cr n a rc fm fr w w' ∧ Kept wr w' :=
  (refRows_any r cr n rc a fr x hx wr h.d).mono fun e w' ⟨v, he, hG, hk⟩ => by
    obtain ⟨p, cp, hv, hI⟩ := hG.ints
    subst hv
    exact ⟨p, cp, he, hI, h.keep hk, hk⟩
theorem Both.ofM (h : Both S g r cr n a rc fm fr w wr) (x : Int) (hx : -9223372036854775808 ≤ x ∧ x ≤ 9223372036854775807) :
    Calls Try.prog 21 #[.pointer (some ⟨g, 0, none⟩), .int .i64 x] wr fun e w' => e = .returned (.int .u8 (ofN n fm x : Nat)) ∧ w' = wr := by
  obtain ⟨c, cap, hM, h1, h2, h3, h4⟩ := h.m
  exact of_any g c n cap fm x hx wr hM
end
end Go.Proofs.Ytleohicgbpebnaa
