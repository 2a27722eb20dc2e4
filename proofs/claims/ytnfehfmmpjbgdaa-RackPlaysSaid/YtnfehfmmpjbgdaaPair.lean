/- The program's rack and the document's, side by side. -/
import Derived.Test.YtnfehfmmpjbgdaaDocNew2
namespace Go.Proofs.Ytnfehfmmpjbgdaa
open Go.RowKit RSt
set_option linter.unusedVariables false
namespace RSt
theorem writeS_n (s : RSt) (d i : Int) (t : ByteArray) : (s.writeS d i t).n = s.n ∧ (s.writeS d i t).m = s.m := by
  unfold RSt.writeS; split <;> exact ⟨rfl, rfl⟩
theorem wipeS_n (s : RSt) (d : Int) : (s.wipeS d).n = s.n ∧ (s.wipeS d).m = s.m := by
  unfold RSt.wipeS; split <;> exact ⟨rfl, rfl⟩
theorem spoilS_n (s : RSt) (d i : Int) : (s.spoilS d i).n = s.n ∧ (s.spoilS d i).m = s.m := by
  unfold RSt.spoilS; split <;> exact ⟨rfl, rfl⟩
theorem cutS_n (s : RSt) (k : Int) : (s.cutS k).n = s.n ∧ (s.cutS k).m = s.m := by
  unfold RSt.cutS; split <;> exact ⟨rfl, rfl⟩
end RSt
/-- The program's rack is as a says, the document's as b says; all of their memory lies in blocks from g on below hi. -/
structure Pair (g N M : Nat) (L : DLay) (lo hi : Nat) (w1 : World) (a b : RSt) (W : World) : Prop where
  r : RackAt g a W
  d : DocAt L lo hi b W
  o : Only g hi w1 W
  na : a.n = N
  nb : b.n = N
  ma : a.m = M
  mb : b.m = M
  lt : g + 2 + N ≤ lo
  le : lo ≤ hi
theorem Pair.drewN {g N M : Nat} {L : DLay} {lo hi : Nat} {w1 : World} {a b : RSt} {W : World} (h : Pair g N M L lo hi w1 a b W) (k : Nat) : Pair g N M L lo hi w1 a b (W.drewN k) :=
  ⟨h.r.drewN k, h.d.drewN k, ⟨h.o.os, h.o.tape, h.o.output, h.o.size, h.o.block⟩, h.na, h.nb, h.ma, h.mb, h.lt, h.le⟩
theorem Pair.kept {g N M : Nat} {L : DLay} {lo hi : Nat} {w1 : World} {a b : RSt} {W W' : World} (h : Pair g N M L lo hi w1 a b W) (k : Kept W W') : Pair g N M L lo hi w1 a b W' :=
  ⟨h.r.kept k, h.d.kept k, h.o.trans (k.only _ _), h.na, h.nb, h.ma, h.mb, h.lt, h.le⟩
theorem Pair.left {g N M : Nat} {L : DLay} {lo hi : Nat} {w1 : World} {a b a' : RSt} {W W' : World} (h : Pair g N M L lo hi w1 a b W) (hr : RackAt g a' W') (ho : Only g (g + 2 + a.n) W W') (hn : a'.n = a.n) (hm : a'.m = a.m) : Pair g N M L lo hi w1 a' b W' := by
  rw [h.na] at ho
  have h1 := h.lt
  have h2 := h.le
  exact ⟨hr, h.d.only ho (.inl h.lt), h.o.trans (ho.wider (Nat.le_refl _) (by omega)), hn.trans h.na, h.nb, hm.trans h.ma, h.mb, h.lt, h.le⟩
theorem Pair.right {g N M : Nat} {L : DLay} {lo hi : Nat} {w1 : World} {a b b' : RSt} {W W' : World} (h : Pair g N M L lo hi w1 a b W) (hd : DocAt L lo hi b' W') (ho : Only lo hi W W') (hn : b'.n = b.n) (hm : b'.m = b.m) : Pair g N M L lo hi w1 a b' W' := by
  have h1 := h.lt
  exact ⟨h.r.only ho (.inr (by rw [h.na]; omega)), hd, h.o.trans (ho.wider (by omega) (Nat.le_refl _)), h.na, hn.trans h.nb, h.ma, hm.trans h.mb, h.lt, h.le⟩
section
variable {g N M : Nat} {L : DLay} {lo hi : Nat} {w1 : World} {a b : RSt} {W : World} (h : Pair g N M L lo hi w1 a b W) (d i : Int) (hd1 : -9223372036854775808 ≤ d) (hd2 : d ≤ 9223372036854775807) (hi1 : -9223372036854775808 ≤ i) (hi2 : i ≤ 9223372036854775807)
include h
theorem Pair.writeP (hd1 : -9223372036854775808 ≤ d) (hd2 : d ≤ 9223372036854775807) (hi1 : -9223372036854775808 ≤ i) (hi2 : i ≤ 9223372036854775807) (t : ByteArray) (ht : t.size ≤ 9223372036854775807) :
    Calls Try.prog 19 #[.pointer (some ⟨g + 1, 0, none⟩), .int .i64 d, .int .i64 i, .string t] W fun r w' => r = .returned (.int .i64 (a.writeE d i t : Nat)) ∧ Pair g N M L lo hi w1 (a.writeS d i t) b w' :=
  (write_any g a d i hd1 hd2 hi1 hi2 t ht W h.r).mono fun r w' hh => ⟨hh.1, h.left hh.2.1 hh.2.2 (a.writeS_n d i t).1 (a.writeS_n d i t).2⟩
theorem Pair.writeD (t : ByteArray) (ht : t.size ≤ 9223372036854775807) :
    Calls Try.prog 25 #[.pointer (some ⟨L.x, 0, none⟩), .int .i64 d, .int .i64 i, .string t] W fun r w' => r = .returned (.int .i64 (b.writeE d i t : Nat)) ∧ Pair g N M L lo hi w1 a (b.writeS d i t) w' :=
  (dWrite_any L lo hi b d i t ht W h.d).mono fun r w' hh => ⟨hh.1, h.right hh.2.1 hh.2.2 (b.writeS_n d i t).1 (b.writeS_n d i t).2⟩
theorem Pair.wipeP (hd1 : -9223372036854775808 ≤ d) (hd2 : d ≤ 9223372036854775807) :
    Calls Try.prog 23 #[.pointer (some ⟨g + 1, 0, none⟩), .int .i64 d] W fun r w' => r = .returned (.int .i64 (a.wipeE d : Nat)) ∧ Pair g N M L lo hi w1 (a.wipeS d) b w' :=
  (wipe_any g a d hd1 hd2 W h.r).mono fun r w' hh => ⟨hh.1, h.left hh.2.1 hh.2.2 (a.wipeS_n d).1 (a.wipeS_n d).2⟩
theorem Pair.wipeD :
    Calls Try.prog 27 #[.pointer (some ⟨L.x, 0, none⟩), .int .i64 d] W fun r w' => r = .returned (.int .i64 (b.wipeE d : Nat)) ∧ Pair g N M L lo hi w1 a (b.wipeS d) w' :=
  (dWipe_any L lo hi b d W h.d).mono fun r w' hh => ⟨hh.1, h.right hh.2.1 hh.2.2 (b.wipeS_n d).1 (b.wipeS_n d).2⟩
theorem Pair.spoilP (hd1 : -9223372036854775808 ≤ d) (hd2 : d ≤ 9223372036854775807) (hi1 : -9223372036854775808 ≤ i) (hi2 : i ≤ 9223372036854775807) :
    Calls Try.prog 22 #[.pointer (some ⟨g + 1, 0, none⟩), .int .i64 d, .int .i64 i] W fun r w' => r = .returned (.int .i64 (a.spoilE d i : Nat)) ∧ Pair g N M L lo hi w1 (a.spoilS d i) b w' :=
  (spoil_any g a d i hd1 hd2 hi1 hi2 W h.r).mono fun r w' hh => ⟨hh.1, h.left hh.2.1 hh.2.2 (a.spoilS_n d i).1 (a.spoilS_n d i).2⟩
theorem Pair.spoilD :
    Calls Try.prog 28 #[.pointer (some ⟨L.x, 0, none⟩), .int .i64 d, .int .i64 i] W fun r w' => r = .returned (.int .i64 (b.spoilE d i : Nat)) ∧ Pair g N M L lo hi w1 a (b.spoilS d i) w' :=
  (dSpoil_any L lo hi b d i W h.d).mono fun r w' hh => ⟨hh.1, h.right hh.2.1 hh.2.2 (b.spoilS_n d i).1 (b.spoilS_n d i).2⟩
theorem Pair.readP (hd1 : -9223372036854775808 ≤ d) (hd2 : d ≤ 9223372036854775807) (hi1 : -9223372036854775808 ≤ i) (hi2 : i ≤ 9223372036854775807) :
    Calls Try.prog 21 #[.pointer (some ⟨g + 1, 0, none⟩), .int .i64 d, .int .i64 i] W fun r w' => r = .returned (.tuple #[.string (a.readT d i), .int .i64 (a.readE d i : Nat)]) ∧ Pair g N M L lo hi w1 a b w' :=
  (read_any g a d i hd1 hd2 hi1 hi2 W h.r).mono fun r w' hh => ⟨hh.1, h.kept hh.2⟩
theorem Pair.readD :
    Calls Try.prog 26 #[.pointer (some ⟨L.x, 0, none⟩), .int .i64 d, .int .i64 i] W fun r w' => r = .returned (.tuple #[.string (b.readT d i), .int .i64 (b.readE d i : Nat)]) ∧ Pair g N M L lo hi w1 a b w' :=
  (dRead_any L lo hi b d i W h.d).mono fun r w' hh => ⟨hh.1, by rw [hh.2]; exact h⟩
theorem Pair.cutP (k : Int) (hk1 : -9223372036854775808 ≤ k) (hk2 : k ≤ 9223372036854775807) :
    Calls Try.prog 18 #[.pointer (some ⟨g + 1, 0, none⟩), .int .i64 k] W fun r w' => r = .returned (.int .i64 (RSt.cutE k : Nat)) ∧ Pair g N M L lo hi w1 (a.cutS k) b w' :=
  (cut_any g a k hk1 hk2 W h.r).mono fun r w' hh => ⟨hh.1, h.left hh.2.1 hh.2.2 (a.cutS_n k).1 (a.cutS_n k).2⟩
theorem Pair.liftP :
    Calls Try.prog 20 #[.pointer (some ⟨g + 1, 0, none⟩)] W fun r w' => r = .returned (.int .i64 0) ∧ Pair g N M L lo hi w1 a.liftS b w' :=
  (lift_any g a W h.r).mono fun r w' hh => ⟨hh.1, h.left hh.2.1 hh.2.2 rfl rfl⟩
theorem Pair.limD (c : Bool) (k : Nat) (hk : k ≤ 9223372036854775807) (v : Int) (hv : v = if c then (k : Int) else -1) : Pair g N M L lo hi w1 a (b.lim c k) (W.setCell ⟨L.x, 3, none⟩ (.int .i64 v)) :=
  h.right (h.d.setL c k hk v hv) ((Only.refl _ _ _).setCell _ _ h.d.rx.1 h.d.rx.2) rfl rfl
theorem Pair.allP (hd1 : -9223372036854775808 ≤ d) (hd2 : d ≤ 9223372036854775807) :
    Calls Try.prog 12 #[.pointer (some ⟨g + 1, 0, none⟩), .int .i64 d] W fun r w' => r = .returned (.string (a.all d)) ∧ Pair g N M L lo hi w1 a b w' :=
  (all_any g a d hd1 hd2 W h.r).mono fun r w' hh => ⟨hh.1, h.kept hh.2⟩
theorem Pair.allD :
    Calls Try.prog 13 #[.pointer (some ⟨L.x, 0, none⟩), .int .i64 d] W fun r w' => r = .returned (.string (b.all d)) ∧ Pair g N M L lo hi w1 a b w' :=
  (dAll_any L lo hi b d W h.d).mono fun r w' hh => ⟨hh.1, h.kept hh.2⟩
theorem Pair.writesP (hd1 : -9223372036854775808 ≤ d) (hd2 : d ≤ 9223372036854775807) :
    Calls Try.prog 14 #[.pointer (some ⟨g + 1, 0, none⟩), .int .i64 d] W fun r w' => r = .returned (.int .u64 (a.writes d : Nat)) ∧ Pair g N M L lo hi w1 a b w' :=
  (writes_any g a d hd1 hd2 W h.r).mono fun r w' hh => ⟨hh.1, h.kept hh.2⟩
theorem Pair.writesD :
    Calls Try.prog 15 #[.pointer (some ⟨L.x, 0, none⟩), .int .i64 d] W fun r w' => r = .returned (.int .u64 (b.writes d : Nat)) ∧ Pair g N M L lo hi w1 a b w' :=
  (dWrites_any L lo hi b d W h.d).mono fun r w' hh => ⟨hh.1, by rw [hh.2]; exact h⟩
end
end Go.Proofs.Ytnfehfmmpjbgdaa
