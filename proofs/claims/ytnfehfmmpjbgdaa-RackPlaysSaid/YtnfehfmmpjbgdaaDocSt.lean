/- How the document's rack lies in memory. -/
import Derived.Test.YtnfehfmmpjbgdaaCutMath
namespace Go.Proofs.Ytnfehfmmpjbgdaa
open Go.RowKit
set_option linter.unusedVariables false
/-- Block b has elements of type t, the first n of them told by f. -/
def Rowf (w : World) (b : Nat) (t : TypeId) (n : Nat) (f : Nat → Value) : Prop := ∃ cs, w.heap[b]? = some (.cells cs t (0, 0)) ∧ ∀ j, j < n → cs[j]? = some (f j)
theorem Rowf.cell {w : World} {b : Nat} {t : TypeId} {n : Nat} {f : Nat → Value} (h : Rowf w b t n f) (j : Nat) (hj : j < n) : w.cell? ⟨b, j, none⟩ = some (f j) := by
  obtain ⟨cs, h1, h2⟩ := h
  rw [cell_of_row _ _ _ _ _ _ h1]; exact h2 j hj
theorem Rowf.free {w : World} {b : Nat} {t : TypeId} {n : Nat} {f : Nat → Value} (h : Rowf w b t n f) (j : Nat) : w.frozen? ⟨b, j, none⟩ = false := by
  obtain ⟨cs, h1, _⟩ := h
  exact frozen_row h1 j
theorem Rowf.lt {w : World} {b : Nat} {t : TypeId} {n : Nat} {f : Nat → Value} (h : Rowf w b t n f) : b < w.heap.size := by
  obtain ⟨cs, h1, _⟩ := h
  exact (Array.getElem?_eq_some_iff.1 h1).1
theorem Rowf.frame {w w' : World} {b : Nat} {t : TypeId} {n : Nat} {f : Nat → Value} (h : Rowf w b t n f) (e : w'.heap[b]? = w.heap[b]?) : Rowf w' b t n f := by
  obtain ⟨cs, h1, h2⟩ := h
  exact ⟨cs, by rw [e]; exact h1, h2⟩
theorem Rowf.ne {w : World} {b b' : Nat} {t t' : TypeId} {n n' : Nat} {f f' : Nat → Value} (h : Rowf w b t n f) (h' : Rowf w b' t' n' f') (e : t ≠ t') : b ≠ b' := by
  rintro rfl
  obtain ⟨cs, h1, _⟩ := h
  obtain ⟨cs', h2, _⟩ := h'
  rw [h1] at h2
  injection h2 with h2
  injection h2 with _ h2
  exact e h2
theorem Rowf.congr {w : World} {b : Nat} {t : TypeId} {n : Nat} {f f' : Nat → Value} (h : Rowf w b t n f) (e : ∀ j, j < n → f' j = f j) : Rowf w b t n f' := by
  obtain ⟨cs, h1, h2⟩ := h
  exact ⟨cs, h1, fun j hj => by rw [e j hj]; exact h2 j hj⟩
theorem Rowf.other {w : World} {b : Nat} {t : TypeId} {n : Nat} {f : Nat → Value} (h : Rowf w b t n f) (a : Addr) (v : Value) (hne : a.block ≠ b) : Rowf (w.setCell a v) b t n f :=
  h.frame (Below.heap_setCell _ _ _ _ (fun e => hne e.symm))
theorem Rowf.set {w : World} {b : Nat} {t : TypeId} {n : Nat} {f : Nat → Value} (h : Rowf w b t n f) (k : Nat) (v : Value) : Rowf (w.setCell ⟨b, k, none⟩ v) b t n (fun j => if j = k then v else f j) := by
  obtain ⟨cs, h1, h2⟩ := h
  refine ⟨cs.setIfInBounds k v, by simp [World.setCell, Array.getElem?_modify, h1], fun j hj => ?_⟩
  rw [Array.getElem?_setIfInBounds]
  by_cases e : j = k
  · subst e
    have := (Array.getElem?_eq_some_iff.1 (h2 j hj)).1
    simp [this]
  · rw [if_neg (fun c => e c.symm)]
    show _ = some (if j = k then v else f j)
    rw [if_neg e]; exact h2 j hj
/-- Where the parts of the document's rack lie. -/
structure DLay where
  x : Nat
  sb : Nat
  bb : Nat
  cb : Nat
  T : Nat → Nat
  B : Nat → Nat
  cs : Nat
  cn : Nat
  ct : Nat → Nat
def leftV (s : RSt) : Int := if s.cut then (s.left : Int) else -1
def headF (L : DLay) (s : RSt) (j : Nat) : Value :=
  if j = 0 then .slice (some ⟨L.sb, 0, none⟩) s.n L.cs else if j = 1 then .slice (some ⟨L.bb, 0, none⟩) s.n L.cn else if j = 2 then .slice (some ⟨L.cb, 0, none⟩) s.n s.n else .int .i64 (leftV s)
structure DocAt (L : DLay) (lo hi : Nat) (s : RSt) (w : World) : Prop where
  wf : s.Wf
  ox : Rowf w L.x 61 4 (headF L s)
  os : Rowf w L.sb 46 s.n fun d => .slice (some ⟨L.T d, 0, none⟩) s.m (L.ct d)
  ob : Rowf w L.bb 63 s.n fun d => .slice (some ⟨L.B d, 0, none⟩) s.m s.m
  oc : Rowf w L.cb 36 s.n fun d => .int .u64 (s.cnt d : Nat)
  ot : ∀ d, d < s.n → Rowf w (L.T d) 9 s.m fun i => .string ⟨(s.T d i).toArray⟩
  od : ∀ d, d < s.n → Rowf w (L.B d) 4 s.m fun i => .bool (s.bad d i)
  it : ∀ d d', d < s.n → d' < s.n → L.T d = L.T d' → d = d'
  ib : ∀ d d', d < s.n → d' < s.n → L.B d = L.B d' → d = d'
  rx : lo ≤ L.x ∧ L.x < hi
  rs : lo ≤ L.sb ∧ L.sb < hi
  rb : lo ≤ L.bb ∧ L.bb < hi
  rc : lo ≤ L.cb ∧ L.cb < hi
  rt : ∀ d, d < s.n → lo ≤ L.T d ∧ L.T d < hi
  rd : ∀ d, d < s.n → lo ≤ L.B d ∧ L.B d < hi
theorem DocAt.frame {L : DLay} {lo hi : Nat} {s : RSt} {w w' : World} (h : DocAt L lo hi s w) (e : ∀ k, lo ≤ k → k < hi → k < w.heap.size → w'.heap[k]? = w.heap[k]?) : DocAt L lo hi s w' :=
  ⟨h.wf, h.ox.frame (e _ h.rx.1 h.rx.2 h.ox.lt), h.os.frame (e _ h.rs.1 h.rs.2 h.os.lt), h.ob.frame (e _ h.rb.1 h.rb.2 h.ob.lt), h.oc.frame (e _ h.rc.1 h.rc.2 h.oc.lt),
   fun d hd => (h.ot d hd).frame (e _ (h.rt d hd).1 (h.rt d hd).2 (h.ot d hd).lt), fun d hd => (h.od d hd).frame (e _ (h.rd d hd).1 (h.rd d hd).2 (h.od d hd).lt),
   h.it, h.ib, h.rx, h.rs, h.rb, h.rc, h.rt, h.rd⟩
theorem DocAt.kept {L : DLay} {lo hi : Nat} {s : RSt} {w w' : World} (h : DocAt L lo hi s w) (k : Kept w w') : DocAt L lo hi s w' := h.frame fun j _ _ hj => k.block j hj
theorem DocAt.only {L : DLay} {lo hi a b : Nat} {s : RSt} {w w' : World} (h : DocAt L lo hi s w) (k : Only a b w w') (ha : b ≤ lo ∨ hi ≤ a) : DocAt L lo hi s w' := h.frame fun j h1 h2 hj => k.block j hj (by omega)
theorem DocAt.drewN {L : DLay} {lo hi : Nat} {s : RSt} {w : World} (h : DocAt L lo hi s w) (m : Nat) : DocAt L lo hi s (w.drewN m) := h.frame fun _ _ _ _ => rfl
/-- One text is stored. -/
theorem DocAt.setT {L : DLay} {lo hi : Nat} {s : RSt} {w : World} (h : DocAt L lo hi s w) (d i : Nat) (hd : d < s.n) (him : i < s.m) (l : List UInt8) (hl : l.length = 64) (v : Value) (hv : v = .string ⟨l.toArray⟩) :
    DocAt L lo hi { s with T := up2 s.T d i l } (w.setCell ⟨L.T d, i, none⟩ v) := by
  have hT := h.ot d hd
  refine ⟨⟨h.wf.n1, h.wf.n2, h.wf.m1, h.wf.m2, fun d' i' hd' hi' => ?_, h.wf.cnt, h.wf.left⟩, h.ox.other _ _ ?_, h.os.other _ _ ?_, h.ob.other _ _ ?_, h.oc.other _ _ ?_, fun d' hd' => ?_, fun d' hd' => (h.od d' hd').other _ _ ?_, h.it, h.ib, h.rx, h.rs, h.rb, h.rc, h.rt, h.rd⟩
  · show (up2 s.T d i l d' i').length = 64
    unfold up2; split
    · exact hl
    · exact h.wf.len d' i' hd' hi'
  · exact hT.ne h.ox (by decide)
  · exact hT.ne h.os (by decide)
  · exact hT.ne h.ob (by decide)
  · exact hT.ne h.oc (by decide)
  · by_cases e : d' = d
    · subst e
      refine (hT.set i v).congr fun j hj => ?_
      show Value.string ⟨(up2 s.T d' i l d' j).toArray⟩ = _
      unfold up2
      by_cases e2 : j = i
      · rw [if_pos ⟨rfl, e2⟩, if_pos e2, hv]
      · rw [if_neg (fun c => e2 c.2), if_neg e2]
    · refine ((h.ot d' hd').other _ _ (fun c => e (h.it d' d hd' hd c.symm))).congr fun j hj => ?_
      show Value.string ⟨(up2 s.T d i l d' j).toArray⟩ = _
      unfold up2
      rw [if_neg (fun c => e c.1)]
  · exact hT.ne (h.od d' hd') (by decide)
/-- One mark is stored. -/
theorem DocAt.setB {L : DLay} {lo hi : Nat} {s : RSt} {w : World} (h : DocAt L lo hi s w) (d i : Nat) (hd : d < s.n) (b : Bool) :
    DocAt L lo hi { s with bad := up2 s.bad d i b } (w.setCell ⟨L.B d, i, none⟩ (.bool b)) := by
  have hT := h.od d hd
  refine ⟨⟨h.wf.n1, h.wf.n2, h.wf.m1, h.wf.m2, h.wf.len, h.wf.cnt, h.wf.left⟩, h.ox.other _ _ ?_, h.os.other _ _ ?_, h.ob.other _ _ ?_, h.oc.other _ _ ?_, fun d' hd' => (h.ot d' hd').other _ _ ?_, fun d' hd' => ?_, h.it, h.ib, h.rx, h.rs, h.rb, h.rc, h.rt, h.rd⟩
  · exact hT.ne h.ox (by decide)
  · exact hT.ne h.os (by decide)
  · exact hT.ne h.ob (by decide)
  · exact hT.ne h.oc (by decide)
  · exact hT.ne (h.ot d' hd') (by decide)
  · by_cases e : d' = d
    · subst e
      refine (hT.set i _).congr fun j hj => ?_
      show Value.bool (up2 s.bad d' i b d' j) = _
      unfold up2
      by_cases e2 : j = i
      · rw [if_pos ⟨rfl, e2⟩, if_pos e2]
      · rw [if_neg (fun c => e2 c.2), if_neg e2]
    · refine ((h.od d' hd').other _ _ (fun c => e (h.ib d' d hd' hd c.symm))).congr fun j hj => ?_
      show Value.bool (up2 s.bad d i b d' j) = _
      unfold up2
      rw [if_neg (fun c => e c.1)]
theorem DocAt.inc {L : DLay} {lo hi : Nat} {s : RSt} {w : World} (h : DocAt L lo hi s w) (d : Nat) (hd : d < s.n) (v : Int) (hv : v = (((s.cnt d + 1) % 18446744073709551616 : Nat) : Int)) :
    DocAt L lo hi (s.inc d) (w.setCell ⟨L.cb, d, none⟩ (.int .u64 v)) := by
  have hC := h.oc
  refine ⟨h.wf.inc d, h.ox.other _ _ ?_, h.os.other _ _ ?_, h.ob.other _ _ ?_, (hC.set d _).congr fun j hj => ?_, fun d' hd' => (h.ot d' hd').other _ _ ?_, fun d' hd' => (h.od d' hd').other _ _ ?_, h.it, h.ib, h.rx, h.rs, h.rb, h.rc, h.rt, h.rd⟩
  · exact hC.ne h.ox (by decide)
  · exact hC.ne h.os (by decide)
  · exact hC.ne h.ob (by decide)
  · show Value.int .u64 ((if j = d then (s.cnt d + 1) % 18446744073709551616 else s.cnt j : Nat) : Int) = _
    by_cases e : j = d
    · rw [if_pos e, if_pos e, hv]
    · rw [if_neg e, if_neg e]
  · exact hC.ne (h.ot d' hd') (by decide)
  · exact hC.ne (h.od d' hd') (by decide)
theorem DocAt.setL {L : DLay} {lo hi : Nat} {s : RSt} {w : World} (h : DocAt L lo hi s w) (c : Bool) (k : Nat) (hk : k ≤ 9223372036854775807) (v : Int) (hv : v = if c then (k : Int) else -1) :
    DocAt L lo hi (s.lim c k) (w.setCell ⟨L.x, 3, none⟩ (.int .i64 v)) := by
  have hX := h.ox
  refine ⟨h.wf.lim c k hk, (hX.set 3 _).congr fun j hj => ?_, h.os.other _ _ ?_, h.ob.other _ _ ?_, h.oc.other _ _ ?_, fun d' hd' => (h.ot d' hd').other _ _ ?_, fun d' hd' => (h.od d' hd').other _ _ ?_, h.it, h.ib, h.rx, h.rs, h.rb, h.rc, h.rt, h.rd⟩
  · rcases (by omega : j = 0 ∨ j = 1 ∨ j = 2 ∨ j = 3) with rfl | rfl | rfl | rfl
    · rfl
    · rfl
    · rfl
    · rw [hv]; rfl
  · exact hX.ne h.os (by decide)
  · exact hX.ne h.ob (by decide)
  · exact hX.ne h.oc (by decide)
  · exact hX.ne (h.ot d' hd') (by decide)
  · exact hX.ne (h.od d' hd') (by decide)
end Go.Proofs.Ytnfehfmmpjbgdaa
