/- CutMath, DocSt, DocOps, DocOps2, DocOps3. -/
import Derived.Test.YtoekaabngjjefaaGreatPart23
import Derived.BigQuiet
import Derived.Deep.RegionHeld3
import Derived.Deep.RegionWith
import Derived.Shelf.Strings.Builder1
/- Two racks, of which one has a cut. -/
namespace Go.Proofs.YtoekaabngjjefaaGreat
open Go.RowKit
set_option linter.unusedVariables false
namespace RSt
/-- How many writes were done. -/
def sum3 (t : RSt) : Nat := t.cnt 0 + t.cnt 1 + t.cnt 2
theorem lim_writeE (t : RSt) (h : t.cut = false) (L : Nat) (d i : Int) (x : ByteArray) : (t.lim true L).writeE d i x = if t.writeE d i x = 0 ∧ L = 0 then 71 else t.writeE d i x := by
  have hd : t.down = false := by unfold RSt.down; rw [h]; rfl
  have hd2 : (t.lim true L).down = (L == 0) := by show (true && (L == 0)) = _; simp
  unfold writeE
  rw [hd, hd2, show (t.lim true L).there d i = t.there d i from rfl]
  cases t.there d i
  · simp
  · by_cases h2 : 64 < x.size
    · simp [h2]
    · by_cases h3 : L = 0
      · simp [h2, h3]
      · simp [h2, h3]
theorem cut_step (t : RSt) (hp : t.Plain) (N done : Nat) (hN : N ≤ 300) (hle : done ≤ N) (hsum : t.sum3 = done) (d i : Int) (x : ByteArray) :
    ((t.lim true (N - done)).writeE d i x = 71 ∧ done = N ∧ (t.lim true (N - done)).writeS d i x = t.lim true (N - done)) ∨
    ((t.lim true (N - done)).writeE d i x = 0 ∧ t.writeE d i x = 0 ∧ done + 1 ≤ N ∧ (t.lim true (N - done)).writeS d i x = (t.writeS d i x).lim true (N - (done + 1)) ∧ (t.writeS d i x).sum3 = done + 1) ∨
    (∃ e, (e = 70 ∨ e = 4) ∧ (t.lim true (N - done)).writeE d i x = e ∧ t.writeE d i x = e ∧ (t.lim true (N - done)).writeS d i x = t.lim true (N - done) ∧ t.writeS d i x = t) := by
  have hE := lim_writeE t hp.cut (N - done) d i x
  by_cases h0 : t.writeE d i x = 0
  · by_cases hL : N - done = 0
    · left
      rw [if_pos ⟨h0, hL⟩] at hE
      refine ⟨hE, by omega, ?_⟩
      unfold writeS
      rw [if_neg (by rw [hE]; decide)]
    · right; left
      rw [if_neg (by omega), h0] at hE
      have hs : t.writeS d i x = t.wr d.toNat i.toNat (padL x) := if_pos h0
      have hs2 : (t.lim true (N - done)).writeS d i x = (t.lim true (N - done)).wr d.toNat i.toNat (padL x) := if_pos hE
      refine ⟨hE, h0, by omega, ?_, ?_⟩
      · rw [hs2, hs]
        show RSt.mk _ _ _ _ _ _ _ = RSt.mk _ _ _ _ _ _ _
        congr 1
      · rw [hs]
        have hth : t.there d i = true := by
          rcases t.writeS_cases d i x with h | h
          · exact absurd h0 h.1
          · exact h.2.1
        obtain ⟨d', i', rfl, rfl, hd, hi⟩ := RSt.there_iff hth
        rw [hp.n] at hd
        rw [Int.toNat_natCast, Int.toNat_natCast]
        unfold sum3 at hsum ⊢
        show (if 0 = d' then (t.cnt d' + 1) % 18446744073709551616 else t.cnt 0) + (if 1 = d' then (t.cnt d' + 1) % 18446744073709551616 else t.cnt 1) + (if 2 = d' then (t.cnt d' + 1) % 18446744073709551616 else t.cnt 2) = done + 1
        rcases (by omega : d' = 0 ∨ d' = 1 ∨ d' = 2) with rfl | rfl | rfl
        · rw [if_pos rfl, if_neg (by decide), if_neg (by decide)]; omega
        · rw [if_neg (by decide), if_pos rfl, if_neg (by decide)]; omega
        · rw [if_neg (by decide), if_neg (by decide), if_pos rfl]; omega
  · right; right
    rw [if_neg (fun h => h0 h.1)] at hE
    refine ⟨t.writeE d i x, ?_, hE, rfl, if_neg (by rw [hE]; exact h0), if_neg h0⟩
    unfold writeE at h0 ⊢
    have hd : t.down = false := hp.down
    rw [hd] at h0 ⊢
    split
    · exact .inl rfl
    · split
      · exact .inr rfl
      · rename_i h1 h2
        rw [if_neg h1, if_neg h2] at h0
        exact absurd rfl h0
theorem lim_all (t : RSt) (c : Bool) (k : Nat) (d : Int) : (t.lim c k).all d = t.all d := by
  unfold RSt.all
  show (if t.drive d = true then (⟨((t.lim c k).allTo d.toNat t.m).toArray⟩ : ByteArray) else ByteArray.empty) = _
  rw [allTo_congr (s := t.lim c k) (s' := t) (d := d.toNat) t.m (fun _ _ => rfl)]
theorem Plain.lim {t : RSt} (h : t.Plain) (k : Nat) (hk : k ≤ 9223372036854775807) : (t.lim false k).Plain := ⟨h.wf.lim _ _ hk, h.n, h.m, rfl, h.bad⟩
theorem Plain.writeE0 {t : RSt} (h : t.Plain) {d i : Nat} (hd : d < 3) (hi : i < 8) (x : ByteArray) (hx : x.size ≤ 64) : t.writeE d i x = 0 ∧ t.writeS d i x = t.wr d i (padL x) := by
  have he : t.writeE d i x = 0 := by
    unfold RSt.writeE
    rw [h.there hd hi, h.down, if_neg (by decide), if_neg (by omega), if_neg (by decide)]
  refine ⟨he, ?_⟩
  unfold RSt.writeS
  rw [if_pos he, Int.toNat_natCast, Int.toNat_natCast]
end RSt
end Go.Proofs.YtoekaabngjjefaaGreat

/- How the document's rack lies in memory. -/
namespace Go.Proofs.YtoekaabngjjefaaGreat
open Go.RowKit
set_option linter.unusedVariables false
/-- Block b has elements of type t, the first n of them told by f. -/
def Rowf (w : World) (b : Nat) (t : TypeId) (n : Nat) (f : Nat → Value) : Prop := ∃ cs, w.heap[b]? = some (.cells cs t (0, 0)) ∧ ∀ j, j < n → cs[j]? = some (f j)
theorem Rowf.cell {w : World} {b : Nat} {t : TypeId} {n : Nat} {f : Nat → Value} (h : Rowf w b t n f) (j : Nat) (hj : j < n) : w.cell? ⟨b, j, none⟩ = some (f j) := by
  obtain ⟨cs, h1, h2⟩ := h
  rw [cell_of_row _ _ _ _ _ _ h1]; exact h2 j hj
theorem Rowf.free {w : World} {b : Nat} {t : TypeId} {n : Nat} {f : Nat → Value} (h : Rowf w b t n f) (j : Nat) : w.frozen? ⟨b, j, none⟩ = false := by
  obtain ⟨cs, h1, _⟩ := h
  exact frozen_row h1 j
theorem Rowf.lt {w : World} {b : Nat} {t : TypeId} {n : Nat} {f : Nat → Value} (h : Rowf w b t n f) : b < w.heap.size := by
  obtain ⟨cs, h1, _⟩ := h
  exact (Array.getElem?_eq_some_iff.1 h1).1
theorem Rowf.frame {w w' : World} {b : Nat} {t : TypeId} {n : Nat} {f : Nat → Value} (h : Rowf w b t n f) (e : w'.heap[b]? = w.heap[b]?) : Rowf w' b t n f := by
  obtain ⟨cs, h1, h2⟩ := h
  exact ⟨cs, by rw [e]; exact h1, h2⟩
theorem Rowf.ne {w : World} {b b' : Nat} {t t' : TypeId} {n n' : Nat} {f f' : Nat → Value} (h : Rowf w b t n f) (h' : Rowf w b' t' n' f') (e : t ≠ t') : b ≠ b' := by
  rintro rfl
  obtain ⟨cs, h1, _⟩ := h
  obtain ⟨cs', h2, _⟩ := h'
  rw [h1] at h2
  injection h2 with h2
  injection h2 with _ h2
  exact e h2
theorem Rowf.congr {w : World} {b : Nat} {t : TypeId} {n : Nat} {f f' : Nat → Value} (h : Rowf w b t n f) (e : ∀ j, j < n → f' j = f j) : Rowf w b t n f' := by
  obtain ⟨cs, h1, h2⟩ := h
  exact ⟨cs, h1, fun j hj => by rw [e j hj]; exact h2 j hj⟩
theorem Rowf.other {w : World} {b : Nat} {t : TypeId} {n : Nat} {f : Nat → Value} (h : Rowf w b t n f) (a : Addr) (v : Value) (hne : a.block ≠ b) : Rowf (w.setCell a v) b t n f :=
  h.frame (Below.heap_setCell _ _ _ _ (fun e => hne e.symm))
theorem Rowf.set {w : World} {b : Nat} {t : TypeId} {n : Nat} {f : Nat → Value} (h : Rowf w b t n f) (k : Nat) (v : Value) : Rowf (w.setCell ⟨b, k, none⟩ v) b t n (fun j => if j = k then v else f j) := by
  obtain ⟨cs, h1, h2⟩ := h
  refine ⟨cs.setIfInBounds k v, by simp [World.setCell, Array.getElem?_modify, h1], fun j hj => ?_⟩
  rw [Array.getElem?_setIfInBounds]
  by_cases e : j = k
  · subst e
    have := (Array.getElem?_eq_some_iff.1 (h2 j hj)).1
    simp [this]
  · rw [if_neg (fun c => e c.symm)]
    show _ = some (if j = k then v else f j)
    rw [if_neg e]; exact h2 j hj
/-- Where the parts of the document's rack lie. -/
structure DLay where
  x : Nat
  sb : Nat
  bb : Nat
  cb : Nat
  T : Nat → Nat
  B : Nat → Nat
  cs : Nat
  cn : Nat
  ct : Nat → Nat
def leftV (s : RSt) : Int := if s.cut then (s.left : Int) else -1
def headF (L : DLay) (s : RSt) (j : Nat) : Value :=
  if j = 0 then .slice (some ⟨L.sb, 0, none⟩) s.n L.cs else if j = 1 then .slice (some ⟨L.bb, 0, none⟩) s.n L.cn else if j = 2 then .slice (some ⟨L.cb, 0, none⟩) s.n s.n else .int .i64 (leftV s)
structure DocAt (L : DLay) (lo hi : Nat) (s : RSt) (w : World) : Prop where
  wf : s.Wf
  ox : Rowf w L.x 70 4 (headF L s)
  os : Rowf w L.sb 71 s.n fun d => .slice (some ⟨L.T d, 0, none⟩) s.m (L.ct d)
  ob : Rowf w L.bb 51 s.n fun d => .slice (some ⟨L.B d, 0, none⟩) s.m s.m
  oc : Rowf w L.cb 34 s.n fun d => .int .u64 (s.cnt d : Nat)
  ot : ∀ d, d < s.n → Rowf w (L.T d) 9 s.m fun i => .string ⟨(s.T d i).toArray⟩
  od : ∀ d, d < s.n → Rowf w (L.B d) 4 s.m fun i => .bool (s.bad d i)
  it : ∀ d d', d < s.n → d' < s.n → L.T d = L.T d' → d = d'
  ib : ∀ d d', d < s.n → d' < s.n → L.B d = L.B d' → d = d'
  rx : lo ≤ L.x ∧ L.x < hi
  rs : lo ≤ L.sb ∧ L.sb < hi
  rb : lo ≤ L.bb ∧ L.bb < hi
  rc : lo ≤ L.cb ∧ L.cb < hi
  rt : ∀ d, d < s.n → lo ≤ L.T d ∧ L.T d < hi
  rd : ∀ d, d < s.n → lo ≤ L.B d ∧ L.B d < hi
theorem DocAt.frame {L : DLay} {lo hi : Nat} {s : RSt} {w w' : World} (h : DocAt L lo hi s w) (e : ∀ k, lo ≤ k → k < hi → k < w.heap.size → w'.heap[k]? = w.heap[k]?) : DocAt L lo hi s w' :=
  ⟨h.wf, h.ox.frame (e _ h.rx.1 h.rx.2 h.ox.lt), h.os.frame (e _ h.rs.1 h.rs.2 h.os.lt), h.ob.frame (e _ h.rb.1 h.rb.2 h.ob.lt), h.oc.frame (e _ h.rc.1 h.rc.2 h.oc.lt),
   fun d hd => (h.ot d hd).frame (e _ (h.rt d hd).1 (h.rt d hd).2 (h.ot d hd).lt), fun d hd => (h.od d hd).frame (e _ (h.rd d hd).1 (h.rd d hd).2 (h.od d hd).lt),
   h.it, h.ib, h.rx, h.rs, h.rb, h.rc, h.rt, h.rd⟩
theorem DocAt.kept {L : DLay} {lo hi : Nat} {s : RSt} {w w' : World} (h : DocAt L lo hi s w) (k : Kept w w') : DocAt L lo hi s w' := h.frame fun j _ _ hj => k.block j hj
theorem DocAt.only {L : DLay} {lo hi a b : Nat} {s : RSt} {w w' : World} (h : DocAt L lo hi s w) (k : Only a b w w') (ha : b ≤ lo ∨ hi ≤ a) : DocAt L lo hi s w' := h.frame fun j h1 h2 hj => k.block j hj (by omega)
theorem DocAt.drewN {L : DLay} {lo hi : Nat} {s : RSt} {w : World} (h : DocAt L lo hi s w) (m : Nat) : DocAt L lo hi s (w.drewN m) := h.frame fun _ _ _ _ => rfl
/-- One text is stored. -/
theorem DocAt.setT {L : DLay} {lo hi : Nat} {s : RSt} {w : World} (h : DocAt L lo hi s w) (d i : Nat) (hd : d < s.n) (him : i < s.m) (l : List UInt8) (hl : l.length = 64) (v : Value) (hv : v = .string ⟨l.toArray⟩) :
    DocAt L lo hi { s with T := up2 s.T d i l } (w.setCell ⟨L.T d, i, none⟩ v) := by
  have hT := h.ot d hd
  refine ⟨⟨h.wf.n1, h.wf.n2, h.wf.m1, h.wf.m2, fun d' i' hd' hi' => ?_, h.wf.cnt, h.wf.left⟩, h.ox.other _ _ ?_, h.os.other _ _ ?_, h.ob.other _ _ ?_, h.oc.other _ _ ?_, fun d' hd' => ?_, fun d' hd' => (h.od d' hd').other _ _ ?_, h.it, h.ib, h.rx, h.rs, h.rb, h.rc, h.rt, h.rd⟩
  · show (up2 s.T d i l d' i').length = 64
    unfold up2; split
    · exact hl
    · exact h.wf.len d' i' hd' hi'
  · exact hT.ne h.ox (by decide)
  · exact hT.ne h.os (by decide)
  · exact hT.ne h.ob (by decide)
  · exact hT.ne h.oc (by decide)
  · by_cases e : d' = d
    · subst e
      refine (hT.set i v).congr fun j hj => ?_
      show Value.string ⟨(up2 s.T d' i l d' j).toArray⟩ = _
      unfold up2
      by_cases e2 : j = i
      · rw [if_pos ⟨rfl, e2⟩, if_pos e2, hv]
      · rw [if_neg (fun c => e2 c.2), if_neg e2]
    · refine ((h.ot d' hd').other _ _ (fun c => e (h.it d' d hd' hd c.symm))).congr fun j hj => ?_
      show Value.string ⟨(up2 s.T d i l d' j).toArray⟩ = _
      unfold up2
      rw [if_neg (fun c => e c.1)]
  · exact hT.ne (h.od d' hd') (by decide)
/-- One mark is stored. -/
theorem DocAt.setB {L : DLay} {lo hi : Nat} {s : RSt} {w : World} (h : DocAt L lo hi s w) (d i : Nat) (hd : d < s.n) (b : Bool) :
    DocAt L lo hi { s with bad := up2 s.bad d i b } (w.setCell ⟨L.B d, i, none⟩ (.bool b)) := by
  have hT := h.od d hd
  refine ⟨⟨h.wf.n1, h.wf.n2, h.wf.m1, h.wf.m2, h.wf.len, h.wf.cnt, h.wf.left⟩, h.ox.other _ _ ?_, h.os.other _ _ ?_, h.ob.other _ _ ?_, h.oc.other _ _ ?_, fun d' hd' => (h.ot d' hd').other _ _ ?_, fun d' hd' => ?_, h.it, h.ib, h.rx, h.rs, h.rb, h.rc, h.rt, h.rd⟩
  · exact hT.ne h.ox (by decide)
  · exact hT.ne h.os (by decide)
  · exact hT.ne h.ob (by decide)
  · exact hT.ne h.oc (by decide)
  · exact hT.ne (h.ot d' hd') (by decide)
  · by_cases e : d' = d
    · subst e
      refine (hT.set i _).congr fun j hj => ?_
      show Value.bool (up2 s.bad d' i b d' j) = _
      unfold up2
      by_cases e2 : j = i
      · rw [if_pos ⟨rfl, e2⟩, if_pos e2]
      · rw [if_neg (fun c => e2 c.2), if_neg e2]
    · refine ((h.od d' hd').other _ _ (fun c => e (h.ib d' d hd' hd c.symm))).congr fun j hj => ?_
      show Value.bool (up2 s.bad d i b d' j) = _
      unfold up2
      rw [if_neg (fun c => e c.1)]
theorem DocAt.inc {L : DLay} {lo hi : Nat} {s : RSt} {w : World} (h : DocAt L lo hi s w) (d : Nat) (hd : d < s.n) (v : Int) (hv : v = (((s.cnt d + 1) % 18446744073709551616 : Nat) : Int)) :
    DocAt L lo hi (s.inc d) (w.setCell ⟨L.cb, d, none⟩ (.int .u64 v)) := by
  have hC := h.oc
  refine ⟨h.wf.inc d, h.ox.other _ _ ?_, h.os.other _ _ ?_, h.ob.other _ _ ?_, (hC.set d _).congr fun j hj => ?_, fun d' hd' => (h.ot d' hd').other _ _ ?_, fun d' hd' => (h.od d' hd').other _ _ ?_, h.it, h.ib, h.rx, h.rs, h.rb, h.rc, h.rt, h.rd⟩
  · exact hC.ne h.ox (by decide)
  · exact hC.ne h.os (by decide)
  · exact hC.ne h.ob (by decide)
  · show Value.int .u64 ((if j = d then (s.cnt d + 1) % 18446744073709551616 else s.cnt j : Nat) : Int) = _
    by_cases e : j = d
    · rw [if_pos e, if_pos e, hv]
    · rw [if_neg e, if_neg e]
  · exact hC.ne (h.ot d' hd') (by decide)
  · exact hC.ne (h.od d' hd') (by decide)
theorem DocAt.setL {L : DLay} {lo hi : Nat} {s : RSt} {w : World} (h : DocAt L lo hi s w) (c : Bool) (k : Nat) (hk : k ≤ 9223372036854775807) (v : Int) (hv : v = if c then (k : Int) else -1) :
    DocAt L lo hi (s.lim c k) (w.setCell ⟨L.x, 3, none⟩ (.int .i64 v)) := by
  have hX := h.ox
  refine ⟨h.wf.lim c k hk, (hX.set 3 _).congr fun j hj => ?_, h.os.other _ _ ?_, h.ob.other _ _ ?_, h.oc.other _ _ ?_, fun d' hd' => (h.ot d' hd').other _ _ ?_, fun d' hd' => (h.od d' hd').other _ _ ?_, h.it, h.ib, h.rx, h.rs, h.rb, h.rc, h.rt, h.rd⟩
  · rcases (by omega : j = 0 ∨ j = 1 ∨ j = 2 ∨ j = 3) with rfl | rfl | rfl | rfl
    · rfl
    · rfl
    · rfl
    · rw [hv]; rfl
  · exact hX.ne h.os (by decide)
  · exact hX.ne h.ob (by decide)
  · exact hX.ne h.oc (by decide)
  · exact hX.ne (h.ot d' hd') (by decide)
  · exact hX.ne (h.od d' hd') (by decide)
end Go.Proofs.YtoekaabngjjefaaGreat

/- What the document's rack answers. -/
namespace Go.Proofs.YtoekaabngjjefaaGreat
open Go.RowKit RSt
set_option linter.unusedVariables false
theorem info_u8d : (Tryz.prog.info? 5).map (fun i => (i.zero, i.size, i.bytes)) = some (some (.int .u8 0), 1, 1) := by kernel_rfl
def none64 : ByteArray := ⟨zero64.toArray⟩
theorem mk64 : ∃ M, (∀ W, (Instr.makeSlice 84 (.int .i64 64) (.int .i64 64)).run Tryz.prog W = .ok (.slice (some ⟨W.heap.size, 0, none⟩) 64 64) (W.alloc (.cells M 5))) ∧
    ∀ W : World, (convert 84 9 (.slice (some ⟨W.heap.size, 0, none⟩) 64 64)).run Tryz.prog (W.alloc (.cells M 5)) = .ok (.string none64) (W.alloc (.cells M 5)) := by
  obtain ⟨i0, hi, hzz⟩ := Option.map_eq_some_iff.1 info_u8d
  simp only [Prod.mk.injEq] at hzz
  refine ⟨madeCells #[.int .u8 0] 64, fun W => ?_, fun W => ?_⟩
  · have h := run_make (P := Tryz.prog) W 84 5 i0 _ Tryz.underlying84 hi hzz.1 .i64 .i64 64 64 (by decide) (by decide) (by rw [hzz.2.2]; decide) (by decide)
    rw [hzz.2.1] at h
    exact h
  · have hr := run_convert_bytes_back (P := Tryz.prog) (W.alloc (.cells (madeCells #[.int .u8 0] 64) 5)) 84 9 5 ⟨W.heap.size, 0, none⟩ 64 (List.replicate 64 (0 : UInt8)) Tryz.underlying84 Tryz.underlying5 Tryz.underlying9 (fun j hj => by
      rw [add_at, World.cell?_alloc_mark]
      have hj' : j < 64 := by rw [List.length_replicate] at hj; exact hj
      have h := made_get #[.int .u8 0] 64 j 0 hj' (by decide)
      rw [show (#[Value.int .u8 0] : Array Value).size = 1 from rfl, Nat.mul_one, Nat.mul_one] at h
      rw [show j + 0 = j from rfl] at h
      rw [h, List.getElem_replicate]
      rfl)
    rw [List.length_replicate] at hr
    exact hr
set_option maxRecDepth 100000 in
theorem none_text (w : World) : Calls Tryz.prog 22 #[] w fun r w' => r = .returned (.string none64) ∧ Kept w w' := by
  obtain ⟨M, hM, hMC⟩ := mk64
  obtain ⟨Z, hZ⟩ : ∃ Z, Z = none64 := ⟨_, rfl⟩
  rw [← hZ] at hMC
  rw [← hZ]
  clear hZ
  go_enter Tryz.func22, Tryz.ntmps22
  go_wp2_with fail
  go_ret
  exact ⟨rfl, (Kept.refl _).alloc _⟩
set_option maxHeartbeats 1000000 in
set_option maxRecDepth 100000 in
theorem there_any (L : DLay) (lo hi : Nat) (s : RSt) (d i : Int) (w : World) (h : DocAt L lo hi s w) :
    Calls Tryz.prog 45 #[.pointer (some ⟨L.x, 0, none⟩), .int .i64 d, .int .i64 i] w fun r w' => r = .returned (.bool (s.there d i)) ∧ w' = w := by
  have c0 : w.cell? ⟨L.x, 0, none⟩ = some (.slice (some ⟨L.sb, 0, none⟩) s.n L.cs) := h.ox.cell 0 (by decide)
  have c1 := h.os.cell 0 (by have := h.wf.n1; omega)
  have n1 := h.wf.n1
  have n2 := h.wf.n2
  have m2 := h.wf.m2
  clear h
  by_cases a1 : 0 ≤ d
  · have b1 : decide (0 ≤ d) = true := decide_eq_true a1
    by_cases a2 : d < s.n
    · have b2 : decide (d < s.n) = true := decide_eq_true a2
      by_cases a3 : 0 ≤ i
      · have b3 : decide (0 ≤ i) = true := decide_eq_true a3
        by_cases a4 : i < s.m
        · have b4 : decide (i < s.m) = true := decide_eq_true a4
          rw [show s.there d i = true from decide_eq_true ⟨a1, a2, a3, a4⟩]
          clear a1 a2 a3 a4
          go_enter Tryz.func45, Tryz.ntmps45
          go_wp2_with fail
          go_ret
          exact ⟨rfl, rfl⟩
        · have b4 : decide (i < s.m) = false := decide_eq_false a4
          rw [show s.there d i = false from decide_eq_false (fun c => a4 c.2.2.2)]
          clear a1 a2 a3 a4
          go_enter Tryz.func45, Tryz.ntmps45
          go_wp2_with fail
          go_ret
          exact ⟨rfl, rfl⟩
      · have b3 : decide (0 ≤ i) = false := decide_eq_false a3
        rw [show s.there d i = false from decide_eq_false (fun c => a3 c.2.2.1)]
        clear a1 a2 a3
        go_enter Tryz.func45, Tryz.ntmps45
        go_wp2_with fail
        go_ret
        exact ⟨rfl, rfl⟩
    · have b2 : decide (d < s.n) = false := decide_eq_false a2
      rw [show s.there d i = false from decide_eq_false (fun c => a2 c.2.1)]
      clear a1 a2
      go_enter Tryz.func45, Tryz.ntmps45
      go_wp2_with fail
      go_ret
      exact ⟨rfl, rfl⟩
  · have b1 : decide (0 ≤ d) = false := decide_eq_false a1
    rw [show s.there d i = false from decide_eq_false (fun c => a1 c.1)]
    clear a1
    go_enter Tryz.func45, Tryz.ntmps45
    go_wp2_with fail
    go_ret
    exact ⟨rfl, rfl⟩
theorem drive_there {s : RSt} (h : s.Wf) (d : Int) : s.there d 0 = s.drive d := by
  have := h.m1
  unfold RSt.there RSt.drive
  by_cases e : 0 ≤ d ∧ d < s.n
  · rw [decide_eq_true e, decide_eq_true ⟨e.1, e.2, by omega, by omega⟩]
  · rw [decide_eq_false e, decide_eq_false (fun c => e ⟨c.1, c.2.1⟩)]
theorem leftV_zero (s : RSt) : (leftV s == 0) = s.down := by
  unfold leftV RSt.down
  cases s.cut
  · rfl
  · by_cases e : s.left = 0
    · rw [e]; rfl
    · have h1 : ((s.left : Int) == 0) = false := by simp [e]
      have h2 : (s.left == 0) = false := by simp [e]
      show ((s.left : Int) == 0) = (true && (s.left == 0))
      rw [h1, h2]; rfl
set_option maxRecDepth 100000 in
theorem dSpoil_any (L : DLay) (lo hi : Nat) (s : RSt) (d i : Int) (w : World) (h : DocAt L lo hi s w) :
    Calls Tryz.prog 38 #[.pointer (some ⟨L.x, 0, none⟩), .int .i64 d, .int .i64 i] w fun r w' => r = .returned (.int .i64 (s.spoilE d i : Nat)) ∧ DocAt L lo hi (s.spoilS d i) w' ∧ Only lo hi w w' := by
  have HD := Lib.hid h
  have hcall := there_any L lo hi s d i w h
  unfold RSt.spoilE RSt.spoilS
  cases hd : s.there d i
  · rw [hd] at hcall
    have HCALL := Lib.hid hcall
    rw [if_neg (by decide), if_neg (by decide)]
    clear hcall h
    go_enter Tryz.func38, Tryz.ntmps38
    go_wp2_with fail
    refine HCALL.out.mono ?_
    rintro e w1 ⟨rfl, rfl⟩
    clear HCALL
    go_wp2_with fail
    go_ret
    exact ⟨rfl, HD.out, Only.refl _ _ _⟩
  · rw [hd] at hcall
    have HCALL := Lib.hid hcall
    rw [if_pos rfl, if_pos rfl]
    obtain ⟨d', i', rfl, rfl, hdn, him⟩ := RSt.there_iff hd
    rw [Int.toNat_natCast, Int.toNat_natCast]
    have c1 : w.cell? ⟨L.x, 1, none⟩ = some (.slice (some ⟨L.bb, 0, none⟩) s.n L.cn) := h.ox.cell 1 (by decide)
    have c3 := h.ob.cell d' hdn
    have c4 := (h.od d' hdn).cell i' him
    have f4 := (h.od d' hdn).free i'
    have n2 := h.wf.n2
    have m2 := h.wf.m2
    have HS := Lib.hid (h.setB d' i' hdn true)
    have HO : Hid (Only lo hi w (w.setCell ⟨L.B d', i', none⟩ (.bool true))) := (Only.refl _ _ _).setCell _ _ (h.rd d' hdn).1 (h.rd d' hdn).2
    have HE : Hid (∀ W, DocAt L lo hi { s with bad := up2 s.bad d' i' true } W → DocAt L lo hi (s.spoil d' i') W) := fun W hW => by
      have e : s.spoil d' i' = { s with bad := up2 s.bad d' i' true } := by
        unfold RSt.spoil RSt.put
        congr 1
        funext a b
        show up2 s.T d' i' (s.T d' i') a b = _
        unfold up2
        split
        · rename_i c; rw [c.1, c.2]
        · rfl
      rw [e]; exact hW
    clear hcall h hd
    go_enter Tryz.func38, Tryz.ntmps38
    go_wp2_with fail
    refine HCALL.out.mono ?_
    rintro e w1 ⟨rfl, rfl⟩
    clear HCALL
    go_wp2_with fail
    go_ret
    exact ⟨rfl, HE.out _ HS.out, HO.out⟩
set_option maxHeartbeats 1000000 in
set_option maxRecDepth 100000 in
theorem dRead_any (L : DLay) (lo hi : Nat) (s : RSt) (d i : Int) (w : World) (h : DocAt L lo hi s w) :
    Calls Tryz.prog 29 #[.pointer (some ⟨L.x, 0, none⟩), .int .i64 d, .int .i64 i] w fun r w' => r = .returned (.tuple #[.string (s.readT d i), .int .i64 (s.readE d i : Nat)]) ∧ w' = w := by
  have hcall := there_any L lo hi s d i w h
  have cl : w.cell? ⟨L.x, 3, none⟩ = some (.int .i64 (leftV s)) := h.ox.cell 3 (by decide)
  have hlz := leftV_zero s
  have HCALL := Lib.hid hcall
  clear hcall
  cases hdn : s.down
  · rw [hdn] at hlz
    cases hd : s.there d i
    · have he : s.readE d i = 70 := by unfold RSt.readE; rw [hdn, hd]; rfl
      have ht : s.readT d i = ByteArray.empty := by unfold RSt.readT; rw [he]; rfl
      rw [he, ht]
      have HC2 := HCALL
      rw [hd] at HC2
      clear h HCALL he ht
      go_enter Tryz.func29, Tryz.ntmps29
      go_wp2_with fail
      refine HC2.out.mono ?_
      rintro e w1 ⟨rfl, rfl⟩
      clear HC2
      go_wp2_with fail
      go_ret2
      exact ⟨rfl, rfl⟩
    · obtain ⟨d', i', rfl, rfl, hdn', him⟩ := RSt.there_iff hd
      have hE : s.readE d' i' = if s.bad d' i' then 72 else 0 := by unfold RSt.readE; rw [hdn, hd, Int.toNat_natCast, Int.toNat_natCast]; rfl
      have hT : s.readT d' i' = if s.bad d' i' then ByteArray.empty else ⟨(s.T d' i').toArray⟩ := by
        unfold RSt.readT; rw [hE, Int.toNat_natCast, Int.toNat_natCast]
        cases s.bad d' i' <;> rfl
      rw [hE, hT]
      clear hE hT
      have HC2 := HCALL
      rw [hd] at HC2
      have c0 : w.cell? ⟨L.x, 0, none⟩ = some (.slice (some ⟨L.sb, 0, none⟩) s.n L.cs) := h.ox.cell 0 (by decide)
      have c1 : w.cell? ⟨L.x, 1, none⟩ = some (.slice (some ⟨L.bb, 0, none⟩) s.n L.cn) := h.ox.cell 1 (by decide)
      have c2 := h.os.cell d' hdn'
      have c3 := h.ob.cell d' hdn'
      have c4 := (h.od d' hdn').cell i' him
      have c5 := (h.ot d' hdn').cell i' him
      have n2 := h.wf.n2
      have m2 := h.wf.m2
      generalize (⟨(s.T d' i').toArray⟩ : ByteArray) = Y at *
      clear h HCALL hd
      cases hb : s.bad d' i'
      · rw [hb] at c4
        rw [if_neg (by decide), if_neg (by decide)]
        clear hb
        go_enter Tryz.func29, Tryz.ntmps29
        go_wp2_with fail
        refine HC2.out.mono ?_
        rintro e w1 ⟨rfl, rfl⟩
        clear HC2
        go_wp2_with fail
        go_ret2
        exact ⟨rfl, rfl⟩
      · rw [hb] at c4
        rw [if_pos rfl, if_pos rfl]
        clear hb
        go_enter Tryz.func29, Tryz.ntmps29
        go_wp2_with fail
        refine HC2.out.mono ?_
        rintro e w1 ⟨rfl, rfl⟩
        clear HC2
        go_wp2_with fail
        go_ret2
        exact ⟨rfl, rfl⟩
  · rw [hdn] at hlz
    have he : s.readE d i = 71 := by unfold RSt.readE; rw [hdn]; rfl
    have ht : s.readT d i = ByteArray.empty := by unfold RSt.readT; rw [he]; rfl
    rw [he, ht]
    clear h HCALL hdn he ht
    go_enter Tryz.func29, Tryz.ntmps29
    go_wp2_with fail
    go_ret2
    exact ⟨rfl, rfl⟩
end Go.Proofs.YtoekaabngjjefaaGreat

/- What the document's rack answers: writes. -/
namespace Go.Proofs.YtoekaabngjjefaaGreat
open Go.RowKit RSt
set_option linter.unusedVariables false
theorem pad_text (t : ByteArray) (h : t.size ≤ 64) : t ++ none64.extract t.size 64 = ⟨(padL t).toArray⟩ := by
  apply ByteArray.ext
  rw [ByteArray.data_append, ByteArray.data_extract]
  apply Array.ext'
  have hd : (List.replicate 64 (0 : UInt8)).drop t.size = List.replicate (64 - t.size) 0 := List.drop_replicate
  unfold padL none64 zero64
  rw [Array.toList_append, Array.toList_extract]
  show _ ++ (List.replicate 64 0).extract t.size 64 = _
  rw [List.extract_eq_take_drop, hd, List.take_of_length_le (by rw [List.length_replicate]; exact Nat.le_refl _)]
theorem leftV_pos (s : RSt) (h : s.down = false) : decide (0 < leftV s) = s.cut := by
  unfold leftV RSt.down at *
  cases hc : s.cut
  · rfl
  · rw [hc] at h
    have : s.left ≠ 0 := by simpa using h
    exact decide_eq_true (by show 0 < (s.left : Int); omega)
set_option maxHeartbeats 2000000 in
set_option maxRecDepth 100000 in
theorem dWrite_any (L : DLay) (lo hi : Nat) (s : RSt) (d i : Int) (t : ByteArray) (ht : t.size ≤ 9223372036854775807) (w : World) (h : DocAt L lo hi s w) :
    Calls Tryz.prog 31 #[.pointer (some ⟨L.x, 0, none⟩), .int .i64 d, .int .i64 i, .string t] w fun r w' => r = .returned (.int .i64 (s.writeE d i t : Nat)) ∧ DocAt L lo hi (s.writeS d i t) w' ∧ Only lo hi w w' := by
  have hcall := there_any L lo hi s d i w h
  have cl : w.cell? ⟨L.x, 3, none⟩ = some (.int .i64 (leftV s)) := h.ox.cell 3 (by decide)
  have hlz := leftV_zero s
  have HCALL := Lib.hid hcall
  have HD := Lib.hid h
  clear hcall
  rcases s.writeS_cases d i t with ⟨hne, hS⟩ | ⟨hE, hth, hsz, hdn, hS⟩
  · rw [hS]
    cases hth : s.there d i
    · have he : s.writeE d i t = 70 := by unfold RSt.writeE; rw [hth]; rfl
      rw [he]
      have HC2 := HCALL
      rw [hth] at HC2
      clear h HCALL he hne hS hth
      go_enter Tryz.func31, Tryz.ntmps31
      go_wp2_with fail
      refine HC2.out.mono ?_
      rintro e w1 ⟨rfl, rfl⟩
      clear HC2
      go_wp2_with fail
      go_ret
      exact ⟨rfl, HD.out, Only.refl _ _ _⟩
    · have HC2 := HCALL
      rw [hth] at HC2
      by_cases hsz : 64 < t.size
      · have he : s.writeE d i t = 4 := by unfold RSt.writeE; rw [hth, if_neg (by decide), if_pos hsz]
        rw [he]
        have hb : decide ((64 : Int) < (t.size : Nat)) = true := decide_eq_true (by omega)
        clear h HCALL he hne hS hth
        go_enter Tryz.func31, Tryz.ntmps31
        go_wp2_with fail
        refine HC2.out.mono ?_
        rintro e w1 ⟨rfl, rfl⟩
        clear HC2
        go_wp2_with fail
        go_ret
        exact ⟨rfl, HD.out, Only.refl _ _ _⟩
      · have hdn : s.down = true := by
          cases hd : s.down
          · exact absurd (by unfold RSt.writeE; rw [hth, hd, if_neg (by decide), if_neg hsz]; rfl) hne
          · rfl
        have he : s.writeE d i t = 71 := by unfold RSt.writeE; rw [hth, hdn, if_neg (by decide), if_neg hsz]; rfl
        rw [he]
        rw [hdn] at hlz
        have hb : decide ((64 : Int) < (t.size : Nat)) = false := decide_eq_false (by omega)
        clear h HCALL he hne hS hth hdn
        go_enter Tryz.func31, Tryz.ntmps31
        go_wp2_with fail
        refine HC2.out.mono ?_
        rintro e w1 ⟨rfl, rfl⟩
        clear HC2
        go_wp2_with fail
        go_ret
        exact ⟨rfl, HD.out, Only.refl _ _ _⟩
  · rw [hE, hS]
    have HC2 := HCALL
    rw [hth] at HC2
    rw [hdn] at hlz
    have hb : decide ((64 : Int) < (t.size : Nat)) = false := decide_eq_false (by omega)
    obtain ⟨d', i', rfl, rfl, hd', him⟩ := RSt.there_iff hth
    rw [Int.toNat_natCast, Int.toNat_natCast]
    have hpos := leftV_pos s hdn
    have n2 := h.wf.n2
    have m2 := h.wf.m2
    have HPT := Lib.hid (pad_text t hsz)
    have hp64 := padL_length t hsz
    have HNZ : Hid (none64.size = 64) := by show _ = _; kernel_rfl
    obtain ⟨nz, hnz⟩ : ∃ nz, nz = none64 := ⟨_, rfl⟩
    have hnone := none_text
    rw [← hnz] at hnone HPT HNZ
    have hnzs : nz.size = 64 := HNZ.out
    have HNONE := Lib.hid hnone
    have hsl : ∀ W, (Instr.slice 9 (.string nz) (some (.int .i64 (t.size : Nat))) none none).run Tryz.prog W = .ok (.string (nz.extract t.size 64)) W := fun W => by
      have h := run_slice_string_l (P := Tryz.prog) W 9 nz Tryz.underlying9 .i64 (t.size : Int) (by omega) (by omega)
      rw [Int.toNat_natCast, hnzs] at h
      exact h
    have hw := wrap_inc (s.cnt d')
    clear hth hE hS HCALL hnone hnz
    cases hcut : s.cut
    · rw [hcut] at hpos
      have HWR := Lib.hid (s.wr_free d' i' (padL t) hcut)
      go_enter Tryz.func31, Tryz.ntmps31
      go_wp2_with fail
      refine HC2.out.mono ?_
      rintro e W0 ⟨rfl, rfl⟩
      clear HC2 h
      have c0 : W0.cell? ⟨L.x, 0, none⟩ = some (.slice (some ⟨L.sb, 0, none⟩) s.n L.cs) := HD.out.ox.cell 0 (by decide)
      have c1 : W0.cell? ⟨L.sb, d', none⟩ = some (.slice (some ⟨L.T d', 0, none⟩) s.m (L.ct d')) := HD.out.os.cell d' hd'
      have c2 := (HD.out.ot d' hd').cell i' him
      have f2 := (HD.out.ot d' hd').free i'
      have hltT := (HD.out.ot d' hd').lt
      go_wp2_with fail
      go_region_with (first | (go_at_call 22; refine (HNONE.out _).mono ?_; rintro e wn ⟨rfl, hkn⟩; have q0 := cell_kept c0 (((Kept.refl _).drewN _).trans hkn); have q1 := cell_kept c1 (((Kept.refl _).drewN _).trans hkn); have q2 := cell_kept c2 (((Kept.refl _).drewN _).trans hkn); have q3 : wn.frozen? ⟨L.T d', i', none⟩ = false := by (rw [Below.frozen (((Kept.refl W0).drewN _).trans hkn) (p := ⟨L.T d', i', none⟩) hltT]; exact f2)))
      all_goals
        have KW : Kept W0 wn := ((Kept.refl _).drewN _).trans hkn
        have HA1 : Hid (DocAt L lo hi { s with T := up2 s.T d' i' (padL t) } (wn.setCell ⟨L.T d', i', none⟩ (.string (t ++ nz.extract t.size 64)))) := (HD.out.kept KW).setT d' i' hd' him (padL t) hp64 _ (congrArg Value.string HPT.out)
        have HO1 : Hid (Only lo hi W0 (wn.setCell ⟨L.T d', i', none⟩ (.string (t ++ nz.extract t.size 64)))) := ((Only.refl lo hi W0).trans (KW.only _ _)).setCell _ _ (HD.out.rt d' hd').1 (HD.out.rt d' hd').2
        generalize wn.setCell ⟨L.T d', i', none⟩ (.string (t ++ nz.extract t.size 64)) = A1 at *
        have e1 : A1.cell? ⟨L.x, 1, none⟩ = some (.slice (some ⟨L.bb, 0, none⟩) s.n L.cn) := HA1.out.ox.cell 1 (by decide)
        have e2 : A1.cell? ⟨L.bb, d', none⟩ = some (.slice (some ⟨L.B d', 0, none⟩) s.m s.m) := HA1.out.ob.cell d' hd'
        have e3 := (HA1.out.od d' hd').cell i' him
        have e4 := (HA1.out.od d' hd').free i'
        have HA2 := Lib.hid (HA1.out.setB d' i' hd' false)
        have HO2 : Hid (Only lo hi W0 (A1.setCell ⟨L.B d', i', none⟩ (.bool false))) := HO1.out.setCell _ _ (HA1.out.rd d' hd').1 (HA1.out.rd d' hd').2
        clear q0 q1 q2 q3 c0 c1 c2 f2 hltT KW hkn
        go_upto_region 11 with fail
        generalize A1.setCell ⟨L.B d', i', none⟩ (.bool false) = A2 at *
        have g1 : A2.cell? ⟨L.x, 2, none⟩ = some (.slice (some ⟨L.cb, 0, none⟩) s.n s.n) := HA2.out.ox.cell 2 (by decide)
        have g2 : A2.cell? ⟨L.cb, d', none⟩ = some (.int .u64 (s.cnt d' : Nat)) := HA2.out.oc.cell d' hd'
        have g3 := HA2.out.oc.free d'
        have HA3 := Lib.hid (HA2.out.inc d' hd' _ rfl)
        have HO3 : Hid (∀ v, Only lo hi W0 (A2.setCell ⟨L.cb, d', none⟩ v)) := fun v => HO2.out.setCell _ _ HA2.out.rc.1 HA2.out.rc.2
        clear e1 e2 e3 e4
        go_wp2_with fail
        go_ret
        rw [HWR.out]
        exact ⟨rfl, HA3.out, HO3.out _⟩
    · rw [hcut] at hpos
      have hwr := s.wr_cut d' i' (padL t) hcut
      rw [show ((s.put d' i' (padL t) false).inc d').cut = true from hcut] at hwr
      have HWR := Lib.hid hwr
      clear hwr
      have hl1 : 1 ≤ s.left := by
        unfold RSt.down at hdn
        rw [hcut] at hdn
        simp at hdn
        omega
      have hl2 := h.wf.left
      have hlv : leftV s = (s.left : Int) := by unfold leftV; rw [hcut]; rfl
      have fl : w.frozen? ⟨L.x, 3, none⟩ = false := h.ox.free 3
      have HDL : Hid (DocAt L lo hi (s.lim true (s.left - 1)) (w.setCell ⟨L.x, 3, none⟩ (.int .i64 ((s.left : Int) - 1)))) := h.setL true (s.left - 1) (by omega) _ (by rw [if_pos rfl]; omega)
      have HOL : Hid (Only lo hi w (w.setCell ⟨L.x, 3, none⟩ (.int .i64 ((s.left : Int) - 1)))) := (Only.refl _ _ _).setCell _ _ h.rx.1 h.rx.2
      rw [hlv] at cl hlz hpos
      clear hlv hdn
      go_enter Tryz.func31, Tryz.ntmps31
      go_wp2_with fail
      refine HC2.out.mono ?_
      rintro e W0 ⟨rfl, rfl⟩
      clear HC2 h
      go_upto_region 9 with fail
      generalize W0.setCell ⟨L.x, 3, none⟩ (.int .i64 ((s.left : Int) - 1)) = W1 at *
      clear cl fl
      have c0 : W1.cell? ⟨L.x, 0, none⟩ = some (.slice (some ⟨L.sb, 0, none⟩) s.n L.cs) := HDL.out.ox.cell 0 (by decide)
      have c1 : W1.cell? ⟨L.sb, d', none⟩ = some (.slice (some ⟨L.T d', 0, none⟩) s.m (L.ct d')) := HDL.out.os.cell d' hd'
      have c2 := (HDL.out.ot d' hd').cell i' him
      have f2 := (HDL.out.ot d' hd').free i'
      have hltT := (HDL.out.ot d' hd').lt
      go_wp2_with fail
      go_region_with (first | (go_at_call 22; refine (HNONE.out _).mono ?_; rintro e wn ⟨rfl, hkn⟩; have q0 := cell_kept c0 (((Kept.refl _).drewN _).trans hkn); have q1 := cell_kept c1 (((Kept.refl _).drewN _).trans hkn); have q2 := cell_kept c2 (((Kept.refl _).drewN _).trans hkn); have q3 : wn.frozen? ⟨L.T d', i', none⟩ = false := by (rw [Below.frozen (((Kept.refl W1).drewN _).trans hkn) (p := ⟨L.T d', i', none⟩) hltT]; exact f2)))
      all_goals
        have KW : Kept W1 wn := ((Kept.refl _).drewN _).trans hkn
        have HA1 : Hid (DocAt L lo hi { s.lim true (s.left - 1) with T := up2 s.T d' i' (padL t) } (wn.setCell ⟨L.T d', i', none⟩ (.string (t ++ nz.extract t.size 64)))) := (HDL.out.kept KW).setT d' i' hd' him (padL t) hp64 _ (congrArg Value.string HPT.out)
        have HO1 : Hid (Only lo hi W0 (wn.setCell ⟨L.T d', i', none⟩ (.string (t ++ nz.extract t.size 64)))) := (HOL.out.trans (KW.only _ _)).setCell _ _ (HDL.out.rt d' hd').1 (HDL.out.rt d' hd').2
        generalize wn.setCell ⟨L.T d', i', none⟩ (.string (t ++ nz.extract t.size 64)) = A1 at *
        have e1 : A1.cell? ⟨L.x, 1, none⟩ = some (.slice (some ⟨L.bb, 0, none⟩) s.n L.cn) := HA1.out.ox.cell 1 (by decide)
        have e2 : A1.cell? ⟨L.bb, d', none⟩ = some (.slice (some ⟨L.B d', 0, none⟩) s.m s.m) := HA1.out.ob.cell d' hd'
        have e3 := (HA1.out.od d' hd').cell i' him
        have e4 := (HA1.out.od d' hd').free i'
        have HA2 := Lib.hid (HA1.out.setB d' i' hd' false)
        have HO2 : Hid (Only lo hi W0 (A1.setCell ⟨L.B d', i', none⟩ (.bool false))) := HO1.out.setCell _ _ (HA1.out.rd d' hd').1 (HA1.out.rd d' hd').2
        clear q0 q1 q2 q3 c0 c1 c2 f2 hltT KW hkn
        go_upto_region 11 with fail
        generalize A1.setCell ⟨L.B d', i', none⟩ (.bool false) = A2 at *
        have g1 : A2.cell? ⟨L.x, 2, none⟩ = some (.slice (some ⟨L.cb, 0, none⟩) s.n s.n) := HA2.out.ox.cell 2 (by decide)
        have g2 : A2.cell? ⟨L.cb, d', none⟩ = some (.int .u64 (s.cnt d' : Nat)) := HA2.out.oc.cell d' hd'
        have g3 := HA2.out.oc.free d'
        have HA3 := Lib.hid (HA2.out.inc d' hd' _ rfl)
        have HO3 : Hid (∀ v, Only lo hi W0 (A2.setCell ⟨L.cb, d', none⟩ v)) := fun v => HO2.out.setCell _ _ HA2.out.rc.1 HA2.out.rc.2
        clear e1 e2 e3 e4
        go_wp2_with fail
        go_ret
        rw [HWR.out]
        exact ⟨rfl, HA3.out, HO3.out _⟩
end Go.Proofs.YtoekaabngjjefaaGreat

/- What the document's rack answers: wipes, and all of a drive. -/
namespace Go.Proofs.YtoekaabngjjefaaGreat
open Go.RowKit RSt
set_option linter.unusedVariables false
/-- The first k sectors of a drive are wiped. -/
def RSt.wipeTo (s : RSt) (d k : Nat) : RSt :=
  { s with T := fun d' i => if d' = d ∧ i < k then zero64 else s.T d' i, bad := fun d' i => if d' = d ∧ i < k then false else s.bad d' i }
theorem wipeTo_zero (s : RSt) (d : Nat) : s.wipeTo d 0 = s := by
  cases s
  unfold RSt.wipeTo
  simp
theorem wipeTo_next (s : RSt) (d k : Nat) : RSt.mk (s.wipeTo d k).n (s.wipeTo d k).m (up2 (s.wipeTo d k).T d k zero64) (up2 (s.wipeTo d k).bad d k false) (s.wipeTo d k).cnt (s.wipeTo d k).cut (s.wipeTo d k).left = s.wipeTo d (k + 1) := by
  unfold RSt.wipeTo
  congr 1
  · funext d' i
    show (if d' = d ∧ i = k then zero64 else if d' = d ∧ i < k then zero64 else s.T d' i) = if d' = d ∧ i < k + 1 then zero64 else s.T d' i
    by_cases e : d' = d
    · by_cases e2 : i = k
      · rw [if_pos ⟨e, e2⟩, if_pos ⟨e, by omega⟩]
      · by_cases e3 : i < k
        · rw [if_neg (fun c => e2 c.2), if_pos ⟨e, e3⟩, if_pos ⟨e, by omega⟩]
        · rw [if_neg (fun c => e2 c.2), if_neg (fun c => e3 c.2), if_neg (fun c => by have := c.2; omega)]
    · rw [if_neg (fun c => e c.1), if_neg (fun c => e c.1), if_neg (fun c => e c.1)]
  · funext d' i
    show (if d' = d ∧ i = k then false else if d' = d ∧ i < k then false else s.bad d' i) = if d' = d ∧ i < k + 1 then false else s.bad d' i
    by_cases e : d' = d
    · by_cases e2 : i = k
      · rw [if_pos ⟨e, e2⟩, if_pos ⟨e, by omega⟩]
      · by_cases e3 : i < k
        · rw [if_neg (fun c => e2 c.2), if_pos ⟨e, e3⟩, if_pos ⟨e, by omega⟩]
        · rw [if_neg (fun c => e2 c.2), if_neg (fun c => e3 c.2), if_neg (fun c => by have := c.2; omega)]
    · rw [if_neg (fun c => e c.1), if_neg (fun c => e c.1), if_neg (fun c => e c.1)]
/-- What is told of the sectors that are there is the same. -/
structure Alike (s s' : RSt) : Prop where
  n : s.n = s'.n
  m : s.m = s'.m
  cnt : s.cnt = s'.cnt
  cut : s.cut = s'.cut
  left : s.left = s'.left
  T : ∀ d i, d < s.n → i < s.m → s.T d i = s'.T d i
  bad : ∀ d i, d < s.n → i < s.m → s.bad d i = s'.bad d i
theorem DocAt.alike {L : DLay} {lo hi : Nat} {s s' : RSt} {w : World} (h : DocAt L lo hi s w) (a : Alike s s') : DocAt L lo hi s' w := by
  obtain ⟨n, m, T, bad, cnt, cut, left⟩ := s
  obtain ⟨n', m', T', bad', cnt', cut', left'⟩ := s'
  obtain ⟨h1, h2, h3, h4, h5, h6, h7⟩ := a
  simp only at h1 h2 h3 h4 h5 h6 h7
  subst h1 h2 h3 h4 h5
  exact ⟨⟨h.wf.n1, h.wf.n2, h.wf.m1, h.wf.m2, fun d i hd hi => by show (T' d i).length = 64; rw [← h6 d i hd hi]; exact h.wf.len d i hd hi, h.wf.cnt, h.wf.left⟩, h.ox, h.os, h.ob, h.oc,
    fun d hd => (h.ot d hd).congr fun i hi => by show Value.string ⟨(T' d i).toArray⟩ = .string ⟨(T d i).toArray⟩; rw [h6 d i hd hi],
    fun d hd => (h.od d hd).congr fun i hi => by show Value.bool (bad' d i) = .bool (bad d i); rw [h7 d i hd hi], h.it, h.ib, h.rx, h.rs, h.rb, h.rc, h.rt, h.rd⟩
theorem wipeTo_all (s : RSt) (d : Nat) : Alike (s.wipeTo d s.m) (s.wipe d) := by
  refine ⟨rfl, rfl, rfl, rfl, rfl, fun d' i hd hi => ?_, fun d' i hd hi => ?_⟩
  · show (if d' = d ∧ i < s.m then zero64 else s.T d' i) = if d' = d then zero64 else s.T d' i
    by_cases e : d' = d
    · rw [if_pos ⟨e, hi⟩, if_pos e]
    · rw [if_neg (fun c => e c.1), if_neg e]
  · show (if d' = d ∧ i < s.m then false else s.bad d' i) = if d' = d then false else s.bad d' i
    by_cases e : d' = d
    · rw [if_pos ⟨e, hi⟩, if_pos e]
    · rw [if_neg (fun c => e c.1), if_neg e]
set_option maxHeartbeats 2000000 in
set_option maxRecDepth 100000 in
theorem dWipe_any (L : DLay) (lo hi : Nat) (s : RSt) (d : Int) (w : World) (h : DocAt L lo hi s w) :
    Calls Tryz.prog 36 #[.pointer (some ⟨L.x, 0, none⟩), .int .i64 d] w fun r w' => r = .returned (.int .i64 (s.wipeE d : Nat)) ∧ DocAt L lo hi (s.wipeS d) w' ∧ Only lo hi w w' := by
  have HD := Lib.hid h
  have hth := drive_there h.wf d
  have hcall := there_any L lo hi s d 0 w h
  rw [hth] at hcall
  unfold RSt.wipeE RSt.wipeS
  cases hd : s.drive d
  · rw [hd] at hcall
    have HCALL := Lib.hid hcall
    rw [if_neg (by decide), if_neg (by decide)]
    clear hcall hth h
    go_enter Tryz.func36, Tryz.ntmps36
    go_wp2_with fail
    refine HCALL.out.mono ?_
    rintro e w1 ⟨rfl, rfl⟩
    clear HCALL
    go_wp2_with fail
    go_ret
    exact ⟨rfl, HD.out, Only.refl _ _ _⟩
  · rw [hd] at hcall
    have HCALL := Lib.hid hcall
    rw [if_pos rfl, if_pos rfl]
    obtain ⟨d', rfl, hd'⟩ := RSt.drive_iff hd
    rw [Int.toNat_natCast]
    have n2 := h.wf.n2
    have m2 := h.wf.m2
    obtain ⟨nz, hnz⟩ : ∃ nz, nz = none64 := ⟨_, rfl⟩
    have hnone := none_text
    rw [← hnz] at hnone
    have HNONE := Lib.hid hnone
    have HNZ := Lib.hid hnz
    clear hcall hth h hd hnone hnz
    go_enter Tryz.func36, Tryz.ntmps36
    go_wp2_with fail
    refine HCALL.out.mono ?_
    rintro e w1 ⟨rfl, rfl⟩
    clear HCALL
    obtain ⟨w0, hw0⟩ : ∃ w0, w0 = w1 := ⟨_, rfl⟩
    subst hw0
    go_wp2_with fail
    go_loopw [5] (fun i wr => ∃ k : Nat, k ≤ s.m ∧ i = .int .i64 k ∧ Hid (DocAt L lo hi (s.wipeTo d' k) wr) ∧ Hid (Only lo hi w0 wr)) (fun i _ => s.m - (intOf i).toNat)
    case atStart => exact ⟨0, Nat.zero_le _, rfl, by show DocAt _ _ _ _ _; rw [wipeTo_zero]; exact HD.out, Only.refl _ _ _⟩
    case round =>
      obtain ⟨k, hk, rfl, HDK, HO⟩ := hrel
      have c0 : wr.cell? ⟨L.x, 0, none⟩ = some (.slice (some ⟨L.sb, 0, none⟩) s.n L.cs) := HDK.out.ox.cell 0 (by decide)
      have c1 : wr.cell? ⟨L.sb, d', none⟩ = some (.slice (some ⟨L.T d', 0, none⟩) s.m (L.ct d')) := HDK.out.os.cell d' hd'
      by_cases hlt : k < s.m
      · have c2 := (HDK.out.ot d' hd').cell k hlt
        have f2 := (HDK.out.ot d' hd').free k
        have hltT := (HDK.out.ot d' hd').lt
        go_upto_region 6 with fail
        go_region_with (first | (go_at_call 22; refine (HNONE.out _).mono ?_; rintro e wn ⟨rfl, hkn⟩; have q0 := cell_kept c0 (((Kept.refl _).drewN _).trans hkn); have q1 := cell_kept c1 (((Kept.refl _).drewN _).trans hkn); have q2 := cell_kept c2 (((Kept.refl _).drewN _).trans hkn); have q3 : wn.frozen? ⟨L.T d', k, none⟩ = false := by (rw [Below.frozen (((Kept.refl wr).drewN _).trans hkn) (p := ⟨L.T d', k, none⟩) hltT]; exact f2)))
        all_goals
          have KW : Kept wr wn := ((Kept.refl _).drewN _).trans hkn
          have HA1 : Hid (DocAt L lo hi { s.wipeTo d' k with T := up2 (s.wipeTo d' k).T d' k zero64 } (wn.setCell ⟨L.T d', k, none⟩ (.string nz))) := (HDK.out.kept KW).setT d' k hd' hlt zero64 zero64_length _ (congrArg Value.string HNZ.out)
          have HO1 : Hid (Only lo hi w0 (wn.setCell ⟨L.T d', k, none⟩ (.string nz))) := (HO.out.trans (KW.only _ _)).setCell _ _ (HDK.out.rt d' hd').1 (HDK.out.rt d' hd').2
          generalize wn.setCell ⟨L.T d', k, none⟩ (.string nz) = A1 at *
          have e1 : A1.cell? ⟨L.x, 1, none⟩ = some (.slice (some ⟨L.bb, 0, none⟩) s.n L.cn) := HA1.out.ox.cell 1 (by decide)
          have e2 : A1.cell? ⟨L.bb, d', none⟩ = some (.slice (some ⟨L.B d', 0, none⟩) s.m s.m) := HA1.out.ob.cell d' hd'
          have e3 := (HA1.out.od d' hd').cell k hlt
          have e4 := (HA1.out.od d' hd').free k
          have HA2 := Lib.hid (HA1.out.setB d' k hd' false)
          have HA3 : Hid (DocAt L lo hi (s.wipeTo d' (k + 1)) (A1.setCell ⟨L.B d', k, none⟩ (.bool false))) := by
            show DocAt _ _ _ _ _
            rw [← wipeTo_next]
            exact HA2.out
          have HO2 : Hid (Only lo hi w0 (A1.setCell ⟨L.B d', k, none⟩ (.bool false))) := HO1.out.setCell _ _ (HA1.out.rd d' hd').1 (HA1.out.rd d' hd').2
          clear q0 q1 q2 q3 c0 c1 c2 f2 hltT KW hkn HA2
          go_wp2_with fail
          exact ⟨⟨k + 1, by omega, by go_num, HA3, HO2⟩, by simp [intOf]; omega⟩
      · obtain rfl : k = s.m := by omega
        go_wp2_with fail
        go_ret
        exact ⟨rfl, HDK.out.alike (wipeTo_all s d'), HO.out⟩
theorem shown_text (s : RSt) (d i : Nat) : (⟨(s.shown d i).toArray⟩ : ByteArray) = if s.bad d i then none64 else ⟨(s.T d i).toArray⟩ := by
  unfold RSt.shown none64
  cases s.bad d i <;> rfl
theorem strCells_of (l : List UInt8) : Lib.strCells ⟨l.toArray⟩ = Lib.byteCells l := by
  rw [Lib.strCells_eq]
theorem own_kept {B n : Nat} {e : TypeId} {v : Value} {xs : List Value} {w w' : World} (h : w.ownsRow B e 1 v n xs) (k : Kept w w') : w'.ownsRow B e 1 v n xs := by
  obtain ⟨h1, h2⟩ := h
  refine ⟨h1, ?_⟩
  rcases h2 with h2 | ⟨g, cap, cur, h2, h3, h4, h5⟩
  · exact .inl h2
  · exact .inr ⟨g, cap, cur, h2, h3, by rw [k.block g (Array.getElem?_eq_some_iff.1 h4).1]; exact h4, h5⟩
theorem own_text {B n : Nat} {v : Value} {l : List UInt8} {w : World} (h : w.ownsRow B 5 1 v n (Lib.byteCells l)) (hl : l.length = n) (hn : 1 ≤ n) :
    (convert 84 9 v).run Tryz.prog w = .ok (.string ⟨l.toArray⟩) w := by
  obtain ⟨h1, h2⟩ := h
  rcases h2 with ⟨_, h2⟩ | ⟨g, cap, cur, rfl, h3, h4, h5, h6, h7, h8⟩
  · omega
  · have hr := run_convert_bytes_back (P := Tryz.prog) w 84 9 5 ⟨g, 0, none⟩ cap l Tryz.underlying84 Tryz.underlying5 Tryz.underlying9 (fun j hj => by
      rw [add_at, cell_of_row _ _ j _ _ _ h4]
      have e : (cur.toList.take (n * 1))[j]? = (Lib.byteCells l)[j]? := by rw [h8]
      rw [List.getElem?_take_of_lt (by omega)] at e
      rw [← Array.getElem?_toList, e]
      unfold Lib.byteCells
      rw [List.getElem?_map, List.getElem?_eq_getElem hj]
      rfl)
    rw [hl] at hr
    exact hr
theorem info_byt : (Tryz.prog.info? 5).map (fun i => (i.zero, i.size, i.bytes)) = some (some (.int .u8 0), 1, 1) := by kernel_rfl
set_option maxHeartbeats 2000000 in
set_option maxRecDepth 100000 in
theorem dAll_any (L : DLay) (lo hi : Nat) (s : RSt) (d : Int) (w : World) (h : DocAt L lo hi s w) :
    Calls Tryz.prog 14 #[.pointer (some ⟨L.x, 0, none⟩), .int .i64 d] w fun r w' => r = .returned (.string (s.all d)) ∧ Kept w w' := by
  have HD := Lib.hid h
  have hth := drive_there h.wf d
  have hcall := there_any L lo hi s d 0 w h
  rw [hth] at hcall
  unfold RSt.all
  cases hd : s.drive d
  · rw [hd] at hcall
    have HCALL := Lib.hid hcall
    rw [if_neg (by decide)]
    clear hcall hth h
    go_enter Tryz.func14, Tryz.ntmps14
    go_wp2_with fail
    refine HCALL.out.mono ?_
    rintro e w1 ⟨rfl, rfl⟩
    clear HCALL
    go_wp2_with fail
    go_ret
    exact ⟨rfl, Kept.refl _⟩
  · rw [hd] at hcall
    have HCALL := Lib.hid hcall
    rw [if_pos rfl]
    obtain ⟨d', rfl, hd'⟩ := RSt.drive_iff hd
    rw [Int.toNat_natCast]
    have n2 := h.wf.n2
    have m2 := h.wf.m2
    have m1 := h.wf.m1
    obtain ⟨i0, hi0, hzz⟩ := Option.map_eq_some_iff.1 info_byt
    simp only [Prod.mk.injEq] at hzz
    obtain ⟨hz0, hz1, hz2⟩ := hzz
    clear hcall hth h hd
    go_enter Tryz.func14, Tryz.ntmps14
    go_wp2_with fail
    refine HCALL.out.mono ?_
    rintro e w1 ⟨rfl, rfl⟩
    clear HCALL
    obtain ⟨w0, hw0⟩ : ∃ w0, w0 = w1 := ⟨_, rfl⟩
    subst hw0
    go_wp2_with fail
    go_loopw [5, 6] (fun x i wr => ∃ k : Nat, k ≤ s.m ∧ i = .int .i64 k ∧ Hid (Kept w0 wr) ∧ Hid (wr.ownsRow w0.heap.size 5 1 x (k * 64) (Lib.byteCells (s.allTo d' k)))) (fun _ i _ => s.m - (intOf i).toNat)
    case atStart => exact ⟨0, Nat.zero_le _, rfl, Kept.refl _, World.ownsRow_nil _ _ _ _⟩
    case round =>
      obtain ⟨k, hk, rfl, HK, HO⟩ := hrel
      have HDK := HD.out.kept HK.out
      have c0 : wr.cell? ⟨L.x, 0, none⟩ = some (.slice (some ⟨L.sb, 0, none⟩) s.n L.cs) := HDK.ox.cell 0 (by decide)
      have c1 : wr.cell? ⟨L.sb, d', none⟩ = some (.slice (some ⟨L.T d', 0, none⟩) s.m (L.ct d')) := HDK.os.cell d' hd'
      by_cases hlt : k < s.m
      · have c2 : wr.cell? ⟨L.x, 1, none⟩ = some (.slice (some ⟨L.bb, 0, none⟩) s.n L.cn) := HDK.ox.cell 1 (by decide)
        have c3 : wr.cell? ⟨L.bb, d', none⟩ = some (.slice (some ⟨L.B d', 0, none⟩) s.m s.m) := HDK.ob.cell d' hd'
        have c4 := (HDK.od d' hd').cell k hlt
        have c5 := (HDK.ot d' hd').cell k hlt
        have HNXT : Hid (∀ (W : World) (X : Value), W.ownsRow w0.heap.size 5 1 X (k * 64 + (⟨(s.shown d' k).toArray⟩ : ByteArray).size) (Lib.byteCells (s.allTo d' k) ++ Lib.strCells ⟨(s.shown d' k).toArray⟩) → W.ownsRow w0.heap.size 5 1 X ((k + 1) * 64) (Lib.byteCells (s.allTo d' (k + 1)))) := fun W X h => by
          rw [strCells_of, ← Lib.byteCells_append, show (⟨(s.shown d' k).toArray⟩ : ByteArray).size = 64 from HDK.wf.shown hd' hlt, show k * 64 + 64 = (k + 1) * 64 by omega] at h
          exact h
        have HSZ : Hid ((⟨(s.shown d' k).toArray⟩ : ByteArray).size = 64) := HDK.wf.shown hd' hlt
        have hshown := shown_text s d' k
        clear HDK
        cases hb : s.bad d' k
        · rw [hb] at c4 hshown
          rw [if_neg (by decide)] at hshown
          rw [hshown] at HNXT HSZ
          generalize (⟨(s.T d' k).toArray⟩ : ByteArray) = Y at *
          clear hb hshown
          have hys : Y.size = 64 := HSZ.out
          go_wp2_with (first | (at_builtin; refine Lib.wpList_append_own_string _ rfl (.tmp 36) (.tmp 46) 84 9 rfl w0.heap.size 5 i0 Tryz.underlying84 Tryz.underlying9 hi0 hz0 hz1 hz2 _ _ _ rfl HO.out Y rfl (by unfold maxLen; omega) (by omega) HK.out.size ?_; intro v9 w9 hO9 hg9 _))
          have HK9 : Hid (Kept w0 w9) := Below.grown HK.out hg9 HK.out.size (fun q hq => (HO.out.lt q hq).1)
          have HO9 := Lib.hid (HNXT.out _ _ hO9)
          clear hO9 hg9
          go_wp2_with fail
          exact ⟨⟨k + 1, by omega, by go_num, HK9, HO9⟩, by simp [intOf]; omega⟩
        · rw [hb] at c4 hshown
          rw [if_pos rfl] at hshown
          rw [hshown] at HNXT HSZ
          obtain ⟨Y, hY⟩ : ∃ Y, Y = none64 := ⟨_, rfl⟩
          have hnone := none_text
          rw [← hY] at hnone HNXT HSZ
          have HNONE := Lib.hid hnone
          have hys : Y.size = 64 := HSZ.out
          clear hb hshown hnone hY
          go_wp2_with fail
          refine (HNONE.out _).mono ?_
          rintro e wn ⟨rfl, hkn⟩
          have HKN : Hid (Kept w0 wn) := HK.out.trans hkn
          have HON : Hid (wn.ownsRow w0.heap.size 5 1 u5 (k * 64) (Lib.byteCells (s.allTo d' k))) := own_kept HO.out hkn
          clear hkn
          go_wp2_with (first | (at_builtin; refine Lib.wpList_append_own_string _ rfl (.tmp 33) (.tmp 34) 84 9 rfl w0.heap.size 5 i0 Tryz.underlying84 Tryz.underlying9 hi0 hz0 hz1 hz2 _ _ _ rfl HON.out Y rfl (by unfold maxLen; omega) (by omega) HKN.out.size ?_; intro v9 w9 hO9 hg9 _))
          have HK9 : Hid (Kept w0 w9) := Below.grown HKN.out hg9 HKN.out.size (fun q hq => (HON.out.lt q hq).1)
          have HO9 := Lib.hid (HNXT.out _ _ hO9)
          clear hO9 hg9
          go_wp2_with fail
          exact ⟨⟨k + 1, by omega, by go_num, HK9, HO9⟩, by simp [intOf]; omega⟩
      · obtain rfl : k = s.m := by omega
        have hcv := own_text HO.out (allTo_length HDK.wf d' hd' s.m (Nat.le_refl _)) (by omega)
        clear HDK
        go_wp2_with fail
        go_ret
        exact ⟨rfl, HK.out⟩
end Go.Proofs.YtoekaabngjjefaaGreat

