/- TailAt, TailAdd, TailGrp, TailMk, TailDrv, TailPof. -/
import Derived.Test.YtmgkkoajjdgmbaaGreatDoorPart34
import Derived.Test.YtmgkkoajjdgmbaaGreatDoorPart32
import Derived.Deep.AppendLies
import Derived.Test.YtmgkkoajjdgmbaaGreatDoorPart35
import Derived.Test.YtmgkkoajjdgmbaaGreatDoorPart27
set_option linter.unusedVariables false
set_option linter.unusedSimpArgs false
set_option linter.unusedSectionVars false
set_option linter.unnecessarySimpa false
set_option linter.deprecated false
/- The program's tail: where it lies; the small calls. -/
namespace Go.Proofs.YtmgkkoajjdgmbaaGreatDoor
open Go.RowKit Sm Wr _root_.Go.Proofs.YtmgkkoajjdgmbaaGreatDoor.Nm
set_option linter.unusedVariables false
/-- A tail lies in block b; its sectors' row is v, among the blocks from B on. -/
structure TailAt (B b G : Nat) (g : Geo) (gen : Nat) (v : Value) (must : List ByteArray) (next : Nat) (br : Bool) (w : World) : Prop where
  ty : Typ w b 89
  pl : PlAt w b 0 G g gen
  cm : w.cell? ⟨b, 6, none⟩ = some v
  gt : Gat B v must w
  cn : w.cell? ⟨b, 7, none⟩ = some (.int .u64 (next : Nat))
  cb : w.cell? ⟨b, 8, none⟩ = some (.bool br)
theorem TailAt.frame {B b G gen next : Nat} {g : Geo} {v : Value} {must : List ByteArray} {br : Bool} {w w' : World} (h : TailAt B b G g gen v must next br w) (e : w'.heap[b]? = w.heap[b]?) (hv : ∀ q, v.ownBlock = some q → w'.heap[q]? = w.heap[q]?) : TailAt B b G g gen v must next br w' := by
  have ce : ∀ o, w'.cell? ⟨b, o, none⟩ = w.cell? ⟨b, o, none⟩ := fun o => World.cell?_of_block (w := w) (a := ⟨b, o, none⟩) e
  refine ⟨h.ty.frame e, h.pl.frame e, by rw [ce]; exact h.cm, ?_, by rw [ce]; exact h.cn, by rw [ce]; exact h.cb⟩
  obtain ⟨h1, h2⟩ := h.gt
  refine ⟨h1, ?_⟩
  rcases h2 with h2 | ⟨q, cap, cur, rfl, h3, h4, h5⟩
  · exact .inl h2
  · exact .inr ⟨q, cap, cur, rfl, h3, by rw [hv q rfl]; exact h4, h5⟩
theorem TailAt.kept {B b G gen next : Nat} {g : Geo} {v : Value} {must : List ByteArray} {br : Bool} {w w' : World} (h : TailAt B b G g gen v must next br w) (k : Kept w w') : TailAt B b G g gen v must next br w' :=
  h.frame (k.block b h.ty.lt) (fun q hq => k.block q (h.gt.lt q hq).2)
theorem TailAt.only {B b G gen next lo hi : Nat} {g : Geo} {v : Value} {must : List ByteArray} {br : Bool} {w w' : World} (h : TailAt B b G g gen v must next br w) (k : Only lo hi w w') (hb : b < lo ∨ hi ≤ b) (hB : hi ≤ B) : TailAt B b G g gen v must next br w' :=
  h.frame (k.block b h.ty.lt hb) (fun q hq => k.block q (h.gt.lt q hq).2 (.inr (by have := (h.gt.lt q hq).1; omega)))
theorem TailAt.ne {B b G gen next : Nat} {g : Geo} {v : Value} {must : List ByteArray} {br : Bool} {w : World} (h : TailAt B b G g gen v must next br w) : v.ownBlock ≠ some b := own_ne h.gt h.ty (by decide)
/-- What a call leaves that writes to the tail in block b and its row alone. -/
structure TLeft (b : Nat) (v : Value) (w w' : World) : Prop where
  os : w'.os = w.os
  tape : w'.tape = w.tape
  output : w'.output = w.output
  size : w.heap.size ≤ w'.heap.size
  block : ∀ k, k < w.heap.size → k ≠ b → v.ownBlock ≠ some k → w'.heap[k]? = w.heap[k]?
theorem Kept.tleft {w w' : World} (k : Kept w w') (b : Nat) (v : Value) : TLeft b v w w' := ⟨k.os, k.tape, k.output, k.size, fun j hj _ _ => k.block j hj⟩
theorem TLeft.kept {b : Nat} {v : Value} {u w w' : World} (h : Kept u w) (k : TLeft b v w w') (hb : u.heap.size ≤ b) (hv : ∀ q, v.ownBlock = some q → u.heap.size ≤ q) : Kept u w' :=
  Below.trans h ⟨k.os, k.tape, k.output, k.size, fun j hj => k.block j (Nat.lt_of_lt_of_le hj h.size) (by omega) (fun e => by have := hv j e; omega)⟩
set_option maxRecDepth 100000 in
theorem tnone_nil (w : World) : Calls Tryz.prog 44 #[.pointer none] w fun e w' => e = .returned (.bool true) ∧ w' = w := by
  go_enter Tryz.func44, Tryz.ntmps44
  go_wp2_with fail
  go_ret
  exact ⟨rfl, rfl⟩
set_option maxRecDepth 100000 in
theorem tnone_any (B b G : Nat) (g : Geo) (gen : Nat) (v : Value) (must : List ByteArray) (next : Nat) (br : Bool) (w : World) (h : TailAt B b G g gen v must next br w) : Calls Tryz.prog 44 #[.pointer (some ⟨b, 0, none⟩)] w fun e w' => e = .returned (.bool false) ∧ w' = w := by
  have c0 := h.pl.c0
  clear h
  go_enter Tryz.func44, Tryz.ntmps44
  go_wp2_with fail
  go_ret
  exact ⟨rfl, rfl⟩
set_option maxRecDepth 100000 in
theorem fault_nilT (w : World) : Calls Tryz.prog 32 #[.pointer none] w fun e w' => e = .returned (.int .i64 1) ∧ w' = w := by
  go_enter Tryz.func32, Tryz.ntmps32
  go_wp2_with fail
  refine (tnone_nil _).mono ?_
  rintro e w1 ⟨rfl, rfl⟩
  go_wp2_with fail
  go_ret
  exact ⟨rfl, rfl⟩
set_option maxRecDepth 100000 in
theorem fault_anyT (B b G : Nat) (g : Geo) (gen : Nat) (v : Value) (must : List ByteArray) (next : Nat) (br : Bool) (w : World) (h : TailAt B b G g gen v must next br w) : Calls Tryz.prog 32 #[.pointer (some ⟨b, 0, none⟩)] w fun e w' => e = .returned (.int .i64 ((if br then 3 else 0 : Nat) : Nat)) ∧ w' = w := by
  have HN := Lib.hid (tnone_any B b G g gen v must next br w h)
  have c8 := h.cb
  clear h
  go_enter Tryz.func32, Tryz.ntmps32
  go_wp2_with fail
  refine HN.out.mono ?_
  rintro e w1 ⟨rfl, rfl⟩
  cases br
  all_goals
    go_wp2_with fail
    go_ret
    exact ⟨rfl, rfl⟩
set_option maxRecDepth 100000 in
theorem told_any (B b G : Nat) (g : Geo) (gen : Nat) (v : Value) (must : List ByteArray) (next : Nat) (br : Bool) (e : Nat) (w : World) (h : TailAt B b G g gen v must next br w) : Calls Tryz.prog 40 #[.pointer (some ⟨b, 0, none⟩), .int .i64 (e : Nat)] w fun r w' => r = .returned (.int .i64 (e : Nat)) ∧ TailAt B b G g gen v must next (decide (e ≠ 0)) w' ∧ But b w w' := by
  have c8 := h.cb
  have f8 := h.ty.free 8
  have HF : Hid (∀ z, TailAt B b G g gen v must next z (w.setCell ⟨b, 8, none⟩ (.bool z)) ∧ But b w (w.setCell ⟨b, 8, none⟩ (.bool z))) := fun z => by
    have e : ∀ o, o ≠ 8 → (w.setCell ⟨b, 8, none⟩ (.bool z)).cell? ⟨b, o, none⟩ = w.cell? ⟨b, o, none⟩ := fun o ho => pt_off _ _ _ _ _ ho
    refine ⟨⟨h.ty.setCell _ _ _, ⟨by rw [e _ (by decide)]; exact h.pl.c0, by rw [e _ (by decide)]; exact h.pl.c1, by rw [e _ (by decide)]; exact h.pl.c2, by rw [e _ (by decide)]; exact h.pl.c3, by rw [e _ (by decide)]; exact h.pl.c4, by rw [e _ (by decide)]; exact h.pl.c5⟩, by rw [e _ (by decide)]; exact h.cm, own_set h.gt h.ty (by decide) _ _, by rw [e _ (by decide)]; exact h.cn, World.cell?_setCell_same _ _ _ h.cb⟩, (But.refl b w).setCell 8 _⟩
  clear h
  by_cases he : e = 0
  · have hz : ((e : Int) != 0) = false := by rw [he]; rfl
    have hd : decide (e ≠ 0) = false := by rw [he]; rfl
    rw [hd]
    clear he hd
    go_enter Tryz.func40, Tryz.ntmps40
    go_wp2_with fail
    go_ret
    exact ⟨rfl, HF.out false⟩
  · have hz : ((e : Int) != 0) = true := by rw [bne_iff_ne]; omega
    have hzN : (e != 0) = true := by rw [bne_iff_ne]; exact he
    have hd : decide (e ≠ 0) = true := decide_eq_true he
    rw [hd]
    clear he hd
    go_enter Tryz.func40, Tryz.ntmps40
    go_wp2_with fail
    go_ret
    exact ⟨rfl, HF.out true⟩
set_option maxRecDepth 100000 in
set_option maxHeartbeats 1000000 in
theorem left_any (B b G : Nat) (g : Geo) (gen : Nat) (v : Value) (must : List ByteArray) (next : Nat) (br : Bool) (w : World) (h : TailAt B b G g gen v must next br w) (h1 : 0 ≤ g.t) (h2 : g.t ≤ 512) (hl : must.length ≤ 100000) : Calls Tryz.prog 34 #[.pointer (some ⟨b, 0, none⟩)] w fun e w' => e = .returned (.int .i64 (g.t - (must.length : Nat))) ∧ Kept w w' := by
  obtain ⟨a, cap, rfl, _⟩ := h.gt.strs
  have hc4 := h.pl.c4
  have hcm := h.cm
  have HK : Hid (∀ W, Kept w W → W.cell? ⟨b, 4, none⟩ = some (.int .i64 g.t) ∧ W.cell? ⟨b, 6, none⟩ = some (.slice a must.length cap)) := fun W k => ⟨by rw [Below.cell k (p := ⟨b, 4, none⟩) h.ty.lt]; exact hc4, by rw [Below.cell k (p := ⟨b, 6, none⟩) h.ty.lt]; exact hcm⟩
  have hw : IntKind.i64.wrap (g.t - (must.length : Int)) = g.t - (must.length : Int) := IntWalk.i64_in _ (by omega)
  clear h hc4 hcm
  have KD : Hid (Kept w w.drew) := (Kept.refl w).drew
  have k0 := Kept.refl w
  go_enter Tryz.func34, Tryz.ntmps34
  go_upto_region 1 with fail
  go_region_held3 (fun W' => W'.cell? ⟨b, 4, none⟩ = some (.int .i64 g.t) ∧ W'.cell? ⟨b, 6, none⟩ = some (.slice a must.length cap))
    (first | exact HK.out _ k0 | exact HK.out _ KD.out)
    (fail)
  go_wp2_with fail
  go_ret
  exact ⟨rfl, KD.out⟩
set_option maxRecDepth 100000 in
theorem room_nilT (w : World) : Calls Tryz.prog 22 #[.pointer none] w fun e w' => e = .returned (.int .i64 0) ∧ w' = w := by
  go_enter Tryz.func22, Tryz.ntmps22
  go_wp2_with fail
  refine (tnone_nil _).mono ?_
  rintro e w1 ⟨rfl, rfl⟩
  go_wp2_with fail
  go_ret
  exact ⟨rfl, rfl⟩
set_option maxRecDepth 100000 in
theorem room_any (B b G : Nat) (g : Geo) (gen : Nat) (v : Value) (must : List ByteArray) (next : Nat) (br : Bool) (w : World) (h : TailAt B b G g gen v must next br w) (h1 : 0 ≤ g.t) (h2 : g.t ≤ 512) (hl : must.length ≤ 100000) : Calls Tryz.prog 22 #[.pointer (some ⟨b, 0, none⟩)] w fun e w' => e = .returned (.int .i64 ((g.t - (must.length : Nat)) * 34)) ∧ Kept w w' := by
  have HN := Lib.hid (tnone_any B b G g gen v must next br w h)
  have HL := Lib.hid (left_any B b G g gen v must next br w h h1 h2 hl)
  have hw : IntKind.i64.wrap ((g.t - (must.length : Nat)) * 34) = (g.t - (must.length : Nat)) * 34 := IntWalk.i64_in _ (by omega)
  clear h
  generalize g.t - (must.length : Nat) = x at *
  go_enter Tryz.func22, Tryz.ntmps22
  go_wp2_with fail
  refine HN.out.mono ?_
  rintro e w1 ⟨rfl, rfl⟩
  go_wp2_with fail
  refine HL.out.mono ?_
  rintro e w2 ⟨rfl, hk⟩
  have K2 := Lib.hid hk
  clear hk
  go_wp2_with fail
  go_ret
  exact ⟨rfl, K2.out⟩
set_option maxRecDepth 100000 in
theorem partsOf_any (t : ByteArray) (ht : t.size ≤ 1000000) (w : World) : Calls Tryz.prog 33 #[.string t] w fun e w' => e = .returned (.int .i64 (partsN t.size : Nat)) ∧ w' = w := by
  have hw1 : IntKind.i64.wrap ((t.size : Int) + 34) = (t.size : Int) + 34 := IntWalk.i64_in _ (by omega)
  have hw2 : IntKind.i64.wrap ((t.size : Int) + 34 - 1) = (t.size : Int) + 34 - 1 := IntWalk.i64_in _ (by omega)
  have hd : Int.tdiv ((t.size : Int) + 34 - 1) 34 = (((t.size + 33) / 34 : Nat) : Int) := by rw [Int.tdiv_eq_ediv_of_nonneg (by omega)]; omega
  have hw3 : IntKind.i64.wrap (((t.size + 33) / 34 : Nat) : Int) = (((t.size + 33) / 34 : Nat) : Int) := IntWalk.i64_in _ (by omega)
  have HP : Hid ((partsN t.size : Int) = max 1 (((t.size + 33) / 34 : Nat) : Int)) := by show _ = _; unfold partsN; omega
  generalize (t.size + 33) / 34 = m at *
  generalize partsN t.size = pn at *
  go_enter Tryz.func33, Tryz.ntmps33
  go_wp2_with fail
  go_ret
  refine ⟨?_, rfl⟩
  rw [HP.out]
  rfl
end Go.Proofs.YtmgkkoajjdgmbaaGreatDoor

/- The program's tail: sectors put behind those that are there; a group's sectors. -/
namespace Go.Proofs.YtmgkkoajjdgmbaaGreatDoor
open Go.RowKit Sm Wr _root_.Go.Proofs.YtmgkkoajjdgmbaaGreatDoor.Nm
set_option linter.unusedVariables false
theorem wpList_gatsL {ops : Array Oper} {rest : List Oper} {o : Oper} {a : Act} {Q : Exit → Act → World → Prop} (W : World) (hgd : o.guard = none) (s x : Operand)
    (ho : o.op = .call { callee := .builtin .append, args := #[s, x], argTypes := #[38, 38] })
    (B : Nat) (hB : B ≤ W.heap.size) (v : Value) (ss : List ByteArray) (hs : a.eval s = v) (hG : Gat B v ss W) (ts : List ByteArray) (g off c : Nat) (hx : a.eval x = .slice (some ⟨g, off, none⟩) ts.length c) (hc : ∀ i, i < ts.length → W.cell? ⟨g, off + i, none⟩ = some (.string (ts.getD i ByteArray.empty))) (h0 : 0 < ts.length) (hl : ss.length + ts.length ≤ 1000000)
    (h : ∀ a' c' w', Gat B (.slice a' (ss.length + ts.length) c') (ss ++ ts) w' → W.grownBy w' v.ownBlock → (∀ b, (Value.slice a' (ss.length + ts.length) c').ownBlock = some b → v.ownBlock = some b ∨ W.heap.size ≤ b) → wpList Tryz.prog ops Q rest (a.put o.dst (.slice a' (ss.length + ts.length) c')) w') : wpList Tryz.prog ops Q (o :: rest) a W := by
  obtain ⟨i0, hi, hzz⟩ := Option.map_eq_some_iff.1 info_string
  simp only [Prod.mk.injEq] at hzz
  refine wpList_append_lies W hgd s x 38 ho B 9 i0 (.string ByteArray.empty) 1 16 Tryz.underlying38 hi hzz.1 hzz.2.1 hzz.2.2 rfl (by decide) v ss.length (ss.map Value.string) hs hG ⟨g, off, none⟩ ts.length c (ts.map Value.string) hx (by rw [List.length_map, Nat.mul_one]) (cells_many W g off ts hc) (all_string ts) h0 (by unfold maxLen; omega) (by omega) hB _ rfl ?_
  intro g2 cap w' h2 h3 h4 h5
  refine h _ _ w' ?_ h3 (fun b hb => ?_)
  · unfold Gat
    rw [List.map_append, List.length_append]
    exact h2
  · injection hb with hb
    rcases h4 with h4 | h4
    · exact .inl (by rw [h4, ← hb])
    · exact .inr (by rw [← hb, h4]; exact Nat.le_refl _)
theorem add_done (B b G : Nat) (g : Geo) (gen : Nat) (v v9 : Value) (must ts : List ByteArray) (next : Nat) (br : Bool) (w w9 : World) (h : TailAt B b G g gen v must next br w) (hg : w.grownBy w9 v.ownBlock) (hG9 : Gat B v9 (must ++ ts) w9) :
    (w9.cell? ⟨b, 6, none⟩ = some v ∧ w9.frozen? ⟨b, 6, none⟩ = false ∧ w9.cell? ⟨b, 7, none⟩ = some (.int .u64 (next : Nat)) ∧ w9.frozen? ⟨b, 7, none⟩ = false) ∧
    TailAt B b G g gen v9 (must ++ ts) (next + 1) br ((w9.setCell ⟨b, 6, none⟩ v9).setCell ⟨b, 7, none⟩ (.int .u64 ((next + 1 : Nat) : Nat))) ∧ TLeft b v w ((w9.setCell ⟨b, 6, none⟩ v9).setCell ⟨b, 7, none⟩ (.int .u64 ((next + 1 : Nat) : Nat))) := by
  have e : w9.heap[b]? = w.heap[b]? := hg.block b h.ty.lt (fun c => h.ne c.symm)
  have ce : ∀ o, w9.cell? ⟨b, o, none⟩ = w.cell? ⟨b, o, none⟩ := fun o => World.cell?_of_block (w := w) (a := ⟨b, o, none⟩) e
  have ty9 := h.ty.frame e
  refine ⟨⟨by rw [ce]; exact h.cm, ty9.free 6, by rw [ce]; exact h.cn, ty9.free 7⟩, ⟨(ty9.setCell _ _ _).setCell _ _ _, ?_, ?_, own_set (own_set hG9 ty9 (by decide) _ _) (ty9.setCell _ _ _) (by decide) _ _, ?_, ?_⟩, ⟨hg.os, hg.tape, hg.output, by rw [World.size_setCell, World.size_setCell]; exact hg.size, fun k hk h1 h2 => ?_⟩⟩
  · have p := h.pl.frame e
    have cf : ∀ o, o ≠ 6 → o ≠ 7 → ((w9.setCell ⟨b, 6, none⟩ v9).setCell ⟨b, 7, none⟩ (.int .u64 ((next + 1 : Nat) : Nat))).cell? ⟨b, o, none⟩ = w9.cell? ⟨b, o, none⟩ := fun o h6 h7 => by rw [pt_off _ _ _ _ _ h7, pt_off _ _ _ _ _ h6]
    exact ⟨by rw [cf _ (by decide) (by decide)]; exact p.c0, by rw [cf _ (by decide) (by decide)]; exact p.c1, by rw [cf _ (by decide) (by decide)]; exact p.c2, by rw [cf _ (by decide) (by decide)]; exact p.c3, by rw [cf _ (by decide) (by decide)]; exact p.c4, by rw [cf _ (by decide) (by decide)]; exact p.c5⟩
  · rw [pt_off _ _ _ _ _ (by decide)]
    exact World.cell?_setCell_same _ _ _ (by rw [ce]; exact h.cm)
  · exact World.cell?_setCell_same _ _ _ (by rw [pt_off _ _ _ _ _ (by decide), ce]; exact h.cn)
  · rw [pt_off _ _ _ _ _ (by decide), pt_off _ _ _ _ _ (by decide), ce]
    exact h.cb
  · rw [Below.heap_setCell _ _ _ _ (by exact h1), Below.heap_setCell _ _ _ _ (by exact h1)]
    exact hg.block k hk (fun c => h2 c.symm)
set_option maxRecDepth 100000 in
set_option maxHeartbeats 1000000 in
theorem add_any (B b G : Nat) (g : Geo) (gen : Nat) (v : Value) (must : List ByteArray) (next : Nat) (br : Bool) (ts : List ByteArray) (q off c : Nat) (w : World) (h : TailAt B b G g gen v must next br w) (hB : B ≤ w.heap.size)
    (hts : ∀ i, i < ts.length → w.cell? ⟨q, off + i, none⟩ = some (.string (ts.getD i ByteArray.empty))) (h0 : 0 < ts.length) (hl : must.length + ts.length ≤ 1000000) (hn : next ≤ 1000000) :
    Calls Tryz.prog 39 #[.pointer (some ⟨b, 0, none⟩), .slice (some ⟨q, off, none⟩) ts.length c] w fun e w' => e = .returned (.tuple #[]) ∧ ∃ v', TailAt B b G g gen v' (must ++ ts) (next + 1) br w' ∧ TLeft b v w w' ∧ ∀ k, v'.ownBlock = some k → v.ownBlock = some k ∨ w.heap.size ≤ k := by
  have H := Lib.hid h
  have HTS := Lib.hid hts
  have HBB := Lib.hid hB
  obtain ⟨a, cap, rfl, _⟩ := h.gt.strs
  have hcm := h.cm
  have hf6 := h.ty.free 6
  have hw1 : IntKind.u64.wrap ((next : Int) + 1) = ((next + 1 : Nat) : Int) := by rw [IntWalk.u64_in _ (by omega)]; omega
  clear h hts hB
  go_enter Tryz.func39, Tryz.ntmps39
  go_wp2_with (first | (at_builtin; go_must (refine wpList_gatsL _ rfl (.tmp 8) (.tmp 9) rfl B HBB.out _ must (by rfl) H.out.gt ts q off c (by rfl) HTS.out h0 hl ?_); intro a9 c9 w9 hG9 hg9 hf9; obtain ⟨⟨e6, g6, e7, g7⟩, hT9⟩ := add_done B b G g gen _ _ must ts next br w w9 H.out hg9 hG9; have HT9 := Lib.hid hT9; have HF9 := Lib.hid hf9; clear hT9 hf9 hg9 hG9))
  go_end0
  exact ⟨rfl, _, HT9.out.1, HT9.out.2, HF9.out⟩
end Go.Proofs.YtmgkkoajjdgmbaaGreatDoor

/- The program's: a group's sectors. -/
namespace Go.Proofs.YtmgkkoajjdgmbaaGreatDoor
open Go.RowKit Sm Wr _root_.Go.Proofs.YtmgkkoajjdgmbaaGreatDoor.Nm
set_option linter.unusedVariables false
theorem of_at (t : ByteArray) (ht : t.size ≤ maxLen) (W : World) (q : Nat) (hq : W.cell? ⟨q, 0, none⟩ = some (.string t)) : Calls Tryz.prog 55 #[.slice (some ⟨q, 0, none⟩) 1 1] W fun e w' => e = .returned (.int .u32 (crc t.data.toList : Nat)) ∧ Kept W w' := by
  have h := of_any (some ⟨q, 0, none⟩) 1 [t] W (.inr ⟨q, 0, rfl, fun i hi => by
    obtain rfl : i = 0 := by simp at hi; exact hi
    exact hq⟩) (by simp) (by intro x hx; simp at hx; subst hx; exact ht)
  rw [cat_one] at h
  exact h
theorem grpL_take (gen num : Nat) (t : ByteArray) (d : Nat) (hd : d < partsN t.size) : (grpL gen num t).take (d + 1) = (grpL gen num t).take d ++ [(ptOf gen num t d).txt] := by
  have hl : d < (grpL gen num t).length := by rw [grpL_length]; exact hd
  have e : (grpL gen num t)[d] = (ptOf gen num t d).txt := by simp [grpL]
  rw [List.take_succ_eq_append_getElem hl, e]
theorem PtNew.frame9 {w w' : World} {b : Nat} {x : Pt} (h : PtNew w b x) (e : w'.heap[b]? = w.heap[b]?) : PtNew w' b x :=
  ⟨h.at'.frame e, fun o => by rw [World.frozen?_of_block (w := w) (a := ⟨b, o, none⟩) e]; exact h.fr o⟩
/-- An append of one text, as a walk meets it; all blocks but the row's own are as they were. -/
theorem wpList_gatK {ops : Array Oper} {rest : List Oper} {o : Oper} {a : Act} {Q : Exit → Act → World → Prop} (W : World) (hgd : o.guard = none) (s x : Operand)
    (ho : o.op = .call { callee := .builtin .append, args := #[s, x], argTypes := #[38, 38] })
    (w0 : World) (v : Value) (ss : List ByteArray) (hs : a.eval s = v) (hG : Gat w0.heap.size v ss W) (hK : Kept w0 W) (str : ByteArray) (g : Nat) (hx : a.eval x = .slice (some ⟨g, 0, none⟩) 1 1) (hc : W.cell? ⟨g, 0, none⟩ = some (.string str)) (hl : ss.length ≤ 1000000000)
    (h : ∀ v' w', Gat w0.heap.size v' (ss ++ [str]) w' → Kept w0 w' → (∀ b, b < W.heap.size → v.ownBlock ≠ some b → w'.heap[b]? = W.heap[b]?) → wpList Tryz.prog ops Q rest (a.put o.dst v') w') : wpList Tryz.prog ops Q (o :: rest) a W := by
  obtain ⟨i0, hi, hzz⟩ := Option.map_eq_some_iff.1 info_string
  simp only [Prod.mk.injEq] at hzz
  refine wpList_append_own W hgd s x 38 ho w0.heap.size 9 i0 (.string ByteArray.empty) 1 16 Tryz.underlying38 hi hzz.1 hzz.2.1 hzz.2.2 rfl (by decide) v ss.length (ss.map Value.string) hs hG ⟨g, 0, none⟩ 1 1 [.string str] hx rfl (cell_one W g str hc) (one_string str) (by unfold maxLen; omega) (by omega) hK.size ?_
  intro v' w' h2 h3 _
  obtain ⟨h4, h5⟩ := Gat.snoc hG hK h2 h3
  exact h v' w' h4 h5 (fun b hb hn => h3.block b hb (fun e => hn e.symm))
theorem PtNew.set25 {w : World} {b gen num ix n cr : Nat} {pc : ByteArray} (h : PtNew w b ⟨gen, num, ix, n, cr, pc⟩) (i : Nat) (s : ByteArray) : PtNew ((w.setCell ⟨b, 2, none⟩ (.int .u64 (i : Nat))).setCell ⟨b, 5, none⟩ (.string s)) b ⟨gen, num, i, n, cr, s⟩ := by
  obtain ⟨⟨c0, c1, c2, c3, c4, c5⟩, fr⟩ := h
  refine ⟨⟨?_, ?_, ?_, ?_, ?_, ?_⟩, fun o => by rw [World.frozen?_setCell, World.frozen?_setCell]; exact fr o⟩
  · repeat rw [pt_off _ _ _ _ _ (by decide)]
    exact c0
  · repeat rw [pt_off _ _ _ _ _ (by decide)]
    exact c1
  · rw [pt_off _ _ _ _ _ (by decide)]
    exact World.cell?_setCell_same _ _ _ c2
  · repeat rw [pt_off _ _ _ _ _ (by decide)]
    exact c3
  · repeat rw [pt_off _ _ _ _ _ (by decide)]
    exact c4
  · exact World.cell?_setCell_same _ _ _ (by rw [pt_off _ _ _ _ _ (by decide)]; exact c5)
set_option maxRecDepth 100000 in
set_option maxHeartbeats 1000000 in
theorem group_any (G : Nat) (g : Geo) (gen num : Nat) (t : ByteArray) (w : World) (hg : gen ≤ 281474976710656) (hnum : num ≤ 512) (hp : partsN t.size ≤ 512) :
    Calls Tryz.prog 35 #[plV G g gen, .int .u64 (num : Nat), .string t] w fun e w' => (∃ v, e = .returned v ∧ Gat w.heap.size v (grpL gen num t) w') ∧ Kept w w' := by
  have hts : t.size ≤ 17408 := by unfold partsN at hp; omega
  have HPO := Lib.hid (fun W => partsOf_any t (by omega) W)
  have HOF := Lib.hid (fun W q hq => of_at t (by unfold maxLen; omega) W q hq)
  have HSEC := Lib.hid (fun i (hi : i < partsN t.size) W => sector_any (ptOf gen num t i) (ptOf_ok gen num t i hg hnum hi hp) W)
  have HTK := Lib.hid (fun d hd => grpL_take gen num t d hd)
  have HFULL : Hid ((grpL gen num t).take (partsN t.size) = grpL gen num t) := by show _ = _; rw [← grpL_length gen num t, List.take_length]
  have HLEN := Lib.hid (grpL_length gen num t)
  have HPT : Hid (∀ i, ptOf gen num t i = ⟨gen, num, i, partsN t.size, crc t.data.toList, t.extract (i * 34) (min (i * 34 + 34) t.size)⟩) := fun i => rfl
  have HN1 : Hid (∀ d, d < partsN t.size → d * 34 ≤ t.size) := fun d hd => by unfold partsN at hd; omega
  obtain ⟨cr, hcr⟩ : ∃ cr, cr = crc t.data.toList := ⟨_, rfl⟩
  rw [← hcr] at HOF HPT
  have hcl : cr ≤ 4294967295 := by have := crc_lt t.data.toList; omega
  obtain ⟨n, hn⟩ : ∃ n, n = partsN t.size := ⟨_, rfl⟩
  rw [← hn] at HPO HSEC HTK HFULL HLEN HPT HN1 hp
  have hn1 : 1 ≤ n := by rw [hn]; unfold partsN; omega
  clear hn hcr
  have hwn : IntKind.u64.wrap (n : Int) = (n : Int) := IntWalk.u64_in _ (by omega)
  have X0 := Lib.hid (PlAt.laid w 79 G g gen)
  have K0 : Hid (Kept w (w.alloc (.cells #[.pointer (some ⟨G + 1, 0, none⟩), .int .i64 g.n, .int .i64 g.p, .int .i64 g.m, .int .i64 g.t, .int .u64 (gen : Nat)] 79))) := (Kept.refl _).alloc _
  unfold plV
  go_enter Tryz.func35, Tryz.ntmps35
  go_upto_region 1 with fail
  generalize w.alloc (.cells #[.pointer (some ⟨G + 1, 0, none⟩), .int .i64 g.n, .int .i64 g.p, .int .i64 g.m, .int .i64 g.t, .int .u64 (gen : Nat)] 79) = w1 at *
  go_wp2_with fail
  refine (HPO.out _).mono ?_
  rintro e wz ⟨rfl, hz⟩
  rw [hz]
  clear hz
  go_upto_region 2 with fail
  have q5 := X0.out.c5
  have HK5 : Hid (∀ W, Kept w1 W → W.cell? ⟨w.heap.size, 5, none⟩ = some (.int .u64 (gen : Nat))) := fun W k => (X0.out.kept k).c5
  have KD : Hid (Kept w1 w1.drew) := (Kept.refl _).drew
  have k0 := Kept.refl w1
  have kS : Kept w1 (w1.alloc (.cells #[.string t] 9)).drew := ((Kept.refl w1).alloc _).drew
  have kX : Kept w1 (w1.alloc (.cells #[.int .u64 0, .int .u64 0, .int .u64 0, .int .u64 0, .int .u32 0, .string ⟨#[]⟩] 104)).drew := ((Kept.refl w1).alloc _).drew
  have kSX : Kept w1 ((w1.alloc (.cells #[.string t] 9)).alloc (.cells #[.int .u64 0, .int .u64 0, .int .u64 0, .int .u64 0, .int .u32 0, .string ⟨#[]⟩] 104)).drew := (((Kept.refl w1).alloc _).alloc _).drew
  have kXS : Kept w1 ((w1.alloc (.cells #[.int .u64 0, .int .u64 0, .int .u64 0, .int .u64 0, .int .u32 0, .string ⟨#[]⟩] 104)).alloc (.cells #[.string t] 9)).drew := (((Kept.refl w1).alloc _).alloc _).drew
  have kd : Kept w1 w1.drew := KD.out
  have xSX : PtNew ((w1.alloc (.cells #[.string t] 9)).alloc (.cells #[.int .u64 0, .int .u64 0, .int .u64 0, .int .u64 0, .int .u32 0, .string ⟨#[]⟩] 104)).drew (w1.heap.size + 1) Pt.none := by
    have h := (PtNew.zero (w1.alloc (.cells #[.string t] 9)) 104).kept ((Kept.refl _).drew)
    rw [size_alloc] at h
    exact h
  have xXS : PtNew ((w1.alloc (.cells #[.int .u64 0, .int .u64 0, .int .u64 0, .int .u64 0, .int .u32 0, .string ⟨#[]⟩] 104)).alloc (.cells #[.string t] 9)).drew w1.heap.size Pt.none := (PtNew.zero w1 104).kept (((Kept.refl _).alloc _).drew)
  have ySX : Typ ((w1.alloc (.cells #[.string t] 9)).alloc (.cells #[.int .u64 0, .int .u64 0, .int .u64 0, .int .u64 0, .int .u32 0, .string ⟨#[]⟩] 104)).drew (w1.heap.size + 1) 104 := by
    have h := (Typ.new (w1.alloc (.cells #[.string t] 9)) #[.int .u64 0, .int .u64 0, .int .u64 0, .int .u64 0, .int .u32 0, .string ⟨#[]⟩] 104).kept ((Kept.refl _).drew)
    rw [size_alloc] at h
    exact h
  have yXS : Typ ((w1.alloc (.cells #[.int .u64 0, .int .u64 0, .int .u64 0, .int .u64 0, .int .u32 0, .string ⟨#[]⟩] 104)).alloc (.cells #[.string t] 9)).drew w1.heap.size 104 := (Typ.new w1 _ _).kept (((Kept.refl _).alloc _).drew)
  have sS : (w1.alloc (.cells #[.string t] 9)).drew.cell? ⟨w1.heap.size, 0, none⟩ = some (.string t) := newT_cell w1 _ _ 0 _ _ rfl rfl
  have sSX : ((w1.alloc (.cells #[.string t] 9)).alloc (.cells #[.int .u64 0, .int .u64 0, .int .u64 0, .int .u64 0, .int .u32 0, .string ⟨#[]⟩] 104)).drew.cell? ⟨w1.heap.size, 0, none⟩ = some (.string t) := cell_keptT (newT_cell w1 _ 9 0 _ _ rfl rfl) (((Kept.refl _).alloc _).drew)
  have sXS : ((w1.alloc (.cells #[.int .u64 0, .int .u64 0, .int .u64 0, .int .u64 0, .int .u32 0, .string ⟨#[]⟩] 104)).alloc (.cells #[.string t] 9)).drew.cell? ⟨w1.heap.size + 1, 0, none⟩ = some (.string t) := newT_cell (w1.alloc (.cells #[.int .u64 0, .int .u64 0, .int .u64 0, .int .u64 0, .int .u32 0, .string ⟨#[]⟩] 104)) _ _ 0 _ _ (by simp) rfl
  go_region_held3 (fun W' => W'.cell? ⟨w.heap.size, 5, none⟩ = some (.int .u64 (gen : Nat)))
    (with_reducible first | exact HK5.out _ k0 | exact HK5.out _ kd | exact HK5.out _ kS | exact HK5.out _ kX | exact HK5.out _ kSX | exact HK5.out _ kXS | exact HK5.out _ kP | exact HK5.out _ kAX | exact HK5.out _ kA)
    (first
      | (go_at_call 55; with_reducible refine (HOF.out (w1.alloc (.cells #[.string t] 9)).drew w1.heap.size sS).mono ?_; rintro e wA ⟨rfl, hkA⟩; have kA : Kept w1 wA := Kept.trans kS hkA; have kAX : Kept w1 (wA.alloc (.cells #[.int .u64 0, .int .u64 0, .int .u64 0, .int .u64 0, .int .u32 0, .string ⟨#[]⟩] 104)) := kA.alloc _; have kP : Kept w1 (wA.alloc (.cells #[.int .u64 (gen : Nat), .int .u64 (num : Nat), .int .u64 0, .int .u64 (n : Nat), .int .u32 (cr : Nat), .string ⟨#[]⟩] 104)) := kA.alloc _; clear hkA)
      | (go_at_call 55; with_reducible refine (HOF.out ((w1.alloc (.cells #[.string t] 9)).alloc (.cells #[.int .u64 0, .int .u64 0, .int .u64 0, .int .u64 0, .int .u32 0, .string ⟨#[]⟩] 104)).drew w1.heap.size sSX).mono ?_; rintro e wA ⟨rfl, hkA⟩; have kA : Kept w1 wA := Kept.trans kSX hkA; obtain ⟨⟨p0, p1, p2, p3, p4, p5⟩, fr⟩ := xSX.kept hkA; have yA := ySX.kept hkA; have f0 := fr 0; have f1 := fr 1; have f2 := fr 2; have f3 := fr 3; have f4 := fr 4; have f5 := fr 5; have kP : Kept w1 ((((((wA.setCell ⟨(w1.heap.size + 1), 0, none⟩ (.int .u64 (gen : Nat))).setCell ⟨(w1.heap.size + 1), 1, none⟩ (.int .u64 (num : Nat))).setCell ⟨(w1.heap.size + 1), 2, none⟩ (.int .u64 0)).setCell ⟨(w1.heap.size + 1), 3, none⟩ (.int .u64 (n : Nat))).setCell ⟨(w1.heap.size + 1), 4, none⟩ (.int .u32 (cr : Nat))).setCell ⟨(w1.heap.size + 1), 5, none⟩ (.string ⟨#[]⟩)) := ((((((kA.setCell (p := ⟨(w1.heap.size + 1), 0, none⟩) (by show w1.heap.size ≤ (w1.heap.size + 1); omega) _).setCell (p := ⟨(w1.heap.size + 1), 1, none⟩) (by show w1.heap.size ≤ (w1.heap.size + 1); omega) _).setCell (p := ⟨(w1.heap.size + 1), 2, none⟩) (by show w1.heap.size ≤ (w1.heap.size + 1); omega) _).setCell (p := ⟨(w1.heap.size + 1), 3, none⟩) (by show w1.heap.size ≤ (w1.heap.size + 1); omega) _).setCell (p := ⟨(w1.heap.size + 1), 4, none⟩) (by show w1.heap.size ≤ (w1.heap.size + 1); omega) _).setCell (p := ⟨(w1.heap.size + 1), 5, none⟩) (by show w1.heap.size ≤ (w1.heap.size + 1); omega) _); clear hkA)
      | (go_at_call 55; with_reducible refine (HOF.out ((w1.alloc (.cells #[.int .u64 0, .int .u64 0, .int .u64 0, .int .u64 0, .int .u32 0, .string ⟨#[]⟩] 104)).alloc (.cells #[.string t] 9)).drew (w1.heap.size + 1) sXS).mono ?_; rintro e wA ⟨rfl, hkA⟩; have kA : Kept w1 wA := Kept.trans kXS hkA; obtain ⟨⟨p0, p1, p2, p3, p4, p5⟩, fr⟩ := xXS.kept hkA; have yA := yXS.kept hkA; have f0 := fr 0; have f1 := fr 1; have f2 := fr 2; have f3 := fr 3; have f4 := fr 4; have f5 := fr 5; have kP : Kept w1 ((((((wA.setCell ⟨w1.heap.size, 0, none⟩ (.int .u64 (gen : Nat))).setCell ⟨w1.heap.size, 1, none⟩ (.int .u64 (num : Nat))).setCell ⟨w1.heap.size, 2, none⟩ (.int .u64 0)).setCell ⟨w1.heap.size, 3, none⟩ (.int .u64 (n : Nat))).setCell ⟨w1.heap.size, 4, none⟩ (.int .u32 (cr : Nat))).setCell ⟨w1.heap.size, 5, none⟩ (.string ⟨#[]⟩)) := ((((((kA.setCell (p := ⟨w1.heap.size, 0, none⟩) (by show w1.heap.size ≤ w1.heap.size; omega) _).setCell (p := ⟨w1.heap.size, 1, none⟩) (by show w1.heap.size ≤ w1.heap.size; omega) _).setCell (p := ⟨w1.heap.size, 2, none⟩) (by show w1.heap.size ≤ w1.heap.size; omega) _).setCell (p := ⟨w1.heap.size, 3, none⟩) (by show w1.heap.size ≤ w1.heap.size; omega) _).setCell (p := ⟨w1.heap.size, 4, none⟩) (by show w1.heap.size ≤ w1.heap.size; omega) _).setCell (p := ⟨w1.heap.size, 5, none⟩) (by show w1.heap.size ≤ w1.heap.size; omega) _); clear hkA))
  · have hx : PtNew (wA.alloc (.cells #[.int .u64 (gen : Nat), .int .u64 (num : Nat), .int .u64 0, .int .u64 (n : Nat), .int .u32 (cr : Nat), .string ⟨#[]⟩] 104)) wA.heap.size ⟨gen, num, 0, n, cr, ⟨#[]⟩⟩ := PtNew.laid wA _ ⟨gen, num, 0, n, cr, ⟨#[]⟩⟩
    have HX := Lib.hid hx
    have HY := Lib.hid (Typ.new wA #[.int .u64 (gen : Nat), .int .u64 (num : Nat), .int .u64 0, .int .u64 (n : Nat), .int .u32 (cr : Nat), .string ⟨#[]⟩] 104)
    have HK := Lib.hid (K0.out.trans kP)
    have HBX : Hid (w.heap.size ≤ wA.heap.size) := Nat.le_trans K0.out.size kA.size
    clear hx kP kA kAX k0 kd kS kX kSX kXS xSX xXS sS sSX sXS ySX yXS
    generalize wA.alloc (.cells #[.int .u64 (gen : Nat), .int .u64 (num : Nat), .int .u64 0, .int .u64 (n : Nat), .int .u32 (cr : Nat), .string ⟨#[]⟩] 104) = W2 at *
    generalize wA.heap.size = bx at *
    go_upto_region 5 with fail
    clear HPO HOF HK5 KD K0 X0
    go_loopg [9, 24] n (fun gh l i wr => ∃ (d ix : Nat) (pc : ByteArray), d + gh = n ∧ i = .int .i64 d ∧ Hid (Kept w wr ∧ Gat w.heap.size l ((grpL gen num t).take d) wr ∧ PtNew wr bx ⟨gen, num, ix, n, cr, pc⟩ ∧ Typ wr bx 104))
    case atStart => exact ⟨0, 0, ⟨#[]⟩, by omega, rfl, HK.out, by rw [List.take_zero]; exact Gat.nil _ _, HX.out, HY.out⟩
    case round =>
      obtain ⟨d, ix, pc, hd, rfl, HI⟩ := hrel
      cases gk with
      | succ gh =>
        have b1 : decide ((d : Int) < (n : Int)) = true := decide_eq_true (by omega)
        have b0 : decide (d < n) = true := decide_eq_true (by omega)
        have hdn : d < n := by omega
        obtain ⟨lo, hlo⟩ : ∃ lo, lo = d * 34 := ⟨_, rfl⟩
        obtain ⟨hi, hhi⟩ : ∃ hi, hi = min (lo + 34) t.size := ⟨_, rfl⟩
        have hl1 := HN1.out d hdn
        have HSD : Hid (∀ W, Calls Tryz.prog 56 #[.agg #[.int .u64 (gen : Nat), .int .u64 (num : Nat), .int .u64 (d : Nat), .int .u64 (n : Nat), .int .u32 (cr : Nat), .string (t.extract lo hi)]] W fun e w' => e = .returned (.string (ptOf gen num t d).txt) ∧ Kept W w') := fun W => by
          have h := HSEC.out d hdn W
          have e : (ptOf gen num t d).val = .agg #[.int .u64 (gen : Nat), .int .u64 (num : Nat), .int .u64 (d : Nat), .int .u64 (n : Nat), .int .u32 (cr : Nat), .string (t.extract lo hi)] := by rw [HPT.out d, hhi, hlo]; rfl
          rw [e] at h
          exact h
        have HTD := Lib.hid (HTK.out d hdn)
        have hm1 : IntKind.i64.wrap ((d : Int) * 34) = (lo : Int) := by rw [IntWalk.i64_in _ (by omega)]; omega
        have hm2 : IntKind.i64.wrap ((lo : Int) + 34) = (lo : Int) + 34 := IntWalk.i64_in _ (by omega)
        have hm3 : min ((lo : Int) + 34) (t.size : Int) = (hi : Int) := by omega
        have hb1 : (0 : Int) ≤ (lo : Int) := by omega
        have hb2 : (lo : Int) ≤ (hi : Int) := by omega
        have hb3 : (hi : Int) ≤ (t.size : Int) := by omega
        have hwd : IntKind.u64.wrap (d : Int) = (d : Int) := IntWalk.u64_in _ (by omega)
        have hw1 : IntKind.i64.wrap ((d : Int) + 1) = ((d + 1 : Nat) : Int) := by rw [IntWalk.i64_in _ (by omega)]; omega
        have HK1 := Lib.hid HI.out.1
        have HG1 := Lib.hid HI.out.2.1
        have HX1 := Lib.hid HI.out.2.2.1
        have HY1 := Lib.hid HI.out.2.2.2
        obtain ⟨⟨p0, p1, p2, p3, p4, p5⟩, fr⟩ := HI.out.2.2.1
        have f2 := fr 2
        have f5 := fr 5
        dsimp only [Nat.zero_add] at p0 p1 p2 p3 p4 p5
        have HS := Lib.hid (PtNew.set25 HX1.out d (t.extract lo hi))
        have HKS : Hid (Kept w ((wr.setCell ⟨bx, 2, none⟩ (.int .u64 (d : Nat))).setCell ⟨bx, 5, none⟩ (.string (t.extract lo hi)))) := (HK1.out.setCell (p := ⟨bx, 2, none⟩) HBX.out _).setCell (p := ⟨bx, 5, none⟩) HBX.out _
        have HGS : Hid (Gat w.heap.size u9 ((grpL gen num t).take d) ((wr.setCell ⟨bx, 2, none⟩ (.int .u64 (d : Nat))).setCell ⟨bx, 5, none⟩ (.string (t.extract lo hi)))) := own_set (own_set HG1.out HY1.out (by decide) _ _) (HY1.out.setCell _ _ _) (by decide) _ _
        have HYS := Lib.hid ((HY1.out.setCell bx 2 (.int .u64 (d : Nat))).setCell bx 5 (.string (t.extract lo hi)))
        clear HI hlo hhi
        go_upto_region 8 with fail
        go_region_held3 (fun _ => True) (exact trivial) (fail)
        all_goals
          have kdr : Kept (((wr.setCell ⟨bx, 2, none⟩ (.int .u64 (d : Nat))).setCell ⟨bx, 5, none⟩ (.string (t.extract lo hi)))) (((wr.setCell ⟨bx, 2, none⟩ (.int .u64 (d : Nat))).setCell ⟨bx, 5, none⟩ (.string (t.extract lo hi))).drew) := (Kept.refl _).drew
          have HS2 := Lib.hid (HS.out.kept kdr)
          have HK2 := Lib.hid (HKS.out.trans kdr)
          have HG2 := Lib.hid (HGS.out.kept kdr)
          have HY2 := Lib.hid (HYS.out.kept kdr)
          clear kdr HS HKS HGS HYS p0 p1 p2 p3 p4 p5 fr f2 f5 HX1 HG1 HK1 HY1
          generalize (((wr.setCell ⟨bx, 2, none⟩ (.int .u64 (d : Nat))).setCell ⟨bx, 5, none⟩ (.string (t.extract lo hi))).drew) = W3 at *
          obtain ⟨p0, p1, p2, p3, p4, p5⟩ := HS2.out.at'
          dsimp only [Nat.zero_add] at p0 p1 p2 p3 p4 p5
          go_wp2_with fail
          refine (HSD.out _).mono ?_
          rintro e w4 ⟨rfl, hk⟩
          have HK4 : Hid (Kept w w4) := HK2.out.trans hk
          have HG4 := Lib.hid (HG2.out.kept hk)
          have HX4 := Lib.hid (HS2.out.kept hk)
          have HY4 := Lib.hid (HY2.out.kept hk)
          clear hk p0 p1 p2 p3 p4 p5 HK2 HG2 HS2 HY2
          have hln : ((grpL gen num t).take d).length ≤ 1000000000 := by rw [List.length_take]; omega
          have HAPP : Hid (∀ v9 w9, Gat w.heap.size v9 ((grpL gen num t).take d ++ [(ptOf gen num t d).txt]) w9 → Kept w w9 → (∀ b, b < (w4.alloc (.cells #[.string (ptOf gen num t d).txt] 9)).heap.size → u9.ownBlock ≠ some b → w9.heap[b]? = (w4.alloc (.cells #[.string (ptOf gen num t d).txt] 9)).heap[b]?) → Hid (Gat w.heap.size v9 ((grpL gen num t).take (d + 1)) w9 ∧ Kept w w9 ∧ PtNew w9 bx ⟨gen, num, d, n, cr, t.extract lo hi⟩ ∧ Typ w9 bx 104)) := fun v9 w9 h1 h2 h3 => by
            have ka : Kept w4 (w4.alloc (.cells #[.string (ptOf gen num t d).txt] 9)) := (Kept.refl _).alloc _
            have he := h3 bx (Nat.lt_of_lt_of_le HY4.out.lt ka.size) (own_ne (HG4.out.kept ka) (HY4.out.kept ka) (by decide))
            exact ⟨by rw [HTD.out]; exact h1, h2, (HX4.out.kept ka).frame9 he, (HY4.out.kept ka).frame he⟩
          have HGA := Lib.hid (HG4.out.kept ((Kept.refl w4).alloc (.cells #[.string (ptOf gen num t d).txt] 9)))
          have HKA := Lib.hid (HK4.out.alloc (.cells #[.string (ptOf gen num t d).txt] 9))
          go_wp2_with (first | (at_builtin; go_must (refine wpList_gatK _ rfl (.tmp 41) (.tmp 44) rfl w u9 ((grpL gen num t).take d) (by rfl) HGA.out HKA.out ((ptOf gen num t d).txt) w4.heap.size (by rfl) (by rw [World.cell?_alloc_mark]; rfl) hln ?_); intro v9 w9 hG9 hK9 hfr9; have HF9 := HAPP.out v9 w9 hG9 hK9 hfr9; clear hG9 hK9 hfr9))
          go_roundg gh
          all_goals first | omega | exact ⟨d + 1, d, t.extract lo hi, by omega, by go_num, HF9.out.2.1, HF9.out.1, HF9.out.2.2⟩
      | zero =>
        have b1 : decide ((d : Int) < (n : Int)) = false := decide_eq_false (by omega)
        obtain rfl : d = n := by omega
        have b0 : decide (d < d) = false := decide_eq_false (by omega)
        have HF : Hid (Gat w.heap.size u9 (grpL gen num t) wr ∧ Kept w wr) := ⟨by have := HI.out.2.1; rw [HFULL.out] at this; exact this, HI.out.1⟩
        clear HI
        go_wp2_with fail
        go_ret
        exact ⟨⟨_, rfl, HF.out.1⟩, HF.out.2⟩
  · have hx := (PtNew.put (y := Pt.none) ⟨⟨p0, p1, p2, p3, p4, p5⟩, fr⟩ ⟨gen, num, 0, n, cr, ⟨#[]⟩⟩ : PtNew (putPt wA (w1.heap.size + 1) _) (w1.heap.size + 1) _)
    unfold putPt at hx
    dsimp only at hx
    rw [show ((0 : Nat) : Int) = 0 from rfl] at hx
    have HX := Lib.hid hx
    have HY := Lib.hid ((((((yA.setCell (w1.heap.size + 1) 0 (.int .u64 (gen : Nat))).setCell (w1.heap.size + 1) 1 (.int .u64 (num : Nat))).setCell (w1.heap.size + 1) 2 (.int .u64 0)).setCell (w1.heap.size + 1) 3 (.int .u64 (n : Nat))).setCell (w1.heap.size + 1) 4 (.int .u32 (cr : Nat))).setCell (w1.heap.size + 1) 5 (.string ⟨#[]⟩))
    have HK := Lib.hid (K0.out.trans kP)
    have HBX : Hid (w.heap.size ≤ w1.heap.size + 1) := Nat.le_trans K0.out.size (Nat.le_succ _)
    clear hx kP kA k0 kd kS kX kSX kXS xSX xXS sS sSX sXS ySX yXS yA p0 p1 p2 p3 p4 p5 fr f0 f1 f2 f3 f4 f5
    generalize (((((wA.setCell ⟨(w1.heap.size + 1), 0, none⟩ (.int .u64 (gen : Nat))).setCell ⟨(w1.heap.size + 1), 1, none⟩ (.int .u64 (num : Nat))).setCell ⟨(w1.heap.size + 1), 2, none⟩ (.int .u64 0)).setCell ⟨(w1.heap.size + 1), 3, none⟩ (.int .u64 (n : Nat))).setCell ⟨(w1.heap.size + 1), 4, none⟩ (.int .u32 (cr : Nat))).setCell ⟨(w1.heap.size + 1), 5, none⟩ (.string ⟨#[]⟩) = W2 at *
    generalize w1.heap.size + 1 = bx at *
    go_upto_region 5 with fail
    clear HPO HOF HK5 KD K0 X0
    go_loopg [9, 24] n (fun gh l i wr => ∃ (d ix : Nat) (pc : ByteArray), d + gh = n ∧ i = .int .i64 d ∧ Hid (Kept w wr ∧ Gat w.heap.size l ((grpL gen num t).take d) wr ∧ PtNew wr bx ⟨gen, num, ix, n, cr, pc⟩ ∧ Typ wr bx 104))
    case atStart => exact ⟨0, 0, ⟨#[]⟩, by omega, rfl, HK.out, by rw [List.take_zero]; exact Gat.nil _ _, HX.out, HY.out⟩
    case round =>
      obtain ⟨d, ix, pc, hd, rfl, HI⟩ := hrel
      cases gk with
      | succ gh =>
        have b1 : decide ((d : Int) < (n : Int)) = true := decide_eq_true (by omega)
        have b0 : decide (d < n) = true := decide_eq_true (by omega)
        have hdn : d < n := by omega
        obtain ⟨lo, hlo⟩ : ∃ lo, lo = d * 34 := ⟨_, rfl⟩
        obtain ⟨hi, hhi⟩ : ∃ hi, hi = min (lo + 34) t.size := ⟨_, rfl⟩
        have hl1 := HN1.out d hdn
        have HSD : Hid (∀ W, Calls Tryz.prog 56 #[.agg #[.int .u64 (gen : Nat), .int .u64 (num : Nat), .int .u64 (d : Nat), .int .u64 (n : Nat), .int .u32 (cr : Nat), .string (t.extract lo hi)]] W fun e w' => e = .returned (.string (ptOf gen num t d).txt) ∧ Kept W w') := fun W => by
          have h := HSEC.out d hdn W
          have e : (ptOf gen num t d).val = .agg #[.int .u64 (gen : Nat), .int .u64 (num : Nat), .int .u64 (d : Nat), .int .u64 (n : Nat), .int .u32 (cr : Nat), .string (t.extract lo hi)] := by rw [HPT.out d, hhi, hlo]; rfl
          rw [e] at h
          exact h
        have HTD := Lib.hid (HTK.out d hdn)
        have hm1 : IntKind.i64.wrap ((d : Int) * 34) = (lo : Int) := by rw [IntWalk.i64_in _ (by omega)]; omega
        have hm2 : IntKind.i64.wrap ((lo : Int) + 34) = (lo : Int) + 34 := IntWalk.i64_in _ (by omega)
        have hm3 : min ((lo : Int) + 34) (t.size : Int) = (hi : Int) := by omega
        have hb1 : (0 : Int) ≤ (lo : Int) := by omega
        have hb2 : (lo : Int) ≤ (hi : Int) := by omega
        have hb3 : (hi : Int) ≤ (t.size : Int) := by omega
        have hwd : IntKind.u64.wrap (d : Int) = (d : Int) := IntWalk.u64_in _ (by omega)
        have hw1 : IntKind.i64.wrap ((d : Int) + 1) = ((d + 1 : Nat) : Int) := by rw [IntWalk.i64_in _ (by omega)]; omega
        have HK1 := Lib.hid HI.out.1
        have HG1 := Lib.hid HI.out.2.1
        have HX1 := Lib.hid HI.out.2.2.1
        have HY1 := Lib.hid HI.out.2.2.2
        obtain ⟨⟨p0, p1, p2, p3, p4, p5⟩, fr⟩ := HI.out.2.2.1
        have f2 := fr 2
        have f5 := fr 5
        dsimp only [Nat.zero_add] at p0 p1 p2 p3 p4 p5
        have HS := Lib.hid (PtNew.set25 HX1.out d (t.extract lo hi))
        have HKS : Hid (Kept w ((wr.setCell ⟨bx, 2, none⟩ (.int .u64 (d : Nat))).setCell ⟨bx, 5, none⟩ (.string (t.extract lo hi)))) := (HK1.out.setCell (p := ⟨bx, 2, none⟩) HBX.out _).setCell (p := ⟨bx, 5, none⟩) HBX.out _
        have HGS : Hid (Gat w.heap.size u9 ((grpL gen num t).take d) ((wr.setCell ⟨bx, 2, none⟩ (.int .u64 (d : Nat))).setCell ⟨bx, 5, none⟩ (.string (t.extract lo hi)))) := own_set (own_set HG1.out HY1.out (by decide) _ _) (HY1.out.setCell _ _ _) (by decide) _ _
        have HYS := Lib.hid ((HY1.out.setCell bx 2 (.int .u64 (d : Nat))).setCell bx 5 (.string (t.extract lo hi)))
        clear HI hlo hhi
        go_upto_region 8 with fail
        go_region_held3 (fun _ => True) (exact trivial) (fail)
        all_goals
          have kdr : Kept (((wr.setCell ⟨bx, 2, none⟩ (.int .u64 (d : Nat))).setCell ⟨bx, 5, none⟩ (.string (t.extract lo hi)))) (((wr.setCell ⟨bx, 2, none⟩ (.int .u64 (d : Nat))).setCell ⟨bx, 5, none⟩ (.string (t.extract lo hi))).drew) := (Kept.refl _).drew
          have HS2 := Lib.hid (HS.out.kept kdr)
          have HK2 := Lib.hid (HKS.out.trans kdr)
          have HG2 := Lib.hid (HGS.out.kept kdr)
          have HY2 := Lib.hid (HYS.out.kept kdr)
          clear kdr HS HKS HGS HYS p0 p1 p2 p3 p4 p5 fr f2 f5 HX1 HG1 HK1 HY1
          generalize (((wr.setCell ⟨bx, 2, none⟩ (.int .u64 (d : Nat))).setCell ⟨bx, 5, none⟩ (.string (t.extract lo hi))).drew) = W3 at *
          obtain ⟨p0, p1, p2, p3, p4, p5⟩ := HS2.out.at'
          dsimp only [Nat.zero_add] at p0 p1 p2 p3 p4 p5
          go_wp2_with fail
          refine (HSD.out _).mono ?_
          rintro e w4 ⟨rfl, hk⟩
          have HK4 : Hid (Kept w w4) := HK2.out.trans hk
          have HG4 := Lib.hid (HG2.out.kept hk)
          have HX4 := Lib.hid (HS2.out.kept hk)
          have HY4 := Lib.hid (HY2.out.kept hk)
          clear hk p0 p1 p2 p3 p4 p5 HK2 HG2 HS2 HY2
          have hln : ((grpL gen num t).take d).length ≤ 1000000000 := by rw [List.length_take]; omega
          have HAPP : Hid (∀ v9 w9, Gat w.heap.size v9 ((grpL gen num t).take d ++ [(ptOf gen num t d).txt]) w9 → Kept w w9 → (∀ b, b < (w4.alloc (.cells #[.string (ptOf gen num t d).txt] 9)).heap.size → u9.ownBlock ≠ some b → w9.heap[b]? = (w4.alloc (.cells #[.string (ptOf gen num t d).txt] 9)).heap[b]?) → Hid (Gat w.heap.size v9 ((grpL gen num t).take (d + 1)) w9 ∧ Kept w w9 ∧ PtNew w9 bx ⟨gen, num, d, n, cr, t.extract lo hi⟩ ∧ Typ w9 bx 104)) := fun v9 w9 h1 h2 h3 => by
            have ka : Kept w4 (w4.alloc (.cells #[.string (ptOf gen num t d).txt] 9)) := (Kept.refl _).alloc _
            have he := h3 bx (Nat.lt_of_lt_of_le HY4.out.lt ka.size) (own_ne (HG4.out.kept ka) (HY4.out.kept ka) (by decide))
            exact ⟨by rw [HTD.out]; exact h1, h2, (HX4.out.kept ka).frame9 he, (HY4.out.kept ka).frame he⟩
          have HGA := Lib.hid (HG4.out.kept ((Kept.refl w4).alloc (.cells #[.string (ptOf gen num t d).txt] 9)))
          have HKA := Lib.hid (HK4.out.alloc (.cells #[.string (ptOf gen num t d).txt] 9))
          go_wp2_with (first | (at_builtin; go_must (refine wpList_gatK _ rfl (.tmp 41) (.tmp 44) rfl w u9 ((grpL gen num t).take d) (by rfl) HGA.out HKA.out ((ptOf gen num t d).txt) w4.heap.size (by rfl) (by rw [World.cell?_alloc_mark]; rfl) hln ?_); intro v9 w9 hG9 hK9 hfr9; have HF9 := HAPP.out v9 w9 hG9 hK9 hfr9; clear hG9 hK9 hfr9))
          go_roundg gh
          all_goals first | omega | exact ⟨d + 1, d, t.extract lo hi, by omega, by go_num, HF9.out.2.1, HF9.out.1, HF9.out.2.2⟩
      | zero =>
        have b1 : decide ((d : Int) < (n : Int)) = false := decide_eq_false (by omega)
        obtain rfl : d = n := by omega
        have b0 : decide (d < d) = false := decide_eq_false (by omega)
        have HF : Hid (Gat w.heap.size u9 (grpL gen num t) wr ∧ Kept w wr) := ⟨by have := HI.out.2.1; rw [HFULL.out] at this; exact this, HI.out.1⟩
        clear HI
        go_wp2_with fail
        go_ret
        exact ⟨⟨_, rfl, HF.out.1⟩, HF.out.2⟩
  · have hx := (PtNew.put (y := Pt.none) ⟨⟨p0, p1, p2, p3, p4, p5⟩, fr⟩ ⟨gen, num, 0, n, cr, ⟨#[]⟩⟩ : PtNew (putPt wA w1.heap.size _) w1.heap.size _)
    unfold putPt at hx
    dsimp only at hx
    rw [show ((0 : Nat) : Int) = 0 from rfl] at hx
    have HX := Lib.hid hx
    have HY := Lib.hid ((((((yA.setCell w1.heap.size 0 (.int .u64 (gen : Nat))).setCell w1.heap.size 1 (.int .u64 (num : Nat))).setCell w1.heap.size 2 (.int .u64 0)).setCell w1.heap.size 3 (.int .u64 (n : Nat))).setCell w1.heap.size 4 (.int .u32 (cr : Nat))).setCell w1.heap.size 5 (.string ⟨#[]⟩))
    have HK := Lib.hid (K0.out.trans kP)
    have HBX : Hid (w.heap.size ≤ w1.heap.size) := K0.out.size
    clear hx kP kA k0 kd kS kX kSX kXS xSX xXS sS sSX sXS ySX yXS yA p0 p1 p2 p3 p4 p5 fr f0 f1 f2 f3 f4 f5
    generalize (((((wA.setCell ⟨w1.heap.size, 0, none⟩ (.int .u64 (gen : Nat))).setCell ⟨w1.heap.size, 1, none⟩ (.int .u64 (num : Nat))).setCell ⟨w1.heap.size, 2, none⟩ (.int .u64 0)).setCell ⟨w1.heap.size, 3, none⟩ (.int .u64 (n : Nat))).setCell ⟨w1.heap.size, 4, none⟩ (.int .u32 (cr : Nat))).setCell ⟨w1.heap.size, 5, none⟩ (.string ⟨#[]⟩) = W2 at *
    generalize w1.heap.size = bx at *
    go_upto_region 5 with fail
    clear HPO HOF HK5 KD K0 X0
    go_loopg [9, 24] n (fun gh l i wr => ∃ (d ix : Nat) (pc : ByteArray), d + gh = n ∧ i = .int .i64 d ∧ Hid (Kept w wr ∧ Gat w.heap.size l ((grpL gen num t).take d) wr ∧ PtNew wr bx ⟨gen, num, ix, n, cr, pc⟩ ∧ Typ wr bx 104))
    case atStart => exact ⟨0, 0, ⟨#[]⟩, by omega, rfl, HK.out, by rw [List.take_zero]; exact Gat.nil _ _, HX.out, HY.out⟩
    case round =>
      obtain ⟨d, ix, pc, hd, rfl, HI⟩ := hrel
      cases gk with
      | succ gh =>
        have b1 : decide ((d : Int) < (n : Int)) = true := decide_eq_true (by omega)
        have b0 : decide (d < n) = true := decide_eq_true (by omega)
        have hdn : d < n := by omega
        obtain ⟨lo, hlo⟩ : ∃ lo, lo = d * 34 := ⟨_, rfl⟩
        obtain ⟨hi, hhi⟩ : ∃ hi, hi = min (lo + 34) t.size := ⟨_, rfl⟩
        have hl1 := HN1.out d hdn
        have HSD : Hid (∀ W, Calls Tryz.prog 56 #[.agg #[.int .u64 (gen : Nat), .int .u64 (num : Nat), .int .u64 (d : Nat), .int .u64 (n : Nat), .int .u32 (cr : Nat), .string (t.extract lo hi)]] W fun e w' => e = .returned (.string (ptOf gen num t d).txt) ∧ Kept W w') := fun W => by
          have h := HSEC.out d hdn W
          have e : (ptOf gen num t d).val = .agg #[.int .u64 (gen : Nat), .int .u64 (num : Nat), .int .u64 (d : Nat), .int .u64 (n : Nat), .int .u32 (cr : Nat), .string (t.extract lo hi)] := by rw [HPT.out d, hhi, hlo]; rfl
          rw [e] at h
          exact h
        have HTD := Lib.hid (HTK.out d hdn)
        have hm1 : IntKind.i64.wrap ((d : Int) * 34) = (lo : Int) := by rw [IntWalk.i64_in _ (by omega)]; omega
        have hm2 : IntKind.i64.wrap ((lo : Int) + 34) = (lo : Int) + 34 := IntWalk.i64_in _ (by omega)
        have hm3 : min ((lo : Int) + 34) (t.size : Int) = (hi : Int) := by omega
        have hb1 : (0 : Int) ≤ (lo : Int) := by omega
        have hb2 : (lo : Int) ≤ (hi : Int) := by omega
        have hb3 : (hi : Int) ≤ (t.size : Int) := by omega
        have hwd : IntKind.u64.wrap (d : Int) = (d : Int) := IntWalk.u64_in _ (by omega)
        have hw1 : IntKind.i64.wrap ((d : Int) + 1) = ((d + 1 : Nat) : Int) := by rw [IntWalk.i64_in _ (by omega)]; omega
        have HK1 := Lib.hid HI.out.1
        have HG1 := Lib.hid HI.out.2.1
        have HX1 := Lib.hid HI.out.2.2.1
        have HY1 := Lib.hid HI.out.2.2.2
        obtain ⟨⟨p0, p1, p2, p3, p4, p5⟩, fr⟩ := HI.out.2.2.1
        have f2 := fr 2
        have f5 := fr 5
        dsimp only [Nat.zero_add] at p0 p1 p2 p3 p4 p5
        have HS := Lib.hid (PtNew.set25 HX1.out d (t.extract lo hi))
        have HKS : Hid (Kept w ((wr.setCell ⟨bx, 2, none⟩ (.int .u64 (d : Nat))).setCell ⟨bx, 5, none⟩ (.string (t.extract lo hi)))) := (HK1.out.setCell (p := ⟨bx, 2, none⟩) HBX.out _).setCell (p := ⟨bx, 5, none⟩) HBX.out _
        have HGS : Hid (Gat w.heap.size u9 ((grpL gen num t).take d) ((wr.setCell ⟨bx, 2, none⟩ (.int .u64 (d : Nat))).setCell ⟨bx, 5, none⟩ (.string (t.extract lo hi)))) := own_set (own_set HG1.out HY1.out (by decide) _ _) (HY1.out.setCell _ _ _) (by decide) _ _
        have HYS := Lib.hid ((HY1.out.setCell bx 2 (.int .u64 (d : Nat))).setCell bx 5 (.string (t.extract lo hi)))
        clear HI hlo hhi
        go_upto_region 8 with fail
        go_region_held3 (fun _ => True) (exact trivial) (fail)
        all_goals
          have kdr : Kept (((wr.setCell ⟨bx, 2, none⟩ (.int .u64 (d : Nat))).setCell ⟨bx, 5, none⟩ (.string (t.extract lo hi)))) (((wr.setCell ⟨bx, 2, none⟩ (.int .u64 (d : Nat))).setCell ⟨bx, 5, none⟩ (.string (t.extract lo hi))).drew) := (Kept.refl _).drew
          have HS2 := Lib.hid (HS.out.kept kdr)
          have HK2 := Lib.hid (HKS.out.trans kdr)
          have HG2 := Lib.hid (HGS.out.kept kdr)
          have HY2 := Lib.hid (HYS.out.kept kdr)
          clear kdr HS HKS HGS HYS p0 p1 p2 p3 p4 p5 fr f2 f5 HX1 HG1 HK1 HY1
          generalize (((wr.setCell ⟨bx, 2, none⟩ (.int .u64 (d : Nat))).setCell ⟨bx, 5, none⟩ (.string (t.extract lo hi))).drew) = W3 at *
          obtain ⟨p0, p1, p2, p3, p4, p5⟩ := HS2.out.at'
          dsimp only [Nat.zero_add] at p0 p1 p2 p3 p4 p5
          go_wp2_with fail
          refine (HSD.out _).mono ?_
          rintro e w4 ⟨rfl, hk⟩
          have HK4 : Hid (Kept w w4) := HK2.out.trans hk
          have HG4 := Lib.hid (HG2.out.kept hk)
          have HX4 := Lib.hid (HS2.out.kept hk)
          have HY4 := Lib.hid (HY2.out.kept hk)
          clear hk p0 p1 p2 p3 p4 p5 HK2 HG2 HS2 HY2
          have hln : ((grpL gen num t).take d).length ≤ 1000000000 := by rw [List.length_take]; omega
          have HAPP : Hid (∀ v9 w9, Gat w.heap.size v9 ((grpL gen num t).take d ++ [(ptOf gen num t d).txt]) w9 → Kept w w9 → (∀ b, b < (w4.alloc (.cells #[.string (ptOf gen num t d).txt] 9)).heap.size → u9.ownBlock ≠ some b → w9.heap[b]? = (w4.alloc (.cells #[.string (ptOf gen num t d).txt] 9)).heap[b]?) → Hid (Gat w.heap.size v9 ((grpL gen num t).take (d + 1)) w9 ∧ Kept w w9 ∧ PtNew w9 bx ⟨gen, num, d, n, cr, t.extract lo hi⟩ ∧ Typ w9 bx 104)) := fun v9 w9 h1 h2 h3 => by
            have ka : Kept w4 (w4.alloc (.cells #[.string (ptOf gen num t d).txt] 9)) := (Kept.refl _).alloc _
            have he := h3 bx (Nat.lt_of_lt_of_le HY4.out.lt ka.size) (own_ne (HG4.out.kept ka) (HY4.out.kept ka) (by decide))
            exact ⟨by rw [HTD.out]; exact h1, h2, (HX4.out.kept ka).frame9 he, (HY4.out.kept ka).frame he⟩
          have HGA := Lib.hid (HG4.out.kept ((Kept.refl w4).alloc (.cells #[.string (ptOf gen num t d).txt] 9)))
          have HKA := Lib.hid (HK4.out.alloc (.cells #[.string (ptOf gen num t d).txt] 9))
          go_wp2_with (first | (at_builtin; go_must (refine wpList_gatK _ rfl (.tmp 41) (.tmp 44) rfl w u9 ((grpL gen num t).take d) (by rfl) HGA.out HKA.out ((ptOf gen num t d).txt) w4.heap.size (by rfl) (by rw [World.cell?_alloc_mark]; rfl) hln ?_); intro v9 w9 hG9 hK9 hfr9; have HF9 := HAPP.out v9 w9 hG9 hK9 hfr9; clear hG9 hK9 hfr9))
          go_roundg gh
          all_goals first | omega | exact ⟨d + 1, d, t.extract lo hi, by omega, by go_num, HF9.out.2.1, HF9.out.1, HF9.out.2.2⟩
      | zero =>
        have b1 : decide ((d : Int) < (n : Int)) = false := decide_eq_false (by omega)
        obtain rfl : d = n := by omega
        have b0 : decide (d < d) = false := decide_eq_false (by omega)
        have HF : Hid (Gat w.heap.size u9 (grpL gen num t) wr ∧ Kept w wr) := ⟨by have := HI.out.2.1; rw [HFULL.out] at this; exact this, HI.out.1⟩
        clear HI
        go_wp2_with fail
        go_ret
        exact ⟨⟨_, rfl, HF.out.1⟩, HF.out.2⟩
end Go.Proofs.YtmgkkoajjdgmbaaGreatDoor

/- The program's: a tail of records. -/
namespace Go.Proofs.YtmgkkoajjdgmbaaGreatDoor
open Go.RowKit Sm Wr _root_.Go.Proofs.YtmgkkoajjdgmbaaGreatDoor.Nm
set_option linter.unusedVariables false
/-- The sectors of a tail: the head, and those of its first k records. -/
def tailTo (gen : Nat) (recs : List ByteArray) : Nat → List ByteArray
  | 0 => grpL gen 0 ⟨#[]⟩
  | k + 1 => tailTo gen recs k ++ grpL gen (k + 1) (recs.getD k ByteArray.empty)
theorem partsN_pos (n : Nat) : 1 ≤ partsN n := by unfold partsN; omega
theorem tailTo_length (gen : Nat) (recs : List ByteArray) (M : Nat) (h : ∀ x ∈ recs, partsN x.size ≤ M) (h1 : 1 ≤ M) : ∀ k, k ≤ recs.length → (tailTo gen recs k).length ≤ M * (k + 1)
  | 0, _ => by
    show (grpL gen 0 ⟨#[]⟩).length ≤ _
    rw [grpL_length]
    have : partsN (⟨#[]⟩ : ByteArray).size = 1 := by decide
    rw [this]; omega
  | k + 1, hk => by
    have ih := tailTo_length gen recs M h h1 k (by omega)
    have hx : partsN (recs.getD k ByteArray.empty).size ≤ M := by
      rw [List.getD_eq_getElem?_getD, List.getElem?_eq_getElem (by omega)]
      exact h _ (List.getElem_mem (by omega))
    show (tailTo gen recs k ++ grpL gen (k + 1) _).length ≤ _
    rw [List.length_append, grpL_length, Nat.mul_succ]
    omega
theorem TailAt.new (w : World) (G : Nat) (g : Geo) (gen : Nat) : TailAt w.heap.size w.heap.size G g gen (.slice none 0 0) [] 0 false (w.alloc (.cells #[.pointer (some ⟨G + 1, 0, none⟩), .int .i64 g.n, .int .i64 g.p, .int .i64 g.m, .int .i64 g.t, .int .u64 (gen : Nat), .slice none 0 0, .int .u64 0, .bool false] 89)) := by
  refine ⟨Typ.new _ _ _, ⟨?_, ?_, ?_, ?_, ?_, ?_⟩, ?_, Gat.nil _ _, ?_, ?_⟩
  all_goals exact newT_cell _ _ _ _ _ _ rfl rfl
theorem TailAt.low {B B' b G gen next : Nat} {g : Geo} {v : Value} {must : List ByteArray} {br : Bool} {w : World} (h : TailAt B b G g gen v must next br w) (hB : B' ≤ B) : TailAt B' b G g gen v must next br w :=
  ⟨h.ty, h.pl, h.cm, World.ownsRow.mono h.gt hB, h.cn, h.cb⟩
theorem Gat.cells {B : Nat} {v : Value} {ss : List ByteArray} {w : World} (h : Gat B v ss w) (h0 : 0 < ss.length) : ∃ q cap, v = .slice (some ⟨q, 0, none⟩) ss.length cap ∧ B ≤ q ∧ q < w.heap.size ∧ ∀ i, i < ss.length → w.cell? ⟨q, 0 + i, none⟩ = some (.string (ss.getD i ByteArray.empty)) := by
  obtain ⟨h1, h2⟩ := h
  rcases h2 with ⟨rfl, h2⟩ | ⟨g, cap, cur, rfl, h3, h4, h5, h6, h7, h8⟩
  · omega
  · refine ⟨g, cap, rfl, h3, (Array.getElem?_eq_some_iff.1 h4).1, fun i hi => ?_⟩
    rw [Nat.zero_add, cell_of_row _ _ i _ _ _ h4]
    have e : (cur.toList.take (ss.length * 1))[i]? = (ss.map Value.string)[i]? := by rw [h8]
    rw [List.getElem?_take_of_lt (by omega)] at e
    rw [← Array.getElem?_toList, e, List.getElem?_map, List.getD_eq_getElem?_getD, List.getElem?_eq_getElem hi]
    rfl
/-- add, handed a group that was made just now. -/
theorem add_gat (B b G : Nat) (g : Geo) (gen : Nat) (v : Value) (must : List ByteArray) (next : Nat) (br : Bool) (ts : List ByteArray) (C : Nat) (u : Value) (w : World) (h : TailAt B b G g gen v must next br w) (hB : B ≤ w.heap.size)
    (hu : Gat C u ts w) (h0 : 0 < ts.length) (hl : must.length + ts.length ≤ 1000000) (hn : next ≤ 1000000) :
    Calls Tryz.prog 39 #[.pointer (some ⟨b, 0, none⟩), u] w fun e w' => e = .returned (.tuple #[]) ∧ ∃ v', TailAt B b G g gen v' (must ++ ts) (next + 1) br w' ∧ TLeft b v w w' ∧ ∀ k, v'.ownBlock = some k → v.ownBlock = some k ∨ w.heap.size ≤ k := by
  obtain ⟨q, cap, rfl, _, _, hc⟩ := hu.cells h0
  exact add_any B b G g gen v must next br ts q 0 cap w h hB hc h0 hl hn
set_option maxRecDepth 100000 in
set_option maxHeartbeats 2000000 in
theorem ptail_any (G : Nat) (g : Geo) (gen : Nat) (a : Option Addr) (cap : Nat) (recs : List ByteArray) (w : World) (hS : Strs w a recs) (hg : gen ≤ 281474976710656) (hn : recs.length ≤ 512) (hp : ∀ x ∈ recs, partsN x.size ≤ 512) :
    Calls Tryz.prog 28 #[plV G g gen, .slice a recs.length cap] w fun e w' => (∃ b v, e = .returned (.pointer (some ⟨b, 0, none⟩)) ∧ w.heap.size ≤ b ∧ TailAt w.heap.size b G g gen v (tailTo gen recs recs.length) (recs.length + 1) false w') ∧ Kept w w' := by
  have HGR := Lib.hid (fun num (t : ByteArray) (h1 : num ≤ 512) (h2 : partsN t.size ≤ 512) W => group_any G g gen num t W hg h1 h2)
  have HLN := Lib.hid (fun k hk => tailTo_length gen recs 512 hp (by decide) k hk)
  have HS := Lib.hid hS
  have HP : Hid (∀ k, k < recs.length → partsN (recs.getD k ByteArray.empty).size ≤ 512) := fun k hk => by
    rw [List.getD_eq_getElem?_getD, List.getElem?_eq_getElem hk]
    exact hp _ (List.getElem_mem hk)
  have X0 := Lib.hid (PlAt.laid w 79 G g gen)
  have K0 : Hid (Kept w (w.alloc (.cells #[.pointer (some ⟨G + 1, 0, none⟩), .int .i64 g.n, .int .i64 g.p, .int .i64 g.m, .int .i64 g.t, .int .u64 (gen : Nat)] 79))) := (Kept.refl _).alloc _
  unfold plV at *
  clear hS hg hp
  go_enter Tryz.func28, Tryz.ntmps28
  go_upto_region 1 with fail
  have hs1 : w.heap.size < (w.alloc (.cells #[.pointer (some ⟨G + 1, 0, none⟩), .int .i64 g.n, .int .i64 g.p, .int .i64 g.m, .int .i64 g.t, .int .u64 (gen : Nat)] 79)).heap.size := by simp
  generalize w.alloc (.cells #[.pointer (some ⟨G + 1, 0, none⟩), .int .i64 g.n, .int .i64 g.p, .int .i64 g.m, .int .i64 g.t, .int .u64 (gen : Nat)] 79) = w1 at *
  obtain ⟨c0, c1, c2, c3, c4, c5⟩ := X0.out
  go_upto_region 2 with fail
  have T1 := Lib.hid (TailAt.new w1 G g gen)
  have k2 : Kept w1 (w1.alloc (.cells #[.pointer (some ⟨G + 1, 0, none⟩), .int .i64 g.n, .int .i64 g.p, .int .i64 g.m, .int .i64 g.t, .int .u64 (gen : Nat), .slice none 0 0, .int .u64 0, .bool false] 89)) := (Kept.refl _).alloc _
  have X2 := Lib.hid (X0.out.kept k2)
  have K2 := Lib.hid (K0.out.trans k2)
  clear c0 c1 c2 c3 c4 c5 k2 X0 K0
  generalize w1.alloc (.cells #[.pointer (some ⟨G + 1, 0, none⟩), .int .i64 g.n, .int .i64 g.p, .int .i64 g.m, .int .i64 g.t, .int .u64 (gen : Nat), .slice none 0 0, .int .u64 0, .bool false] 89) = w2 at *
  generalize w1.heap.size = tb at *
  obtain ⟨c0, c1, c2, c3, c4, c5⟩ := X2.out
  go_wp2_with fail
  refine (HGR.out 0 ⟨#[]⟩ (by decide) (by decide) _).mono ?_
  rintro e w3 ⟨⟨u3, rfl, hu3⟩, hk3⟩
  have HAD := Lib.hid (add_gat tb tb G g gen (.slice none 0 0) [] 0 false (grpL gen 0 ⟨#[]⟩) _ u3 w3 (T1.out.kept hk3) (Nat.le_of_lt (T1.out.kept hk3).ty.lt) hu3 (by rw [grpL_length]; decide) (by rw [grpL_length]; decide) (by decide))
  have X3 := Lib.hid (X2.out.kept hk3)
  have K3 := Lib.hid (K2.out.trans hk3)
  have U3 := Lib.hid hu3
  clear c0 c1 c2 c3 c4 c5 hu3 hk3 X2 K2 T1
  go_wp2_with fail
  refine HAD.out.mono ?_
  rintro e w4 ⟨rfl, v4, hT4, hL4, hF4⟩
  have T4 : Hid (TailAt tb tb G g gen v4 (tailTo gen recs 0) 1 false w4) := hT4
  have X4 := Lib.hid (X3.out.frame (hL4.block _ X3.out.lt (by omega) (by simp [Value.ownBlock])))
  have K4 : Hid (Kept w w4) := TLeft.kept K3.out hL4 (by omega) (by intro q hq; simp [Value.ownBlock] at hq)
  have HTB : Hid (w.heap.size < tb) := hs1
  clear hT4 hL4 hF4 X3 K3 U3 HAD hs1
  obtain ⟨n, hnn⟩ : ∃ n, n = recs.length := ⟨_, rfl⟩
  have HNN := Lib.hid hnn
  rw [← hnn] at HLN HP hn ⊢
  clear hnn
  go_upto_region 4 with fail
  go_loopg [17] n (fun gh i wr => ∃ (d : Nat) (v : Value), d + gh = n ∧ i = .int .i64 d ∧ Hid (Kept w wr ∧ PlAt wr w.heap.size 0 G g gen ∧ TailAt tb tb G g gen v (tailTo gen recs d) (d + 1) false wr))
  case atStart => exact ⟨0, v4, by omega, rfl, K4.out, X4.out, T4.out⟩
  case round =>
    obtain ⟨d, v, hd, rfl, HI⟩ := hrel
    cases gk with
    | succ gh =>
      have b1 : decide ((d : Int) < (n : Int)) = true := decide_eq_true (by omega)
      have b0 : decide (d < n) = true := decide_eq_true (by omega)
      have hdn : d < recs.length := by rw [← HNN.out]; omega
      have hdi : (d : Int) < (n : Int) := by omega
      have hd0 : (0 : Int) ≤ (d : Int) := by omega
      have hw1 : IntKind.i64.wrap ((d : Int) + 1) = ((d + 1 : Nat) : Int) := by rw [IntWalk.i64_in _ (by omega)]; omega
      have K5 := Lib.hid HI.out.1
      have X5 := Lib.hid HI.out.2.1
      have T5 := Lib.hid HI.out.2.2
      rcases HS.out with h | ⟨q, o, rfl, hc⟩
      · rw [h] at hdn; exact absurd hdn (by simp)
      · have hcell := cell_keptT (hc d hdn) K5.out
        have hpx := HP.out d (by omega)
        have HTT : Hid (tailTo gen recs (d + 1) = tailTo gen recs d ++ grpL gen (d + 1) (recs.getD d ByteArray.empty)) := rfl
        have HLD := Lib.hid (HLN.out d (by omega))
        generalize recs.getD d ByteArray.empty = rec at *
        have KD : Kept wr wr.drew := (Kept.refl _).drew
        obtain ⟨c0, c1, c2, c3, c4, c5⟩ := X5.out.kept KD
        have c7 := (T5.out.kept KD).cn
        have HGD := Lib.hid (HGR.out (d + 1) rec (by omega) hpx wr.drew)
        have HAD := Lib.hid (fun u5 w5 (hk : Kept wr.drew w5) (hu : Gat wr.drew.heap.size u5 (grpL gen (d + 1) rec) w5) => add_gat tb tb G g gen v (tailTo gen recs d) (d + 1) false (grpL gen (d + 1) rec) _ u5 w5 ((T5.out.kept KD).kept hk) (Nat.le_of_lt ((T5.out.kept KD).kept hk).ty.lt) hu (by rw [grpL_length]; exact partsN_pos _) (by rw [grpL_length]; have := HLD.out; omega) (by omega))
        have HKD := Lib.hid KD
        clear HI hc KD
        go_upto_region 6 with fail
        go_region_law (first
          | (go_simp; go_at_call 35; refine HGD.out.mono ?_; rintro e w5 ⟨⟨u5, rfl, hu5⟩, hk5⟩)
          | (go_simp; go_at_call 39; refine (HAD.out u5 w5 hk5 hu5).mono ?_; rintro e w6 ⟨rfl, v6, hT6, hL6, hF6⟩))
        all_goals
          have HF : Hid (Kept w w6 ∧ PlAt w6 w.heap.size 0 G g gen ∧ TailAt tb tb G g gen v6 (tailTo gen recs (d + 1)) (d + 1 + 1) false w6) := by
            have k5 := K5.out.trans (HKD.out.trans hk5)
            have hlo : ∀ q, v.ownBlock = some q → w.heap.size < q := fun q hq => by have h1 := (T5.out.gt.lt q hq).1; have h2 := HTB.out; omega
            refine ⟨TLeft.kept k5 hL6 (by have := HTB.out; omega) (fun q hq => Nat.le_of_lt (hlo q hq)), ?_, by rw [HTT.out]; exact hT6⟩
            have hx := X5.out.kept (HKD.out.trans hk5)
            refine hx.frame (hL6.block _ hx.lt (by have := HTB.out; omega) (fun e => by have := hlo _ e; omega))
          clear hT6 hL6 hF6 hk5 hu5 c0 c1 c2 c3 c4 c5 c7 HGD HAD
          go_wp2_with fail
          go_roundg gh
          all_goals first | omega | exact ⟨d + 1, v6, by omega, by go_num, HF.out⟩
    | zero =>
      have b1 : decide ((d : Int) < (n : Int)) = false := decide_eq_false (by omega)
      obtain rfl : d = n := by omega
      have b0 : decide (d < d) = false := decide_eq_false (by omega)
      have hf := HI.out.2.2
      rw [HNN.out] at hf
      have HF := Lib.hid (hf.low (Nat.le_of_lt HTB.out))
      have HK := Lib.hid HI.out.1
      clear hf
      clear HI
      go_wp2_with fail
      go_ret
      exact ⟨⟨tb, v, rfl, Nat.le_of_lt HTB.out, HF.out⟩, HK.out⟩
end Go.Proofs.YtmgkkoajjdgmbaaGreatDoor

/- The program's: the drives of a tail; where it is. -/
namespace Go.Proofs.YtmgkkoajjdgmbaaGreatDoor
open Go.RowKit Sm Wr _root_.Go.Proofs.YtmgkkoajjdgmbaaGreatDoor.Nm
set_option linter.unusedVariables false
/-- May there be a tail? -/
def gOk (g : Geo) (gen : Nat) : Prop := g.may = true ∧ 1 ≤ gen ∧ gen ≤ 281474976710656
/-- Drive i of a tail. -/
def drvN (g : Geo) (gen i : Nat) : Nat := (gen + i) % g.n.toNat
def drvL (g : Geo) (gen : Nat) : List Int := (List.range (g.p.toNat + 1)).map fun i => ((drvN g gen i : Nat) : Int)
theorem drvL_length (g : Geo) (gen : Nat) : (drvL g gen).length = g.p.toNat + 1 := by simp [drvL]
theorem may_agg (g : Geo) (w : World) : Calls Tryz.prog 48 #[.agg #[.int .i64 g.n, .int .i64 g.p, .int .i64 g.m, .int .i64 g.t]] w fun e w' => e = .returned (.bool g.may) ∧ Kept w w' := pGeo_any g w
set_option maxRecDepth 100000 in
set_option maxHeartbeats 1000000 in
theorem drives_anyT (g : Geo) (gen : Nat) (w : World) (h : gOk g gen) :
    Calls Tryz.prog 25 #[.agg #[.int .i64 g.n, .int .i64 g.p, .int .i64 g.m, .int .i64 g.t], .int .u64 (gen : Nat)] w fun e w' => (∃ v, e = .returned v ∧ GatI w.heap.size v (drvL g gen) w') ∧ Kept w w' := by
  obtain ⟨hm, h1, h2⟩ := h
  have HM := Lib.hid (fun W => may_agg g W)
  rw [hm] at HM
  obtain ⟨m1, m2, m3, m4, m5, m6, m7, m8⟩ := g.may_iff.1 hm
  have HD : Hid (∀ d, (List.range (d + 1)).map (fun i => ((drvN g gen i : Nat) : Int)) = (List.range d).map (fun i => ((drvN g gen i : Nat) : Int)) ++ [((drvN g gen d : Nat) : Int)]) := fun d => by rw [List.range_succ, List.map_append]; rfl
  have HDD : Hid (drvL g gen = (List.range (g.p.toNat + 1)).map fun i => ((drvN g gen i : Nat) : Int)) := rfl
  have HDV : Hid (∀ d, drvN g gen d = (gen + d) % g.n.toNat) := fun d => rfl
  have X0 := Lib.hid (GeoAt.laid w 28 g)
  have K0 : Hid (Kept w (w.alloc (.cells #[.int .i64 g.n, .int .i64 g.p, .int .i64 g.m, .int .i64 g.t] 28))) := (Kept.refl _).alloc _
  obtain ⟨n, hn⟩ : ∃ n : Nat, g.n = n := ⟨g.n.toNat, by omega⟩
  obtain ⟨p, hp⟩ : ∃ p : Nat, g.p = p := ⟨g.p.toNat, by omega⟩
  have hgn : g.n.toNat = n := by omega
  have hgp : g.p.toNat = p := by omega
  rw [hgn] at HDV
  rw [hgp] at HDD
  have c0' := X0.out.c0.trans (show some (Value.int .i64 g.n) = some (.int .i64 (n : Nat)) by rw [hn])
  have c1' := X0.out.c1.trans (show some (Value.int .i64 g.p) = some (.int .i64 (p : Nat)) by rw [hp])
  have hn12 : n ≤ 12 := by omega
  have hn0 : 1 ≤ n := by omega
  have hp12 : p < n := by omega
  have X2 : Hid (∀ W, Kept (w.alloc (.cells #[.int .i64 g.n, .int .i64 g.p, .int .i64 g.m, .int .i64 g.t] 28)) W → W.cell? ⟨w.heap.size, 0, none⟩ = some (.int .i64 (n : Nat)) ∧ W.cell? ⟨w.heap.size, 1, none⟩ = some (.int .i64 (p : Nat))) := fun W k => ⟨cell_keptT c0' k, cell_keptT c1' k⟩
  clear m1 m2 m3 m4 m5 m6 m7 m8 hm hn hp hgn hgp c0' c1'
  generalize drvN g gen = dv at *
  generalize drvL g gen = dl at *
  have b1 : decide ((gen : Int) < 1) = false := decide_eq_false (by omega)
  have b2 : decide ((281474976710656 : Int) < (gen : Int)) = false := decide_eq_false (by omega)
  have hwp : IntKind.i64.wrap ((p : Int) + 1) = ((p + 1 : Nat) : Int) := by rw [IntWalk.i64_in _ (by omega)]; omega
  go_enter Tryz.func25, Tryz.ntmps25
  go_upto_region 1 with fail
  generalize w.alloc (.cells #[.int .i64 g.n, .int .i64 g.p, .int .i64 g.m, .int .i64 g.t] 28) = w1 at *
  obtain ⟨c0, c1, c2, c3⟩ := X0.out
  go_wp2_with fail
  refine (HM.out _).mono ?_
  rintro e w2 ⟨rfl, hk⟩
  have K2 := Lib.hid (K0.out.trans hk)
  have X3 : Hid (∀ W, Kept w2 W → W.cell? ⟨w.heap.size, 0, none⟩ = some (.int .i64 (n : Nat)) ∧ W.cell? ⟨w.heap.size, 1, none⟩ = some (.int .i64 (p : Nat))) := fun W k => X2.out W (hk.trans k)
  obtain ⟨q0, q1⟩ := X2.out w2 hk
  clear c0 c1 c2 c3 hk X0 K0 X2 HM
  go_upto_region 5 with fail
  go_loopg [5, 21] (p + 1) (fun gh l i wr => ∃ d : Nat, d + gh = p + 1 ∧ i = .int .i64 d ∧ Hid (Kept w2 wr ∧ GatI w2.heap.size l ((List.range d).map fun i => ((dv i : Nat) : Int)) wr))
  case atStart => exact ⟨0, by omega, rfl, Kept.refl _, GatI.nil _ _⟩
  case round =>
    obtain ⟨d, hd, rfl, HI⟩ := hrel
    cases gk with
    | succ gh =>
      have b3 : decide ((d : Int) < ((p + 1 : Nat) : Int)) = true := decide_eq_true (by omega)
      have b4 : decide (d < p + 1) = true := decide_eq_true (by omega)
      have b5 : decide ((d : Int) < (p : Int) + 1) = true := decide_eq_true (by omega)
      have hwd : IntKind.u64.wrap (d : Int) = (d : Int) := IntWalk.u64_in _ (by omega)
      have hwn : IntKind.u64.wrap (n : Int) = (n : Int) := IntWalk.u64_in _ (by omega)
      have hwg : IntKind.u64.wrap ((gen : Int) + (d : Int)) = ((gen + d : Nat) : Int) := by rw [IntWalk.u64_in _ (by omega)]; omega
      obtain ⟨sm, hsm⟩ : ∃ sm, sm = gen + d := ⟨_, rfl⟩
      rw [← hsm] at hwg
      obtain ⟨rr, hrr⟩ : ∃ rr, rr = sm % n := ⟨_, rfl⟩
      have hrl : rr < n := by rw [hrr]; exact Nat.mod_lt _ (by omega)
      have htm : (sm : Int).tmod (n : Int) = (rr : Int) := by rw [Int.tmod_eq_emod_of_nonneg (by omega), hrr]; omega
      have hnz : ((n : Int) == 0) = false := by rw [beq_eq_false_iff_ne]; omega
      have hnz2 : (n : Int) ≠ 0 := by omega
      have hwr1 : IntKind.u64.wrap (rr : Int) = (rr : Int) := IntWalk.u64_in _ (by omega)
      have hwr2 : IntKind.i64.wrap (rr : Int) = (rr : Int) := IntWalk.i64_in _ (by omega)
      have hw1 : IntKind.i64.wrap ((d : Int) + 1) = ((d + 1 : Nat) : Int) := by rw [IntWalk.i64_in _ (by omega)]; omega
      have HDS : Hid ((List.range (d + 1)).map (fun i => ((dv i : Nat) : Int)) = (List.range d).map (fun i => ((dv i : Nat) : Int)) ++ [(rr : Int)]) := by show _ = _; rw [HD.out d, HDV.out d, hrr, hsm]
      obtain ⟨q0, q1⟩ := X3.out wr HI.out.1
      have K1 := Lib.hid HI.out.1
      have G1 := Lib.hid HI.out.2
      have hln : ((List.range d).map (fun i => ((dv i : Nat) : Int))).length ≤ 1000000000 := by simp; omega
      clear HI hsm hrr
      go_wp2_with (first | (at_builtin; go_must (refine wpList_gati2 _ rfl (.tmp 24) (.tmp 34) rfl w2 _ ((List.range d).map (fun i => ((dv i : Nat) : Int))) (by rfl) (G1.out.kept ((Kept.refl _).alloc _)) (K1.out.alloc _) (rr : Int) wr.heap.size (by rfl) (by rw [World.cell?_alloc_mark]; rfl) hln ?_); intro v9 w9 hG9 hK9 hs9 hf9 ho9; have HF9 : Hid (Kept w2 w9 ∧ GatI w2.heap.size v9 ((List.range (d + 1)).map fun i => ((dv i : Nat) : Int)) w9) := ⟨hK9, by rw [HDS.out]; exact hG9⟩; clear hG9 hK9 hs9 hf9 ho9))
      go_roundg gh
      all_goals first | omega | exact ⟨d + 1, by omega, by go_num, HF9⟩
    | zero =>
      have b3 : decide ((d : Int) < ((p + 1 : Nat) : Int)) = false := decide_eq_false (by omega)
      obtain rfl : d = p + 1 := by omega
      have b4 : decide (p + 1 < p + 1) = false := decide_eq_false (by omega)
      have b5 : decide (((p + 1 : Nat) : Int) < (p : Int) + 1) = false := decide_eq_false (by omega)
      have HF : Hid (GatI w.heap.size u5 dl wr ∧ Kept w wr) := ⟨by rw [HDD.out]; exact World.ownsRow.mono HI.out.2 K2.out.size, K2.out.trans HI.out.1⟩
      clear HI
      go_wp2_with fail
      go_ret
      exact ⟨⟨_, rfl, HF.out.1⟩, HF.out.2⟩
end Go.Proofs.YtmgkkoajjdgmbaaGreatDoor

/- The program's: where a tail is. -/
namespace Go.Proofs.YtmgkkoajjdgmbaaGreatDoor
open Go.RowKit Sm Wr _root_.Go.Proofs.YtmgkkoajjdgmbaaGreatDoor.Nm
set_option linter.unusedVariables false
/-- Does the rack fit? -/
def fitOk (g : Geo) (s : RSt) : Prop := (s.n : Int) = g.n ∧ (s.m : Int) = g.m
def plZ : Value := .agg #[.pointer none, .int .i64 0, .int .i64 0, .int .i64 0, .int .i64 0, .int .u64 0]
/-- Six cells of a place. -/
structure Pl6 (w : World) (b : Nat) (p : Value) (n m q t : Int) (gen : Nat) : Prop where
  c0 : w.cell? ⟨b, 0, none⟩ = some p
  c1 : w.cell? ⟨b, 1, none⟩ = some (.int .i64 n)
  c2 : w.cell? ⟨b, 2, none⟩ = some (.int .i64 m)
  c3 : w.cell? ⟨b, 3, none⟩ = some (.int .i64 q)
  c4 : w.cell? ⟨b, 4, none⟩ = some (.int .i64 t)
  c5 : w.cell? ⟨b, 5, none⟩ = some (.int .u64 (gen : Nat))
theorem Pl6.kept {w w' : World} {b gen : Nat} {p : Value} {n m q t : Int} (h : Pl6 w b p n m q t gen) (k : Kept w w') : Pl6 w' b p n m q t gen :=
  ⟨cell_keptT h.c0 k, cell_keptT h.c1 k, cell_keptT h.c2 k, cell_keptT h.c3 k, cell_keptT h.c4 k, cell_keptT h.c5 k⟩
def putPl (w : World) (b : Nat) (p : Value) (n m q t : Int) (gen : Int) : World := (((((w.setCell ⟨b, 0, none⟩ p).setCell ⟨b, 1, none⟩ (.int .i64 n)).setCell ⟨b, 2, none⟩ (.int .i64 m)).setCell ⟨b, 3, none⟩ (.int .i64 q)).setCell ⟨b, 4, none⟩ (.int .i64 t)).setCell ⟨b, 5, none⟩ (.int .u64 gen)
theorem Pl6.put {w : World} {b gen' : Nat} {p' : Value} {n' m' q' t' : Int} (h : Pl6 w b p' n' m' q' t' gen') (p : Value) (n m q t : Int) (gen : Nat) : Pl6 (putPl w b p n m q t (gen : Nat)) b p n m q t gen := by
  obtain ⟨c0, c1, c2, c3, c4, c5⟩ := h
  unfold putPl
  refine ⟨?_, ?_, ?_, ?_, ?_, ?_⟩
  · repeat rw [pt_off _ _ _ _ _ (by decide)]
    exact World.cell?_setCell_same _ _ _ c0
  · rw [pt_off _ _ _ _ _ (by decide), pt_off _ _ _ _ _ (by decide), pt_off _ _ _ _ _ (by decide), pt_off _ _ _ _ _ (by decide)]
    exact World.cell?_setCell_same _ _ _ (by rw [pt_off _ _ _ _ _ (by decide)]; exact c1)
  · rw [pt_off _ _ _ _ _ (by decide), pt_off _ _ _ _ _ (by decide), pt_off _ _ _ _ _ (by decide)]
    exact World.cell?_setCell_same _ _ _ (by (repeat rw [pt_off _ _ _ _ _ (by decide)]); exact c2)
  · rw [pt_off _ _ _ _ _ (by decide), pt_off _ _ _ _ _ (by decide)]
    exact World.cell?_setCell_same _ _ _ (by (repeat rw [pt_off _ _ _ _ _ (by decide)]); exact c3)
  · rw [pt_off _ _ _ _ _ (by decide)]
    exact World.cell?_setCell_same _ _ _ (by (repeat rw [pt_off _ _ _ _ _ (by decide)]); exact c4)
  · exact World.cell?_setCell_same _ _ _ (by (repeat rw [pt_off _ _ _ _ _ (by decide)]); exact c5)
theorem putPl_kept {w0 w : World} (h : Kept w0 w) (g : Nat) (p : Value) (n m q t gen : Int) (hg : w0.heap.size ≤ g) : Kept w0 (putPl w g p n m q t gen) :=
  (((((h.setCell (p := ⟨g, 0, none⟩) hg _).setCell (p := ⟨g, 1, none⟩) hg _).setCell (p := ⟨g, 2, none⟩) hg _).setCell (p := ⟨g, 3, none⟩) hg _).setCell (p := ⟨g, 4, none⟩) hg _).setCell (p := ⟨g, 5, none⟩) hg _
set_option maxRecDepth 100000 in
set_option maxHeartbeats 1000000 in
theorem placeOf_nil (g : Geo) (gen : Nat) (w : World) :
    Calls Tryz.prog 27 #[.pointer none, .agg #[.int .i64 g.n, .int .i64 g.p, .int .i64 g.m, .int .i64 g.t], .int .u64 (gen : Nat)] w fun e w' => e = .returned (.tuple #[plZ, .int .i64 1]) ∧ Kept w w' := by
  have HD := Lib.hid (fun W => drives_any none 0 W (.inl ⟨rfl, rfl⟩))
  have K0 : Hid (Kept w ((w.alloc (.cells #[.int .i64 g.n, .int .i64 g.p, .int .i64 g.m, .int .i64 g.t] 28)).alloc (.cells #[.pointer none, .int .i64 0, .int .i64 0, .int .i64 0, .int .i64 0, .int .u64 0] 79))) := ((Kept.refl _).alloc _).alloc _
  have S0 : Hid (Pl6 ((w.alloc (.cells #[.int .i64 g.n, .int .i64 g.p, .int .i64 g.m, .int .i64 g.t] 28)).alloc (.cells #[.pointer none, .int .i64 0, .int .i64 0, .int .i64 0, .int .i64 0, .int .u64 0] 79)) (w.heap.size + 1) (.pointer none) 0 0 0 0 0 ∧ Typ ((w.alloc (.cells #[.int .i64 g.n, .int .i64 g.p, .int .i64 g.m, .int .i64 g.t] 28)).alloc (.cells #[.pointer none, .int .i64 0, .int .i64 0, .int .i64 0, .int .i64 0, .int .u64 0] 79)) (w.heap.size + 1) 79) := by
    refine ⟨⟨?_, ?_, ?_, ?_, ?_, ?_⟩, ?_⟩
    all_goals first | exact newT_cell _ _ _ _ _ _ (by simp) rfl | skip
    have h := Typ.new (w.alloc (.cells #[.int .i64 g.n, .int .i64 g.p, .int .i64 g.m, .int .i64 g.t] 28)) #[.pointer none, .int .i64 0, .int .i64 0, .int .i64 0, .int .i64 0, .int .u64 0] 79
    rw [size_alloc] at h
    exact h
  go_enter Tryz.func27, Tryz.ntmps27
  go_upto_region 1 with fail
  generalize (w.alloc (.cells #[.int .i64 g.n, .int .i64 g.p, .int .i64 g.m, .int .i64 g.t] 28)).alloc (.cells #[.pointer none, .int .i64 0, .int .i64 0, .int .i64 0, .int .i64 0, .int .u64 0] 79) = w1 at *
  go_wp2_with fail
  refine (HD.out _).mono ?_
  rintro e w2 ⟨rfl, hz⟩
  rw [hz]
  clear hz
  have HP := Lib.hid (S0.out.1.put (.pointer none) 0 0 0 0 0)
  have HKP := Lib.hid (putPl_kept K0.out (w.heap.size + 1) (.pointer none) 0 0 0 0 0 (by omega))
  have hty := S0.out.2
  have f0 := hty.free 0
  have f1 := hty.free 1
  have f2 := hty.free 2
  have f3 := hty.free 3
  have f4 := hty.free 4
  have f5 := hty.free 5
  obtain ⟨p0, p1, p2, p3, p4, p5⟩ := S0.out.1
  unfold putPl at HP HKP
  go_wp2_with fail
  exact bodyPost_ret (v := .tuple #[plZ, .int .i64 1]) (by have q0 := HP.out.c0; have q1 := HP.out.c1; have q2 := HP.out.c2; have q3 := HP.out.c3; have q4 := HP.out.c4; have q5 := HP.out.c5; (try simp at q0 q1 q2 q3 q4 q5); simp [results, Tryz.results27, go_sem, plZ, q0, q1, q2, q3, q4, q5]) rfl ⟨rfl, HKP.out⟩
set_option maxRecDepth 100000 in
set_option maxHeartbeats 2000000 in
theorem placeOf_any (G : Nat) (s : RSt) (g : Geo) (gen : Nat) (w : World) (hR : RackAt G s w) (h : gOk g gen) (hf : fitOk g s) :
    Calls Tryz.prog 27 #[.pointer (some ⟨G + 1, 0, none⟩), .agg #[.int .i64 g.n, .int .i64 g.p, .int .i64 g.m, .int .i64 g.t], .int .u64 (gen : Nat)] w fun e w' => e = .returned (.tuple #[plV G g gen, .int .i64 0]) ∧ Kept w w' := by
  have HD := Lib.hid (fun W k => drives_any (some ⟨G + 1, 0, none⟩) s.n W (hR.kept (w' := W) k).has)
  have HS := Lib.hid (fun W k => sectors_any G s W (hR.kept (w' := W) k))
  have HT := Lib.hid (fun W => drives_anyT g gen W h)
  have hn1 : 1 ≤ s.n := hR.wf.n1
  have hnz : ((s.n : Int) == 0) = false := by rw [beq_eq_false_iff_ne]; omega
  have e1 : ((s.n : Int) != g.n) = false := by rw [hf.1]; simp
  have e2 : ((s.m : Int) != g.m) = false := by rw [hf.2]; simp
  have hll := drvL_length g gen
  obtain ⟨L, hL⟩ : ∃ L, L = (drvL g gen).length := ⟨_, rfl⟩
  have hL1 : 1 ≤ L := by omega
  have HLL := Lib.hid hL
  have hlz : ((L : Int) == 0) = false := by rw [beq_eq_false_iff_ne]; omega
  have hlzN : (L == 0) = false := by rw [beq_eq_false_iff_ne]; omega
  have K0 : Hid (Kept w ((w.alloc (.cells #[.int .i64 g.n, .int .i64 g.p, .int .i64 g.m, .int .i64 g.t] 28)).alloc (.cells #[.pointer none, .int .i64 0, .int .i64 0, .int .i64 0, .int .i64 0, .int .u64 0] 79))) := ((Kept.refl _).alloc _).alloc _
  have X0 : Hid (GeoAt ((w.alloc (.cells #[.int .i64 g.n, .int .i64 g.p, .int .i64 g.m, .int .i64 g.t] 28)).alloc (.cells #[.pointer none, .int .i64 0, .int .i64 0, .int .i64 0, .int .i64 0, .int .u64 0] 79)) w.heap.size g) := (GeoAt.laid w _ g).kept ((Kept.refl _).alloc _)
  have S0 : Hid (Pl6 ((w.alloc (.cells #[.int .i64 g.n, .int .i64 g.p, .int .i64 g.m, .int .i64 g.t] 28)).alloc (.cells #[.pointer none, .int .i64 0, .int .i64 0, .int .i64 0, .int .i64 0, .int .u64 0] 79)) (w.heap.size + 1) (.pointer none) 0 0 0 0 0 ∧ Typ ((w.alloc (.cells #[.int .i64 g.n, .int .i64 g.p, .int .i64 g.m, .int .i64 g.t] 28)).alloc (.cells #[.pointer none, .int .i64 0, .int .i64 0, .int .i64 0, .int .i64 0, .int .u64 0] 79)) (w.heap.size + 1) 79) := by
    refine ⟨⟨?_, ?_, ?_, ?_, ?_, ?_⟩, ?_⟩
    all_goals first | exact newT_cell _ _ _ _ _ _ (by simp) rfl | skip
    have h := Typ.new (w.alloc (.cells #[.int .i64 g.n, .int .i64 g.p, .int .i64 g.m, .int .i64 g.t] 28)) #[.pointer none, .int .i64 0, .int .i64 0, .int .i64 0, .int .i64 0, .int .u64 0] 79
    rw [size_alloc] at h
    exact h
  unfold plV
  clear hR h hf hll hL hL1
  go_enter Tryz.func27, Tryz.ntmps27
  go_upto_region 1 with fail
  generalize (w.alloc (.cells #[.int .i64 g.n, .int .i64 g.p, .int .i64 g.m, .int .i64 g.t] 28)).alloc (.cells #[.pointer none, .int .i64 0, .int .i64 0, .int .i64 0, .int .i64 0, .int .u64 0] 79) = w1 at *
  go_wp2_with fail
  refine (HD.out _ K0.out).mono ?_
  rintro e w2 ⟨rfl, hz⟩
  rw [hz]
  clear hz
  go_upto_region 3 with fail
  have HX : Hid (∀ W', Kept w1 W' → W'.cell? ⟨w.heap.size, 0, none⟩ = some (.int .i64 g.n) ∧ W'.cell? ⟨w.heap.size, 1, none⟩ = some (.int .i64 g.p) ∧ W'.cell? ⟨w.heap.size, 2, none⟩ = some (.int .i64 g.m) ∧ W'.cell? ⟨w.heap.size, 3, none⟩ = some (.int .i64 g.t)) := fun W' k => ⟨cell_keptT X0.out.c0 k, cell_keptT X0.out.c1 k, cell_keptT X0.out.c2 k, cell_keptT X0.out.c3 k⟩
  have kd : Kept w1 w1.drew := (Kept.refl _).drew
  have k0 := Kept.refl w1
  have HKD := Lib.hid kd
  go_region_held3 (fun W' => W'.cell? ⟨w.heap.size, 0, none⟩ = some (.int .i64 g.n) ∧ W'.cell? ⟨w.heap.size, 1, none⟩ = some (.int .i64 g.p) ∧ W'.cell? ⟨w.heap.size, 2, none⟩ = some (.int .i64 g.m) ∧ W'.cell? ⟨w.heap.size, 3, none⟩ = some (.int .i64 g.t))
    (first | exact HX.out _ k0 | exact HX.out _ kd | exact HX.out _ kA | exact HX.out _ kC)
    (first
      | (go_at_call 25; refine (HT.out _).mono ?_; rintro e wA ⟨⟨v, rfl, hv⟩, hkA⟩; obtain ⟨av, cv, rfl, _⟩ := hv.ints; rw [← HLL.out]; have kA : Kept w1 wA := Kept.trans kd hkA; clear hkA hv)
      | (go_at_call 50; refine (HD.out _ (K0.out.trans kA)).mono ?_; rintro e wB ⟨rfl, hzB⟩; rw [hzB]; clear hzB)
      | (go_at_call 51; refine (HS.out _ (K0.out.trans kA)).mono ?_; rintro e wC ⟨rfl, hkC⟩; have kC : Kept w1 wC := Kept.trans kA hkC; clear hkC))
  have K2 := Lib.hid (K0.out.trans kC)
  have S2 := Lib.hid (And.intro (Pl6.kept S0.out.1 kC) (S0.out.2.kept kC))
  have X2 := Lib.hid (X0.out.kept kC)
  clear kA kC k0 kd S0 X0 K0 HX HKD
  have HP := Lib.hid (S2.out.1.put (.pointer (some ⟨G + 1, 0, none⟩)) g.n g.p g.m g.t gen)
  have HKP := Lib.hid (putPl_kept K2.out (w.heap.size + 1) (.pointer (some ⟨G + 1, 0, none⟩)) g.n g.p g.m g.t (gen : Nat) (by omega))
  have hty := S2.out.2
  have f0 := hty.free 0
  have f1 := hty.free 1
  have f2 := hty.free 2
  have f3 := hty.free 3
  have f4 := hty.free 4
  have f5 := hty.free 5
  obtain ⟨p0, p1, p2, p3, p4, p5⟩ := S2.out.1
  obtain ⟨x0, x1, x2, x3⟩ := X2.out
  unfold putPl at HP HKP
  go_wp2_with fail
  exact bodyPost_ret (v := .tuple #[.agg #[.pointer (some ⟨G + 1, 0, none⟩), .int .i64 g.n, .int .i64 g.p, .int .i64 g.m, .int .i64 g.t, .int .u64 (gen : Nat)], .int .i64 0]) (by have q0 := HP.out.c0; have q1 := HP.out.c1; have q2 := HP.out.c2; have q3 := HP.out.c3; have q4 := HP.out.c4; have q5 := HP.out.c5; (try simp at q0 q1 q2 q3 q4 q5); simp [results, Tryz.results27, go_sem, q0, q1, q2, q3, q4, q5]) rfl ⟨rfl, HKP.out⟩
end Go.Proofs.YtmgkkoajjdgmbaaGreatDoor

