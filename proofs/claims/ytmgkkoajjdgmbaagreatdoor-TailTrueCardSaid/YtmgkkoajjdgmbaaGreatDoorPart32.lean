/- TailClose, TailTake. -/
import Derived.Test.YtmgkkoajjdgmbaaGreatDoorPart31
import Derived.Test.YtmgkkoajjdgmbaaGreatDoorPart12
import Derived.Test.YtmgkkoajjdgmbaaGreatDoorPart22
import Derived.Test.YtmgkkoajjdgmbaaGreatDoorPart23
import Derived.Test.YtmgkkoajjdgmbaaGreatDoorPart9
set_option linter.unusedVariables false
set_option linter.unusedSimpArgs false
set_option linter.unusedSectionVars false
set_option linter.unnecessarySimpa false
set_option linter.deprecated false
/- The program's walk over a drive's sectors: a group's end. -/
namespace Go.Proofs.YtmgkkoajjdgmbaaGreatDoor
open Go.RowKit Sm Wr _root_.Go.Proofs.YtmgkkoajjdgmbaaGreatDoor.Nm
set_option linter.unusedVariables false
theorem strs_oneT (w : World) (s : ByteArray) (T : TypeId) : Strs (w.alloc (.cells #[.string s] T)) (some ⟨w.heap.size, 0, none⟩) [s] :=
  .inr ⟨_, 0, rfl, fun i hi => by
    obtain rfl : i = 0 := by simp at hi; omega
    rw [World.cell?_alloc_mark]; rfl⟩
theorem of_single (s : ByteArray) (hs : s.size ≤ maxLen) (W : World) (T : TypeId) :
    Calls Tryz.prog 55 #[.slice (some ⟨W.heap.size, 0, none⟩) 1 1] (W.alloc (.cells #[.string s] T)) fun e w' => e = .returned (.int .u32 (crc s.data.toList : Nat)) ∧ Kept W w' := by
  have h := of_any (some ⟨W.heap.size, 0, none⟩) 1 [s] (W.alloc (.cells #[.string s] T)) (strs_oneT W s T) (by simp) (by intro x hx; simp at hx; subst hx; exact hs)
  rw [cat_one] at h
  exact h.mono fun e w' hh => ⟨hh.1, ((Kept.refl W).alloc _).trans hh.2⟩
theorem catP_take (op : List Pt) (d : Nat) (hd : d < op.length) : catP (op.take (d + 1)) = catP (op.take d) ++ op[d].piece.data.toList := by
  unfold catP
  rw [List.take_succ_eq_append_getElem hd, List.flatMap_append]
  simp
theorem catP_len (op : List Pt) (h : ∀ x ∈ op, x.piece.size ≤ 34) : (catP op).length ≤ 34 * op.length := by
  induction op with
  | nil => simp [catP]
  | cons x r ih =>
    have h1 := ih (fun y hy => h y (List.mem_cons_of_mem _ hy))
    have h2 := h x (by simp)
    have h3 : x.piece.data.toList.length = x.piece.size := by simp
    unfold catP at *
    rw [List.flatMap_cons, List.length_append, List.length_cons]; omega
/-- What a call leaves that writes to the walk in block b and its rows from B on. -/
def WkLeft (B b : Nat) (w w' : World) : Prop := ButB B b w w' ∧ KeepsOthers w w'
theorem Kept.others {w w' : World} (k : Kept w w') : KeepsOthers w w' := ⟨k.size, fun j o hj _ => by rw [k.block j (Array.getElem?_eq_some_iff.1 hj).1]; exact hj⟩
theorem Kept.wk {B b : Nat} {w w' : World} (k : Kept w w') (hB : B ≤ w.heap.size) : WkLeft B b w w' := ⟨k.butB hB, k.others⟩
theorem WkLeft.trans {B b : Nat} {u v w : World} (h : WkLeft B b u v) (k : WkLeft B b v w) : WkLeft B b u w := ⟨h.1.trans k.1, h.2.trans k.2⟩
theorem others_grown {u w w' : World} {r : Option Nat} (h : KeepsOthers u w) (hg : w.grownBy w' r) (hr : ∀ q, r = some q → ∃ T, Typ w q T) : KeepsOthers u w' :=
  ⟨Nat.le_trans h.size hg.size, fun k o hk ho => by
    have h1 := h.same k o hk ho
    rw [hg.block k (Array.getElem?_eq_some_iff.1 h1).1 (fun e => by
      obtain ⟨T, cs, hc⟩ := hr k e.symm
      rw [h1] at hc
      injection hc with hc
      subst hc
      cases ho)]
    exact h1⟩
theorem own_typ {w : World} {B : Nat} {e : TypeId} {sz n : Nat} {v : Value} {xs : List Value} (h : w.ownsRow B e sz v n xs) : ∀ q, v.ownBlock = some q → Typ w q e := by
  intro q hq
  rcases h.2 with ⟨rfl, _⟩ | ⟨g, cap, cur, rfl, _, hg, _⟩
  · cases hq
  · obtain rfl : g = q := by simpa [Value.ownBlock] using hq
    exact ⟨cur, hg⟩
theorem others_set {u w : World} {b : Nat} {T : TypeId} (h : KeepsOthers u w) (o : Nat) (v : Value) : KeepsOthers u (w.setCell ⟨b, o, none⟩ v) := h.trans (KeepsOthers.setCell _ _ _)
theorem butB_set {B b : Nat} {u w : World} (h : ButB B b u w) (o : Nat) (v : Value) : ButB B b u (w.setCell ⟨b, o, none⟩ v) :=
  h.trans ⟨rfl, rfl, rfl, by simp [World.setCell], fun k _ hk => Below.heap_setCell _ _ _ _ hk⟩
theorem grownBy_set (W : World) (b o : Nat) (v : Value) : W.grownBy (W.setCell ⟨b, o, none⟩ v) (some b) :=
  ⟨rfl, rfl, rfl, by simp [World.setCell], fun k hk hb => Below.heap_setCell _ _ _ _ (fun e => hb (by rw [e]))⟩
theorem own_set {w : World} {B : Nat} {e T : TypeId} {sz n : Nat} {v : Value} {xs : List Value} (h : w.ownsRow B e sz v n xs) {b : Nat} (hb : Typ w b T) (hne : T ≠ e) (o : Nat) (u : Value) : (w.setCell ⟨b, o, none⟩ u).ownsRow B e sz v n xs :=
  h.kept (grownBy_set w b o u) (.inr (own_ne h hb hne))
/-- Where a row beside it grew, the walk's own block is as it was. -/
theorem WkAt.grown {B b gen : Nat} {k : Wk} {w W' w9 : World} {v : Value} (h : WkAt B b gen k w) (kk : Kept w W') (hg : W'.grownBy w9 v.ownBlock) (hv : v.ownBlock ≠ some b) : Typ w9 b 112 ∧ ∀ o, w9.cell? ⟨b, o, none⟩ = w.cell? ⟨b, o, none⟩ := by
  have e : w9.heap[b]? = w.heap[b]? := (hg.block b (Nat.lt_of_lt_of_le h.ty.lt kk.size) (fun c => hv c.symm)).trans (kk.block b h.ty.lt)
  exact ⟨h.ty.frame e, fun o => World.cell?_of_block (w := w) (a := ⟨b, o, none⟩) e⟩
theorem left_grown {B b : Nat} {w W' w9 : World} {e : TypeId} {sz n : Nat} {v : Value} {xs : List Value} (hB : B ≤ w.heap.size) (kk : Kept w W') (hown : W'.ownsRow B e sz v n xs) (hg : W'.grownBy w9 v.ownBlock) : WkLeft B b w w9 :=
  ⟨(kk.butB hB).trans ⟨hg.os, hg.tape, hg.output, hg.size, fun k hk _ => hg.block k (by have := kk.size; omega) (fun c => by have := (hown.lt k c.symm).1; omega)⟩, others_grown kk.others hg (fun q hq => ⟨_, own_typ hown q hq⟩)⟩
theorem WkLeft.set {B b : Nat} {u w : World} (h : WkLeft B b u w) (o : Nat) (v : Value) : WkLeft B b u (w.setCell ⟨b, o, none⟩ v) := ⟨butB_set h.1 o v, h.2.trans (KeepsOthers.setCell _ _ _)⟩
theorem close_done (B b gen : Nat) (texts : List ByteArray) (op : List Pt) (T : ByteArray) (w W' w9 : World) (vt v9 : Value) (h0 : WkAt B b gen ⟨texts, op⟩ w) (hB : B ≤ w.heap.size) (kk : Kept w W') (hG : Gat B vt texts W') (hg : W'.grownBy w9 vt.ownBlock) (hG9 : Gat B v9 (texts ++ [T]) w9) :
    WkAt B b gen ⟨texts ++ [T], []⟩ ((w9.setCell ⟨b, 1, none⟩ v9).setCell ⟨b, 2, none⟩ (.slice none 0 0)) ∧ WkLeft B b w ((w9.setCell ⟨b, 1, none⟩ v9).setCell ⟨b, 2, none⟩ (.slice none 0 0)) := by
  have hne : vt.ownBlock ≠ some b := own_ne hG (h0.ty.kept kk) (by decide)
  obtain ⟨ty9, c9⟩ := h0.grown kk hg hne
  obtain ⟨v1, a1, _⟩ := h0.t
  obtain ⟨v2, a2, _⟩ := h0.o
  refine ⟨⟨(ty9.setCell _ _ _).setCell _ _ _, ?_, ⟨v9, ?_, ?_⟩, ⟨_, ?_, GatP.nil _ _⟩⟩, ((left_grown hB kk hG hg).set 1 _).set 2 _⟩
  · rw [pt_off _ _ _ _ _ (by decide), pt_off _ _ _ _ _ (by decide), c9]
    exact h0.c0
  · rw [pt_off _ _ _ _ _ (by decide)]
    exact World.cell?_setCell_same _ _ _ (by rw [c9]; exact a1)
  · exact own_set (own_set hG9 ty9 (by decide) _ _) (ty9.setCell _ _ _) (by decide) _ _
  · exact World.cell?_setCell_same _ _ _ (by rw [pt_off _ _ _ _ _ (by decide), c9]; exact a2)
/-- What Wk.close leaves: the walk behind it, or one with the same texts. -/
def WkNext (B b gen : Nat) (k : Wk) (r : Option Wk) (w' : World) : Prop := ∃ k', WkAt B b gen k' w' ∧ (r = some k' ∨ (r = none ∧ k'.texts = k.texts))
set_option maxRecDepth 100000 in
set_option maxHeartbeats 4000000 in
theorem close_any (B b gen : Nat) (texts : List ByteArray) (op : List Pt) (w : World) (h : WkAt B b gen ⟨texts, op⟩ w) (hB : B ≤ w.heap.size) (ht : texts.length ≤ 1000) (ho : op.length ≤ 1000) (ho1 : 0 < op.length) (hp : ∀ x ∈ op, x.piece.size ≤ 34) (hsum : crc (catP op) = (op.headD Pt.none).sum) :
    Calls Tryz.prog 79 #[.pointer (some ⟨b, 0, none⟩)] w fun e w' => e = .returned (.bool ((Wk.close ⟨texts, op⟩ op).isSome)) ∧ WkNext B b gen ⟨texts, op⟩ (Wk.close ⟨texts, op⟩ op) w' ∧ WkLeft B b w w' := by
  have H0 := Lib.hid h
  obtain ⟨ty, c0, ⟨vt, c1, ht1⟩, ⟨vo, c2, hoo⟩⟩ := h
  obtain ⟨q, co, rfl, _, hql, hcap, hmx, hpt⟩ := hoo.at ho1
  have hbl : b < w.heap.size := ty.lt
  have HKN : Hid (∀ (W : World), Kept w W → W.cell? ⟨b, 1, none⟩ = some vt ∧ W.cell? ⟨b, 2, none⟩ = some (.slice (some ⟨q, 0, none⟩) op.length co)) := fun W kk => by
    have ce : ∀ o, W.cell? ⟨b, o, none⟩ = w.cell? ⟨b, o, none⟩ := fun o => World.cell?_of_block (w := w) (a := ⟨b, o, none⟩) (kk.block b hbl)
    exact ⟨by rw [ce]; exact c1, by rw [ce]; exact c2⟩
  have HPT := Lib.hid hpt
  have HP := Lib.hid hp
  have HL : Hid ((catP op).length ≤ 34 * op.length) := catP_len op hp
  have BN := Lib.hid (bld_new w)
  have K0 : Hid (Kept w (w.alloc (.cells #[.pointer none, .slice none 0 0] 151))) := (Kept.refl _).alloc _
  clear hpt hp c0 c1 c2 ht1 hoo ty
  obtain ⟨n, hn⟩ : ∃ n, n = op.length := ⟨_, rfl⟩
  have HN := Lib.hid hn
  rw [← hn] at HKN hcap ho ho1
  clear hn
  go_enter Tryz.func79, Tryz.ntmps79
  go_upto_region 2 with fail
  generalize w.alloc (.cells #[.pointer none, .slice none 0 0] 151) = w1 at *
  obtain ⟨k1, k2⟩ := HKN.out w1 K0.out
  go_upto_region 3 with fail
  obtain ⟨N, hN⟩ : ∃ N, N = w.heap.size := ⟨_, rfl⟩
  rw [← hN] at BN ⊢
  have HNW := Lib.hid hN
  clear hN k1 k2
  go_loopg [12] n (fun gh i wr => ∃ d : Nat, d + gh = n ∧ i = .int .i64 d ∧ Hid (Kept w wr ∧ Bld N N (catP (op.take d)) wr))
  case atStart => exact ⟨0, by omega, rfl, K0.out, BN.out⟩
  case round =>
    obtain ⟨d, hd, rfl, HI⟩ := hrel
    cases gk with
    | succ gh =>
      have b1 : decide ((d : Int) < (n : Int)) = true := decide_eq_true (by omega)
      have b0 : decide (d < n) = true := decide_eq_true (by omega)
      have hdn : (d : Int) < (n : Int) := by omega
      have hd0 : (0 : Int) ≤ (d : Int) := by omega
      have K1 := Lib.hid HI.out.1
      have B1 := Lib.hid HI.out.2
      have hdop : d < op.length := by rw [← HN.out]; omega
      have hpt := (HPT.out d hdop).kept K1.out
      have hpz := HP.out op[d] (List.getElem_mem hdop)
      have HCT := Lib.hid (catP_take op d hdop)
      have hcl : (catP (op.take d)).length ≤ 34 * 1000 := by
        have := catP_len (op.take d) (fun x hx => HP.out x (List.mem_of_mem_take hx))
        rw [List.length_take] at this
        omega
      generalize op[d] = x at *
      obtain ⟨q0, q1, q2, q3, q4, q5⟩ := hpt
      have hw1 : IntKind.i64.wrap ((d : Int) + 1) = ((d + 1 : Nat) : Int) := by rw [IntWalk.i64_in _ (by omega)]; omega
      have X2 := Lib.hid (PtAt.laid wr 104 x)
      have K2 : Hid (Kept wr (wr.alloc (.cells #[.int .u64 (x.gen : Nat), .int .u64 (x.num : Nat), .int .u64 (x.idx : Nat), .int .u64 (x.parts : Nat), .int .u32 (x.sum : Nat), .string x.piece] 104))) := (Kept.refl _).alloc _
      have B2 := Lib.hid (B1.out.kept K2.out)
      have hsz : N ≤ (wr.alloc (.cells #[.int .u64 (x.gen : Nat), .int .u64 (x.num : Nat), .int .u64 (x.idx : Nat), .int .u64 (x.parts : Nat), .int .u32 (x.sum : Nat), .string x.piece] 104)).heap.size := Nat.le_trans (by rw [HNW.out]; exact K1.out.size) K2.out.size
      have HSZ := Lib.hid hsz
      have K3 : Hid (Kept w (wr.alloc (.cells #[.int .u64 (x.gen : Nat), .int .u64 (x.num : Nat), .int .u64 (x.idx : Nat), .int .u64 (x.parts : Nat), .int .u32 (x.sum : Nat), .string x.piece] 104))) := K1.out.trans K2.out
      clear HI hsz B1 K1
      go_upto_region 5 with fail
      generalize wr.alloc (.cells #[.int .u64 (x.gen : Nat), .int .u64 (x.num : Nat), .int .u64 (x.idx : Nat), .int .u64 (x.parts : Nat), .int .u32 (x.sum : Nat), .string x.piece] 104) = w2 at *
      generalize wr.heap.size = G at *
      have x5 := X2.out.c5
      clear q0 q1 q2 q3 q4 q5 X2 K2
      go_wp2_with fail
      refine (bld_write N N _ x.piece w2 B2.out (by omega) HSZ.out).mono ?_
      rintro e w3 ⟨rfl, hb3, hk3⟩
      have HF : Hid (Kept w w3 ∧ Bld N N (catP (op.take (d + 1))) w3) := ⟨Below.trans K3.out (by rw [← HNW.out]; exact hk3), by rw [HCT.out]; exact hb3⟩
      clear hb3 hk3 x5 B2 K3 HSZ
      go_wp2_with fail
      go_roundg gh
      case measure => omega
      case rel => exact ⟨d + 1, by omega, by go_num, HF.out⟩
    | zero =>
      have b1 : decide ((d : Int) < (n : Int)) = false := decide_eq_false (by omega)
      obtain rfl : d = n := by omega
      have b0 : decide (d < d) = false := decide_eq_false (by omega)
      have K1 := Lib.hid HI.out.1
      have hb1 := HI.out.2
      rw [HN.out, List.take_length] at hb1
      have B1 := Lib.hid hb1.blR
      clear HI hb1 K0 BN
      obtain ⟨k1, k2⟩ := HKN.out wr K1.out
      have hat : Gat B vt texts w := by obtain ⟨v', a1, a2⟩ := H0.out.t; rw [show vt = v' from by have := HKN.out w (Kept.refl w); rw [a1] at this; exact (Option.some.inj this.1).symm]; exact a2
      obtain ⟨at', ct, rfl, _⟩ := hat.strs
      obtain ⟨nt, hnt⟩ : ∃ nt, nt = texts.length := ⟨_, rfl⟩
      rw [← hnt] at hat HKN ht k1
      have HGT := Lib.hid hat
      have HNT := Lib.hid hnt
      clear hnt hat
      obtain ⟨s0, hs0⟩ : ∃ s0, s0 = (op.headD Pt.none).sum := ⟨_, rfl⟩
      have HQ4 : Hid (∀ W, Kept w W → W.cell? ⟨q, 4, none⟩ = some (.int .u32 (s0 : Nat))) := fun W kk => by
        have h0 : 0 < op.length := by rw [← HN.out]; omega
        have h1 := (HPT.out 0 h0).kept kk
        have h2 : s0 = op[0].sum := by
          rw [hs0]
          rw [List.headD_eq_head?_getD, List.head?_eq_getElem?, List.getElem?_eq_getElem h0]
          rfl
        rw [h2]
        have := h1.c4
        rw [Nat.zero_mul] at this
        exact this
      have HK8 : Hid (∀ W, Kept w W → W.cell? ⟨b, 2, none⟩ = some (.slice (some ⟨q, 0, none⟩) d co) ∧ W.cell? ⟨q, 4, none⟩ = some (.int .u32 (s0 : Nat))) := fun W kk => ⟨(HKN.out W kk).2, HQ4.out W kk⟩
      obtain ⟨TT, hTT⟩ : ∃ TT : ByteArray, TT = ⟨(catP op).toArray⟩ := ⟨_, rfl⟩
      have htl : TT.data.toList = catP op := by rw [hTT]
      have htz : TT.size ≤ maxLen := by rw [← data_len, htl]; have h1 := HL.out; have h2 := HN.out; unfold maxLen; omega
      obtain ⟨cr, hcr⟩ : ∃ cr, cr = crc (catP op) := ⟨_, rfl⟩
      have HOF : Hid (∀ W T, Calls Tryz.prog 55 #[.slice (some ⟨W.heap.size, 0, none⟩) 1 1] (W.alloc (.cells #[.string TT] T)) fun e w' => e = .returned (.int .u32 (cr : Nat)) ∧ Kept W w') := fun W T => by
        have := of_single TT htz W T
        rw [htl, ← hcr] at this
        exact this
      have HTT := Lib.hid hTT
      have K1d : Hid (Kept w wr.drew) := K1.out.drew
      have B1d : Hid (BlR N N (catP op) wr.drew) := B1.out.kept ((Kept.refl _).drew)
      have HND : Hid (N ≤ wr.drew.heap.size) := by show N ≤ _; rw [HNW.out]; exact K1d.out.size
      have HBB := Lib.hid hB
      have HDONE : Hid (∀ W' w9 v9, Kept w W' → W'.grownBy w9 (Value.slice at' nt ct).ownBlock → Gat B v9 (texts ++ [TT]) w9 → Hid (WkAt B b gen ⟨texts ++ [TT], []⟩ ((w9.setCell ⟨b, 1, none⟩ v9).setCell ⟨b, 2, none⟩ (.slice none 0 0)) ∧ WkLeft B b w ((w9.setCell ⟨b, 1, none⟩ v9).setCell ⟨b, 2, none⟩ (.slice none 0 0))) ∧ w9.frozen? ⟨b, 1, none⟩ = false ∧ w9.frozen? ⟨b, 2, none⟩ = false ∧ w9.cell? ⟨b, 1, none⟩ = some (.slice at' nt ct) ∧ w9.cell? ⟨b, 2, none⟩ = some (.slice (some ⟨q, 0, none⟩) d co)) := fun W' w9 v9 kk hg hG9 => by
        have hne : (Value.slice at' nt ct).ownBlock ≠ some b := own_ne (HGT.out.kept kk) (H0.out.ty.kept kk) (by decide)
        obtain ⟨ty9, c9⟩ := H0.out.grown kk hg hne
        have := HKN.out w (Kept.refl w)
        exact ⟨close_done B b gen texts op TT w W' w9 _ v9 H0.out HBB.out kk (HGT.out.kept kk) hg hG9, ty9.free 1, ty9.free 2, by rw [c9]; exact this.1, by rw [c9]; exact this.2⟩
      have hcl : Wk.close ⟨texts, op⟩ op = if cr = s0 ∧ (texts = [] → catP op = []) then some ⟨texts ++ [TT], []⟩ else none := by rw [hcr, hs0, hTT]; rfl
      have hq0 : (0 : Int) < (d : Int) := by omega
      have hq1 : (1 : Int) ≤ (d : Int) := by omega
      by_cases hc : cr = s0
      · have hne : ((cr : Int) != (s0 : Int)) = false := by rw [hc]; simp
        have hneN : (cr != s0) = false := by rw [hc]; simp
        have hneD : decide (cr = s0) = true := decide_eq_true hc
        by_cases ht0 : texts = []
        · have hz0 : nt = 0 := by rw [HNT.out, ht0]; rfl
          have hz : ((nt : Int) == 0) = true := by rw [hz0]; rfl
          have hzN : (nt == 0) = true := by rw [hz0]; rfl
          have hzD : decide (nt = 0) = true := decide_eq_true hz0
          by_cases hce : catP op = []
          · have HCL : Hid (Wk.close ⟨texts, op⟩ op = some ⟨texts ++ [TT], []⟩) := by show _ = _; rw [hcl, if_pos ⟨hc, fun _ => hce⟩]
            have hlz : decide ((0 : Int) < ((catP op).length : Int)) = false := by rw [hce]; rfl
            have hlzN : decide (0 < (catP op).length) = false := by rw [hce]; rfl
            obtain ⟨cl, hcl2⟩ : ∃ cl, cl = (catP op).length := ⟨_, rfl⟩
            have HLEN := Lib.hid (fun W hW => blR_len N N (catP op) W hW)
            rw [← hcl2] at hlz hlzN HLEN
            clear hcl2
            clear hcl hc ht0 hz0 hce hs0 hcr htz htl hTT
            go_upto_region 8 with fail
            go_region_held3 (fun W' => W'.cell? ⟨b, 2, none⟩ = some (.slice (some ⟨q, 0, none⟩) d co) ∧ W'.cell? ⟨q, 4, none⟩ = some (.int .u32 (s0 : Nat)))
              (first | exact HK8.out _ K1.out | exact HK8.out _ K1d.out | exact HK8.out _ kA | exact HK8.out _ (kA.alloc _) | exact HK8.out _ kB | exact HK8.out _ kC)
              (first
                | (go_at_call 94; refine (blR_string N N (catP op) _ B1d.out HND.out).mono ?_; rintro e wA ⟨rfl, hbA, hkA⟩; have kA : Kept w wA := Below.trans K1d.out (by rw [← HNW.out]; exact hkA); clear hkA)
                | (go_at_call 55; rw [← HTT.out]; refine (HOF.out wA _).mono ?_; rintro e wB ⟨rfl, hkB⟩; have kB := Kept.trans kA hkB; have hbB := hbA.kept hkB; clear hkB)
                | (go_at_call 105; refine (HLEN.out _ hbB).mono ?_; rintro e wC ⟨rfl, hbC, hkC⟩; have kC := Kept.trans kB hkC; clear hkC))
            have KB := Lib.hid kC
            have BB := Lib.hid hbC
            have KBD : Hid (Kept w wC.drew) := kC.drew
            have BBD : Hid (BlR N N (catP op) wC.drew) := hbC.kept ((Kept.refl _).drew)
            have HNB : Hid (N ≤ wC.drew.heap.size) := by show N ≤ _; rw [HNW.out]; exact KBD.out.size
            obtain ⟨m1, m2⟩ := HKN.out wC.drew KBD.out
            clear kA hbA hbC kC hbB kB k1 k2
            go_upto_region 10 with fail
            go_region_law (first
              | (refine step_gats rfl (.tmp 49) (.tmp 51) rfl B (Nat.le_trans HBB.out (kS.alloc _).size) (.slice at' nt ct) texts (by rfl) (HGT.out.kept (kS.alloc _)) TT wS.heap.size (by rfl) (by rw [World.cell?_alloc_mark]; rfl) (by rw [← HNT.out]; omega) ?_; intro v9 w9 hG9 hg9; obtain ⟨a9, c9, rfl, _⟩ := hG9.strs; obtain ⟨HW9, f1, f2, e1, e2⟩ := HDONE.out _ w9 _ (kS.alloc _) hg9 hG9)
              | (go_simp; go_at_call 94; refine (blR_string N N (catP op) _ (by first | exact BBD.out | exact BB.out) HNB.out).mono ?_; rintro e wS ⟨rfl, hbS, hkS⟩; rw [← HTT.out]; have kS : Kept w wS := Below.trans KBD.out (by rw [← HNW.out]; exact hkS); obtain ⟨n1, n2⟩ := HKN.out wS kS; have n3 := fun o => (HKN.out _ (kS.alloc o)).1; clear hkS))
            all_goals
              go_wp2_with fail
              go_ret
              rw [HCL.out]
              have hW := HW9.out; rw [show (texts ++ [TT]).length = texts.length + 1 from by simp] at hW; exact ⟨rfl, ⟨_, hW.1, .inl rfl⟩, hW.2⟩
          · have HCL : Hid (Wk.close ⟨texts, op⟩ op = none) := by show _ = _; rw [hcl, if_neg (fun c => hce (c.2 ht0))]
            have hpos : 0 < (catP op).length := List.length_pos_iff.2 hce
            have hlz : decide ((0 : Int) < ((catP op).length : Int)) = true := decide_eq_true (by omega)
            have hlzN : decide (0 < (catP op).length) = true := decide_eq_true hpos
            obtain ⟨cl, hcl2⟩ : ∃ cl, cl = (catP op).length := ⟨_, rfl⟩
            have HLEN := Lib.hid (fun W hW => blR_len N N (catP op) W hW)
            rw [← hcl2] at hlz hlzN HLEN
            clear hcl2 hpos
            clear hcl hc ht0 hz0 hce hs0 hcr htz htl hTT
            go_upto_region 8 with fail
            go_region_held3 (fun W' => W'.cell? ⟨b, 2, none⟩ = some (.slice (some ⟨q, 0, none⟩) d co) ∧ W'.cell? ⟨q, 4, none⟩ = some (.int .u32 (s0 : Nat)))
              (first | exact HK8.out _ K1.out | exact HK8.out _ K1d.out | exact HK8.out _ kA | exact HK8.out _ (kA.alloc _) | exact HK8.out _ kB | exact HK8.out _ kC)
              (first
                | (go_at_call 94; refine (blR_string N N (catP op) _ B1d.out HND.out).mono ?_; rintro e wA ⟨rfl, hbA, hkA⟩; have kA : Kept w wA := Below.trans K1d.out (by rw [← HNW.out]; exact hkA); clear hkA)
                | (go_at_call 55; rw [← HTT.out]; refine (HOF.out wA _).mono ?_; rintro e wB ⟨rfl, hkB⟩; have kB := Kept.trans kA hkB; have hbB := hbA.kept hkB; clear hkB)
                | (go_at_call 105; refine (HLEN.out _ hbB).mono ?_; rintro e wC ⟨rfl, hbC, hkC⟩; have kC := Kept.trans kB hkC; clear hkC))
            have HF : Hid (WkNext B b gen ⟨texts, op⟩ none wC ∧ WkLeft B b w wC) := ⟨⟨_, H0.out.kept kC, .inr ⟨rfl, rfl⟩⟩, kC.wk HBB.out⟩
            clear kA hbA hbC kC hbB kB
            go_wp2_with fail
            go_ret
            rw [HCL.out]
            exact ⟨rfl, HF.out⟩

        · have hz0 : nt ≠ 0 := fun c => ht0 (List.length_eq_zero_iff.1 (by rw [← HNT.out]; exact c))
          have hz : ((nt : Int) == 0) = false := by rw [beq_eq_false_iff_ne]; omega
          have hzN : (nt == 0) = false := by rw [beq_eq_false_iff_ne]; exact hz0
          have hzD : decide (nt = 0) = false := decide_eq_false hz0
          have HCL : Hid (Wk.close ⟨texts, op⟩ op = some ⟨texts ++ [TT], []⟩) := by show _ = _; rw [hcl, if_pos ⟨hc, fun c => absurd c ht0⟩]
          clear hcl hc ht0 hs0 hcr htz htl hTT
          go_upto_region 8 with fail
          obtain ⟨y1, y2⟩ := HK8.out _ K1d.out
          first
            | (go_region_law (first
                | (go_simp; go_at_call 94; refine (blR_string N N (catP op) _ B1d.out HND.out).mono ?_; rintro e wA ⟨rfl, hbA, hkA⟩; have kA : Kept w wA := Below.trans K1d.out (by rw [← HNW.out]; exact hkA); clear hkA; obtain ⟨y3, y4⟩ := HK8.out _ kA; have y5 := fun o => (HK8.out _ (kA.alloc o)).1; have y6 := fun o => (HK8.out _ (kA.alloc o)).2)
                | (go_simp; go_at_call 55; rw [← HTT.out]; refine (HOF.out wA _).mono ?_; rintro e wB ⟨rfl, hkB⟩; have kB := Kept.trans kA hkB; have hbB := hbA.kept hkB; clear hkB; obtain ⟨y7, y8⟩ := HK8.out _ kB)))
            | fail
          all_goals
            have KB := Lib.hid kB
            have BB := Lib.hid hbB
            have KBD : Hid (Kept w wB.drew) := kB.drew
            have BBD : Hid (BlR N N (catP op) wB.drew) := hbB.kept ((Kept.refl _).drew)
            have HNB : Hid (N ≤ wB.drew.heap.size) := by show N ≤ _; rw [HNW.out]; exact KBD.out.size
            obtain ⟨m1, m2⟩ := HKN.out wB.drew KBD.out
            clear kA hbA hbB kB k1 k2
            go_upto_region 10 with fail
            go_region_law (first
              | (refine step_gats rfl (.tmp 49) (.tmp 51) rfl B (Nat.le_trans HBB.out (kS.alloc _).size) (.slice at' nt ct) texts (by rfl) (HGT.out.kept (kS.alloc _)) TT wS.heap.size (by rfl) (by rw [World.cell?_alloc_mark]; rfl) (by rw [← HNT.out]; omega) ?_; intro v9 w9 hG9 hg9; obtain ⟨a9, c9, rfl, _⟩ := hG9.strs; obtain ⟨HW9, f1, f2, e1, e2⟩ := HDONE.out _ w9 _ (kS.alloc _) hg9 hG9)
              | (go_simp; go_at_call 94; refine (blR_string N N (catP op) _ (by first | exact BBD.out | exact BB.out) HNB.out).mono ?_; rintro e wS ⟨rfl, hbS, hkS⟩; rw [← HTT.out]; have kS : Kept w wS := Below.trans KBD.out (by rw [← HNW.out]; exact hkS); obtain ⟨n1, n2⟩ := HKN.out wS kS; have n3 := fun o => (HKN.out _ (kS.alloc o)).1; clear hkS))
            all_goals
              go_wp2_with fail
              go_ret
              rw [HCL.out]
              have hW := HW9.out; rw [show (texts ++ [TT]).length = texts.length + 1 from by simp] at hW; exact ⟨rfl, ⟨_, hW.1, .inl rfl⟩, hW.2⟩
      · exact absurd (by rw [hcr, hs0]; exact hsum) hc
end Go.Proofs.YtmgkkoajjdgmbaaGreatDoor

/- The program's walk over a drive's sectors: the next sector; does a sector belong to the generation? -/
namespace Go.Proofs.YtmgkkoajjdgmbaaGreatDoor
open Go.RowKit Sm Wr _root_.Go.Proofs.YtmgkkoajjdgmbaaGreatDoor.Nm
set_option linter.unusedVariables false
theorem lookR_sect {b : List UInt8} (h : Sect b) : (b = zero64 ∧ lookR b = none) ∨ ∃ x : Pt, x.Ok ∧ b = x.raw ∧ lookR b = some x := by
  rcases h with rfl | ⟨x, hx, rfl⟩
  · exact .inl ⟨rfl, lookR_zero⟩
  · exact .inr ⟨x, hx, rfl, lookR_raw hx⟩
theorem op_done (B b gen : Nat) (texts : List ByteArray) (op : List Pt) (x : Pt) (w W' w9 : World) (vo v9 : Value) (h0 : WkAt B b gen ⟨texts, op⟩ w) (hB : B ≤ w.heap.size) (kk : Kept w W') (hG : GatP B vo op W') (hg : W'.grownBy w9 vo.ownBlock) (hG9 : GatP B v9 (op ++ [x]) w9) :
    WkAt B b gen ⟨texts, op ++ [x]⟩ (w9.setCell ⟨b, 2, none⟩ v9) ∧ WkLeft B b w (w9.setCell ⟨b, 2, none⟩ v9) := by
  have hne : vo.ownBlock ≠ some b := own_ne hG (h0.ty.kept kk) (by decide)
  obtain ⟨ty9, c9⟩ := h0.grown kk hg hne
  obtain ⟨v1, a1, hg1⟩ := h0.t
  obtain ⟨v2, a2, _⟩ := h0.o
  refine ⟨⟨ty9.setCell _ _ _, ?_, ⟨v1, ?_, ?_⟩, ⟨v9, ?_, ?_⟩⟩, (left_grown hB kk hG hg).set 2 _⟩
  · rw [pt_off _ _ _ _ _ (by decide), c9]
    exact h0.c0
  · rw [pt_off _ _ _ _ _ (by decide), c9]
    exact a1
  · have h1 := hg1.kept kk
    have h2 : Gat B v1 texts w9 := World.ownsRow.kept h1 hg (own_own h1 hG (by decide))
    exact own_set h2 ty9 (by decide) _ _
  · exact World.cell?_setCell_same _ _ _ (by rw [c9]; exact a2)
  · exact own_set hG9 ty9 (by decide) _ _
set_option maxRecDepth 100000 in
set_option maxHeartbeats 4000000 in
theorem wtake_any (B b gen : Nat) (k : Wk) (s : ByteArray) (w : World) (h : WkAt B b gen k w) (hs : Sect s.data.toList) (hB : B ≤ w.heap.size) (ht : k.texts.length ≤ 900) (ho : k.op.length ≤ 900) (hp : ∀ y ∈ k.op, y.piece.size ≤ 34)
    (hsum : ∀ x, lookR s.data.toList = some x → k.goes gen x = true → ¬ (x.idx + 1 < x.parts) → crc (catP (k.op ++ [x])) = ((k.op ++ [x]).headD Pt.none).sum) :
    Calls Tryz.prog 61 #[.pointer (some ⟨b, 0, none⟩), .string s] w fun e w' => e = .returned (.bool ((k.take gen s.data.toList).isSome)) ∧ WkNext B b gen k (k.take gen s.data.toList) w' ∧ WkLeft B b w w' := by
  have H0 := Lib.hid h
  have HBB := Lib.hid hB
  have HTK : Hid (k.take gen s.data.toList = match lookR s.data.toList with | none => none | some x => if k.goes gen x = true then (if x.idx + 1 < x.parts then some ⟨k.texts, k.op ++ [x]⟩ else k.close (k.op ++ [x])) else none) := rfl
  obtain ⟨R, hR⟩ : ∃ R, R = k.take gen s.data.toList := ⟨_, rfl⟩
  rw [← hR] at HTK ⊢
  clear hR
  rcases lookR_sect hs with ⟨hz, hl⟩ | ⟨x, hx, hraw, hl⟩
  · have HLK := Lib.hid (fun W => look_zero s hz W)
    rw [hl] at HTK
    have HR : Hid (R = none) := HTK.out
    unfold lookV Pt.val Pt.none at HLK
    clear HTK hz hl h hsum hs hp ht ho hB
    go_enter Tryz.func61, Tryz.ntmps61
    go_wp2_with fail
    refine (HLK.out _).mono ?_
    rintro e w1 ⟨rfl, hk⟩
    have K1 : Hid (Kept w (w1.alloc (.cells #[.int .u64 0, .int .u64 0, .int .u64 0, .int .u64 0, .int .u32 0, .string ⟨#[]⟩] 104))) := hk.alloc _
    clear hk HLK
    go_wp2_with fail
    go_ret
    rw [HR.out]
    exact ⟨rfl, ⟨k, H0.out.kept K1.out, .inr ⟨rfl, rfl⟩⟩, K1.out.wk HBB.out⟩
  · have HLK := Lib.hid (fun W => look_raw s x hx hraw W)
    have HSM := Lib.hid (hsum x hl)
    rw [hl] at HTK
    have HTK2 : Hid (R = if k.goes gen x = true then (if x.idx + 1 < x.parts then some ⟨k.texts, k.op ++ [x]⟩ else k.close (k.op ++ [x])) else none) := HTK.out
    have HGO := Lib.hid (fun W kk => goes_any B b gen k x W (H0.out.kept (w' := W) kk) (by omega) (by omega))
    obtain ⟨gb, hgb⟩ : ∃ gb, gb = k.goes gen x := ⟨_, rfl⟩
    rw [← hgb] at HGO HTK2 HSM
    have HX1 := Lib.hid (fun W => PtAt.laid W 104 x)
    have hx34 := hx.len
    have hxi := hx.idx
    have hxp := hx.parts
    have HPX := Lib.hid (fun W => newP_cells W x 104)
    have HXOK := Lib.hid hx
    unfold lookV Pt.val at HLK
    unfold Pt.val at HGO
    clear HTK hl h hsum hs hB hgb hraw hx
    obtain ⟨texts, op⟩ := k
    dsimp only at *
    have HP := Lib.hid hp
    have HLO := Lib.hid ho
    have HLT := Lib.hid ht
    clear hp ho ht
    go_enter Tryz.func61, Tryz.ntmps61
    go_wp2_with fail
    refine (HLK.out _).mono ?_
    rintro e w1 ⟨rfl, hk⟩
    have K1 : Hid (Kept w (w1.alloc (.cells #[.int .u64 (x.gen : Nat), .int .u64 (x.num : Nat), .int .u64 (x.idx : Nat), .int .u64 (x.parts : Nat), .int .u32 (x.sum : Nat), .string x.piece] 104))) := hk.alloc _
    have X1 := Lib.hid (HX1.out w1)
    have hb1 : B ≤ w1.heap.size := Nat.le_trans HBB.out hk.size
    have HB1 := Lib.hid hb1
    have HGW : Hid (w.heap.size ≤ w1.heap.size) := hk.size
    clear hk HLK HX1 hb1
    go_upto_region 2 with fail
    generalize w1.alloc (.cells #[.int .u64 (x.gen : Nat), .int .u64 (x.num : Nat), .int .u64 (x.idx : Nat), .int .u64 (x.parts : Nat), .int .u32 (x.sum : Nat), .string x.piece] 104) = w2 at *
    generalize w1.heap.size = G at *
    obtain ⟨x0, x1, x2, x3, x4, x5⟩ := X1.out
    go_wp2_with fail
    refine (HGO.out _ K1.out).mono ?_
    rintro e w3 ⟨rfl, hk⟩
    have K2 : Hid (Kept w w3) := K1.out.trans hk
    have X2 := Lib.hid (X1.out.kept hk)
    clear hk x0 x1 x2 x3 x4 x5 K1 X1 HGO
    cases gb with
    | false =>
      have HR : Hid (R = none) := HTK2.out
      clear HTK2
      go_wp2_with fail
      go_ret
      rw [HR.out]
      exact ⟨rfl, ⟨_, H0.out.kept K2.out, .inr ⟨rfl, rfl⟩⟩, K2.out.wk HBB.out⟩
    | true =>
      obtain ⟨vo, hvo, hgo⟩ := H0.out.o
      dsimp only at hgo
      obtain ⟨ao, co, rfl⟩ := hgo.len
      have HGO := Lib.hid hgo
      have HVO := Lib.hid hvo
      have HCO : Hid (∀ W, Kept w W → W.cell? ⟨b, 2, none⟩ = some (.slice ao op.length co)) := fun W kk => by rw [Below.cell kk (p := ⟨b, 2, none⟩) (block_lt_of_cell hvo)]; exact hvo
      have KD : Hid (Kept w w3.drew) := K2.out.drew
      have hw1 : IntKind.u64.wrap ((x.idx : Int) + 1) = (x.idx : Int) + 1 := IntWalk.u64_in _ (by omega)
      have y2 := HCO.out _ KD.out
      have y3 := fun o => HCO.out _ (KD.out.alloc o)
      have y4 := fun o => HCO.out _ ((K2.out.alloc o).drew)
      obtain ⟨x0, x1, x2, x3, x4, x5⟩ := X2.out.kept ((Kept.refl _).drew)
      have HDONE : Hid (∀ W' w9 v9, Kept w W' → W'.grownBy w9 (Value.slice ao op.length co).ownBlock → GatP B v9 (op ++ [x]) w9 → Hid (WkAt B b gen ⟨texts, op ++ [x]⟩ (w9.setCell ⟨b, 2, none⟩ v9) ∧ WkLeft B b w (w9.setCell ⟨b, 2, none⟩ v9)) ∧ w9.frozen? ⟨b, 2, none⟩ = false ∧ w9.cell? ⟨b, 2, none⟩ = some (.slice ao op.length co)) := fun W' w9 v9 kk hg hG9 => by
        have hne : (Value.slice ao op.length co).ownBlock ≠ some b := own_ne (HGO.out.kept kk) (H0.out.ty.kept kk) (by decide)
        obtain ⟨ty9, c9⟩ := H0.out.grown kk hg hne
        exact ⟨op_done B b gen texts op x w W' w9 _ v9 H0.out HBB.out kk (HGO.out.kept kk) hg hG9, ty9.free 2, by rw [c9]; exact HVO.out⟩
      have HX9 : Hid (∀ W' w9, Kept w3 W' → W'.grownBy w9 (Value.slice ao op.length co).ownBlock → PtAt w9 G 0 x) := fun W' w9 kk hg => by
        refine (X2.out.kept kk).frame (hg.block G (Nat.lt_of_lt_of_le X2.out.lt kk.size) (fun c => ?_))
        have h1 := (World.ownsRow.lt (HGO.out) G c.symm).2
        have h2 := HGW.out
        omega
      have hlen : op.length ≤ 1000000 := by have := HLO.out; omega
      have KA : Hid (∀ o, Kept w (w3.drew.alloc o)) := fun o => KD.out.alloc o
      clear hgo hvo
      go_upto_region 4 with fail
      go_region_law (refine step_gatp rfl (.tmp 24) (.tmp 26) rfl B (Nat.le_trans HBB.out (KA.out _).size) (.slice ao op.length co) op (by rfl) (HGO.out.kept (KA.out _)) x w3.drew.heap.size (by rfl) (HPX.out _) hlen ?_; intro v9 w9 hG9 hg9; obtain ⟨a9, c9, rfl⟩ := hG9.len; obtain ⟨HW9, f2, e2⟩ := HDONE.out _ w9 _ (KA.out _) hg9 hG9; have HXX := Lib.hid (HX9.out _ w9 (((Kept.refl _).drew).alloc _) hg9))
      all_goals
        have HW := HW9.out
        have hW1 := Lib.hid HW.1
        have hW2 := Lib.hid HW.2
        rw [show (op ++ [x]).length = op.length + 1 from by simp] at hW1 hW2
        have hbG : G ≠ b := by have h1 := H0.out.ty.lt; have h2 := HGW.out; omega
        have hX4 := HXX.out.frame (w' := w9.setCell ⟨b, 2, none⟩ (.slice a9 (op.length + 1) c9)) (Below.heap_setCell _ _ _ _ (by show G ≠ b; exact hbG))
        have X4 := Lib.hid hX4
        obtain ⟨z0, z1, z2, z3, z4, z5⟩ := hX4
        have hsz : B ≤ (w9.setCell ⟨b, 2, none⟩ (.slice a9 (op.length + 1) c9)).heap.size := by have := hW2.out.1.size; exact Nat.le_trans HBB.out this
        have HSZ := Lib.hid hsz
        clear hsz HXX HW HW9 hG9 hg9 e2 f2 x0 x1 x2 x3 x4 x5 hbG
        generalize w9.setCell ⟨b, 2, none⟩ (.slice a9 (op.length + 1) c9) = W4 at *
        by_cases hlast : x.idx + 1 < x.parts
        · have b1 : decide ((x.idx : Int) + 1 < (x.parts : Int)) = true := decide_eq_true (by omega)
          have HR : Hid (R = some ⟨texts, op ++ [x]⟩) := by show _ = _; rw [HTK2.out, if_pos trivial, if_pos hlast]
          clear HTK2
          go_wp2_with fail
          go_ret
          rw [HR.out]
          exact ⟨rfl, ⟨_, hW1.out, .inl rfl⟩, hW2.out⟩
        · have b1 : decide ((x.idx : Int) + 1 < (x.parts : Int)) = false := decide_eq_false (by omega)
          have HR : Hid (R = Wk.close ⟨texts, op ++ [x]⟩ (op ++ [x])) := by show _ = _; rw [HTK2.out, if_pos trivial, if_neg hlast]; rfl
          have HCL := Lib.hid (close_any B b gen texts (op ++ [x]) W4 hW1.out HSZ.out (by have := HLT.out; omega) (by have := HLO.out; simp; omega) (by simp) (fun y hy => by
            rcases List.mem_append.1 hy with h | h
            · exact HP.out y h
            · simp at h; subst h; exact hx34) (HSM.out trivial hlast))
          rw [← HR.out] at HCL
          clear HTK2 hlast
          go_wp2_with fail
          refine HCL.out.mono ?_
          rintro e w6 ⟨rfl, hN, hL⟩
          have HF : Hid (WkNext B b gen ⟨texts, op⟩ R w6 ∧ WkLeft B b w w6) := by
            refine ⟨?_, hW2.out.trans hL⟩
            obtain ⟨k', h1, h2⟩ := hN
            exact ⟨k', h1, h2⟩
          clear hN hL HCL
          go_wp2_with fail
          go_ret
          exact ⟨rfl, HF.out⟩
theorem look_any (s : ByteArray) (hs : Sect s.data.toList) (w : World) :
    Calls Tryz.prog 77 #[.string s] w fun e w' => e = .returned (lookV (lookR s.data.toList)) ∧ Kept w w' := by
  rcases lookR_sect hs with ⟨hz, hl⟩ | ⟨x, hx, hraw, hl⟩
  · rw [hl]; exact look_zero s hz w
  · rw [hl]; exact look_raw s x hx hraw w
end Go.Proofs.YtmgkkoajjdgmbaaGreatDoor

