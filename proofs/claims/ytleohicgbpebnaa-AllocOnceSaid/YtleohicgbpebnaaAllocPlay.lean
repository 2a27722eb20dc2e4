/- A script is played: the codes, and what the rows are then. -/
import Derived.Test.YtleohicgbpebnaaAllocSteps
import Derived.Test.YtleohicgbpebnaaCopyI
namespace Go.Proofs.Ytleohicgbpebnaa
open Go.RowKit
set_option linter.unusedVariables false
/-- One step: the code, and what the rows are then. -/
noncomputable def stepE (n : Nat) (f : Nat → Nat) (z : AStp) : Nat := if z.op = 0 then takeE n f z.k else if z.op = 1 then turnE n f 2 z.l else if z.op = 2 then turnE n f 3 z.l else 0
noncomputable def stepF (n : Nat) (f : Nat → Nat) (z : AStp) : Nat → Nat := if z.op = 0 then takeF n f z.k else if z.op = 1 then turnF n f 2 3 z.l else if z.op = 2 then turnF n f 3 1 z.l else f
noncomputable def playF (n : Nat) (f : Nat → Nat) (zs : List AStp) : Nat → Nat := zs.foldl (stepF n) f
noncomputable def playE (n : Nat) (f : Nat → Nat) : List AStp → List Int
  | [] => []
  | z :: r => (stepE n f z : Int) :: playE n (stepF n f z) r
theorem playF_snoc (n : Nat) (f : Nat → Nat) (zs : List AStp) (z : AStp) : playF n f (zs ++ [z]) = stepF n (playF n f zs) z := by unfold playF; rw [List.foldl_append]; rfl
theorem playE_snoc (n : Nat) (zs : List AStp) (z : AStp) : ∀ f, playE n f (zs ++ [z]) = playE n f zs ++ [(stepE n (playF n f zs) z : Int)] := by
  induction zs with
  | nil => intro f; rfl
  | cons y r ih => intro f; exact congrArg (List.cons _) (ih (stepF n f y))
theorem playE_length (n : Nat) (zs : List AStp) : ∀ f, (playE n f zs).length = zs.length := by
  induction zs with
  | nil => intro f; rfl
  | cons y r ih => intro f; show (_ :: _).length = _; rw [List.length_cons, List.length_cons, ih]
theorem takeF_wf {n : Nat} {f : Nat → Nat} {k : Int} (h : ∀ j, j < n → 1 ≤ f j ∧ f j ≤ 3) : ∀ j, j < n → 1 ≤ takeF n f k j ∧ takeF n f k j ≤ 3 := letF_wf (by decide) h
theorem take_next {zs : List AStp} {k : Nat} (h : k < zs.length) : zs.take (k + 1) = zs.take k ++ [zs[k]] := List.take_succ_eq_append_getElem h
/-- The value v is a slice of just these codes, nil or in a row among the blocks from B on. -/
def GatE (B : Nat) (v : Value) (rs : List Int) (w : World) : Prop := w.ownsRow B 27 1 v rs.length (rs.map (Value.int .i64))
theorem GatE.nil (B : Nat) (w : World) : GatE B (.slice none 0 0) [] w := World.ownsRow_nil _ _ _ _
theorem GatE.lt {B : Nat} {v : Value} {rs : List Int} {w : World} (h : GatE B v rs w) : ∀ k, v.ownBlock = some k → B ≤ k ∧ k < w.heap.size := World.ownsRow.lt h
theorem GatE.block {B : Nat} {v : Value} {rs : List Int} {w w' : World} (h : GatE B v rs w) (e : ∀ k, v.ownBlock = some k → w'.heap[k]? = w.heap[k]?) : GatE B v rs w' := by
  obtain ⟨h1, h2⟩ := h
  refine ⟨h1, ?_⟩
  rcases h2 with h2 | ⟨g, cap, cur, h2, h3, h4, h5⟩
  · exact .inl h2
  · exact .inr ⟨g, cap, cur, h2, h3, by rw [e g (by rw [h2]; rfl)]; exact h4, h5⟩
theorem GatE.kept {B : Nat} {v : Value} {rs : List Int} {w w' : World} (h : GatE B v rs w) (k : Kept w w') : GatE B v rs w' := h.block fun q hq => k.block q (h.lt q hq).2
theorem GatE.ints {B : Nat} {v : Value} {rs : List Int} {w : World} (h : GatE B v rs w) : ∃ a cap, v = .slice a rs.length cap ∧ Ints .i64 w a rs := by
  obtain ⟨h1, h2⟩ := h
  rcases h2 with ⟨rfl, h2⟩ | ⟨g, cap, cur, rfl, h3, h4, h5, h6, h7, h8⟩
  · exact ⟨none, 0, by rw [h2], .inl (List.length_eq_zero_iff.1 h2)⟩
  · refine ⟨_, cap, rfl, .inr ⟨g, 0, rfl, fun i hi => ?_⟩⟩
    rw [Nat.zero_add, cell_of_row _ _ i _ _ _ h4]
    have e : (cur.toList.take (rs.length * 1))[i]? = (rs.map (Value.int .i64))[i]? := by rw [h8]
    rw [List.getElem?_take_of_lt (by omega)] at e
    rw [← Array.getElem?_toList, e, List.getElem?_map, List.getElem?_eq_getElem hi, ← nthI_get rs i hi]
    rfl
theorem info_err : (Try.prog.info? 27).map (fun i => (i.zero, i.size, i.bytes)) = some (some (.int .i64 0), 1, 8) := by kernel_rfl
theorem wpList_gate {ops : Array Oper} {rest : List Oper} {o : Oper} {a : Act} {Q : Exit → Act → World → Prop} (W : World) (hgd : o.guard = none) (s x : Operand)
    (ho : o.op = .call { callee := .builtin .append, args := #[s, x], argTypes := #[52, 52] })
    (B : Nat) (v : Value) (rs : List Int) (hs : a.eval s = v) (hG : GatE B v rs W) (hB : B ≤ W.heap.size) (r : Int) (g : Nat) (hx : a.eval x = .slice (some ⟨g, 0, none⟩) 1 1) (hc : W.cell? ⟨g, 0, none⟩ = some (.int .i64 r)) (hl : rs.length ≤ 1000000000)
    (h : ∀ v' w', GatE B v' (rs ++ [r]) w' → W.grownBy w' v.ownBlock → (∀ b, v'.ownBlock = some b → v.ownBlock = some b ∨ W.heap.size ≤ b) → wpList Try.prog ops Q rest (a.put o.dst v') w') : wpList Try.prog ops Q (o :: rest) a W := by
  obtain ⟨i0, hi, hzz⟩ := Option.map_eq_some_iff.1 info_err
  simp only [Prod.mk.injEq] at hzz
  refine wpList_append_lies W hgd s x 52 ho B 27 i0 (.int .i64 0) 1 8 Try.underlying52 hi hzz.1 hzz.2.1 hzz.2.2 rfl (by decide) v rs.length (rs.map (Value.int .i64)) hs hG ⟨g, 0, none⟩ 1 1 [.int .i64 r] hx rfl (cell_int W g r hc) (fun u hu => by simp at hu; subst hu; rfl) (by decide) (by unfold maxLen; omega) (by omega) hB _ rfl ?_
  intro g2 cap w' h2 h3 h4 h5
  refine h _ w' ?_ h3 (fun b hb => ?_)
  · unfold GatE
    rw [List.map_append, List.length_append]
    exact h2
  · injection hb with hb
    rcases h4 with h4 | h4
    · exact .inl (by rw [h4, ← hb])
    · exact .inr (by rw [← hb, h4]; exact Nat.le_refl _)
/-- The map behind some steps, and the codes so far, side by side. -/
structure Play (g c n : Nat) (f : Nat → Nat) (v : Value) (rs : List Int) (w wr : World) : Prop where
  left : ∃ c' cap', (c' = c ∨ w.heap.size ≤ c') ∧ MapAt g c' n cap' f wr ∧ ∀ b, v.ownBlock = some b → b ≠ c'
  upd : Upd g c w wr
  gat : GatE w.heap.size v rs wr
/-- One step more: what it does to the map, and the code that is put behind. -/
theorem Play.step {g c c1 n cap1 : Nat} {f f1 : Nat → Nat} {v v' : Value} {rs : List Int} {r : Int} {w wr w1 w2 : World} (hg : g < w.heap.size) (h : Play g c n f v rs w wr) (hc1 : c1 = c ∨ w.heap.size ≤ c1) (hv : ∀ b, v.ownBlock = some b → b ≠ c1)
    (hL : Left g c1 n f1 wr w1) (hgr : w1.grownBy w2 v.ownBlock) (hG : GatE w.heap.size v' (rs ++ [r]) w2) (hv' : ∀ b, v'.ownBlock = some b → v.ownBlock = some b ∨ w1.heap.size ≤ b) : Play g c n f1 v' (rs ++ [r]) w w2 := by
  obtain ⟨c2, cap2, hc2, hM2, hU2⟩ := hL
  have hs := h.upd.size
  have hvb := h.gat.lt
  have hvc : ∀ b, v.ownBlock = some b → b ≠ c2 := fun b hb => by
    rcases hc2 with rfl | hc2
    · exact hv b hb
    · have := (hvb b hb).2; omega
  have hvg : ∀ b, v.ownBlock = some b → b ≠ g := fun b hb => by have := (hvb b hb).1; omega
  have hM2' : MapAt g c2 n cap2 f1 w2 := hM2.frame (hgr.block g hM2.glt (fun e => hvg g e.symm rfl)) (hgr.block c2 hM2.lt (fun e => hvc c2 e.symm rfl)) hgr.size
  refine ⟨⟨c2, cap2, ?_, hM2', fun b hb => ?_⟩, ?_, hG⟩
  · rcases hc2 with rfl | hc2
    · exact hc1
    · exact .inr (Nat.le_trans hs hc2)
  · rcases hv' b hb with h1 | h1
    · exact hvc b h1
    · have := hM2.lt; omega
  · have hU := h.upd.more hU2 hc1
    refine ⟨hgr.os.trans hU.os, hgr.tape.trans hU.tape, hgr.output.trans hU.output, Nat.le_trans hU.size hgr.size, fun k hk h1 h2 => ?_⟩
    have hks := hU.size
    rw [hgr.block k (by omega) (fun e => by have := (hvb k e.symm).1; omega)]
    exact hU.block k hk h1 h2
/-- What a call leaves, with the code that it answers. -/
def StepPost (g c n : Nat) (f : Nat → Nat) (x : Nat) (wr : World) (e : Ending) (w' : World) : Prop := e = .returned (.int .i64 (x : Nat)) ∧ Left g c n f wr w'
theorem one_code (W : World) (r : Int) (t : TypeId) : (W.alloc (.cells #[.int .i64 r] t)).cell? ⟨W.heap.size, 0, none⟩ = some (.int .i64 r) := by rw [World.cell?_alloc_mark]; rfl
def PlayPost (g c n : Nat) (f : Nat → Nat) (rs : List Int) (w : World) (e : Ending) (w' : World) : Prop := ∃ v, e = .returned v ∧ Play g c n f v rs w w'
theorem MapAt.left0 {g c n cap : Nat} {f : Nat → Nat} {w : World} (h : MapAt g c n cap f w) : Left g c n f w w := h.left (Upd.refl _ _ _)
/-- .. where memory was made ahead of it. -/
theorem Left.from {g c n : Nat} {f : Nat → Nat} {w w' w2 : World} (_ : Upd g c w w') (k : Kept w w') (h : Left g c n f w' w2) : Left g c n f w w2 := by
  obtain ⟨c', cap', hc, hM, hU⟩ := h
  have := k.size
  exact ⟨c', cap', by rcases hc with rfl | hc; exact .inl rfl; exact .inr (by omega), hM, (k.upd g c).trans hU⟩
theorem Left.kept {g c n : Nat} {f : Nat → Nat} {w w' w2 : World} (h : Left g c n f w w') (k : Kept w' w2) : Left g c n f w w2 := by
  obtain ⟨c', cap', hc, hM, hU⟩ := h
  exact ⟨c', cap', hc, hM.kept k, hU.trans (k.upd _ _)⟩
theorem Play.put {g c c1 n : Nat} {f f1 : Nat → Nat} {v : Value} {rs : List Int} {r : Int} {w wr w1 : World} (t : TypeId) (hg : g < w.heap.size) (h : Play g c n f v rs w wr) (hc1 : c1 = c ∨ w.heap.size ≤ c1) (hv : ∀ b, v.ownBlock = some b → b ≠ c1)
    (hL : Left g c1 n f1 wr w1) : GatE w.heap.size v rs (w1.alloc (.cells #[.int .i64 r] t)) ∧ w.heap.size ≤ (w1.alloc (.cells #[.int .i64 r] t)).heap.size ∧
      ∀ v' w2, GatE w.heap.size v' (rs ++ [r]) w2 → (w1.alloc (.cells #[.int .i64 r] t)).grownBy w2 v.ownBlock → (∀ b, v'.ownBlock = some b → v.ownBlock = some b ∨ (w1.alloc (.cells #[.int .i64 r] t)).heap.size ≤ b) → Play g c n f1 v' (rs ++ [r]) w w2 := by
  have hk : Kept w1 (w1.alloc (.cells #[.int .i64 r] t)) := (Kept.refl _).alloc _
  have hL2 := hL.kept hk
  obtain ⟨c2, cap2, hc2, hM2, hU2⟩ := hL
  refine ⟨(h.gat.block fun b hb => ?_).kept hk, Nat.le_trans h.upd.size (Nat.le_trans hU2.size hk.size), fun v' w2 hG hgr hv' => ?_⟩
  · have h1 := h.gat.lt b hb
    exact hU2.block b h1.2 (by omega) (hv b hb)
  · obtain ⟨c', cap', hc', hM', hv''⟩ := h.left
    exact Play.step (cap1 := cap') hg h hc1 hv hL2 hgr hG hv'
set_option maxHeartbeats 4000000 in
set_option maxRecDepth 100000 in
theorem play_any (g c n cap : Nat) (f : Nat → Nat) (a : Option Addr) (ca : Nat) (zs : List AStp) (hl : zs.length ≤ 200) (hln : ∀ (i : Nat) (hi : i < zs.length), zs[i].ln ≤ 200) (w : World) (h : MapAt g c n cap f w) (hsep : ∀ wr, Upd g c w wr → AStps wr a zs) :
    Calls Try.prog 23 #[.pointer (some ⟨g, 0, none⟩), .slice a zs.length ca] w fun e w' => PlayPost g c n (playF n f zs) (playE n f zs) w e w' := by
  have HM := Lib.hid h
  have HSEP := Lib.hid hsep
  have HLN := Lib.hid hln
  have HGL := Lib.hid h.glt
  have HEND : Hid (zs.take zs.length = zs) := List.take_of_length_le (Nat.le_refl _)
  have HFS : Hid (∀ k (hk : k < zs.length), playF n f (zs.take (k + 1)) = stepF n (playF n f (zs.take k)) zs[k]) := fun k hk => by rw [take_next hk, playF_snoc]
  have HES : Hid (∀ k (hk : k < zs.length), playE n f (zs.take (k + 1)) = playE n f (zs.take k) ++ [(stepE n (playF n f (zs.take k)) zs[k] : Int)]) := fun k hk => by rw [take_next hk, playE_snoc]
  have HLE : Hid (∀ k, (playE n f (zs.take k)).length ≤ 1000000000) := fun k => by rw [playE_length, List.length_take]; omega
  clear h hsep hln
  obtain ⟨m, hm⟩ : ∃ m, m = zs.length := ⟨_, rfl⟩
  rw [← hm] at hl HEND ⊢
  have HN := Lib.hid hm
  clear hm
  go_enter Try.func23, Try.ntmps23
  go_wp2_with fail
  go_loopw [5, 6] (fun v i wr => ∃ k : Nat, k ≤ m ∧ i = .int .i64 k ∧ Hid (Play g c n (playF n f (zs.take k)) v (playE n f (zs.take k)) w wr)) (fun _ i _ => m - (intOf i).toNat)
  case atStart => exact ⟨0, Nat.zero_le _, rfl, ⟨c, cap, .inl rfl, HM.out, fun b hb => by cases hb⟩, Upd.refl _ _ _, GatE.nil _ _⟩
  case round =>
    obtain ⟨k, hk, rfl, HI⟩ := hrel
    by_cases hlt : k < m
    · have hkz : k < zs.length := by rw [← HN.out]; exact hlt
      obtain ⟨c1, cap1, hc1, hM1, hv1⟩ := HI.out.left
      have HM1 := Lib.hid hM1
      have HPUT : Hid (∀ f1 (r : Int) w1 t, Left g c1 n f1 wr w1 → GatE w.heap.size u5 (playE n f (zs.take k)) (w1.alloc (.cells #[.int .i64 r] t)) ∧ w.heap.size ≤ (w1.alloc (.cells #[.int .i64 r] t)).heap.size ∧
          ∀ v' w2, GatE w.heap.size v' (playE n f (zs.take k) ++ [r]) w2 → (w1.alloc (.cells #[.int .i64 r] t)).grownBy w2 u5.ownBlock → (∀ b, v'.ownBlock = some b → u5.ownBlock = some b ∨ (w1.alloc (.cells #[.int .i64 r] t)).heap.size ≤ b) → Play g c n f1 v' (playE n f (zs.take k) ++ [r]) w w2) := fun f1 r w1 t hL => HI.out.put t HGL.out hc1 hv1 hL
      rcases HSEP.out wr HI.out.upd with h0 | ⟨b, o, rfl, hq⟩
      · rw [h0] at hkz; cases hkz
      · obtain ⟨d0, d1, d2, ho, hkk, hlen, hmx, hI, hr⟩ := hq k hkz
        have HF := Lib.hid (HFS.out k hkz)
        have HE := Lib.hid (HES.out k hkz)
        have HLK := Lib.hid (HLE.out k)
        have HL2 := Lib.hid (HLN.out k hkz)
        clear hM1 hc1 hv1 hq HI HFS HES HLE HLN HSEP
        generalize zs[k] = z at *
        generalize playF n f (zs.take k) = f0 at *
        generalize playE n f (zs.take k) = rs at *
        unfold stepE at HE
        unfold stepF at HF
        have HKK := Lib.hid hkk
        have HCI : Hid (Ints .i64 wr z.a z.l ∧ z.l.length ≤ 200 ∧ ∀ r ∈ z.l, -9223372036854775808 ≤ r ∧ r ≤ 9223372036854775807) := ⟨hI, by rw [hlen]; exact HL2.out, hr⟩
        rw [← hlen] at d2
        clear hkk hlen hmx hI hr HL2
        obtain ⟨q, q1, q2, q3, q4, l⟩ := z
        dsimp only at d0 d1 d2 ho HF HE HKK HCI
        by_cases h0 : q = 0
        · subst h0
          rw [if_pos rfl] at HF HE
          clear ho
          go_wp2_with fail
          refine (take_off g c1 n cap1 f0 q1 HKK.out _ HM1.out).mono ?_
          rintro e w1 ⟨a1, ca1, rfl, _, hM, hB⟩
          have HLF := Lib.hid (HPUT.out _ (takeE n f0 q1 : Int) _ 27 (hM.left (hB.upd2 g)))
          clear hM hB HPUT HM1
          generalize (takeL n f0 q1).length = N at *
          generalize takeF n f0 q1 = f1 at *
          generalize takeE n f0 q1 = x at *
          go_wp2_with (at_builtin; refine wpList_gate _ rfl (.tmp 54) (.tmp 56) rfl w.heap.size u5 rs (by rfl) HLF.out.1 HLF.out.2.1 (x : Int) w1.heap.size rfl (one_code _ _ _) HLK.out ?_; intro v9 w9 hG9 hgr9 hv9)
          have HEND9 := Lib.hid (HLF.out.2.2 v9 w9 hG9 hgr9 hv9)
          clear hG9 hgr9 hv9
          go_roundw
          case rel => exact ⟨k + 1, by omega, by go_num, by rw [HF.out, HE.out]; exact HEND9.out⟩
          case measure => simp [intOf]; omega
        · have hb0 : (q == 0) = false := by simp [h0]
          by_cases h1 : q = 1
          · subst h1
            rw [if_neg (by decide), if_pos rfl] at HF HE
            clear ho h0
            go_wp2_with (at_builtin; refine wpList_copyI _ rfl (.const (.slice none 0 0)) (.tmp 41) rfl _ _ l (by rfl) (by rfl) HCI.out.1 (by have := HCI.out.2.1; omega) ?_; intro v8 w8 hC8; obtain ⟨a8, ca8, hv8, hI8, hK8, _⟩ := hC8; subst hv8)
            refine (drop_any g c1 n cap1 f0 _ _ l (by have := HCI.out.2.1; unfold maxLen; omega) HCI.out.2.2 _ (HM1.out.kept hK8) hI8).mono ?_
            rintro e w1 ⟨rfl, hL1⟩
            have HLF := Lib.hid (HPUT.out _ (turnE n f0 2 l : Int) _ 27 (Left.from (hK8.upd g c1) hK8 hL1))
            clear hL1 hI8 hK8 HPUT HM1 HCI
            generalize l.length = N at *
            generalize turnF n f0 2 3 l = f1 at *
            generalize turnE n f0 2 l = x at *
            go_wp2_with (at_builtin; refine wpList_gate _ rfl (.tmp 54) (.tmp 56) rfl w.heap.size u5 rs (by rfl) HLF.out.1 HLF.out.2.1 (x : Int) w1.heap.size rfl (one_code _ _ _) HLK.out ?_; intro v9 w9 hG9 hgr9 hv9)
            have HEND9 := Lib.hid (HLF.out.2.2 v9 w9 hG9 hgr9 hv9)
            clear hG9 hgr9 hv9
            go_roundw
            case rel => exact ⟨k + 1, by omega, by go_num, by rw [HF.out, HE.out]; exact HEND9.out⟩
            case measure => simp [intOf]; omega
          · have hb1 : (q == 1) = false := by simp [h1]
            by_cases h2 : q = 2
            · subst h2
              rw [if_neg (by decide), if_neg (by decide), if_pos rfl] at HF HE
              clear ho h0 h1
              go_wp2_with (at_builtin; refine wpList_copyI _ rfl (.const (.slice none 0 0)) (.tmp 51) rfl _ _ l (by rfl) (by rfl) HCI.out.1 (by have := HCI.out.2.1; omega) ?_; intro v8 w8 hC8; obtain ⟨a8, ca8, hv8, hI8, hK8, _⟩ := hC8; subst hv8)
              refine (clear_any g c1 n cap1 f0 _ _ l (by have := HCI.out.2.1; unfold maxLen; omega) HCI.out.2.2 _ (HM1.out.kept hK8) hI8).mono ?_
              rintro e w1 ⟨rfl, hL1⟩
              have HLF := Lib.hid (HPUT.out _ (turnE n f0 3 l : Int) _ 27 (Left.from (hK8.upd g c1) hK8 hL1))
              clear hL1 hI8 hK8 HPUT HM1 HCI
              generalize l.length = N at *
              generalize turnF n f0 3 1 l = f1 at *
              generalize turnE n f0 3 l = x at *
              go_wp2_with (at_builtin; refine wpList_gate _ rfl (.tmp 54) (.tmp 56) rfl w.heap.size u5 rs (by rfl) HLF.out.1 HLF.out.2.1 (x : Int) w1.heap.size rfl (one_code _ _ _) HLK.out ?_; intro v9 w9 hG9 hgr9 hv9)
              have HEND9 := Lib.hid (HLF.out.2.2 v9 w9 hG9 hgr9 hv9)
              clear hG9 hgr9 hv9
              go_roundw
              case rel => exact ⟨k + 1, by omega, by go_num, by rw [HF.out, HE.out]; exact HEND9.out⟩
              case measure => simp [intOf]; omega
            · have hb2 : (q == 2) = false := by simp [h2]
              rw [if_neg h0, if_neg h1, if_neg h2] at HF HE
              have HLF := Lib.hid (HPUT.out _ ((0 : Nat) : Int) _ 27 HM1.out.left0)
              clear HPUT HM1 HCI h0 h1 h2
              generalize l.length = N at *
              go_wp2_with (at_builtin; refine wpList_gate _ rfl (.tmp 54) (.tmp 56) rfl w.heap.size u5 rs (by rfl) HLF.out.1 HLF.out.2.1 ((0 : Nat) : Int) wr.heap.size rfl (one_code _ _ _) HLK.out ?_; intro v9 w9 hG9 hgr9 hv9)
              have HEND9 := Lib.hid (HLF.out.2.2 v9 w9 hG9 hgr9 hv9)
              clear hG9 hgr9 hv9
              go_roundw
              case rel => exact ⟨k + 1, by omega, by go_num, by rw [HF.out, HE.out]; exact HEND9.out⟩
              case measure => simp [intOf]; omega
    · obtain rfl : k = m := by omega
      have HF : Hid (zs.take k = zs) := HEND.out
      rw [HF.out] at HI
      obtain ⟨a9, ca9, hv, _⟩ := HI.out.gat.ints
      subst hv
      generalize (playE n f zs).length = N at *
      go_wp2_with fail
      go_ret
      exact ⟨_, rfl, HI.out⟩
end Go.Proofs.Ytleohicgbpebnaa
