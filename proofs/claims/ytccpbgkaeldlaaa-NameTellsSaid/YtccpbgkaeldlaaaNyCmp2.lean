/- Which of two keys comes first: the program's Compare. -/
import Derived.Test.YtccpbgkaeldlaaaNyCmp
import Derived.Test.YtccpbgkaeldlaaaNyMay
namespace Go.Proofs.Ytccpbgkaeldlaaa
open Go.RowKit _root_.Go.Proofs.Ytccpbgkaeldlaaa.Nm Ny
set_option linter.unusedVariables false
set_option linter.unusedSimpArgs false
theorem still_of_quietN {P : Program} {o : Oper} {a : Act} {w : World} {K : Act → Prop} (h : o.quiet P a (fun W => W = w) K) : o.still P a w K := by
  obtain ⟨v, hv, hk⟩ := h
  have hq := hv w rfl
  unfold Oper.quietAt at hq
  unfold Oper.still
  generalize (execOp a.eval o).run P w = r at *
  unfold Oper.quietUpon at hq
  unfold Oper.stillUpon
  split at hq
  · obtain ⟨h1, h2⟩ := hq
    subst h2
    exact ⟨h1, hk⟩
  · obtain ⟨h1, h2⟩ := hq
    subst h2
    exact ⟨h1, hk⟩
  · exact ⟨hq.1, v, hq.2, hk⟩
  · exact hq.elim
/-- A walk of reads alone, by the tactics of go_quiet's own steps. -/
theorem wpStill_of_quietN {P : Program} {ops : Array Oper} {w : World} {Q : Act → Prop} : ∀ (l : List Oper) (a : Act), wpQuiet P ops (fun W => W = w) Q l a → wpStill P ops w Q l a
  | [], _, h => h
  | o :: rest, a, h => by
    unfold wpQuiet at h
    unfold wpStill
    split
    · rename_i hw
      rw [if_pos hw] at h
      exact Oper.still_mono (fun a ha => wpStill_of_quietN rest a ha) (still_of_quietN h)
    · rename_i hw
      rw [if_neg hw] at h
      exact wpStill_of_quietN rest _ h
set_option maxHeartbeats 4000000 in
set_option maxRecDepth 100000 in
theorem pCompare_core (a b : Key) (c1 c2 c3 c4 c5 : Int) (n1 n2 : Nat) (w : World) (wa : a.Wf) (wb : b.Wf)
    (h1 : cmpN a.kd b.kd = c1) (h2 : Lib.compareBytes a.bk.data.toList b.bk.data.toList = c2) (h3 : Lib.compareBytes a.nm.data.toList b.nm.data.toList = c3) (e1 : tn a.kd a.n = n1) (e2 : tn b.kd b.n = n2) (h4 : cmpN n1 n2 = c4) (h5 : cmpN a.pt b.pt = c5) :
    Calls Try.prog 20 #[a.val, b.val] w fun e w' => e = .returned (.int .i64 (or5 c1 c2 c3 c4 c5)) ∧ Kept w w' := by
  have HC1 := Lib.hid (fun W => cmp8_any a.kd b.kd W)
  have HC2 := Lib.hid (fun W => scompare_any a.bk b.bk W)
  have HC3 := Lib.hid (fun W => scompare_any a.nm b.nm W)
  have HT1 := Lib.hid (fun W => turned_any a.kd a.n W wa.n)
  have HT2 := Lib.hid (fun W => turned_any b.kd b.n W wb.n)
  have HC4 := Lib.hid (fun W => cmp64_any n1 n2 W)
  have HC5 := Lib.hid (fun W => cmpI_any a.pt b.pt W)
  have HO := Lib.hid (fun W g => or5_any c1 c2 c3 c4 c5 W g)
  rw [h1] at HC1
  rw [h2] at HC2
  rw [h3] at HC3
  rw [e1] at HT1
  rw [e2] at HT2
  rw [h4] at HC4
  rw [h5] at HC5
  clear h1 h2 h3 e1 e2 h4 h5 wa wb
  have HA := Lib.hid (KyAt.laid w 24 a)
  have HB := Lib.hid (fun W => KyAt.laid W 24 b)
  have HK := Lib.hid ((Kept.refl w).alloc (.cells #[.int .u8 (a.kd : Nat), .string a.bk, .string a.nm, .int .u64 (a.n : Nat), .int .i64 a.pt] 24))
  have HKB : Hid (∀ W : World, Kept W (W.alloc (.cells #[.int .u8 (b.kd : Nat), .string b.bk, .string b.nm, .int .u64 (b.n : Nat), .int .i64 b.pt] 24))) := fun W => (Kept.refl W).alloc _
  generalize or5 c1 c2 c3 c4 c5 = r at *
  obtain ⟨kd, bk, nm, n, pt⟩ := a
  obtain ⟨kd', bk', nm', n', pt'⟩ := b
  unfold Key.val
  dsimp only at *
  go_enter Try.func20, Try.ntmps20
  go_upto_region 1 with fail
  have HA2 := Lib.hid (HA.out.kept (HKB.out _))
  have HB2 := Lib.hid (HB.out (w.alloc (.cells #[.int .u8 (kd : Nat), .string bk, .string nm, .int .u64 (n : Nat), .int .i64 pt] 24)))
  have HK2 := Lib.hid (HK.out.trans (HKB.out _))
  rw [World.size_alloc] at HB2
  clear HA HB HK HKB
  generalize (w.alloc (.cells #[.int .u8 (kd : Nat), .string bk, .string nm, .int .u64 (n : Nat), .int .i64 pt] 24)).alloc (.cells #[.int .u8 (kd' : Nat), .string bk', .string nm', .int .u64 (n' : Nat), .int .i64 pt'] 24) = w1 at *
  refine wp_region_still_tail 31 (by kernel_rfl) (by kernel_rfl) ?_
  simp only [List.take_succ_cons, List.take_zero, List.drop_succ_cons, List.drop_zero]
  obtain ⟨wd, hwd⟩ : ∃ wd, w1.drew = wd := ⟨_, rfl⟩
  have hkd : Kept w1 wd := by rw [← hwd]; exact (Kept.refl _).drew
  change wpStill _ _ w1.drew (fun a' => wpList _ _ _ _ a' w1.drew) _ _
  rw [hwd]
  clear hwd
  obtain ⟨a0, a1, a2, a3, a4, _, _, _, _, _⟩ := (HA2.out.kept hkd)
  obtain ⟨b0, b1, b2, b3, b4, _, _, _, _, _⟩ := (HB2.out.kept hkd)
  have HKD := Lib.hid (HK2.out.trans hkd)
  clear HA2 HB2 HK2 hkd
  dsimp only at a0 b0 a3 b3
  refine wpStill_of_quietN _ _ ?_
  repeat (first
    | go_big_quiet_skip
    | (go_big_quiet_want
       refine ⟨_, fun W hW => by
         subst hW
         unfold Oper.quietAt
         go_simp
         first
           | (go_at_call 38; (with_reducible refine (HC1.out _).mono ?_); exact fun e w' h => h)
           | (go_at_call 39; first | (with_reducible refine (HC2.out _).mono ?_) | (with_reducible refine (HC3.out _).mono ?_)
              exact fun e w' h => h)
           | (go_at_call 29; first | (with_reducible refine (HT1.out _).mono ?_) | (with_reducible refine (HT2.out _).mono ?_)
              exact fun e w' h => h)
           | (go_at_call 40; (with_reducible refine (HC4.out _).mono ?_); exact fun e w' h => h)
           | (go_at_call 41; (with_reducible refine (HC5.out _).mono ?_); exact fun e w' h => h)
           | exact rfl, ?_⟩
       go_simp
       go_big_quiet_on))
  refine wpQuiet_nil ?_
  clear a0 a1 a2 a3 a4 b0 b1 b2 b3 b4
  go_wp2_with fail
  refine (HO.out _ wd.heap.size (by rw [World.cell?_alloc_mark]; rfl) (by rw [World.cell?_alloc_mark]; rfl) (by rw [World.cell?_alloc_mark]; rfl) (by rw [World.cell?_alloc_mark]; rfl) (by rw [World.cell?_alloc_mark]; rfl)).mono ?_
  rintro e w2 ⟨rfl, rfl⟩
  go_wp2_with fail
  go_ret
  exact ⟨rfl, HKD.out.alloc _⟩
theorem pCompare_any (a b : Key) (w : World) (wa : a.Wf) (wb : b.Wf) :
    Calls Try.prog 20 #[a.val, b.val] w fun e w' => e = .returned (.int .i64 (cmpK a b)) ∧ Kept w w' :=
  pCompare_core a b _ _ _ _ _ _ _ w wa wb rfl rfl rfl rfl rfl rfl rfl
end Go.Proofs.Ytccpbgkaeldlaaa
