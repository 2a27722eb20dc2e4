/- What the program's calls on matrices answer: lead. -/
import Derived.Test.YtlmoeaphikdjnaaMatCode5
import Derived.Test.YtlmoeaphikdjnaaElim2
import Derived.IntWalk
namespace Go.Proofs.Ytlmoeaphikdjnaa
open Go.RowKit Gf
set_option linter.unusedVariables false
/-- The rows when one of them has been divided, and taken from the others. -/
def leadX (X : Nat → Nat → UInt8) (c i j : Nat) : UInt8 := if i = c then gm (gi (X c c)) (X c j) else X i j ^^^ gm (X i c) (gm (gi (X c c)) (X c j))
def midX (X : Nat → Nat → UInt8) (c k i : Nat) : Nat → UInt8 := if i < k ∨ i = c then leadX X c i else X i
theorem midX_same (X : Nat → Nat → UInt8) (c i : Nat) : midX X c (c + 1) i = midX X c c i := by
  unfold midX
  by_cases h : i < c ∨ i = c
  · rw [if_pos h, if_pos (by omega)]
  · rw [if_neg h, if_neg (by omega)]
theorem midX_zero (X : Nat → Nat → UInt8) (c k i : Nat) (h : X k c = 0) (hk : k ≠ c) (j : Nat) : midX X c (k + 1) i j = midX X c k i j := by
  unfold midX
  by_cases e : i = k
  · subst e
    rw [if_pos (by omega), if_neg (by omega)]
    unfold leadX
    rw [if_neg hk, h, zero_gm, add_zero]
  · by_cases h : i < k ∨ i = c
    · rw [if_pos h, if_pos (by omega)]
    · rw [if_neg h, if_neg (by omega)]
theorem midX_next (X : Nat → Nat → UInt8) (c k m i : Nat) (s : ByteArray) (hs : s = strOf m (leadX X c k)) : strOf m (midX X c (k + 1) i) = updT (fun i => strOf m (midX X c k i)) k s i := by
  unfold updT
  by_cases e : i = k
  · subst e
    rw [if_pos rfl, hs]
    unfold midX
    rw [if_pos (by omega)]
  · rw [if_neg e]
    unfold midX
    by_cases h : i < k ∨ i = c
    · simp only [if_pos h, if_pos (show i < k + 1 ∨ i = c by omega)]
    · simp only [if_neg h, if_neg (show ¬ (i < k + 1 ∨ i = c) by omega)]
theorem bt_of_data (s : ByteArray) (j : Nat) : bt s j = s.data.toList[j]! := rfl
theorem one_bt (s : ByteArray) (a : Nat) (h : a < s.size) : ((⟨#[1]⟩ : ByteArray) ++ s.extract a (a + 1)).size = 2 ∧ bt (⟨#[1]⟩ ++ s.extract a (a + 1)) 0 = 1 ∧ bt (⟨#[1]⟩ ++ s.extract a (a + 1)) 1 = bt s a := by
  have hd : (((⟨#[1]⟩ : ByteArray) ++ s.extract a (a + 1)).data.toList) = [1, bt s a] := by
    rw [ByteArray.data_append, ByteArray.data_extract, Array.toList_append, Array.toList_extract]
    show 1 :: (s.data.toList.drop a).take (a + 1 - a) = _
    rw [show a + 1 - a = 1 by omega, List.drop_eq_getElem_cons (show a < s.data.toList.length by simpa using h), ← bt_get s a h]
    rfl
  refine ⟨?_, ?_, ?_⟩
  · show (((⟨#[1]⟩ : ByteArray) ++ s.extract a (a + 1)).data).size = 2
    rw [← Array.length_toList, hd]
    rfl
  · rw [bt_of_data, hd]; rfl
  · rw [bt_of_data, hd]; rfl
theorem sum_two (c p q : ByteArray) (m : Nat) (hc : c.size = 2) (h1 : bt c 0 = 1) (hp : p.size = m) (hq : q.size = m) : sumS c [p, q] = strOf m fun j => bt p j ^^^ gm (bt c 1) (bt q j) := by
  unfold sumS sumOk
  have he : evenB [p, q] = true := even_yes _ (fun k hk => by
    match k, hk with
    | 0, _ => rfl
    | 1, _ => show q.size = p.size; omega)
  rw [he, decide_eq_true (by exact hc), if_pos (by rfl), show (nth [p, q] 0).size = m from hp]
  refine strOf_congr _ _ _ (fun j _ => ?_)
  rw [acc_sm]
  show 0 ^^^ gm (bt c 0) (bt p j) ^^^ gm (bt c 1) (bt q j) = _
  rw [h1, one_gm]
  simp
theorem two_strs (W : World) (p q : ByteArray) (t : TypeId) : Strs (W.alloc (.cells #[.string p, .string q] t)) (some ⟨W.heap.size, 0, none⟩) [p, q] := by
  refine .inr ⟨_, 0, rfl, fun i hi => ?_⟩
  rw [Nat.zero_add, World.cell?_alloc_mark]
  match i, hi with
  | 0, _ => rfl
  | 1, _ => rfl
theorem sum_call (W : World) (c p q : ByteArray) (m : Nat) (t : TypeId) (hc : c.size = 2) (h1 : bt c 0 = 1) (hp : p.size = m) (hq : q.size = m) (hm : m ≤ 1000000) :
    Calls Try.prog 25 #[.string c, .slice (some ⟨W.heap.size, 0, none⟩) 2 2] (W.alloc (.cells #[.string p, .string q] t)).drew fun e w' => ∃ er, e = .returned (.tuple #[.string (sumS c [p, q]), .int .i64 er]) ∧ Kept W w' := by
  have h := sum_any c (some ⟨W.heap.size, 0, none⟩) 2 [p, q] (W.alloc (.cells #[.string p, .string q] t)).drew ((two_strs W p q t).kept ((Kept.refl _).drew)) (show 2 ≤ 100000000 by decide) (fun s hs => by
    simp only [List.mem_cons, List.not_mem_nil, or_false] at hs
    rcases hs with rfl | rfl <;> omega) (by omega)
  rw [show [p, q].length = 2 from rfl] at h
  refine h.mono ?_
  rintro e w' ⟨rfl, hk'⟩
  exact ⟨_, rfl, Kept.trans (((Kept.refl W).alloc _).drew) hk'⟩
set_option maxHeartbeats 1000000 in
set_option maxRecDepth 100000 in
theorem lead_any (G n m cap c : Nat) (X : Nat → Nat → UInt8) (w : World) (hT : Txt G n (fun i => strOf m (X i)) w) (hn : n ≤ 1000000) (hm : m ≤ 1000000) (hc : c < n) (hcm : c < m) (hx : X c c ≠ 0) :
    Calls Try.prog 38 #[.slice (some ⟨G, 0, none⟩) n cap, .int .i64 (c : Int)] w fun e w' => e = .returned (.tuple #[]) ∧ But G w w' ∧ Txt G n (fun i => strOf m (leadX X c i)) w' := by
  have hp0 := hT.cell c hc
  have hsz : ∀ i, (strOf m (X i)).size = m := fun i => strOf_size _ _
  have hb0 : bt (strOf m (X c)) c = X c c := strOf_bt _ _ _ hcm
  have hq : quo 1 (X c c).toNat = (gi (X c c)).toNat := by rw [quo_one _ (X c c).toNat_lt (fun e => hx (UInt8.toNat_inj.1 e)), gi_nat]
  have htb : timesB (gi (X c c)).toNat (strOf m (X c)) = strOf m (leadX X c c) := by
    unfold timesB
    rw [strOf_size]
    refine strOf_congr _ _ _ (fun j hj => ?_)
    rw [strOf_bt _ _ _ hj, mb_gm]
    unfold leadX
    rw [if_pos rfl]
  have hs0 := hsz c
  have HT := Lib.hid hT
  have hcp : c < (strOf m (X c)).size := by rw [strOf_size]; exact hcm
  have hget := bt_get (strOf m (X c)) c hcp
  rw [hb0] at hget
  rw [← hget] at hq
  have HQ := Lib.hid hq
  rw [← hget] at htb
  have HTB := Lib.hid htb
  clear hT hsz hb0 hq htb hx hget
  generalize hpp : strOf m (X c) = p0 at *
  have HPP := Lib.hid hpp
  clear hpp
  have hy8 := p0[c].toNat_lt
  go_enter Try.func38, Try.ntmps38
  go_wp2_with fail
  refine (inv_any p0[c].toNat hy8 _).mono ?_
  rintro e w1 ⟨rfl, k1⟩
  rw [HQ.out]
  have HG8 : Hid ((gi p0[c]).toNat < 256) := (gi p0[c]).toNat_lt
  have hT1 := HT.out.kept k1
  have hp1 := hT1.cell c hc
  rw [HPP.out] at hp1
  have HT1 := Lib.hid hT1
  have HK1 := Lib.hid k1
  have HTB2 := Lib.hid HTB.out
  obtain ⟨y, hy⟩ : ∃ y, gi p0[c] = y := ⟨_, rfl⟩
  rw [hy] at HTB2 HG8 ⊢
  generalize quoE p0[c].toNat = g7 at *
  clear hp0 hT1 k1 HTB HQ hy8
  go_wp2_with fail
  refine (times_any y.toNat p0 HG8.out (by omega) _).mono ?_
  rintro e w2 ⟨rfl, k2⟩
  rw [HTB2.out]
  have hT2 := HT1.out.kept k2
  have hcell : ∃ v, w2.cell? ⟨G, c, none⟩ = some v := ⟨_, hT2.cell c hc⟩
  obtain ⟨v, hcell⟩ := hcell
  have hfree := hT2.free c hc
  have HI0 : Hid (Txt G n (fun i => strOf m (midX X c 0 i)) (w2.setCell ⟨G, c, none⟩ (.string (strOf m (leadX X c c)))) ∧ But G w (w2.setCell ⟨G, c, none⟩ (.string (strOf m (leadX X c c))))) := by
    refine ⟨(hT2.set c hc _).congr (fun i _ => ?_), (((HK1.out.trans k2).but G).setCell _ _)⟩
    unfold updT midX
    by_cases e : i = c
    · rw [if_pos (.inr e), if_pos e, e]
    · rw [if_neg (by omega), if_neg e]
  clear hp1 hT2 k2
  go_upto_region 2 with fail
  generalize w2.setCell ⟨G, c, none⟩ (.string (strOf m (leadX X c c))) = w3 at *
  clear hcell hfree
  go_wp2_with fail
  go_loopw [29, 6, 7] (fun i _ _ wr => ∃ k : Nat, k ≤ n ∧ i = .int .i64 k ∧ Hid (Txt G n (fun i => strOf m (midX X c k i)) wr ∧ But G w wr)) (fun i _ _ _ => n - (intOf i).toNat)
  case atStart => exact ⟨0, Nat.zero_le _, rfl, HI0⟩
  case round =>
    obtain ⟨k, hk, rfl, HI⟩ := hrel
    by_cases hlt : k < n
    · have hck := HI.out.1.cell k hlt
      by_cases hkc : k = c
      · subst hkc
        have HF : Hid (Txt G n (fun i => strOf m (midX X k (k + 1) i)) wr ∧ But G w wr) := ⟨HI.out.1.congr (fun i _ => by rw [midX_same]), HI.out.2⟩
        generalize strOf m (midX X k k k) = p at *
        go_wp2_with fail
        exact ⟨⟨k + 1, by omega, by go_num, HF⟩, by simp [intOf]; omega⟩
      · have hkcb : ((k : Int) != (c : Int)) = true := by simp; omega
        have hmk : midX X c k k = X k := by unfold midX; rw [if_neg (by omega)]
        rw [hmk] at hck
        have hpb : bt (strOf m (X k)) c = X k c := strOf_bt _ _ _ hcm
        have hps : (strOf m (X k)).size = m := strOf_size _ _
        have HKC := Lib.hid hkc
        clear hkc hmk
        by_cases hz : X k c = 0
        · have HF : Hid (Txt G n (fun i => strOf m (midX X c (k + 1) i)) wr ∧ But G w wr) := ⟨HI.out.1.congr (fun i _ => strOf_congr _ _ _ (fun j _ => midX_zero X c k i hz HKC.out j)), HI.out.2⟩
          rw [hz] at hpb
          clear hz
          generalize strOf m (X k) = p at *
          have hcp : c < p.size := by omega
          have hget := bt_get p c hcp
          rw [hpb] at hget
          have hxb : (((p[c].toNat : Nat) : Int) != 0) = false := by rw [hget]; rfl
          clear hpb hget
          go_wp2_with fail
          exact ⟨⟨k + 1, by omega, by go_num, HF⟩, by simp [intOf]; omega⟩
        · have hcc := HI.out.1.cell c hc
          have hmc : strOf m (midX X c k c) = strOf m (leadX X c c) := by unfold midX; rw [if_pos (.inr rfl)]
          rw [hmc] at hcc
          have hqs : (strOf m (leadX X c c)).size = m := strOf_size _ _
          have HQB : Hid (∀ j, j < m → bt (strOf m (leadX X c c)) j = leadX X c c j) := fun j hj => strOf_bt _ _ _ hj
          have HPB : Hid (∀ j, j < m → bt (strOf m (X k)) j = X k j) := fun j hj => strOf_bt _ _ _ hj
          have hne : bt (strOf m (X k)) c ≠ 0 := by rw [hpb]; exact hz
          have HSET := Lib.hid (fun W s (hW : Txt G n (fun i => strOf m (midX X c k i)) W) (hs : s = strOf m (leadX X c k)) => ((hW.set k hlt s).congr (fun i _ => midX_next X c k m i s hs) : Txt G n (fun i => strOf m (midX X c (k + 1) i)) (W.setCell ⟨G, k, none⟩ (.string s))))
          clear hz hmc hpb
          generalize strOf m (leadX X c c) = q at *
          generalize strOf m (X k) = p at *
          have hcp : c < p.size := by omega
          have hget := bt_get p c hcp
          rw [← hget] at hne
          have hxb : (((p[c].toNat : Nat) : Int) != 0) = true := bne_iff_ne.2 (fun e => hne (UInt8.toNat_inj.1 (by simpa using e)))
          obtain ⟨o1, o2, o3⟩ := one_bt p c hcp
          have HSUM : Hid (sumS (⟨#[1]⟩ ++ p.extract c (c + 1)) [p, q] = strOf m (leadX X c k)) := by
            show _ = _
            rw [sum_two _ _ _ m o1 o2 hps hqs, o3]
            refine strOf_congr _ _ _ (fun j hj => ?_)
            rw [HPB.out j hj, HPB.out c hcm, HQB.out j hj]
            unfold leadX
            rw [if_neg HKC.out, if_pos rfl]
          have hsl : ∀ W, (Instr.slice 9 (.string p) (some (.int .i64 (c : Int))) (some (.int .i64 ((c : Int) + 1))) none).run Try.prog W = .ok (.string (p.extract c (c + 1))) W := fun W => by
            have h := run_slice_string (P := Try.prog) W 9 p .i64 .i64 (c : Int) ((c : Int) + 1) Try.underlying9 (by omega) (by omega) (by omega)
            exact h
          have hwr1 : IntKind.i64.wrap ((c : Int) + 1) = (c : Int) + 1 := IntWalk.i64_in _ (by omega)
          generalize hz3 : p.extract c (c + 1) = z3 at *
          clear hz3 o3
          have hz1 : z3.size = 1 := by rw [ByteArray.size_append] at o1; have h1 : (⟨#[1]⟩ : ByteArray).size = 1 := rfl; omega
          have HZ3 := Lib.hid (And.intro o1 o2)
          clear o1 o2 hne hget
          have HCALL : Hid (Calls Try.prog 25 #[.string (⟨#[1]⟩ ++ z3), .slice (some ⟨wr.heap.size, 0, none⟩) 2 2] (wr.alloc (.cells #[.string p, .string q] 9)).drew fun e w' => ∃ er, e = .returned (.tuple #[.string (strOf m (leadX X c k)), .int .i64 er]) ∧ Kept wr w') := by
            have h := sum_call wr (⟨#[1]⟩ ++ z3) p q m 9 HZ3.out.1 HZ3.out.2 hps hqs hm
            rw [HSUM.out] at h
            exact h
          have HTC := Lib.hid HI.out.1
          have HBC := Lib.hid HI.out.2
          go_upto_region 6 with fail
          go_region_with (go_at_call 25; refine HCALL.out.mono ?_; rintro e w5 ⟨er, rfl, k5⟩; have hT5 := HTC.out.kept k5; obtain ⟨v5, hcell5⟩ : ∃ v, w5.cell? ⟨G, k, none⟩ = some v := ⟨_, hT5.cell k hlt⟩; have hfree5 := hT5.free k hlt)
          all_goals
            have HF : Hid (Txt G n (fun i => strOf m (midX X c (k + 1) i)) (w5.setCell ⟨G, k, none⟩ (.string (strOf m (leadX X c k)))) ∧ But G w (w5.setCell ⟨G, k, none⟩ (.string (strOf m (leadX X c k))))) := ⟨HSET.out w5 _ hT5 rfl, (HBC.out.trans (k5.but G)).setCell _ _⟩
            generalize w5.setCell ⟨G, k, none⟩ (.string (strOf m (leadX X c k))) = w6 at *
            clear hcell5 hfree5 hT5 hsl hwr1 hck hcc
            go_wp2_with fail
            exact ⟨⟨k + 1, by omega, by go_num, HF⟩, by simp [intOf]; omega⟩
    · obtain rfl : k = n := by omega
      have HE : Hid (Txt G k (fun i => strOf m (leadX X c i)) wr ∧ But G w wr) := ⟨HI.out.1.congr (fun i hi => by unfold midX; rw [if_pos (.inl hi)]), HI.out.2⟩
      clear HI
      go_wp2_with fail
      go_end0
      exact ⟨rfl, HE.out.2, HE.out.1⟩
end Go.Proofs.Ytlmoeaphikdjnaa
