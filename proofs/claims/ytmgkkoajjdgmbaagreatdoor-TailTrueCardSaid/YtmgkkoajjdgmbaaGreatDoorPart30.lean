/- TailLook, TailLook2. -/
import Derived.Test.YtmgkkoajjdgmbaaGreatDoorPart29
import Derived.Test.YtmgkkoajjdgmbaaGreatDoorPart21
import Derived.Test.YtmgkkoajjdgmbaaGreatDoorPart14
set_option linter.unusedVariables false
set_option linter.unusedSimpArgs false
set_option linter.unusedSectionVars false
set_option linter.unnecessarySimpa false
set_option linter.deprecated false
/- The program's: what a sector's bytes tell. -/
namespace Go.Proofs.YtmgkkoajjdgmbaaGreatDoor
open Go.RowKit Sm Wr _root_.Go.Proofs.YtmgkkoajjdgmbaaGreatDoor.Nm
set_option linter.unusedVariables false
theorem dw_zeros (n : Nat) : (List.replicate n (0 : UInt8)).dropWhile (fun x => x == 0) = [] := by
  induction n with
  | zero => rfl
  | succ n ih => rw [List.replicate_succ, List.dropWhile_cons]; simp
theorem trimB_zeros (n : Nat) : Lib.trimB (List.replicate n 0) 0 = [] := by
  unfold Lib.trimB Lib.trimLeftB Lib.trimRightB
  simp
set_option maxRecDepth 100000 in
set_option maxHeartbeats 1000000 in
theorem ptMay_any (x : Pt) (h : x.Ok) (w : World) :
    Calls Tryz.prog 104 #[x.val] w fun e w' => e = .returned (.bool true) ∧ Kept w w' := by
  obtain ⟨m1, m2, m3, m4, m5, m6, m7, m8⟩ := h
  obtain ⟨a, b, c, d, l, t⟩ := x
  dsimp only at *
  unfold Pt.val
  dsimp only
  have hw : IntKind.u64.wrap ((c : Int) + 1) = (c : Int) + 1 := IntWalk.u64_in _ (by omega)
  have hlt : decide ((c : Int) < (d : Int)) = true := decide_eq_true (by omega)
  have h34 : decide ((t.size : Int) ≤ 34) = true := decide_eq_true (by omega)
  by_cases h1 : c + 1 < d
  · have b1 : decide ((c : Int) + 1 < (d : Int)) = true := decide_eq_true (by omega)
    have b2 : decide ((34 : Int) ≤ (t.size : Int)) = true := decide_eq_true (by have := m7 h1; omega)
    go_enter Tryz.func104, Tryz.ntmps104
    go_wp2_with fail
    go_ret
    exact ⟨rfl, (Kept.refl _).alloc _⟩
  · have b1 : decide ((c : Int) + 1 < (d : Int)) = false := decide_eq_false (by omega)
    by_cases h2 : 1 < d
    · have b2 : decide ((1 : Int) < (d : Int)) = true := decide_eq_true (by omega)
      have b3 : decide ((1 : Int) ≤ (t.size : Int)) = true := decide_eq_true (by have := m8 h2; omega)
      go_enter Tryz.func104, Tryz.ntmps104
      go_wp2_with fail
      go_ret
      exact ⟨rfl, (Kept.refl _).alloc _⟩
    · have b2 : decide ((1 : Int) < (d : Int)) = false := decide_eq_false (by omega)
      have b3 : decide ((0 : Int) ≤ (t.size : Int)) = true := decide_eq_true (by omega)
      go_enter Tryz.func104, Tryz.ntmps104
      go_wp2_with fail
      go_ret
      exact ⟨rfl, (Kept.refl _).alloc _⟩
end Go.Proofs.YtmgkkoajjdgmbaaGreatDoor

/- The program's look, at a sector that is one, and at an empty one. -/
namespace Go.Proofs.YtmgkkoajjdgmbaaGreatDoor
open Go.RowKit Sm Wr _root_.Go.Proofs.YtmgkkoajjdgmbaaGreatDoor.Nm
set_option linter.unusedVariables false
theorem pt_off (W : World) (g o o' : Nat) (v : Value) (hne : o ≠ o') : (W.setCell ⟨g, o', none⟩ v).cell? ⟨g, o, none⟩ = W.cell? ⟨g, o, none⟩ := World.cell?_setCell_other _ _ _ _ (by intro e; injection e with _ e; exact hne e.symm)
def putPt (w : World) (b : Nat) (x : Pt) : World := (((((w.setCell ⟨b, 0, none⟩ (.int .u64 (x.gen : Nat))).setCell ⟨b, 1, none⟩ (.int .u64 (x.num : Nat))).setCell ⟨b, 2, none⟩ (.int .u64 (x.idx : Nat))).setCell ⟨b, 3, none⟩ (.int .u64 (x.parts : Nat))).setCell ⟨b, 4, none⟩ (.int .u32 (x.sum : Nat))).setCell ⟨b, 5, none⟩ (.string x.piece)
theorem putPt_frozen (w : World) (b : Nat) (x : Pt) (a : Addr) : (putPt w b x).frozen? a = w.frozen? a := by
  unfold putPt
  simp only [World.frozen?_setCell]
theorem PtAt.put {w : World} {b : Nat} {y : Pt} (h : PtAt w b 0 y) (x : Pt) : PtAt (putPt w b x) b 0 x := by
  obtain ⟨c0, c1, c2, c3, c4, c5⟩ := h
  unfold putPt
  refine ⟨?_, ?_, ?_, ?_, ?_, ?_⟩
  · repeat rw [pt_off _ _ _ _ _ (by decide)]
    exact World.cell?_setCell_same _ _ _ c0
  · rw [pt_off _ _ _ _ _ (by decide), pt_off _ _ _ _ _ (by decide), pt_off _ _ _ _ _ (by decide), pt_off _ _ _ _ _ (by decide)]
    exact World.cell?_setCell_same _ _ _ (by rw [pt_off _ _ _ _ _ (by decide)]; exact c1)
  · rw [pt_off _ _ _ _ _ (by decide), pt_off _ _ _ _ _ (by decide), pt_off _ _ _ _ _ (by decide)]
    exact World.cell?_setCell_same _ _ _ (by (repeat rw [pt_off _ _ _ _ _ (by decide)]); exact c2)
  · rw [pt_off _ _ _ _ _ (by decide), pt_off _ _ _ _ _ (by decide)]
    exact World.cell?_setCell_same _ _ _ (by (repeat rw [pt_off _ _ _ _ _ (by decide)]); exact c3)
  · rw [pt_off _ _ _ _ _ (by decide)]
    exact World.cell?_setCell_same _ _ _ (by (repeat rw [pt_off _ _ _ _ _ (by decide)]); exact c4)
  · exact World.cell?_setCell_same _ _ _ (by (repeat rw [pt_off _ _ _ _ _ (by decide)]); exact c5)
theorem putPt_kept {w0 w : World} (h : Kept w0 w) (g : Nat) (x : Pt) (hg : w0.heap.size ≤ g) : Kept w0 (putPt w g x) :=
  (((((h.setCell (p := ⟨g, 0, none⟩) hg _).setCell (p := ⟨g, 1, none⟩) hg _).setCell (p := ⟨g, 2, none⟩) hg _).setCell (p := ⟨g, 3, none⟩) hg _).setCell (p := ⟨g, 4, none⟩) hg _).setCell (p := ⟨g, 5, none⟩) hg _
theorem PtAt.but {w w' : World} {b o c : Nat} {x : Pt} (h : PtAt w b o x) (k : But c w w') (hc : b ≠ c) : PtAt w' b o x := h.frame (k.block b h.lt hc)
/-- The block of a part that the call has made for itself. -/
structure PtNew (w : World) (b : Nat) (x : Pt) : Prop where
  at' : PtAt w b 0 x
  fr : ∀ o, w.frozen? ⟨b, o, none⟩ = false
theorem PtNew.kept {w w' : World} {b : Nat} {x : Pt} (h : PtNew w b x) (k : Kept w w') : PtNew w' b x := ⟨h.at'.kept k, fun o => by rw [Below.frozen k (p := ⟨b, o, none⟩) h.at'.lt]; exact h.fr o⟩
theorem PtNew.but {w w' : World} {b c : Nat} {x : Pt} (h : PtNew w b x) (k : But c w w') (hc : b ≠ c) : PtNew w' b x := ⟨h.at'.but k hc, fun o => by rw [k.frozen (p := ⟨b, o, none⟩) h.at'.lt hc]; exact h.fr o⟩
theorem PtNew.put {w : World} {b : Nat} {y : Pt} (h : PtNew w b y) (x : Pt) : PtNew (putPt w b x) b x := ⟨h.at'.put x, fun o => by rw [putPt_frozen]; exact h.fr o⟩
theorem PtNew.laid (w : World) (T : TypeId) (x : Pt) : PtNew (w.alloc (.cells #[.int .u64 (x.gen : Nat), .int .u64 (x.num : Nat), .int .u64 (x.idx : Nat), .int .u64 (x.parts : Nat), .int .u32 (x.sum : Nat), .string x.piece] T)) w.heap.size x :=
  ⟨PtAt.laid w T x, fun o => by rw [World.frozen?_alloc_mark]; simp⟩
theorem PtNew.zero (w : World) (T : TypeId) : PtNew (w.alloc (.cells #[.int .u64 0, .int .u64 0, .int .u64 0, .int .u64 0, .int .u32 0, .string ⟨#[]⟩] T)) w.heap.size Pt.none := PtNew.laid w T Pt.none
theorem head_at (s : ByteArray) (h : 0 < s.size) : s[0] = s.data.toList.headD 0 := by
  have h0 : 0 < s.data.toList.length := by simpa using h
  rw [List.headD_eq_head?_getD, List.head?_eq_getElem?, List.getElem?_eq_getElem h0]
  rfl
theorem ext_list (s : ByteArray) (a b : Nat) : (s.extract a b).data.toList = (s.data.toList.take b).drop a := by
  simp [List.drop_take]
def lookV : Option Pt → Value
  | .none => .tuple #[Pt.none.val, .bool false]
  | .some x => .tuple #[x.val, .bool true]
set_option maxHeartbeats 2000000 in
set_option maxRecDepth 100000 in
theorem look_zero (s : ByteArray) (hs : s.data.toList = zero64) (w : World) :
    Calls Tryz.prog 77 #[.string s] w fun e w' => e = .returned (lookV .none) ∧ Kept w w' := by
  have h64 : s.size = 64 := by rw [← data_len, hs]; rfl
  have hsz : (s.size : Int) = 64 := by omega
  have hki : (s[0].toNat : Int) = 0 := by rw [head_at s (by omega), hs]; rfl
  obtain ⟨y, hy⟩ : ∃ y : ByteArray, y = s.extract 1 64 := ⟨_, rfl⟩
  have hyl : y.data.toList = List.replicate 63 0 := by rw [hy, ext_list, hs]; rfl
  have hyz : y.size = 63 := by rw [← data_len, hyl]; rfl
  have HTR := Lib.hid (fun W => trim_zero y W (by omega))
  rw [hyl, trimB_zeros] at HTR
  obtain ⟨z, hz⟩ : ∃ z : ByteArray, z = ByteArray.empty := ⟨_, rfl⟩
  have hzl : z.data.toList = [] := by rw [hz]; rfl
  have hzz : z.size = 0 := by rw [← data_len, hzl]; rfl
  have HOP := Lib.hid (fun W => open_any z W (by omega))
  rw [hzl] at HOP
  have K0 : Hid (Kept w (w.alloc (.cells #[.int .u64 0, .int .u64 0, .int .u64 0, .int .u64 0, .int .u32 0, .string ⟨#[]⟩] 104))) := (Kept.refl _).alloc _
  have S0 := Lib.hid (PtNew.zero w 104)
  have HY := Lib.hid hy
  have HZ := Lib.hid hz
  clear hy hz hyl hyz hzl hzz hs
  go_enter Tryz.func77, Tryz.ntmps77
  go_upto_region 1 with fail
  generalize w.alloc (.cells #[.int .u64 0, .int .u64 0, .int .u64 0, .int .u64 0, .int .u32 0, .string ⟨#[]⟩] 104) = w0 at *
  go_wp2_with fail
  rw [← HY.out]
  refine (HTR.out _).mono ?_
  rintro e w1 ⟨⟨r, rfl, hr⟩, hk⟩
  have K1 : Hid (Kept w w1) := K0.out.trans hk
  have S1 := Lib.hid (S0.out.kept hk)
  have hre : r.toList.isEmpty = true := by rw [ByteArray.toList_eq, hr.out]; rfl
  clear hk hr HTR HY K0 S0
  go_wp2_with fail
  rw [← HZ.out]
  refine (HOP.out _).mono ?_
  rintro e w2 ⟨rfl, hk⟩
  have K2 : Hid (Kept w w2) := K1.out.trans hk
  have S2 := Lib.hid (S1.out.kept hk)
  have hse : isSealed [] = false := rfl
  rw [hse]
  clear hk HOP HZ K1 S1 hse hre
  have HP := Lib.hid (S2.out.put Pt.none)
  have HKP := Lib.hid (putPt_kept K2.out w.heap.size Pt.none (Nat.le_refl _))
  obtain ⟨⟨p0, p1, p2, p3, p4, p5⟩, fr⟩ := S2.out
  have f0 := fr 0
  have f1 := fr 1
  have f2 := fr 2
  have f3 := fr 3
  have f4 := fr 4
  have f5 := fr 5
  unfold putPt at HP HKP
  dsimp only [Pt.none, Nat.zero_add] at HP HKP p0 p1 p2 p3 p4 p5
  go_wp2_with fail
  exact bodyPost_ret (v := lookV .none) (by have q0 := HP.out.at'.c0; have q1 := HP.out.at'.c1; have q2 := HP.out.at'.c2; have q3 := HP.out.at'.c3; have q4 := HP.out.at'.c4; have q5 := HP.out.at'.c5; (try simp at q0 q1 q2 q3 q4 q5); simp [results, Tryz.results77, go_sem, lookV, Pt.val, Pt.none, q0, q1, q2, q3, q4, q5]) rfl ⟨rfl, HKP.out⟩
set_option maxHeartbeats 2000000 in
set_option maxRecDepth 100000 in
theorem look_raw (s : ByteArray) (x : Pt) (hx : x.Ok) (hs : s.data.toList = x.raw) (w : World) :
    Calls Tryz.prog 77 #[.string s] w fun e w' => e = .returned (lookV (.some x)) ∧ Kept w w' := by
  have h64 : s.size = 64 := by rw [← data_len, hs]; exact Pt.raw_length hx
  have hsz : (s.size : Int) = 64 := by omega
  obtain ⟨n, hn⟩ : ∃ n : Nat, n = (sealL x.said).length := ⟨_, rfl⟩
  have hn60 : n ≤ 60 := by rw [hn]; exact Pt.seal_le hx
  have hki : (s[0].toNat : Int) = n := by rw [head_at s (by omega), hs, Pt.raw_head hx, hn]
  have hb1 : decide ((64 : Int) < 1 + (n : Int)) = false := decide_eq_false (by omega)
  have hb2 : 1 + (n : Int) ≤ 64 := by omega
  have hb3 : (0 : Int) ≤ 1 + (n : Int) := by omega
  obtain ⟨y, hy⟩ : ∃ y : ByteArray, y = s.extract (1 + n) 64 := ⟨_, rfl⟩
  have hyl : y.data.toList = List.replicate (64 - x.root.length) 0 := by
    rw [hy, ext_list, hs, List.take_of_length_le (by rw [Pt.raw_length hx]; decide), hn, Pt.raw_rest]
  have hyz : y.size ≤ 64 := by rw [← data_len, hyl, List.length_replicate]; omega
  have HTR := Lib.hid (fun W => trim_zero y W (by omega))
  rw [hyl, trimB_zeros] at HTR
  obtain ⟨z, hz⟩ : ∃ z : ByteArray, z = s.extract 1 (1 + n) := ⟨_, rfl⟩
  have hzl : z.data.toList = sealL x.said := by
    rw [hz, ext_list, hs, List.drop_take, show 1 + n - 1 = n from by omega, hn, Pt.raw_mid]
  have hzz : z.size ≤ 60 := by rw [← data_len, hzl, ← hn]; exact hn60
  have HOP := Lib.hid (fun W => open_any z W (by omega))
  rw [hzl, sealed_sealT] at HOP
  have hzs : isSealed z.data.toList = true := by rw [hzl]; exact sealed_sealT _
  obtain ⟨q, hq⟩ : ∃ q : ByteArray, q = opened z := ⟨_, rfl⟩
  have hql : q.data.toList = x.said := by
    rw [hq, opened_yes z hzs, ext_list, hzl, List.drop_zero, ← data_len, hzl]
    rw [seal_len]; simp [sealL]
  have hqz : q.size ≤ 56 := by rw [← data_len, hql]; exact Pt.said_length hx
  rw [← hq] at HOP
  have HNEW := Lib.hid (fun W => new_any q W (by omega))
  rw [hql] at HNEW
  obtain ⟨r1, r2, r3, r4, r5, r6⟩ := Pt.reads hx
  have HN1 := Lib.hid (fun b W h => num_any b ⟨x.said, 0⟩ 281474976710656 W h (by decide) (by decide))
  have HN2 := Lib.hid (fun b W h => num_any b ⟨up x.num ++ (up x.idx ++ (up x.parts ++ (up x.sum ++ x.piece.data.toList))), 0⟩ 512 W h (by decide) (by decide))
  have HN3 := Lib.hid (fun b W h => num_any b ⟨up x.idx ++ (up x.parts ++ (up x.sum ++ x.piece.data.toList)), 0⟩ 512 W h (by decide) (by decide))
  have HN4 := Lib.hid (fun b W h => num_any b ⟨up x.parts ++ (up x.sum ++ x.piece.data.toList), 0⟩ 512 W h (by decide) (by decide))
  have HN5 := Lib.hid (fun b W h => num_any b ⟨up x.sum ++ x.piece.data.toList, 0⟩ 4294967295 W h (by decide) (by decide))
  have HN6 := Lib.hid (fun b W h => rest_any b ⟨x.piece.data.toList, 0⟩ W h)
  have HN7 := Lib.hid (fun b W h => err_any b ⟨[], 0⟩ W h)
  simp only [show (281474976710656 : Int).toNat = 281474976710656 from rfl, show (512 : Int).toNat = 512 from rfl, show (4294967295 : Int).toNat = 4294967295 from rfl, r1, r2, r3, r4, r5, r6] at HN1 HN2 HN3 HN4 HN5 HN6
  have HMAY := Lib.hid (fun W => ptMay_any x hx W)
  have hw32 : IntKind.u32.wrap (x.sum : Int) = (x.sum : Int) := IntWalk.u32_in _ (by have := hx.sum; omega)
  have K0 : Hid (Kept w (w.alloc (.cells #[.int .u64 0, .int .u64 0, .int .u64 0, .int .u64 0, .int .u32 0, .string ⟨#[]⟩] 104))) := (Kept.refl _).alloc _
  have S0 := Lib.hid (PtNew.zero w 104)
  have HY := Lib.hid hy
  have HZ := Lib.hid hz
  have HV : Hid (lookV (.some x) = .tuple #[x.val, .bool true]) := rfl
  clear hy hz hyl hyz hzl hzz hs r1 r2 r3 r4 r5 r6 hzs hq hql hqz hn hx
  generalize lookV (.some x) = fv at *
  obtain ⟨a, b', c, d, l, ⟨t⟩⟩ := x
  unfold Pt.val at *
  dsimp only at *
  go_enter Tryz.func77, Tryz.ntmps77
  go_upto_region 1 with fail
  generalize w.alloc (.cells #[.int .u64 0, .int .u64 0, .int .u64 0, .int .u64 0, .int .u32 0, .string ⟨#[]⟩] 104) = w0 at *
  go_wp2_with fail
  rw [← HY.out]
  refine (HTR.out _).mono ?_
  rintro e w1 ⟨⟨r, rfl, hr⟩, hk⟩
  have K1 : Hid (Kept w w1) := K0.out.trans hk
  have S1 := Lib.hid (S0.out.kept hk)
  have hre : r.toList.isEmpty = true := by rw [ByteArray.toList_eq, hr.out]; rfl
  clear hk hr HTR HY K0 S0
  go_wp2_with fail
  rw [← HZ.out]
  refine (HOP.out _).mono ?_
  rintro e w2 ⟨rfl, hk⟩
  have K2 : Hid (Kept w w2) := K1.out.trans hk
  have S2 := Lib.hid (S1.out.kept hk)
  clear hk HOP HZ K1 S1 hre
  go_wp2_with fail
  refine (HNEW.out _).mono ?_
  rintro e w3 ⟨b, rfl, hb, hR, hk⟩
  have K3 : Hid (Kept w w3) := K2.out.trans hk
  have S3 := Lib.hid (S2.out.kept hk)
  have hbG : w.heap.size < b := by have := S2.out.at'.lt; omega
  have R3 := Lib.hid hR
  clear hk hR HNEW S2 K2 hb
  go_wp2_with fail
  refine (HN1.out b _ R3.out).mono ?_
  rintro e w4 ⟨rfl, hr, hbt⟩
  have R4 := Lib.hid hr
  have S4 := Lib.hid (S3.out.but hbt (by omega))
  have K4 : Hid (Kept w w4) := But.kept K3.out (by omega) hbt
  clear hr hbt R3 S3 K3 HN1
  go_wp2_with fail
  refine (HN2.out b _ R4.out).mono ?_
  rintro e w5 ⟨rfl, hr, hbt⟩
  have R5 := Lib.hid hr
  have S5 := Lib.hid (S4.out.but hbt (by omega))
  have K5 : Hid (Kept w w5) := But.kept K4.out (by omega) hbt
  clear hr hbt R4 S4 K4 HN2
  go_wp2_with fail
  refine (HN3.out b _ R5.out).mono ?_
  rintro e w6 ⟨rfl, hr, hbt⟩
  have R6 := Lib.hid hr
  have S6 := Lib.hid (S5.out.but hbt (by omega))
  have K6 : Hid (Kept w w6) := But.kept K5.out (by omega) hbt
  clear hr hbt R5 S5 K5 HN3
  go_wp2_with fail
  refine (HN4.out b _ R6.out).mono ?_
  rintro e w7 ⟨rfl, hr, hbt⟩
  have R7 := Lib.hid hr
  have S7 := Lib.hid (S6.out.but hbt (by omega))
  have K7 : Hid (Kept w w7) := But.kept K6.out (by omega) hbt
  clear hr hbt R6 S6 K6 HN4
  go_wp2_with fail
  refine (HN5.out b _ R7.out).mono ?_
  rintro e w8 ⟨rfl, hr, hbt⟩
  have R8 := Lib.hid hr
  have S8 := Lib.hid (S7.out.but hbt (by omega))
  have K8 : Hid (Kept w w8) := But.kept K7.out (by omega) hbt
  clear hr hbt R7 S7 K7 HN5
  go_wp2_with fail
  refine (HN6.out b _ R8.out).mono ?_
  rintro e w9 ⟨rfl, hr, hbt⟩
  have R9 := Lib.hid hr
  have S9 := Lib.hid (S8.out.but hbt (by omega))
  have K9 : Hid (Kept w w9) := But.kept K8.out (by omega) hbt
  clear hr hbt R8 S8 K8 HN6
  have HP := Lib.hid (S9.out.put ⟨a, b', c, d, l, ⟨t⟩⟩)
  have HKP := Lib.hid (putPt_kept K9.out w.heap.size ⟨a, b', c, d, l, ⟨t⟩⟩ (Nat.le_refl _))
  have RP := Lib.hid (R9.out.but ((((((But.refl w.heap.size w9).setCell 0 (.int .u64 (a : Nat))).setCell 1 (.int .u64 (b' : Nat))).setCell 2 (.int .u64 (c : Nat))).setCell 3 (.int .u64 (d : Nat))).setCell 4 (.int .u32 (l : Nat)) |>.setCell 5 (.string ⟨t⟩)) (by omega))
  obtain ⟨⟨p0, p1, p2, p3, p4, p5⟩, fr⟩ := S9.out
  have f0 := fr 0
  have f1 := fr 1
  have f2 := fr 2
  have f3 := fr 3
  have f4 := fr 4
  have f5 := fr 5
  unfold putPt at HP HKP
  dsimp only [Pt.none, Nat.zero_add] at p0 p1 p2 p3 p4 p5
  dsimp only at HP HKP RP
  go_upto_region 9 with fail
  generalize (((((w9.setCell ⟨w.heap.size, 0, none⟩ (.int .u64 (a : Nat))).setCell ⟨w.heap.size, 1, none⟩ (.int .u64 (b' : Nat))).setCell ⟨w.heap.size, 2, none⟩ (.int .u64 (c : Nat))).setCell ⟨w.heap.size, 3, none⟩ (.int .u64 (d : Nat))).setCell ⟨w.heap.size, 4, none⟩ (.int .u32 (l : Nat))).setCell ⟨w.heap.size, 5, none⟩ (.string ⟨t⟩) = wP at *
  clear p0 p1 p2 p3 p4 p5 f0 f1 f2 f3 f4 f5 fr S9 R9 K9
  go_wp2_with fail
  refine (HN7.out b _ RP.out).mono ?_
  rintro e u1 ⟨rfl, hbt, hr⟩
  have S1 := Lib.hid (HP.out.but hbt (by omega))
  have K1 : Hid (Kept w u1) := But.kept HKP.out (by omega) hbt
  clear hr hbt RP HN7 HP HKP
  obtain ⟨p0, p1, p2, p3, p4, p5⟩ := S1.out.at'
  dsimp only [Nat.zero_add] at p0 p1 p2 p3 p4 p5
  go_wp2_with fail
  refine (HMAY.out _).mono ?_
  rintro e u2 ⟨rfl, hk⟩
  have S2 := Lib.hid (S1.out.kept hk)
  have K2 : Hid (Kept w u2) := K1.out.trans hk
  clear hk S1 K1 p0 p1 p2 p3 p4 p5 HMAY
  have HP := Lib.hid (S2.out.put ⟨a, b', c, d, l, ⟨t⟩⟩)
  have HKP := Lib.hid (putPt_kept K2.out w.heap.size ⟨a, b', c, d, l, ⟨t⟩⟩ (Nat.le_refl _))
  obtain ⟨⟨p0, p1, p2, p3, p4, p5⟩, fr⟩ := S2.out
  have f0 := fr 0
  have f1 := fr 1
  have f2 := fr 2
  have f3 := fr 3
  have f4 := fr 4
  have f5 := fr 5
  unfold putPt at HP HKP
  dsimp only [Nat.zero_add] at HP HKP p0 p1 p2 p3 p4 p5
  go_wp2_with fail
  exact bodyPost_ret (v := .tuple #[.agg #[.int .u64 (a : Nat), .int .u64 (b' : Nat), .int .u64 (c : Nat), .int .u64 (d : Nat), .int .u32 (l : Nat), .string ⟨t⟩], .bool true]) (by have q0 := HP.out.at'.c0; have q1 := HP.out.at'.c1; have q2 := HP.out.at'.c2; have q3 := HP.out.at'.c3; have q4 := HP.out.at'.c4; have q5 := HP.out.at'.c5; (try simp at q0 q1 q2 q3 q4 q5); simp [results, Tryz.results77, go_sem, q0, q1, q2, q3, q4, q5]) rfl ⟨by rw [HV.out], HKP.out⟩
end Go.Proofs.YtmgkkoajjdgmbaaGreatDoor

