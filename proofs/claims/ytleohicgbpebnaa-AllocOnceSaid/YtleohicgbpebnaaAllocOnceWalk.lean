/- AllocOnce's walk. -/
import Derived.Test.YtleohicgbpebnaaAllocOnce
import Derived.Deep.CutBlock
import Derived.BigQuiet
namespace Go.Proofs.Ytleohicgbpebnaa
open Go.RowKit Go.Maps
set_option linter.unusedVariables false
theorem wf_u16' {x : Int} (h : (Lit.int .u16 x).wf = true) : 0 ≤ x ∧ x ≤ 65535 := by
  have := bounds_u16 h
  omega
theorem But.grew {b : Nat} {w w1 w2 : World} (h : But b w w1) (k : w1.grownBy w2 (some b)) : But b w w2 :=
  h.trans ⟨k.os, k.tape, k.output, k.size, fun x hx hb => k.block x hx (fun e => hb (by injection e))⟩
theorem But.at' {b : Nat} {w w' : World} (h : But b w w') {x o : Nat} {v : Value} (hx : x ≠ b) (hc : w.cell? ⟨x, o, none⟩ = some v) : w'.cell? ⟨x, o, none⟩ = some v := by
  rw [h.cell (p := ⟨x, o, none⟩) (block_lt_of_cell hc) hx]; exact hc
theorem fill_next (k j : Nat) : (if j < k + 1 then 1 else 0 : Nat) = if j = k then 1 else if j < k then 1 else 0 := by
  by_cases e : j = k
  · subst e; simp
  · by_cases h : j < k
    · rw [if_pos (by omega), if_neg e, if_pos h]
    · rw [if_neg (by omega), if_neg e, if_neg h]
set_option maxHeartbeats 8000000 in
set_option maxRecDepth 100000 in
theorem allocOnce_walk (a0 : Int) (a1 : Option Addr) (len1 cap1 : Nat) (z1 : List AStp) (w : World) (w0 : (Lit.int .u16 a0).wf = true) (w1 : IsASteps w a1 len1 cap1 z1) :
    Calls Try.prog 4 #[.int .u16 a0, .slice a1 len1 cap1] w fun e w' => e = .returned (.bool true) ∧ Kept w w' := by
  obtain ⟨N, rfl⟩ : ∃ N : Nat, a0 = N := ⟨a0.toNat, by have := (wf_u16' w0).1; omega⟩
  have hN := (wf_u16' w0).2
  obtain ⟨hS, rfl, hsm⟩ := w1.stps
  have HH := Lib.hid (heavy_any a1 z1.length cap1 z1 rfl hsm w hS none none 0 0 0 0 (Nat.zero_le _) (Nat.zero_le _))
  have HS := Lib.hid hS
  have HLIGHT : Hid (Light z1 0 0 → z1.length ≤ 200 ∧ ∀ (i : Nat) (hi : i < z1.length), z1[i].ln ≤ 200) := fun h => ⟨h.1, h.2.2.2⟩
  clear hS w0 w1 hsm
  obtain ⟨ns, hns⟩ : ∃ ns, ns = z1.length := ⟨_, rfl⟩
  rw [← hns] at HH ⊢
  have HNS := Lib.hid hns
  clear hns
  have hmm := @run_makeMap Try.prog
  go_enter Try.func4, Try.ntmps4
  go_wp2_with fail
  refine HH.out.mono ?_
  rintro e w1 ⟨v1, rfl, hv1, hw1⟩
  replace hw1 := hw1.symm
  subst hw1
  cases v1
  · obtain ⟨hl1, hl4⟩ := HLIGHT.out (hv1 rfl)
    rw [← HNS.out] at hl1
    have HLN := Lib.hid hl4
    clear hv1 HH HLIGHT hl4
    go_wp2_with fail
    obtain ⟨n, hn, hn2⟩ : ∃ n : Nat, (N : Int) % 200 = n ∧ n ≤ 199 := ⟨N % 200, by omega, by omega⟩
    rw [hn]
    clear hn hN
    refine (new_ok n (by omega) _).mono ?_
    rintro e w1 ⟨g, c, cap, rfl, hM, hg, hc, hk⟩
    have HO : Hid (Once (fun _ => False) g w1.heap.size n 0 (fun _ => 1) (fun j => if j < 0 then 1 else 0) w (w1.alloc (.map #[] 0))) := by
      have hK : Kept w1 (w1.alloc (.map #[] 0)) := (Kept.refl _).alloc _
      exact ⟨⟨c, cap, hM.kept hK, hc, Nat.ne_of_lt hM.lt, fun _ h => h.elim⟩, ⟨_, MapN.made w1, fun j hj => rfl⟩, hk.alloc _, hg, hk.size, Nat.ne_of_lt hM.glt, fun _ h => h.elim⟩
    clear hM hg hc hk
    go_wp2_with fail
    clear hmm
    generalize w1.alloc (.map #[] 0) = w2 at *
    generalize w1.heap.size = b at *
    go_loopw [9] (fun i wr => ∃ k : Nat, k ≤ n ∧ i = .int .i64 k ∧ Hid (Once (fun _ => False) g b n k (fun _ => 1) (fun j => if j < k then 1 else 0) w wr)) (fun i _ => n - (intOf i).toNat)
    case atStart => exact ⟨0, Nat.zero_le _, rfl, HO.out⟩
    case round =>
      obtain ⟨k, hk, rfl, HI⟩ := hrel
      by_cases hlt : k < n
      · obtain ⟨F, hF, hf⟩ := HI.out.d
        have HF := Lib.hid hF
        have HFF := Lib.hid hf
        clear hF hf
        go_wp2_with (at_mapUpdate; refine wpList_storeN _ rfl _ _ _ rfl b k F rfl HF.out (by omega) (k : Int) (by omega) 1 (by decide) rfl rfl ?_; intro w9 hM9 hg9)
        have HP := Lib.hid (HI.out.put hM9 HFF.out hg9).1
        clear hM9 hg9
        go_roundw
        case rel => exact ⟨k + 1, by omega, by go_num, HP.out.congr (fun j hj => fill_next k j)⟩
        case measure => simp [intOf]; omega
      · obtain rfl : k = n := by omega
        have HB : Hid (Once (fun _ => False) g b k 200 (fun _ => 1) (fun _ => 1) w wr) := (HI.out.congr (fun j hj => by rw [if_pos hj])).mono (by omega)
        clear HI HO hk hlt
        go_wp2_with fail
        go_loopw [10] (fun i wr => ∃ q : Nat, q ≤ ns ∧ i = .int .i64 q ∧ Hid (∃ f, Once (fun _ => False) g b k (200 + 200 * q) f f w wr)) (fun i _ => ns - (intOf i).toNat)
        case atStart => exact ⟨0, Nat.zero_le _, rfl, _, HB.out⟩
        case round =>
          obtain ⟨q, hq, rfl, HE⟩ := hrel
          by_cases hlt : q < ns
          · obtain ⟨f, hB⟩ := HE.out
            have HBF := Lib.hid hB
            have hkz : q < z1.length := by rw [← HNS.out]; exact hlt
            rcases HS.out with h0 | ⟨bb, o, rfl, hqq⟩
            · rw [h0] at hkz; cases hkz
            · obtain ⟨_, _, _, _, _, _, _, hIw, _⟩ := hqq q hkz
              obtain ⟨c0, c1, c2, ho, hkk, hlen, hmx, hI, hr⟩ := (hqq q hkz).kept hB.kept
              have HL2 := Lib.hid (HLN.out q hkz)
              clear hqq hB HE
              generalize z1[q] = z at *
              obtain ⟨op, q1, q2, q3, q4, l⟩ := z
              dsimp only at c0 c1 c2 ho hkk hlen hmx hI hr HL2 hIw
              subst hlen
              have HOLDW := Lib.hid hIw
              have HKK := Lib.hid hkk
              have HLW : Hid (l.length ≤ 1000000 ∧ ∀ r ∈ l, -9223372036854775808 ≤ r ∧ r ≤ 9223372036854775807) := ⟨by have := HL2.out; omega, hr⟩
              have hln : l.length ≤ 200 := HL2.out
              have HBX := Lib.hid (HBF.out.more (.cells #[.int .i64 op, .int .i64 q1, .slice q2 l.length q4] 34))
              have hx2 : (wr.alloc (.cells #[.int .i64 op, .int .i64 q1, .slice q2 l.length q4] 34)).cell? ⟨wr.heap.size, 2, none⟩ = some (.slice q2 l.length q4) := by rw [World.cell?_alloc_mark]; rfl
              have hx1 : (wr.alloc (.cells #[.int .i64 op, .int .i64 q1, .slice q2 l.length q4] 34)).cell? ⟨wr.heap.size, 1, none⟩ = some (.int .i64 q1) := by rw [World.cell?_alloc_mark]; rfl
              clear hkk hI hmx hr HL2 HBF hIw
              have HIX : Hid (Ints .i64 (wr.alloc (.cells #[.int .i64 op, .int .i64 q1, .slice q2 l.length q4] 34)) q2 l) := HOLDW.out.kept HBX.out.kept
              go_upto_block 4 with fail
              clear c0 c1 c2
              generalize wr.alloc (.cells #[.int .i64 op, .int .i64 q1, .slice q2 l.length q4] 34) = wa at *
              generalize wr.heap.size = X at *
              go_cut [12, 13, 14, 15, 16] from 58 to 160 (fun _ _ _ _ _ wx => Hid (∃ f, Once (fun _ => False) g b k (200 + 200 * (q + 1)) f f w wx))
              case first =>
                by_cases h0 : op = 0
                · subst h0
                  clear ho
                  have HIX2 : True := trivial
                  go_wp2_with fail
                  refine (HBX.out.takeM q1 HKK.out).mono ?_
                  rintro e w9 ⟨p2, cp2, rfl, hI9, hp9, hO9, hS9⟩
                  have HO9 := Lib.hid hO9
                  have hx9 := hS9.cell (b := X) (o := 1) rfl hx1
                  have HXB : Hid (X ≠ b) := (hO9.s X rfl).2.1
                  have HFREE := Lib.hid (taken_free k f q1)
                  have HMANY := took_many k f q1
                  have hle : (takeL k f q1).length ≤ 199 := by
                    unfold takeL
                    split
                    · have := rowsL_le k f 1
                      rw [List.length_take]; omega
                    · exact Nat.zero_le _
                  have HTF : Hid (takeF k f q1 = letF f 2 ((takeL k f q1).take (takeL k f q1).length)) := by show _ = _; rw [List.take_of_length_le (Nat.le_refl _)]; rfl
                  have HNX : Hid (∀ j r, j < (takeL k f q1).length → nthI (takeL k f q1) j = (r : Nat) → ∀ i, letF f 2 ((takeL k f q1).take (j + 1)) i = if i = r then 2 else letF f 2 ((takeL k f q1).take j) i) := fun j r h1 h2 i => letF_next f 2 _ j r h1 h2 i
                  obtain ⟨b1, o1, hc1⟩ := ints_at hI9
                  have HC := Lib.hid hc1
                  have HPB : Hid (∀ y, p2 = some y → y.block ≠ b) := fun y hy => by
                    have h1 := (hp9 y hy).1
                    obtain ⟨F, hF, _⟩ := HBX.out.d
                    have h2 := hF.lt
                    omega
                  clear hI9 hp9 hO9 hS9 hx1 hx2 HBX hc1 HLW HOLDW HIX
                  generalize takeE k f q1 = x at *
                  generalize takeF k f q1 = f1 at *
                  generalize takeL k f q1 = L at *
                  generalize hLT : L.length = T at *
                  clear hLT
                  have hchk : (((x : Int) == 0) = true ∧ ((x : Int) != 0) = false ∧ ((T : Int) != q1) = false) ∨ (((x : Int) == 0) = false ∧ ((x : Int) != 0) = true ∧ ((T : Int) != 0) = false) := by
                    by_cases hx0 : x = 0
                    · left
                      have h := HMANY.1 hx0
                      subst hx0
                      refine ⟨rfl, rfl, ?_⟩
                      simp [bne, h]
                    · right
                      have h := HMANY.2 hx0
                      refine ⟨by simp [hx0], by simp [bne, hx0], ?_⟩
                      simp [bne, h]
                  clear HMANY HIX2
                  rcases hchk with ⟨k1, k2, k3⟩ | ⟨k1, k2, k3⟩
                  all_goals
                    go_wp2_with fail
                    go_loopw [14] (fun i wr => ∃ j : Nat, j ≤ T ∧ i = .int .i64 j ∧ Hid (Once (fun y => y = X) g b k (200 + 200 * q + j) f1 (letF f 2 (L.take j)) w wr ∧ But b w9 wr)) (fun i _ => T - (intOf i).toNat)
                    case atStart => exact ⟨0, Nat.zero_le _, rfl, by rw [List.take_zero, letF_nil]; exact HO9.out, But.refl _ _⟩
                    case round =>
                      obtain ⟨j, hj, rfl, HJ⟩ := hrel
                      by_cases hjT : j < T
                      · obtain ⟨hp, hc⟩ := HC.out (by omega)
                        have hcj := HJ.out.2.at' (HPB.out _ hp) (hc j hjT)
                        obtain ⟨r, hr1, hr2, hr3⟩ := HFREE.out j hjT
                        obtain ⟨F, hF, hf⟩ := HJ.out.1.d
                        have HF := Lib.hid hF
                        have HFF := Lib.hid hf
                        have hlk := hF.run (r : Int) (by omega)
                        rw [hf r hr2, hr3] at hlk
                        rw [hr1] at hcj
                        have HNX2 := Lib.hid (HNX.out j r hjT hr1)
                        subst hp
                        clear hc HC hF hf hr1 hr3 HFREE HNX
                        go_wp2_with (at_mapUpdate; refine wpList_storeN _ rfl _ _ _ rfl b (200 + 200 * q + j) F rfl HF.out (by omega) (r : Int) (by omega) 2 (by decide) rfl rfl ?_; intro wz hMz hgz)
                        have HP := Lib.hid ((HJ.out.1.put hMz HFF.out hgz).1.congr (fun i _ => HNX2.out i))
                        have HQ := Lib.hid (HJ.out.2.grew hgz)
                        clear hMz hgz
                        go_roundw
                        case rel => exact ⟨j + 1, by omega, by go_num, HP.out, HQ.out⟩
                        case measure => simp [intOf]; omega
                      · obtain rfl : j = T := by omega
                        have HFIN : Hid (Once (fun _ => False) g b k (200 + 200 * (q + 1)) f1 f1 w wr) := by
                          have h := HJ.out.1
                          rw [← HTF.out] at h
                          exact (h.mono (by omega)).forget
                        go_wp2_with fail
                        go_meet
                        exact ⟨_, HFIN.out⟩
                · have hb0 : (op == 0) = false := by simp [h0]
                  by_cases h1 : op = 1
                  · subst h1
                    clear ho h0
                    go_wp2_with (at_builtin; refine wpList_copyI _ rfl (.const (.slice none 0 0)) (.tmp 107) rfl q2 q4 l (by rfl) (by rfl) HIX.out (by omega) ?_; intro v8 w8 hC8; obtain ⟨a8, ca8, hv8, hI8, hK8, _⟩ := hC8; subst hv8)
                    have hO8 := HBX.out.keep hK8
                    refine (hO8.1.dropM a8 ca8 l HLW.out.1 HLW.out.2 hI8).mono ?_
                    rintro e w9 ⟨rfl, hO9, hS9⟩
                    have HO9 := Lib.hid hO9
                    have hx9 := hS9.cell (b := X) (o := 2) rfl (hO8.2.cell (b := X) (o := 2) rfl hx2)
                    have HX9 := Lib.hid hx9
                    have HXB : Hid (X ≠ b) := (hO9.s X rfl).2.1
                    clear hO8 hO9 hS9 hI8 hK8 hx2 hx1 HBX HIX
                    by_cases hz : turnE k f 2 l = 0
                    · have HW := Lib.hid (turned_was (y := 3) hz)
                      have HTF : Hid (turnF k f 2 3 l = letF f 3 (l.take l.length)) := by show _ = _; rw [List.take_of_length_le (Nat.le_refl _)]; exact turnF_ok hz
                      have HNX : Hid (∀ j r, j < l.length → nthI l j = (r : Nat) → ∀ i, letF f 3 (l.take (j + 1)) i = if i = r then 3 else letF f 3 (l.take j) i) := fun j r h1 h2 i => letF_next f 3 l j r h1 h2 i
                      have hb3 : (((turnE k f 2 l : Nat) : Int) == 0) = true := by rw [hz]; rfl
                      obtain ⟨b1, o1, hc1⟩ := ints_at HOLDW.out
                      have HC := Lib.hid hc1
                      clear hz hc1 HLW HOLDW
                      generalize turnE k f 2 l = x at *
                      generalize turnF k f 2 3 l = f1 at *
                      generalize hll : l.length = T at *
                      clear hll
                      go_wp2_with fail
                      go_loopw [15] (fun i wr => ∃ j : Nat, j ≤ T ∧ i = .int .i64 j ∧ Hid (Once (fun y => y = X) g b k (200 + 200 * q + j) f1 (letF f 3 (l.take j)) w wr ∧ But b w9 wr)) (fun i _ => T - (intOf i).toNat)
                      case atStart => exact ⟨0, Nat.zero_le _, rfl, by rw [List.take_zero, letF_nil]; exact HO9.out, But.refl _ _⟩
                      case round =>
                        obtain ⟨j, hj, rfl, HJ⟩ := hrel
                        have hxr := HJ.out.2.at' HXB.out HX9.out
                        by_cases hjT : j < T
                        · obtain ⟨hp, hc⟩ := HC.out (by omega)
                          have hcj := cell_kept (hc j hjT) HJ.out.1.kept
                          obtain ⟨r, hr1, hr2, hr3⟩ := HW.out j hjT
                          obtain ⟨F, hF, hf⟩ := HJ.out.1.d
                          have HF := Lib.hid hF
                          have HFF := Lib.hid hf
                          have hlk := hF.run (r : Int) (by omega)
                          rw [hf r hr2, hr3] at hlk
                          rw [hr1] at hcj
                          have HNX2 := Lib.hid (HNX.out j r hjT hr1)
                          subst hp
                          clear hc HC hF hf hr1 hr3 HW HNX
                          go_wp2_with (at_mapUpdate; refine wpList_storeN _ rfl _ _ _ rfl b (200 + 200 * q + j) F rfl HF.out (by omega) (r : Int) (by omega) 3 (by decide) rfl rfl ?_; intro wz hMz hgz)
                          have HP := Lib.hid ((HJ.out.1.put hMz HFF.out hgz).1.congr (fun i _ => HNX2.out i))
                          have HQ := Lib.hid (HJ.out.2.grew hgz)
                          clear hMz hgz
                          go_roundw
                          case rel => exact ⟨j + 1, by omega, by go_num, HP.out, HQ.out⟩
                          case measure => simp [intOf]; omega
                        · obtain rfl : j = T := by omega
                          have HFIN : Hid (Once (fun _ => False) g b k (200 + 200 * (q + 1)) f1 f1 w wr) := by
                            have h := HJ.out.1
                            rw [← HTF.out] at h
                            exact (h.mono (by omega)).forget
                          go_wp2_with fail
                          go_meet
                          exact ⟨_, HFIN.out⟩
                    · have HFIN : Hid (Once (fun _ => False) g b k (200 + 200 * (q + 1)) f f w w9) := by
                        have h := HO9.out
                        rw [turnF_not hz] at h
                        exact (h.mono (by omega)).forget
                      have hb3 : (((turnE k f 2 l : Nat) : Int) == 0) = false := by simp [hz]
                      generalize turnE k f 2 l = x at *
                      clear hz
                      go_wp2_with fail
                      go_meet
                      exact ⟨_, HFIN.out⟩
                  · have hb1 : (op == 1) = false := by simp [h1]
                    by_cases h2 : op = 2
                    · subst h2
                      clear ho h0 h1
                      go_wp2_with (at_builtin; refine wpList_copyI _ rfl (.const (.slice none 0 0)) (.tmp 136) rfl q2 q4 l (by rfl) (by rfl) HIX.out (by omega) ?_; intro v8 w8 hC8; obtain ⟨a8, ca8, hv8, hI8, hK8, _⟩ := hC8; subst hv8)
                      have hO8 := HBX.out.keep hK8
                      refine (hO8.1.clearM a8 ca8 l HLW.out.1 HLW.out.2 hI8).mono ?_
                      rintro e w9 ⟨rfl, hO9, hS9⟩
                      have HO9 := Lib.hid hO9
                      have hx9 := hS9.cell (b := X) (o := 2) rfl (hO8.2.cell (b := X) (o := 2) rfl hx2)
                      have HX9 := Lib.hid hx9
                      have HXB : Hid (X ≠ b) := (hO9.s X rfl).2.1
                      clear hO8 hO9 hS9 hI8 hK8 hx2 hx1 HBX HIX
                      by_cases hz : turnE k f 3 l = 0
                      · have HW := Lib.hid (turned_was (y := 1) hz)
                        have HTF : Hid (turnF k f 3 1 l = letF f 1 (l.take l.length)) := by show _ = _; rw [List.take_of_length_le (Nat.le_refl _)]; exact turnF_ok hz
                        have HNX : Hid (∀ j r, j < l.length → nthI l j = (r : Nat) → ∀ i, letF f 1 (l.take (j + 1)) i = if i = r then 1 else letF f 1 (l.take j) i) := fun j r h1 h2 i => letF_next f 1 l j r h1 h2 i
                        have hb3 : (((turnE k f 3 l : Nat) : Int) == 0) = true := by rw [hz]; rfl
                        obtain ⟨b1, o1, hc1⟩ := ints_at HOLDW.out
                        have HC := Lib.hid hc1
                        clear hz hc1 HLW HOLDW
                        generalize turnE k f 3 l = x at *
                        generalize turnF k f 3 1 l = f1 at *
                        generalize hll : l.length = T at *
                        clear hll
                        go_wp2_with fail
                        go_loopw [16] (fun i wr => ∃ j : Nat, j ≤ T ∧ i = .int .i64 j ∧ Hid (Once (fun y => y = X) g b k (200 + 200 * q + j) f1 (letF f 1 (l.take j)) w wr ∧ But b w9 wr)) (fun i _ => T - (intOf i).toNat)
                        case atStart => exact ⟨0, Nat.zero_le _, rfl, by rw [List.take_zero, letF_nil]; exact HO9.out, But.refl _ _⟩
                        case round =>
                          obtain ⟨j, hj, rfl, HJ⟩ := hrel
                          have hxr := HJ.out.2.at' HXB.out HX9.out
                          by_cases hjT : j < T
                          · obtain ⟨hp, hc⟩ := HC.out (by omega)
                            have hcj := cell_kept (hc j hjT) HJ.out.1.kept
                            obtain ⟨r, hr1, hr2, hr3⟩ := HW.out j hjT
                            obtain ⟨F, hF, hf⟩ := HJ.out.1.d
                            have HF := Lib.hid hF
                            have HFF := Lib.hid hf
                            have hlk := hF.run (r : Int) (by omega)
                            rw [hf r hr2, hr3] at hlk
                            rw [hr1] at hcj
                            have HNX2 := Lib.hid (HNX.out j r hjT hr1)
                            subst hp
                            clear hc HC hF hf hr1 hr3 HW HNX
                            go_wp2_with (at_mapUpdate; refine wpList_storeN _ rfl _ _ _ rfl b (200 + 200 * q + j) F rfl HF.out (by omega) (r : Int) (by omega) 1 (by decide) rfl rfl ?_; intro wz hMz hgz)
                            have HP := Lib.hid ((HJ.out.1.put hMz HFF.out hgz).1.congr (fun i _ => HNX2.out i))
                            have HQ := Lib.hid (HJ.out.2.grew hgz)
                            clear hMz hgz
                            go_roundw
                            case rel => exact ⟨j + 1, by omega, by go_num, HP.out, HQ.out⟩
                            case measure => simp [intOf]; omega
                          · obtain rfl : j = T := by omega
                            have HFIN : Hid (Once (fun _ => False) g b k (200 + 200 * (q + 1)) f1 f1 w wr) := by
                              have h := HJ.out.1
                              rw [← HTF.out] at h
                              exact (h.mono (by omega)).forget
                            go_wp2_with fail
                            go_meet
                            exact ⟨_, HFIN.out⟩
                      · have HFIN : Hid (Once (fun _ => False) g b k (200 + 200 * (q + 1)) f f w w9) := by
                          have h := HO9.out
                          rw [turnF_not hz] at h
                          exact (h.mono (by omega)).forget
                        have hb3 : (((turnE k f 3 l : Nat) : Int) == 0) = false := by simp [hz]
                        generalize turnE k f 3 l = x at *
                        clear hz
                        go_wp2_with fail
                        go_meet
                        exact ⟨_, HFIN.out⟩
                    · have hb2 : (op == 2) = false := by simp [h2]
                      have HFIN : Hid (Once (fun _ => False) g b k (200 + 200 * (q + 1)) f f w wa) := (HBX.out.mono (by omega)).forget
                      clear ho h0 h1 h2
                      go_wp2_with fail
                      go_meet
                      exact ⟨_, HFIN.out⟩
              case rest =>
                obtain ⟨f1, hB1⟩ := hcut.out
                have HB2 := Lib.hid hB1
                clear hB1 hcut HBX HIX hx1 hx2 HLW HOLDW HKK
                go_wp2_with fail
                refine HB2.out.countM.mono ?_
                rintro e w2 ⟨x, y, z, rfl, hsum, hB⟩
                have HB3 := Lib.hid hB
                clear hB HB2
                have hs : (((x : Int) + (y : Int) + (z : Int)) != (k : Int)) = false := by simp [bne]; omega
                have hx' : x ≤ 199 := by omega
                have hy' : y ≤ 199 := by omega
                have hz' : z ≤ 199 := by omega
                clear hsum
                go_wp2_with fail
                go_roundw
                case rel => exact ⟨q + 1, by omega, by go_num, _, HB3.out⟩
                case measure => simp [intOf]; omega
          · obtain ⟨f, hB⟩ := HE.out
            have HBF := Lib.hid hB
            clear hB HE HB
            go_wp2_with fail
            go_loopw [20] (fun i wr => ∃ j : Nat, j ≤ k ∧ i = .int .i64 j ∧ Hid (Once (fun _ => False) g b k (200 + 200 * q) f f w wr)) (fun i _ => k - (intOf i).toNat)
            case atStart => exact ⟨0, Nat.zero_le _, rfl, HBF.out⟩
            case round =>
              obtain ⟨j, hj, rfl, HJ⟩ := hrel
              by_cases hjk : j < k
              · obtain ⟨F, hF, hf⟩ := HJ.out.d
                have hO : ofN k f (j : Nat) = f j := if_pos (decide_eq_true ⟨by omega, by omega⟩)
                have HOF : Hid (∀ u, Calls Try.prog 21 #[.pointer (some ⟨g, 0, none⟩), .int .i64 (j : Nat)] (wr.drewN u) fun e w' => e = .returned (.int .u8 (f j : Nat)) ∧ w' = wr.drewN u) := fun u => by
                  have h := (HJ.out.keep ((Kept.refl wr).drewN u)).1.ofM (j : Nat) (by omega)
                  rwa [hO] at h
                have hlk : ∀ u, (Instr.lookup 50 (.map (some b)) (.int .i64 (j : Int)) false).run Try.prog (wr.drewN u) = .ok (.int .u8 (f j : Nat)) (wr.drewN u) := fun u => by
                  have h := (hF.kept ((Kept.refl wr).drewN u)).run (j : Int) (by omega)
                  rwa [hf j hjk] at h
                have hlk1 : (Instr.lookup 50 (.map (some b)) (.int .i64 (j : Int)) false).run Try.prog wr.drew = .ok (.int .u8 (f j : Nat)) wr.drew := hlk 1
                have HD : Hid (Once (fun _ => False) g b k (200 + 200 * q) f f w wr.drew) := (HJ.out.keep (Kept.refl wr).drew).1
                have hfb : (((f j : Nat) : Int) != ((f j : Nat) : Int)) = false := by simp
                clear hF hf hO HJ
                generalize f j = y at *
                go_wp2_with fail
                go_region_with (go_at_call 21; refine (HOF.out _).mono ?_; rintro e w9 ⟨rfl, hw9⟩; rw [hw9])
                all_goals
                  clear hlk hlk1 HOF
                  go_wp2_with fail
                  go_roundw
                  case rel => exact ⟨j + 1, by omega, by go_num, HD.out⟩
                  case measure => simp [intOf]; omega
              · obtain rfl : j = k := by omega
                have HK9 : Hid (Kept w wr) := HJ.out.kept
                go_wp2_with fail
                refine (works_any _).mono ?_
                rintro e w9 ⟨rfl, hk9⟩
                have K9 : Hid (Kept w w9) := HK9.out.trans hk9
                clear hk9
                go_wp2_with fail
                go_ret
                exact ⟨rfl, K9.out⟩
  · go_wp2_with fail
    refine (works_any _).mono ?_
    rintro e w1 ⟨rfl, hk⟩
    have K1 := Lib.hid hk
    clear hk
    go_wp2_with fail
    go_ret
    exact ⟨rfl, K1.out⟩
end Go.Proofs.Ytleohicgbpebnaa
