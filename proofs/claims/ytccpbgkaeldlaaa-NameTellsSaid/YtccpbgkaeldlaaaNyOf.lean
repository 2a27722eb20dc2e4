/- What the document's own reading answers: Of. -/
import Derived.Test.YtccpbgkaeldlaaaNyOfM
import Derived.Test.YtccpbgkaeldlaaaNyRBytes
import Derived.Test.YtccpbgkaeldlaaaNyRMay2
import Derived.Test.YtccpbgkaeldlaaaNyRead
namespace Go.Proofs.Ytccpbgkaeldlaaa
open Go.RowKit _root_.Go.Proofs.Ytccpbgkaeldlaaa.Nm Ny
set_option linter.unusedVariables false
set_option linter.unusedSimpArgs false
/-- What Of answers. -/
noncomputable def ofV (l : List UInt8) : Value :=
  match decO l with
  | none => .tuple #[Key.none.val, .bool false]
  | some k => .tuple #[k.val, .bool true]
theorem ofV_none {l : List UInt8} (h : decO l = none) : ofV l = .tuple #[Key.none.val, .bool false] := by unfold ofV; rw [h]
theorem ofV_some {l : List UInt8} {k : Key} (h : decO l = some k) : ofV l = .tuple #[k.val, .bool true] := by unfold ofV; rw [h]
theorem KyAt.setOther {w : World} {g b o : Nat} {k : Key} {v : Value} (h : KyAt w g k) (hg : g ≠ b) : KyAt (w.setCell ⟨b, o, none⟩ v) g k := h.frame (Below.heap_setCell _ _ _ _ hg)
theorem ba_at (t : ByteArray) (i : Nat) (h : i < t.size) : t.data.toList[i]! = t[i] := by rw [getElem!_pos _ i (by rw [list_size]; exact h)]; rfl
theorem take_zero_drop (l : List UInt8) (i : Nat) (h : i < l.length) (e : l[i]! = 0) : l = l.take i ++ 0 :: l.drop (i + 1) := by
  conv => lhs; rw [← List.take_append_drop i l]
  rw [List.drop_eq_getElem_cons h]
  rw [getElem!_pos l i h] at e
  rw [e]
theorem nm_same {k : Key} (h : k.nm = ⟨#[]⟩) : ({ k with nm := ⟨([] : List UInt8).toArray⟩ } : Key) = k := by
  obtain ⟨a, b, c, d, e⟩ := k
  subst h
  rfl
set_option maxHeartbeats 8000000 in
set_option maxRecDepth 100000 in
theorem of_any (s : ByteArray) (w : World) (hs : s.size ≤ 1000000) :
    Calls Try.prog 11 #[.string s] w fun e w' => e = .returned (ofV s.data.toList) ∧ Kept w w' := by
  have HN := Lib.hid (KyAt.new w 24)
  have HK := Lib.hid ((Kept.refl w).alloc (.cells #[.int .u8 0, .string ⟨#[]⟩, .string ⟨#[]⟩, .int .u64 0, .int .i64 0] 24))
  have HG0 : Hid (w.heap.size < (w.alloc (.cells #[.int .u8 0, .string ⟨#[]⟩, .string ⟨#[]⟩, .int .u64 0, .int .i64 0] 24)).heap.size) := HN.out.lt
  obtain ⟨dv, hdv⟩ : ∃ d, ofV s.data.toList = d := ⟨_, rfl⟩
  have HOV : Hid ((decO s.data.toList = none → dv = .tuple #[Key.none.val, .bool false]) ∧ ∀ k, decO s.data.toList = some k → dv = .tuple #[k.val, .bool true]) := ⟨fun h => by rw [← hdv]; exact ofV_none h, fun k h => by rw [← hdv]; exact ofV_some h⟩
  rw [hdv]
  clear hdv
  by_cases h0 : s.size = 0
  · obtain rfl : s = ⟨#[]⟩ := ba_nil h0
    have HDV := Lib.hid (HOV.out.1 decO_nil)
    clear h0 hs HOV
    have HP := Lib.hid (HN.out.put Key.none)
    have HKP := Lib.hid (putKy_kept HK.out w.heap.size Key.none (Nat.le_refl _))
    unfold putKy at HP HKP
    obtain ⟨p0, p1, p2, p3, p4, g0, g1, g2, g3, g4⟩ := HN.out
    dsimp only [Key.none] at HP HKP p0 p1 p2 p3 p4
    go_enter Try.func11, Try.ntmps11
    go_upto_region 1 with fail
    generalize w.alloc (.cells #[.int .u8 0, .string ⟨#[]⟩, .string ⟨#[]⟩, .int .u64 0, .int .i64 0] 24) = w0 at *
    go_wp2_with fail
    rw [HDV.out]
    exact bodyPost_ret (v := .tuple #[Key.none.val, .bool false]) (by have q0 := HP.out.c0; have q1 := HP.out.c1; have q2 := HP.out.c2; have q3 := HP.out.c3; have q4 := HP.out.c4; (try simp at q0 q1 q2 q3 q4); simp [results, Try.results11, go_sem, Key.val, Key.none, q0, q1, q2, q3, q4]) rfl ⟨rfl, HKP.out⟩
  · have hpos : 0 < s.size := by omega
    obtain ⟨R0, hl, hll⟩ := list_head s hpos
    have hemp := not_empty s hpos
    obtain ⟨c, hc0⟩ : ∃ c, s[0] = c := ⟨_, rfl⟩
    rw [hc0] at hl
    obtain ⟨t, ht⟩ : ∃ t : ByteArray, (⟨R0.toArray⟩ : ByteArray) = t := ⟨_, rfl⟩
    have htl : t.data.toList = R0 := by rw [← ht]
    have hts : t.size ≤ 1000000 := by rw [← list_size, htl]; omega
    have hsl1 : ∀ W : World, (Instr.slice 9 (.string s) (some (.int .i64 1)) none none).run Try.prog W = .ok (.string t) W := fun W => by
      have h := run_slice_string_l (P := Try.prog) W 9 s Try.underlying9 .i64 1 (by omega) (by omega)
      rw [show (1 : Int).toNat = 1 from rfl, ext_drop, hl] at h
      rw [← ht]
      exact h
    have HRO0 := Lib.hid (Ro.start c R0)
    rw [← hl, ← htl] at HRO0
    have HHB := Lib.hid (fun W => rHasB_any c.toNat W)
    have HHN := Lib.hid (fun W => rHasN_any c.toNat W)
    have HLX := Lib.hid (fun W => KyAt.laid W 24 ⟨c.toNat, ⟨#[]⟩, ⟨#[]⟩, 0, 0⟩)
    have HKX : Hid (∀ W : World, Kept W (W.alloc (.cells #[.int .u8 (c.toNat : Nat), .string ⟨#[]⟩, .string ⟨#[]⟩, .int .u64 0, .int .i64 0] 24))) := fun W => (Kept.refl W).alloc _
    have HSEQ : Hid (∀ k : Key, encL k = s.data.toList ↔ (⟨(encL k).toArray⟩ : ByteArray) = s) := fun k => ⟨fun h => ba_ext h, fun h => by rw [← h]⟩
    have hc256 := c.toNat_lt
    clear htl hl hll h0 ht
    go_enter Try.func11, Try.ntmps11
    go_upto_region 1 with fail
    generalize w.alloc (.cells #[.int .u8 0, .string ⟨#[]⟩, .string ⟨#[]⟩, .int .u64 0, .int .i64 0] 24) = w0 at *
    go_upto_region 4 with fail
    have HX0 : Hid (KyAt (w0.alloc (.cells #[.int .u8 (c.toNat : Nat), .string ⟨#[]⟩, .string ⟨#[]⟩, .int .u64 0, .int .i64 0] 24)) w0.heap.size ⟨c.toNat, ⟨#[]⟩, ⟨#[]⟩, 0, 0⟩) := HLX.out w0
    have HD0 := Lib.hid (HN.out.kept (HKX.out w0))
    have HK0 := Lib.hid (HK.out.trans (HKX.out w0))
    have HNE : Hid (w.heap.size ≠ w0.heap.size ∧ w.heap.size ≤ w0.heap.size) := by have := HG0.out; exact ⟨by omega, by omega⟩
    clear HN HK HG0 HLX HKX
    generalize w0.alloc (.cells #[.int .u8 (c.toNat : Nat), .string ⟨#[]⟩, .string ⟨#[]⟩, .int .u64 0, .int .i64 0] 24) = x0 at *
    generalize w0.heap.size = G at *
    have HALL : Hid (KyAt x0 w.heap.size Key.none ∧ KyAt x0 G ⟨c.toNat, ⟨#[]⟩, ⟨#[]⟩, 0, 0⟩ ∧ Kept w x0 ∧ Ro s.data.toList 0 ⟨c.toNat, ⟨#[]⟩, ⟨#[]⟩, 0, 0⟩ t.data.toList) := ⟨HD0.out, HX0.out, HK0.out, HRO0.out⟩
    have HKD : Hid ((⟨c.toNat, ⟨#[]⟩, ⟨#[]⟩, 0, 0⟩ : Key).kd = c.toNat) := rfl
    clear HD0 HX0 HK0 HRO0
    generalize (⟨c.toNat, ⟨#[]⟩, ⟨#[]⟩, 0, 0⟩ : Key) = k at *
    generalize c.toNat = kd at *
    obtain ⟨c0, c1, c2, c3, c4, f0, f1, f2, f3, f4⟩ := HALL.out.2.1
    rw [HKD.out] at c0
    go_upto_if 18 with (go_at_call 31; refine (HHB.out _).mono ?_; rintro e y1 ⟨rfl, hy⟩; replace hy := hy.symm; subst hy)
    go_cut [5, 6, 18] from 19 to 43 (fun rv iv bv wx => ∃ (k : Key) (t : ByteArray), rv = .string t ∧ t.size ≤ 1000000 ∧ Hid (k.kd = kd) ∧ Hid (KyAt wx w.heap.size Key.none ∧ KyAt wx G k ∧ Kept w wx ∧ Ro s.data.toList 1 k t.data.toList))
    case first =>
      cases hf : hasB kd
      · have HR := Lib.hid (HALL.out.2.2.2.skip1 (by rw [HKD.out]; exact hf))
        clear hf
        go_wp2_with fail
        go_meet
        exact ⟨k, t, rfl, hts, HKD.out, HALL.out.1, HALL.out.2.1, HALL.out.2.2.1, HR.out⟩
      · have HFK : Hid (hasB k.kd = true) := by show _ = _; rw [HKD.out]; exact hf
        have HTL := Lib.hid (list_size t)
        clear hf hsl1 hemp hc0
        go_wp2_with fail
        go_loopw [6] (fun i wr => ∃ j : Nat, j ≤ t.size ∧ i = .int .i64 j ∧ Hid (∀ m, m < j → t.data.toList[m]! ≠ 0) ∧ wr = x0) (fun i _ => t.size - (intOf i).toNat)
        case atStart => exact ⟨0, Nat.zero_le _, rfl, fun m h => absurd h (Nat.not_lt_zero _), rfl⟩
        case round =>
          obtain ⟨j, hj, rfl, HI, rfl⟩ := hrel
          by_cases hlt : j < t.size
          · have b1 : decide ((j : Int) < t.size) = true := decide_eq_true (by omega)
            obtain ⟨y, hy⟩ : ∃ y, t[j] = y := ⟨_, rfl⟩
            have HY : Hid (t.data.toList[j]! = y) := by show _ = _; rw [ba_at t j hlt, hy]
            by_cases hz : y = 0
            · have q1 : (((y.toNat : Nat) : Int) != 0) = false := by rw [hz]; rfl
              have HSP := Lib.hid (take_zero_drop t.data.toList j (by rw [list_size]; exact hlt) (by rw [HY.out]; exact hz))
              have hnz : ∀ x ∈ t.data.toList.take j, x ≠ 0 := fun x hx => by
                obtain ⟨m, hm, rfl⟩ := List.getElem_of_mem hx
                rw [List.length_take, list_size] at hm
                have := HI.out m (by omega)
                rw [getElem!_pos _ m (by rw [list_size]; omega)] at this
                rwa [List.getElem_take]
              have HR0 := HALL.out.2.2.2
              rw [HSP.out] at HR0
              have HR := Lib.hid (HR0.yes1 HFK.out hnz (by rw [List.length_take, list_size]; omega))
              have q2 : ((j : Int) == (t.size : Int)) = false := beq_eq_false_iff_ne.2 (by omega)
              obtain ⟨u, hu⟩ : ∃ u : ByteArray, (⟨(t.data.toList.drop (j + 1)).toArray⟩ : ByteArray) = u := ⟨_, rfl⟩
              have hul : u.data.toList = t.data.toList.drop (j + 1) := by rw [← hu]
              have HUS : Hid (u.size ≤ 1000000) := by show _ ≤ _; rw [← list_size, hul, List.length_drop, list_size]; omega
              rw [← hul] at HR
              have hsa : ∀ W : World, (Instr.slice 9 (.string t) none (some (.int .i64 (j : Int))) none).run Try.prog W = .ok (.string ⟨(t.data.toList.take j).toArray⟩) W := fun W => by
                have h := run_slice_string_h (P := Try.prog) W 9 t Try.underlying9 .i64 (j : Int) (by omega) (by omega)
                rw [Int.toNat_natCast, ext_take] at h
                exact h
              have hsb : ∀ W : World, (Instr.slice 9 (.string t) (some (.int .i64 ((j : Int) + 1))) none none).run Try.prog W = .ok (.string u) W := fun W => by
                have h := run_slice_string_l (P := Try.prog) W 9 t Try.underlying9 .i64 ((j : Int) + 1) (by omega) (by omega)
                rw [show ((j : Int) + 1).toNat = j + 1 by omega, ext_drop, hu] at h
                exact h
              have HBT : Hid (({ k with bk := ⟨(t.data.toList.take j).toArray⟩ } : Key).kd = kd) := HKD.out
              clear hnz HR0 HSP hul hu hz HI
              go_wp2_with fail
              go_meet
              exact ⟨{ k with bk := ⟨(t.data.toList.take j).toArray⟩ }, u, rfl, HUS.out, HBT.out, HALL.out.1.setOther HNE.out.1, HALL.out.2.1.set1 _, HALL.out.2.2.1.setCell HNE.out.2 _, HR.out⟩
            · have q1 : (((y.toNat : Nat) : Int) != 0) = true := by rw [bne_iff_ne]; have := pos_nat hz; omega
              have HI2 : Hid (∀ m, m < j + 1 → t.data.toList[m]! ≠ 0) := fun m hm => by
                by_cases e : m = j
                · rw [e, HY.out]; exact hz
                · exact HI.out m (by omega)
              clear hz HI
              go_wp2_with fail
              go_roundw
              case rel => exact ⟨j + 1, by omega, by go_num, HI2.out, by first | rfl | trivial⟩
              case measure => simp [intOf]; omega
          · have b1 : decide ((j : Int) < t.size) = false := decide_eq_false (by omega)
            have q2 : ((j : Int) == (t.size : Int)) = true := by rw [beq_iff_eq]; omega
            have HDV := Lib.hid (HOV.out.1 (HALL.out.2.2.2.no1 HFK.out (fun x hx => by
              obtain ⟨m, hm, rfl⟩ := List.getElem_of_mem hx
              rw [list_size] at hm
              have := HI.out m (by omega)
              rwa [getElem!_pos _ m (by rw [list_size]; omega)] at this)))
            have HD := Lib.hid HALL.out.1
            have HKK := Lib.hid HALL.out.2.2.1
            clear HI HOV HALL
            have HP := Lib.hid (HD.out.put Key.none)
            have HKP := Lib.hid (putKy_kept HKK.out w.heap.size Key.none (Nat.le_refl _))
            unfold putKy at HP HKP
            obtain ⟨p0, p1, p2, p3, p4, g0, g1, g2, g3, g4⟩ := HD.out
            dsimp only [Key.none] at HP HKP p0 p1 p2 p3 p4
            go_wp2_with fail
            rw [HDV.out]
            exact bodyPost_ret (v := .tuple #[Key.none.val, .bool false]) (by have q0 := HP.out.c0; have q1 := HP.out.c1; have q2 := HP.out.c2; have q3 := HP.out.c3; have q4 := HP.out.c4; (try simp at q0 q1 q2 q3 q4); simp [results, Try.results11, go_sem, Key.val, Key.none, q0, q1, q2, q3, q4]) rfl ⟨rfl, HKP.out⟩
    case rest =>
    clear HALL HKD hts hsl1 hemp hc0 hs hpos c0 c1 c2 c3 c4 f0 f1 f2 f3 f4
    obtain ⟨k, t, rfl, hts, HKD, HALL⟩ := hcut
    generalize wc = x1 at *
    obtain ⟨c0, c1, c2, c3, c4, f0, f1, f2, f3, f4⟩ := HALL.out.2.1
    rw [HKD.out] at c0
    go_upto_if 46 with fail
    go_cut [5, 7, 46] from 47 to 88 (fun rv iv bv wx => ∃ (k : Key) (t : ByteArray), rv = .string t ∧ t.size ≤ 1000000 ∧ Hid (k.kd = kd) ∧ Hid (KyAt wx w.heap.size Key.none ∧ KyAt wx G k ∧ Kept w wx ∧ Ro s.data.toList 2 k t.data.toList))
    case first =>
      by_cases hf : kd = 3
      · have q0 : ((kd : Int) == 3) = true := by rw [hf]; rfl
        have HFK : Hid (hasM k.kd = true) := by show _ = _; rw [HKD.out, hf]; rfl
        have HSTART : Hid (KyAt x1 w.heap.size Key.none ∧ KyAt x1 G { k with nm := ⟨([] : List UInt8).toArray⟩ } ∧ Kept w x1 ∧ Nam t.data.toList [] 0) := ⟨HALL.out.1, by rw [nm_same (HALL.out.2.2.2.z2 (by omega))]; exact HALL.out.2.1, HALL.out.2.2.1, Nam.start _⟩
        have HTL := Lib.hid (list_size t)
        have HRO := Lib.hid HALL.out.2.2.2
        rw [q0]
        clear q0 hf c0 c1 c2 c3 c4 f0 f1 f2 f3 f4 HALL
        go_wp2_with fail
        go_loopw [7] (fun i wr => ∃ (j : Nat) (q : List UInt8), j ≤ t.size ∧ q.length ≤ j ∧ i = .int .i64 j ∧ Hid (KyAt wr w.heap.size Key.none ∧ KyAt wr G { k with nm := ⟨q.toArray⟩ } ∧ Kept w wr ∧ Nam t.data.toList q j)) (fun i _ => t.size - (intOf i).toNat)
        case atStart => exact ⟨0, [], Nat.zero_le _, Nat.le_refl _, rfl, HSTART.out⟩
        case round =>
          obtain ⟨j, q, hj, hqj, rfl, HI⟩ := hrel
          have hw1 : IntKind.i64.wrap ((j : Int) + 1) = (j : Int) + 1 := IntWalk.i64_in _ (by omega)
          have hw2 : IntKind.i64.wrap ((j : Int) + 1 + 1) = (j : Int) + 2 := by rw [IntWalk.i64_in _ (by omega)]; omega
          have hw3 : IntKind.i64.wrap ((j : Int) + 2) = (j : Int) + 2 := IntWalk.i64_in _ (by omega)
          by_cases hlt : j + 1 < t.size
          · have b1 : decide ((j : Int) + 1 < t.size) = true := decide_eq_true (by omega)
            have hj1 : j < t.size := by omega
            obtain ⟨x, hx⟩ : ∃ x, t[j] = x := ⟨_, rfl⟩
            obtain ⟨y, hy⟩ : ∃ y, t[j + 1] = y := ⟨_, rfl⟩
            have HX : Hid (t.data.toList[j]! = x) := by show _ = _; rw [ba_at t j hj1, hx]
            have HY : Hid (t.data.toList[j + 1]! = y) := by show _ = _; rw [ba_at t (j + 1) hlt, hy]
            have hsl : ∀ W : World, (Instr.slice 9 (.string t) (some (.int .i64 (j : Int))) (some (.int .i64 ((j : Int) + 1))) none).run Try.prog W = .ok (.string ⟨#[x]⟩) W := fun W => by
              have h := run_slice_string (P := Try.prog) W 9 t .i64 .i64 (j : Int) ((j : Int) + 1) Try.underlying9 (by omega) (by omega) (by omega)
              have e : t.extract (j : Int).toNat ((j : Int) + 1).toNat = ⟨#[x]⟩ := by
                apply ba_ext
                rw [Int.toNat_natCast, show ((j : Int) + 1).toNat = j + 1 by omega]
                simp only [ByteArray.data_extract, Array.toList_extract, List.extract_eq_take_drop]
                rw [show j + 1 - j = 1 by omega, List.drop_eq_getElem_cons (by rw [HTL.out]; exact hj1)]
                have := HX.out
                rw [getElem!_pos t.data.toList j (by rw [HTL.out]; exact hj1)] at this
                rw [this]
                rfl
              rw [e] at h
              exact h
            have hadd := fun W => add_strN ⟨q.toArray⟩ ⟨#[x]⟩ (q ++ [x]) rfl (by rw [List.length_append]; simp; omega) W
            obtain ⟨c0, c1, c2, c3, c4, f0, f1, f2, f3, f4⟩ := HI.out.2.1
            dsimp only at c2
            by_cases hz : x = 0
            · have q1 : (((x.toNat : Nat) : Int) != 0) = false := by rw [hz]; rfl
              have q3 : (((x.toNat : Nat) : Int) == 0) = true := by rw [hz]; rfl
              by_cases hv : y = 255
              · have q2 : (((y.toNat : Nat) : Int) == 255) = true := by rw [hv]; rfl
                have HN2 : Hid (Nam t.data.toList (q ++ [x]) (j + 2)) := by
                  have := HI.out.2.2.2.step (.inr (by rw [HY.out]; exact hv))
                  rw [HX.out, if_pos hz] at this
                  exact this
                clear hz hv
                obtain ⟨wd, hwd⟩ : ∃ wd, wr.drew = wd := ⟨_, rfl⟩
                have hkd : Kept wr wd := by rw [← hwd]; exact (Kept.refl _).drew
                have HD1 := Lib.hid (HI.out.1.kept hkd)
                have HX1 := Lib.hid (HI.out.2.1.kept hkd)
                have HK1 := Lib.hid (HI.out.2.2.1.trans hkd)
                clear hkd HI
                obtain ⟨d0, d1, d2, d3, d4, e0, e1, e2, e3, e4⟩ := HX1.out
                dsimp only at d2
                go_wp2_with fail
                go_region
                all_goals
                  go_wp2_with fail
                  go_roundw
                  case rel => exact ⟨j + 2, q ++ [x], by omega, by rw [List.length_append]; simp; omega, by go_num, HD1.out.setOther HNE.out.1, HX1.out.set2 ⟨(q ++ [x]).toArray⟩, HK1.out.setCell HNE.out.2 _, HN2.out⟩
                  case measure => simp [intOf]; omega
              · have q2 : (((y.toNat : Nat) : Int) == 255) = false := beq_eq_false_iff_ne.2 (fun e => hv (UInt8.toNat_inj.1 (by show y.toNat = 255; omega)))
                have HEND := Lib.hid (HRO.out.yes2 HFK.out HI.out.2.2.2 (fun h => by
                  rcases h.2 with h | h
                  · exact h (by rw [HX.out]; exact hz)
                  · exact hv (by rw [← HY.out]; exact h)) (by omega))
                clear hz hv hsl hadd
                obtain ⟨u, hu⟩ : ∃ u : ByteArray, (⟨(t.data.toList.drop (min (j + 2) t.data.toList.length)).toArray⟩ : ByteArray) = u := ⟨_, rfl⟩
                have hul : u.data.toList = t.data.toList.drop (min (j + 2) t.data.toList.length) := by rw [← hu]
                have HUS : Hid (u.size ≤ 1000000) := by show _ ≤ _; rw [← list_size, hul, List.length_drop, HTL.out]; omega
                rw [← hul] at HEND
                have hsb : ∀ W : World, (Instr.slice 9 (.string t) (some (.int .i64 (min ((j : Int) + 2) (t.size : Int)))) none none).run Try.prog W = .ok (.string u) W := fun W => by
                  have h := run_slice_string_l (P := Try.prog) W 9 t Try.underlying9 .i64 (min ((j : Int) + 2) (t.size : Int)) (by omega) (by omega)
                  rw [ext_drop, show (min ((j : Int) + 2) (t.size : Int)).toNat = min (j + 2) t.data.toList.length by rw [HTL.out]; omega, hu] at h
                  exact h
                have HKD2 : Hid (({ k with nm := ⟨q.toArray⟩ } : Key).kd = kd) := HKD.out
                clear hu hul
                go_wp2_with fail
                go_meet
                exact ⟨{ k with nm := ⟨q.toArray⟩ }, u, rfl, HUS.out, HKD2.out, HI.out.1, HI.out.2.1, HI.out.2.2.1, HEND.out⟩
            · have q1 : (((x.toNat : Nat) : Int) != 0) = true := by rw [bne_iff_ne]; have := pos_nat hz; omega
              have q3 : (((x.toNat : Nat) : Int) == 0) = false := beq_eq_false_iff_ne.2 (by have := pos_nat hz; omega)
              have HN2 : Hid (Nam t.data.toList (q ++ [x]) (j + 1)) := by
                have := HI.out.2.2.2.step (.inl (by rw [HX.out]; exact hz))
                rw [HX.out, if_neg hz] at this
                exact this
              clear hz
              obtain ⟨wd, hwd⟩ : ∃ wd, wr.drew = wd := ⟨_, rfl⟩
              have hkd : Kept wr wd := by rw [← hwd]; exact (Kept.refl _).drew
              have HD1 := Lib.hid (HI.out.1.kept hkd)
              have HX1 := Lib.hid (HI.out.2.1.kept hkd)
              have HK1 := Lib.hid (HI.out.2.2.1.trans hkd)
              clear hkd HI
              obtain ⟨d0, d1, d2, d3, d4, e0, e1, e2, e3, e4⟩ := HX1.out
              dsimp only at d2
              go_wp2_with fail
              go_region
              all_goals
                go_wp2_with fail
                go_roundw
                case rel => exact ⟨j + 1, q ++ [x], by omega, by rw [List.length_append]; simp; omega, by go_num, HD1.out.setOther HNE.out.1, HX1.out.set2 ⟨(q ++ [x]).toArray⟩, HK1.out.setCell HNE.out.2 _, HN2.out⟩
                case measure => simp [intOf]; omega
          · have b1 : decide ((j : Int) + 1 < t.size) = false := decide_eq_false (by omega)
            have HEND := Lib.hid (HRO.out.yes2 HFK.out HI.out.2.2.2 (fun h => hlt (by have := h.1; rw [HTL.out] at this; exact this)) (by omega))
            obtain ⟨c0, c1, c2, c3, c4, f0, f1, f2, f3, f4⟩ := HI.out.2.1
            obtain ⟨u, hu⟩ : ∃ u : ByteArray, (⟨(t.data.toList.drop (min (j + 2) t.data.toList.length)).toArray⟩ : ByteArray) = u := ⟨_, rfl⟩
            have hul : u.data.toList = t.data.toList.drop (min (j + 2) t.data.toList.length) := by rw [← hu]
            have HUS : Hid (u.size ≤ 1000000) := by show _ ≤ _; rw [← list_size, hul, List.length_drop, HTL.out]; omega
            rw [← hul] at HEND
            have hsb : ∀ W : World, (Instr.slice 9 (.string t) (some (.int .i64 (min ((j : Int) + 2) (t.size : Int)))) none none).run Try.prog W = .ok (.string u) W := fun W => by
              have h := run_slice_string_l (P := Try.prog) W 9 t Try.underlying9 .i64 (min ((j : Int) + 2) (t.size : Int)) (by omega) (by omega)
              rw [ext_drop, show (min ((j : Int) + 2) (t.size : Int)).toNat = min (j + 2) t.data.toList.length by rw [HTL.out]; omega, hu] at h
              exact h
            have HKD2 : Hid (({ k with nm := ⟨q.toArray⟩ } : Key).kd = kd) := HKD.out
            clear hu hul
            go_wp2_with fail
            go_meet
            exact ⟨{ k with nm := ⟨q.toArray⟩ }, u, rfl, HUS.out, HKD2.out, HI.out.1, HI.out.2.1, HI.out.2.2.1, HEND.out⟩
      · have q0 : ((kd : Int) == 3) = false := beq_eq_false_iff_ne.2 (by omega)
        have HR := Lib.hid (HALL.out.2.2.2.skip2 (by rw [HKD.out]; unfold hasM; exact decide_eq_false hf))
        clear hf
        go_wp2_with fail
        go_meet
        exact ⟨k, t, rfl, hts, HKD.out, HALL.out.1, HALL.out.2.1, HALL.out.2.2.1, HR.out⟩
    case rest =>
    clear HALL HKD hts c0 c1 c2 c3 c4 f0 f1 f2 f3 f4
    obtain ⟨k, t, rfl, hts, HKD, HALL⟩ := hcut
    generalize wc = x2 at *
    obtain ⟨c0, c1, c2, c3, c4, f0, f1, f2, f3, f4⟩ := HALL.out.2.1
    rw [HKD.out] at c0
    have HTL := Lib.hid (list_size t)
    go_upto_if 91 with (go_at_call 32; refine (HHN.out _).mono ?_; rintro e y1 ⟨rfl, hy⟩; replace hy := hy.symm; subst hy)
    go_cut [5, 91] from 92 to 107 (fun rv bv wx => ∃ (k : Key) (t : ByteArray), rv = .string t ∧ t.size ≤ 1000000 ∧ Hid (k.kd = kd) ∧ Hid (KyAt wx w.heap.size Key.none ∧ KyAt wx G k ∧ Kept w wx ∧ Ro s.data.toList 3 k t.data.toList))
    case first =>
      cases hf : hasN kd
      · have HR := Lib.hid (HALL.out.2.2.2.skip3 (by rw [HKD.out]; exact hf))
        clear hf
        go_wp2_with fail
        go_meet
        exact ⟨k, t, rfl, hts, HKD.out, HALL.out.1, HALL.out.2.1, HALL.out.2.2.1, HR.out⟩
      · have HFK : Hid (hasN k.kd = true) := by show _ = _; rw [HKD.out]; exact hf
        clear hf
        by_cases h8 : t.size < 8
        · have HDV := Lib.hid (HOV.out.1 (HALL.out.2.2.2.no3 HFK.out (by rw [HTL.out]; exact h8)))
          have HD := Lib.hid HALL.out.1
          have HKK := Lib.hid HALL.out.2.2.1
          clear HOV HALL c0 c1 c2 c3 c4 f0 f1 f2 f3 f4
          have HP := Lib.hid (HD.out.put Key.none)
          have HKP := Lib.hid (putKy_kept HKK.out w.heap.size Key.none (Nat.le_refl _))
          unfold putKy at HP HKP
          obtain ⟨p0, p1, p2, p3, p4, g0, g1, g2, g3, g4⟩ := HD.out
          dsimp only [Key.none] at HP HKP p0 p1 p2 p3 p4
          go_wp2_with fail
          rw [HDV.out]
          exact bodyPost_ret (v := .tuple #[Key.none.val, .bool false]) (by have q0 := HP.out.c0; have q1 := HP.out.c1; have q2 := HP.out.c2; have q3 := HP.out.c3; have q4 := HP.out.c4; (try simp at q0 q1 q2 q3 q4); simp [results, Try.results11, go_sem, Key.val, Key.none, q0, q1, q2, q3, q4]) rfl ⟨rfl, HKP.out⟩
        · have HNU := Lib.hid (fun W => rNumber_any t W (by omega) hts)
          have HR := Lib.hid (HALL.out.2.2.2.yes3 HFK.out (by rw [HTL.out]; omega))
          have HVL : Hid (val (t.data.toList.take 8) < 18446744073709551616) := val_256 _ 8 (by rw [List.length_take, HTL.out]; omega)
          obtain ⟨u, hu⟩ : ∃ u : ByteArray, (⟨(t.data.toList.drop 8).toArray⟩ : ByteArray) = u := ⟨_, rfl⟩
          have hul : u.data.toList = t.data.toList.drop 8 := by rw [← hu]
          have HUS : Hid (u.size ≤ 1000000) := by show _ ≤ _; rw [← list_size, hul, List.length_drop, HTL.out]; omega
          rw [← hul] at HR
          have hsb : ∀ W : World, (Instr.slice 9 (.string t) (some (.int .i64 8)) none none).run Try.prog W = .ok (.string u) W := fun W => by
            have h := run_slice_string_l (P := Try.prog) W 9 t Try.underlying9 .i64 8 (by omega) (by omega)
            rw [show (8 : Int).toNat = 8 from rfl, ext_drop, hu] at h
            exact h
          rw [show tn k.kd (val (t.data.toList.take 8)) = tn kd (val (t.data.toList.take 8)) by rw [HKD.out]] at HR
          generalize val (t.data.toList.take 8) = x at *
          clear hul hu
          by_cases h3 : kd = 3
          · have q3 : ((kd : Int) == 3) = true := by rw [h3]; rfl
            have HTN : Hid (tn kd x = 18446744073709551615 - x) := by show _ = _; unfold tn; rw [if_pos h3]
            have hxs : (18446744073709551615 : Int) - (x : Int) = ((18446744073709551615 - x : Nat) : Int) := by have := HVL.out; omega
            have hxw : IntKind.u64.wrap (((18446744073709551615 - x : Nat)) : Int) = ((18446744073709551615 - x : Nat) : Int) := IntWalk.u64_in _ (by omega)
            rw [HTN.out] at HR
            have HKD2 : Hid (({ k with n := 18446744073709551615 - x } : Key).kd = kd) := HKD.out
            have HXX : Hid (KyAt ((x2.setCell ⟨G, 3, none⟩ (.int .u64 (x : Nat))).setCell ⟨G, 3, none⟩ (.int .u64 ((18446744073709551615 - x : Nat) : Nat))) G { k with n := 18446744073709551615 - x }) := (HALL.out.2.1.set3 x).set3 (18446744073709551615 - x)
            clear h3 HTN
            generalize 18446744073709551615 - x = y at *
            go_wp2_with (go_at_call 33; refine (HNU.out _).mono ?_; rintro e y1 ⟨rfl, hy⟩; replace hy := hy.symm; subst hy)
            go_meet
            exact ⟨{ k with n := y }, u, rfl, HUS.out, HKD2.out, (HALL.out.1.setOther HNE.out.1).setOther HNE.out.1, HXX.out, (HALL.out.2.2.1.setCell HNE.out.2 _).setCell HNE.out.2 _, HR.out⟩
          · have q3 : ((kd : Int) == 3) = false := beq_eq_false_iff_ne.2 (by omega)
            have HTN : Hid (tn kd x = x) := by show _ = _; unfold tn; rw [if_neg h3]
            rw [HTN.out] at HR
            have HKD2 : Hid (({ k with n := x } : Key).kd = kd) := HKD.out
            clear h3 HTN
            go_wp2_with (go_at_call 33; refine (HNU.out _).mono ?_; rintro e y1 ⟨rfl, hy⟩; replace hy := hy.symm; subst hy)
            go_meet
            exact ⟨{ k with n := x }, u, rfl, HUS.out, HKD2.out, HALL.out.1.setOther HNE.out.1, HALL.out.2.1.set3 x, HALL.out.2.2.1.setCell HNE.out.2 _, HR.out⟩
    case rest =>
    clear HALL HKD hts c0 c1 c2 c3 c4 f0 f1 f2 f3 f4 HTL
    obtain ⟨k, t, rfl, hts, HKD, HALL⟩ := hcut
    generalize wc = x3 at *
    obtain ⟨c0, c1, c2, c3, c4, f0, f1, f2, f3, f4⟩ := HALL.out.2.1
    rw [HKD.out] at c0
    have HTL := Lib.hid (list_size t)
    go_upto_region 28 with fail
    go_cut [115] from 108 to 115 (fun v wx => v = .bool (decide (kd = 5) && decide (t.size = 2)) ∧ wx = x3)
    case first =>
      by_cases h5 : kd = 5
      · have q5 : ((kd : Int) == 5) = true := by rw [h5]; rfl
        have e5 : decide (kd = 5) = true := decide_eq_true h5
        have e6 : ((t.size : Int) == 2) = decide (t.size = 2) := by rw [Bool.eq_iff_iff, beq_iff_eq, decide_eq_true_eq]; omega
        clear h5
        go_wp2_with fail
        go_meet
        exact ⟨by rw [e5]; first | rfl | (rw [e6]; rfl) | simp, by first | rfl | trivial⟩
      · have q5 : ((kd : Int) == 5) = false := beq_eq_false_iff_ne.2 (by omega)
        have e5 : decide (kd = 5) = false := decide_eq_false h5
        clear h5
        go_wp2_with fail
        go_meet
        exact ⟨by rw [e5]; first | rfl | (rw [e6]; rfl) | simp, by first | rfl | trivial⟩
    case rest =>
    obtain ⟨rfl, hx⟩ := hcut
    replace hx := hx.symm
    subst hx
    go_upto_if 115 with fail
    go_cut [115] from 116 to 124 (fun bv wx => ∃ k : Key, Hid (KyAt wx w.heap.size Key.none ∧ KyAt wx G k ∧ Kept w wx ∧ k.Wf ∧ ∀ k0, Dec s.data.toList k0 → k0 = k))
    case first =>
      by_cases hb : kd = 5 ∧ t.size = 2
      · have e5 : (decide (kd = 5) && decide (t.size = 2)) = true := by rw [decide_eq_true hb.1, decide_eq_true hb.2]; rfl
        rw [e5]
        have h1 : 0 < t.size := by omega
        have h2 : 1 < t.size := by omega
        obtain ⟨x, hx⟩ : ∃ x, t[0] = x := ⟨_, rfl⟩
        obtain ⟨y, hy⟩ : ∃ y, t[1] = y := ⟨_, rfl⟩
        have htl : t.data.toList = [x, y] := by
          obtain ⟨l, hl, hll⟩ := list_head t h1
          rw [hx] at hl
          match l, hll, hl with
          | [z], _, hl =>
            have h3 := ba_at t 1 h2
            rw [hl, hy] at h3
            rw [hl, ← h3]
            rfl
          | [], hll, _ => rw [hb.2] at hll; cases hll
          | _ :: _ :: _, hll, _ => rw [hb.2] at hll; simp at hll
        have HR0 := HALL.out.2.2.2
        rw [htl] at HR0
        have HR := Lib.hid (HR0.yes4 (by rw [HKD.out, hb.1]; rfl))
        have hxl := x.toNat_lt
        have hyl := y.toNat_lt
        have HWF : Hid (({ k with pt := ((x.toNat * 256 + y.toNat : Nat) : Int) } : Key).Wf) := ⟨HR0.wf.kd, HR0.wf.bk, HR0.wf.nm, HR0.wf.n, by show _ ≤ ((x.toNat * 256 + y.toNat : Nat) : Int); omega, by show ((x.toNat * 256 + y.toNat : Nat) : Int) ≤ _; omega⟩
        have HPV : Hid (((x.toNat * 256 + y.toNat : Nat) : Int) = (x.toNat : Int) * 256 + (y.toNat : Int)) := by show _ = _; omega
        obtain ⟨wd, hwd⟩ : ∃ wd, x3.drew = wd := ⟨_, rfl⟩
        have hkd : Kept x3 wd := by rw [← hwd]; exact (Kept.refl _).drew
        have HD1 := Lib.hid (HALL.out.1.kept hkd)
        have HX1 := Lib.hid (HALL.out.2.1.kept hkd)
        have HK1 := Lib.hid (HALL.out.2.2.1.trans hkd)
        clear hkd HALL c0 c1 c2 c3 c4 f0 f1 f2 f3 f4 HR0 htl e5 hb
        obtain ⟨d0, d1, d2, d3, d4, e0, e1, e2, e3, e4⟩ := HX1.out
        go_wp2_with fail
        go_region
        all_goals
          go_wp2_with fail
          go_meet
          exact ⟨{ k with pt := ((x.toNat * 256 + y.toNat : Nat) : Int) }, HD1.out.setOther HNE.out.1, by rw [← HPV.out]; exact HX1.out.set4 _, HK1.out.setCell HNE.out.2 _, HWF.out, HR.out⟩
      · have e5 : (decide (kd = 5) && decide (t.size = 2)) = false := by
          rw [Bool.and_eq_false_iff, decide_eq_false_iff_not, decide_eq_false_iff_not]
          omega
        rw [e5]
        have HR := Lib.hid (HALL.out.2.2.2.skip4 (by
          by_cases h5 : kd = 5
          · right; rw [HTL.out]; omega
          · left; rw [HKD.out]; unfold hasP; exact decide_eq_false h5))
        clear e5 hb
        go_wp2_with fail
        go_meet
        exact ⟨k, HALL.out.1, HALL.out.2.1, HALL.out.2.2.1, HALL.out.2.2.2.wf, HR.out⟩
    case rest =>
    clear HALL HKD hts c0 c1 c2 c3 c4 f0 f1 f2 f3 f4 HTL
    obtain ⟨k, HALL⟩ := hcut
    generalize wc = x4 at *
    have HEND := Lib.hid (of_end HALL.out.2.2.2.1 HALL.out.2.2.2.2)
    have HM := Lib.hid (fun W => rMay_any k W HALL.out.2.2.2.1)
    have HD := Lib.hid HALL.out.1
    have HX := Lib.hid HALL.out.2.1
    have HKK := Lib.hid HALL.out.2.2.1
    have HWF := HALL.out.2.2.2.1
    clear HALL
    by_cases hm : mayK k = true
    · have HB := Lib.hid (fun W => rBytes_any k W HWF hm)
      rw [hm] at HM
      obtain ⟨E9, hE9⟩ : ∃ b : ByteArray, (⟨(encL k).toArray⟩ : ByteArray) = b := ⟨_, rfl⟩
      rw [hE9] at HB
      by_cases he : E9 = s
      · have HDV := Lib.hid (HOV.out.2 k (by rw [HEND.out, if_pos ⟨hm, (HSEQ.out k).2 (by rw [hE9]; exact he)⟩]))
        have hse : (s.toList == s.toList) = true := by simp
        rw [he] at HB
        clear HEND hE9 hm HWF HOV HSEQ he
        obtain ⟨kd1, bk, nm, n, pt⟩ := k
        unfold Key.val at *
        dsimp only at *
        obtain ⟨c0, c1, c2, c3, c4, f0, f1, f2, f3, f4⟩ := HX.out
        go_wp2_with fail
        refine (HM.out _).mono ?_
        rintro e y1 ⟨rfl, hk1⟩
        have HX1 := Lib.hid (HX.out.kept hk1)
        have HD1 := Lib.hid (HD.out.kept hk1)
        have HK1 := Lib.hid (HKK.out.trans hk1)
        clear hk1 c0 c1 c2 c3 c4 f0 f1 f2 f3 f4 HX HD HKK HM
        obtain ⟨c0, c1, c2, c3, c4, f0, f1, f2, f3, f4⟩ := HX1.out
        go_wp2_with fail
        refine (HB.out _).mono ?_
        rintro e y2 ⟨rfl, hk2⟩
        have HX2 := Lib.hid (HX1.out.kept hk2)
        have HD2 := Lib.hid (HD1.out.kept hk2)
        have HK2 := Lib.hid (HK1.out.trans hk2)
        clear hk2 c0 c1 c2 c3 c4 f0 f1 f2 f3 f4 HX1 HD1 HK1 HB
        have HP := Lib.hid (HD2.out.put ⟨kd1, bk, nm, n, pt⟩)
        have HKP := Lib.hid (putKy_kept HK2.out w.heap.size ⟨kd1, bk, nm, n, pt⟩ (Nat.le_refl _))
        unfold putKy at HP HKP
        obtain ⟨p0, p1, p2, p3, p4, g0, g1, g2, g3, g4⟩ := HD2.out
        obtain ⟨c0, c1, c2, c3, c4, _, _, _, _, _⟩ := HX2.out
        dsimp only [Key.none] at HP HKP p0 p1 p2 p3 p4 c0 c1 c2 c3 c4
        have hne := HNE.out.1
        have hoff : ∀ (W : World) o o' v, (W.setCell ⟨w.heap.size, o', none⟩ v).cell? ⟨G, o, none⟩ = W.cell? ⟨G, o, none⟩ := fun W o o' v => World.cell?_setCell_other _ _ _ _ (by intro e; injection e with e; exact hne e)
        go_wp2_with fail
        rw [HDV.out]
        exact bodyPost_ret (v := .tuple #[.agg #[.int .u8 (kd1 : Nat), .string bk, .string nm, .int .u64 (n : Nat), .int .i64 pt], .bool true]) (by have q0 := HP.out.c0; have q1 := HP.out.c1; have q2 := HP.out.c2; have q3 := HP.out.c3; have q4 := HP.out.c4; (try simp at q0 q1 q2 q3 q4); simp [results, Try.results11, go_sem, q0, q1, q2, q3, q4]) rfl ⟨rfl, HKP.out⟩
      · have HDV := Lib.hid (HOV.out.1 (by rw [HEND.out, if_neg (fun h => he (by rw [← hE9]; exact (HSEQ.out k).1 h.2))]))
        have hse : (E9.toList == s.toList) = false := by
          rw [beq_eq_false_iff_ne, ByteArray.toList_eq, ByteArray.toList_eq]
          exact fun h => he (ba_ext h)
        clear HEND hE9 hm HWF HOV HSEQ he
        obtain ⟨kd1, bk, nm, n, pt⟩ := k
        unfold Key.val at *
        dsimp only at *
        obtain ⟨c0, c1, c2, c3, c4, f0, f1, f2, f3, f4⟩ := HX.out
        go_wp2_with fail
        refine (HM.out _).mono ?_
        rintro e y1 ⟨rfl, hk1⟩
        have HX1 := Lib.hid (HX.out.kept hk1)
        have HD1 := Lib.hid (HD.out.kept hk1)
        have HK1 := Lib.hid (HKK.out.trans hk1)
        clear hk1 c0 c1 c2 c3 c4 f0 f1 f2 f3 f4 HX HD HKK HM
        obtain ⟨c0, c1, c2, c3, c4, f0, f1, f2, f3, f4⟩ := HX1.out
        go_wp2_with fail
        refine (HB.out _).mono ?_
        rintro e y2 ⟨rfl, hk2⟩
        have HD2 := Lib.hid (HD1.out.kept hk2)
        have HK2 := Lib.hid (HK1.out.trans hk2)
        clear hk2 c0 c1 c2 c3 c4 f0 f1 f2 f3 f4 HX1 HD1 HK1 HB
        have HP := Lib.hid (HD2.out.put Key.none)
        have HKP := Lib.hid (putKy_kept HK2.out w.heap.size Key.none (Nat.le_refl _))
        unfold putKy at HP HKP
        obtain ⟨p0, p1, p2, p3, p4, g0, g1, g2, g3, g4⟩ := HD2.out
        dsimp only [Key.none] at HP HKP p0 p1 p2 p3 p4
        go_wp2_with fail
        rw [HDV.out]
        exact bodyPost_ret (v := .tuple #[Key.none.val, .bool false]) (by have q0 := HP.out.c0; have q1 := HP.out.c1; have q2 := HP.out.c2; have q3 := HP.out.c3; have q4 := HP.out.c4; (try simp at q0 q1 q2 q3 q4); simp [results, Try.results11, go_sem, Key.val, Key.none, q0, q1, q2, q3, q4]) rfl ⟨rfl, HKP.out⟩
    · have hm2 : mayK k = false := by simpa using hm
      have HDV := Lib.hid (HOV.out.1 (by rw [HEND.out, if_neg (fun h => hm h.1)]))
      rw [hm2] at HM
      clear HEND hm hm2 HWF HOV HSEQ
      obtain ⟨kd1, bk, nm, n, pt⟩ := k
      unfold Key.val at *
      dsimp only at *
      obtain ⟨c0, c1, c2, c3, c4, f0, f1, f2, f3, f4⟩ := HX.out
      go_wp2_with fail
      refine (HM.out _).mono ?_
      rintro e y1 ⟨rfl, hk1⟩
      have HD1 := Lib.hid (HD.out.kept hk1)
      have HK1 := Lib.hid (HKK.out.trans hk1)
      clear hk1 c0 c1 c2 c3 c4 f0 f1 f2 f3 f4 HX HD HKK HM
      have HP := Lib.hid (HD1.out.put Key.none)
      have HKP := Lib.hid (putKy_kept HK1.out w.heap.size Key.none (Nat.le_refl _))
      unfold putKy at HP HKP
      obtain ⟨p0, p1, p2, p3, p4, g0, g1, g2, g3, g4⟩ := HD1.out
      dsimp only [Key.none] at HP HKP p0 p1 p2 p3 p4
      go_wp2_with fail
      rw [HDV.out]
      exact bodyPost_ret (v := .tuple #[Key.none.val, .bool false]) (by have q0 := HP.out.c0; have q1 := HP.out.c1; have q2 := HP.out.c2; have q3 := HP.out.c3; have q4 := HP.out.c4; (try simp at q0 q1 q2 q3 q4); simp [results, Try.results11, go_sem, Key.val, Key.none, q0, q1, q2, q3, q4]) rfl ⟨rfl, HKP.out⟩
end Go.Proofs.Ytccpbgkaeldlaaa
