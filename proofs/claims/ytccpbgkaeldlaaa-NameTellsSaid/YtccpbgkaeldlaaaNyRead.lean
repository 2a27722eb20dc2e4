/- What the program reads of a key's bytes: read, Decode. -/
import Derived.Test.YtccpbgkaeldlaaaNyReadM
namespace Go.Proofs.Ytccpbgkaeldlaaa
open Go.RowKit _root_.Go.Proofs.Ytccpbgkaeldlaaa.Nm Ny
set_option linter.unusedVariables false
set_option linter.unusedSimpArgs false
/-- What read answers. -/
def GotR (l : List UInt8) (e : Ending) : Prop := ∃ k R b, e = .returned (.tuple #[k.val, .bool (b && decide (R = []))]) ∧ Rd l 4 k R b
theorem takeN_ok (R : List UInt8) (n : Nat) (w : World) (hn : n ≤ 8) (hs : R.length ≤ 1000000) (h : n ≤ R.length) :
    Calls Try.prog 46 #[.string ⟨R.toArray⟩, .int .i64 (n : Nat)] w fun e w' => e = .returned (.tuple #[.int .u64 (val (R.take n) : Nat), .string ⟨(R.drop n).toArray⟩, .bool true]) ∧ Kept w w' := by
  have h := takeNumber_ok ⟨R.toArray⟩ n w hn (by rw [← list_size]; unfold maxLen; show R.length ≤ _; omega) (by rw [← list_size]; exact h)
  rw [ext_drop] at h
  exact h
theorem takeN_no (R : List UInt8) (n : Nat) (w : World) (hn : n ≤ 8) (h : R.length < n) :
    Calls Try.prog 46 #[.string ⟨R.toArray⟩, .int .i64 (n : Nat)] w fun e w' => e = .returned (.tuple #[.int .u64 0, .string ⟨#[]⟩, .bool false]) ∧ Kept w w' :=
  takeNumber_no ⟨R.toArray⟩ n w hn (by rw [← list_size]; unfold maxLen; show R.length ≤ _; omega) (by rw [← list_size]; exact h)
theorem size_mk (R : List UInt8) : (⟨R.toArray⟩ : ByteArray).size = R.length := by rw [← list_size]
theorem FdAt.setOther {w : World} {g b o : Nat} {kd : Nat} {v : Value} (h : FdAt w g kd) (hg : g ≠ b) : FdAt (w.setCell ⟨b, o, none⟩ v) g kd := h.frame (Below.heap_setCell _ _ _ _ hg)
theorem nil_dec (R : List UInt8) : (⟨R.toArray⟩ : ByteArray).toList.isEmpty = decide (R = []) := by
  rw [str_nil, size_mk]
  rw [Bool.eq_iff_iff]
  simp
set_option maxHeartbeats 8000000 in
set_option maxRecDepth 100000 in
theorem pRead_any (s : ByteArray) (w : World) (hs : s.size ≤ 1000000) :
    Calls Try.prog 30 #[.string s] w fun e w' => (s.size = 0 ∧ e = .returned (.tuple #[Key.none.val, .bool false]) ∨ GotR s.data.toList e) ∧ Kept w w' := by
  have HN := Lib.hid (KyAt.new w 24)
  have HK := Lib.hid ((Kept.refl w).alloc (.cells #[.int .u8 0, .string ⟨#[]⟩, .string ⟨#[]⟩, .int .u64 0, .int .i64 0] 24))
  have HG0 : Hid (w.heap.size < (w.alloc (.cells #[.int .u8 0, .string ⟨#[]⟩, .string ⟨#[]⟩, .int .u64 0, .int .i64 0] 24)).heap.size) := HN.out.lt
  by_cases h0 : s.size = 0
  · obtain rfl : s = ⟨#[]⟩ := ba_nil h0
    clear h0 hs
    have HP := Lib.hid (HN.out.put Key.none)
    have HKP := Lib.hid (putKy_kept HK.out w.heap.size Key.none (Nat.le_refl _))
    unfold putKy at HP HKP
    dsimp only [Key.none] at HP HKP
    obtain ⟨c0, c1, c2, c3, c4, f0, f1, f2, f3, f4⟩ := HN.out
    dsimp only [Key.none] at c0 c1 c2 c3 c4
    go_enter Try.func30, Try.ntmps30
    go_upto_region 1 with fail
    generalize w.alloc (.cells #[.int .u8 0, .string ⟨#[]⟩, .string ⟨#[]⟩, .int .u64 0, .int .i64 0] 24) = w0 at *
    go_wp2_with fail
    exact bodyPost_ret (v := .tuple #[Key.none.val, .bool false]) (by have q0 := HP.out.c0; have q1 := HP.out.c1; have q2 := HP.out.c2; have q3 := HP.out.c3; have q4 := HP.out.c4; (try simp at q0 q1 q2 q3 q4); simp [results, Try.results30, go_sem, Key.val, Key.none, q0, q1, q2, q3, q4]) rfl ⟨.inl ⟨rfl, rfl⟩, HKP.out⟩
  · have hpos : 0 < s.size := by omega
    obtain ⟨R0, hl, hll⟩ := list_head s hpos
    have hemp := not_empty s hpos
    obtain ⟨c, hc0⟩ : ∃ c, s[0] = c := ⟨_, rfl⟩
    rw [hc0] at hl
    have hsl1 : ∀ W : World, (Instr.slice 9 (.string s) (some (.int .i64 1)) none none).run Try.prog W = .ok (.string ⟨R0.toArray⟩) W := fun W => by
      have h := run_slice_string_l (P := Try.prog) W 9 s Try.underlying9 .i64 1 (by omega) (by omega)
      rw [show (1 : Int).toNat = 1 from rfl, ext_drop, hl] at h
      exact h
    have HLL : Hid (R0.length ≤ 1000000) := by show _ ≤ _; omega
    have HRD := Lib.hid (Rd.start c R0)
    have HGOT : Hid (∀ v, GotR (c :: R0) (.returned v) → GotR s.data.toList (.returned v)) := fun v h => by rw [hl]; exact h
    have HH := Lib.hid (fun W => has_any c.toNat W)
    have HFL := Lib.hid (fun W => FdAt.laid W 47 c.toNat)
    have HTU := Lib.hid (fun W x hx => turned_any c.toNat x W hx)
    clear hl hll h0
    obtain ⟨c0, c1, c2, c3, c4, f0, f1, f2, f3, f4⟩ := HN.out
    dsimp only [Key.none] at c0 c1 c2 c3 c4
    go_enter Try.func30, Try.ntmps30
    go_upto_region 1 with fail
    generalize w.alloc (.cells #[.int .u8 0, .string ⟨#[]⟩, .string ⟨#[]⟩, .int .u64 0, .int .i64 0] 24) = w0 at *
    go_wp2_with fail
    obtain ⟨wd, hwd⟩ : ∃ wd, w0.drew = wd := ⟨_, rfl⟩
    have hkd : Kept w0 wd := by rw [← hwd]; exact (Kept.refl _).drew
    have d0 : wd.cell? ⟨w.heap.size, 0, none⟩ = some (.int .u8 0) := by rw [← hwd]; exact c0
    have e0 : wd.frozen? ⟨w.heap.size, 0, none⟩ = false := by rw [← hwd]; exact f0
    clear c0 c1 c2 c3 c4 f0 f1 f2 f3 f4
    go_region
    all_goals
      have HK1 : Hid (Kept w (wd.setCell ⟨w.heap.size, 0, none⟩ (.int .u8 (c.toNat : Nat)))) := (HK.out.trans hkd).setCell (Nat.le_refl _) _
      have HX1 : Hid (KyAt (wd.setCell ⟨w.heap.size, 0, none⟩ (.int .u8 (c.toNat : Nat))) w.heap.size ⟨c.toNat, ⟨#[]⟩, ⟨#[]⟩, 0, 0⟩) := (HN.out.kept hkd).set0 c.toNat
      clear d0 e0 hkd hwd HN HK
      generalize wd.setCell ⟨w.heap.size, 0, none⟩ (.int .u8 (c.toNat : Nat)) = w1 at *
      obtain ⟨c0, _, _, _, _, _, _, _, _, _⟩ := HX1.out
      dsimp only at c0
      go_wp2_with fail
      refine (HH.out _).mono ?_
      rintro e w2 ⟨rfl, hk2⟩
      have HX2 := Lib.hid (HX1.out.kept hk2)
      have HK2 := Lib.hid (HK1.out.trans hk2)
      have hlt := HX2.out.lt
      clear hk2 HX1 HK1 HH c0
      unfold fdV
      go_upto_region 5 with fail
      have HF := Lib.hid (HFL.out w2)
      have hk3 : Kept w2 (w2.alloc (.cells #[.bool (hasB c.toNat), .bool (hasM c.toNat), .bool (hasN c.toNat), .bool (hasP c.toNat)] 47)) := (Kept.refl _).alloc _
      have HX3 := Lib.hid (HX2.out.kept hk3)
      have HK3 := Lib.hid (HK2.out.trans hk3)
      have HNE : Hid (w2.heap.size ≠ w.heap.size) := by show _ ≠ _; omega
      clear hk3 HX2 HK2 HFL hlt
      generalize w2.alloc (.cells #[.bool (hasB c.toNat), .bool (hasM c.toNat), .bool (hasN c.toNat), .bool (hasP c.toNat)] 47) = x0 at *
      generalize w2.heap.size = g1 at *
      have HALL : Hid (KyAt x0 w.heap.size ⟨c.toNat, ⟨#[]⟩, ⟨#[]⟩, 0, 0⟩ ∧ FdAt x0 g1 c.toNat ∧ Kept w x0 ∧ Rd (c :: R0) 0 ⟨c.toNat, ⟨#[]⟩, ⟨#[]⟩, 0, 0⟩ R0 (isK c.toNat)) := ⟨HX3.out, HF.out, HK3.out, HRD.out⟩
      have HKD : Hid ((⟨c.toNat, ⟨#[]⟩, ⟨#[]⟩, 0, 0⟩ : Key).kd = c.toNat) := rfl
      clear HX3 HF HK3 HRD
      generalize hl9 : c :: R0 = l at *
      clear hl9
      generalize (⟨c.toNat, ⟨#[]⟩, ⟨#[]⟩, 0, 0⟩ : Key) = k at *
      generalize isK c.toNat = b at *
      clear hsl1 hemp hc0 HG0 hs hpos
      generalize R0 = R at *
      generalize c.toNat = kd at *
      go_upto_region 5 with fail
      obtain ⟨d0, d1, d2, d3⟩ := HALL.out.2.1
      go_cut [24] from 20 to 24 (fun v wx => v = .bool (b && hasB kd) ∧ wx = x0)
      case first =>
        cases b
        · go_wp2_with fail
          go_meet
          exact ⟨rfl, rfl⟩
        · go_wp2_with fail
          go_meet
          exact ⟨rfl, rfl⟩
      case rest =>
      obtain ⟨rfl, rfl⟩ := hcut
      clear d0 d1 d2 d3
      go_upto_if 24 with fail
      go_cut [0, 3, 24] from 25 to 31 (fun sv bv tv wx => ∃ (k : Key) (R : List UInt8) (b : Bool), sv = .string ⟨R.toArray⟩ ∧ bv = .bool b ∧ R.length ≤ 1000000 ∧ Hid (k.kd = kd) ∧ Hid (KyAt wx w.heap.size k ∧ FdAt wx g1 kd ∧ Kept w wx ∧ Rd l 1 k R b))
      case first =>
        by_cases hb : (b && hasB kd) = true
        · obtain ⟨rfl, hf⟩ : b = true ∧ hasB kd = true := by simpa using hb
          have hfk : hasB k.kd = true := by rw [HKD.out]; exact hf
          have HFK := Lib.hid hfk
          have HBB := Lib.hid hb
          rw [hb]
          clear hb hf hfk
          obtain ⟨c0, c1, c2, c3, c4, f0, f1, f2, f3, f4⟩ := HALL.out.1
          rw [HKD.out] at c0
          rcases zero_split R with hz | ⟨a, r, rfl, hz⟩
          · have HT := Lib.hid (fun W => takeBucket_no ⟨R.toArray⟩ W hz)
            have HR := Lib.hid (HALL.out.2.2.2.no1 HFK.out hz)
            clear hz
            go_wp2_with fail
            refine (HT.out _).mono ?_
            rintro e y1 ⟨rfl, hk⟩
            have HX := Lib.hid (HALL.out.1.kept hk)
            have HF := Lib.hid (HALL.out.2.1.kept hk)
            have HK := Lib.hid (HALL.out.2.2.1.trans hk)
            clear hk c0 c1 c2 c3 c4 f0 f1 f2 f3 f4
            obtain ⟨c0, c1, c2, c3, c4, f0, f1, f2, f3, f4⟩ := HX.out
            go_wp2_with fail
            go_meet
            exact ⟨{ k with bk := ⟨#[]⟩ }, [], false, rfl, rfl, by simp, HKD.out, HX.out.set1 ⟨#[]⟩, HF.out.setOther HNE.out, HK.out.setCell (Nat.le_refl _) _, HR.out⟩
          · have hrl : a.length ≤ 1000000 ∧ r.length ≤ 1000000 := by have := HLL.out; simp at this; omega
            have HT := Lib.hid (fun W => takeBucket_ok ⟨(a ++ 0 :: r).toArray⟩ a r W (by rw [size_mk]; exact HLL.out) rfl hz)
            have HR := Lib.hid (HALL.out.2.2.2.yes1 HFK.out hz hrl.1)
            have HRL := Lib.hid hrl.2
            clear hz hrl
            go_wp2_with fail
            refine (HT.out _).mono ?_
            rintro e y1 ⟨rfl, hk⟩
            have HX := Lib.hid (HALL.out.1.kept hk)
            have HF := Lib.hid (HALL.out.2.1.kept hk)
            have HK := Lib.hid (HALL.out.2.2.1.trans hk)
            clear hk c0 c1 c2 c3 c4 f0 f1 f2 f3 f4
            obtain ⟨c0, c1, c2, c3, c4, f0, f1, f2, f3, f4⟩ := HX.out
            go_wp2_with fail
            go_meet
            exact ⟨{ k with bk := ⟨a.toArray⟩ }, r, true, rfl, rfl, HRL.out, HKD.out, HX.out.set1 ⟨a.toArray⟩, HF.out.setOther HNE.out, HK.out.setCell (Nat.le_refl _) _, HR.out⟩
        · have hb2 : (b && hasB kd) = false := by simpa using hb
          have hs : b = true → hasB k.kd = false := fun e => by rw [HKD.out]; rw [e] at hb2; simpa using hb2
          have HR := Lib.hid (HALL.out.2.2.2.skip1 hs)
          rw [hb2]
          clear hb hb2 hs
          go_wp2_with fail
          go_meet
          exact ⟨k, R, b, rfl, rfl, HLL.out, HKD.out, HALL.out.1, HALL.out.2.1, HALL.out.2.2.1, HR.out⟩
      case rest =>
      clear HALL HKD HLL
      obtain ⟨k, R, b, rfl, rfl, hLL, HKD, HALL⟩ := hcut
      have HLL := Lib.hid hLL
      clear hLL
      generalize wc = x1 at *
      go_upto_region 7 with fail
      obtain ⟨d0, d1, d2, d3⟩ := HALL.out.2.1
      go_cut [36] from 32 to 36 (fun v wx => v = .bool (b && hasM kd) ∧ wx = x1)
      case first =>
        cases b
        · go_wp2_with fail
          go_meet
          exact ⟨rfl, rfl⟩
        · go_wp2_with fail
          go_meet
          exact ⟨rfl, rfl⟩
      case rest =>
      obtain ⟨rfl, rfl⟩ := hcut
      clear d0 d1 d2 d3
      go_upto_if 36 with fail
      go_cut [0, 3, 36] from 37 to 43 (fun sv bv tv wx => ∃ (k : Key) (R : List UInt8) (b : Bool), sv = .string ⟨R.toArray⟩ ∧ bv = .bool b ∧ R.length ≤ 1000000 ∧ Hid (k.kd = kd) ∧ Hid (KyAt wx w.heap.size k ∧ FdAt wx g1 kd ∧ Kept w wx ∧ Rd l 2 k R b))
      case first =>
        by_cases hb : (b && hasM kd) = true
        · obtain ⟨rfl, hf⟩ : b = true ∧ hasM kd = true := by simpa using hb
          have hfk : hasM k.kd = true := by rw [HKD.out]; exact hf
          have HFK := Lib.hid hfk
          have HBB := Lib.hid hb
          rw [hb]
          clear hb hf hfk
          obtain ⟨c0, c1, c2, c3, c4, f0, f1, f2, f3, f4⟩ := HALL.out.1
          rw [HKD.out] at c0
          have HT := Lib.hid (fun W => takeName_any ⟨R.toArray⟩ W (by rw [size_mk]; exact HLL.out))
          have hT : ∀ W, Calls Try.prog 45 #[.string ⟨R.toArray⟩] W fun e w' => e = .returned (tkV (tkN R)) ∧ Kept W w' := HT.out
          clear HT
          cases hz : tkN R with
          | none =>
            have HR := Lib.hid (HALL.out.2.2.2.no2 HFK.out hz)
            rw [hz] at hT
            have HT := Lib.hid hT
            unfold tkV at HT
            clear hz hT
            go_wp2_with fail
            refine (HT.out _).mono ?_
            rintro e y1 ⟨rfl, hk⟩
            have HX := Lib.hid (HALL.out.1.kept hk)
            have HF := Lib.hid (HALL.out.2.1.kept hk)
            have HK := Lib.hid (HALL.out.2.2.1.trans hk)
            clear hk c0 c1 c2 c3 c4 f0 f1 f2 f3 f4
            obtain ⟨c0, c1, c2, c3, c4, f0, f1, f2, f3, f4⟩ := HX.out
            go_wp2_with fail
            go_meet
            exact ⟨{ k with nm := ⟨#[]⟩ }, [], false, rfl, rfl, by simp, HKD.out, HX.out.set2 ⟨#[]⟩, HF.out.setOther HNE.out, HK.out.setCell (Nat.le_refl _) _, HR.out⟩
          | some p =>
            obtain ⟨a, r⟩ := p
            have hrl : a.length ≤ 1000000 ∧ r.length ≤ 1000000 := by
              have h1 := tkN_dec _ _ _ hz
              have h2 := nmL_ge a
              have h3 := HLL.out
              rw [h1, List.length_append] at h3
              simp at h3
              omega
            have HR := Lib.hid (HALL.out.2.2.2.yes2 HFK.out hz hrl.1)
            have HRL := Lib.hid hrl.2
            rw [hz] at hT
            have HT := Lib.hid hT
            unfold tkV at HT
            dsimp only at HT
            clear hz hrl hT
            go_wp2_with fail
            refine (HT.out _).mono ?_
            rintro e y1 ⟨rfl, hk⟩
            have HX := Lib.hid (HALL.out.1.kept hk)
            have HF := Lib.hid (HALL.out.2.1.kept hk)
            have HK := Lib.hid (HALL.out.2.2.1.trans hk)
            clear hk c0 c1 c2 c3 c4 f0 f1 f2 f3 f4
            obtain ⟨c0, c1, c2, c3, c4, f0, f1, f2, f3, f4⟩ := HX.out
            go_wp2_with fail
            go_meet
            exact ⟨{ k with nm := ⟨a.toArray⟩ }, r, true, rfl, rfl, HRL.out, HKD.out, HX.out.set2 ⟨a.toArray⟩, HF.out.setOther HNE.out, HK.out.setCell (Nat.le_refl _) _, HR.out⟩
        · have hb2 : (b && hasM kd) = false := by simpa using hb
          have hs : b = true → hasM k.kd = false := fun e => by rw [HKD.out]; rw [e] at hb2; simpa using hb2
          have HR := Lib.hid (HALL.out.2.2.2.skip2 hs)
          rw [hb2]
          clear hb hb2 hs
          go_wp2_with fail
          go_meet
          exact ⟨k, R, b, rfl, rfl, HLL.out, HKD.out, HALL.out.1, HALL.out.2.1, HALL.out.2.2.1, HR.out⟩
      case rest =>
      clear HALL HKD HLL
      obtain ⟨k, R, b, rfl, rfl, hLL, HKD, HALL⟩ := hcut
      have HLL := Lib.hid hLL
      clear hLL
      generalize wc = x2 at *
      go_upto_region 9 with fail
      obtain ⟨d0, d1, d2, d3⟩ := HALL.out.2.1
      go_cut [48] from 44 to 48 (fun v wx => v = .bool (b && hasN kd) ∧ wx = x2)
      case first =>
        cases b
        · go_wp2_with fail
          go_meet
          exact ⟨rfl, rfl⟩
        · go_wp2_with fail
          go_meet
          exact ⟨rfl, rfl⟩
      case rest =>
      obtain ⟨rfl, rfl⟩ := hcut
      clear d0 d1 d2 d3
      go_upto_if 48 with fail
      go_cut [0, 3, 48] from 49 to 61 (fun sv bv tv wx => ∃ (k : Key) (R : List UInt8) (b : Bool), sv = .string ⟨R.toArray⟩ ∧ bv = .bool b ∧ R.length ≤ 1000000 ∧ Hid (k.kd = kd) ∧ Hid (KyAt wx w.heap.size k ∧ FdAt wx g1 kd ∧ Kept w wx ∧ Rd l 3 k R b))
      case first =>
        by_cases hb : (b && hasN kd) = true
        · obtain ⟨rfl, hf⟩ : b = true ∧ hasN kd = true := by simpa using hb
          have hfk : hasN k.kd = true := by rw [HKD.out]; exact hf
          have HFK := Lib.hid hfk
          have HBB := Lib.hid hb
          rw [hb]
          clear hb hf hfk
          obtain ⟨c0, c1, c2, c3, c4, f0, f1, f2, f3, f4⟩ := HALL.out.1
          rw [HKD.out] at c0
          rcases Nat.lt_or_ge R.length 8 with hz | hz
          · have HT := Lib.hid (fun W => takeN_no R 8 W (by decide) hz)
            have HR := Lib.hid (HALL.out.2.2.2.no3 HFK.out hz)
            clear hz
            go_wp2_with fail
            refine (HT.out _).mono ?_
            rintro e y1 ⟨rfl, hk⟩
            have HX := Lib.hid (HALL.out.1.kept hk)
            have HF := Lib.hid (HALL.out.2.1.kept hk)
            have HK := Lib.hid (HALL.out.2.2.1.trans hk)
            clear hk c0 c1 c2 c3 c4 f0 f1 f2 f3 f4
            obtain ⟨c0, c1, c2, c3, c4, f0, f1, f2, f3, f4⟩ := HX.out
            rw [HKD.out] at c0
            go_wp2_with (go_at_call 29; refine (HTU.out _ 0 (by decide)).mono ?_; rintro e y2 ⟨rfl, rfl⟩)
            go_meet
            exact ⟨{ k with n := tn kd 0 }, [], false, rfl, rfl, by simp, HKD.out, ((HX.out.set3 0).set3 (tn kd 0)), (HF.out.setOther HNE.out).setOther HNE.out, (HK.out.setCell (Nat.le_refl _) _).setCell (Nat.le_refl _) _, by rw [show tn kd 0 = tn k.kd 0 by rw [HKD.out]]; exact HR.out⟩
          · have HT := Lib.hid (fun W => takeN_ok R 8 W (by decide) HLL.out hz)
            have HRL : Hid ((R.drop 8).length ≤ 1000000) := by show _ ≤ _; rw [List.length_drop]; have := HLL.out; omega
            have HVL : Hid (val (R.take 8) < 256 ^ 8) := val_256 _ 8 (by rw [List.length_take]; omega)
            have HR := Lib.hid (HALL.out.2.2.2.yes3 HFK.out hz)
            clear hz
            generalize val (R.take 8) = x at *
            go_wp2_with fail
            refine (HT.out _).mono ?_
            rintro e y1 ⟨rfl, hk⟩
            have HX := Lib.hid (HALL.out.1.kept hk)
            have HF := Lib.hid (HALL.out.2.1.kept hk)
            have HK := Lib.hid (HALL.out.2.2.1.trans hk)
            clear hk c0 c1 c2 c3 c4 f0 f1 f2 f3 f4
            obtain ⟨c0, c1, c2, c3, c4, f0, f1, f2, f3, f4⟩ := HX.out
            rw [HKD.out] at c0
            go_wp2_with (go_at_call 29; refine (HTU.out _ x (HVL.out)).mono ?_; rintro e y2 ⟨rfl, rfl⟩)
            go_meet
            exact ⟨{ k with n := tn kd x }, R.drop 8, true, rfl, rfl, HRL.out, HKD.out, ((HX.out.set3 x).set3 (tn kd x)), (HF.out.setOther HNE.out).setOther HNE.out, (HK.out.setCell (Nat.le_refl _) _).setCell (Nat.le_refl _) _, by rw [show tn kd x = tn k.kd x by rw [HKD.out]]; exact HR.out⟩
        · have hb2 : (b && hasN kd) = false := by simpa using hb
          have hs : b = true → hasN k.kd = false := fun e => by rw [HKD.out]; rw [e] at hb2; simpa using hb2
          have HR := Lib.hid (HALL.out.2.2.2.skip3 hs)
          rw [hb2]
          clear hb hb2 hs
          go_wp2_with fail
          go_meet
          exact ⟨k, R, b, rfl, rfl, HLL.out, HKD.out, HALL.out.1, HALL.out.2.1, HALL.out.2.2.1, HR.out⟩
      case rest =>
      clear HALL HKD HLL
      obtain ⟨k, R, b, rfl, rfl, hLL, HKD, HALL⟩ := hcut
      have HLL := Lib.hid hLL
      clear hLL
      generalize wc = x3 at *
      go_upto_region 12 with fail
      obtain ⟨d0, d1, d2, d3⟩ := HALL.out.2.1
      go_cut [66] from 62 to 66 (fun v wx => v = .bool (b && hasP kd) ∧ wx = x3)
      case first =>
        cases b
        · go_wp2_with fail
          go_meet
          exact ⟨rfl, rfl⟩
        · go_wp2_with fail
          go_meet
          exact ⟨rfl, rfl⟩
      case rest =>
      obtain ⟨rfl, rfl⟩ := hcut
      clear d0 d1 d2 d3
      go_upto_if 66 with fail
      go_cut [0, 3, 66] from 67 to 75 (fun sv bv tv wx => ∃ (k : Key) (R : List UInt8) (b : Bool), sv = .string ⟨R.toArray⟩ ∧ bv = .bool b ∧ R.length ≤ 1000000 ∧ Hid (k.kd = kd) ∧ Hid (KyAt wx w.heap.size k ∧ FdAt wx g1 kd ∧ Kept w wx ∧ Rd l 4 k R b))
      case first =>
        by_cases hb : (b && hasP kd) = true
        · obtain ⟨rfl, hf⟩ : b = true ∧ hasP kd = true := by simpa using hb
          have hfk : hasP k.kd = true := by rw [HKD.out]; exact hf
          have HFK := Lib.hid hfk
          have HBB := Lib.hid hb
          rw [hb]
          clear hb hf hfk
          obtain ⟨c0, c1, c2, c3, c4, f0, f1, f2, f3, f4⟩ := HALL.out.1
          rw [HKD.out] at c0
          rcases Nat.lt_or_ge R.length 2 with hz | hz
          · have HT := Lib.hid (fun W => takeN_no R 2 W (by decide) hz)
            have HR := Lib.hid (HALL.out.2.2.2.no4 HFK.out hz)
            clear hz
            go_wp2_with fail
            refine (HT.out _).mono ?_
            rintro e y1 ⟨rfl, hk⟩
            have HX := Lib.hid (HALL.out.1.kept hk)
            have HF := Lib.hid (HALL.out.2.1.kept hk)
            have HK := Lib.hid (HALL.out.2.2.1.trans hk)
            clear hk c0 c1 c2 c3 c4 f0 f1 f2 f3 f4
            obtain ⟨c0, c1, c2, c3, c4, f0, f1, f2, f3, f4⟩ := HX.out
            rw [HKD.out] at c0
            go_wp2_with fail
            go_meet
            exact ⟨{ k with pt := 0 }, [], false, rfl, rfl, by simp, HKD.out, HX.out.set4 0, HF.out.setOther HNE.out, HK.out.setCell (Nat.le_refl _) _, HR.out⟩
          · have HT := Lib.hid (fun W => takeN_ok R 2 W (by decide) HLL.out hz)
            have HRL : Hid ((R.drop 2).length ≤ 1000000) := by show _ ≤ _; rw [List.length_drop]; have := HLL.out; omega
            have HVL : Hid (val (R.take 2) < 256 ^ 2) := val_256 _ 2 (by rw [List.length_take]; omega)
            have HR := Lib.hid (HALL.out.2.2.2.yes4 HFK.out hz)
            clear hz
            generalize val (R.take 2) = x at *
            have hw9 : IntKind.i64.wrap (x : Int) = (x : Int) := IntWalk.i64_in _ (by have h9 := HVL.out; have e9 : (256 : Nat) ^ 2 = 65536 := rfl; omega)
            go_wp2_with fail
            refine (HT.out _).mono ?_
            rintro e y1 ⟨rfl, hk⟩
            have HX := Lib.hid (HALL.out.1.kept hk)
            have HF := Lib.hid (HALL.out.2.1.kept hk)
            have HK := Lib.hid (HALL.out.2.2.1.trans hk)
            clear hk c0 c1 c2 c3 c4 f0 f1 f2 f3 f4
            obtain ⟨c0, c1, c2, c3, c4, f0, f1, f2, f3, f4⟩ := HX.out
            rw [HKD.out] at c0
            go_wp2_with fail
            go_meet
            exact ⟨{ k with pt := (x : Nat) }, R.drop 2, true, rfl, rfl, HRL.out, HKD.out, HX.out.set4 (x : Nat), HF.out.setOther HNE.out, HK.out.setCell (Nat.le_refl _) _, HR.out⟩
        · have hb2 : (b && hasP kd) = false := by simpa using hb
          have hs : b = true → hasP k.kd = false := fun e => by rw [HKD.out]; rw [e] at hb2; simpa using hb2
          have HR := Lib.hid (HALL.out.2.2.2.skip4 hs)
          rw [hb2]
          clear hb hb2 hs
          go_wp2_with fail
          go_meet
          exact ⟨k, R, b, rfl, rfl, HLL.out, HKD.out, HALL.out.1, HALL.out.2.1, HALL.out.2.2.1, HR.out⟩
      case rest =>
      clear HALL HKD HLL
      obtain ⟨k, R, b, rfl, rfl, hLL, HKD, HALL⟩ := hcut
      have HLL := Lib.hid hLL
      clear hLL
      generalize wc = x4 at *
      go_upto_region 16 with fail
      have HFIN : Hid (GotR s.data.toList (.returned (.tuple #[k.val, .bool (b && decide (R = []))]))) := HGOT.out _ ⟨k, R, b, rfl, HALL.out.2.2.2⟩
      have hnd := nil_dec R
      have hri : R.isEmpty = decide (R = []) := by cases R <;> simp
      obtain ⟨c0, c1, c2, c3, c4, f0, f1, f2, f3, f4⟩ := HALL.out.1
      have HK9 := Lib.hid HALL.out.2.2.1
      clear HALL HTU
      cases b
      · go_wp2_with fail
        exact bodyPost_ret (v := .tuple #[k.val, .bool false]) (by simp [results, Try.results30, go_sem, Key.val, c0, c1, c2, c3, c4, hri]) rfl ⟨.inr HFIN.out, putKy_kept HK9.out w.heap.size k (Nat.le_refl _)⟩
      · go_wp2_with fail
        exact bodyPost_ret (v := .tuple #[k.val, .bool (decide (R = []))]) (by simp [results, Try.results30, go_sem, Key.val, c0, c1, c2, c3, c4, hri]) rfl ⟨.inr HFIN.out, putKy_kept HK9.out w.heap.size k (Nat.le_refl _)⟩
end Go.Proofs.Ytccpbgkaeldlaaa
