/- ShardCode, ShardLook. -/
import Derived.Test.YtdpkmonlkdegjaaGreatDoorPart27
import Derived.Test.YtdpkmonlkdegjaaGreatDoorTrim
import Derived.Test.YtdpkmonlkdegjaaGreatDoorPart10
import Derived.Test.YtdpkmonlkdegjaaGreatDoorPart14
import Derived.Test.YtdpkmonlkdegjaaGreatDoorPart20
import Derived.Deep.RegionWith
/- The program's shard: whether bytes are all 0, numbers that a head tells, the head. -/
namespace Go.Proofs.YtdpkmonlkdegjaaGreatDoor
open Go.RowKit Sm Wr _root_.Go.Proofs.YtdpkmonlkdegjaaGreatDoor.Nm
set_option linter.unusedVariables false
theorem dw_nil (p : UInt8 → Bool) (l : List UInt8) : l.dropWhile p = [] ↔ ∀ x ∈ l, p x = true := by
  induction l with
  | nil => simp
  | cons a l ih =>
    rw [List.dropWhile_cons]
    cases h : p a
    · simp [h]
    · simp [h, ih]
theorem dw_head (p : UInt8 → Bool) (l : List UInt8) (a : UInt8) (r : List UInt8) (h : l.dropWhile p = a :: r) : p a = false := by
  induction l with
  | nil => cases h
  | cons b l ih =>
    rw [List.dropWhile_cons] at h
    cases hb : p b with
    | true => rw [hb, if_pos rfl] at h; exact ih h
    | false => rw [hb, if_neg (by decide)] at h; injection h with h1 _; rw [← h1]; exact hb
theorem dw_mem (p : UInt8 → Bool) (l : List UInt8) (x : UInt8) (h : x ∈ l.dropWhile p) : x ∈ l := by
  induction l with
  | nil => cases h
  | cons b l ih =>
    rw [List.dropWhile_cons] at h
    cases hb : p b with
    | true => rw [hb, if_pos rfl] at h; exact List.mem_cons_of_mem _ (ih h)
    | false => rw [hb, if_neg (by decide)] at h; exact h
theorem trimB_allz (l : List UInt8) : (Lib.trimB l 0 = []) ↔ allz l = true := by
  unfold Lib.trimB Lib.trimLeftB Lib.trimRightB allz
  rw [dw_nil, List.all_eq_true]
  constructor
  · intro h
    cases hd : l.reverse.dropWhile (· == 0) with
    | nil =>
      rw [dw_nil] at hd
      exact fun x hx => hd x (List.mem_reverse.2 hx)
    | cons a r =>
      exfalso
      have h1 := h a (by rw [hd]; simp)
      rw [dw_head _ _ _ _ hd] at h1
      cases h1
  · intro h x hx
    exact h x (List.mem_reverse.1 (dw_mem _ _ _ (List.mem_reverse.1 hx)))
set_option maxRecDepth 100000 in
theorem blank_any (s : ByteArray) (w : World) (hs : s.size ≤ 9223372036854775807) :
    Calls Tryz.prog 34 #[.string s] w fun e w' => e = .returned (.bool (allz s.data.toList)) ∧ Kept w w' := by
  have HS := Lib.hid hs
  clear hs
  go_enter Tryz.func34, Tryz.ntmps34
  go_wp2_with fail
  refine (trim_zero s _ HS.out).mono ?_
  rintro e w1 ⟨⟨r, rfl, hr⟩, hk⟩
  have HK := Lib.hid hk
  have HB : Hid (r.toList.isEmpty = allz s.data.toList) := by
    show _ = _
    rw [ByteArray.toList_eq, hr.out, Bool.eq_iff_iff, List.isEmpty_iff, trimB_allz]
  clear hk hr
  go_wp2_with fail
  go_ret
  rw [← HB.out]
  exact ⟨rfl, HK.out⟩
/-- Four numbers, as a head tells them. -/
def numsV (a b c n : Nat) : Value := .agg #[.int .u64 (a : Nat), .int .u64 (b : Nat), .int .u64 (c : Nat), .int .u64 (n : Nat)]
/-- A whole number, as one without a sign. -/
def uOf (i : Int) : Nat := (IntKind.u64.wrap i).toNat
theorem uOf_wrap (i : Int) : ((uOf i : Nat) : Int) = IntKind.u64.wrap i := by
  have := bounds_u64 (wf_wrap .u64 i)
  unfold uOf; omega
theorem uOf_lt (i : Int) : uOf i < 18446744073709551616 := by
  have := bounds_u64 (wf_wrap .u64 i)
  unfold uOf; omega
set_option maxRecDepth 100000 in
theorem numbersOf_any (x : Shd) (w : World) (hs : x.t.size ≤ 9223372036854775807) :
    Calls Tryz.prog 25 #[x.val] w fun e w' => e = .returned (numsV x.st (uOf x.ix) (uOf x.tt) x.t.size) ∧ Kept w w' := by
  obtain ⟨a, b, c, t⟩ := x
  have h1 := uOf_wrap b
  have h2 := uOf_wrap c
  have h3 : IntKind.u64.wrap (t.size : Int) = (t.size : Int) := IntWalk.u64_in _ (by dsimp only at hs; omega)
  have H1 := Lib.hid h1
  have H2 := Lib.hid h2
  have H3 := Lib.hid h3
  unfold Shd.val numsV
  dsimp only at *
  clear h1 h2 h3 hs
  generalize hN : t.size = n at *
  go_enter Tryz.func25, Tryz.ntmps25
  go_wp2_with fail
  exact bodyPost_ret (v := .agg #[.int .u64 (a : Nat), .int .u64 (IntKind.u64.wrap b), .int .u64 (IntKind.u64.wrap c), .int .u64 (IntKind.u64.wrap (n : Int))]) (by simp [results, Tryz.results25, go_sem]) rfl ⟨by rw [H1.out, H2.out, H3.out], (((Kept.refl _).alloc _).alloc _)⟩
set_option maxRecDepth 100000 in
theorem may_any (a b c n : Nat) (w : World) :
    Calls Tryz.prog 26 #[numsV a b c n] w fun e w' => e = .returned (.bool (mayN a b c n)) ∧ Kept w w' := by
  unfold numsV
  have fin : ∀ r : Bool, r = mayN a b c n → Ending.returned (.bool r) = Ending.returned (.bool (mayN a b c n)) := fun r h => by rw [h]
  have HF := Lib.hid fin
  clear fin
  go_enter Tryz.func26, Tryz.ntmps26
  go_wp2_with fail
  all_goals
    go_ret
    refine ⟨HF.out _ ?_, (Kept.refl _).alloc _⟩
    clear HF
    unfold mayN
    rw [Bool.eq_iff_iff]
    simp only [Bool.and_eq_true, decide_eq_true_eq, Bool.false_eq_true, false_iff]
    omega
theorem one_conv (w : World) (x : Nat) (hx : x < 256) (T : TypeId) :
    (convert 92 9 (.slice (some ⟨w.heap.size, 0, none⟩) 1 1)).run Tryz.prog (w.alloc (.cells #[.int .u8 (x : Int)] T)) = .ok (.string ⟨#[UInt8.ofNat x]⟩) (w.alloc (.cells #[.int .u8 (x : Int)] T)) := by
  refine run_convert_bytes_back (P := Tryz.prog) _ 92 9 5 ⟨w.heap.size, 0, none⟩ 1 [UInt8.ofNat x] Tryz.underlying92 Tryz.underlying5 Tryz.underlying9 (fun j hj => ?_)
  have hj4 : j < 1 := hj
  obtain rfl : j = 0 := by omega
  show (w.alloc _).cell? ⟨w.heap.size, 0, none⟩ = _
  rw [World.cell?_alloc_mark]
  simp
  omega
theorem nums4_u64s (w : World) (a b c n : Nat) (ha : a < 18446744073709551616) (hb : b < 18446744073709551616) (hc : c < 18446744073709551616) (hn : n < 18446744073709551616) (T : TypeId) :
    U64s (w.alloc (.cells #[.int .u64 (a : Nat), .int .u64 (b : Nat), .int .u64 (c : Nat), .int .u64 (n : Nat)] T)) (some ⟨w.heap.size, 0, none⟩) [a, b, c, n] := by
  refine u64s_new w _ T _ (fun i hi => ?_) (by intro x hx; simp at hx; omega)
  match i, hi with
  | 0, _ => rfl
  | 1, _ => rfl
  | 2, _ => rfl
  | 3, _ => rfl
set_option maxRecDepth 100000 in
/-- A head, but the bytes 0 behind it. -/
theorem head_any (a b c n : Nat) (t : ByteArray) (w : World) (ha : a < 18446744073709551616) (hb : b < 18446744073709551616) (hc : c < 18446744073709551616) (hn : n < 18446744073709551616) (ht : t.size ≤ 4) :
    Calls Tryz.prog 29 #[numsV a b c n, .string t] w fun e w' => (∃ r : ByteArray, e = .returned (.string r) ∧ Hid (r.data.toList = headL a b c n t.data.toList)) ∧ Kept w w' := by
  unfold numsV
  have HA := Lib.hid (fun W T => nums4_u64s W a b c n ha hb hc hn T)
  have hz : ([a, b, c, n] : List Nat).length = 4 := rfl
  have HS : Hid ((nums [a, b, c, n]).length ≤ 36) := by
    show _ ≤ _
    have := nums_le [a, b, c, n] (by intro x hx; simp at hx; omega)
    rw [hz] at this; omega
  obtain ⟨x, hx⟩ : ∃ x : ByteArray, x = ⟨(nums [a, b, c, n]).toArray⟩ := ⟨_, rfl⟩
  have HX : Hid (x.data.toList = nums [a, b, c, n]) := by show _ = _; rw [hx]
  have HN := Lib.hid (fun W T => nums_any (some ⟨W.heap.size, 0, none⟩) 4 [a, b, c, n] _ (HA.out W T) (by simp))
  rw [← hx] at HN
  have hxs : x.size ≤ 36 := by rw [← data_len, HX.out]; exact HS.out
  clear ha hb hc hn hx hz
  go_enter Tryz.func29, Tryz.ntmps29
  go_wp2_with fail
  have hk0 : Kept w ((w.alloc (.cells #[.int .u64 (a : Nat), .int .u64 (b : Nat), .int .u64 (c : Nat), .int .u64 (n : Nat)] 72)).alloc (.cells #[.int .u64 (a : Nat), .int .u64 (b : Nat), .int .u64 (c : Nat), .int .u64 (n : Nat)] 32)) := ((Kept.refl _).alloc _).alloc _
  have HK0 := Lib.hid hk0
  clear hk0
  have hc1 := HN.out (w.alloc (.cells #[.int .u64 (a : Nat), .int .u64 (b : Nat), .int .u64 (c : Nat), .int .u64 (n : Nat)] 72)) 32
  rw [size_alloc] at hc1
  refine hc1.mono ?_
  clear hc1
  rintro e w1 ⟨rfl, hk⟩
  have HK1 : Hid (Kept w w1) := HK0.out.trans hk
  clear hk HK0
  obtain ⟨y, hy⟩ : ∃ y : ByteArray, y = x ++ t := ⟨_, rfl⟩
  have hys : y.size ≤ 40 := by rw [hy, ByteArray.size_append]; omega
  have HY : Hid (y.data.toList = saidL a b c n t.data.toList) := by
    show _ = _
    rw [hy]; unfold saidL; rw [← HX.out]; simp
  go_wp2_with fail
  rw [← hy]
  clear hy
  refine (seal_any y _ (by omega)).mono ?_
  rintro e w2 ⟨⟨r, rfl, hr, hrs⟩, hk⟩
  have HK2 : Hid (Kept w w2) := HK1.out.trans hk
  have HR : Hid (r.data.toList = sealL (saidL a b c n t.data.toList)) := by show _ = _; rw [hr.out, HY.out]
  clear hk hr HK1
  have hrl : r.size < 256 := by omega
  have hcv := one_conv w2 r.size hrl 5
  have hw8 : IntKind.u8.wrap (r.size : Int) = (r.size : Int) := IntWalk.u8_in _ (by omega)
  clear hrs
  go_wp2_with fail
  go_ret
  refine ⟨⟨_, rfl, ?_⟩, HK2.out.alloc _⟩
  show _ = _
  unfold headL
  rw [← HR.out, data_len]
  simp
end Go.Proofs.YtdpkmonlkdegjaaGreatDoor

/- The program's shard: what a sector tells as a head. -/
namespace Go.Proofs.YtdpkmonlkdegjaaGreatDoor
open Go.RowKit Sm Wr _root_.Go.Proofs.YtdpkmonlkdegjaaGreatDoor.Nm
set_option linter.unusedVariables false
set_option maxRecDepth 100000 in
theorem next_any (b c : Nat) (s : St) (w : World) (hR : WrAt w b s) (hc : w.cell? ⟨c, 0, none⟩ = some (.pointer (some ⟨b, 0, none⟩))) :
    Calls Tryz.prog 67 #[.pointer (some ⟨c, 0, none⟩)] w fun e w' => e = .returned (.int .u64 ((qNum big s).1 : Nat)) ∧ WrAt w' b (qNum big s).2 ∧ But b w w' := by
  have HC := Lib.hid (num_any b s 18446744073709551615 w hR (by decide) (by decide))
  rw [show (18446744073709551615 : Int).toNat = big from rfl] at HC
  clear hR
  generalize qNum big s = q at *
  go_enter Tryz.func67, Tryz.ntmps67
  go_wp2_with fail
  refine HC.out.mono ?_
  rintro e w1 ⟨rfl, hW, hB⟩
  have HW := Lib.hid hW
  have HB := Lib.hid hB
  clear hW hB
  go_wp2_with fail
  go_ret
  exact ⟨rfl, HW.out, HB.out⟩
/-- Four numbers lie in block g. -/
structure NumAt (w : World) (g a b c n : Nat) : Prop where
  c0 : w.cell? ⟨g, 0, none⟩ = some (.int .u64 (a : Nat))
  c1 : w.cell? ⟨g, 1, none⟩ = some (.int .u64 (b : Nat))
  c2 : w.cell? ⟨g, 2, none⟩ = some (.int .u64 (c : Nat))
  c3 : w.cell? ⟨g, 3, none⟩ = some (.int .u64 (n : Nat))
  f0 : w.frozen? ⟨g, 0, none⟩ = false
  f1 : w.frozen? ⟨g, 1, none⟩ = false
  f2 : w.frozen? ⟨g, 2, none⟩ = false
  f3 : w.frozen? ⟨g, 3, none⟩ = false
theorem NumAt.lt {w : World} {g a b c n : Nat} (h : NumAt w g a b c n) : g < w.heap.size := block_lt_of_cell h.c0
theorem NumAt.frame {w w' : World} {g a b c n : Nat} (h : NumAt w g a b c n) (e : w'.heap[g]? = w.heap[g]?) : NumAt w' g a b c n := by
  have ce : ∀ o, w'.cell? ⟨g, o, none⟩ = w.cell? ⟨g, o, none⟩ := fun o => World.cell?_of_block (w := w) (a := ⟨g, o, none⟩) e
  have fe : ∀ o, w'.frozen? ⟨g, o, none⟩ = w.frozen? ⟨g, o, none⟩ := fun o => World.frozen?_of_block (w := w) (a := ⟨g, o, none⟩) e
  exact ⟨by rw [ce]; exact h.c0, by rw [ce]; exact h.c1, by rw [ce]; exact h.c2, by rw [ce]; exact h.c3, by rw [fe]; exact h.f0, by rw [fe]; exact h.f1, by rw [fe]; exact h.f2, by rw [fe]; exact h.f3⟩
theorem NumAt.kept {w w' : World} {g a b c n : Nat} (h : NumAt w g a b c n) (k : Kept w w') : NumAt w' g a b c n := h.frame (k.block g h.lt)
theorem NumAt.but {w w' : World} {g a b c n q : Nat} (h : NumAt w g a b c n) (k : But q w w') (hq : g ≠ q) : NumAt w' g a b c n := h.frame (k.block g h.lt hq)
theorem NumAt.new (w : World) (T : TypeId) : NumAt (w.alloc (.cells #[.int .u64 0, .int .u64 0, .int .u64 0, .int .u64 0] T)) w.heap.size 0 0 0 0 := by
  constructor
  all_goals first | (rw [World.cell?_alloc_mark]; rfl) | (rw [World.frozen?_alloc_mark]; rfl)
theorem NumAt.laid (w : World) (T : TypeId) (a b c n : Nat) : NumAt (w.alloc (.cells #[.int .u64 (a : Nat), .int .u64 (b : Nat), .int .u64 (c : Nat), .int .u64 (n : Nat)] T)) w.heap.size a b c n := by
  constructor
  all_goals first | (rw [World.cell?_alloc_mark]; rfl) | (rw [World.frozen?_alloc_mark]; rfl)
def putNums (w : World) (g a b c n : Nat) : World := (((w.setCell ⟨g, 0, none⟩ (.int .u64 (a : Nat))).setCell ⟨g, 1, none⟩ (.int .u64 (b : Nat))).setCell ⟨g, 2, none⟩ (.int .u64 (c : Nat))).setCell ⟨g, 3, none⟩ (.int .u64 (n : Nat))
theorem NumAt.put {w : World} {g a b c n : Nat} (h : NumAt w g a b c n) (a' b' c' n' : Nat) : NumAt (putNums w g a' b' c' n') g a' b' c' n' := by
  have hs : ∀ (W : World) (o o' : Nat) (v : Value), o ≠ o' → (W.setCell ⟨g, o', none⟩ v).cell? ⟨g, o, none⟩ = W.cell? ⟨g, o, none⟩ := fun W o o' v hne => World.cell?_setCell_other _ _ _ _ (by intro e; injection e with _ e; exact hne e.symm)
  unfold putNums
  refine ⟨?_, ?_, ?_, ?_, ?_, ?_, ?_, ?_⟩
  · rw [hs _ _ _ _ (by decide), hs _ _ _ _ (by decide), hs _ _ _ _ (by decide)]; exact World.cell?_setCell_same _ _ _ h.c0
  · rw [hs _ _ _ _ (by decide), hs _ _ _ _ (by decide)]; exact World.cell?_setCell_same _ _ _ (by rw [hs _ _ _ _ (by decide)]; exact h.c1)
  · rw [hs _ _ _ _ (by decide)]; exact World.cell?_setCell_same _ _ _ (by rw [hs _ _ _ _ (by decide), hs _ _ _ _ (by decide)]; exact h.c2)
  · exact World.cell?_setCell_same _ _ _ (by rw [hs _ _ _ _ (by decide), hs _ _ _ _ (by decide), hs _ _ _ _ (by decide)]; exact h.c3)
  · simp only [World.frozen?_setCell]; exact h.f0
  · simp only [World.frozen?_setCell]; exact h.f1
  · simp only [World.frozen?_setCell]; exact h.f2
  · simp only [World.frozen?_setCell]; exact h.f3
theorem putNums_kept {w0 w : World} (h : Kept w0 w) (g a b c n : Nat) (hg : w0.heap.size ≤ g) : Kept w0 (putNums w g a b c n) :=
  (((h.setCell (p := ⟨g, 0, none⟩) hg _).setCell (p := ⟨g, 1, none⟩) hg _).setCell (p := ⟨g, 2, none⟩) hg _).setCell (p := ⟨g, 3, none⟩) hg _
theorem WrAt.frame {w w' : World} {b : Nat} {s : St} (h : WrAt w b s) (e : w'.heap[b]? = w.heap[b]?) : WrAt w' b s := by
  obtain ⟨t, h1, h2, h3⟩ := h.text
  have ce : ∀ o, w'.cell? ⟨b, o, none⟩ = w.cell? ⟨b, o, none⟩ := fun o => World.cell?_of_block (w := w) (a := ⟨b, o, none⟩) e
  have fe : ∀ o, w'.frozen? ⟨b, o, none⟩ = w.frozen? ⟨b, o, none⟩ := fun o => World.frozen?_of_block (w := w) (a := ⟨b, o, none⟩) e
  exact ⟨⟨t, by rw [ce]; exact h1, h2, h3⟩, by rw [ce]; exact h.err, by rw [ce]; exact h.made, by rw [fe]; exact h.soft1, by rw [fe]; exact h.soft2⟩
/-- What look hands back. -/
def lookV : Option Hd → Value
  | .none => .tuple #[numsV 0 0 0 0, .string ⟨#[]⟩, .bool false]
  | some h => .tuple #[numsV h.a h.b h.c h.n, .string (ofL h.sum), .bool true]
theorem head_get (s : ByteArray) (h : 0 < s.size) : s.data.toList.headD 0 = s[0] := by
  obtain ⟨⟨l⟩⟩ := s
  cases l with
  | nil => cases h
  | cons a r => rfl
set_option maxHeartbeats 1000000 in
set_option maxRecDepth 100000 in
theorem look_any (s : ByteArray) (w : World) (hs : s.size = 64) :
    Calls Tryz.prog 35 #[.string s] w fun e w' => e = .returned (lookV (look s.data.toList)) ∧ Kept w w' := by
  obtain ⟨k, hk⟩ : ∃ k : Nat, k = s[0].toNat := ⟨_, rfl⟩
  have hk256 : k < 256 := by rw [hk]; exact s[0].toNat_lt
  have hkl : (s.data.toList.headD 0).toNat = k := by rw [head_get s (by omega), hk]
  have hsz : (s.size : Int) = 64 := by omega
  have hki : (s[0].toNat : Int) = k := by rw [hk]
  have HL := Lib.hid hkl
  have HK0 := Lib.hid hk
  clear hkl hk
  by_cases h1 : 64 < 1 + k
  · have HE : Hid (look s.data.toList = .none) := by show _ = _; unfold look; rw [HL.out, if_pos h1]
    have hb : decide ((64 : Int) < 1 + (k : Int)) = true := decide_eq_true (by omega)
    go_enter Tryz.func35, Tryz.ntmps35
    go_wp2_with fail
    rw [HE.out]
    exact bodyPost_ret (v := .tuple #[numsV 0 0 0 0, .string ⟨#[]⟩, .bool false]) (by simp [results, Tryz.results35, go_sem, numsV]) rfl ⟨rfl, (Kept.refl _).alloc _⟩
  · obtain ⟨m, hm⟩ : ∃ m : Nat, m = 1 + k := ⟨_, rfl⟩
    have hmi : 1 + (k : Int) = (m : Int) := by omega
    have hm64 : m ≤ 64 := by omega
    have hml : m ≤ s.size := by omega
    have hb : decide ((64 : Int) < (m : Int)) = false := decide_eq_false (by omega)
    obtain ⟨x, hx⟩ : ∃ x : ByteArray, x = s.extract m 64 := ⟨_, rfl⟩
    have HX : Hid (x.data.toList = s.data.toList.drop (1 + k)) := by
      show _ = _
      rw [hx, ← hm, show (64 : Nat) = s.size from hs.symm, ext_drop]
    have HBL := Lib.hid (fun W => blank_any x W (by rw [hx, ByteArray.size_extract]; omega))
    rw [HX.out] at HBL
    cases hz : allz (s.data.toList.drop (1 + k)) with
    | false =>
      have HE : Hid (look s.data.toList = .none) := by show _ = _; unfold look; rw [HL.out, if_neg h1, hz, if_pos rfl]
      rw [hz] at HBL
      clear hz HX HL hm h1
      go_enter Tryz.func35, Tryz.ntmps35
      go_wp2_with fail
      rw [← hx]
      clear hx
      refine (HBL.out _).mono ?_
      rintro e w1 ⟨rfl, hk⟩
      have HK : Hid (Kept w w1) := ((Kept.refl _).alloc _).trans hk
      have hN := (NumAt.new w 72).kept hk
      have HN := Lib.hid hN
      obtain ⟨g0, g1, g2, g3, f0, f1, f2, f3⟩ := hN
      clear hk HBL
      go_wp2_with fail
      have HP := Lib.hid (HN.out.put 0 0 0 0)
      have HKP := Lib.hid (putNums_kept HK.out w.heap.size 0 0 0 0 (Nat.le_refl _))
      unfold putNums at HP HKP
      rw [HE.out]
      exact bodyPost_ret (v := .tuple #[numsV 0 0 0 0, .string ⟨#[]⟩, .bool false]) (by have q0 := HP.out.c0; have q1 := HP.out.c1; have q2 := HP.out.c2; have q3 := HP.out.c3; (try simp at q0 q1 q2 q3); simp [results, Tryz.results35, go_sem, numsV, q0, q1, q2, q3]) rfl ⟨rfl, HKP.out⟩
    | true =>
      rw [hz] at HBL
      obtain ⟨y, hy⟩ : ∃ y : ByteArray, y = s.extract 1 m := ⟨_, rfl⟩
      have HY : Hid (y.data.toList = (s.data.toList.drop 1).take k) := by
        show _ = _
        rw [hy]
        have := ext_mid s 1 k
        rw [← hm] at this
        rw [this]
      have hys : y.size ≤ 64 := by rw [hy, ByteArray.size_extract]; omega
      have HOP := Lib.hid (fun W => open_any y W (by omega))
      cases hsd : isSealed y.data.toList with
      | false =>
        have HE : Hid (look s.data.toList = .none) := by show _ = _; unfold look; rw [HL.out, if_neg h1, hz, if_neg (by decide), ← HY.out, hsd, if_pos rfl]
        rw [hsd] at HOP
        have HOE : Hid (opened y = ⟨#[]⟩) := opened_no y hsd
        rw [HOE.out] at HOP
        clear hz HX HL hm h1 HY HOE hsd hys
        go_enter Tryz.func35, Tryz.ntmps35
        go_wp2_with fail
        rw [← hx]
        clear hx
        refine (HBL.out _).mono ?_
        rintro e w1 ⟨rfl, hk⟩
        have HK : Hid (Kept w w1) := ((Kept.refl _).alloc _).trans hk
        have hN := (NumAt.new w 72).kept hk
        have HN := Lib.hid hN
        clear hk HBL hN
        go_wp2_with fail
        rw [← hy]
        clear hy
        refine (HOP.out _).mono ?_
        rintro e w2 ⟨rfl, hk⟩
        have HK2 : Hid (Kept w w2) := HK.out.trans hk
        have hN := HN.out.kept hk
        have HN2 := Lib.hid hN
        obtain ⟨g0, g1, g2, g3, f0, f1, f2, f3⟩ := hN
        clear hk HOP
        go_wp2_with fail
        have HP := Lib.hid (HN2.out.put 0 0 0 0)
        have HKP := Lib.hid (putNums_kept HK2.out w.heap.size 0 0 0 0 (Nat.le_refl _))
        unfold putNums at HP HKP
        rw [HE.out]
        exact bodyPost_ret (v := .tuple #[numsV 0 0 0 0, .string ⟨#[]⟩, .bool false]) (by have q0 := HP.out.c0; have q1 := HP.out.c1; have q2 := HP.out.c2; have q3 := HP.out.c3; (try simp at q0 q1 q2 q3); simp [results, Tryz.results35, go_sem, numsV, q0, q1, q2, q3]) rfl ⟨rfl, HKP.out⟩
      | true =>
        obtain ⟨z, hzz⟩ : ∃ z, z = opened y := ⟨_, rfl⟩
        have HZ : Hid (z.data.toList = unsealed y.data.toList) := by
          show _ = _
          rw [hzz, opened_yes y hsd]
          unfold unsealed
          rw [data_len]; simp
        have hzs : z.size ≤ 281474976710656 := by
          have h5 := congrArg List.length HZ.out
          unfold unsealed at h5
          rw [List.length_take, data_len, data_len] at h5
          omega
        have HE : Hid (look s.data.toList = hdOf (unsealed y.data.toList)) := by show _ = _; unfold look; rw [HL.out, if_neg h1, hz, if_neg (by decide), ← HY.out, hsd, if_neg (by decide)]
        rw [hsd, ← hzz] at HOP
        have hen := enters_of Tryz.func67 (by kernel_rfl) rfl
        have HEN := Lib.hid hen
        clear hz HX HL hm h1 HY hsd hys hzz hen
        go_enter Tryz.func35, Tryz.ntmps35
        go_wp2_with fail
        rw [← hx]
        clear hx
        refine (HBL.out _).mono ?_
        rintro e w1 ⟨rfl, hk⟩
        have HK : Hid (Kept w w1) := ((Kept.refl _).alloc _).trans hk
        have hN := (NumAt.new w 72).kept hk
        have HN := Lib.hid hN
        clear hk HBL hN
        go_wp2_with fail
        rw [← hy]
        clear hy
        refine (HOP.out _).mono ?_
        rintro e w2 ⟨rfl, hk⟩
        have HK2 : Hid (Kept w w2) := HK.out.trans hk
        have HN2 := Lib.hid (HN.out.kept hk)
        clear hk HOP HN
        go_wp2_with fail
        refine (new_any z _ hzs).mono ?_
        rintro e w3 ⟨b, rfl, hbl, hW, hk⟩
        have HK3 : Hid (Kept w w3) := HK2.out.trans hk
        have HN3 := Lib.hid (HN2.out.kept hk)
        have HW3 := Lib.hid hW
        have HBG : Hid (w.heap.size < b) := Nat.lt_of_lt_of_le HN2.out.lt hbl
        clear hk HN2 hW hbl
        go_wp2_with fail
        have HK4 : Hid (Kept w (w3.alloc (.cells #[.pointer (some ⟨b, 0, none⟩)] 130))) := HK3.out.alloc _
        have HR4 := Lib.hid (HW3.out.kept ((Kept.refl w3).alloc (.cells #[.pointer (some ⟨b, 0, none⟩)] 130)))
        have HN4 := Lib.hid (HN3.out.kept ((Kept.refl w3).alloc (.cells #[.pointer (some ⟨b, 0, none⟩)] 130)))
        have HC4 : Hid ((w3.alloc (.cells #[.pointer (some ⟨b, 0, none⟩)] 130)).cell? ⟨w3.heap.size, 0, none⟩ = some (.pointer (some ⟨b, 0, none⟩))) := by show _ = _; rw [World.cell?_alloc_mark]; rfl
        have HBC : Hid (w3.heap.size ≠ b) := by have := HW3.out.lt; show _ ≠ _; omega
        generalize w3.alloc (.cells #[.pointer (some ⟨b, 0, none⟩)] 130) = w4 at *
        have HCN : Hid (w3.heap.size ≠ w.heap.size) := by have := HW3.out.lt; have := HBG.out; show _ ≠ _; omega
        generalize w3.heap.size = c at *
        clear HK3 HW3 HN3
        refine (next_any b c _ _ HR4.out HC4.out).mono ?_
        rintro e w5 ⟨rfl, hW, hB⟩
        have HR5 := Lib.hid hW
        have HK5 : Hid (Kept w w5) := But.kept HK4.out (Nat.le_of_lt HBG.out) hB
        have HN5 := Lib.hid (HN4.out.but hB (Nat.ne_of_lt HBG.out))
        have HC5 : Hid (w5.cell? ⟨c, 0, none⟩ = some (.pointer (some ⟨b, 0, none⟩))) := by show _ = _; rw [hB.cell (p := ⟨c, 0, none⟩) (block_lt_of_cell HC4.out) HBC.out]; exact HC4.out
        clear hW hB HR4 HK4 HN4 HC4
        go_wp2_with fail
        refine (next_any b c _ _ HR5.out HC5.out).mono ?_
        rintro e w6 ⟨rfl, hW, hB⟩
        have HR6 := Lib.hid hW
        have HK6 : Hid (Kept w w6) := But.kept HK5.out (Nat.le_of_lt HBG.out) hB
        have HN6 := Lib.hid (HN5.out.but hB (Nat.ne_of_lt HBG.out))
        have HC6 : Hid (w6.cell? ⟨c, 0, none⟩ = some (.pointer (some ⟨b, 0, none⟩))) := by show _ = _; rw [hB.cell (p := ⟨c, 0, none⟩) (block_lt_of_cell HC5.out) HBC.out]; exact HC5.out
        clear hW hB HR5 HK5 HN5 HC5
        go_wp2_with fail
        refine (next_any b c _ _ HR6.out HC6.out).mono ?_
        rintro e w7 ⟨rfl, hW, hB⟩
        have HR7 := Lib.hid hW
        have HK7 : Hid (Kept w w7) := But.kept HK6.out (Nat.le_of_lt HBG.out) hB
        have HN7 := Lib.hid (HN6.out.but hB (Nat.ne_of_lt HBG.out))
        have HC7 : Hid (w7.cell? ⟨c, 0, none⟩ = some (.pointer (some ⟨b, 0, none⟩))) := by show _ = _; rw [hB.cell (p := ⟨c, 0, none⟩) (block_lt_of_cell HC6.out) HBC.out]; exact HC6.out
        clear hW hB HR6 HK6 HN6 HC6
        go_wp2_with fail
        refine (next_any b c _ _ HR7.out HC7.out).mono ?_
        rintro e w8 ⟨rfl, hW, hB⟩
        have HR8 := Lib.hid hW
        have HK8 : Hid (Kept w w8) := But.kept HK7.out (Nat.le_of_lt HBG.out) hB
        have HN8 := Lib.hid (HN7.out.but hB (Nat.ne_of_lt HBG.out))
        have HC8 : Hid (w8.cell? ⟨c, 0, none⟩ = some (.pointer (some ⟨b, 0, none⟩))) := by show _ = _; rw [hB.cell (p := ⟨c, 0, none⟩) (block_lt_of_cell HC7.out) HBC.out]; exact HC7.out
        clear hW hB HR7 HK7 HN7 HC7
        obtain ⟨q0, hq0⟩ : ∃ q, q = qNum big ⟨z.data.toList, 0⟩ := ⟨_, rfl⟩
        rw [← hq0] at HR8 ⊢
        obtain ⟨q1, hq1⟩ : ∃ q, q = qNum big q0.2 := ⟨_, rfl⟩
        rw [← hq1] at HR8 ⊢
        obtain ⟨q2, hq2⟩ : ∃ q, q = qNum big q1.2 := ⟨_, rfl⟩
        rw [← hq2] at HR8 ⊢
        obtain ⟨q3, hq3⟩ : ∃ q, q = qNum big q2.2 := ⟨_, rfl⟩
        rw [← hq3] at HR8 ⊢
        have HH : Hid (hdQ big big big big (unsealed y.data.toList) = (⟨q0.1, q1.1, q2.1, q3.1, (qRest q3.2).1⟩, q3.2.e)) := by
          show _ = _
          unfold hdQ
          rw [← HZ.out, ← hq0]; dsimp only; rw [← hq1, ← hq2, ← hq3]
        clear hq0 hq1 hq2 hq3
        obtain ⟨a0, s0⟩ := q0
        obtain ⟨a1, s1⟩ := q1
        obtain ⟨a2, s2⟩ := q2
        obtain ⟨a3, s3⟩ := q3
        dsimp only at HR8 HH ⊢
        have HN9 := Lib.hid (HN8.out.put a0 a1 a2 a3)
        have HK9 := Lib.hid (putNums_kept HK8.out w.heap.size a0 a1 a2 a3 (Nat.le_refl _))
        have HCG : Hid (c ≠ w.heap.size) := HCN.out
        have HO9 : Hid (∀ k, k ≠ w.heap.size → (putNums w8 w.heap.size a0 a1 a2 a3).heap[k]? = w8.heap[k]?) := fun k hk => by
          unfold putNums
          rw [Below.heap_setCell _ _ _ _ hk, Below.heap_setCell _ _ _ _ hk, Below.heap_setCell _ _ _ _ hk, Below.heap_setCell _ _ _ _ hk]
        have HR9 : Hid (WrAt (putNums w8 w.heap.size a0 a1 a2 a3) b s3) := HR8.out.frame (HO9.out _ (Nat.ne_of_gt HBG.out))
        have HC9 : Hid ((putNums w8 w.heap.size a0 a1 a2 a3).cell? ⟨c, 0, none⟩ = some (.pointer (some ⟨b, 0, none⟩))) := by
          show _ = _
          rw [World.cell?_of_block (w := w8) (a := ⟨c, 0, none⟩) (HO9.out _ HCG.out)]; exact HC8.out
        obtain ⟨g0, g1, g2, g3, f0, f1, f2, f3⟩ := HN8.out
        unfold putNums at HN9 HK9 HR9 HC9
        clear HN8 HK8 HR8 HC8 HO9
        go_upto_region 10 with fail
        clear g0 g1 g2 g3 f0 f1 f2 f3
        generalize (((w8.setCell ⟨w.heap.size, 0, none⟩ (.int .u64 (a0 : Nat))).setCell ⟨w.heap.size, 1, none⟩ (.int .u64 (a1 : Nat))).setCell ⟨w.heap.size, 2, none⟩ (.int .u64 (a2 : Nat))).setCell ⟨w.heap.size, 3, none⟩ (.int .u64 (a3 : Nat)) = w9 at *
        have hc9 := HC9.out
        go_wp2_with fail
        refine (rest_any b s3 _ HR9.out).mono ?_
        rintro e w10 ⟨rfl, _, hB⟩
        have HK10 : Hid (Kept w w10) := But.kept HK9.out (Nat.le_of_lt HBG.out) hB
        have HN10 := Lib.hid (HN9.out.but hB (Nat.ne_of_lt HBG.out))
        clear hB HK9 HN9 hc9 HC9 HR9
        generalize (qRest s3).1 = zs at *
        have hzl : ((⟨zs.toArray⟩ : ByteArray).size : Int) = (zs.length : Int) := by rw [mk_len]
        have hrt : (⟨zs.toArray⟩ : ByteArray) = ofL zs := rfl
        rw [hrt] at hzl ⊢
        have HOL : Hid (ofL zs = ofL zs) := rfl
        generalize hR : ofL zs = R at *
        have HRR := Lib.hid hR
        clear hR hrt HOL
        by_cases h4 : zs.length = 4
        · have hb4 : ((R.size : Int) != 4) = false := by rw [hzl, h4]; rfl
          have HMY := Lib.hid (fun W => may_any a0 a1 a2 a3 W)
          cases hmy : mayN a0 a1 a2 a3 with
          | false =>
            have HE2 : Hid (look s.data.toList = .none) := by
              show _ = _
              rw [HE.out]; unfold hdOf; rw [HH.out]
              exact if_neg (fun h => by have h5 : mayN a0 a1 a2 a3 = true := h.2; rw [hmy] at h5; cases h5)
            rw [hmy] at HMY
            clear hmy h4 hzl
            obtain ⟨g0, g1, g2, g3, f0, f1, f2, f3⟩ := HN10.out
            go_wp2_with fail
            unfold numsV at HMY
            refine (HMY.out _).mono ?_
            rintro e w11 ⟨rfl, hk⟩
            have HK11 : Hid (Kept w w11) := HK10.out.trans hk
            have HN11 := Lib.hid (HN10.out.kept hk)
            clear g0 g1 g2 g3 f0 f1 f2 f3 hk HMY HN10 HK10
            have HP := Lib.hid (HN11.out.put 0 0 0 0)
            have HKP := Lib.hid (putNums_kept HK11.out w.heap.size 0 0 0 0 (Nat.le_refl _))
            unfold putNums at HP HKP
            obtain ⟨g0, g1, g2, g3, f0, f1, f2, f3⟩ := HN11.out
            go_wp2_with fail
            rw [HE2.out]
            exact bodyPost_ret (v := .tuple #[numsV 0 0 0 0, .string ⟨#[]⟩, .bool false]) (by have q0 := HP.out.c0; have q1 := HP.out.c1; have q2 := HP.out.c2; have q3 := HP.out.c3; (try simp at q0 q1 q2 q3); simp [results, Tryz.results35, go_sem, numsV, q0, q1, q2, q3]) rfl ⟨rfl, HKP.out⟩
          | true =>
            have HE2 : Hid (look s.data.toList = some ⟨a0, a1, a2, a3, zs⟩) := by
              show _ = _
              rw [HE.out]; unfold hdOf; rw [HH.out]
              exact if_pos ⟨h4, hmy⟩
            rw [hmy] at HMY
            clear hmy h4 hzl
            obtain ⟨g0, g1, g2, g3, f0, f1, f2, f3⟩ := HN10.out
            go_wp2_with fail
            unfold numsV at HMY
            refine (HMY.out _).mono ?_
            rintro e w11 ⟨rfl, hk⟩
            have HK11 : Hid (Kept w w11) := HK10.out.trans hk
            have HN11 := Lib.hid (HN10.out.kept hk)
            clear g0 g1 g2 g3 f0 f1 f2 f3 hk HMY HN10 HK10
            have HP := Lib.hid (HN11.out.put a0 a1 a2 a3)
            have HKP := Lib.hid (putNums_kept HK11.out w.heap.size a0 a1 a2 a3 (Nat.le_refl _))
            unfold putNums at HP HKP
            obtain ⟨g0, g1, g2, g3, f0, f1, f2, f3⟩ := HN11.out
            go_wp2_with fail
            rw [HE2.out]
            exact bodyPost_ret (v := .tuple #[numsV a0 a1 a2 a3, .string R, .bool true]) (by have q0 := HP.out.c0; have q1 := HP.out.c1; have q2 := HP.out.c2; have q3 := HP.out.c3; (try simp at q0 q1 q2 q3); simp [results, Tryz.results35, go_sem, numsV, q0, q1, q2, q3]) rfl ⟨by unfold lookV; dsimp only; rw [HRR.out], HKP.out⟩
        · have hb4 : ((R.size : Int) != 4) = true := by rw [hzl]; simp; omega
          have HE2 : Hid (look s.data.toList = .none) := by
            show _ = _
            rw [HE.out]; unfold hdOf; rw [HH.out]
            exact if_neg (fun h => h4 h.1)
          clear h4 hzl
          have HP := Lib.hid (HN10.out.put 0 0 0 0)
          have HKP := Lib.hid (putNums_kept HK10.out w.heap.size 0 0 0 0 (Nat.le_refl _))
          unfold putNums at HP HKP
          obtain ⟨g0, g1, g2, g3, f0, f1, f2, f3⟩ := HN10.out
          go_wp2_with fail
          rw [HE2.out]
          exact bodyPost_ret (v := .tuple #[numsV 0 0 0 0, .string ⟨#[]⟩, .bool false]) (by have q0 := HP.out.c0; have q1 := HP.out.c1; have q2 := HP.out.c2; have q3 := HP.out.c3; (try simp at q0 q1 q2 q3); simp [results, Tryz.results35, go_sem, numsV, q0, q1, q2, q3]) rfl ⟨rfl, HKP.out⟩
end Go.Proofs.YtdpkmonlkdegjaaGreatDoor

