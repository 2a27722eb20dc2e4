/- KFieldText, KFieldSum. -/
import Derived.Test.YthifdfbdekkmgaaPart28
import Derived.Deep.OwnRows
import Derived.Deep.RegionHeld3
import Derived.Deep.RegionWith
import Derived.Laws.OwnMore
import Derived.Deep.DeepCutAuto
set_option linter.unusedVariables false
set_option linter.unusedSimpArgs false
set_option linter.unusedSectionVars false
set_option linter.unnecessarySimpa false
set_option linter.deprecated false
/- What the calls on texts answer. -/
namespace Go.Proofs.Ythifdfbdekkmgaa.Kid
open Go.RowKit Gf
set_option linter.unusedVariables false
/-- n bytes told by a function lie in block g, and may be written. -/
structure Byt (g n : Nat) (f : Nat → UInt8) (w : World) : Prop where
  cell : ∀ j, j < n → w.cell? ⟨g, j, none⟩ = some (.int .u8 ((f j).toNat : Nat))
  free : ∀ j, j < n → w.frozen? ⟨g, j, none⟩ = false
def upd (f : Nat → UInt8) (k : Nat) (v : UInt8) (j : Nat) : UInt8 := if j = k then v else f j
theorem Byt.drewN {g n : Nat} {f : Nat → UInt8} {w : World} (h : Byt g n f w) (m : Nat) : Byt g n f (w.drewN m) := ⟨h.cell, h.free⟩
theorem Byt.set {g n : Nat} {f : Nat → UInt8} {w : World} (h : Byt g n f w) (k : Nat) (hk : k < n) (v : UInt8) : Byt g n (upd f k v) (w.setCell ⟨g, k, none⟩ (.int .u8 (v.toNat : Nat))) := by
  refine ⟨fun j hj => ?_, fun j hj => by rw [World.frozen?_setCell]; exact h.free j hj⟩
  unfold upd
  by_cases e : j = k
  · subst e
    rw [if_pos rfl, World.cell?_setCell_same _ _ _ (h.cell j hj)]
  · rw [if_neg e, World.cell?_setCell_other _ _ _ _ (fun h => e (by injection h with _ e2; exact e2.symm)), h.cell j hj]
theorem Byt.congr {g n : Nat} {f f' : Nat → UInt8} {w : World} (h : Byt g n f w) (e : ∀ j, j < n → f' j = f j) : Byt g n f' w :=
  ⟨fun j hj => by rw [e j hj]; exact h.cell j hj, h.free⟩
/-- A byte of a text; 0 behind its end. -/
def bt (s : ByteArray) (j : Nat) : UInt8 := s.data.toList[j]!
theorem bt_get (s : ByteArray) (j : Nat) (h : j < s.size) : s[j] = bt s j := by
  unfold bt
  rw [getElem!_pos s.data.toList j (by simpa using h)]
  simp
  rfl
/-- The product of an element and a byte. -/
def mb (c : Nat) (x : UInt8) : UInt8 := UInt8.ofNat (mul c x.toNat)
theorem mb_nat (c : Nat) (x : UInt8) (hc : c < 256) : (mb c x).toNat = mul c x.toNat := by
  have h := mul_lt hc x.toNat_lt
  unfold mb
  simp
  omega
/-- The first k bytes with c's products added. -/
def adds (f : Nat → UInt8) (c : Nat) (s : ByteArray) (k j : Nat) : UInt8 := if j < k then f j ^^^ mb c (bt s j) else f j
theorem adds_next (f : Nat → UInt8) (c : Nat) (s : ByteArray) (k j : Nat) : adds f c s (k + 1) j = upd (adds f c s k) k (f k ^^^ mb c (bt s k)) j := by
  unfold upd
  by_cases e : j = k
  · subst e; unfold adds; rw [if_pos (by omega), if_pos rfl]
  · rw [if_neg e]
    unfold adds
    by_cases h : j < k
    · rw [if_pos (by omega), if_pos h]
    · rw [if_neg (by omega), if_neg h]
theorem xor_mb (x : UInt8) (c : Nat) (y : UInt8) (hc : c < 256) : bits .xor .u8 (x.toNat : Nat) ((mul c y.toNat : Nat) : Int) = (((x ^^^ mb c y).toNat : Nat) : Int) := by
  rw [u8_xor_nat _ _ x.toNat_lt (mul_lt hc y.toNat_lt), UInt8.toNat_xor, mb_nat c y hc]
set_option maxRecDepth 100000 in
theorem adds_any (g r n cap : Nat) (f : Nat → UInt8) (c : Nat) (s : ByteArray) (hc : c < 256) (hn : n ≤ 100000000) (hs : s.size = n) (w : World) (hT : Tab g w) (hB : Byt r n f w) (hr : r < w.heap.size) (hgr : g ≠ r) :
    Calls Kid.prog 70 #[.pointer (some ⟨g, 0, none⟩), .slice (some ⟨r, 0, none⟩) n cap, .int .u8 (c : Nat), .string s] w fun e w' => e = .returned (.tuple #[]) ∧ But r w w' ∧ Byt r n (adds f c s n) w' := by
  subst hs
  have HT := Lib.hid hT
  have HB := Lib.hid hB
  clear hT hB
  go_enter Kid.func70, Kid.ntmps70
  go_wp2_with fail
  go_loopw [11] (fun i wr => ∃ k : Nat, k ≤ s.size ∧ i = .int .i64 k ∧ But r w wr ∧ Hid (Byt r s.size (adds f c s k) wr)) (fun i _ => s.size - (intOf i).toNat)
  case atStart => exact ⟨0, Nat.zero_le _, rfl, But.refl _ _, HB.out.congr (fun j _ => by unfold adds; rw [if_neg (by omega)])⟩
  case round =>
    obtain ⟨k, hk, rfl, hbut, HY⟩ := hrel
    by_cases hlt : k < s.size
    · have hT2 : Hid (Tab g wr) := fun j hj => by
        have h := HT.out j hj
        rw [hbut.cell (p := ⟨g, j, none⟩) (block_lt_of_cell h) hgr, h]
      have hcell := HY.out.cell k hlt
      have hfree := HY.out.free k hlt
      rw [show adds f c s k k = f k from by unfold adds; rw [if_neg (by omega)]] at hcell
      have HX := Lib.hid (xor_mb (f k) c (bt s k) hc)
      have HS := Lib.hid (HY.out.set k hlt (f k ^^^ mb c (bt s k)))
      have hg := bt_get s k hlt
      have HN := Lib.hid (adds_next f c s k)
      rw [← hg] at HX HS
      have HGT := Lib.hid hg
      clear hg
      have HFK : Hid (∀ j, adds f c s (k + 1) j = upd (adds f c s k) k (f k ^^^ mb c s[k]) j) := by rw [HGT.out]; exact HN.out
      clear HN
      generalize f k = x at *
      have hy := s[k].toNat_lt
      go_wp2_with fail
      go_region_with (go_at_call 94; refine (of_drew g c s[k].toNat hc hy _ (hT2.out.drewN _)).mono ?_; rintro e w3 ⟨rfl, m, rfl⟩)
      all_goals
        rw [HX.out]
        have HF : Hid (Byt r s.size (adds f c s (k + 1)) ((wr.drewN (1 + m)).setCell ⟨r, k, none⟩ (.int .u8 ((x ^^^ mb c s[k]).toNat : Nat)))) := ((HY.out.drewN (1 + m)).set k hlt (x ^^^ mb c s[k])).congr (fun j _ => HFK.out j)
        have HB2 : Hid (But r w ((wr.drewN (1 + m)).setCell ⟨r, k, none⟩ (.int .u8 ((x ^^^ mb c s[k]).toNat : Nat)))) := (hbut.trans (((Kept.refl _).drewN _).but r)).setCell _ _
        generalize (wr.drewN (1 + m)).setCell ⟨r, k, none⟩ (.int .u8 ((x ^^^ mb c s[k]).toNat : Nat)) = w5 at *
        go_wp2_with fail
        exact ⟨⟨k + 1, by omega, by go_num, HB2.out, HF⟩, by simp [intOf]; omega⟩
    · obtain rfl : k = s.size := by omega
      go_wp2_with fail
      go_end0
      exact ⟨rfl, hbut, HY.out⟩
theorem info_byte : (Kid.prog.info? 5).map (fun i => (i.zero, i.size, i.bytes)) = some (some (.int .u8 0), 1, 1) := by kernel_rfl
/-- n bytes told by a function, as a text. -/
def strOf (n : Nat) (f : Nat → UInt8) : ByteArray := ⟨((List.range n).map f).toArray⟩
theorem strOf_size (n : Nat) (f : Nat → UInt8) : (strOf n f).size = n := by show (((List.range n).map f).toArray).size = n; simp
theorem strOf_bt (n : Nat) (f : Nat → UInt8) (j : Nat) (h : j < n) : bt (strOf n f) j = f j := by
  unfold bt strOf
  simp [h]
theorem str_ext' (a b : ByteArray) (h : a.size = b.size) (e : ∀ j, j < a.size → bt a j = bt b j) : a = b := by
  apply ByteArray.ext
  apply Array.ext
  · exact h
  · intro i h1 h2
    have := e i h1
    unfold bt at this
    rw [getElem!_pos a.data.toList i (by simpa using h1), getElem!_pos b.data.toList i (by simpa using h2)] at this
    simpa using this
theorem strOf_self (s : ByteArray) : strOf s.size (bt s) = s := str_ext' _ _ (strOf_size _ _) (fun j h => strOf_bt _ _ _ (by rw [strOf_size] at h; exact h))
theorem strOf_congr (n : Nat) (f g : Nat → UInt8) (h : ∀ j, j < n → f j = g j) : strOf n f = strOf n g := str_ext' _ _ (by rw [strOf_size, strOf_size]) (fun j hj => by rw [strOf_size] at hj; rw [strOf_bt _ _ _ hj, strOf_bt _ _ _ hj, h j hj])
theorem byt_string (g n cap : Nat) (f : Nat → UInt8) (w : World) (h : Byt g n f w) :
    (convert 41 9 (.slice (some ⟨g, 0, none⟩) n cap)).run Kid.prog w = .ok (.string (strOf n f)) w := by
  have hr := run_convert_bytes_back (P := Kid.prog) w 41 9 5 ⟨g, 0, none⟩ cap ((List.range n).map f) Kid.underlying41 Kid.underlying5 Kid.underlying9 (fun j hj => by
    have hj' : j < n := by simpa using hj
    rw [add_at]
    simpa using h.cell j hj')
  rw [show ((List.range n).map f).length = n from by simp] at hr
  exact hr
theorem made_zero (n : Nat) : madeCells #[Value.int .u8 0] n = row n fun _ => .int .u8 0 := by
  apply Array.ext'
  rw [toList_madeCells_one]
  unfold row
  simp
  apply List.ext_getElem?
  intro i
  by_cases h : i < n <;> simp [h]
theorem Byt.made (w : World) (n : Nat) : Byt w.heap.size n (fun _ => 0) (w.alloc (.cells (row n fun _ => .int .u8 0) 5)) := by
  refine ⟨fun j hj => ?_, fun j hj => ?_⟩
  · rw [World.cell?_alloc_mark, row_get _ _ j hj]; rfl
  · rw [World.frozen?_alloc_mark]; simp
/-- A text with an element: each byte's product. -/
def timesB (c : Nat) (s : ByteArray) : ByteArray := strOf s.size fun j => mb c (bt s j)
theorem size_int (n : Nat) : ((n : Nat) : Int).toNat = n := rfl
set_option maxRecDepth 100000 in
theorem times_any (c : Nat) (s : ByteArray) (hc : c < 256) (hs : s.size ≤ 100000000) (w : World) :
    Calls Kid.prog 104 #[.int .u8 (c : Nat), .string s] w fun e w' => e = .returned (.string (timesB c s)) ∧ Kept w w' := by
  go_enter Kid.func104, Kid.ntmps104
  go_wp2_with fail
  refine (powers_any _).mono ?_
  rintro e w1 ⟨rfl, hk1⟩
  have hz := zero_arr
  rw [← tab_zero] at hz
  have HB := Lib.hid (World.setRow_alloc_new w1 (tabF 0) (tabF 255) 115)
  have HG := Lib.hid (heap_alloc_last w1 (.cells (tabF 0) 115))
  have hsz : (Kid.prog.info? 115).map (·.size) = some (tabF 255).size := by rw [tab_size]; exact info_arr
  have HSZ := Lib.hid hsz
  clear hsz
  have HOLD : (tabF 0).size = (tabF 255).size := by rw [tab_size, tab_size]
  have HTO := Lib.hid (tab_one 255)
  have hk2 : Kept w (w1.alloc (.cells (tabF 255) 115)) := hk1.alloc _
  have hT : Tab w1.heap.size (w1.alloc (.cells (tabF 255) 115)) := Tab.new w1
  generalize tabF 255 = T at *
  generalize tabF 0 = T0 at *
  go_upto_region 2 with (first | ((with_reducible refine wpList_store_row rfl 115 _ _ rfl w1.heap.size T rfl rfl 115 T0 HG.out HSZ.out HOLD HTO.out ?_); rw [HB.out]; clear hz HB HG HSZ HOLD HTO))
  generalize w1.alloc (.cells T 115) = w2 at *
  generalize w1.heap.size = g at *
  have hmk := fun W => run_make_row' (P := Kid.prog) 41 5 (.int .u8 0) 1 Kid.underlying41 info_byte rfl .i64 .i64 s.size (by omega) (by omega) W
  rw [made_zero] at hmk
  have HMD := Lib.hid (Byt.made w2 s.size)
  have HK2 : Hid (Kept w2 (w2.alloc (.cells (row s.size fun _ => .int .u8 0) 5))) := (Kept.refl _).alloc _
  have HLT : Hid (w2.heap.size < (w2.alloc (.cells (row s.size fun _ => .int .u8 0) 5)).heap.size) := by show _ < (w2.heap.push _).size; simp
  have HTL : Hid (g ≠ w2.heap.size) := by
    have := block_lt_of_cell (hT 0 (by decide))
    exact Nat.ne_of_lt this
  have HT := Lib.hid hT
  clear hT hk1
  generalize (row s.size fun _ => Value.int .u8 0) = R at *
  go_wp2_with fail
  refine (adds_any g w2.heap.size s.size s.size (fun _ => 0) c s hc hs rfl _ (HT.out.kept HK2.out) HMD.out HLT.out HTL.out).mono ?_
  rintro e w3 ⟨rfl, hb3, hy3⟩
  have hcv := byt_string w2.heap.size s.size s.size _ w3 hy3
  have HS : strOf s.size (adds (fun _ => 0) c s s.size) = timesB c s := strOf_congr _ _ _ (fun j hj => by unfold adds; rw [if_pos hj]; simp)
  rw [HS] at hcv
  have HKK : Hid (Kept w w3) := hk2.trans (But.kept HK2.out (Nat.le_refl _) hb3)
  clear HS hy3 hmk
  go_wp2_with fail
  go_ret
  exact ⟨rfl, HKK.out⟩
end Go.Proofs.Ythifdfbdekkmgaa.Kid

/- What sums of texts answer. -/
namespace Go.Proofs.Ythifdfbdekkmgaa.Kid
open Go.RowKit Gf
set_option linter.unusedVariables false
/-- All texts have as many bytes as the first one. -/
def evenB (ss : List ByteArray) : Bool := ss.all fun s => s.size == (ss.headD ByteArray.empty).size
def nth (ss : List ByteArray) (k : Nat) : ByteArray := ss.getD k ByteArray.empty
theorem nth_get (ss : List ByteArray) (k : Nat) (h : k < ss.length) : ss[k] = nth ss k := by unfold nth; rw [List.getD_eq_getElem?_getD, List.getElem?_eq_getElem h]; rfl
theorem nth_head (ss : List ByteArray) : ss.headD ByteArray.empty = nth ss 0 := by cases ss <;> rfl
theorem even_yes (ss : List ByteArray) (h : ∀ k, k < ss.length → (nth ss k).size = (nth ss 0).size) : evenB ss = true := by
  unfold evenB
  rw [List.all_eq_true]
  intro x hx
  obtain ⟨k, hk, rfl⟩ := List.getElem_of_mem hx
  rw [nth_get ss k hk, nth_head, h k hk]
  simp
theorem even_no (ss : List ByteArray) (k : Nat) (hk : k < ss.length) (h : (nth ss k).size ≠ (nth ss 0).size) : evenB ss = false := by
  rw [← Bool.not_eq_true]
  intro e
  unfold evenB at e
  rw [List.all_eq_true] at e
  have := e _ (List.getElem_mem hk)
  rw [nth_get ss k hk, nth_head] at this
  simp at this
  exact h this
theorem even_all (ss : List ByteArray) (e : evenB ss = true) (k : Nat) (hk : k < ss.length) : (nth ss k).size = (nth ss 0).size := Decidable.byContradiction fun h => by rw [even_no ss k hk h] at e; cases e
/-- Where a slice's strings lie. -/
theorem strs_at {w : World} {a : Option Addr} {ss : List ByteArray} (hS : Strs w a ss) : ∃ b o, 0 < ss.length → a = some ⟨b, o, none⟩ ∧ ∀ i, i < ss.length → w.cell? ⟨b, o + i, none⟩ = some (.string (nth ss i)) := by
  rcases hS with rfl | ⟨b, o, h1, h2⟩
  · exact ⟨0, 0, fun h => absurd h (by simp)⟩
  · exact ⟨b, o, fun _ => ⟨h1, h2⟩⟩
set_option maxRecDepth 100000 in
theorem even_any (a : Option Addr) (cap : Nat) (ss : List ByteArray) (w : World) (hS : Strs w a ss) (hl : ss.length ≤ 100000000) :
    Calls Kid.prog 68 #[.slice a ss.length cap] w fun e w' => e = .returned (.bool (evenB ss)) ∧ w' = w := by
  obtain ⟨b, o, hc⟩ := strs_at hS
  have HC := Lib.hid hc
  clear hc hS
  go_enter Kid.func68, Kid.ntmps68
  go_wp2_with fail
  go_loop [7] (fun i => ∃ k : Nat, k ≤ ss.length ∧ i = .int .i64 k ∧ Hid (∀ j, j < k → (nth ss j).size = (nth ss 0).size)) (fun i => ss.length - (intOf i).toNat)
  case atStart => exact ⟨0, Nat.zero_le _, rfl, fun j hj => by omega⟩
  case round =>
    obtain ⟨k, hk, rfl, HY⟩ := hrel
    by_cases hlt : k < ss.length
    · obtain ⟨ha, hc⟩ := HC.out (by omega)
      have hck := hc k hlt
      have hc0 := hc 0 (by omega)
      have HE := Lib.hid (even_no ss k hlt)
      have HN : Hid ((nth ss k).size = (nth ss 0).size → ∀ j, j < k + 1 → (nth ss j).size = (nth ss 0).size) := fun h j hj => by
        by_cases e : j = k
        · subst e; exact h
        · exact HY.out j (by omega)
      rw [ha]
      rw [Nat.add_zero] at hc0
      clear hc ha
      generalize nth ss k = p at *
      generalize nth ss 0 = q at *
      by_cases he : p.size = q.size
      · have he1 : ((p.size : Int) == (q.size : Int)) = true := by simp [he]
        have HN2 := Lib.hid (HN.out he)
        clear HN HE
        go_wp2_with fail
        exact ⟨⟨k + 1, by omega, by go_num, HN2.out⟩, by simp [intOf]; omega⟩
      · have he1 : ((p.size : Int) == (q.size : Int)) = false := by simp; omega
        have HE2 := Lib.hid (HE.out he)
        clear HN HE
        go_wp2_with fail
        go_ret
        exact ⟨by rw [HE2.out]; rfl, rfl⟩
    · obtain rfl : k = ss.length := by omega
      have HE := Lib.hid (even_yes ss HY.out)
      clear HY HC
      go_wp2_with fail
      go_ret
      exact ⟨by rw [HE.out]; rfl, rfl⟩
/-- The sum of the first k texts, each with its byte of c. -/
def acc (c : ByteArray) (ss : List ByteArray) : Nat → Nat → UInt8
  | 0, _ => 0
  | k + 1, j => acc c ss k j ^^^ mb (bt c k).toNat (bt (nth ss k) j)
def sumOk (c : ByteArray) (ss : List ByteArray) : Bool := decide (c.size = ss.length) && evenB ss
def sumS (c : ByteArray) (ss : List ByteArray) : ByteArray := if sumOk c ss = true then strOf (nth ss 0).size (acc c ss ss.length) else ⟨#[]⟩
def sumE (c : ByteArray) (ss : List ByteArray) : Int := if sumOk c ss = true then 0 else 2
theorem sumE_nat (c : ByteArray) (ss : List ByteArray) : sumE c ss = 0 ∨ sumE c ss = 2 := by unfold sumE; split <;> simp
set_option maxRecDepth 100000 in
theorem sum_any (c : ByteArray) (a : Option Addr) (cap : Nat) (ss : List ByteArray) (w : World) (hS : Strs w a ss) (hl : ss.length ≤ 100000000) (hz : ∀ s ∈ ss, s.size ≤ 100000000) (hcs : c.size ≤ 100000000) :
    Calls Kid.prog 37 #[.string c, .slice a ss.length cap] w fun e w' => e = .returned (.tuple #[.string (sumS c ss), .int .i64 (sumE c ss)]) ∧ Kept w w' := by
  obtain ⟨b, o, hc⟩ := strs_at hS
  have HC := Lib.hid hc
  have HS := Lib.hid hS
  have HZ := Lib.hid hz
  clear hc hS hz
  by_cases h1 : c.size = ss.length
  · have h1b : ((c.size : Int) == (ss.length : Int)) = true := by simp [h1]
    go_enter Kid.func37, Kid.ntmps37
    go_wp2_with fail
    refine (even_any a cap ss _ HS.out hl).mono ?_
    rintro e w1 ⟨rfl, rfl⟩
    cases hev : evenB ss
    · have H1 : Hid (⟨#[]⟩ = sumS c ss) := by show _ = _; unfold sumS sumOk; rw [hev]; simp
      have H2 : Hid (2 = sumE c ss) := by show _ = _; unfold sumE sumOk; rw [hev]; simp
      go_wp2_with fail
      go_ret2
      exact ⟨by rw [← H1.out, ← H2.out]; rfl, Kept.refl _⟩
    · have H2 : Hid (0 = sumE c ss) := by show _ = _; unfold sumE sumOk; rw [hev]; simp [h1]
      by_cases hl0 : ss.length = 0
      · have H1 : Hid (⟨#[]⟩ = sumS c ss) := by
          show _ = _
          obtain rfl := List.length_eq_zero_iff.1 hl0
          unfold sumS sumOk
          rw [hev, h1]
          rfl
        have hl0b : ((ss.length : Int) == 0) = true := by simp [hl0]
        clear HC HS HZ
        go_wp2_with fail
        go_ret2
        exact ⟨by rw [← H1.out, ← H2.out]; rfl, Kept.refl _⟩
      · have H1 : Hid (strOf (nth ss 0).size (acc c ss ss.length) = sumS c ss) := by show _ = _; unfold sumS sumOk; rw [hev]; simp [h1]
        have HEV := Lib.hid (even_all ss hev)
        have hl0b : ((ss.length : Int) == 0) = false := beq_eq_false_iff_ne.2 (by omega)
        clear hev
        go_upto_region 5 with fail
        go_wp2_with fail
        refine (powers_any _).mono ?_
        rintro e w0 ⟨rfl, hk1⟩
        have hz := zero_arr
        rw [← tab_zero] at hz
        have HB := Lib.hid (World.setRow_alloc_new w0 (tabF 0) (tabF 255) 115)
        have HG := Lib.hid (heap_alloc_last w0 (.cells (tabF 0) 115))
        have hsz : (Kid.prog.info? 115).map (·.size) = some (tabF 255).size := by rw [tab_size]; exact info_arr
        have HSZ := Lib.hid hsz
        clear hsz
        have HOLD : (tabF 0).size = (tabF 255).size := by rw [tab_size, tab_size]
        have HTO := Lib.hid (tab_one 255)
        have hk2 : Kept w1 (w0.alloc (.cells (tabF 255) 115)) := hk1.alloc _
        have hT : Tab w0.heap.size (w0.alloc (.cells (tabF 255) 115)) := Tab.new w0
        generalize tabF 255 = T at *
        generalize tabF 0 = T0 at *
        go_upto_region 6 with (first | ((with_reducible refine wpList_store_row rfl 115 _ _ rfl w0.heap.size T rfl rfl 115 T0 HG.out HSZ.out HOLD HTO.out ?_); rw [HB.out]; clear hz HB HG HSZ HOLD HTO))
        generalize w0.alloc (.cells T 115) = w2 at *
        generalize w0.heap.size = g at *
        obtain ⟨ha, hc⟩ := HC.out (by omega)
        have HCC : Hid (∀ i, i < ss.length → w2.cell? ⟨b, o + i, none⟩ = some (.string (nth ss i))) := fun i hi => by
          rw [Below.cell hk2 (block_lt_of_cell (hc i hi)), hc i hi]
        have hc0 := HCC.out 0 (by omega)
        rw [Nat.add_zero] at hc0
        have HZN : Hid (∀ i, i < ss.length → (nth ss i).size ≤ 100000000) := fun i hi => HZ.out _ (by rw [← nth_get ss i hi]; exact List.getElem_mem hi)
        have hn0 := HZN.out 0 (by omega)
        obtain ⟨n, hn⟩ : ∃ n, (nth ss 0).size = n := ⟨_, rfl⟩
        rw [hn] at H1 HEV hn0
        have hmk := fun W => run_make_row' (P := Kid.prog) 41 5 (.int .u8 0) 1 Kid.underlying41 info_byte rfl .i64 .i64 n (by omega) (by omega) W
        rw [made_zero] at hmk
        have HMD := Lib.hid (Byt.made w2 n)
        have HK2 : Hid (Kept w2 (w2.alloc (.cells (row n fun _ => .int .u8 0) 5))) := (Kept.refl _).alloc _
        have HLT : Hid (w2.heap.size < (w2.alloc (.cells (row n fun _ => .int .u8 0) 5)).heap.size) := by show _ < (w2.heap.push _).size; simp
        have HTL : Hid (g ≠ w2.heap.size) := by
          have := block_lt_of_cell (hT 0 (by decide))
          exact Nat.ne_of_lt this
        have HBL : Hid (∀ i, i < ss.length → b < w2.heap.size) := fun i hi => block_lt_of_cell (HCC.out i hi)
        have HT := Lib.hid hT
        rw [ha]
        clear hT hk1 hc ha
        generalize (row n fun _ => Value.int .u8 0) = R at *
        generalize nth ss 0 = p0 at *
        go_wp2_with fail
        have HKA : Hid (Kept w2 (w2.alloc (.cells R 5)) ∧ Tab g (w2.alloc (.cells R 5)) ∧ Byt w2.heap.size n (acc c ss 0) (w2.alloc (.cells R 5)) ∧ w2.heap.size < (w2.alloc (.cells R 5)).heap.size) := ⟨HK2.out, HT.out.kept HK2.out, HMD.out, HLT.out⟩
        clear hmk HMD HK2 HLT
        go_loopw [31, 8, 9] (fun i _ _ wr => ∃ k : Nat, k ≤ ss.length ∧ i = .int .i64 k ∧ Hid (Kept w2 wr ∧ Tab g wr ∧ Byt w2.heap.size n (acc c ss k) wr ∧ w2.heap.size < wr.heap.size)) (fun i _ _ _ => ss.length - (intOf i).toNat)
        case atStart => exact ⟨0, Nat.zero_le _, rfl, HKA⟩
        case round =>
          obtain ⟨k, hk, rfl, HI⟩ := hrel
          by_cases hlt : k < ss.length
          · have hck : wr.cell? ⟨b, o + k, none⟩ = some (.string (nth ss k)) := by
              rw [Below.cell HI.out.1 (HBL.out k hlt), HCC.out k hlt]
            have hkc : k < c.size := by omega
            have HGT := Lib.hid (bt_get c k hkc)
            have hsk := HEV.out k hlt
            have HNX : Hid (∀ j, j < n → acc c ss (k + 1) j = adds (acc c ss k) c[k].toNat (nth ss k) n j) := fun j hj => by
              unfold adds
              rw [if_pos hj, acc, HGT.out]
            generalize nth ss k = p at *
            have hb := c[k].toNat_lt
            go_wp2_with fail
            refine (adds_any g w2.heap.size n n (acc c ss k) c[k].toNat p hb (by omega) hsk _ HI.out.2.1 HI.out.2.2.1 HI.out.2.2.2 HTL.out).mono ?_
            rintro e w3 ⟨rfl, hb3, hy3⟩
            have HI3 : Hid (Kept w2 w3 ∧ Tab g w3 ∧ Byt w2.heap.size n (acc c ss (k + 1)) w3 ∧ w2.heap.size < w3.heap.size) := by
              refine ⟨But.kept HI.out.1 (Nat.le_refl _) hb3, fun j hj => ?_, hy3.congr HNX.out, Nat.lt_of_lt_of_le HI.out.2.2.2 hb3.size⟩
              have h := HI.out.2.1 j hj
              rw [hb3.cell (p := ⟨g, j, none⟩) (block_lt_of_cell h) HTL.out, h]
            clear hy3 hb3 hsk hck
            go_wp2_with fail
            exact ⟨⟨k + 1, by omega, by go_num, HI3⟩, by simp [intOf]; omega⟩
          · obtain rfl : k = ss.length := by omega
            have hcv := byt_string w2.heap.size n n _ wr HI.out.2.2.1
            rw [H1.out] at hcv
            have HKK : Hid (Kept w1 wr) := hk2.trans HI.out.1
            clear HI HKA HBL HCC HC HZN HEV
            go_wp2_with fail
            go_ret2
            exact ⟨by rw [← H2.out]; rfl, HKK.out⟩
  · have h1b : ((c.size : Int) == (ss.length : Int)) = false := by simp; omega
    have H1 : Hid (⟨#[]⟩ = sumS c ss) := by show _ = _; unfold sumS sumOk; simp [h1]
    have H2 : Hid (2 = sumE c ss) := by show _ = _; unfold sumE sumOk; simp [h1]
    go_enter Kid.func37, Kid.ntmps37
    go_wp2_with fail
    go_ret2
    exact ⟨by rw [← H1.out, ← H2.out]; rfl, Kept.refl _⟩
end Go.Proofs.Ythifdfbdekkmgaa.Kid

