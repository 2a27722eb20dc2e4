/- What the calls on texts answer. -/
import Derived.Test.YtlmoeaphikdjnaaFieldOne
import Derived.Test.YtlmoeaphikdjnaaBut
import Derived.Deep.OwnRows
import Derived.Deep.RegionHeld3
import Derived.Deep.RegionWith
import Derived.Laws.OwnMore
import Derived.Deep.DeepCutAuto
namespace Go.Proofs.Ytlmoeaphikdjnaa
open Go.RowKit Gf
set_option linter.unusedVariables false
/-- n bytes told by a function lie in block g, and may be written. -/
structure Byt (g n : Nat) (f : Nat → UInt8) (w : World) : Prop where
  cell : ∀ j, j < n → w.cell? ⟨g, j, none⟩ = some (.int .u8 ((f j).toNat : Nat))
  free : ∀ j, j < n → w.frozen? ⟨g, j, none⟩ = false
def upd (f : Nat → UInt8) (k : Nat) (v : UInt8) (j : Nat) : UInt8 := if j = k then v else f j
theorem Byt.drewN {g n : Nat} {f : Nat → UInt8} {w : World} (h : Byt g n f w) (m : Nat) : Byt g n f (w.drewN m) := ⟨h.cell, h.free⟩
theorem Byt.set {g n : Nat} {f : Nat → UInt8} {w : World} (h : Byt g n f w) (k : Nat) (hk : k < n) (v : UInt8) : Byt g n (upd f k v) (w.setCell ⟨g, k, none⟩ (.int .u8 (v.toNat : Nat))) := by
  refine ⟨fun j hj => ?_, fun j hj => by rw [World.frozen?_setCell]; exact h.free j hj⟩
  unfold upd
  by_cases e : j = k
  · subst e
    rw [if_pos rfl, World.cell?_setCell_same _ _ _ (h.cell j hj)]
  · rw [if_neg e, World.cell?_setCell_other _ _ _ _ (fun h => e (by injection h with _ e2; exact e2.symm)), h.cell j hj]
theorem Byt.congr {g n : Nat} {f f' : Nat → UInt8} {w : World} (h : Byt g n f w) (e : ∀ j, j < n → f' j = f j) : Byt g n f' w :=
  ⟨fun j hj => by rw [e j hj]; exact h.cell j hj, h.free⟩
/-- A byte of a text; 0 behind its end. -/
def bt (s : ByteArray) (j : Nat) : UInt8 := s.data.toList[j]!
theorem bt_get (s : ByteArray) (j : Nat) (h : j < s.size) : s[j] = bt s j := by
  unfold bt
  rw [getElem!_pos s.data.toList j (by simpa using h)]
  simp
  rfl
/-- The product of an element and a byte. -/
def mb (c : Nat) (x : UInt8) : UInt8 := UInt8.ofNat (mul c x.toNat)
theorem mb_nat (c : Nat) (x : UInt8) (hc : c < 256) : (mb c x).toNat = mul c x.toNat := by
  have h := mul_lt hc x.toNat_lt
  unfold mb
  simp
  omega
/-- The first k bytes with c's products added. -/
def adds (f : Nat → UInt8) (c : Nat) (s : ByteArray) (k j : Nat) : UInt8 := if j < k then f j ^^^ mb c (bt s j) else f j
theorem adds_next (f : Nat → UInt8) (c : Nat) (s : ByteArray) (k j : Nat) : adds f c s (k + 1) j = upd (adds f c s k) k (f k ^^^ mb c (bt s k)) j := by
  unfold upd
  by_cases e : j = k
  · subst e; unfold adds; rw [if_pos (by omega), if_pos rfl]
  · rw [if_neg e]
    unfold adds
    by_cases h : j < k
    · rw [if_pos (by omega), if_pos h]
    · rw [if_neg (by omega), if_neg h]
theorem xor_mb (x : UInt8) (c : Nat) (y : UInt8) (hc : c < 256) : bits .xor .u8 (x.toNat : Nat) ((mul c y.toNat : Nat) : Int) = (((x ^^^ mb c y).toNat : Nat) : Int) := by
  rw [u8_xor_nat _ _ x.toNat_lt (mul_lt hc y.toNat_lt), UInt8.toNat_xor, mb_nat c y hc]
set_option maxRecDepth 100000 in
theorem adds_any (g r n cap : Nat) (f : Nat → UInt8) (c : Nat) (s : ByteArray) (hc : c < 256) (hn : n ≤ 100000000) (hs : s.size = n) (w : World) (hT : Tab g w) (hB : Byt r n f w) (hr : r < w.heap.size) (hgr : g ≠ r) :
    Calls Try.prog 37 #[.pointer (some ⟨g, 0, none⟩), .slice (some ⟨r, 0, none⟩) n cap, .int .u8 (c : Nat), .string s] w fun e w' => e = .returned (.tuple #[]) ∧ But r w w' ∧ Byt r n (adds f c s n) w' := by
  subst hs
  have HT := Lib.hid hT
  have HB := Lib.hid hB
  clear hT hB
  go_enter Try.func37, Try.ntmps37
  go_wp2_with fail
  go_loopw [11] (fun i wr => ∃ k : Nat, k ≤ s.size ∧ i = .int .i64 k ∧ But r w wr ∧ Hid (Byt r s.size (adds f c s k) wr)) (fun i _ => s.size - (intOf i).toNat)
  case atStart => exact ⟨0, Nat.zero_le _, rfl, But.refl _ _, HB.out.congr (fun j _ => by unfold adds; rw [if_neg (by omega)])⟩
  case round =>
    obtain ⟨k, hk, rfl, hbut, HY⟩ := hrel
    by_cases hlt : k < s.size
    · have hT2 : Hid (Tab g wr) := fun j hj => by
        have h := HT.out j hj
        rw [hbut.cell (p := ⟨g, j, none⟩) (block_lt_of_cell h) hgr, h]
      have hcell := HY.out.cell k hlt
      have hfree := HY.out.free k hlt
      rw [show adds f c s k k = f k from by unfold adds; rw [if_neg (by omega)]] at hcell
      have HX := Lib.hid (xor_mb (f k) c (bt s k) hc)
      have HS := Lib.hid (HY.out.set k hlt (f k ^^^ mb c (bt s k)))
      have hg := bt_get s k hlt
      have HN := Lib.hid (adds_next f c s k)
      rw [← hg] at HX HS
      have HGT := Lib.hid hg
      clear hg
      have HFK : Hid (∀ j, adds f c s (k + 1) j = upd (adds f c s k) k (f k ^^^ mb c s[k]) j) := by rw [HGT.out]; exact HN.out
      clear HN
      generalize f k = x at *
      have hy := s[k].toNat_lt
      go_wp2_with fail
      go_region_with (go_at_call 42; refine (of_drew g c s[k].toNat hc hy _ (hT2.out.drewN _)).mono ?_; rintro e w3 ⟨rfl, m, rfl⟩)
      all_goals
        rw [HX.out]
        have HF : Hid (Byt r s.size (adds f c s (k + 1)) ((wr.drewN (1 + m)).setCell ⟨r, k, none⟩ (.int .u8 ((x ^^^ mb c s[k]).toNat : Nat)))) := ((HY.out.drewN (1 + m)).set k hlt (x ^^^ mb c s[k])).congr (fun j _ => HFK.out j)
        have HB2 : Hid (But r w ((wr.drewN (1 + m)).setCell ⟨r, k, none⟩ (.int .u8 ((x ^^^ mb c s[k]).toNat : Nat)))) := (hbut.trans (((Kept.refl _).drewN _).but r)).setCell _ _
        generalize (wr.drewN (1 + m)).setCell ⟨r, k, none⟩ (.int .u8 ((x ^^^ mb c s[k]).toNat : Nat)) = w5 at *
        go_wp2_with fail
        exact ⟨⟨k + 1, by omega, by go_num, HB2.out, HF⟩, by simp [intOf]; omega⟩
    · obtain rfl : k = s.size := by omega
      go_wp2_with fail
      go_end0
      exact ⟨rfl, hbut, HY.out⟩
theorem info_byte : (Try.prog.info? 5).map (fun i => (i.zero, i.size, i.bytes)) = some (some (.int .u8 0), 1, 1) := by kernel_rfl
/-- n bytes told by a function, as a text. -/
def strOf (n : Nat) (f : Nat → UInt8) : ByteArray := ⟨((List.range n).map f).toArray⟩
theorem strOf_size (n : Nat) (f : Nat → UInt8) : (strOf n f).size = n := by show (((List.range n).map f).toArray).size = n; simp
theorem strOf_bt (n : Nat) (f : Nat → UInt8) (j : Nat) (h : j < n) : bt (strOf n f) j = f j := by
  unfold bt strOf
  simp [h]
theorem str_ext' (a b : ByteArray) (h : a.size = b.size) (e : ∀ j, j < a.size → bt a j = bt b j) : a = b := by
  apply ByteArray.ext
  apply Array.ext
  · exact h
  · intro i h1 h2
    have := e i h1
    unfold bt at this
    rw [getElem!_pos a.data.toList i (by simpa using h1), getElem!_pos b.data.toList i (by simpa using h2)] at this
    simpa using this
theorem strOf_self (s : ByteArray) : strOf s.size (bt s) = s := str_ext' _ _ (strOf_size _ _) (fun j h => strOf_bt _ _ _ (by rw [strOf_size] at h; exact h))
theorem strOf_congr (n : Nat) (f g : Nat → UInt8) (h : ∀ j, j < n → f j = g j) : strOf n f = strOf n g := str_ext' _ _ (by rw [strOf_size, strOf_size]) (fun j hj => by rw [strOf_size] at hj; rw [strOf_bt _ _ _ hj, strOf_bt _ _ _ hj, h j hj])
theorem byt_string (g n cap : Nat) (f : Nat → UInt8) (w : World) (h : Byt g n f w) :
    (convert 43 9 (.slice (some ⟨g, 0, none⟩) n cap)).run Try.prog w = .ok (.string (strOf n f)) w := by
  have hr := run_convert_bytes_back (P := Try.prog) w 43 9 5 ⟨g, 0, none⟩ cap ((List.range n).map f) Try.underlying43 Try.underlying5 Try.underlying9 (fun j hj => by
    have hj' : j < n := by simpa using hj
    rw [add_at]
    simpa using h.cell j hj')
  rw [show ((List.range n).map f).length = n from by simp] at hr
  exact hr
theorem made_zero (n : Nat) : madeCells #[Value.int .u8 0] n = row n fun _ => .int .u8 0 := by
  apply Array.ext'
  rw [toList_madeCells_one]
  unfold row
  simp
  apply List.ext_getElem?
  intro i
  by_cases h : i < n <;> simp [h]
theorem Byt.made (w : World) (n : Nat) : Byt w.heap.size n (fun _ => 0) (w.alloc (.cells (row n fun _ => .int .u8 0) 5)) := by
  refine ⟨fun j hj => ?_, fun j hj => ?_⟩
  · rw [World.cell?_alloc_mark, row_get _ _ j hj]; rfl
  · rw [World.frozen?_alloc_mark]; simp
/-- A text with an element: each byte's product. -/
def timesB (c : Nat) (s : ByteArray) : ByteArray := strOf s.size fun j => mb c (bt s j)
theorem size_int (n : Nat) : ((n : Nat) : Int).toNat = n := rfl
set_option maxRecDepth 100000 in
theorem times_any (c : Nat) (s : ByteArray) (hc : c < 256) (hs : s.size ≤ 100000000) (w : World) :
    Calls Try.prog 43 #[.int .u8 (c : Nat), .string s] w fun e w' => e = .returned (.string (timesB c s)) ∧ Kept w w' := by
  go_enter Try.func43, Try.ntmps43
  go_wp2_with fail
  refine (powers_any _).mono ?_
  rintro e w1 ⟨rfl, hk1⟩
  have hz := zero_arr
  rw [← tab_zero] at hz
  have HB := Lib.hid (World.setRow_alloc_new w1 (tabF 0) (tabF 255) 62)
  have HG := Lib.hid (heap_alloc_last w1 (.cells (tabF 0) 62))
  have hsz : (Try.prog.info? 62).map (·.size) = some (tabF 255).size := by rw [tab_size]; exact info_arr
  have HSZ := Lib.hid hsz
  clear hsz
  have HOLD : (tabF 0).size = (tabF 255).size := by rw [tab_size, tab_size]
  have HTO := Lib.hid (tab_one 255)
  have hk2 : Kept w (w1.alloc (.cells (tabF 255) 62)) := hk1.alloc _
  have hT : Tab w1.heap.size (w1.alloc (.cells (tabF 255) 62)) := Tab.new w1
  generalize tabF 255 = T at *
  generalize tabF 0 = T0 at *
  go_upto_region 2 with (first | ((with_reducible refine wpList_store_row rfl 62 _ _ rfl w1.heap.size T rfl rfl 62 T0 HG.out HSZ.out HOLD HTO.out ?_); rw [HB.out]; clear hz HB HG HSZ HOLD HTO))
  generalize w1.alloc (.cells T 62) = w2 at *
  generalize w1.heap.size = g at *
  have hmk := fun W => run_make_row' (P := Try.prog) 43 5 (.int .u8 0) 1 Try.underlying43 info_byte rfl .i64 .i64 s.size (by omega) (by omega) W
  rw [made_zero] at hmk
  have HMD := Lib.hid (Byt.made w2 s.size)
  have HK2 : Hid (Kept w2 (w2.alloc (.cells (row s.size fun _ => .int .u8 0) 5))) := (Kept.refl _).alloc _
  have HLT : Hid (w2.heap.size < (w2.alloc (.cells (row s.size fun _ => .int .u8 0) 5)).heap.size) := by show _ < (w2.heap.push _).size; simp
  have HTL : Hid (g ≠ w2.heap.size) := by
    have := block_lt_of_cell (hT 0 (by decide))
    exact Nat.ne_of_lt this
  have HT := Lib.hid hT
  clear hT hk1
  generalize (row s.size fun _ => Value.int .u8 0) = R at *
  go_wp2_with fail
  refine (adds_any g w2.heap.size s.size s.size (fun _ => 0) c s hc hs rfl _ (HT.out.kept HK2.out) HMD.out HLT.out HTL.out).mono ?_
  rintro e w3 ⟨rfl, hb3, hy3⟩
  have hcv := byt_string w2.heap.size s.size s.size _ w3 hy3
  have HS : strOf s.size (adds (fun _ => 0) c s s.size) = timesB c s := strOf_congr _ _ _ (fun j hj => by unfold adds; rw [if_pos hj]; simp)
  rw [HS] at hcv
  have HKK : Hid (Kept w w3) := hk2.trans (But.kept HK2.out (Nat.le_refl _) hb3)
  clear HS hy3 hmk
  go_wp2_with fail
  go_ret
  exact ⟨rfl, HKK.out⟩
end Go.Proofs.Ytlmoeaphikdjnaa
