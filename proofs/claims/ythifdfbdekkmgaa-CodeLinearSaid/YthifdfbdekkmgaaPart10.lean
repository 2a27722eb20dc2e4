/- SFieldRef2, SMat, SMatDoc, SGat, SMatRef. -/
import Derived.Test.YthifdfbdekkmgaaPart9
import Derived.StillTailTactics
import Derived.OwnWalk
import Derived.Test.YthifdfbdekkmgaaPart0
import Derived.Test.YthifdfbdekkmgaaPart7
import Derived.Test.YthifdfbdekkmgaaPart6
set_option linter.unusedVariables false
set_option linter.unusedSimpArgs false
set_option linter.unusedSectionVars false
set_option linter.unnecessarySimpa false
set_option linter.deprecated false
/- What the document's own answers on texts come to. -/
namespace Go.Proofs.Ythifdfbdekkmgaa
open Go.RowKit Gf
set_option linter.unusedVariables false
/-- The bytes that '[]byte(s)' makes. -/
theorem Byt.conv (w : World) (s : ByteArray) (cap : Nat) (t : TypeId) : Byt w.heap.size s.size (bt s) (w.drew.alloc (.cells (bytesRow s cap) t ((bytesRow s cap).size, (bytesRow s cap).size + 1))) := by
  have hz : s.size ≤ (bytesRow s cap).size := by unfold bytesRow; rw [Array.size_append, Array.size_map]; exact Nat.le_add_right _ _
  refine ⟨fun j hj => ?_, fun j hj => ?_⟩
  · show (w.alloc (Obj.cells (bytesRow s cap) _ _)).cell? _ = _
    rw [World.cell?_alloc_mark, bytesRow_at s cap j (by simpa using hj)]
    unfold bt
    rw [getElem!_pos s.data.toList j (by simpa using hj)]
    simp
  · show (w.alloc (Obj.cells (bytesRow s cap) _ _)).frozen? _ = _
    rw [World.frozen?_alloc_mark]
    simp
    omega
/-- The first k bytes multiplied. -/
def muls (c : Nat) (s : ByteArray) (k j : Nat) : UInt8 := if j < k then mb c (bt s j) else bt s j
theorem muls_next (c : Nat) (s : ByteArray) (k j : Nat) : muls c s (k + 1) j = upd (muls c s k) k (mb c (bt s k)) j := by
  unfold upd
  by_cases e : j = k
  · subst e; unfold muls; rw [if_pos (by omega), if_pos rfl]
  · rw [if_neg e]
    unfold muls
    by_cases h : j < k
    · rw [if_pos (by omega), if_pos h]
    · rw [if_neg (by omega), if_neg h]
set_option maxRecDepth 100000 in
theorem refTimes_any (c : Nat) (s : ByteArray) (hc : c < 256) (hs : s.size ≤ 100000000) (w : World) :
    Calls Seq.prog 44 #[.int .u8 (c : Nat), .string s] w fun e w' => e = .returned (.string (timesB c s)) ∧ Kept w w' := by
  have hcv := run_bytes_of_string (P := Seq.prog) w 9 41 5 s Seq.underlying9 Seq.underlying41 Seq.underlying5
  obtain ⟨cap, hcap⟩ : ∃ cap, grownCap w s.size 0 5 = cap := ⟨_, rfl⟩
  rw [hcap] at hcv
  have HB := Lib.hid (Byt.conv w s cap 5)
  have HK : Hid (Kept w (w.drew.alloc (.cells (bytesRow s cap) 5 ((bytesRow s cap).size, (bytesRow s cap).size + 1)))) := ((Kept.refl _).drew).alloc _
  generalize w.drew.alloc (.cells (bytesRow s cap) 5 ((bytesRow s cap).size, (bytesRow s cap).size + 1)) = w1 at *
  clear hcap
  obtain ⟨g, hg⟩ : ∃ g, w.heap.size = g := ⟨_, rfl⟩
  have HG := Lib.hid hg
  rw [hg] at hcv HB
  clear hg
  go_enter Seq.func44, Seq.ntmps44
  go_wp2_with fail
  clear hcv
  go_loopw [6] (fun i wr => ∃ k : Nat, k ≤ s.size ∧ i = .int .i64 k ∧ Hid (Kept w wr ∧ Byt g s.size (muls c s k) wr)) (fun i _ => s.size - (intOf i).toNat)
  case atStart => exact ⟨0, Nat.zero_le _, rfl, HK.out, HB.out.congr (fun j _ => by unfold muls; rw [if_neg (by omega)])⟩
  case round =>
    obtain ⟨k, hk, rfl, HI⟩ := hrel
    by_cases hlt : k < s.size
    · have hck := HI.out.2.cell k hlt
      have hfk := HI.out.2.free k hlt
      rw [show muls c s k k = bt s k from by unfold muls; rw [if_neg (by omega)]] at hck
      have hb := (bt s k).toNat_lt
      have HN := Lib.hid (muls_next c s k)
      have HM := Lib.hid (mb_nat c (bt s k) hc)
      generalize bt s k = x at *
      go_wp2_with fail
      refine (refMul_any c x.toNat hc hb _).mono ?_
      rintro e w2 ⟨rfl, rfl⟩
      rw [← HM.out]
      have HF : Hid (Kept w (w2.setCell ⟨g, k, none⟩ (.int .u8 ((mb c x).toNat : Nat))) ∧ Byt g s.size (muls c s (k + 1)) (w2.setCell ⟨g, k, none⟩ (.int .u8 ((mb c x).toNat : Nat)))) :=
        ⟨HI.out.1.setCell (by rw [HG.out]; exact Nat.le_refl _) _, (HI.out.2.set k hlt (mb c x)).congr (fun j _ => HN.out j)⟩
      go_wp2_with fail
      exact ⟨⟨k + 1, by omega, by go_num, HF⟩, by simp [intOf]; omega⟩
    · obtain rfl : k = s.size := by omega
      have hst := byt_string g s.size cap _ wr HI.out.2
      rw [strOf_congr s.size (muls c s s.size) (fun j => mb c (bt s j)) (fun j hj => by unfold muls; rw [if_pos hj])] at hst
      rw [show strOf s.size (fun j => mb c (bt s j)) = timesB c s from rfl] at hst
      have HK2 := Lib.hid HI.out.1
      clear HI HB HK
      go_wp2_with fail
      go_ret
      exact ⟨rfl, HK2.out⟩
/-- The sum of the first k texts. -/
def xr (ss : List ByteArray) : Nat → Nat → UInt8
  | 0, _ => 0
  | k + 1, j => xr ss k j ^^^ bt (nth ss k) j
def plS (ss : List ByteArray) : ByteArray := if evenB ss = true then strOf (nth ss 0).size (xr ss ss.length) else ⟨#[]⟩
def plE (ss : List ByteArray) : Int := if evenB ss = true then 0 else 2
/-- The sum of the first k texts, of the next one the first q bytes. -/
def xq (ss : List ByteArray) (k q j : Nat) : UInt8 := if j < q then xr ss (k + 1) j else xr ss k j
theorem xq_next (ss : List ByteArray) (k q j : Nat) : xq ss k (q + 1) j = upd (xq ss k q) q (xr ss k q ^^^ bt (nth ss k) q) j := by
  unfold upd
  by_cases e : j = q
  · subst e; unfold xq; rw [if_pos (by omega), if_pos rfl]; rfl
  · rw [if_neg e]
    unfold xq
    by_cases h : j < q
    · rw [if_pos (by omega), if_pos h]
    · rw [if_neg (by omega), if_neg h]
set_option maxRecDepth 100000 in
theorem refPlus_any (a : Option Addr) (cap0 : Nat) (ss : List ByteArray) (w : World) (hS : Strs w a ss) (hl : ss.length ≤ 100000000) (hz : ∀ s ∈ ss, s.size ≤ 100000000) :
    Calls Seq.prog 45 #[.slice a ss.length cap0] w fun e w' => e = .returned (.tuple #[.string (plS ss), .int .i64 (plE ss)]) ∧ Kept w w' := by
  obtain ⟨b, o, hc⟩ := strs_at hS
  have HC := Lib.hid hc
  have HZ : Hid (∀ i, i < ss.length → (nth ss i).size ≤ 100000000) := fun i hi => hz _ (by rw [← nth_get ss i hi]; exact List.getElem_mem hi)
  clear hc hS hz
  by_cases hl0 : ss.length = 0
  · obtain rfl := List.length_eq_zero_iff.1 hl0
    clear HC HZ
    go_enter Seq.func45, Seq.ntmps45
    go_wp2_with fail
    go_ret2
    exact ⟨rfl, Kept.refl _⟩
  · obtain ⟨ha, hc⟩ := HC.out (by omega)
    have HCC := Lib.hid hc
    have hc0 := hc 0 (by omega)
    rw [Nat.add_zero] at hc0
    have hn0 := HZ.out 0 (by omega)
    obtain ⟨s, hs⟩ : ∃ s, nth ss 0 = s := ⟨_, rfl⟩
    rw [hs] at hc0 hn0
    have HS0 := Lib.hid hs
    have hl0b : ((ss.length : Int) == 0) = false := beq_eq_false_iff_ne.2 (by omega)
    rw [ha]
    clear hs hc ha HC
    have hcv := run_bytes_of_string (P := Seq.prog) w 9 41 5 s Seq.underlying9 Seq.underlying41 Seq.underlying5
    obtain ⟨cap, hcap⟩ : ∃ cap, grownCap w s.size 0 5 = cap := ⟨_, rfl⟩
    rw [hcap] at hcv
    have HB := Lib.hid (Byt.conv w s cap 5)
    have HK : Hid (Kept w (w.drew.alloc (.cells (bytesRow s cap) 5 ((bytesRow s cap).size, (bytesRow s cap).size + 1)))) := ((Kept.refl _).drew).alloc _
    generalize w.drew.alloc (.cells (bytesRow s cap) 5 ((bytesRow s cap).size, (bytesRow s cap).size + 1)) = w1 at *
    clear hcap
    obtain ⟨g, hg⟩ : ∃ g, w.heap.size = g := ⟨_, rfl⟩
    have HG := Lib.hid hg
    rw [hg] at hcv HB
    clear hg
    go_enter Seq.func45, Seq.ntmps45
    go_wp2_with fail
    clear hcv hc0
    go_loopw [5, 6] (fun i _ wr => ∃ k : Nat, 1 ≤ k ∧ k ≤ ss.length ∧ i = .int .i64 k ∧ Hid (Kept w wr ∧ Byt g s.size (xr ss k) wr ∧ ∀ j, j < k → (nth ss j).size = (nth ss 0).size)) (fun i _ _ => ss.length - (intOf i).toNat)
    case atStart =>
      refine ⟨1, Nat.le_refl _, by omega, rfl, HK.out, HB.out.congr (fun j _ => ?_), fun j hj => ?_⟩
      · show 0 ^^^ bt (nth ss 0) j = _
        rw [HS0.out]; simp
      · obtain rfl : j = 0 := by omega
        rfl
    case round =>
      obtain ⟨k, hk1, hk, rfl, HI⟩ := hrel
      by_cases hlt : k < ss.length
      · have hck : wr.cell? ⟨b, o + k, none⟩ = some (.string (nth ss k)) := by
          have h := HCC.out k hlt
          rw [Below.cell HI.out.1 (block_lt_of_cell h), h]
        have HBB : Hid (b < w.heap.size) := block_lt_of_cell (HCC.out k hlt)
        have hzk := HZ.out k hlt
        by_cases he : (nth ss k).size = s.size
        · have heb : (((nth ss k).size : Int) == (s.size : Int)) = true := by simp [he]
          have HQ := Lib.hid (xq_next ss k)
          have HX0 : Hid (∀ q, xq ss k q q = xr ss k q) := fun q => by unfold xq; rw [if_neg (by omega)]
          have HST : Hid (Kept w wr ∧ Byt g s.size (xq ss k 0) wr) := ⟨HI.out.1, HI.out.2.1.congr (fun j _ => by unfold xq; rw [if_neg (by omega)])⟩
          have HEN : Hid (∀ j, j < s.size → xr ss (k + 1) j = xq ss k s.size j) := fun j hj => by unfold xq; rw [if_pos hj]
          have HEV : Hid (∀ j, j < k + 1 → (nth ss j).size = (nth ss 0).size) := fun j hj => by
            by_cases e : j = k
            · subst e; rw [he, HS0.out]
            · exact HI.out.2.2 j (by omega)
          clear HI
          obtain ⟨p, hp⟩ : ∃ p, nth ss k = p := ⟨_, rfl⟩
          rw [hp] at hck hzk he heb HQ
          have HCP : Hid (w.cell? ⟨b, o + k, none⟩ = some (.string p)) := by rw [← hp]; exact HCC.out k hlt
          clear hp
          go_wp2_with fail
          go_loopw [6] (fun i ws => ∃ q : Nat, q ≤ s.size ∧ i = .int .i64 q ∧ Hid (Kept w ws ∧ Byt g s.size (xq ss k q) ws)) (fun i _ => s.size - (intOf i).toNat)
          case atStart => exact ⟨0, Nat.zero_le _, rfl, HST⟩
          case round =>
            obtain ⟨q, hq, rfl, HJ⟩ := hrel
            by_cases hlq : q < s.size
            · have hcq := HJ.out.2.cell q hlq
              have hfq := HJ.out.2.free q hlq
              have hcp : wr.cell? ⟨b, o + k, none⟩ = some (.string p) := by
                rw [Below.cell HJ.out.1 HBB.out]
                exact HCP.out
              rw [HX0.out q] at hcq
              have hqp : q < p.size := by omega
              have HGT := Lib.hid (bt_get p q hqp)
              have HU : Hid (∀ j, xq ss k (q + 1) j = upd (xq ss k q) q (xr ss k q ^^^ p[q]) j) := by rw [HGT.out]; exact fun j => HQ.out q j
              have HXX : Hid (bits .xor .u8 ((xr ss k q).toNat : Nat) ((p[q].toNat : Nat) : Int) = (((xr ss k q ^^^ p[q]).toNat : Nat) : Int)) := by
                show _ = _
                rw [u8_xor_nat _ _ (xr ss k q).toNat_lt p[q].toNat_lt, UInt8.toNat_xor]
              generalize xr ss k q = x at *
              have HF : Hid (Kept w ((wr.setCell ⟨g, q, none⟩ (.int .u8 ((x ^^^ p[q]).toNat : Nat))).drew) ∧ Byt g s.size (xq ss k (q + 1)) ((wr.setCell ⟨g, q, none⟩ (.int .u8 ((x ^^^ p[q]).toNat : Nat))).drew)) :=
                ⟨(HJ.out.1.setCell (by rw [HG.out]; exact Nat.le_refl _) _).drew, ((HJ.out.2.set q hlq (x ^^^ p[q])).congr (fun j _ => HU.out j)).drewN 1⟩
              go_wp2_with fail
              go_region
              rw [HXX.out]
              go_wp2_with fail
              exact ⟨⟨q + 1, by omega, by go_num, HF⟩, by simp [intOf]; omega⟩
            · obtain rfl : q = s.size := by omega
              have HF : Hid (Kept w wr ∧ Byt g s.size (xr ss (k + 1)) wr ∧ ∀ j, j < k + 1 → (nth ss j).size = (nth ss 0).size) := ⟨HJ.out.1, HJ.out.2.congr HEN.out, HEV.out⟩
              clear HJ
              go_wp2_with fail
              exact ⟨⟨k + 1, by omega, by omega, by go_num, HF⟩, by simp [intOf]; omega⟩
        · have heb : (((nth ss k).size : Int) == (s.size : Int)) = false := by simp; omega
          have hev := even_no ss k hlt (by rw [HS0.out]; exact he)
          have H1 : Hid (⟨#[]⟩ = plS ss) := by show _ = _; unfold plS; rw [hev]; simp
          have H2 : Hid (2 = plE ss) := by show _ = _; unfold plE; rw [hev]; simp
          have HK2 := Lib.hid HI.out.1
          clear hev HI
          generalize nth ss k = p at *
          go_wp2_with fail
          go_ret2
          exact ⟨by rw [← H1.out, ← H2.out]; rfl, HK2.out⟩
      · obtain rfl : k = ss.length := by omega
        have hev := even_yes ss HI.out.2.2
        have H1 : Hid (strOf s.size (xr ss ss.length) = plS ss) := by show _ = _; unfold plS; rw [if_pos hev, HS0.out]
        have H2 : Hid (0 = plE ss) := by show _ = _; unfold plE; rw [if_pos hev]
        have hst := byt_string g s.size cap _ wr HI.out.2.1
        rw [H1.out] at hst
        have HK2 := Lib.hid HI.out.1
        clear hev HI
        go_wp2_with fail
        go_ret2
        exact ⟨by rw [← H2.out]; rfl, HK2.out⟩
end Go.Proofs.Ythifdfbdekkmgaa

/- Plain facts: matrices over the field of 256 elements. Nothing here names the program. -/
namespace Go.Proofs.Ythifdfbdekkmgaa.Gf

/-- The product of two bytes. -/
def gm (a b : UInt8) : UInt8 := UInt8.ofNat (mul a.toNat b.toNat)
def gi (a : UInt8) : UInt8 := UInt8.ofNat (inv a.toNat)
theorem gm_nat (a b : UInt8) : (gm a b).toNat = mul a.toNat b.toNat := by
  unfold gm
  rw [UInt8.toNat_ofNat', Nat.mod_eq_of_lt (mul_lt a.toNat_lt b.toNat_lt)]
theorem gi_nat (a : UInt8) : (gi a).toNat = inv a.toNat := by
  unfold gi
  rw [UInt8.toNat_ofNat', Nat.mod_eq_of_lt (inv_lt a.toNat_lt)]
theorem gm_comm (a b : UInt8) : gm a b = gm b a := UInt8.toNat_inj.1 (by rw [gm_nat, gm_nat, mul_comm a.toNat_lt b.toNat_lt])
theorem gm_assoc (a b c : UInt8) : gm a (gm b c) = gm (gm a b) c := UInt8.toNat_inj.1 (by rw [gm_nat, gm_nat, gm_nat, gm_nat, mul_assoc a.toNat_lt b.toNat_lt c.toNat_lt])
theorem gm_one (a : UInt8) : gm a 1 = a := UInt8.toNat_inj.1 (by rw [gm_nat]; exact mul_one a.toNat_lt)
theorem one_gm (a : UInt8) : gm 1 a = a := by rw [gm_comm, gm_one]
theorem gm_zero (a : UInt8) : gm a 0 = 0 := UInt8.toNat_inj.1 (by rw [gm_nat]; exact mul_zero _)
theorem zero_gm (a : UInt8) : gm 0 a = 0 := by rw [gm_comm, gm_zero]
theorem gm_add (a b c : UInt8) : gm a (b ^^^ c) = gm a b ^^^ gm a c := UInt8.toNat_inj.1 (by rw [gm_nat, UInt8.toNat_xor, UInt8.toNat_xor, gm_nat, gm_nat, mul_right])
theorem add_gm (a b c : UInt8) : gm (a ^^^ b) c = gm a c ^^^ gm b c := by rw [gm_comm, gm_add, gm_comm c, gm_comm c]
theorem ne_nat {a : UInt8} (h : a ≠ 0) : a.toNat ≠ 0 := fun e => h (UInt8.toNat_inj.1 e)
theorem gm_gi {a : UInt8} (h : a ≠ 0) : gm a (gi a) = 1 := UInt8.toNat_inj.1 (by rw [gm_nat, gi_nat]; exact mul_inv a.toNat_lt (ne_nat h))
theorem gi_ne {a : UInt8} (h : a ≠ 0) : gi a ≠ 0 := fun e => by
  have := gm_gi h
  rw [e, gm_zero] at this
  exact absurd this (by decide)
theorem gm_cancel {a b c : UInt8} (h : a ≠ 0) (e : gm a b = gm a c) : b = c := by
  have h1 := congrArg (gm (gi a)) e
  rw [gm_assoc, gm_assoc, gm_comm (gi a), gm_gi h, one_gm, one_gm] at h1
  exact h1
theorem gm_no_zero {a b : UInt8} (e : gm a b = 0) : a = 0 ∨ b = 0 := by
  by_cases h : a = 0
  · exact Or.inl h
  · exact Or.inr (gm_cancel h (by rw [e, gm_zero]))
theorem self_add (a : UInt8) : a ^^^ a = 0 := by simp
theorem add_zero (a : UInt8) : a ^^^ 0 = a := by simp
theorem zero_add (a : UInt8) : 0 ^^^ a = a := by simp
theorem add_comm (a b : UInt8) : a ^^^ b = b ^^^ a := UInt8.xor_comm a b
theorem add_assoc (a b c : UInt8) : a ^^^ b ^^^ c = a ^^^ (b ^^^ c) := UInt8.xor_assoc a b c
theorem add4 (a b c d : UInt8) : (a ^^^ b) ^^^ (c ^^^ d) = (a ^^^ c) ^^^ (b ^^^ d) := by
  rw [add_assoc, ← add_assoc b, add_comm b c, add_assoc, ← add_assoc]
theorem add_eq_zero {a b : UInt8} (h : a ^^^ b = 0) : a = b := by
  have := congrArg (· ^^^ b) h
  simp only [add_assoc, self_add, add_zero, zero_add] at this
  exact this

/-- The sum of n elements. -/
def sm : Nat → (Nat → UInt8) → UInt8
  | 0, _ => 0
  | n + 1, f => sm n f ^^^ f n
theorem sm_congr {n : Nat} {f g : Nat → UInt8} (h : ∀ k, k < n → f k = g k) : sm n f = sm n g := by
  induction n with
  | zero => rfl
  | succ n ih => rw [sm, sm, ih (fun k hk => h k (by omega)), h n (by omega)]
theorem sm_zero {n : Nat} {f : Nat → UInt8} (h : ∀ k, k < n → f k = 0) : sm n f = 0 := by
  induction n with
  | zero => rfl
  | succ n ih => rw [sm, ih (fun k hk => h k (by omega)), h n (by omega)]; rfl
theorem sm_add (n : Nat) (f g : Nat → UInt8) : sm n (fun k => f k ^^^ g k) = sm n f ^^^ sm n g := by
  induction n with
  | zero => simp [sm]
  | succ n ih => rw [sm, sm, sm, ih, add4]
theorem sm_mul (n : Nat) (c : UInt8) (f : Nat → UInt8) : sm n (fun k => gm c (f k)) = gm c (sm n f) := by
  induction n with
  | zero => rw [sm, sm, gm_zero]
  | succ n ih => rw [sm, sm, ih, gm_add]
theorem sm_mul' (n : Nat) (c : UInt8) (f : Nat → UInt8) : sm n (fun k => gm (f k) c) = gm (sm n f) c := by
  rw [gm_comm, ← sm_mul]
  exact sm_congr fun k _ => gm_comm _ _
theorem sm_swap (n m : Nat) (f : Nat → Nat → UInt8) : sm n (fun i => sm m (fun j => f i j)) = sm m (fun j => sm n (fun i => f i j)) := by
  induction n with
  | zero => rw [sm]; exact (sm_zero fun _ _ => rfl).symm
  | succ n ih =>
    rw [sm, ih, ← sm_add]
    exact sm_congr fun j _ => rfl
theorem sm_one {n j : Nat} (hj : j < n) (f : Nat → UInt8) (h : ∀ k, k < n → k ≠ j → f k = 0) : sm n f = f j := by
  induction n with
  | zero => omega
  | succ n ih =>
    rw [sm]
    by_cases e : j = n
    · subst e
      rw [sm_zero (fun k hk => h k (by omega) (by omega)), zero_add]
    · rw [ih (by omega) (fun k hk hne => h k (by omega) hne), h n (by omega) (fun e2 => e e2.symm), add_zero]

/-- The product of matrices over n. -/
def mm (n : Nat) (A B : Nat → Nat → UInt8) (i j : Nat) : UInt8 := sm n fun k => gm (A i k) (B k j)
/-- The unit. -/
def un (i j : Nat) : UInt8 := if i = j then 1 else 0
theorem mm_assoc (n m : Nat) (A B C : Nat → Nat → UInt8) (i j : Nat) : mm m (mm n A B) C i j = mm n A (mm m B C) i j := by
  unfold mm
  have e1 : ∀ k, gm (sm n fun l => gm (A i l) (B l k)) (C k j) = sm n fun l => gm (A i l) (gm (B l k) (C k j)) := fun k => by
    rw [← sm_mul']
    exact sm_congr fun l _ => (gm_assoc _ _ _).symm
  rw [sm_congr fun k _ => e1 k, sm_swap]
  exact sm_congr fun l _ => sm_mul _ _ _
theorem mm_un (n : Nat) (A : Nat → Nat → UInt8) (i j : Nat) (hj : j < n) : mm n A un i j = A i j := by
  unfold mm
  rw [sm_one hj]
  · unfold un; rw [if_pos rfl, gm_one]
  · intro k _ h; unfold un; rw [if_neg h, gm_zero]
theorem un_mm (n : Nat) (A : Nat → Nat → UInt8) (i j : Nat) (hi : i < n) : mm n un A i j = A i j := by
  unfold mm
  rw [sm_one hi]
  · unfold un; rw [if_pos rfl, one_gm]
  · intro k _ h; unfold un; rw [if_neg (fun e => h e.symm), zero_gm]
/-- Alike at all places below n. -/
def Eq2 (n : Nat) (A B : Nat → Nat → UInt8) : Prop := ∀ i j, i < n → j < n → A i j = B i j
theorem Eq2.symm {n : Nat} {A B : Nat → Nat → UInt8} (h : Eq2 n A B) : Eq2 n B A := fun i j hi hj => (h i j hi hj).symm
theorem Eq2.trans {n : Nat} {A B C : Nat → Nat → UInt8} (h : Eq2 n A B) (k : Eq2 n B C) : Eq2 n A C := fun i j hi hj => (h i j hi hj).trans (k i j hi hj)
theorem mm_congr {n : Nat} {A A' B B' : Nat → Nat → UInt8} (h : Eq2 n A A') (k : Eq2 n B B') : Eq2 n (mm n A B) (mm n A' B') := fun i j hi hj =>
  sm_congr fun l hl => by rw [h i l hi hl, k l j hl hj]
/-- Both undo each other. -/
def Inv (n : Nat) (A U : Nat → Nat → UInt8) : Prop := Eq2 n (mm n A U) un ∧ Eq2 n (mm n U A) un
theorem Inv.symm {n : Nat} {A U : Nat → Nat → UInt8} (h : Inv n A U) : Inv n U A := ⟨h.2, h.1⟩
theorem inv_un (n : Nat) : Inv n un un := ⟨fun i j _ hj => mm_un n un i j hj, fun i j _ hj => mm_un n un i j hj⟩
theorem Inv.mul {n : Nat} {A U B V : Nat → Nat → UInt8} (h : Inv n A U) (k : Inv n B V) : Inv n (mm n A B) (mm n V U) := by
  constructor
  · intro i j hi hj
    rw [mm_assoc, mm_congr (n := n) (A := A) (A' := A) (fun _ _ _ _ => rfl) (B' := U) (fun a b ha hb => ?_) i j hi hj]
    · exact h.1 i j hi hj
    · rw [← mm_assoc, mm_congr k.1 (fun _ _ _ _ => rfl) a b ha hb, un_mm n U a b ha]
  · intro i j hi hj
    rw [mm_assoc, mm_congr (n := n) (A := V) (A' := V) (fun _ _ _ _ => rfl) (B' := B) (fun a b ha hb => ?_) i j hi hj]
    · exact k.2 i j hi hj
    · rw [← mm_assoc, mm_congr h.2 (fun _ _ _ _ => rfl) a b ha hb, un_mm n B a b ha]
/-- What undoes it from the left is what undoes it from the right. -/
theorem inv_unique {n : Nat} {A U V : Nat → Nat → UInt8} (h : Eq2 n (mm n V A) un) (k : Eq2 n (mm n A U) un) : Eq2 n V U := by
  intro i j hi hj
  have e1 : mm n V (mm n A U) i j = V i j := by
    rw [mm_congr (n := n) (A := V) (A' := V) (fun _ _ _ _ => rfl) k i j hi hj, mm_un n V i j hj]
  rw [← e1, ← mm_assoc, mm_congr h (fun _ _ _ _ => rfl) i j hi hj, un_mm n U i j hi]
/-- A matrix times a row of elements. -/
def mv (n : Nat) (A : Nat → Nat → UInt8) (x : Nat → UInt8) (i : Nat) : UInt8 := sm n fun k => gm (A i k) (x k)
theorem mv_mm (n : Nat) (A B : Nat → Nat → UInt8) (x : Nat → UInt8) (i : Nat) : mv n (mm n A B) x i = mv n A (mv n B x) i := mm_assoc n n A B (fun k _ => x k) i 0
theorem mv_un (n : Nat) (x : Nat → UInt8) (i : Nat) (hi : i < n) : mv n un x i = x i := un_mm n (fun k _ => x k) i 0 hi
theorem mv_congr {n : Nat} {A A' : Nat → Nat → UInt8} {x x' : Nat → UInt8} (h : Eq2 n A A') (k : ∀ l, l < n → x l = x' l) (i : Nat) (hi : i < n) : mv n A x i = mv n A' x' i :=
  sm_congr fun l hl => by rw [h i l hi hl, k l hl]
theorem mv_zero (n : Nat) (A : Nat → Nat → UInt8) (i : Nat) : mv n A (fun _ => 0) i = 0 := sm_zero fun _ _ => gm_zero _
/-- A row that is not all 0, and goes to 0. -/
def Ker (n : Nat) (A : Nat → Nat → UInt8) (x : Nat → UInt8) : Prop := (∃ k, k < n ∧ x k ≠ 0) ∧ ∀ i, i < n → mv n A x i = 0
/-- What has a left inverse lets no such row be. -/
theorem no_ker {n : Nat} {A U : Nat → Nat → UInt8} {x : Nat → UInt8} (h : Eq2 n (mm n U A) un) (k : Ker n A x) : False := by
  obtain ⟨⟨i, hi, hx⟩, hz⟩ := k
  apply hx
  rw [← mv_un n x i hi, ← mv_congr h (fun _ _ => rfl) i hi, mv_mm, mv_congr (A := U) (A' := U) (fun _ _ _ _ => rfl) (x' := fun _ => 0) hz i hi, mv_zero]
end Go.Proofs.Ythifdfbdekkmgaa.Gf

/- What the document says of matrices, as lists of texts. -/
namespace Go.Proofs.Ythifdfbdekkmgaa
open Go.RowKit Gf
set_option linter.unusedVariables false
theorem mb_gm (a b : UInt8) : mb a.toNat b = gm a b := rfl
/-- The element at row i, column j. -/
def mt (ss : List ByteArray) (i j : Nat) : UInt8 := bt (nth ss i) j
/-- n rows of m elements. -/
def matL (n m : Nat) (A : Nat → Nat → UInt8) : List ByteArray := (List.range n).map fun i => strOf m (A i)
theorem matL_length (n m : Nat) (A : Nat → Nat → UInt8) : (matL n m A).length = n := by simp [matL]
theorem matL_snoc (n m : Nat) (A : Nat → Nat → UInt8) : matL (n + 1) m A = matL n m A ++ [strOf m (A n)] := by simp [matL, List.range_succ]
theorem nth_matL (n m : Nat) (A : Nat → Nat → UInt8) (i : Nat) (h : i < n) : nth (matL n m A) i = strOf m (A i) := by
  unfold nth matL
  rw [List.getD_eq_getElem?_getD, List.getElem?_map, List.getElem?_range h]
  rfl
theorem mt_matL (n m : Nat) (A : Nat → Nat → UInt8) (i j : Nat) (h : i < n) (k : j < m) : mt (matL n m A) i j = A i j := by
  unfold mt
  rw [nth_matL n m A i h, strOf_bt _ _ _ k]
theorem list_ext (a b : List ByteArray) (h : a.length = b.length) (e : ∀ i, i < a.length → nth a i = nth b i) : a = b := by
  apply List.ext_getElem h
  intro i h1 h2
  rw [nth_get a i h1, nth_get b i h2, e i h1]
theorem matL_congr (n m : Nat) (A B : Nat → Nat → UInt8) (h : ∀ i j, i < n → j < m → A i j = B i j) : matL n m A = matL n m B := by
  refine list_ext _ _ (by rw [matL_length, matL_length]) (fun i hi => ?_)
  rw [matL_length] at hi
  rw [nth_matL _ _ _ _ hi, nth_matL _ _ _ _ hi]
  exact strOf_congr _ _ _ (fun j hj => h i j hi hj)
theorem mat_self (ss : List ByteArray) (h : evenB ss = true) : matL ss.length (nth ss 0).size (mt ss) = ss := by
  refine list_ext _ _ (matL_length _ _ _) (fun i hi => ?_)
  rw [matL_length] at hi
  rw [nth_matL _ _ _ _ hi, ← even_all ss h i hi]
  exact strOf_self _
/-- P5.1: which may be. -/
def mayB (ss : List ByteArray) : Bool := decide (1 ≤ ss.length ∧ ss.length ≤ 64 ∧ 1 ≤ (nth ss 0).size ∧ (nth ss 0).size ≤ 64) && evenB ss
theorem may_yes (ss : List ByteArray) (h : mayB ss = true) : 1 ≤ ss.length ∧ ss.length ≤ 64 ∧ 1 ≤ (nth ss 0).size ∧ (nth ss 0).size ≤ 64 ∧ evenB ss = true := by
  unfold mayB at h
  rw [Bool.and_eq_true, decide_eq_true_eq] at h
  exact ⟨h.1.1, h.1.2.1, h.1.2.2.1, h.1.2.2.2, h.2⟩
theorem may_size (ss : List ByteArray) (h : mayB ss = true) (i : Nat) (hi : i < ss.length) : (nth ss i).size = (nth ss 0).size := even_all ss (may_yes ss h).2.2.2.2 i hi
theorem may_no (ss : List ByteArray) (h : ¬ (1 ≤ ss.length ∧ ss.length ≤ 64 ∧ 1 ≤ (nth ss 0).size ∧ (nth ss 0).size ≤ 64)) : mayB ss = false := by
  unfold mayB
  rw [decide_eq_false h]
  rfl
theorem may_even (ss : List ByteArray) (h : 1 ≤ ss.length ∧ ss.length ≤ 64 ∧ 1 ≤ (nth ss 0).size ∧ (nth ss 0).size ≤ 64) : mayB ss = evenB ss := by
  unfold mayB
  rw [decide_eq_true h]
  rfl
theorem even_matL (n m : Nat) (A : Nat → Nat → UInt8) : evenB (matL n m A) = true := by
  refine even_yes _ (fun k hk => ?_)
  rw [matL_length] at hk
  rw [nth_matL _ _ _ _ hk, nth_matL _ _ _ _ (by omega), strOf_size, strOf_size]
theorem may_matL (n m : Nat) (A : Nat → Nat → UInt8) (h1 : 1 ≤ n) (h2 : n ≤ 64) (h3 : 1 ≤ m) (h4 : m ≤ 64) : mayB (matL n m A) = true := by
  rw [may_even _ (by rw [matL_length, nth_matL _ _ _ _ (by omega), strOf_size]; exact ⟨h1, h2, h3, h4⟩), even_matL]
/-- P5.1: the unit. -/
def unitL (n : Int) : List ByteArray := if 1 ≤ n ∧ n ≤ 64 then matL n.toNat n.toNat un else []
/-- P5.1: the product. -/
def prodE (a b : List ByteArray) : Int := if mayB a = true ∧ mayB b = true then (if (nth a 0).size = b.length then 0 else 50) else 8
def prodL (a b : List ByteArray) : List ByteArray := if prodE a b = 0 then matL a.length (nth b 0).size (mm b.length (mt a) (mt b)) else []
/-- P5.2: what undoes a matrix. -/
def CanUndo (a : List ByteArray) : Prop := ∃ U, Inv a.length (mt a) U
open Classical in
noncomputable def undoE (a : List ByteArray) : Int := if mayB a = true then (if (nth a 0).size = a.length then (if CanUndo a then 0 else 51) else 50) else 8
open Classical in
noncomputable def undoL (a : List ByteArray) : List ByteArray := if h : undoE a = 0 ∧ CanUndo a then matL a.length a.length (Classical.choose h.2) else []
theorem undo_is (a : List ByteArray) (hm : mayB a = true) (hs : (nth a 0).size = a.length) (U : Nat → Nat → UInt8) (hU : Inv a.length (mt a) U) : undoE a = 0 ∧ undoL a = matL a.length a.length U := by
  have hc : CanUndo a := ⟨U, hU⟩
  have he : undoE a = 0 := by unfold undoE; rw [if_pos hm, if_pos hs, if_pos hc]
  refine ⟨he, ?_⟩
  unfold undoL
  rw [dif_pos ⟨he, hc⟩]
  have hch := Classical.choose_spec hc
  refine matL_congr _ _ _ _ (fun i j hi hj => ?_)
  exact inv_unique hch.2 hU.1 i j hi hj
theorem undo_not (a : List ByteArray) (hm : mayB a = true) (hs : (nth a 0).size = a.length) (h : ¬ CanUndo a) : undoE a = 51 ∧ undoL a = [] := by
  have he : undoE a = 51 := by unfold undoE; rw [if_pos hm, if_pos hs, if_neg h]
  refine ⟨he, ?_⟩
  unfold undoL
  rw [dif_neg (fun k => h k.2)]
theorem undo_side (a : List ByteArray) (hm : mayB a = true) (hs : (nth a 0).size ≠ a.length) : undoE a = 50 ∧ undoL a = [] := by
  have he : undoE a = 50 := by unfold undoE; rw [if_pos hm, if_neg hs]
  refine ⟨he, ?_⟩
  unfold undoL
  rw [dif_neg (fun k => by rw [he] at k; exact absurd k.1 (by decide))]
theorem undo_form (a : List ByteArray) (hm : ¬ mayB a = true) : undoE a = 8 ∧ undoL a = [] := by
  have he : undoE a = 8 := by unfold undoE; rw [if_neg hm]
  refine ⟨he, ?_⟩
  unfold undoL
  rw [dif_neg (fun k => by rw [he] at k; exact absurd k.1 (by decide))]
/-- P5.3: Cauchy's matrix. -/
def cauE (n m : Int) : Int := if 1 ≤ n ∧ n ≤ 64 ∧ 1 ≤ m ∧ m ≤ 64 then 0 else 2
def cauL (n m : Int) : List ByteArray := if cauE n m = 0 then matL n.toNat m.toNat (fun i j => gi (UInt8.ofNat (m.toNat + i) ^^^ UInt8.ofNat j)) else []
/-- P5.3: rows that are picked. -/
def pickOk (a : List ByteArray) (rs : List Int) : Bool := decide (1 ≤ rs.length ∧ rs.length ≤ 64) && rs.all fun r => decide (0 ≤ r ∧ r < a.length)
def pickE (a : List ByteArray) (rs : List Int) : Int := if mayB a = true then (if pickOk a rs = true then 0 else 2) else 8
def pickL (a : List ByteArray) (rs : List Int) : List ByteArray := if pickE a rs = 0 then rs.map fun r => nth a r.toNat else []
/-- P5.3: rows below others. -/
def belE (a b : List ByteArray) : Int := if mayB a = true ∧ mayB b = true then (if (nth a 0).size = (nth b 0).size then (if a.length + b.length ≤ 64 then 0 else 2) else 50) else 8
def belL (a b : List ByteArray) : List ByteArray := if belE a b = 0 then a ++ b else []
/-- What a call that answers a matrix and an error leaves. -/
def GotM (rows : List ByteArray) (err : Int) (w : World) (e : Ending) (w' : World) : Prop := ∃ a cap, e = .returned (.tuple #[.slice a rows.length cap, .int .i64 err]) ∧ Strs w' a rows ∧ Kept w w'
/-- What a call that answers a matrix leaves. -/
def GotL (rows : List ByteArray) (w : World) (e : Ending) (w' : World) : Prop := ∃ a cap, e = .returned (.slice a rows.length cap) ∧ Strs w' a rows ∧ Kept w w'
end Go.Proofs.Ythifdfbdekkmgaa

/- A slice of texts that the call itself has gathered, by append. -/
namespace Go.Proofs.Ythifdfbdekkmgaa
open Go.RowKit
set_option linter.unusedVariables false
/-- The value v is a slice of just the texts ss, nil or in a row among the blocks from B on. -/
def Gat (B : Nat) (v : Value) (ss : List ByteArray) (w : World) : Prop := w.ownsRow B 9 1 v ss.length (ss.map Value.string)
theorem Gat.nil (B : Nat) (w : World) : Gat B (.slice none 0 0) [] w := World.ownsRow_nil _ _ _ _
theorem Gat.kept {B : Nat} {v : Value} {ss : List ByteArray} {w w' : World} (h : Gat B v ss w) (k : Kept w w') : Gat B v ss w' := by
  obtain ⟨h1, h2⟩ := h
  refine ⟨h1, ?_⟩
  rcases h2 with h2 | ⟨g, cap, cur, h2, h3, h4, h5⟩
  · exact .inl h2
  · exact .inr ⟨g, cap, cur, h2, h3, by rw [k.block g (Array.getElem?_eq_some_iff.1 h4).1]; exact h4, h5⟩
theorem Gat.strs {B : Nat} {v : Value} {ss : List ByteArray} {w : World} (h : Gat B v ss w) : ∃ a cap, v = .slice a ss.length cap ∧ Strs w a ss := by
  obtain ⟨h1, h2⟩ := h
  rcases h2 with ⟨rfl, h2⟩ | ⟨g, cap, cur, rfl, h3, h4, h5, h6, h7, h8⟩
  · exact ⟨none, 0, by rw [h2], .inl (List.length_eq_zero_iff.1 h2)⟩
  · refine ⟨_, cap, rfl, .inr ⟨g, 0, rfl, fun i hi => ?_⟩⟩
    rw [Nat.zero_add, cell_of_row _ _ i _ _ _ h4]
    have e : (cur.toList.take (ss.length * 1))[i]? = (ss.map Value.string)[i]? := by rw [h8]
    rw [List.getElem?_take_of_lt (by omega)] at e
    rw [← Array.getElem?_toList, e, List.getElem?_map, List.getD_eq_getElem?_getD, List.getElem?_eq_getElem hi]
    rfl
theorem Gat.lt {B : Nat} {v : Value} {ss : List ByteArray} {w : World} (h : Gat B v ss w) : ∀ k, v.ownBlock = some k → B ≤ k ∧ k < w.heap.size := World.ownsRow.lt h
theorem Kept.grownBy {a w w' : World} {v : Value} {ss : List ByteArray} (h : Kept a w) (hg : w.grownBy w' v.ownBlock) (ho : Gat a.heap.size v ss w) : Kept a w' :=
  Below.grown h hg h.size (fun k hk => (ho.lt k hk).1)
theorem cell_new (w : World) (s : ByteArray) (t : TypeId) : ∀ j u, [Value.string s][j]? = some u → (w.alloc (.cells #[.string s] t)).cell? ((⟨w.heap.size, 0, none⟩ : Addr).add j) = some u := by
  intro j u hj
  match j, hj with
  | 0, hj =>
    simp at hj
    subst hj
    rw [add_at, World.cell?_alloc_mark]
    rfl
theorem one_string (s : ByteArray) : ∀ u ∈ [Value.string s], u.oneCell' = true := by
  intro u hu
  simp at hu
  subst hu
  rfl
/-- What an append of one text leaves. -/
theorem Gat.snoc {a w1 w2 : World} {v v2 : Value} {ss : List ByteArray} {s : ByteArray} (ho : Gat a.heap.size v ss w1) (hk : Kept a w1) (h2 : w2.ownsRow a.heap.size 9 1 v2 (ss.length + 1) (ss.map Value.string ++ [.string s])) (hg : w1.grownBy w2 v.ownBlock) : Gat a.heap.size v2 (ss ++ [s]) w2 ∧ Kept a w2 := by
  refine ⟨?_, Kept.grownBy hk hg ho⟩
  unfold Gat
  rw [List.map_append, List.length_append]
  exact h2
theorem info_string : (Seq.prog.info? 9).map (fun i => (i.zero, i.size, i.bytes)) = some (some (.string ByteArray.empty), 1, 16) := by kernel_rfl
theorem cell_one (W : World) (g : Nat) (s : ByteArray) (h : W.cell? ⟨g, 0, none⟩ = some (.string s)) : ∀ j u, [Value.string s][j]? = some u → W.cell? ((⟨g, 0, none⟩ : Addr).add j) = some u := by
  intro j u hj
  match j, hj with
  | 0, hj =>
    simp at hj
    subst hj
    rw [add_at]
    exact h
/-- An append of one text, as a walk meets it. -/
theorem wpList_gat {ops : Array Oper} {rest : List Oper} {o : Oper} {a : Act} {Q : Exit → Act → World → Prop} (W : World) (hgd : o.guard = none) (s x : Operand) (t : TypeId)
    (ho : o.op = .call { callee := .builtin .append, args := #[s, x], argTypes := #[t, t] }) (ht : Seq.prog.underlying t = some (.slice 9))
    (w0 : World) (v : Value) (ss : List ByteArray) (hs : a.eval s = v) (hG : Gat w0.heap.size v ss W) (hK : Kept w0 W) (str : ByteArray) (g : Nat) (hx : a.eval x = .slice (some ⟨g, 0, none⟩) 1 1) (hc : W.cell? ⟨g, 0, none⟩ = some (.string str)) (hl : ss.length ≤ 1000000000)
    (h : ∀ v' w', Gat w0.heap.size v' (ss ++ [str]) w' → Kept w0 w' → wpList Seq.prog ops Q rest (a.put o.dst v') w') : wpList Seq.prog ops Q (o :: rest) a W := by
  obtain ⟨i0, hi, hzz⟩ := Option.map_eq_some_iff.1 info_string
  simp only [Prod.mk.injEq] at hzz
  refine wpList_append_own W hgd s x t ho w0.heap.size 9 i0 (.string ByteArray.empty) 1 16 ht hi hzz.1 hzz.2.1 hzz.2.2 rfl (by decide) v ss.length (ss.map Value.string) hs hG ⟨g, 0, none⟩ 1 1 [.string str] hx rfl (cell_one W g str hc) (one_string str) (by unfold maxLen; omega) (by omega) hK.size ?_
  intro v' w' h2 h3 _
  obtain ⟨h4, h5⟩ := Gat.snoc hG hK h2 h3
  exact h v' w' h4 h5
theorem cells_many (W : World) (g o : Nat) (ts : List ByteArray) (h : ∀ i, i < ts.length → W.cell? ⟨g, o + i, none⟩ = some (.string (ts.getD i ByteArray.empty))) : ∀ j u, (ts.map Value.string)[j]? = some u → W.cell? ((⟨g, o, none⟩ : Addr).add j) = some u := by
  intro j u hj
  rw [List.getElem?_map] at hj
  by_cases hjl : j < ts.length
  · rw [List.getElem?_eq_getElem hjl] at hj
    have h2 := h j hjl
    rw [List.getD_eq_getElem?_getD, List.getElem?_eq_getElem hjl] at h2
    rw [Go.WideShapes.add_plain, h2]
    exact hj
  · rw [List.getElem?_eq_none (by omega)] at hj
    cases hj
theorem all_string (ts : List ByteArray) : ∀ u ∈ ts.map Value.string, u.oneCell' = true := by
  intro u hu
  obtain ⟨s, _, rfl⟩ := List.mem_map.1 hu
  rfl
/-- An append of a slice of texts, as a walk meets it. -/
theorem wpList_gats {ops : Array Oper} {rest : List Oper} {o : Oper} {a : Act} {Q : Exit → Act → World → Prop} (W : World) (hgd : o.guard = none) (s x : Operand) (t : TypeId)
    (ho : o.op = .call { callee := .builtin .append, args := #[s, x], argTypes := #[t, t] }) (ht : Seq.prog.underlying t = some (.slice 9))
    (w0 : World) (v : Value) (ss : List ByteArray) (hs : a.eval s = v) (hG : Gat w0.heap.size v ss W) (hK : Kept w0 W) (ts : List ByteArray) (g off c : Nat) (hx : a.eval x = .slice (some ⟨g, off, none⟩) ts.length c) (hc : ∀ i, i < ts.length → W.cell? ⟨g, off + i, none⟩ = some (.string (ts.getD i ByteArray.empty))) (hl : ss.length + ts.length ≤ 1000000000)
    (h : ∀ v' w', Gat w0.heap.size v' (ss ++ ts) w' → Kept w0 w' → wpList Seq.prog ops Q rest (a.put o.dst v') w') : wpList Seq.prog ops Q (o :: rest) a W := by
  obtain ⟨i0, hi, hzz⟩ := Option.map_eq_some_iff.1 info_string
  simp only [Prod.mk.injEq] at hzz
  refine wpList_append_own W hgd s x t ho w0.heap.size 9 i0 (.string ByteArray.empty) 1 16 ht hi hzz.1 hzz.2.1 hzz.2.2 rfl (by decide) v ss.length (ss.map Value.string) hs hG ⟨g, off, none⟩ ts.length c (ts.map Value.string) hx (by rw [List.length_map, Nat.mul_one]) (cells_many W g off ts hc) (all_string ts) (by unfold maxLen; omega) (by omega) hK.size ?_
  intro v' w' h2 h3 _
  refine h v' w' ?_ (Kept.grownBy hK h3 hG)
  unfold Gat
  rw [List.map_append, List.length_append]
  exact h2
/-- A slice of no texts that was made just now. -/
theorem Gat.made {w0 w : World} (k : Kept w0 w) : Gat w0.heap.size (.slice (some ⟨w.heap.size, 0, none⟩) 0 0) [] (w.alloc (.cells #[] 9)) := World.ownsRow_made w #[] 0 k.size (Nat.zero_le _) rfl
end Go.Proofs.Ythifdfbdekkmgaa

/- What the document's own answers on matrices come to: May, Same, Unit. -/
namespace Go.Proofs.Ythifdfbdekkmgaa
open Go.RowKit Gf
set_option linter.unusedVariables false
theorem str_beq (x y : ByteArray) : (x.toList == y.toList) = true ↔ x = y := by
  rw [ByteArray.toList_eq, ByteArray.toList_eq, beq_iff_eq]
  exact ⟨fun h => ByteArray.ext (Array.ext' h), fun h => by rw [h]⟩
set_option maxRecDepth 100000 in
theorem refMay_any (a : Option Addr) (cap : Nat) (ss : List ByteArray) (w : World) (hS : Strs w a ss) (hm : ss.length ≤ maxLen) (hz : ∀ s ∈ ss, s.size ≤ maxLen) :
    Calls Seq.prog 87 #[.slice a ss.length cap] w fun e w' => e = .returned (.bool (mayB ss)) ∧ Kept w w' := by
  obtain ⟨b, o, hc⟩ := strs_at hS
  have HC := Lib.hid hc
  have HZ : Hid (∀ i, i < ss.length → (nth ss i).size ≤ maxLen) := fun i hi => hz _ (by rw [← nth_get ss i hi]; exact List.getElem_mem hi)
  clear hc hS hz
  unfold maxLen at hm
  by_cases h1 : 1 ≤ ss.length ∧ ss.length ≤ 64
  · obtain ⟨ha, hc⟩ := HC.out (by omega)
    have hc0 := hc 0 (by omega)
    have hz0 := HZ.out 0 (by omega)
    unfold maxLen at hz0
    rw [Nat.add_zero] at hc0
    rw [ha]
    by_cases h2 : 1 ≤ (nth ss 0).size ∧ (nth ss 0).size ≤ 64
    · have HE := Lib.hid (may_even ss ⟨h1.1, h1.2, h2⟩)
      obtain ⟨q, hq⟩ : ∃ q, nth ss 0 = q := ⟨_, rfl⟩
      rw [hq] at hc0 hz0 h2
      have HQ := Lib.hid hq
      have HCC := Lib.hid hc
      have HC0 := Lib.hid hc0
      clear hc ha hq HC
      go_enter Seq.func87, Seq.ntmps87
      go_wp2_with fail
      go_loopw [3] (fun i wr => ∃ k : Nat, k ≤ ss.length ∧ i = .int .i64 k ∧ Hid ((∀ j, j < k → (nth ss j).size = (nth ss 0).size) ∧ Kept w wr)) (fun i _ => ss.length - (intOf i).toNat)
      case atStart => exact ⟨0, Nat.zero_le _, rfl, fun j hj => by omega, Kept.refl _⟩
      case round =>
        obtain ⟨k, hk, rfl, HY⟩ := hrel
        by_cases hlt : k < ss.length
        · have hck : wr.cell? ⟨b, o + k, none⟩ = some (.string (nth ss k)) := by rw [Below.cell HY.out.2 (block_lt_of_cell (HCC.out k hlt)), HCC.out k hlt]
          have hc0 : wr.cell? ⟨b, o, none⟩ = some (.string q) := by rw [Below.cell HY.out.2 (block_lt_of_cell HC0.out), HC0.out]
          have HKR : Hid (Kept w wr) := HY.out.2
          have hzk := HZ.out k hlt
          have HNO := Lib.hid (even_no ss k hlt)
          have HN : Hid ((nth ss k).size = (nth ss 0).size → ∀ j, j < k + 1 → (nth ss j).size = (nth ss 0).size) := fun h j hj => by
            by_cases e : j = k
            · subst e; exact h
            · exact HY.out.1 j (by omega)
          unfold maxLen at hzk
          rw [HQ.out] at HNO HN
          generalize nth ss k = p at *
          by_cases he : p.size = q.size
          · have he1 : ((p.size : Int) == (q.size : Int)) = true := by simp [he]
            have HN2 := Lib.hid (HN.out he)
            clear HN HNO
            go_wp2_with fail
            go_quiet (fail)
            go_wp2_with fail
            exact ⟨⟨k + 1, by omega, by go_num, by rw [HQ.out]; exact HN2.out, HKR.out.trans ((Kept.refl _).drewN _)⟩, by simp [intOf]; omega⟩
          · have he1 : ((p.size : Int) == (q.size : Int)) = false := by simp; omega
            have HE2 := Lib.hid (HNO.out he)
            clear HN HNO
            go_wp2_with fail
            go_quiet (fail)
            go_wp2_with fail
            go_ret
            exact ⟨by rw [HE.out, HE2.out]; rfl, HKR.out.trans ((Kept.refl _).drewN _)⟩
        · obtain rfl : k = ss.length := by omega
          have HE2 := Lib.hid (even_yes ss HY.out.1)
          have HKR : Hid (Kept w wr) := HY.out.2
          clear HY HCC HZ
          go_wp2_with fail
          go_ret
          exact ⟨by rw [HE.out, HE2.out]; rfl, HKR.out⟩
    · have HE := Lib.hid (may_no ss (fun h => h2 h.2.2))
      clear hc ha HC
      generalize nth ss 0 = q at *
      go_enter Seq.func87, Seq.ntmps87
      rcases Nat.lt_or_ge q.size 1 with h3 | h3
      · go_wp2_with fail
        go_ret
        exact ⟨by rw [HE.out]; rfl, Kept.refl _⟩
      · have h4 : 64 < q.size := by omega
        clear h2
        go_wp2_with fail
        go_ret
        exact ⟨by rw [HE.out]; rfl, Kept.refl _⟩
  · have HE := Lib.hid (may_no ss (fun h => h1 ⟨h.1, h.2.1⟩))
    clear HC HZ
    go_enter Seq.func87, Seq.ntmps87
    rcases Nat.lt_or_ge ss.length 1 with h3 | h3
    · go_wp2_with fail
      go_ret
      exact ⟨by rw [HE.out]; rfl, Kept.refl _⟩
    · have h4 : 64 < ss.length := by omega
      clear h1
      go_wp2_with fail
      go_ret
      exact ⟨by rw [HE.out]; rfl, Kept.refl _⟩
end Go.Proofs.Ythifdfbdekkmgaa

