/- What the document's own answers on texts come to. -/
import Derived.Test.YtmfoplkpdibppaaFieldSum
import Derived.Test.YtmfoplkpdibppaaFieldRef
import Derived.StillTailTactics
import Derived.OwnWalk
namespace Go.Proofs.Ytmfoplkpdibppaa
open Go.RowKit Gf
set_option linter.unusedVariables false
/-- The bytes that '[]byte(s)' makes. -/
theorem Byt.conv (w : World) (s : ByteArray) (cap : Nat) (t : TypeId) : Byt w.heap.size s.size (bt s) (w.drew.alloc (.cells (bytesRow s cap) t ((bytesRow s cap).size, (bytesRow s cap).size + 1))) := by
  have hz : s.size ≤ (bytesRow s cap).size := by unfold bytesRow; rw [Array.size_append, Array.size_map]; exact Nat.le_add_right _ _
  refine ⟨fun j hj => ?_, fun j hj => ?_⟩
  · show (w.alloc (Obj.cells (bytesRow s cap) _ _)).cell? _ = _
    rw [World.cell?_alloc_mark, bytesRow_at s cap j (by simpa using hj)]
    unfold bt
    rw [getElem!_pos s.data.toList j (by simpa using hj)]
    simp
  · show (w.alloc (Obj.cells (bytesRow s cap) _ _)).frozen? _ = _
    rw [World.frozen?_alloc_mark]
    simp
    omega
/-- The first k bytes multiplied. -/
def muls (c : Nat) (s : ByteArray) (k j : Nat) : UInt8 := if j < k then mb c (bt s j) else bt s j
theorem muls_next (c : Nat) (s : ByteArray) (k j : Nat) : muls c s (k + 1) j = upd (muls c s k) k (mb c (bt s k)) j := by
  unfold upd
  by_cases e : j = k
  · subst e; unfold muls; rw [if_pos (by omega), if_pos rfl]
  · rw [if_neg e]
    unfold muls
    by_cases h : j < k
    · rw [if_pos (by omega), if_pos h]
    · rw [if_neg (by omega), if_neg h]
set_option maxRecDepth 100000 in
theorem refTimes_any (c : Nat) (s : ByteArray) (hc : c < 256) (hs : s.size ≤ 100000000) (w : World) :
    Calls Try.prog 24 #[.int .u8 (c : Nat), .string s] w fun e w' => e = .returned (.string (timesB c s)) ∧ Kept w w' := by
  have hcv := run_bytes_of_string (P := Try.prog) w 9 45 5 s Try.underlying9 Try.underlying45 Try.underlying5
  obtain ⟨cap, hcap⟩ : ∃ cap, grownCap w s.size 0 5 = cap := ⟨_, rfl⟩
  rw [hcap] at hcv
  have HB := Lib.hid (Byt.conv w s cap 5)
  have HK : Hid (Kept w (w.drew.alloc (.cells (bytesRow s cap) 5 ((bytesRow s cap).size, (bytesRow s cap).size + 1)))) := ((Kept.refl _).drew).alloc _
  generalize w.drew.alloc (.cells (bytesRow s cap) 5 ((bytesRow s cap).size, (bytesRow s cap).size + 1)) = w1 at *
  clear hcap
  obtain ⟨g, hg⟩ : ∃ g, w.heap.size = g := ⟨_, rfl⟩
  have HG := Lib.hid hg
  rw [hg] at hcv HB
  clear hg
  go_enter Try.func24, Try.ntmps24
  go_wp2_with fail
  clear hcv
  go_loopw [6] (fun i wr => ∃ k : Nat, k ≤ s.size ∧ i = .int .i64 k ∧ Hid (Kept w wr ∧ Byt g s.size (muls c s k) wr)) (fun i _ => s.size - (intOf i).toNat)
  case atStart => exact ⟨0, Nat.zero_le _, rfl, HK.out, HB.out.congr (fun j _ => by unfold muls; rw [if_neg (by omega)])⟩
  case round =>
    obtain ⟨k, hk, rfl, HI⟩ := hrel
    by_cases hlt : k < s.size
    · have hck := HI.out.2.cell k hlt
      have hfk := HI.out.2.free k hlt
      rw [show muls c s k k = bt s k from by unfold muls; rw [if_neg (by omega)]] at hck
      have hb := (bt s k).toNat_lt
      have HN := Lib.hid (muls_next c s k)
      have HM := Lib.hid (mb_nat c (bt s k) hc)
      generalize bt s k = x at *
      go_wp2_with fail
      refine (refMul_any c x.toNat hc hb _).mono ?_
      rintro e w2 ⟨rfl, rfl⟩
      rw [← HM.out]
      have HF : Hid (Kept w (w2.setCell ⟨g, k, none⟩ (.int .u8 ((mb c x).toNat : Nat))) ∧ Byt g s.size (muls c s (k + 1)) (w2.setCell ⟨g, k, none⟩ (.int .u8 ((mb c x).toNat : Nat)))) :=
        ⟨HI.out.1.setCell (by rw [HG.out]; exact Nat.le_refl _) _, (HI.out.2.set k hlt (mb c x)).congr (fun j _ => HN.out j)⟩
      go_wp2_with fail
      exact ⟨⟨k + 1, by omega, by go_num, HF⟩, by simp [intOf]; omega⟩
    · obtain rfl : k = s.size := by omega
      have hst := byt_string g s.size cap _ wr HI.out.2
      rw [strOf_congr s.size (muls c s s.size) (fun j => mb c (bt s j)) (fun j hj => by unfold muls; rw [if_pos hj])] at hst
      rw [show strOf s.size (fun j => mb c (bt s j)) = timesB c s from rfl] at hst
      have HK2 := Lib.hid HI.out.1
      clear HI HB HK
      go_wp2_with fail
      go_ret
      exact ⟨rfl, HK2.out⟩
/-- The sum of the first k texts. -/
def xr (ss : List ByteArray) : Nat → Nat → UInt8
  | 0, _ => 0
  | k + 1, j => xr ss k j ^^^ bt (nth ss k) j
def plS (ss : List ByteArray) : ByteArray := if evenB ss = true then strOf (nth ss 0).size (xr ss ss.length) else ⟨#[]⟩
def plE (ss : List ByteArray) : Int := if evenB ss = true then 0 else 2
/-- The sum of the first k texts, of the next one the first q bytes. -/
def xq (ss : List ByteArray) (k q j : Nat) : UInt8 := if j < q then xr ss (k + 1) j else xr ss k j
theorem xq_next (ss : List ByteArray) (k q j : Nat) : xq ss k (q + 1) j = upd (xq ss k q) q (xr ss k q ^^^ bt (nth ss k) q) j := by
  unfold upd
  by_cases e : j = q
  · subst e; unfold xq; rw [if_pos (by omega), if_pos rfl]; rfl
  · rw [if_neg e]
    unfold xq
    by_cases h : j < q
    · rw [if_pos (by omega), if_pos h]
    · rw [if_neg (by omega), if_neg h]
set_option maxRecDepth 100000 in
theorem refPlus_any (a : Option Addr) (cap0 : Nat) (ss : List ByteArray) (w : World) (hS : Strs w a ss) (hl : ss.length ≤ 100000000) (hz : ∀ s ∈ ss, s.size ≤ 100000000) :
    Calls Try.prog 20 #[.slice a ss.length cap0] w fun e w' => e = .returned (.tuple #[.string (plS ss), .int .i64 (plE ss)]) ∧ Kept w w' := by
  obtain ⟨b, o, hc⟩ := strs_at hS
  have HC := Lib.hid hc
  have HZ : Hid (∀ i, i < ss.length → (nth ss i).size ≤ 100000000) := fun i hi => hz _ (by rw [← nth_get ss i hi]; exact List.getElem_mem hi)
  clear hc hS hz
  by_cases hl0 : ss.length = 0
  · obtain rfl := List.length_eq_zero_iff.1 hl0
    clear HC HZ
    go_enter Try.func20, Try.ntmps20
    go_wp2_with fail
    go_ret2
    exact ⟨rfl, Kept.refl _⟩
  · obtain ⟨ha, hc⟩ := HC.out (by omega)
    have HCC := Lib.hid hc
    have hc0 := hc 0 (by omega)
    rw [Nat.add_zero] at hc0
    have hn0 := HZ.out 0 (by omega)
    obtain ⟨s, hs⟩ : ∃ s, nth ss 0 = s := ⟨_, rfl⟩
    rw [hs] at hc0 hn0
    have HS0 := Lib.hid hs
    have hl0b : ((ss.length : Int) == 0) = false := beq_eq_false_iff_ne.2 (by omega)
    rw [ha]
    clear hs hc ha HC
    have hcv := run_bytes_of_string (P := Try.prog) w 9 45 5 s Try.underlying9 Try.underlying45 Try.underlying5
    obtain ⟨cap, hcap⟩ : ∃ cap, grownCap w s.size 0 5 = cap := ⟨_, rfl⟩
    rw [hcap] at hcv
    have HB := Lib.hid (Byt.conv w s cap 5)
    have HK : Hid (Kept w (w.drew.alloc (.cells (bytesRow s cap) 5 ((bytesRow s cap).size, (bytesRow s cap).size + 1)))) := ((Kept.refl _).drew).alloc _
    generalize w.drew.alloc (.cells (bytesRow s cap) 5 ((bytesRow s cap).size, (bytesRow s cap).size + 1)) = w1 at *
    clear hcap
    obtain ⟨g, hg⟩ : ∃ g, w.heap.size = g := ⟨_, rfl⟩
    have HG := Lib.hid hg
    rw [hg] at hcv HB
    clear hg
    go_enter Try.func20, Try.ntmps20
    go_wp2_with fail
    clear hcv hc0
    go_loopw [5, 6] (fun i _ wr => ∃ k : Nat, 1 ≤ k ∧ k ≤ ss.length ∧ i = .int .i64 k ∧ Hid (Kept w wr ∧ Byt g s.size (xr ss k) wr ∧ ∀ j, j < k → (nth ss j).size = (nth ss 0).size)) (fun i _ _ => ss.length - (intOf i).toNat)
    case atStart =>
      refine ⟨1, Nat.le_refl _, by omega, rfl, HK.out, HB.out.congr (fun j _ => ?_), fun j hj => ?_⟩
      · show 0 ^^^ bt (nth ss 0) j = _
        rw [HS0.out]; simp
      · obtain rfl : j = 0 := by omega
        rfl
    case round =>
      obtain ⟨k, hk1, hk, rfl, HI⟩ := hrel
      by_cases hlt : k < ss.length
      · have hck : wr.cell? ⟨b, o + k, none⟩ = some (.string (nth ss k)) := by
          have h := HCC.out k hlt
          rw [Below.cell HI.out.1 (block_lt_of_cell h), h]
        have HBB : Hid (b < w.heap.size) := block_lt_of_cell (HCC.out k hlt)
        have hzk := HZ.out k hlt
        by_cases he : (nth ss k).size = s.size
        · have heb : (((nth ss k).size : Int) == (s.size : Int)) = true := by simp [he]
          have HQ := Lib.hid (xq_next ss k)
          have HX0 : Hid (∀ q, xq ss k q q = xr ss k q) := fun q => by unfold xq; rw [if_neg (by omega)]
          have HST : Hid (Kept w wr ∧ Byt g s.size (xq ss k 0) wr) := ⟨HI.out.1, HI.out.2.1.congr (fun j _ => by unfold xq; rw [if_neg (by omega)])⟩
          have HEN : Hid (∀ j, j < s.size → xr ss (k + 1) j = xq ss k s.size j) := fun j hj => by unfold xq; rw [if_pos hj]
          have HEV : Hid (∀ j, j < k + 1 → (nth ss j).size = (nth ss 0).size) := fun j hj => by
            by_cases e : j = k
            · subst e; rw [he, HS0.out]
            · exact HI.out.2.2 j (by omega)
          clear HI
          obtain ⟨p, hp⟩ : ∃ p, nth ss k = p := ⟨_, rfl⟩
          rw [hp] at hck hzk he heb HQ
          have HCP : Hid (w.cell? ⟨b, o + k, none⟩ = some (.string p)) := by rw [← hp]; exact HCC.out k hlt
          clear hp
          go_wp2_with fail
          go_loopw [6] (fun i ws => ∃ q : Nat, q ≤ s.size ∧ i = .int .i64 q ∧ Hid (Kept w ws ∧ Byt g s.size (xq ss k q) ws)) (fun i _ => s.size - (intOf i).toNat)
          case atStart => exact ⟨0, Nat.zero_le _, rfl, HST⟩
          case round =>
            obtain ⟨q, hq, rfl, HJ⟩ := hrel
            by_cases hlq : q < s.size
            · have hcq := HJ.out.2.cell q hlq
              have hfq := HJ.out.2.free q hlq
              have hcp : wr.cell? ⟨b, o + k, none⟩ = some (.string p) := by
                rw [Below.cell HJ.out.1 HBB.out]
                exact HCP.out
              rw [HX0.out q] at hcq
              have hqp : q < p.size := by omega
              have HGT := Lib.hid (bt_get p q hqp)
              have HU : Hid (∀ j, xq ss k (q + 1) j = upd (xq ss k q) q (xr ss k q ^^^ p[q]) j) := by rw [HGT.out]; exact fun j => HQ.out q j
              have HXX : Hid (bits .xor .u8 ((xr ss k q).toNat : Nat) ((p[q].toNat : Nat) : Int) = (((xr ss k q ^^^ p[q]).toNat : Nat) : Int)) := by
                show _ = _
                rw [u8_xor_nat _ _ (xr ss k q).toNat_lt p[q].toNat_lt, UInt8.toNat_xor]
              generalize xr ss k q = x at *
              have HF : Hid (Kept w ((wr.setCell ⟨g, q, none⟩ (.int .u8 ((x ^^^ p[q]).toNat : Nat))).drew) ∧ Byt g s.size (xq ss k (q + 1)) ((wr.setCell ⟨g, q, none⟩ (.int .u8 ((x ^^^ p[q]).toNat : Nat))).drew)) :=
                ⟨(HJ.out.1.setCell (by rw [HG.out]; exact Nat.le_refl _) _).drew, ((HJ.out.2.set q hlq (x ^^^ p[q])).congr (fun j _ => HU.out j)).drewN 1⟩
              go_wp2_with fail
              go_region
              rw [HXX.out]
              go_wp2_with fail
              exact ⟨⟨q + 1, by omega, by go_num, HF⟩, by simp [intOf]; omega⟩
            · obtain rfl : q = s.size := by omega
              have HF : Hid (Kept w wr ∧ Byt g s.size (xr ss (k + 1)) wr ∧ ∀ j, j < k + 1 → (nth ss j).size = (nth ss 0).size) := ⟨HJ.out.1, HJ.out.2.congr HEN.out, HEV.out⟩
              clear HJ
              go_wp2_with fail
              exact ⟨⟨k + 1, by omega, by omega, by go_num, HF⟩, by simp [intOf]; omega⟩
        · have heb : (((nth ss k).size : Int) == (s.size : Int)) = false := by simp; omega
          have hev := even_no ss k hlt (by rw [HS0.out]; exact he)
          have H1 : Hid (⟨#[]⟩ = plS ss) := by show _ = _; unfold plS; rw [hev]; simp
          have H2 : Hid (2 = plE ss) := by show _ = _; unfold plE; rw [hev]; simp
          have HK2 := Lib.hid HI.out.1
          clear hev HI
          generalize nth ss k = p at *
          go_wp2_with fail
          go_ret2
          exact ⟨by rw [← H1.out, ← H2.out]; rfl, HK2.out⟩
      · obtain rfl : k = ss.length := by omega
        have hev := even_yes ss HI.out.2.2
        have H1 : Hid (strOf s.size (xr ss ss.length) = plS ss) := by show _ = _; unfold plS; rw [if_pos hev, HS0.out]
        have H2 : Hid (0 = plE ss) := by show _ = _; unfold plE; rw [if_pos hev]
        have hst := byt_string g s.size cap _ wr HI.out.2.1
        rw [H1.out] at hst
        have HK2 := Lib.hid HI.out.1
        clear hev HI
        go_wp2_with fail
        go_ret2
        exact ⟨by rw [← H2.out]; rfl, HK2.out⟩
end Go.Proofs.Ytmfoplkpdibppaa
