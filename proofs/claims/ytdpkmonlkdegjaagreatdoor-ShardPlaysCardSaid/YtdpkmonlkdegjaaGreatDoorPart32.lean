/- ShardText, ShardRead, ShardDoc, ShardAlive. -/
import Derived.Test.YtdpkmonlkdegjaaGreatDoorPart30
import Derived.Test.YtdpkmonlkdegjaaGreatDoorPart31
import Derived.Deep.Quiet
/- The program's shard: the text that stands behind a head. -/
namespace Go.Proofs.YtdpkmonlkdegjaaGreatDoor
open Go.RowKit Go.Shelf Sm Wr _root_.Go.Proofs.YtdpkmonlkdegjaaGreatDoor.Nm
attribute [local go_sem] Oper.semAt_some
set_option linter.unusedVariables false
/-- What is handed back. -/
def textV (s : RSt) (d a : Int) (n : Nat) : Value :=
  if (rTo s d a (nsec n)).1 = 0 then .tuple #[.string (ofL ((rTo s d a (nsec n)).2.take n)), .int .i64 0] else .tuple #[.string ⟨#[]⟩, .int .i64 ((rTo s d a (nsec n)).1 : Nat)]
/-- Between two rounds. -/
structure TLoop (s : RSt) (d a : Int) (n bb : Nat) (wl : World) (l : List Nat) (W : World) : Prop where
  ok : (rL s d a n l).1 = 0
  b : Bl wl.heap.size bb (rL s d a n l).2 W
  o : ButB wl.heap.size bb wl W
structure TStop (s : RSt) (d a : Int) (n : Nat) (w : World) (l : List Nat) (W : World) : Prop where
  o : Kept w W
  c8 : W.cell? ⟨w.heap.size + 1 + 1, 0, none⟩ = some (.string ⟨#[]⟩)
  c9 : W.cell? ⟨w.heap.size + 1 + 1 + 1, 0, none⟩ = some (.int .i64 ((rL s d a n l).1 : Nat))
theorem TLoop.own {s : RSt} {d a : Int} {n bb : Nat} {wl : World} : OwnFrom wl.heap.size (fun l W => TLoop s d a n bb wl l W) := fun l A A' row hs hg hr =>
  ⟨hs.ok, hs.b.own _ _ _ _ hg hr, hs.o.grown hg (fun r e => (hr r e).1) hs.o.size⟩
theorem Kept.grownAbove {u v v' : World} {row : Option Nat} (h : Kept u v) (hg : v.grownBy v' row) (hr : ∀ r, row = some r → u.heap.size ≤ r) : Kept u v' :=
  Below.grown h hg h.size (fun k e => hr k e)
theorem TStop.own {B : Nat} {s : RSt} {d a : Int} {n : Nat} {w : World} (hB : w.heap.size + 4 ≤ B) : OwnFrom B (fun l W => TStop s d a n w l W) := fun l A A' row hs hg hr =>
  ⟨hs.o.grownAbove hg (fun r e => by have := (hr r e).1; omega), _root_.Go.cell_kept hs.c8 hg (fun r e => (hr r e).2), _root_.Go.cell_kept hs.c9 hg (fun r e => (hr r e).2)⟩
theorem ButB.kept {N b : Nat} {u v w : World} (h : Kept u v) (k : ButB N b v w) (hu : u.heap.size ≤ N) (hb : u.heap.size ≤ b) : Kept u w :=
  Below.trans h ⟨k.os, k.tape, k.output, k.size, fun i hi => k.block i (by omega) (by omega)⟩
theorem new_cell (w : World) (cs : Array Value) (t : TypeId) (j : Nat) (v : Value) (b : Nat) (hb : b = w.heap.size) (hv : cs[j]? = some v) : (w.alloc (.cells cs t)).cell? ⟨b, j, none⟩ = some v := by
  rw [hb, World.cell?_alloc_mark]; exact hv
theorem new_soft (w : World) (cs : Array Value) (t : TypeId) (j : Nat) (b : Nat) (hb : b = w.heap.size) : (w.alloc (.cells cs t)).frozen? ⟨b, j, none⟩ = false := by
  rw [hb]
  have := heap_alloc_new w (.cells cs t)
  unfold World.frozen?
  rw [this]
  simp
theorem soft_kept {w w' : World} {b o : Nat} (hb : b < w.heap.size) (h : w.frozen? ⟨b, o, none⟩ = false) (k : Kept w w') : w'.frozen? ⟨b, o, none⟩ = false := by rw [Below.frozen k (p := ⟨b, o, none⟩) hb]; exact h
structure TLaid (W : World) (b : Nat) (p : Option Addr) (d : Int) : Prop where
  c4 : W.cell? ⟨b, 0, none⟩ = some (.pointer p)
  c5 : W.cell? ⟨b + 1, 0, none⟩ = some (.int .i64 d)
  c8 : W.cell? ⟨b + 1 + 1, 0, none⟩ = some (.string ⟨#[]⟩)
  f8 : W.frozen? ⟨b + 1 + 1, 0, none⟩ = false
  c9 : W.cell? ⟨b + 1 + 1 + 1, 0, none⟩ = some (.int .i64 0)
  f9 : W.frozen? ⟨b + 1 + 1 + 1, 0, none⟩ = false
theorem TLaid.frame {W W' : World} {b : Nat} {p : Option Addr} {d : Int} (h : TLaid W b p d) (k : ∀ i, b ≤ i → i < b + 4 → W'.heap[i]? = W.heap[i]?) : TLaid W' b p d := by
  have ce : ∀ i o, b ≤ i → i < b + 4 → W'.cell? ⟨i, o, none⟩ = W.cell? ⟨i, o, none⟩ := fun i o h1 h2 => World.cell?_of_block (w := W) (a := ⟨i, o, none⟩) (k i h1 h2)
  have fe : ∀ i o, b ≤ i → i < b + 4 → W'.frozen? ⟨i, o, none⟩ = W.frozen? ⟨i, o, none⟩ := fun i o h1 h2 => World.frozen?_of_block (w := W) (a := ⟨i, o, none⟩) (k i h1 h2)
  exact ⟨by rw [ce _ _ (by omega) (by omega)]; exact h.c4, by rw [ce _ _ (by omega) (by omega)]; exact h.c5, by rw [ce _ _ (by omega) (by omega)]; exact h.c8, by rw [fe _ _ (by omega) (by omega)]; exact h.f8, by rw [ce _ _ (by omega) (by omega)]; exact h.c9, by rw [fe _ _ (by omega) (by omega)]; exact h.f9⟩
theorem TLaid.lt {W : World} {b : Nat} {p : Option Addr} {d : Int} (h : TLaid W b p d) : b + 4 ≤ W.heap.size := by
  have := block_lt_of_cell h.c9
  simp at this; omega
def w4Laid (w : World) (p : Option Addr) (d : Int) : World := (((w.alloc (.cells #[.pointer p] 25)).alloc (.cells #[.int .i64 d] 3)).alloc (.cells #[.string ⟨#[]⟩] 9)).alloc (.cells #[.int .i64 0] 26)
theorem w4_size (w : World) (p : Option Addr) (d : Int) : (w4Laid w p d).heap.size = w.heap.size + 1 + 1 + 1 + 1 := by unfold w4Laid; simp
theorem TLaid.new (w : World) (p : Option Addr) (d : Int) : TLaid (w4Laid w p d) w.heap.size p d := by
  unfold w4Laid
  have k1 := fun (u : World) (o : Obj) => (Kept.refl u).alloc o
  refine ⟨?_, ?_, ?_, ?_, ?_, ?_⟩
  · exact cell_kept (cell_kept (cell_kept (new_cell w _ _ 0 _ _ rfl rfl) (k1 _ _)) (k1 _ _)) (k1 _ _)
  · exact cell_kept (cell_kept (new_cell _ _ _ 0 _ _ (by simp) rfl) (k1 _ _)) (k1 _ _)
  · exact cell_kept (new_cell _ _ _ 0 _ _ (by simp) rfl) (k1 _ _)
  · exact soft_kept (by simp) (new_soft _ _ _ 0 _ (by simp)) (k1 _ _)
  · exact new_cell _ _ _ 0 _ _ (by simp) rfl
  · exact new_soft _ _ _ 0 _ (by simp)
theorem w4_kept (w : World) (p : Option Addr) (d : Int) : Kept w (w4Laid w p d) := ((((Kept.refl _).alloc _).alloc _).alloc _).alloc _
set_option maxHeartbeats 2000000 in
set_option maxRecDepth 100000 in
theorem textOf_any (g : Nat) (s : RSt) (d a : Int) (n : Nat) (hd1 : -9223372036854775808 ≤ d) (hd2 : d ≤ 9223372036854775807) (ha1 : -9223372036854775808 ≤ a) (ha2 : a ≤ 9223372036854775807) (hn : n ≤ 448) (w : World) (hR : RackAt g s w) :
    Calls Tryz.prog 36 #[.pointer (some ⟨g + 1, 0, none⟩), .int .i64 d, .int .i64 a, .int .i64 (n : Nat)] w fun r w' => r = .returned (textV s d a n) ∧ Kept w w' := by
  have HRR := Lib.hid hR
  have HN := Lib.hid hn
  clear hR hn
  refine (callsIn_wide (n := 6)).1 ?_
  refine callsIn_of_wp_marks Tryz.func36 rfl trivial ?_ rfl
  simp only [Tryz.ntmps36, List.size_toArray, List.length_cons, List.length_nil, Nat.reduceAdd, Nat.reduceSub, Array.replicate_succ, Array.replicate_zero, List.push_toArray, List.append_toArray, List.nil_append, List.cons_append]
  gi_wp2
  have HL4 : Hid (TLaid (w4Laid w (some ⟨g + 1, 0, none⟩) d) w.heap.size (some ⟨g + 1, 0, none⟩) d) := TLaid.new w _ d
  have HK4 : Hid (Kept w (w4Laid w (some ⟨g + 1, 0, none⟩) d)) := w4_kept w _ d
  have HS4 : Hid ((w4Laid w (some ⟨g + 1, 0, none⟩) d).heap.size = w.heap.size + 1 + 1 + 1 + 1) := w4_size w _ d
  unfold w4Laid at HL4 HK4 HS4
  generalize (((w.alloc (.cells #[.pointer (some ⟨g + 1, 0, none⟩)] 25)).alloc (.cells #[.int .i64 d] 3)).alloc (.cells #[.string ⟨#[]⟩] 9)).alloc (.cells #[.int .i64 0] 26) = w4 at *
  refine ⟨trivial, ?_⟩
  refine (callsIn_wide.2 (shSectors_any a n _)).mono ?_
  rintro e wl ⟨rfl, hwl⟩
  have hb5 : Kept (w4.alloc (.cells #[.pointer none, .slice none 0 0] 104)) wl := by rw [hwl]; exact ((Kept.refl _).alloc _).alloc _
  have hkl : Kept w4 wl := ((Kept.refl _).alloc _).trans hb5
  have HKL : Hid (Kept w wl) := HK4.out.trans hkl
  have HWL := Lib.hid (HL4.out.frame (W' := wl) fun i h1 h2 => hkl.block i (by have := HL4.out.lt; omega))
  have HBL : Hid (Bl wl.heap.size (w.heap.size + 1 + 1 + 1 + 1) [] wl) := by show Bl _ _ _ _; rw [← HS4.out]; exact Bl.new w4 wl _ hb5
  have HLS : Hid (wl.heap.size = w.heap.size + 1 + 1 + 1 + 1 + 1 + 2) := by show _ = _; rw [hwl]; simp; rw [HS4.out]
  have hs5 : (w4.alloc (.cells #[.pointer none, .slice none 0 0] 104)).heap.size = w.heap.size + 1 + 1 + 1 + 1 + 1 := by simp; exact HS4.out
  have HCA : Hid (wl.cell? ⟨w.heap.size + 1 + 1 + 1 + 1 + 1, 0, none⟩ = some (.int .i64 a)) := by
    show _ = _
    rw [hwl, ← hs5]
    exact cell_kept (new_cell _ _ _ 0 _ _ rfl rfl) ((Kept.refl _).alloc _)
  have HCN : Hid (wl.cell? ⟨w.heap.size + 1 + 1 + 1 + 1 + 1 + 1, 0, none⟩ = some (.int .i64 (n : Nat))) := by
    show _ = _
    rw [hwl, ← hs5]
    exact new_cell _ _ _ 0 _ _ (by simp) rfl
  rw [hs5]
  clear hwl hkl hb5 hs5 HK4 HL4 HS4
  gi_wp2
  have HBB : Hid (∀ (W : World) (l : List Nat), TLoop s d a n (w.heap.size + 1 + 1 + 1 + 1) wl l W → Kept w W) := fun W l h => ButB.kept HKL.out h.o HKL.out.size (by omega)
  have HLAID : Hid (∀ (W : World) (l : List Nat), TLoop s d a n (w.heap.size + 1 + 1 + 1 + 1) wl l W → TLaid W w.heap.size (some ⟨g + 1, 0, none⟩) d) := fun W l h => HWL.out.frame fun i h1 h2 => h.o.block i (by have := HLS.out; omega) (by omega)
  refine wpIn_rangeFunc_ownH rfl (by omega) (gf := 59) (lb := #[.pointer (some ⟨w.heap.size + 1 + 1 + 1 + 1 + 1 + 1, 0, none⟩), .pointer (some ⟨w.heap.size + 1 + 1 + 1 + 1 + 1, 0, none⟩)]) rfl trivial (enters_of Tryz.func59 (by kernel_rfl) rfl)
    (sectors_stops _ (by omega) (w.heap.size + 1 + 1 + 1 + 1 + 1) (w.heap.size + 1 + 1 + 1 + 1 + 1 + 1) a n (by have := HN.out; omega) (ButB wl.heap.size (w.heap.size + 1 + 1 + 1 + 1))
      (fun A B h h1 h2 => ⟨by rw [World.cell?_of_block (w := A) (a := ⟨w.heap.size + 1 + 1 + 1 + 1 + 1, 0, none⟩) (h.block (w.heap.size + 1 + 1 + 1 + 1 + 1) (by have := HLS.out; omega) (by omega))]; exact h1, by rw [World.cell?_of_block (w := A) (a := ⟨w.heap.size + 1 + 1 + 1 + 1 + 1 + 1, 0, none⟩) (h.block (w.heap.size + 1 + 1 + 1 + 1 + 1 + 1) (by have := HLS.out; omega) (by omega))]; exact h2⟩)
      wl HCA.out HCN.out)
    (fun h k => ButB.trans h k) (fun W l o o' hl h _ _ => (ButB.refl _ _ W).grown (grownBy_putObj' W l o') (fun r e => by cases e; exact hl) (by have := (Array.getElem?_eq_some_iff.1 h).1; omega)) (Below.refl _ _) (fun _ => rfl)
    (fun pre W => TLoop s d a n (w.heap.size + 1 + 1 + 1 + 1) wl (pre.map Subtype.val) W)
    (fun c pre W => c = .ret ∧ (rL s d a n (pre.map Subtype.val)).1 ≠ 0 ∧ TStop s d a n w (pre.map Subtype.val) W)
    (fun l A A' row hs hg hr => TLoop.own _ A A' row hs hg hr)
    (fun c l A A' row hs hg hr => ⟨hs.1, hs.2.1, TStop.own (by have := HLS.out; omega) _ A A' row hs.2.2 hg hr⟩)
    ⟨rfl, HBL.out, ButB.refl _ _ _⟩
    (fun x a' W => ∃ Bx, wl.heap.size ≤ Bx ∧ W.heap[Bx]? = some (spanO n x.1) ∧ a' = { tmps := #[.pointer (some ⟨g + 1, 0, none⟩), .int .i64 d, .int .i64 a, .int .i64 (n : Nat), .pointer (some ⟨w.heap.size, 0, none⟩), .pointer (some ⟨w.heap.size + 1, 0, none⟩), undef, undef, .pointer (some ⟨w.heap.size + 1 + 1, 0, none⟩), .pointer (some ⟨w.heap.size + 1 + 1 + 1, 0, none⟩), .pointer (some ⟨w.heap.size + 1 + 1 + 1 + 1, 0, none⟩), .int .i64 (wrap64 (wrap64 (a + 1) + (x.1 : Int))), .pointer (some ⟨Bx, 0, none⟩), undef, undef, .int .i64 a, .int .i64 (n : Nat), .func (.func 59) #[] #[.pointer (some ⟨w.heap.size + 1 + 1 + 1 + 1 + 1 + 1, 0, none⟩), .pointer (some ⟨w.heap.size + 1 + 1 + 1 + 1 + 1, 0, none⟩)], .int .i64 (wrap64 (wrap64 (a + 1) + (x.1 : Int))), .agg #[.int .i64 ((x.1 : Int) * 64), .int .i64 (min ((x.1 : Int) * 64 + 64) (n : Int))], undef, undef, undef, undef, undef, undef, undef, undef, undef, undef, undef, undef, undef, undef, undef, undef, undef, undef, undef], defers := [] })
    (fun x a' => fun _ A A' row hs hg hr => by
      obtain ⟨Bx, h1, h2, h3⟩ := hs
      exact ⟨Bx, h1, by rw [hg.block Bx (Array.getElem?_eq_some_iff.1 h2).1 (fun e => by obtain ⟨_, o, ho, hc⟩ := hr Bx e.symm; rw [h2] at ho; injection ho with ho; subst ho; cases hc)]; exact h2, h3⟩)
    ?assign ?body ?done ?stop
  case assign =>
    rintro l pre x W K hi hK
    simp only [secV]
    gi_wp2
    have hka : Kept W (W.alloc (.cells #[.int .i64 ((x.1 : Int) * 64), .int .i64 (min ((x.1 : Int) * 64 + 64) (n : Int))] 78)) := (Kept.refl _).alloc _
    exact hK _ _ ((KeepsOthers.alloc _ _).from _) (hka.butB hi.o.size) ⟨hi.ok, hi.b.kept hka, hi.o.trans (hka.butB hi.o.size)⟩ ⟨W.heap.size, hi.o.size, heap_alloc_new W _, rfl⟩
  case body =>
    rintro l pre x a' W hl hrr hI ⟨Bx, hBx, hsp, rfl⟩ hlen
    have hkw : Kept w W := HBB.out _ _ hI
    have hld := HLAID.out _ _ hI
    have HLD := Lib.hid hld
    have c4 := hld.c4
    have c5 := hld.c5
    have hsec := secAt_in a x.1
    have hss : wrap64 (wrap64 (a + 1) + (x.1 : Int)) = secAt a x.1 := rfl
    have HRW := Lib.hid (HRR.out.kept hkw)
    have HRD := Lib.hid (read_any g s d (secAt a x.1) hd1 hd2 hsec.1 hsec.2 W HRW.out)
    rw [← hss] at HRD
    have HX := Lib.hid x.2
    have HIW := Lib.hid hI
    have HKW := Lib.hid hkw
    have HLEN : Hid (64 * pre.length ≤ 448) := by
      have h1 := HN.out
      have h2 : nsec n ≤ 7 := by unfold nsec; omega
      show _ ≤ _
      omega
    have HSP : Hid (W.heap[Bx]? = some (spanO n x.1)) := hsp
    have HRES : Hid (rL s d a n ((pre ++ [x]).map Subtype.val) = (s.readE d (secAt a x.1), if s.readE d (secAt a x.1) = 0 then (rL s d a n (pre.map Subtype.val)).2 ++ ((s.readT d (secAt a x.1)).data.toList.take (min n (x.1 * 64 + 64) - x.1 * 64)) else (rL s d a n (pre.map Subtype.val)).2)) := by
      show _ = _
      rw [List.map_append, show ([x].map Subtype.val) = [x.1] from rfl, rL_snoc]
      unfold rStep
      rw [if_pos hI.ok]
    have HTS : Hid (s.readE d (secAt a x.1) = 0 → (s.readT d (secAt a x.1)).data.toList.length = 64) := fun h => readT_size s HRR.out.wf d _ h
    rw [← hss] at HRES HTS
    clear hss hI hld hsec hlen hrr hsp hkw
    generalize hT : s.readT d (wrap64 (wrap64 (a + 1) + (x.1 : Int))) = T at *
    generalize hE : s.readE d (wrap64 (wrap64 (a + 1) + (x.1 : Int))) = e2 at *
    clear hT hE
    gi_wp2
    refine ⟨trivial, (CallsIn.inRound l (callsIn_wide.2 HRD.out)).mono ?_⟩
    rintro e w1 ⟨rfl, hk⟩
    have HK1 := Lib.hid hk
    by_cases he : e2 = 0
    · have hz : ((e2 : Int) != 0) = false := by rw [he]; rfl
      have hts := HTS.out he
      rw [data_len] at hts
      rw [if_pos he] at HRES
      have hp := HSP.out
      rw [← hk.block Bx (Array.getElem?_eq_some_iff.1 hp).1] at hp
      have p0 : w1.cell? ⟨Bx, 0, none⟩ = some (.int .i64 ((x.1 : Int) * 64)) := by rw [World.cell?, hp]; rfl
      have p1 : w1.cell? ⟨Bx, 1, none⟩ = some (.int .i64 (min ((x.1 : Int) * 64 + 64) (n : Int))) := by rw [World.cell?, hp]; rfl
      obtain ⟨m, hm⟩ : ∃ m : Nat, m = min n (x.1 * 64 + 64) - x.1 * 64 := ⟨_, rfl⟩
      rw [← hm] at HRES
      have hx := HX.out
      have hsub : min ((x.1 : Int) * 64 + 64) (n : Int) - (x.1 : Int) * 64 = (m : Int) := by unfold nsec at hx; omega
      have hm64 : m ≤ T.size := by omega
      have HM := Lib.hid hm64
      have he0 := Lib.hid he
      clear hm hx hp he hts hk
      gi_wp2
      have HNW : Hid (wl.heap.size ≤ w1.heap.size) := Nat.le_trans HIW.out.o.size HK1.out.size
      have hlen := rL_len s d a n (pre.map Subtype.val)
      rw [List.length_map] at hlen
      have hbw := bl_write wl.heap.size (w.heap.size + 1 + 1 + 1 + 1) (rL s d a n (pre.map Subtype.val)).2 (T.extract 0 m) w1 (HIW.out.b.kept HK1.out) (by have := HLEN.out; rw [ByteArray.size_extract]; omega) HNW.out
      refine ⟨trivial, (CallsIn.inRound l (callsIn_wide.2 hbw)).mono ?_⟩
      rintro e w2 ⟨rfl, hB2, ho2, hk2⟩
      have HF : Hid (KeepsFrom wl.heap.size W w2 ∧ ButB wl.heap.size (w.heap.size + 1 + 1 + 1 + 1) W w2 ∧ TLoop s d a n (w.heap.size + 1 + 1 + 1 + 1) wl ((pre ++ [x]).map Subtype.val) w2) := by
        have hbo : ButB wl.heap.size (w.heap.size + 1 + 1 + 1 + 1) W w2 := (HK1.out.butB HIW.out.o.size).trans ho2
        refine ⟨(KeepsFrom.trans ⟨HK1.out.size, fun k o _ hk _ => by rw [HK1.out.block k (Array.getElem?_eq_some_iff.1 hk).1]; exact hk⟩ (hk2.from _)), hbo, ?_, ?_, HIW.out.o.trans hbo⟩
        · rw [HRES.out]; exact he0.out
        · rw [HRES.out]
          rw [ext_take] at hB2
          exact hB2
      clear hbw hlen hB2 ho2 hk2
      gi_wp2
      exact HF.out
    · have hz : ((e2 : Int) != 0) = true := by simp; omega
      have hlt8 : w.heap.size + 1 + 1 + 1 < w1.heap.size := by have h1 := HLD.out.lt; have h2 := HK1.out.size; omega
      have hl1 : TLaid w1 w.heap.size (some ⟨g + 1, 0, none⟩) d := HLD.out.frame fun i h1 h2 => HK1.out.block i (by have := HLD.out.lt; omega)
      have q8 := hl1.c8
      have q9 := hl1.c9
      have g8 := hl1.f8
      have g9 := hl1.f9
      rw [if_neg he] at HRES
      have HE := Lib.hid he
      have HF : Hid (KeepsFrom wl.heap.size W ((w1.setCell ⟨w.heap.size + 1 + 1, 0, none⟩ (.string ⟨#[]⟩)).setCell ⟨w.heap.size + 1 + 1 + 1, 0, none⟩ (.int .i64 (e2 : Nat))) ∧ (rL s d a n ((pre ++ [x]).map Subtype.val)).1 ≠ 0 ∧ TStop s d a n w ((pre ++ [x]).map Subtype.val) ((w1.setCell ⟨w.heap.size + 1 + 1, 0, none⟩ (.string ⟨#[]⟩)).setCell ⟨w.heap.size + 1 + 1 + 1, 0, none⟩ (.int .i64 (e2 : Nat)))) := by
        refine ⟨KeepsFrom.trans ⟨HK1.out.size, fun k o _ hk _ => by rw [HK1.out.block k (Array.getElem?_eq_some_iff.1 hk).1]; exact hk⟩ (((KeepsOthers.setCell _ _ _).trans (KeepsOthers.setCell _ _ _)).from _), by rw [HRES.out]; exact he, ?_, ?_, ?_⟩
        · exact ((HKW.out.trans HK1.out).setCell (p := ⟨w.heap.size + 1 + 1, 0, none⟩) (by dsimp only; omega) _).setCell (p := ⟨w.heap.size + 1 + 1 + 1, 0, none⟩) (by dsimp only; omega) _
        · rw [World.cell?_setCell_other _ _ _ _ (by intro c; injection c with c1; omega)]; exact World.cell?_setCell_same _ _ _ q8
        · rw [HRES.out]; exact World.cell?_setCell_same _ _ _ (by rw [World.cell?_setCell_other _ _ _ _ (by intro c; injection c with c1; omega)]; exact q9)
      clear he hk hl1
      gi_wp2
      exact ⟨HF.out.1, rfl, HF.out.2⟩
  case done =>
    rintro D ys W hD hys hI hK
    rw [hys] at hI
    obtain ⟨r1, r2⟩ := rL_range s HRR.out.wf d a n (nsec n) (Nat.le_refl _)
    have hok := hI.ok
    rw [r1] at hok
    have hb := hI.b
    rw [(r2 hok).1] at hb
    have HTV : Hid (textV s d a n = .tuple #[.string (ofL ((rTo s d a (nsec n)).2.take n)), .int .i64 0]) := by
      show _ = _
      unfold textV
      rw [if_pos hok]
    generalize (rTo s d a (nsec n)).2.take n = tl at *
    have HBS := Lib.hid (bl_string wl.heap.size (w.heap.size + 1 + 1 + 1 + 1) tl W hb hI.o.size)
    have HLW := Lib.hid (HLAID.out _ _ hI)
    have HKW := Lib.hid (HBB.out _ _ hI)
    have HDK : Hid (W.heap[D]? = some (.deferred (some []))) := hK
    clear r1 r2 hok hb hI hK hys
    rw [show (⟨tl.toArray⟩ : ByteArray) = ofL tl from rfl] at HBS
    generalize ofL tl = tt at *
    gi_wp2
    refine ⟨trivial, (callsIn_wide.2 HBS.out).mono ?_⟩
    rintro e w2 ⟨rfl, ho2, hk2⟩
    have HO2 := Lib.hid ho2
    have hl2 : TLaid w2 w.heap.size (some ⟨g + 1, 0, none⟩) d := HLW.out.frame fun i h1 h2 => ho2.block i (by have := HLS.out; omega) (by omega)
    have q8 := hl2.c8
    have q9 := hl2.c9
    have g8 := hl2.f8
    have g9 := hl2.f9
    have HD2 : Hid (w2.heap[D]? = some (.deferred (some []))) := hk2.same D _ HDK.out rfl
    have HK2 : Hid (Kept w w2) := ButB.kept HKW.out ho2 HKL.out.size (by omega)
    clear ho2 hk2 hl2 HBS
    gi_wp2
    have hDF : ((w2.setCell ⟨w.heap.size + 1 + 1, 0, none⟩ (.string tt)).setCell ⟨w.heap.size + 1 + 1 + 1, 0, none⟩ (.int .i64 0)).heap[D]? = some (.deferred (some [])) := by
      have := HLS.out
      rw [Below.heap_setCell _ _ _ _ (by dsimp only; omega), Below.heap_setCell _ _ _ _ (by dsimp only; omega)]; exact HD2.out
    have d8 : ((w2.setCell ⟨w.heap.size + 1 + 1, 0, none⟩ (.string tt)).setCell ⟨w.heap.size + 1 + 1 + 1, 0, none⟩ (.int .i64 0)).cell? ⟨w.heap.size + 1 + 1, 0, none⟩ = some (.string tt) := by
      rw [World.cell?_setCell_other _ _ _ _ (by intro c; injection c with c1; omega)]; exact World.cell?_setCell_same _ _ _ q8
    have d9 : ((w2.setCell ⟨w.heap.size + 1 + 1, 0, none⟩ (.string tt)).setCell ⟨w.heap.size + 1 + 1 + 1, 0, none⟩ (.int .i64 0)).cell? ⟨w.heap.size + 1 + 1 + 1, 0, none⟩ = some (.int .i64 0) :=
      World.cell?_setCell_same _ _ _ (by rw [World.cell?_setCell_other _ _ _ _ (by intro c; injection c with c1; omega)]; exact q9)
    have hKF : Kept w ((w2.setCell ⟨w.heap.size + 1 + 1, 0, none⟩ (.string tt)).setCell ⟨w.heap.size + 1 + 1 + 1, 0, none⟩ (.int .i64 0)) :=
      (HK2.out.setCell (p := ⟨w.heap.size + 1 + 1, 0, none⟩) (by dsimp only; omega) _).setCell (p := ⟨w.heap.size + 1 + 1 + 1, 0, none⟩) (by dsimp only; omega) _
    refine ⟨by simp, .inl ⟨_, _, rfl, run_takeDeferred hDF, ?_⟩⟩
    have e8 := _root_.Go.cell_kept d8 (grownBy_putObj' _ D (.deferred none)) (fun r e => by cases e; exact ⟨_, hDF, rfl⟩)
    have e9 := _root_.Go.cell_kept d9 (grownBy_putObj' _ D (.deferred none)) (fun r e => by cases e; exact ⟨_, hDF, rfl⟩)
    refine ⟨_, ?_, by rw [HTV.out], ?_⟩
    · simp [results, Tryz.results36, go_sem, e8, e9]
    · exact hKF.grownAbove (grownBy_putObj' _ D _) (fun r e => by cases e; have := HLS.out; omega)
  case stop =>
    rintro D c pre W hD ⟨q, hq, hpre⟩ ⟨rfl, hne, hS⟩ hK
    have hc8 := hS.c8
    have hc9 := hS.c9
    rw [hpre] at hne hc9
    have hrl := (rL_range s HRR.out.wf d a n q hq).1
    rw [hrl] at hne hc9
    have he := rTo_err s d a q hne (nsec n) hq
    have HTV : Hid (textV s d a n = .tuple #[.string ⟨#[]⟩, .int .i64 ((rTo s d a q).1 : Nat)]) := by
      show _ = _
      unfold textV
      rw [he, if_neg hne]
    gi_wp2
    refine ⟨by simp, .inl ⟨_, _, rfl, run_takeDeferred hK, ?_⟩⟩
    have d8 := _root_.Go.cell_kept hc8 (grownBy_putObj' _ D (.deferred none)) (fun r e => by cases e; exact ⟨_, hK, rfl⟩)
    have d9 := _root_.Go.cell_kept hc9 (grownBy_putObj' _ D (.deferred none)) (fun r e => by cases e; exact ⟨_, hK, rfl⟩)
    refine ⟨_, ?_, by rw [HTV.out], ?_⟩
    · simp [results, Tryz.results36, go_sem, d8, d9]
    · exact hS.o.grownAbove (grownBy_putObj' _ D _) (fun r e => by cases e; have := HLS.out; omega)
end Go.Proofs.YtdpkmonlkdegjaaGreatDoor

/- The program's shard: Read, Clear. -/
namespace Go.Proofs.YtdpkmonlkdegjaaGreatDoor
open Go.RowKit Sm Wr _root_.Go.Proofs.YtdpkmonlkdegjaaGreatDoor.Nm
set_option linter.unusedVariables false
/-- A shard lies in block g. -/
structure ShAt (w : World) (g : Nat) (x : Shd) : Prop where
  c0 : w.cell? ⟨g, 0, none⟩ = some (.int .u64 (x.st : Nat))
  c1 : w.cell? ⟨g, 1, none⟩ = some (.int .i64 x.ix)
  c2 : w.cell? ⟨g, 2, none⟩ = some (.int .i64 x.tt)
  c3 : w.cell? ⟨g, 3, none⟩ = some (.string x.t)
  f0 : w.frozen? ⟨g, 0, none⟩ = false
  f1 : w.frozen? ⟨g, 1, none⟩ = false
  f2 : w.frozen? ⟨g, 2, none⟩ = false
  f3 : w.frozen? ⟨g, 3, none⟩ = false
theorem ShAt.lt {w : World} {g : Nat} {x : Shd} (h : ShAt w g x) : g < w.heap.size := block_lt_of_cell h.c0
theorem ShAt.frame {w w' : World} {g : Nat} {x : Shd} (h : ShAt w g x) (e : w'.heap[g]? = w.heap[g]?) : ShAt w' g x := by
  have ce : ∀ o, w'.cell? ⟨g, o, none⟩ = w.cell? ⟨g, o, none⟩ := fun o => World.cell?_of_block (w := w) (a := ⟨g, o, none⟩) e
  have fe : ∀ o, w'.frozen? ⟨g, o, none⟩ = w.frozen? ⟨g, o, none⟩ := fun o => World.frozen?_of_block (w := w) (a := ⟨g, o, none⟩) e
  exact ⟨by rw [ce]; exact h.c0, by rw [ce]; exact h.c1, by rw [ce]; exact h.c2, by rw [ce]; exact h.c3, by rw [fe]; exact h.f0, by rw [fe]; exact h.f1, by rw [fe]; exact h.f2, by rw [fe]; exact h.f3⟩
theorem ShAt.kept {w w' : World} {g : Nat} {x : Shd} (h : ShAt w g x) (k : Kept w w') : ShAt w' g x := h.frame (k.block g h.lt)
theorem ShAt.new (w : World) (T : TypeId) : ShAt (w.alloc (.cells #[.int .u64 0, .int .i64 0, .int .i64 0, .string ⟨#[]⟩] T)) w.heap.size Shd.none := by
  constructor
  all_goals first | (rw [World.cell?_alloc_mark]; rfl) | (rw [World.frozen?_alloc_mark]; rfl)
def putSh (w : World) (g : Nat) (x : Shd) : World := (((w.setCell ⟨g, 0, none⟩ (.int .u64 (x.st : Nat))).setCell ⟨g, 1, none⟩ (.int .i64 x.ix)).setCell ⟨g, 2, none⟩ (.int .i64 x.tt)).setCell ⟨g, 3, none⟩ (.string x.t)
theorem ShAt.put {w : World} {g : Nat} {y : Shd} (h : ShAt w g y) (x : Shd) : ShAt (putSh w g x) g x := by
  have hs : ∀ (W : World) (o o' : Nat) (v : Value), o ≠ o' → (W.setCell ⟨g, o', none⟩ v).cell? ⟨g, o, none⟩ = W.cell? ⟨g, o, none⟩ := fun W o o' v hne => World.cell?_setCell_other _ _ _ _ (by intro e; injection e with _ e; exact hne e.symm)
  unfold putSh
  refine ⟨?_, ?_, ?_, ?_, ?_, ?_, ?_, ?_⟩
  · rw [hs _ _ _ _ (by decide), hs _ _ _ _ (by decide), hs _ _ _ _ (by decide)]; exact World.cell?_setCell_same _ _ _ h.c0
  · rw [hs _ _ _ _ (by decide), hs _ _ _ _ (by decide)]; exact World.cell?_setCell_same _ _ _ (by rw [hs _ _ _ _ (by decide)]; exact h.c1)
  · rw [hs _ _ _ _ (by decide)]; exact World.cell?_setCell_same _ _ _ (by rw [hs _ _ _ _ (by decide), hs _ _ _ _ (by decide)]; exact h.c2)
  · exact World.cell?_setCell_same _ _ _ (by rw [hs _ _ _ _ (by decide), hs _ _ _ _ (by decide), hs _ _ _ _ (by decide)]; exact h.c3)
  · simp only [World.frozen?_setCell]; exact h.f0
  · simp only [World.frozen?_setCell]; exact h.f1
  · simp only [World.frozen?_setCell]; exact h.f2
  · simp only [World.frozen?_setCell]; exact h.f3
theorem putSh_kept {w0 w : World} (h : Kept w0 w) (g : Nat) (x : Shd) (hg : w0.heap.size ≤ g) : Kept w0 (putSh w g x) :=
  (((h.setCell (p := ⟨g, 0, none⟩) hg _).setCell (p := ⟨g, 1, none⟩) hg _).setCell (p := ⟨g, 2, none⟩) hg _).setCell (p := ⟨g, 3, none⟩) hg _
def readV (r : Nat × Shd) : Value := .tuple #[r.2.val, .int .i64 (r.1 : Nat)]
theorem look_may (T : List UInt8) (h : Hd) (hl : look T = some h) : h.sum.length = 4 ∧ 1 ≤ h.a ∧ h.a ≤ 281474976710656 ∧ h.b < 12 ∧ h.c ≤ 5376 ∧ h.n ≤ 448 := by
  unfold look at hl
  split at hl
  · cases hl
  · split at hl
    · cases hl
    · split at hl
      · cases hl
      · unfold hdOf at hl
        split at hl
        · rename_i hc
          injection hl with hl
          subst hl
          refine ⟨hc.1, ?_⟩
          have := hc.2
          unfold Hd.may mayN at this
          simp only [Bool.and_eq_true, decide_eq_true_eq] at this
          exact this
        · cases hl
set_option maxRecDepth 100000 in
theorem shClear_any (g : Nat) (s : RSt) (d a : Int) (hd1 : -9223372036854775808 ≤ d) (hd2 : d ≤ 9223372036854775807) (ha1 : -9223372036854775808 ≤ a) (ha2 : a ≤ 9223372036854775807) (w : World) (hR : RackAt g s w) :
    Calls Tryz.prog 14 #[.pointer (some ⟨g + 1, 0, none⟩), .int .i64 d, .int .i64 a] w fun r w' => r = .returned (.int .i64 (s.writeE d a ⟨#[]⟩ : Nat)) ∧ RackAt g (s.writeS d a ⟨#[]⟩) w' ∧ Only g (g + 2 + s.n) w w' := by
  have HC := Lib.hid (write_any g s d a hd1 hd2 ha1 ha2 ⟨#[]⟩ (by decide) w hR)
  clear hR
  go_enter Tryz.func14, Tryz.ntmps14
  go_wp2_with fail
  refine HC.out.mono ?_
  rintro e w1 ⟨rfl, h1, h2⟩
  have H1 := Lib.hid h1
  have H2 := Lib.hid h2
  clear h1 h2 HC
  go_wp2_with fail
  go_ret
  exact ⟨rfl, H1.out, H2.out⟩
set_option maxHeartbeats 2000000 in
set_option maxRecDepth 100000 in
theorem shRead_any (g : Nat) (s : RSt) (d a : Int) (hd1 : -9223372036854775808 ≤ d) (hd2 : d ≤ 9223372036854775807) (ha1 : -9223372036854775808 ≤ a) (ha2 : a ≤ 9223372036854775807) (w : World) (hR : RackAt g s w) :
    Calls Tryz.prog 12 #[.pointer (some ⟨g + 1, 0, none⟩), .int .i64 d, .int .i64 a] w fun r w' => r = .returned (readV (shR s d a)) ∧ Kept w w' := by
  have HR := Lib.hid hR
  have HRD := Lib.hid (fun W h => read_any g s d a hd1 hd2 ha1 ha2 W h)
  have hts := readT_size s hR.wf d a
  clear hR
  by_cases he : s.readE d a = 0
  · have hts2 := hts he
    have HTS : Hid ((s.readT d a).size = 64) := by show _ = _; rw [← data_len]; exact hts2
    clear hts hts2
    cases hz : allz (s.readT d a).data.toList with
    | true =>
      have HE : Hid (shR s d a = (80, .none)) := by
        show _ = _
        unfold shR
        rw [if_neg (by simpa using he), if_pos hz]
      have HB := Lib.hid (fun W => blank_any (s.readT d a) W (by have := HTS.out; omega))
      rw [hz] at HB
      rw [he] at HRD
      clear he hz
      generalize s.readT d a = T at *
      go_enter Tryz.func12, Tryz.ntmps12
      go_wp2_with fail
      have HK0 : Hid (Kept w (w.alloc (.cells #[.int .u64 0, .int .i64 0, .int .i64 0, .string ⟨#[]⟩] 34))) := (Kept.refl _).alloc _
      have HA0 := Lib.hid (ShAt.new w 34)
      refine (HRD.out _ (HR.out.kept HK0.out)).mono ?_
      rintro e w1 ⟨rfl, hk⟩
      have HK1 : Hid (Kept w w1) := HK0.out.trans hk
      have HA1 := Lib.hid (HA0.out.kept hk)
      clear hk HK0 HA0 HRD
      go_wp2_with fail
      refine (HB.out _).mono ?_
      rintro e w2 ⟨rfl, hk⟩
      have HK2 : Hid (Kept w w2) := HK1.out.trans hk
      have HA2 := Lib.hid (HA1.out.kept hk)
      clear hk HK1 HA1 HB
      obtain ⟨q0, q1, q2, q3, f0, f1, f2, f3⟩ := HA2.out
      have HP := Lib.hid (HA2.out.put Shd.none)
      have HKP := Lib.hid (putSh_kept HK2.out w.heap.size Shd.none (Nat.le_refl _))
      unfold putSh Shd.none at HP HKP
      unfold Shd.none at q0 q1 q2 q3
      go_wp2_with fail
      rw [HE.out]
      exact bodyPost_ret (v := readV (80, Shd.none)) (by have p0 := HP.out.c0; have p1 := HP.out.c1; have p2 := HP.out.c2; have p3 := HP.out.c3; (try simp at p0 p1 p2 p3); simp [results, Tryz.results12, go_sem, readV, Shd.val, Shd.none, p0, p1, p2, p3]) rfl ⟨rfl, HKP.out⟩
    | false =>
      have HB := Lib.hid (fun W => blank_any (s.readT d a) W (by have := HTS.out; omega))
      rw [hz] at HB
      have HLK := Lib.hid (fun W => look_any (s.readT d a) W HTS.out)
      cases hl : look (s.readT d a).data.toList with
      | none =>
        have HE : Hid (shR s d a = (81, .none)) := by
          show _ = _
          unfold shR
          rw [if_neg (by simpa using he), if_neg (by rw [hz]; decide), hl]
        rw [hl] at HLK
        rw [he] at HRD
        unfold lookV numsV at HLK
        clear he hz hl
        generalize s.readT d a = T at *
        go_enter Tryz.func12, Tryz.ntmps12
        go_wp2_with fail
        have HK0 : Hid (Kept w (w.alloc (.cells #[.int .u64 0, .int .i64 0, .int .i64 0, .string ⟨#[]⟩] 34))) := (Kept.refl _).alloc _
        have HA0 := Lib.hid (ShAt.new w 34)
        refine (HRD.out _ (HR.out.kept HK0.out)).mono ?_
        rintro e w1 ⟨rfl, hk⟩
        have HK1 : Hid (Kept w w1) := HK0.out.trans hk
        have HA1 := Lib.hid (HA0.out.kept hk)
        clear hk HK0 HA0 HRD

        go_wp2_with fail
        refine (HB.out _).mono ?_
        rintro e w2 ⟨rfl, hk⟩
        have HK2 : Hid (Kept w w2) := HK1.out.trans hk
        have HA2 := Lib.hid (HA1.out.kept hk)
        clear hk HK1 HA1 HB

        go_wp2_with fail
        refine (HLK.out _).mono ?_
        rintro e w3 ⟨rfl, hk⟩
        have HK3 : Hid (Kept w w3) := HK2.out.trans hk
        have HA3 := Lib.hid (HA2.out.kept hk)
        clear hk HK2 HA2 HLK

        have HKA : Hid (Kept w3 (w3.alloc (.cells #[.int .u64 0, .int .u64 0, .int .u64 0, .int .u64 0] 72))) := (Kept.refl _).alloc _
        have HA3b := Lib.hid (HA3.out.kept HKA.out)
        have HK3b : Hid (Kept w (w3.alloc (.cells #[.int .u64 0, .int .u64 0, .int .u64 0, .int .u64 0] 72))) := HK3.out.trans HKA.out
        obtain ⟨q0, q1, q2, q3, f0, f1, f2, f3⟩ := HA3b.out
        have HP := Lib.hid (HA3b.out.put Shd.none)
        have HKP := Lib.hid (putSh_kept HK3b.out w.heap.size Shd.none (Nat.le_refl _))
        unfold putSh Shd.none at HP HKP
        unfold Shd.none at q0 q1 q2 q3
        go_wp2_with fail
        rw [HE.out]
        exact bodyPost_ret (v := readV (81, Shd.none)) (by have p0 := HP.out.c0; have p1 := HP.out.c1; have p2 := HP.out.c2; have p3 := HP.out.c3; (try simp at p0 p1 p2 p3); simp [results, Tryz.results12, go_sem, readV, Shd.val, Shd.none, p0, p1, p2, p3]) rfl ⟨rfl, HKP.out⟩
      | some h =>
        obtain ⟨hs4, ha1', ha2', hb', hc', hn'⟩ := look_may _ h hl
        have HSH : Hid (shR s d a = if (rTo s d a (nsec h.n)).1 ≠ 0 then ((rTo s d a (nsec h.n)).1, .none) else if b4 (crc ((rTo s d a (nsec h.n)).2.take h.n)) = h.sum then (0, ⟨h.a, h.b, h.c, ofL ((rTo s d a (nsec h.n)).2.take h.n)⟩) else (81, .none)) := by
          show _ = _
          unfold shR
          rw [if_neg (by simpa using he), if_neg (by rw [hz]; decide), hl]
        have HTX := Lib.hid (fun W hR => textOf_any g s d a h.n hd1 hd2 ha1 ha2 hn' W hR)
        rw [hl] at HLK
        rw [he] at HRD
        obtain ⟨x0, x1, x2, n, sm⟩ := h
        dsimp only at hs4 ha1' ha2' hb' hc' hn' HSH HTX
        unfold lookV numsV at HLK
        dsimp only at HLK
        have hw1 : IntKind.i64.wrap (x1 : Int) = (x1 : Int) := IntWalk.i64_in _ (by omega)
        have hw2 : IntKind.i64.wrap (x2 : Int) = (x2 : Int) := IntWalk.i64_in _ (by omega)
        have hw3 : IntKind.i64.wrap (n : Int) = (n : Int) := IntWalk.i64_in _ (by omega)
        have hx1 : (x1 : Int) ≤ 9223372036854775807 := by omega
        have hx2 : (x2 : Int) ≤ 9223372036854775807 := by omega
        have hx3 : (n : Int) ≤ 9223372036854775807 := by omega
        have HN4 : Hid (n ≤ 448) := hn'
        have HSM : Hid ((ofL sm).data.toList = sm) := rfl
        generalize hsm : ofL sm = smt at *
        unfold textV at HTX
        clear he hz hl ha1' ha2' hb' hc' hn' hs4 hsm
        generalize s.readT d a = T at *
        by_cases hte : (rTo s d a (nsec n)).1 = 0
        · rw [if_pos hte] at HTX
          rw [if_neg (by simpa using hte)] at HSH
          have HTL : Hid (((rTo s d a (nsec n)).2.take n).length ≤ 448) := by show _ ≤ _; rw [List.length_take]; have := HN4.out; omega
          clear hte
          generalize (rTo s d a (nsec n)).2.take n = tl at *
          obtain ⟨tt, htt⟩ : ∃ tt, tt = ofL tl := ⟨_, rfl⟩
          rw [← htt] at HTX HSH
          have hcr : tt.data.toList = tl := by rw [htt]; rfl
          have HTT : Hid (tt.size ≤ 448) := by show _ ≤ _; rw [htt]; unfold ofL; rw [mk_len]; exact HTL.out
          obtain ⟨cr, hcr2⟩ : ∃ cr, cr = crc tl := ⟨_, rfl⟩
          rw [← hcr2] at HSH
          have hcrl : (cr : Int) ≤ 4294967295 := by have := crc_lt tl; omega
          have HOF : Hid (∀ W T, Calls Tryz.prog 31 #[.slice (some ⟨W.heap.size, 0, none⟩) 1 1] (W.alloc (.cells #[.string tt] T)) fun e w' => e = .returned (.int .u32 (cr : Nat)) ∧ Kept W w') := fun W T => by
            have := of_one tt W T (by have := HTT.out; unfold maxLen; omega)
            rw [hcr, ← hcr2] at this
            exact this
          obtain ⟨r4, hr4⟩ : ∃ r4 : ByteArray, r4 = ⟨(b4 cr).toArray⟩ := ⟨_, rfl⟩
          have HBY : Hid (∀ W, Calls Tryz.prog 30 #[.int .u32 (cr : Nat)] W fun e w' => e = .returned (.string r4) ∧ Kept W w') := fun W => by
            rw [hr4]; exact bytes_any cr W (by omega) hcrl
          have hrl : r4.toList = b4 cr := by rw [ByteArray.toList_eq, hr4]
          have hsl : smt.toList = sm := by rw [ByteArray.toList_eq]; exact HSM.out
          have HRL := Lib.hid hrl
          have HSL := Lib.hid hsl
          clear hcr hcr2 htt hr4 HTL hrl hsl
          by_cases hq : b4 cr = sm
          · have hbq : (r4.toList == smt.toList) = true := by rw [HRL.out, HSL.out, hq]; simp
            have HE : Hid (shR s d a = (0, ⟨x0, x1, x2, tt⟩)) := by show _ = _; rw [HSH.out, if_pos hq]
            clear hq HSH HRL HSL HSM
            go_enter Tryz.func12, Tryz.ntmps12
            go_wp2_with fail
            have HK0 : Hid (Kept w (w.alloc (.cells #[.int .u64 0, .int .i64 0, .int .i64 0, .string ⟨#[]⟩] 34))) := (Kept.refl _).alloc _
            have HA0 := Lib.hid (ShAt.new w 34)
            refine (HRD.out _ (HR.out.kept HK0.out)).mono ?_
            rintro e w1 ⟨rfl, hk⟩
            have HK1 : Hid (Kept w w1) := HK0.out.trans hk
            have HA1 := Lib.hid (HA0.out.kept hk)
            clear hk HK0 HA0 HRD

            go_wp2_with fail
            refine (HB.out _).mono ?_
            rintro e w2 ⟨rfl, hk⟩
            have HK2 : Hid (Kept w w2) := HK1.out.trans hk
            have HA2 := Lib.hid (HA1.out.kept hk)
            clear hk HK1 HA1 HB

            go_wp2_with fail
            refine (HLK.out _).mono ?_
            rintro e w3 ⟨rfl, hk⟩
            have HK3 : Hid (Kept w w3) := HK2.out.trans hk
            have HA3 := Lib.hid (HA2.out.kept hk)
            clear hk HK2 HA2 HLK

            have HKA : Hid (Kept w3 (w3.alloc (.cells #[.int .u64 (x0 : Nat), .int .u64 (x1 : Nat), .int .u64 (x2 : Nat), .int .u64 (n : Nat)] 72))) := (Kept.refl _).alloc _
            have HA3b := Lib.hid (HA3.out.kept HKA.out)
            have HK3b : Hid (Kept w (w3.alloc (.cells #[.int .u64 (x0 : Nat), .int .u64 (x1 : Nat), .int .u64 (x2 : Nat), .int .u64 (n : Nat)] 72))) := HK3.out.trans HKA.out
            go_upto_region 7 with fail

            have HN3 := Lib.hid (NumAt.laid w3 72 x0 x1 x2 n)
            clear HKA HA3 HK3
            generalize w3.alloc (.cells #[.int .u64 (x0 : Nat), .int .u64 (x1 : Nat), .int .u64 (x2 : Nat), .int .u64 (n : Nat)] 72) = w4 at *
            generalize w3.heap.size = bn at *
            have n3 := HN3.out.c3
            go_wp2_with fail
            refine (HTX.out _ (HR.out.kept HK3b.out)).mono ?_
            rintro e w5 ⟨rfl, hk⟩
            have HK5 : Hid (Kept w w5) := HK3b.out.trans hk
            have HA5 := Lib.hid (HA3b.out.kept hk)
            have HN5 := Lib.hid (HN3.out.kept hk)
            clear hk HK3b HA3b HTX HN3 n3
            go_wp2_with fail
            refine (HOF.out w5 _).mono ?_
            rintro e w6 ⟨rfl, hk⟩
            have HK6 : Hid (Kept w5 w6) := hk
            clear hk HOF
            go_wp2_with fail
            refine (HBY.out _).mono ?_
            rintro e w7 ⟨rfl, hk⟩
            have HK7 : Hid (Kept w w7) := HK5.out.trans (HK6.out.trans hk)
            have HA7 := Lib.hid (HA5.out.kept (HK6.out.trans hk))
            have HN7 := Lib.hid (HN5.out.kept (HK6.out.trans hk))
            have n0 := HN7.out.c0
            have n1 := HN7.out.c1
            have n2 := HN7.out.c2
            clear hk HBY HK5 HA5 HN5 HK6
            obtain ⟨q0, q1, q2, q3, f0, f1, f2, f3⟩ := HA7.out
            have HP := Lib.hid (HA7.out.put ⟨x0, x1, x2, tt⟩)
            have HKP := Lib.hid (putSh_kept HK7.out w.heap.size ⟨x0, x1, x2, tt⟩ (Nat.le_refl _))
            unfold putSh at HP HKP
            unfold Shd.none at q0 q1 q2 q3
            go_wp2_with fail
            rw [HE.out]
            exact bodyPost_ret (v := readV (0, ⟨x0, x1, x2, tt⟩)) (by have p0 := HP.out.c0; have p1 := HP.out.c1; have p2 := HP.out.c2; have p3 := HP.out.c3; (try simp at p0 p1 p2 p3); simp [results, Tryz.results12, go_sem, readV, Shd.val, Shd.none, p0, p1, p2, p3]) rfl ⟨rfl, HKP.out⟩
          · have hbq : (r4.toList == smt.toList) = false := by rw [HRL.out, HSL.out]; exact beq_eq_false_iff_ne.2 hq
            have HE : Hid (shR s d a = (81, .none)) := by show _ = _; rw [HSH.out, if_neg hq]
            clear hq HSH HRL HSL HSM
            go_enter Tryz.func12, Tryz.ntmps12
            go_wp2_with fail
            have HK0 : Hid (Kept w (w.alloc (.cells #[.int .u64 0, .int .i64 0, .int .i64 0, .string ⟨#[]⟩] 34))) := (Kept.refl _).alloc _
            have HA0 := Lib.hid (ShAt.new w 34)
            refine (HRD.out _ (HR.out.kept HK0.out)).mono ?_
            rintro e w1 ⟨rfl, hk⟩
            have HK1 : Hid (Kept w w1) := HK0.out.trans hk
            have HA1 := Lib.hid (HA0.out.kept hk)
            clear hk HK0 HA0 HRD

            go_wp2_with fail
            refine (HB.out _).mono ?_
            rintro e w2 ⟨rfl, hk⟩
            have HK2 : Hid (Kept w w2) := HK1.out.trans hk
            have HA2 := Lib.hid (HA1.out.kept hk)
            clear hk HK1 HA1 HB

            go_wp2_with fail
            refine (HLK.out _).mono ?_
            rintro e w3 ⟨rfl, hk⟩
            have HK3 : Hid (Kept w w3) := HK2.out.trans hk
            have HA3 := Lib.hid (HA2.out.kept hk)
            clear hk HK2 HA2 HLK

            have HKA : Hid (Kept w3 (w3.alloc (.cells #[.int .u64 (x0 : Nat), .int .u64 (x1 : Nat), .int .u64 (x2 : Nat), .int .u64 (n : Nat)] 72))) := (Kept.refl _).alloc _
            have HA3b := Lib.hid (HA3.out.kept HKA.out)
            have HK3b : Hid (Kept w (w3.alloc (.cells #[.int .u64 (x0 : Nat), .int .u64 (x1 : Nat), .int .u64 (x2 : Nat), .int .u64 (n : Nat)] 72))) := HK3.out.trans HKA.out
            go_upto_region 7 with fail

            have HN3 := Lib.hid (NumAt.laid w3 72 x0 x1 x2 n)
            clear HKA HA3 HK3
            generalize w3.alloc (.cells #[.int .u64 (x0 : Nat), .int .u64 (x1 : Nat), .int .u64 (x2 : Nat), .int .u64 (n : Nat)] 72) = w4 at *
            generalize w3.heap.size = bn at *
            have n3 := HN3.out.c3
            go_wp2_with fail
            refine (HTX.out _ (HR.out.kept HK3b.out)).mono ?_
            rintro e w5 ⟨rfl, hk⟩
            have HK5 : Hid (Kept w w5) := HK3b.out.trans hk
            have HA5 := Lib.hid (HA3b.out.kept hk)
            have HN5 := Lib.hid (HN3.out.kept hk)
            clear hk HK3b HA3b HTX HN3 n3
            go_wp2_with fail
            refine (HOF.out w5 _).mono ?_
            rintro e w6 ⟨rfl, hk⟩
            have HK6 : Hid (Kept w5 w6) := hk
            clear hk HOF
            go_wp2_with fail
            refine (HBY.out _).mono ?_
            rintro e w7 ⟨rfl, hk⟩
            have HK7 : Hid (Kept w w7) := HK5.out.trans (HK6.out.trans hk)
            have HA7 := Lib.hid (HA5.out.kept (HK6.out.trans hk))
            have HN7 := Lib.hid (HN5.out.kept (HK6.out.trans hk))
            have n0 := HN7.out.c0
            have n1 := HN7.out.c1
            have n2 := HN7.out.c2
            clear hk HBY HK5 HA5 HN5 HK6
            obtain ⟨q0, q1, q2, q3, f0, f1, f2, f3⟩ := HA7.out
            have HP := Lib.hid (HA7.out.put Shd.none)
            have HKP := Lib.hid (putSh_kept HK7.out w.heap.size Shd.none (Nat.le_refl _))
            unfold putSh Shd.none at HP HKP
            unfold Shd.none at q0 q1 q2 q3
            go_wp2_with fail
            rw [HE.out]
            exact bodyPost_ret (v := readV (81, Shd.none)) (by have p0 := HP.out.c0; have p1 := HP.out.c1; have p2 := HP.out.c2; have p3 := HP.out.c3; (try simp at p0 p1 p2 p3); simp [results, Tryz.results12, go_sem, readV, Shd.val, Shd.none, p0, p1, p2, p3]) rfl ⟨rfl, HKP.out⟩
        · rw [if_neg hte] at HTX
          rw [if_pos (by simpa using hte)] at HSH
          have HE : Hid (shR s d a = ((rTo s d a (nsec n)).1, .none)) := HSH.out
          have hz0 : (((rTo s d a (nsec n)).1 : Int) != 0) = true := by simp; omega
          clear hte HSH
          generalize (rTo s d a (nsec n)).1 = e4 at *
          go_enter Tryz.func12, Tryz.ntmps12
          go_wp2_with fail
          have HK0 : Hid (Kept w (w.alloc (.cells #[.int .u64 0, .int .i64 0, .int .i64 0, .string ⟨#[]⟩] 34))) := (Kept.refl _).alloc _
          have HA0 := Lib.hid (ShAt.new w 34)
          refine (HRD.out _ (HR.out.kept HK0.out)).mono ?_
          rintro e w1 ⟨rfl, hk⟩
          have HK1 : Hid (Kept w w1) := HK0.out.trans hk
          have HA1 := Lib.hid (HA0.out.kept hk)
          clear hk HK0 HA0 HRD

          go_wp2_with fail
          refine (HB.out _).mono ?_
          rintro e w2 ⟨rfl, hk⟩
          have HK2 : Hid (Kept w w2) := HK1.out.trans hk
          have HA2 := Lib.hid (HA1.out.kept hk)
          clear hk HK1 HA1 HB

          go_wp2_with fail
          refine (HLK.out _).mono ?_
          rintro e w3 ⟨rfl, hk⟩
          have HK3 : Hid (Kept w w3) := HK2.out.trans hk
          have HA3 := Lib.hid (HA2.out.kept hk)
          clear hk HK2 HA2 HLK

          have HKA : Hid (Kept w3 (w3.alloc (.cells #[.int .u64 (x0 : Nat), .int .u64 (x1 : Nat), .int .u64 (x2 : Nat), .int .u64 (n : Nat)] 72))) := (Kept.refl _).alloc _
          have HA3b := Lib.hid (HA3.out.kept HKA.out)
          have HK3b : Hid (Kept w (w3.alloc (.cells #[.int .u64 (x0 : Nat), .int .u64 (x1 : Nat), .int .u64 (x2 : Nat), .int .u64 (n : Nat)] 72))) := HK3.out.trans HKA.out
          go_upto_region 7 with fail

          have HN3 := Lib.hid (NumAt.laid w3 72 x0 x1 x2 n)
          clear HKA HA3 HK3
          generalize w3.alloc (.cells #[.int .u64 (x0 : Nat), .int .u64 (x1 : Nat), .int .u64 (x2 : Nat), .int .u64 (n : Nat)] 72) = w4 at *
          generalize w3.heap.size = bn at *
          have n3 := HN3.out.c3
          go_wp2_with fail
          refine (HTX.out _ (HR.out.kept HK3b.out)).mono ?_
          rintro e w5 ⟨rfl, hk⟩
          have HK5 : Hid (Kept w w5) := HK3b.out.trans hk
          have HA5 := Lib.hid (HA3b.out.kept hk)
          have HN5 := Lib.hid (HN3.out.kept hk)
          clear hk HK3b HA3b HTX HN3 n3
          obtain ⟨q0, q1, q2, q3, f0, f1, f2, f3⟩ := HA5.out
          have HP := Lib.hid (HA5.out.put Shd.none)
          have HKP := Lib.hid (putSh_kept HK5.out w.heap.size Shd.none (Nat.le_refl _))
          unfold putSh Shd.none at HP HKP
          unfold Shd.none at q0 q1 q2 q3
          go_wp2_with fail
          rw [HE.out]
          exact bodyPost_ret (v := readV (e4, Shd.none)) (by have p0 := HP.out.c0; have p1 := HP.out.c1; have p2 := HP.out.c2; have p3 := HP.out.c3; (try simp at p0 p1 p2 p3); simp [results, Tryz.results12, go_sem, readV, Shd.val, Shd.none, p0, p1, p2, p3]) rfl ⟨rfl, HKP.out⟩
  · have HE : Hid (shR s d a = (s.readE d a, .none)) := by
      show _ = _
      unfold shR
      rw [if_pos he]
    have hT : s.readT d a = ⟨#[]⟩ := by unfold RSt.readT; rw [if_neg he]; rfl
    rw [hT] at HRD
    have hz0 : ((s.readE d a : Int) != 0) = true := by simp; omega
    clear hts he hT
    generalize s.readE d a = e0 at *
    go_enter Tryz.func12, Tryz.ntmps12
    go_wp2_with fail
    have HK0 : Hid (Kept w (w.alloc (.cells #[.int .u64 0, .int .i64 0, .int .i64 0, .string ⟨#[]⟩] 34))) := (Kept.refl _).alloc _
    have HA0 := Lib.hid (ShAt.new w 34)
    refine (HRD.out _ (HR.out.kept HK0.out)).mono ?_
    rintro e w1 ⟨rfl, hk⟩
    have HK1 : Hid (Kept w w1) := HK0.out.trans hk
    have HA1 := Lib.hid (HA0.out.kept hk)
    clear hk HK0 HA0 HRD
    obtain ⟨q0, q1, q2, q3, f0, f1, f2, f3⟩ := HA1.out
    have HP := Lib.hid (HA1.out.put Shd.none)
    have HKP := Lib.hid (putSh_kept HK1.out w.heap.size Shd.none (Nat.le_refl _))
    unfold putSh Shd.none at HP HKP
    unfold Shd.none at q0 q1 q2 q3
    go_wp2_with fail
    rw [HE.out]
    exact bodyPost_ret (v := readV (e0, Shd.none)) (by have p0 := HP.out.c0; have p1 := HP.out.c1; have p2 := HP.out.c2; have p3 := HP.out.c3; (try simp at p0 p1 p2 p3); simp [results, Tryz.results12, go_sem, readV, Shd.val, Shd.none, p0, p1, p2, p3]) rfl ⟨rfl, HKP.out⟩
end Go.Proofs.YtdpkmonlkdegjaaGreatDoor

/- The document's shard: which may be, its head. -/
namespace Go.Proofs.YtdpkmonlkdegjaaGreatDoor
open Go.RowKit Sm Wr _root_.Go.Proofs.YtdpkmonlkdegjaaGreatDoor.Nm
set_option linter.unusedVariables false
theorem Shd.may_bool (x : Shd) : x.may = (decide (1 ≤ x.st) && (decide (x.st ≤ 281474976710656) && (decide (0 ≤ x.ix) && (decide (x.ix < 12) && (decide (0 ≤ x.tt) && (decide (x.tt ≤ 5376) && decide (x.t.size ≤ 448))))))) := by
  unfold Shd.may
  rw [Bool.eq_iff_iff]
  simp only [Bool.and_eq_true, decide_eq_true_eq]
set_option maxRecDepth 100000 in
theorem refMay_any (x : Shd) (w : World) :
    Calls Tryz.prog 32 #[x.val] w fun e w' => e = .returned (.bool x.may) ∧ Kept w w' := by
  have fin : ∀ r : Bool, r = x.may → Ending.returned (.bool r) = Ending.returned (.bool x.may) := fun r h => by rw [h]
  have HM := Lib.hid x.may_bool
  have HF := Lib.hid fin
  clear fin
  obtain ⟨a, b, c, t⟩ := x
  unfold Shd.val
  dsimp only at *
  generalize Shd.may ⟨a, b, c, t⟩ = mb at *
  generalize hn : t.size = n at *
  have hti : (t.size : Int) = n := by omega
  have HNN := Lib.hid hn
  clear hn
  go_enter Tryz.func32, Tryz.ntmps32
  go_wp2_with fail
  all_goals
    go_ret
    refine ⟨HF.out _ ?_, (Kept.refl _).alloc _⟩
    rw [HM.out]
    clear HF HM
    rw [Bool.eq_iff_iff]
    simp only [Bool.and_eq_true, decide_eq_true_eq, Bool.false_eq_true, false_iff]
    omega
theorem info_u8z : (Tryz.prog.info? 5).map (fun i => (i.zero, i.size, i.bytes)) = some (some (.int .u8 0), 1, 1) := by kernel_rfl
theorem mkZ (n : Nat) (hn : n ≤ 4096) : ∃ M, (∀ W, (Instr.makeSlice 92 (.int .i64 (n : Int)) (.int .i64 (n : Int))).run Tryz.prog W = .ok (.slice (some ⟨W.heap.size, 0, none⟩) n n) (W.alloc (.cells M 5))) ∧
    ∀ W : World, (convert 92 9 (.slice (some ⟨W.heap.size, 0, none⟩) n n)).run Tryz.prog (W.alloc (.cells M 5)) = .ok (.string ⟨(List.replicate n (0 : UInt8)).toArray⟩) (W.alloc (.cells M 5)) := by
  obtain ⟨i0, hi, hzz⟩ := Option.map_eq_some_iff.1 info_u8z
  simp only [Prod.mk.injEq] at hzz
  refine ⟨madeCells #[.int .u8 0] n, fun W => ?_, fun W => ?_⟩
  · have h := run_make (P := Tryz.prog) W 92 5 i0 _ Tryz.underlying92 hi hzz.1 .i64 .i64 (n : Int) (n : Int) (by omega) (by omega) (by rw [hzz.2.2]; omega) (by omega)
    rw [hzz.2.1, Int.toNat_natCast, Nat.mul_one] at h
    exact h
  · have hr := run_convert_bytes_back (P := Tryz.prog) (W.alloc (.cells (madeCells #[.int .u8 0] n) 5)) 92 9 5 ⟨W.heap.size, 0, none⟩ n (List.replicate n (0 : UInt8)) Tryz.underlying92 Tryz.underlying5 Tryz.underlying9 (fun j hj => by
      rw [add_at, World.cell?_alloc_mark]
      have hj1 : j < n := by rw [List.length_replicate] at hj; exact hj
      have h := made_get #[.int .u8 0] n j 0 hj1 (by decide)
      rw [show (#[Value.int .u8 0] : Array Value).size = 1 from rfl, Nat.mul_one, Nat.mul_one] at h
      rw [show j + 0 = j from rfl] at h
      rw [h, List.getElem_replicate]
      rfl)
    rw [List.length_replicate] at hr
    exact hr
theorem wanted_none (o : Oper) (y : Nat → Option Bool) (h : o.guard = Option.none) : Region.wanted o y = true := by
  unfold Region.wanted; rw [h]
/-- A head, the bytes 0 behind it. -/
def padH (l : List UInt8) : ByteArray := ⟨(l ++ List.replicate (64 - l.length) 0).toArray⟩
set_option maxHeartbeats 1000000 in
set_option maxRecDepth 100000 in
theorem refHead_any (x : Shd) (w : World) (hm : x.may = true) :
    Calls Tryz.prog 23 #[x.val] w fun e w' => e = .returned (.string (padH x.head)) ∧ Kept w w' := by
  obtain ⟨m1, m2, m3, m4, m5, m6, m7⟩ := Shd.may_iff hm
  obtain ⟨a, b, c, t⟩ := x
  dsimp only at m1 m2 m3 m4 m5 m6 m7
  obtain ⟨b, rfl⟩ := Int.eq_ofNat_of_zero_le m3
  obtain ⟨c, rfl⟩ := Int.eq_ofNat_of_zero_le m5
  unfold Shd.val
  dsimp only
  have hw1 : IntKind.u64.wrap (b : Int) = (b : Int) := IntWalk.u64_in _ (by omega)
  have hw2 : IntKind.u64.wrap (c : Int) = (c : Int) := IntWalk.u64_in _ (by omega)
  have HHD : Hid (Shd.head ⟨a, (b : Nat), (c : Nat), t⟩ = headL a b c t.size (b4 (crc t.data.toList))) := rfl
  generalize Shd.head ⟨a, (b : Nat), (c : Nat), t⟩ = hd at *
  have HOFT := Lib.hid (fun W => refof_any t W (by omega))
  obtain ⟨cr, hcr⟩ : ∃ cr, cr = crc t.data.toList := ⟨_, rfl⟩
  rw [← hcr] at HHD HOFT
  have hcrl : (cr : Int) ≤ 4294967295 := by have := crc_lt t.data.toList; omega
  have HOF : Hid (∀ W, Calls Tryz.prog 40 #[.string t] W fun e w' => e = .returned (.int .u32 (cr : Nat)) ∧ Kept W w') := HOFT.out
  obtain ⟨r4, hr4⟩ : ∃ r4 : ByteArray, r4 = ⟨(b4 cr).toArray⟩ := ⟨_, rfl⟩
  have HBY : Hid (∀ W, Calls Tryz.prog 39 #[.int .u32 (cr : Nat)] W fun e w' => e = .returned (.string r4) ∧ Kept W w') := fun W => by
    rw [hr4]; exact refbytes_any cr W (by omega) hcrl
  have HR4 : Hid (r4.data.toList = b4 cr) := by show _ = _; rw [hr4]
  clear hcr hr4 HOFT hcrl
  generalize hn : t.size = n at *
  have hti : (t.size : Int) = n := by omega
  have HNN := Lib.hid hn
  clear hn
  have HNU : Hid (∀ q : Nat, q ≤ 281474976710656 → ∃ u : ByteArray, u.data.toList = up q ∧ ∀ W, Calls Tryz.prog 57 #[.int .u64 (q : Nat)] W fun e w' => e = .returned (.string u) ∧ Kept W w') := fun q hq =>
    ⟨⟨(up q).toArray⟩, rfl, fun W => refwnum_any q W (by omega) (by omega)⟩
  obtain ⟨u0, hu0, hn0⟩ := HNU.out a m2
  obtain ⟨u1, hu1, hn1⟩ := HNU.out b (by omega)
  obtain ⟨u2, hu2, hn2⟩ := HNU.out c (by omega)
  obtain ⟨u3, hu3, hn3⟩ := HNU.out n (by omega)
  have HU0 := Lib.hid hu0
  have HU1 := Lib.hid hu1
  have HU2 := Lib.hid hu2
  have HU3 := Lib.hid hu3
  have HN0 := Lib.hid hn0
  have HN1 := Lib.hid hn1
  have HN2 := Lib.hid hn2
  have HN3 := Lib.hid hn3
  clear hu0 hu1 hu2 hu3 hn0 hn1 hn2 hn3 HNU
  have hw3 : IntKind.u64.wrap (n : Int) = (n : Int) := IntWalk.u64_in _ (by omega)
  go_enter Tryz.func23, Tryz.ntmps23
  go_wp2_with fail
  have HCL : Hid (∀ W, Kept (w.alloc (.cells #[.int .u64 (a : Nat), .int .i64 (b : Nat), .int .i64 (c : Nat), .string t] 34)) W → W.cell? ⟨w.heap.size, 0, none⟩ = some (.int .u64 (a : Nat)) ∧ W.cell? ⟨w.heap.size, 1, none⟩ = some (.int .i64 (b : Nat)) ∧ W.cell? ⟨w.heap.size, 2, none⟩ = some (.int .i64 (c : Nat)) ∧ W.cell? ⟨w.heap.size, 3, none⟩ = some (.string t)) := fun W k =>
    ⟨cell_kept (new_cell w _ _ 0 _ _ rfl rfl) k, cell_kept (new_cell w _ _ 1 _ _ rfl rfl) k, cell_kept (new_cell w _ _ 2 _ _ rfl rfl) k, cell_kept (new_cell w _ _ 3 _ _ rfl rfl) k⟩
  have HK0 : Hid (Kept w (w.alloc (.cells #[.int .u64 (a : Nat), .int .i64 (b : Nat), .int .i64 (c : Nat), .string t] 34))) := (Kept.refl _).alloc _
  generalize w.alloc (.cells #[.int .u64 (a : Nat), .int .i64 (b : Nat), .int .i64 (c : Nat), .string t] 34) = w1 at *
  refine wp_region_quiet (C := fun W => Kept w1 W) (by kernel_rfl) (by kernel_rfl) ((Kept.refl w1).drew) ?_
  have z0 : u0.size ≤ 9 := by rw [← data_len, HU0.out]; exact up_le a (by omega)
  have z1 : u1.size ≤ 9 := by rw [← data_len, HU1.out]; exact up_le b (by omega)
  have z2 : u2.size ≤ 9 := by rw [← data_len, HU2.out]; exact up_le c (by omega)
  have z3 : u3.size ≤ 9 := by rw [← data_len, HU3.out]; exact up_le n (by omega)
  have z4 : r4.size = 4 := by rw [← data_len, HR4.out]; rfl
  have hq01 : ¬ 9223372036854775807 < u0.size + u1.size := by omega
  have hq02 : ¬ 9223372036854775807 < u0.size + u1.size + u2.size := by omega
  have hq03 : ¬ 9223372036854775807 < u0.size + u1.size + u2.size + u3.size := by omega
  have hq04 : ¬ 9223372036854775807 < u0.size + u1.size + u2.size + u3.size + r4.size := by omega
  clear z0 z1 z2 z3 z4
  refine wpQuiet_step (fun K hK => ?_)
  rw [if_pos (wanted_none _ _ rfl)]
  refine ⟨.pointer (some ⟨w.heap.size, 0, none⟩), fun W hW => ?_, hK _ ?_⟩
  · have hc := HCL.out W hW
    have c0 := hc.1
    have c1 := hc.2.1
    have c2 := hc.2.2.1
    have c3 := hc.2.2.2
    clear hc
    unfold Oper.quietAt
    go_simp
  clear hK K
  go_simp
  refine wpQuiet_step (fun K hK => ?_)
  rw [if_pos (wanted_none _ _ rfl)]
  refine ⟨.int .u64 (a : Nat), fun W hW => ?_, hK _ ?_⟩
  · have hc := HCL.out W hW
    have c0 := hc.1
    have c1 := hc.2.1
    have c2 := hc.2.2.1
    have c3 := hc.2.2.2
    clear hc
    unfold Oper.quietAt
    go_simp
  clear hK K
  go_simp
  refine wpQuiet_step (fun K hK => ?_)
  rw [if_pos (wanted_none _ _ rfl)]
  refine ⟨.string u0, fun W hW => ?_, hK _ ?_⟩
  · unfold Oper.quietAt
    go_simp
    exact (HN0.out W).mono fun e w' h => ⟨h.1, hW.trans h.2⟩
  clear hK K
  go_simp
  refine wpQuiet_step (fun K hK => ?_)
  rw [if_pos (wanted_none _ _ rfl)]
  refine ⟨.pointer (some ⟨w.heap.size, 1, none⟩), fun W hW => ?_, hK _ ?_⟩
  · have hc := HCL.out W hW
    have c0 := hc.1
    have c1 := hc.2.1
    have c2 := hc.2.2.1
    have c3 := hc.2.2.2
    clear hc
    unfold Oper.quietAt
    go_simp
  clear hK K
  go_simp
  refine wpQuiet_step (fun K hK => ?_)
  rw [if_pos (wanted_none _ _ rfl)]
  refine ⟨.int .i64 (b : Nat), fun W hW => ?_, hK _ ?_⟩
  · have hc := HCL.out W hW
    have c0 := hc.1
    have c1 := hc.2.1
    have c2 := hc.2.2.1
    have c3 := hc.2.2.2
    clear hc
    unfold Oper.quietAt
    go_simp
  clear hK K
  go_simp
  refine wpQuiet_step (fun K hK => ?_)
  rw [if_pos (wanted_none _ _ rfl)]
  refine ⟨.int .u64 (b : Nat), fun W hW => ?_, hK _ ?_⟩
  · have hc := HCL.out W hW
    have c0 := hc.1
    have c1 := hc.2.1
    have c2 := hc.2.2.1
    have c3 := hc.2.2.2
    clear hc
    unfold Oper.quietAt
    go_simp
  clear hK K
  go_simp
  refine wpQuiet_step (fun K hK => ?_)
  rw [if_pos (wanted_none _ _ rfl)]
  refine ⟨.string u1, fun W hW => ?_, hK _ ?_⟩
  · unfold Oper.quietAt
    go_simp
    exact (HN1.out W).mono fun e w' h => ⟨h.1, hW.trans h.2⟩
  clear hK K
  go_simp
  refine wpQuiet_step (fun K hK => ?_)
  rw [if_pos (wanted_none _ _ rfl)]
  refine ⟨.string (u0 ++ u1), fun W hW => ?_, hK _ ?_⟩
  · have hc := HCL.out W hW
    have c0 := hc.1
    have c1 := hc.2.1
    have c2 := hc.2.2.1
    have c3 := hc.2.2.2
    clear hc
    unfold Oper.quietAt
    go_simp
  clear hK K
  go_simp
  refine wpQuiet_step (fun K hK => ?_)
  rw [if_pos (wanted_none _ _ rfl)]
  refine ⟨.pointer (some ⟨w.heap.size, 2, none⟩), fun W hW => ?_, hK _ ?_⟩
  · have hc := HCL.out W hW
    have c0 := hc.1
    have c1 := hc.2.1
    have c2 := hc.2.2.1
    have c3 := hc.2.2.2
    clear hc
    unfold Oper.quietAt
    go_simp
  clear hK K
  go_simp
  refine wpQuiet_step (fun K hK => ?_)
  rw [if_pos (wanted_none _ _ rfl)]
  refine ⟨.int .i64 (c : Nat), fun W hW => ?_, hK _ ?_⟩
  · have hc := HCL.out W hW
    have c0 := hc.1
    have c1 := hc.2.1
    have c2 := hc.2.2.1
    have c3 := hc.2.2.2
    clear hc
    unfold Oper.quietAt
    go_simp
  clear hK K
  go_simp
  refine wpQuiet_step (fun K hK => ?_)
  rw [if_pos (wanted_none _ _ rfl)]
  refine ⟨.int .u64 (c : Nat), fun W hW => ?_, hK _ ?_⟩
  · have hc := HCL.out W hW
    have c0 := hc.1
    have c1 := hc.2.1
    have c2 := hc.2.2.1
    have c3 := hc.2.2.2
    clear hc
    unfold Oper.quietAt
    go_simp
  clear hK K
  go_simp
  refine wpQuiet_step (fun K hK => ?_)
  rw [if_pos (wanted_none _ _ rfl)]
  refine ⟨.string u2, fun W hW => ?_, hK _ ?_⟩
  · unfold Oper.quietAt
    go_simp
    exact (HN2.out W).mono fun e w' h => ⟨h.1, hW.trans h.2⟩
  clear hK K
  go_simp
  refine wpQuiet_step (fun K hK => ?_)
  rw [if_pos (wanted_none _ _ rfl)]
  refine ⟨.string (u0 ++ u1 ++ u2), fun W hW => ?_, hK _ ?_⟩
  · have hc := HCL.out W hW
    have c0 := hc.1
    have c1 := hc.2.1
    have c2 := hc.2.2.1
    have c3 := hc.2.2.2
    clear hc
    unfold Oper.quietAt
    go_simp
  clear hK K
  go_simp
  refine wpQuiet_step (fun K hK => ?_)
  rw [if_pos (wanted_none _ _ rfl)]
  refine ⟨.pointer (some ⟨w.heap.size, 3, none⟩), fun W hW => ?_, hK _ ?_⟩
  · have hc := HCL.out W hW
    have c0 := hc.1
    have c1 := hc.2.1
    have c2 := hc.2.2.1
    have c3 := hc.2.2.2
    clear hc
    unfold Oper.quietAt
    go_simp
  clear hK K
  go_simp
  refine wpQuiet_step (fun K hK => ?_)
  rw [if_pos (wanted_none _ _ rfl)]
  refine ⟨.string t, fun W hW => ?_, hK _ ?_⟩
  · have hc := HCL.out W hW
    have c0 := hc.1
    have c1 := hc.2.1
    have c2 := hc.2.2.1
    have c3 := hc.2.2.2
    clear hc
    unfold Oper.quietAt
    go_simp
  clear hK K
  go_simp
  refine wpQuiet_step (fun K hK => ?_)
  rw [if_pos (wanted_none _ _ rfl)]
  refine ⟨.int .i64 (n : Nat), fun W hW => ?_, hK _ ?_⟩
  · have hc := HCL.out W hW
    have c0 := hc.1
    have c1 := hc.2.1
    have c2 := hc.2.2.1
    have c3 := hc.2.2.2
    clear hc
    unfold Oper.quietAt
    go_simp
  clear hK K
  go_simp
  refine wpQuiet_step (fun K hK => ?_)
  rw [if_pos (wanted_none _ _ rfl)]
  refine ⟨.int .u64 (n : Nat), fun W hW => ?_, hK _ ?_⟩
  · have hc := HCL.out W hW
    have c0 := hc.1
    have c1 := hc.2.1
    have c2 := hc.2.2.1
    have c3 := hc.2.2.2
    clear hc
    unfold Oper.quietAt
    go_simp
  clear hK K
  go_simp
  refine wpQuiet_step (fun K hK => ?_)
  rw [if_pos (wanted_none _ _ rfl)]
  refine ⟨.string u3, fun W hW => ?_, hK _ ?_⟩
  · unfold Oper.quietAt
    go_simp
    exact (HN3.out W).mono fun e w' h => ⟨h.1, hW.trans h.2⟩
  clear hK K
  go_simp
  refine wpQuiet_step (fun K hK => ?_)
  rw [if_pos (wanted_none _ _ rfl)]
  refine ⟨.string (u0 ++ u1 ++ u2 ++ u3), fun W hW => ?_, hK _ ?_⟩
  · have hc := HCL.out W hW
    have c0 := hc.1
    have c1 := hc.2.1
    have c2 := hc.2.2.1
    have c3 := hc.2.2.2
    clear hc
    unfold Oper.quietAt
    go_simp
  clear hK K
  go_simp
  refine wpQuiet_step (fun K hK => ?_)
  rw [if_pos (wanted_none _ _ rfl)]
  refine ⟨.pointer (some ⟨w.heap.size, 3, none⟩), fun W hW => ?_, hK _ ?_⟩
  · have hc := HCL.out W hW
    have c0 := hc.1
    have c1 := hc.2.1
    have c2 := hc.2.2.1
    have c3 := hc.2.2.2
    clear hc
    unfold Oper.quietAt
    go_simp
  clear hK K
  go_simp
  refine wpQuiet_step (fun K hK => ?_)
  rw [if_pos (wanted_none _ _ rfl)]
  refine ⟨.string t, fun W hW => ?_, hK _ ?_⟩
  · have hc := HCL.out W hW
    have c0 := hc.1
    have c1 := hc.2.1
    have c2 := hc.2.2.1
    have c3 := hc.2.2.2
    clear hc
    unfold Oper.quietAt
    go_simp
  clear hK K
  go_simp
  refine wpQuiet_step (fun K hK => ?_)
  rw [if_pos (wanted_none _ _ rfl)]
  refine ⟨.int .u32 (cr : Nat), fun W hW => ?_, hK _ ?_⟩
  · unfold Oper.quietAt
    go_simp
    exact (HOF.out W).mono fun e w' h => ⟨h.1, hW.trans h.2⟩
  clear hK K
  go_simp
  refine wpQuiet_step (fun K hK => ?_)
  rw [if_pos (wanted_none _ _ rfl)]
  refine ⟨.string r4, fun W hW => ?_, hK _ ?_⟩
  · unfold Oper.quietAt
    go_simp
    exact (HBY.out W).mono fun e w' h => ⟨h.1, hW.trans h.2⟩
  clear hK K
  go_simp
  refine wpQuiet_step (fun K hK => ?_)
  rw [if_pos (wanted_none _ _ rfl)]
  refine ⟨.string (u0 ++ u1 ++ u2 ++ u3 ++ r4), fun W hW => ?_, hK _ ?_⟩
  · have hc := HCL.out W hW
    have c0 := hc.1
    have c1 := hc.2.1
    have c2 := hc.2.2.1
    have c3 := hc.2.2.2
    clear hc
    unfold Oper.quietAt
    go_simp
  clear hK K
  go_simp
  refine wpQuiet_step (fun K hK => ?_)
  rw [if_pos (wanted_none _ _ rfl)]
  refine ⟨.string (u0 ++ u1 ++ u2 ++ u3 ++ r4), fun W hW => ?_, hK _ ?_⟩
  · have hc := HCL.out W hW
    have c0 := hc.1
    have c1 := hc.2.1
    have c2 := hc.2.2.1
    have c3 := hc.2.2.2
    clear hc
    unfold Oper.quietAt
    go_simp
  clear hK K
  go_simp
  refine wpQuiet_nil ?_
  intro W hW
  have HKW : Hid (Kept w W) := HK0.out.trans hW
  clear hW
  obtain ⟨y, hy⟩ : ∃ y : ByteArray, y = u0 ++ u1 ++ u2 ++ u3 ++ r4 := ⟨_, rfl⟩
  have HY : Hid (y.data.toList = saidL a b c n (b4 cr)) := by
    show _ = _
    rw [hy]
    unfold saidL
    simp only [ByteArray.data_append, Array.toList_append]
    rw [HU0.out, HU1.out, HU2.out, HU3.out, HR4.out]
    unfold nums
    simp
  rw [← hy]
  have hyl : y.size ≤ 40 := by
    rw [← data_len, HY.out]; exact saidL_length a b c n m2 (by omega) (by omega) m7 cr
  clear hy
  go_wp2_with fail
  refine (refseal_any y _ (by omega)).mono ?_
  rintro e w2 ⟨⟨r, rfl, hr, hrs⟩, hk⟩
  have HK2 : Hid (Kept w w2) := HKW.out.trans hk
  have HR : Hid (r.data.toList = sealL (saidL a b c n (b4 cr))) := by show _ = _; rw [hr.out, HY.out]
  have hrl : r.size < 256 := by omega
  have hrl2 : r.size ≤ 44 := by omega
  clear hk hr hrs
  have hcv := one_conv w2 r.size hrl 5
  have hw8 : IntKind.u8.wrap (r.size : Int) = (r.size : Int) := IntWalk.u8_in _ (by omega)
  obtain ⟨m, hm⟩ : ∃ m, m = 63 - r.size := ⟨_, rfl⟩
  have hmi : 64 - (1 + (r.size : Int)) = (m : Int) := by omega
  have HM := Lib.hid hm
  have HRL := Lib.hid hrl2
  obtain ⟨M, hM, hMC⟩ := mkZ m (by omega)
  have hMw := hM (w2.alloc (.cells #[.int .u8 (r.size : Int)] 5))
  have hMcw := hMC (w2.alloc (.cells #[.int .u8 (r.size : Int)] 5))
  rw [size_alloc] at hMw hMcw
  have hz1 : ¬ 9223372036854775807 < (⟨#[UInt8.ofNat r.size]⟩ : ByteArray).size + r.size := by rw [show (⟨#[UInt8.ofNat r.size]⟩ : ByteArray).size = 1 from rfl]; omega
  clear hM hMC hm
  go_wp2_with fail
  go_ret
  refine ⟨?_, (HK2.out.alloc _).alloc _⟩
  have he : (⟨#[UInt8.ofNat r.size]⟩ : ByteArray) ++ r ++ ⟨Array.replicate m 0⟩ = padH hd := by
    apply str_ext
    unfold padH
    rw [HHD.out]
    unfold headL
    have hl : (sealL (saidL a b c n (b4 cr))).length = r.size := by rw [← HR.out, data_len]
    rw [hl, ← HR.out]
    simp only [ByteArray.data_append, Array.toList_append, List.length_cons, data_len]
    rw [show 64 - (r.size + 1) = m from by have := HM.out; omega]
    simp
  exact congrArg (fun q => Ending.returned (Value.string q)) he
end Go.Proofs.YtdpkmonlkdegjaaGreatDoor

/- Some answers that the document fixes. -/
namespace Go.Proofs.YtdpkmonlkdegjaaGreatDoor
open Go.RowKit Sm Wr _root_.Go.Proofs.YtdpkmonlkdegjaaGreatDoor.Nm
set_option linter.unusedVariables false
namespace Al8
def X : Shd := ⟨7, 1, 200, ⟨#[97, 98, 99]⟩⟩
def A0 : RSt := rack0 1 16
def A1 : RSt := (shW A0 0 8 X).2
def A2 : RSt := A1.writeS 0 8 ⟨#[]⟩
theorem r0 : shR A0 0 8 = (80, .none) := by kernel_rfl
theorem w0 : (shW A0 0 8 X).1 = 0 := by decide +kernel
theorem r1 : shR A1 0 8 = (0, X) := by kernel_rfl
theorem t1 : A1.readE 0 8 = 0 ∧ A1.readT 0 8 = padH X.head := by decide +kernel
theorem c1 : A1.writeE 0 8 ⟨#[]⟩ = 0 := by decide +kernel
theorem r2 : shR A2 0 8 = (80, .none) := by kernel_rfl
theorem w2 : (shW A2 1 8 X).1 = 70 := by decide +kernel
end Al8
open Al8
/-- Write, whatever the shard. -/
theorem shWrite_any (g : Nat) (s : RSt) (d a : Int) (hd1 : -9223372036854775808 ≤ d) (hd2 : d ≤ 9223372036854775807) (ha1 : -9223372036854775808 ≤ a) (ha2 : a ≤ 9223372036854775807) (x : Shd) (hx : x.Wf) (hs : x.t.size ≤ 9223372036854775807) (w : World) (hR : RackAt g s w) :
    Calls Tryz.prog 10 #[.pointer (some ⟨g + 1, 0, none⟩), .int .i64 d, .int .i64 a, x.val] w fun r w' => r = .returned (.int .i64 ((shW s d a x).1 : Nat)) ∧ RackAt g (shW s d a x).2 w' ∧ Only g (g + 2 + s.n) w w' := by
  cases hm : x.may with
  | true => exact shWrite_ok g s d a hd1 hd2 ha1 ha2 x hx hm w hR
  | false =>
    have e : shW s d a x = (2, s) := by unfold shW; rw [hm, if_pos rfl]
    rw [e]
    refine (shWrite_bad _ d a x hx hs hm w).mono ?_
    rintro r w' ⟨rfl, hk⟩
    exact ⟨rfl, hR.kept hk, hk.only _ _⟩
theorem X_wf : X.Wf := by constructor <;> decide
theorem none_wf : Shd.none.Wf := by constructor <;> decide
theorem shW_none (s : RSt) (d a : Int) : shW s d a Shd.none = (2, s) := by
  unfold shW
  rw [show Shd.none.may = false from by decide, if_pos rfl]
theorem ShAt.laid (w : World) (T : TypeId) (x : Shd) : ShAt (w.alloc (.cells #[.int .u64 (x.st : Nat), .int .i64 x.ix, .int .i64 x.tt, .string x.t] T)) w.heap.size x := by
  constructor
  all_goals first | (rw [World.cell?_alloc_mark]; rfl) | (rw [World.frozen?_alloc_mark]; rfl)
theorem ShAt.only {w w' : World} {g lo hi : Nat} {x : Shd} (h : ShAt w g x) (k : Only lo hi w w') (hb : hi ≤ g) : ShAt w' g x := h.frame (k.block g h.lt (.inr hb))
theorem shX_val : Al8.X.val = .agg #[.int .u64 7, .int .i64 1, .int .i64 200, .string ⟨#[97, 98, 99]⟩] := rfl
theorem shN_val : Shd.none.val = .agg #[.int .u64 0, .int .i64 0, .int .i64 0, .string ⟨#[]⟩] := rfl
set_option maxHeartbeats 4000000 in
set_option maxRecDepth 100000 in
theorem shAlive_any (w : World) : Calls Tryz.prog 7 #[] w fun e w' => e = .returned (.bool true) ∧ Kept w w' := by
  obtain ⟨g, hg⟩ : ∃ g, g = w.heap.size := ⟨_, rfl⟩
  have HGL : Hid (w.heap.size ≤ g) := Nat.le_of_eq hg.symm
  go_enter Tryz.func7, Tryz.ntmps7
  go_wp2_with fail
  refine (pNew_ok 1 16 (by decide) (by decide) (by decide) (by decide) _).mono ?_
  rintro e w1 ⟨rfl, hk, hR, hsz⟩
  rw [← hg] at hR hsz
  rw [← hg]
  have R1 : Hid (RackAt g A0 w1) := hR
  have K1 : Hid (Kept w w1) := hk
  clear hk hR hg
  obtain ⟨b, hb⟩ : ∃ b, b = w1.heap.size := ⟨_, rfl⟩
  have HB : Hid (g + 3 ≤ b) := by show _ ≤ _; omega
  clear hsz
  go_upto_region 5 with fail
  have K0 : Hid (Kept w (w1.alloc (.cells #[.int .u64 7, .int .i64 1, .int .i64 200, .string ⟨#[97, 98, 99]⟩] 34))) := K1.out.alloc _
  have R0 := Lib.hid (R1.out.kept ((Kept.refl w1).alloc (.cells #[.int .u64 7, .int .i64 1, .int .i64 200, .string ⟨#[97, 98, 99]⟩] 34)))
  have X0 := Lib.hid (ShAt.laid w1 34 Al8.X)
  rw [← hb] at X0
  rw [← hb]
  have X0 : Hid (ShAt (w1.alloc (.cells #[.int .u64 7, .int .i64 1, .int .i64 200, .string ⟨#[97, 98, 99]⟩] 34)) b Al8.X) := X0
  clear hb R1 K1
  generalize w1.alloc (.cells #[.int .u64 7, .int .i64 1, .int .i64 200, .string ⟨#[97, 98, 99]⟩] 34) = u0 at *
  have hc := shRead_any g A0 0 8 (by decide) (by decide) (by decide) (by decide) u0 R0.out
  rw [show shR A0 0 8 = (80, .none) from r0] at hc
  unfold readV at hc
  dsimp only at hc
  rw [shN_val] at hc
  go_wp2_with fail
  refine hc.mono ?_
  clear hc
  rintro e u1 ⟨rfl, hk⟩
  have R1 := Lib.hid (R0.out.kept hk)
  have X1 := Lib.hid (X0.out.kept hk)
  have K1 : Hid (Kept w u1) := K0.out.trans hk
  clear hk
  go_upto_region 6 with fail
  have R2 := Lib.hid (R1.out.kept ((Kept.refl u1).alloc (.cells #[.int .u64 0, .int .i64 0, .int .i64 0, .string ⟨#[]⟩] 34)))
  have X2 := Lib.hid (X1.out.kept ((Kept.refl u1).alloc (.cells #[.int .u64 0, .int .i64 0, .int .i64 0, .string ⟨#[]⟩] 34)))
  have K2 : Hid (Kept w (u1.alloc (.cells #[.int .u64 0, .int .i64 0, .int .i64 0, .string ⟨#[]⟩] 34))) := K1.out.alloc _
  clear R1 X1 K1
  generalize (u1.alloc (.cells #[.int .u64 0, .int .i64 0, .int .i64 0, .string ⟨#[]⟩] 34)) = u2 at *
  have x0 : u2.cell? ⟨b, 0, none⟩ = some (.int .u64 7) := X2.out.c0
  have x1 : u2.cell? ⟨b, 1, none⟩ = some (.int .i64 1) := X2.out.c1
  have x2 : u2.cell? ⟨b, 2, none⟩ = some (.int .i64 200) := X2.out.c2
  have x3 : u2.cell? ⟨b, 3, none⟩ = some (.string ⟨#[97, 98, 99]⟩) := X2.out.c3
  have hc := shWrite_any g A0 0 8 (by decide) (by decide) (by decide) (by decide) Al8.X X_wf (by decide) u2 R2.out
  rw [show (shW A0 0 8 Al8.X).1 = 0 from w0] at hc
  rw [shX_val] at hc
  go_wp2_with fail
  refine hc.mono ?_
  clear hc
  rintro e u3 ⟨rfl, hR, hO⟩
  have R3 : Hid (RackAt g A1 u3) := hR
  have X3 := Lib.hid (X2.out.only hO (by have := HB.out; have hn : A0.n = 1 := (by kernel_rfl); omega))
  have K3 : Hid (Kept w u3) := Only.kept K2.out HGL.out hO
  clear hR hO
  clear x0 x1 x2 x3
  have hc := shRead_any g A1 0 8 (by decide) (by decide) (by decide) (by decide) u3 R3.out
  rw [show shR A1 0 8 = (0, Al8.X) from r1] at hc
  unfold readV at hc
  dsimp only at hc
  rw [shX_val] at hc
  go_wp2_with fail
  refine hc.mono ?_
  clear hc
  rintro e u4 ⟨rfl, hk⟩
  have R4 := Lib.hid (R3.out.kept hk)
  have X4 := Lib.hid (X3.out.kept hk)
  have K4 : Hid (Kept w u4) := K3.out.trans hk
  clear hk
  go_upto_region 8 with fail
  have R5 := Lib.hid (R4.out.kept ((Kept.refl u4).alloc (.cells #[.int .u64 7, .int .i64 1, .int .i64 200, .string ⟨#[97, 98, 99]⟩] 34)))
  have X5 := Lib.hid (X4.out.kept ((Kept.refl u4).alloc (.cells #[.int .u64 7, .int .i64 1, .int .i64 200, .string ⟨#[97, 98, 99]⟩] 34)))
  have K5 : Hid (Kept w (u4.alloc (.cells #[.int .u64 7, .int .i64 1, .int .i64 200, .string ⟨#[97, 98, 99]⟩] 34))) := K4.out.alloc _
  have Y5 : Hid (ShAt (u4.alloc (.cells #[.int .u64 7, .int .i64 1, .int .i64 200, .string ⟨#[97, 98, 99]⟩] 34)) u4.heap.size Al8.X) := Lib.hid (ShAt.laid u4 34 Al8.X)
  have HC : Hid (g + 3 ≤ u4.heap.size) := by
    have := X4.out.lt
    have := HB.out
    show _ ≤ _
    omega
  clear R4 X4 K4
  generalize (u4.alloc (.cells #[.int .u64 7, .int .i64 1, .int .i64 200, .string ⟨#[97, 98, 99]⟩] 34)) = u5 at *
  generalize u4.heap.size = c at *
  obtain ⟨S, hS⟩ : ∃ S, S = padH Al8.X.head := ⟨_, rfl⟩
  have hc := read_any g A1 0 8 (by decide) (by decide) (by decide) (by decide) u5 R5.out
  rw [Al8.t1.1, Al8.t1.2, ← hS] at hc
  go_wp2_with fail
  refine hc.mono ?_
  clear hc
  rintro e u6 ⟨rfl, hk⟩
  have R6 := Lib.hid (R5.out.kept hk)
  have X6 := Lib.hid (X5.out.kept hk)
  have K6 : Hid (Kept w u6) := K5.out.trans hk
  have Y6 := Lib.hid (Y5.out.kept hk)
  clear hk
  have hc := shClear_any g A1 0 8 (by decide) (by decide) (by decide) (by decide) u6 R6.out
  rw [show A1.writeE 0 8 ⟨#[]⟩ = 0 from c1] at hc
  go_wp2_with fail
  refine hc.mono ?_
  clear hc
  rintro e u7 ⟨rfl, hR, hO⟩
  have R7 : Hid (RackAt g A2 u7) := hR
  have X7 := Lib.hid (X6.out.only hO (by have := HB.out; have hn : A1.n = 1 := (by kernel_rfl); omega))
  have Y7 := Lib.hid (Y6.out.only hO (by have := HC.out; have hn : A1.n = 1 := (by kernel_rfl); omega))
  have K7 : Hid (Kept w u7) := Only.kept K6.out HGL.out hO
  clear hR hO
  have hc := shRead_any g A2 0 8 (by decide) (by decide) (by decide) (by decide) u7 R7.out
  rw [show shR A2 0 8 = (80, .none) from r2] at hc
  unfold readV at hc
  dsimp only at hc
  rw [shN_val] at hc
  go_wp2_with fail
  refine hc.mono ?_
  clear hc
  rintro e u8 ⟨rfl, hk⟩
  have R8 := Lib.hid (R7.out.kept hk)
  have X8 := Lib.hid (X7.out.kept hk)
  have K8 : Hid (Kept w u8) := K7.out.trans hk
  have Y8 := Lib.hid (Y7.out.kept hk)
  clear hk
  go_upto_region 11 with fail
  have R9 := Lib.hid (R8.out.kept ((Kept.refl u8).alloc (.cells #[.int .u64 0, .int .i64 0, .int .i64 0, .string ⟨#[]⟩] 34)))
  have X9 := Lib.hid (X8.out.kept ((Kept.refl u8).alloc (.cells #[.int .u64 0, .int .i64 0, .int .i64 0, .string ⟨#[]⟩] 34)))
  have K9 : Hid (Kept w (u8.alloc (.cells #[.int .u64 0, .int .i64 0, .int .i64 0, .string ⟨#[]⟩] 34))) := K8.out.alloc _
  have Y9 := Lib.hid (Y8.out.kept ((Kept.refl u8).alloc (.cells #[.int .u64 0, .int .i64 0, .int .i64 0, .string ⟨#[]⟩] 34)))
  clear R8 X8 K8 Y8
  generalize (u8.alloc (.cells #[.int .u64 0, .int .i64 0, .int .i64 0, .string ⟨#[]⟩] 34)) = u9 at *
  have x0 : u9.cell? ⟨b, 0, none⟩ = some (.int .u64 7) := X9.out.c0
  have x1 : u9.cell? ⟨b, 1, none⟩ = some (.int .i64 1) := X9.out.c1
  have x2 : u9.cell? ⟨b, 2, none⟩ = some (.int .i64 200) := X9.out.c2
  have x3 : u9.cell? ⟨b, 3, none⟩ = some (.string ⟨#[97, 98, 99]⟩) := X9.out.c3
  have y0 : u9.cell? ⟨c, 0, none⟩ = some (.int .u64 7) := Y9.out.c0
  have y1 : u9.cell? ⟨c, 1, none⟩ = some (.int .i64 1) := Y9.out.c1
  have y2 : u9.cell? ⟨c, 2, none⟩ = some (.int .i64 200) := Y9.out.c2
  have y3 : u9.cell? ⟨c, 3, none⟩ = some (.string ⟨#[97, 98, 99]⟩) := Y9.out.c3
  have hc := refHead_any Al8.X u9 (by decide)
  rw [← hS, shX_val] at hc
  go_wp2_with fail
  refine hc.mono ?_
  clear hc
  rintro e u10 ⟨rfl, hk⟩
  have R10 := Lib.hid (R9.out.kept hk)
  have X10 := Lib.hid (X9.out.kept hk)
  have K10 : Hid (Kept w u10) := K9.out.trans hk
  have Y10 := Lib.hid (Y9.out.kept hk)
  clear hk
  clear x0 x1 x2 x3
  clear y0 y1 y2 y3
  have x0 : u10.cell? ⟨b, 0, none⟩ = some (.int .u64 7) := X10.out.c0
  have x1 : u10.cell? ⟨b, 1, none⟩ = some (.int .i64 1) := X10.out.c1
  have x2 : u10.cell? ⟨b, 2, none⟩ = some (.int .i64 200) := X10.out.c2
  have x3 : u10.cell? ⟨b, 3, none⟩ = some (.string ⟨#[97, 98, 99]⟩) := X10.out.c3
  have hc := shWrite_any g A2 0 8 (by decide) (by decide) (by decide) (by decide) Shd.none none_wf (by decide) u10 R10.out
  rw [shW_none, shN_val] at hc
  go_wp2_with fail
  refine hc.mono ?_
  clear hc
  rintro e u11 ⟨rfl, hR, hO⟩
  have R11 : Hid (RackAt g A2 u11) := hR
  have X11 := Lib.hid (X10.out.only hO (by have := HB.out; have hn : A2.n = 1 := (by kernel_rfl); omega))
  have K11 : Hid (Kept w u11) := Only.kept K10.out HGL.out hO
  clear hR hO
  clear x0 x1 x2 x3
  have x0 : u11.cell? ⟨b, 0, none⟩ = some (.int .u64 7) := X11.out.c0
  have x1 : u11.cell? ⟨b, 1, none⟩ = some (.int .i64 1) := X11.out.c1
  have x2 : u11.cell? ⟨b, 2, none⟩ = some (.int .i64 200) := X11.out.c2
  have x3 : u11.cell? ⟨b, 3, none⟩ = some (.string ⟨#[97, 98, 99]⟩) := X11.out.c3
  have hc := shWrite_any g A2 1 8 (by decide) (by decide) (by decide) (by decide) Al8.X X_wf (by decide) u11 R11.out
  rw [show (shW A2 1 8 Al8.X).1 = 70 from Al8.w2, shX_val] at hc
  go_wp2_with fail
  refine hc.mono ?_
  clear hc
  rintro e u12 ⟨rfl, hR, hO⟩
  have K12 : Hid (Kept w u12) := Only.kept K11.out HGL.out hO
  clear hR hO
  go_wp2_with fail
  go_ret
  exact ⟨rfl, K12.out⟩
end Go.Proofs.YtdpkmonlkdegjaaGreatDoor

