/- The program's: the sector of a part. -/
import Derived.Test.YtmgkkoajjdgmbaaGreatDoorPart28
import Derived.Test.YtmgkkoajjdgmbaaGreatDoorPart20
import Derived.Test.YtmgkkoajjdgmbaaGreatDoorPart14
import Derived.Test.YtmgkkoajjdgmbaaGreatDoorPart10
import Derived.Lib.LazyBuf
import Derived.Deep.RegionHeld3
set_option linter.unusedVariables false
set_option linter.unusedSimpArgs false
set_option linter.unusedSectionVars false
set_option linter.unnecessarySimpa false
set_option linter.deprecated false
namespace Go.Proofs.YtmgkkoajjdgmbaaGreatDoor
open Go.RowKit Sm Wr _root_.Go.Proofs.YtmgkkoajjdgmbaaGreatDoor.Nm
set_option linter.unusedVariables false
theorem BytL.setCellsT {g : Nat} {l : List UInt8} {w : World} (h : BytL g l w) (o : Nat) (m : List UInt8) (hm : o + m.length ≤ l.length) :
    BytL g (l.take o ++ (m ++ l.drop (o + m.length))) (w.setCells g o (m.map fun x => Value.int .u8 (x.toNat : Int))) := by
  have hl : (l.take o ++ (m ++ l.drop (o + m.length))).length = l.length := by simp; omega
  refine ⟨fun j hj => ?_, fun j hj => by rw [World.frozen?_setCells]; exact h.free j (by omega)⟩
  have hjl : j < l.length := by omega
  by_cases h1 : j < o
  · rw [World.cell?_setCells_out _ _ _ _ _ (fun _ _ => .inl h1), h.cell j hjl, List.getElem_append_left (by simp; omega), List.getElem_take]
  · by_cases h2 : j < o + m.length
    · have e := World.cell?_setCells_in g (m.map fun x => Value.int .u8 (x.toNat : Int)) o w (fun q hq => by rw [List.length_map] at hq; rw [h.cell (o + q) (by omega)]; rfl) (j - o) (by rw [List.length_map]; omega)
      rw [show o + (j - o) = j from by omega] at e
      rw [e, List.getElem_map, List.getElem_append_right (by simp; omega), List.getElem_append_left (by simp; omega)]
      simp only [List.length_take, Nat.min_eq_left (show o ≤ l.length by omega)]
    · rw [World.cell?_setCells_out _ _ _ _ _ (fun _ _ => .inr (by rw [List.length_map]; show _ ≤ j; omega)), h.cell j hjl, List.getElem_append_right (by simp; omega), List.getElem_append_right (by simp; omega), List.getElem_drop]
      have hi : o + m.length + (j - (l.take o).length - m.length) = j := by rw [List.length_take, Nat.min_eq_left (by omega)]; omega
      simp only [hi]
def zc64 : Array Value := #[.int .u8 0, .int .u8 0, .int .u8 0, .int .u8 0, .int .u8 0, .int .u8 0, .int .u8 0, .int .u8 0, .int .u8 0, .int .u8 0, .int .u8 0, .int .u8 0, .int .u8 0, .int .u8 0, .int .u8 0, .int .u8 0, .int .u8 0, .int .u8 0, .int .u8 0, .int .u8 0, .int .u8 0, .int .u8 0, .int .u8 0, .int .u8 0, .int .u8 0, .int .u8 0, .int .u8 0, .int .u8 0, .int .u8 0, .int .u8 0, .int .u8 0, .int .u8 0, .int .u8 0, .int .u8 0, .int .u8 0, .int .u8 0, .int .u8 0, .int .u8 0, .int .u8 0, .int .u8 0, .int .u8 0, .int .u8 0, .int .u8 0, .int .u8 0, .int .u8 0, .int .u8 0, .int .u8 0, .int .u8 0, .int .u8 0, .int .u8 0, .int .u8 0, .int .u8 0, .int .u8 0, .int .u8 0, .int .u8 0, .int .u8 0, .int .u8 0, .int .u8 0, .int .u8 0, .int .u8 0, .int .u8 0, .int .u8 0, .int .u8 0, .int .u8 0]
theorem zero64_bytT (w : World) (T : TypeId) : BytL w.heap.size (List.replicate 64 0) (w.alloc (.cells zc64 T)) := by
  have e : zc64 = (List.replicate 64 (Value.int .u8 0)).toArray := rfl
  refine ⟨fun j hj => ?_, fun j hj => ?_⟩
  · rw [World.cell?_alloc_mark, e, List.getElem?_toArray, List.getElem?_replicate, if_pos (by simpa using hj), List.getElem_replicate]
    rfl
  · rw [World.frozen?_alloc_mark]
    simp
theorem setCells_keptT {w0 w : World} (h : Kept w0 w) (g : Nat) (hg : w0.heap.size ≤ g) : ∀ (l : List Value) (o : Nat), Kept w0 (w.setCells g o l) := by
  intro l
  induction l generalizing w with
  | nil => intro o; exact h
  | cons v r ih => intro o; exact ih (h.setCell (p := ⟨g, o, none⟩) hg v) (o + 1)
theorem u64s_fiveT (w : World) (a b c d l : Nat) (t : TypeId) (ha : a < 18446744073709551616) (hb : b < 18446744073709551616) (hc : c < 18446744073709551616) (hd : d < 18446744073709551616) (hl : l < 18446744073709551616) :
    U64s (w.alloc (.cells #[.int .u64 (a : Nat), .int .u64 (b : Nat), .int .u64 (c : Nat), .int .u64 (d : Nat), .int .u64 (l : Nat)] t)) (some ⟨w.heap.size, 0, none⟩) [a, b, c, d, l] := by
  refine u64s_new w _ t _ (fun i hi => ?_) (fun x hx => ?_)
  · simp only [List.length_cons, List.length_nil] at hi
    rcases i with _ | _ | _ | _ | _ | i
    all_goals first | rfl | omega
  · simp only [List.mem_cons, List.not_mem_nil, or_false] at hx
    omega
/-- A part lies in a block. -/
structure PtAt (w : World) (b o : Nat) (x : Pt) : Prop where
  c0 : w.cell? ⟨b, o, none⟩ = some (.int .u64 (x.gen : Nat))
  c1 : w.cell? ⟨b, o + 1, none⟩ = some (.int .u64 (x.num : Nat))
  c2 : w.cell? ⟨b, o + 2, none⟩ = some (.int .u64 (x.idx : Nat))
  c3 : w.cell? ⟨b, o + 3, none⟩ = some (.int .u64 (x.parts : Nat))
  c4 : w.cell? ⟨b, o + 4, none⟩ = some (.int .u32 (x.sum : Nat))
  c5 : w.cell? ⟨b, o + 5, none⟩ = some (.string x.piece)
theorem PtAt.lt {w : World} {b o : Nat} {x : Pt} (h : PtAt w b o x) : b < w.heap.size := block_lt_of_cell h.c0
theorem PtAt.frame {w w' : World} {b o : Nat} {x : Pt} (h : PtAt w b o x) (e : w'.heap[b]? = w.heap[b]?) : PtAt w' b o x := by
  have ce : ∀ o, w'.cell? ⟨b, o, none⟩ = w.cell? ⟨b, o, none⟩ := fun o => World.cell?_of_block (w := w) (a := ⟨b, o, none⟩) e
  exact ⟨by rw [ce]; exact h.c0, by rw [ce]; exact h.c1, by rw [ce]; exact h.c2, by rw [ce]; exact h.c3, by rw [ce]; exact h.c4, by rw [ce]; exact h.c5⟩
theorem PtAt.kept {w w' : World} {b o : Nat} {x : Pt} (h : PtAt w b o x) (k : Kept w w') : PtAt w' b o x := h.frame (k.block b h.lt)
theorem PtAt.laid (w : World) (T : TypeId) (x : Pt) : PtAt (w.alloc (.cells #[.int .u64 (x.gen : Nat), .int .u64 (x.num : Nat), .int .u64 (x.idx : Nat), .int .u64 (x.parts : Nat), .int .u32 (x.sum : Nat), .string x.piece] T)) w.heap.size 0 x := by
  constructor
  all_goals (rw [World.cell?_alloc_mark]; rfl)
set_option maxHeartbeats 2000000 in
set_option maxRecDepth 100000 in
theorem sector_any (x : Pt) (h : x.Ok) (w : World) :
    Calls Tryz.prog 56 #[x.val] w fun e w' => e = .returned (.string x.txt) ∧ Kept w w' := by
  have X0 := Lib.hid (PtAt.laid w 104 x)
  have HTX : Hid (x.txt.data.toList = x.raw) := rfl
  have HRL : Hid (x.raw.length = 64) := Pt.raw_length h
  have HRT : Hid (x.raw = UInt8.ofNat (sealL x.said).length :: sealL x.said ++ List.replicate (64 - ((sealL x.said).length + 1)) 0) := rfl
  have HSD : Hid (x.said = nums [x.gen, x.num, x.idx, x.parts, x.sum] ++ x.piece.data.toList) := rfl
  have HSL := Lib.hid (Pt.said_length h)
  obtain ⟨m1, m2, m3, m4, m5, m6, m7, m8⟩ := h
  obtain ⟨a, b, c, d, l, t⟩ := x
  dsimp only at *
  unfold Pt.val
  dsimp only
  generalize Pt.txt ⟨a, b, c, d, l, t⟩ = tx at *
  generalize Pt.raw ⟨a, b, c, d, l, t⟩ = rw' at *
  generalize Pt.said ⟨a, b, c, d, l, t⟩ = sd at *
  have hw2 : IntKind.u64.wrap (l : Int) = (l : Int) := IntWalk.u64_in _ (by omega)
  obtain ⟨y, hy⟩ : ∃ y : ByteArray, y = ⟨(nums [a, b, c, d, l]).toArray⟩ := ⟨_, rfl⟩
  have HNU := Lib.hid (fun W => (nums_any (some ⟨W.heap.size, 0, none⟩) 5 [a, b, c, d, l] (W.alloc (.cells #[.int .u64 (a : Nat), .int .u64 (b : Nat), .int .u64 (c : Nat), .int .u64 (d : Nat), .int .u64 (l : Nat)] 37)) (u64s_fiveT W a b c d l _ (by omega) (by omega) (by omega) (by omega) (by omega)) (by simp)))
  rw [← hy] at HNU
  obtain ⟨z, hz⟩ : ∃ z : ByteArray, z = y ++ t := ⟨_, rfl⟩
  have HY : Hid (z.data.toList = sd) := by show _ = _; rw [hz, hy, HSD.out]; simp
  have hyl : z.size ≤ 56 := by rw [← data_len, HY.out]; exact HSL.out
  have HSE := Lib.hid (fun W => seal_any z W (by omega))
  have HZ := Lib.hid hz
  have hys : y.size ≤ 45 := by rw [hy, mk_len]; have := nums_le [a, b, c, d, l] (by intro q hq; simp at hq; omega); simpa using this
  have hadd : ∀ W : World, (Op.stringOp .add y t).run Tryz.prog W = .ok (.string (y ++ t)) W := fun W => run_string_add_sum W y t (by omega)
  have hadd2 : ¬ 9223372036854775807 < y.size + t.size := by omega
  clear hy hz HSD HSL m1 m2 m3 m4 m5 m7 m8
  have K0 : Hid (Kept w (w.alloc (.cells #[.int .u64 (a : Nat), .int .u64 (b : Nat), .int .u64 (c : Nat), .int .u64 (d : Nat), .int .u32 (l : Nat), .string t] 104))) := (Kept.refl _).alloc _
  go_enter Tryz.func56, Tryz.ntmps56
  go_upto_region 1 with fail
  generalize w.alloc (.cells #[.int .u64 (a : Nat), .int .u64 (b : Nat), .int .u64 (c : Nat), .int .u64 (d : Nat), .int .u32 (l : Nat), .string t] 104) = W at *
  have HKEEP : Hid (∀ W', Kept W W' → W'.cell? ⟨w.heap.size, 0, none⟩ = some (.int .u64 (a : Nat)) ∧ W'.cell? ⟨w.heap.size, 1, none⟩ = some (.int .u64 (b : Nat)) ∧ W'.cell? ⟨w.heap.size, 2, none⟩ = some (.int .u64 (c : Nat)) ∧ W'.cell? ⟨w.heap.size, 3, none⟩ = some (.int .u64 (d : Nat)) ∧ W'.cell? ⟨w.heap.size, 4, none⟩ = some (.int .u32 (l : Nat)) ∧ W'.cell? ⟨w.heap.size, 5, none⟩ = some (.string t)) := fun W' k => by
    have q := X0.out.kept k
    exact ⟨q.c0, q.c1, q.c2, q.c3, q.c4, q.c5⟩
  have hk0 := Kept.refl W
  have HKD : Hid (Kept W W.drew) := (Kept.refl W).drew
  go_region_held3 (fun W' => W'.cell? ⟨w.heap.size, 0, none⟩ = some (.int .u64 (a : Nat)) ∧ W'.cell? ⟨w.heap.size, 1, none⟩ = some (.int .u64 (b : Nat)) ∧ W'.cell? ⟨w.heap.size, 2, none⟩ = some (.int .u64 (c : Nat)) ∧ W'.cell? ⟨w.heap.size, 3, none⟩ = some (.int .u64 (d : Nat)) ∧ W'.cell? ⟨w.heap.size, 4, none⟩ = some (.int .u32 (l : Nat)) ∧ W'.cell? ⟨w.heap.size, 5, none⟩ = some (.string t))
    (first | exact HKEEP.out _ hk0 | exact HKEEP.out _ (HKD.out.alloc _) | exact HKEEP.out _ HKD.out | exact HKEEP.out _ hkA | exact HKEEP.out _ hkB)
    (first
      | (go_at_call 70; refine (HNU.out W.drew).mono ?_; rintro e wA ⟨rfl, hk⟩; have hkA := (HKD.out.alloc _).trans hk; clear hk)
      | (go_at_call 69; rw [← HZ.out]; refine (HSE.out _).mono ?_; rintro e wB ⟨⟨r, rfl, hr, hrz⟩, hk⟩; have hkB := Kept.trans hkA hk; clear hk))
  have HRR : Hid (r.data.toList = sealL sd) := by show _ = _; rw [hr.out, HY.out]
  have HRZ : Hid ((sealL sd).length = r.size) := by show _ = _; rw [← HRR.out, data_len]
  have hr60 : r.size ≤ 60 := by omega
  have K3 : Hid (Kept w wB) := K0.out.trans hkB
  clear hkA hkB hk0 HKD HKEEP X0 HNU HSE HZ hrz hr HY hyl hw2 hys m6
  generalize sealL sd = se at *
  go_upto_region 3 with fail
  have B0 := Lib.hid (zero64_bytT wB 107)
  have K4 : Hid (Kept w (wB.alloc (.cells zc64 107))) := K3.out.alloc _
  unfold zc64 at B0 K4
  generalize wB.alloc (.cells #[.int .u8 0, .int .u8 0, .int .u8 0, .int .u8 0, .int .u8 0, .int .u8 0, .int .u8 0, .int .u8 0, .int .u8 0, .int .u8 0, .int .u8 0, .int .u8 0, .int .u8 0, .int .u8 0, .int .u8 0, .int .u8 0, .int .u8 0, .int .u8 0, .int .u8 0, .int .u8 0, .int .u8 0, .int .u8 0, .int .u8 0, .int .u8 0, .int .u8 0, .int .u8 0, .int .u8 0, .int .u8 0, .int .u8 0, .int .u8 0, .int .u8 0, .int .u8 0, .int .u8 0, .int .u8 0, .int .u8 0, .int .u8 0, .int .u8 0, .int .u8 0, .int .u8 0, .int .u8 0, .int .u8 0, .int .u8 0, .int .u8 0, .int .u8 0, .int .u8 0, .int .u8 0, .int .u8 0, .int .u8 0, .int .u8 0, .int .u8 0, .int .u8 0, .int .u8 0, .int .u8 0, .int .u8 0, .int .u8 0, .int .u8 0, .int .u8 0, .int .u8 0, .int .u8 0, .int .u8 0, .int .u8 0, .int .u8 0, .int .u8 0, .int .u8 0] 107) = W0 at *
  have HG : Hid (w.heap.size ≤ wB.heap.size) := K3.out.size
  generalize wB.heap.size = G at *
  have c0 := B0.out.cell 0 (by decide)
  have f0 := B0.out.free 0 (by decide)
  have hw8 : IntKind.u8.wrap (r.size : Int) = (r.size : Int) := IntWalk.u8_in _ (by omega)
  have hv : (((UInt8.ofNat r.size).toNat : Nat) : Int) = (r.size : Int) := by rw [UInt8.toNat_ofNat']; omega
  have B1 := B0.out.set 0 (by decide) (UInt8.ofNat r.size)
  rw [hv] at B1
  replace B1 := Lib.hid B1
  have K5 : Hid (Kept w (W0.setCell ⟨G, 0, none⟩ (.int .u8 (r.size : Int)))) := K4.out.setCell (p := ⟨G, 0, none⟩) HG.out _
  clear B0 K4 K3 hv
  go_upto_region 4 with fail
  generalize W0.setCell ⟨G, 0, none⟩ (.int .u8 (r.size : Int)) = W1 at *
  clear c0 f0 hw8
  have hcp : ∀ ty, (Builtin.copy_ #[24, 9] ty #[.slice (some ⟨G, 1, none⟩) 63 63, .string r]).run Tryz.prog W1 = .ok (goInt r.size) (W1.setCells G 1 (r.data.toList.map fun x => Value.int .u8 (x.toNat : Int))) := fun ty =>
    run_copy_string _ 24 9 ty 5 G 1 63 63 r Tryz.underlying24 Tryz.sizeOf5 (by omega) (fun j hj => by rw [B1.out.cell (1 + j) (by rw [List.length_set, List.length_replicate]; omega)]; rfl) (fun j hj => B1.out.free (1 + j) (by rw [List.length_set, List.length_replicate]; omega))
  have hdl : r.data.toList.length = r.size := by simp
  have B2 := B1.out.setCellsT 1 r.data.toList (by rw [List.length_set, List.length_replicate]; omega)
  have K6 : Hid (Kept w (W1.setCells G 1 (r.data.toList.map fun x => Value.int .u8 (x.toNat : Int)))) := setCells_keptT K5.out G HG.out _ _
  generalize W1.setCells G 1 (r.data.toList.map fun x => Value.int .u8 (x.toNat : Int)) = W2 at *
  have hl2 : (((List.replicate 64 (0 : UInt8)).set 0 (UInt8.ofNat r.size)).take 1 ++ (r.data.toList ++ ((List.replicate 64 (0 : UInt8)).set 0 (UInt8.ofNat r.size)).drop (1 + r.data.toList.length))) = tx.data.toList := by
    rw [HTX.out, HRT.out, hdl, HRR.out, HRZ.out, show List.replicate 64 (0 : UInt8) = 0 :: List.replicate 63 0 from rfl, List.set_cons_zero, Nat.add_comm 1 r.size, List.drop_succ_cons, List.drop_replicate, show 64 - (r.size + 1) = 63 - r.size from by omega]
    rfl
  rw [hl2] at B2
  have hcv := B2.text 0 64 64 (by rw [HTX.out, HRL.out]; decide)
  have htx : (⟨((tx.data.toList.drop 0).take 64).toArray⟩ : ByteArray) = tx := by
    apply str_ext
    rw [List.drop_zero, List.take_of_length_le (by rw [HTX.out, HRL.out]; decide)]
  rw [htx] at hcv
  clear htx hl2 B1 B2 hdl HRT HRZ HRR HRL HTX K5
  go_wp2_with fail
  go_ret
  exact ⟨rfl, K6.out⟩
end Go.Proofs.YtmgkkoajjdgmbaaGreatDoor
