/- The program's: does a sector belong to the generation; what is wrong with a drive's sectors, plain. -/
import Derived.Test.YtmgkkoajjdgmbaaGreatDoorPart37
import Derived.Test.YtmgkkoajjdgmbaaGreatDoorPart36
set_option linter.unusedVariables false
set_option linter.unusedSimpArgs false
set_option linter.unusedSectionVars false
set_option linter.unnecessarySimpa false
set_option linter.deprecated false
namespace Go.Proofs.YtmgkkoajjdgmbaaGreatDoor
open Go.RowKit Sm Wr _root_.Go.Proofs.YtmgkkoajjdgmbaaGreatDoor.Nm
set_option linter.unusedVariables false
noncomputable def ownsB (gen : Nat) (b : List UInt8) : Bool := match lookR b with | some x => decide (x.gen = gen) | none => false
set_option maxRecDepth 100000 in
set_option maxHeartbeats 1000000 in
theorem owns_any (G : Nat) (g : Geo) (gen : Nat) (s : ByteArray) (hs : Sect s.data.toList) (w : World) :
    Calls Tryz.prog 62 #[.agg #[.pointer (some ⟨G + 1, 0, none⟩), .int .i64 g.n, .int .i64 g.p, .int .i64 g.m, .int .i64 g.t, .int .u64 (gen : Nat)], .string s] w fun e w' => e = .returned (.bool (ownsB gen s.data.toList)) ∧ Kept w w' := by
  have X0 := Lib.hid (PlAt.laid w 79 G g gen)
  have K0 : Hid (Kept w (w.alloc (.cells #[.pointer (some ⟨G + 1, 0, none⟩), .int .i64 g.n, .int .i64 g.p, .int .i64 g.m, .int .i64 g.t, .int .u64 (gen : Nat)] 79))) := (Kept.refl _).alloc _
  have HOB : Hid (ownsB gen s.data.toList = match lookR s.data.toList with | some x => decide (x.gen = gen) | none => false) := rfl
  rcases lookR_sect hs with ⟨hz, hl⟩ | ⟨x, hx, hraw, hl⟩
  · have HLK := Lib.hid (fun W => look_zero s hz W)
    rw [hl] at HOB
    unfold lookV Pt.val Pt.none at HLK
    clear hz hl hs
    go_enter Tryz.func62, Tryz.ntmps62
    go_upto_region 1 with fail
    generalize w.alloc (.cells #[.pointer (some ⟨G + 1, 0, none⟩), .int .i64 g.n, .int .i64 g.p, .int .i64 g.m, .int .i64 g.t, .int .u64 (gen : Nat)] 79) = w1 at *
    go_wp2_with fail
    refine (HLK.out _).mono ?_
    rintro e w2 ⟨rfl, hk⟩
    have K2 : Hid (Kept w (w2.alloc (.cells #[.int .u64 0, .int .u64 0, .int .u64 0, .int .u64 0, .int .u32 0, .string ⟨#[]⟩] 104))) := (K0.out.trans hk).alloc _
    clear hk HLK K0
    go_wp2_with fail
    go_ret
    exact ⟨by rw [HOB.out]; rfl, K2.out⟩
  · have HLK := Lib.hid (fun W => look_raw s x hx hraw W)
    rw [hl] at HOB
    have hb : Hid (ownsB gen s.data.toList = decide (x.gen = gen)) := HOB.out
    have HX1 := Lib.hid (fun W => PtAt.laid W 104 x)
    unfold lookV Pt.val at HLK
    clear HOB hl hs hraw hx
    go_enter Tryz.func62, Tryz.ntmps62
    go_upto_region 1 with fail
    generalize w.alloc (.cells #[.pointer (some ⟨G + 1, 0, none⟩), .int .i64 g.n, .int .i64 g.p, .int .i64 g.m, .int .i64 g.t, .int .u64 (gen : Nat)] 79) = w1 at *
    go_wp2_with fail
    refine (HLK.out _).mono ?_
    rintro e w2 ⟨rfl, hk⟩
    have ka : Kept w2 (w2.alloc (.cells #[.int .u64 (x.gen : Nat), .int .u64 (x.num : Nat), .int .u64 (x.idx : Nat), .int .u64 (x.parts : Nat), .int .u32 (x.sum : Nat), .string x.piece] 104)) := (Kept.refl _).alloc _
    have K2 := Lib.hid ((K0.out.trans hk).trans ka)
    have X2 := Lib.hid (X0.out.kept (hk.trans ka))
    have Y2 := Lib.hid (HX1.out w2)
    clear hk ka HLK HX1 X0 K0
    go_upto_region 2 with fail
    generalize w2.alloc (.cells #[.int .u64 (x.gen : Nat), .int .u64 (x.num : Nat), .int .u64 (x.idx : Nat), .int .u64 (x.parts : Nat), .int .u32 (x.sum : Nat), .string x.piece] 104) = w3 at *
    generalize w2.heap.size = q at *
    obtain ⟨c0, c1, c2, c3, c4, c5⟩ := X2.out
    obtain ⟨x0, x1, x2, x3, x4, x5⟩ := Y2.out
    by_cases he : x.gen = gen
    · have e1 : ((x.gen : Int) == (gen : Int)) = true := by rw [he]; simp
      have e2 : (x.gen == gen) = true := by rw [he]; simp
      have e3 : decide (x.gen = gen) = true := decide_eq_true he
      have HR : Hid (ownsB gen s.data.toList = true) := by show _ = _; rw [hb.out, e3]
      clear he hb
      go_wp2_with fail
      go_ret
      refine ⟨?_, K2.out⟩
      rw [HR.out]
      rfl
    · have e1 : ((x.gen : Int) == (gen : Int)) = false := by rw [beq_eq_false_iff_ne]; omega
      have e2 : (x.gen == gen) = false := by rw [beq_eq_false_iff_ne]; exact he
      have e3 : decide (x.gen = gen) = false := decide_eq_false he
      have HR : Hid (ownsB gen s.data.toList = false) := by show _ = _; rw [hb.out, e3]
      clear he hb
      go_wp2_with fail
      go_ret
      refine ⟨?_, K2.out⟩
      rw [HR.out]
      rfl
/-- Where the look at what is wrong stands. -/
inductive WR where
  | go (has beh : List Int)
  | down
noncomputable def wStep (must : List ByteArray) (gen : Nat) (rd : Nat → Nat × ByteArray) (r : WR) (i : Nat) : WR :=
  match r with
  | .go has beh => if (rd i).1 = 71 then .down else if must.length ≤ i then (if (rd i).1 ≠ 0 ∨ ownsB gen (rd i).2.data.toList = true then .go has (beh ++ [(i : Int)]) else .go has beh)
      else if (rd i).2 = must.getD i ByteArray.empty then .go has beh else .go (has ++ [(i : Int)]) beh
  | .down => .down
noncomputable def wL (must : List ByteArray) (gen : Nat) (rd : Nat → Nat × ByteArray) (l : List Nat) : WR := l.foldl (wStep must gen rd) (.go [] [])
theorem wL_snoc (must : List ByteArray) (gen : Nat) (rd : Nat → Nat × ByteArray) (l : List Nat) (i : Nat) : wL must gen rd (l ++ [i]) = wStep must gen rd (wL must gen rd l) i := by unfold wL; rw [List.foldl_append]; rfl
def wRes : WR → Nat × List Int
  | .go has beh => (0, beh ++ has.reverse)
  | .down => (71, [])
/-- What is wrong with a drive's sectors: why that can't be told, or which, in the order in which they are mended. -/
noncomputable def wAll (must : List ByteArray) (gen : Nat) (rd : Nat → Nat × ByteArray) (n : Nat) : Nat × List Int := wRes (wL must gen rd (List.range n))
theorem wL_down (must : List ByteArray) (gen : Nat) (rd : Nat → Nat × ByteArray) (q : Nat) (h : wL must gen rd (List.range q) = .down) : ∀ n, q ≤ n → wL must gen rd (List.range n) = .down
  | n, hn => by
    by_cases e : q = n
    · rw [← e]; exact h
    · obtain ⟨m, rfl⟩ : ∃ m, n = m + 1 := ⟨n - 1, by omega⟩
      have ih := wL_down must gen rd q h m (by omega)
      rw [List.range_succ, wL_snoc, ih]
      rfl
theorem wF_len (must : List ByteArray) (gen : Nat) (rd : Nat → Nat × ByteArray) : ∀ (l : List Nat) (r : WR) (k : Nat), (∀ has beh, r = .go has beh → has.length + beh.length ≤ k) → ∀ has beh, l.foldl (wStep must gen rd) r = .go has beh → has.length + beh.length ≤ k + l.length
  | [], r, k, h, has, beh, e => h has beh e
  | i :: l, r, k, h, has, beh, e => by
    rw [List.foldl_cons] at e
    have := wF_len must gen rd l (wStep must gen rd r i) (k + 1) (fun a b hab => by
      cases r with
      | down => cases hab
      | go a' b' =>
        have h1 := h a' b' rfl
        unfold wStep at hab
        simp only at hab
        split at hab
        · cases hab
        · split at hab
          · split at hab
            · cases hab; simp; omega
            · cases hab; omega
          · split at hab
            · cases hab; omega
            · cases hab; simp; omega) has beh e
    rw [List.length_cons]; omega
theorem wL_len (must : List ByteArray) (gen : Nat) (rd : Nat → Nat × ByteArray) (l : List Nat) (has beh : List Int) (h : wL must gen rd l = .go has beh) : has.length + beh.length ≤ l.length := by
  have := wF_len must gen rd l (.go [] []) 0 (fun a b e => by cases e; simp) has beh h
  omega
def rdB (s : RSt) (d f : Int) (i : Nat) : Nat × ByteArray := (s.readE d (f + (i : Nat)), s.readT d (f + (i : Nat)))
end Go.Proofs.YtmgkkoajjdgmbaaGreatDoor
