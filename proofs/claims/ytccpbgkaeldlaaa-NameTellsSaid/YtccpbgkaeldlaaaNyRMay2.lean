/- Which keys may be: the document's, whatever the key. -/
import Derived.Test.YtccpbgkaeldlaaaNyRMay
namespace Go.Proofs.Ytccpbgkaeldlaaa
open Go.RowKit _root_.Go.Proofs.Ytccpbgkaeldlaaa.Nm Ny
set_option linter.unusedVariables false
set_option linter.unusedSimpArgs false
theorem bkt_empty {a : ByteArray} (h : a.toList.isEmpty = true) : bktB a.data.toList = false := by
  rw [str_nil] at h
  exact bkt_len (by rw [list_size]; simp at h; rw [h]; simp)
theorem mayK_bits (k : Key) : mayK k = (isK k.kd && (if hasB k.kd then bktB k.bk.data.toList else k.bk.toList.isEmpty) && (if hasM k.kd then (!k.nm.toList.isEmpty && !decide ((200 : Int) < k.nm.size)) else k.nm.toList.isEmpty) && (hasN k.kd || !((k.n : Int) != 0)) && (if hasP k.kd then decide (1 ≤ k.pt) && decide (k.pt ≤ 1000) else (k.pt == 0))) := by
  rw [mayK_of k _ _ _ _ _ rfl rfl rfl rfl rfl, str_nil, str_nil]
  have e1 : objB k.nm.size = (!decide (k.nm.size = 0) && !decide ((200 : Int) < k.nm.size)) := by
    unfold objB
    rw [Bool.eq_iff_iff]
    simp only [Bool.and_eq_true, decide_eq_true_eq, Bool.not_eq_true', decide_eq_false_iff_not]
    omega
  have e2 : decide (k.n = 0) = !((k.n : Int) != 0) := by
    rw [Bool.eq_iff_iff]
    simp
  have e3 : decide (k.pt = 0) = (k.pt == 0) := by
    rw [Bool.eq_iff_iff]
    simp
  rw [e1, e2, e3]
theorem rMay_any (k : Key) (w : World) (hk : k.Wf) :
    Calls Try.prog 19 #[k.val] w fun e w' => e = .returned (.bool (mayK k)) ∧ Kept w w' := by
  have hm := mayK_bits k
  have hz : k.bk.toList.isEmpty = true → bktB k.bk.data.toList = false := bkt_empty
  have hz2 : k.nm.toList.isEmpty = true → decide ((200 : Int) < k.nm.size) = false := fun h => by
    rw [str_nil] at h
    simp only [decide_eq_true_eq] at h
    exact decide_eq_false (by omega)
  obtain ⟨kd, bk, nm, n, pt⟩ := k
  have b1 := hk.bk
  have b2 := hk.nm
  unfold Key.val
  dsimp only at *
  by_cases hi : isK kd = false
  · rw [hm, hi]
    exact rMay_low kd bk nm n pt w hi
  · have hkd : kd = 1 ∨ kd = 2 ∨ kd = 3 ∨ kd = 4 ∨ kd = 5 ∨ kd = 6 := by
      unfold isK at hi
      simp only [Bool.not_eq_false, Bool.and_eq_true, decide_eq_true_eq] at hi
      omega
    clear hi hk
    rcases hkd with rfl | rfl | rfl | rfl | rfl | rfl
    · refine rMay_1 bk nm n pt w _ _ _ _ _ _ _ _ _ b1 b2 rfl rfl rfl rfl rfl rfl rfl rfl ?_
      rw [show isK 1 = true from rfl, show hasB 1 = false from rfl, show hasM 1 = false from rfl, show hasN 1 = false from rfl, show hasP 1 = false from rfl] at hm
      rw [hm]
      clear hm b1 b2
      generalize bktB bk.data.toList = v1 at *
      generalize bk.toList.isEmpty = v2 at *
      generalize nm.toList.isEmpty = v3 at *
      generalize decide ((200 : Int) < nm.size) = v4 at *
      generalize ((n : Int) != 0) = v5 at *
      generalize (pt == 0) = v6 at *
      generalize decide (1 ≤ pt) = v7 at *
      generalize decide (pt ≤ 1000) = v8 at *
      cases v1 <;> cases v2 <;> cases v3 <;> cases v4 <;> cases v5 <;> cases v6 <;> cases v7 <;> cases v8 <;> simp_all
    · refine rMay_2 bk nm n pt w _ _ _ _ _ _ _ _ _ b1 b2 rfl rfl rfl rfl rfl rfl rfl rfl ?_
      rw [show isK 2 = true from rfl, show hasB 2 = true from rfl, show hasM 2 = false from rfl, show hasN 2 = false from rfl, show hasP 2 = false from rfl] at hm
      rw [hm]
      clear hm b1 b2
      generalize bktB bk.data.toList = v1 at *
      generalize bk.toList.isEmpty = v2 at *
      generalize nm.toList.isEmpty = v3 at *
      generalize decide ((200 : Int) < nm.size) = v4 at *
      generalize ((n : Int) != 0) = v5 at *
      generalize (pt == 0) = v6 at *
      generalize decide (1 ≤ pt) = v7 at *
      generalize decide (pt ≤ 1000) = v8 at *
      cases v1 <;> cases v2 <;> cases v3 <;> cases v4 <;> cases v5 <;> cases v6 <;> cases v7 <;> cases v8 <;> simp_all
    · refine rMay_3 bk nm n pt w _ _ _ _ _ _ _ _ _ b1 b2 rfl rfl rfl rfl rfl rfl rfl rfl ?_
      rw [show isK 3 = true from rfl, show hasB 3 = true from rfl, show hasM 3 = true from rfl, show hasN 3 = true from rfl, show hasP 3 = false from rfl] at hm
      rw [hm]
      clear hm b1 b2
      generalize bktB bk.data.toList = v1 at *
      generalize bk.toList.isEmpty = v2 at *
      generalize nm.toList.isEmpty = v3 at *
      generalize decide ((200 : Int) < nm.size) = v4 at *
      generalize ((n : Int) != 0) = v5 at *
      generalize (pt == 0) = v6 at *
      generalize decide (1 ≤ pt) = v7 at *
      generalize decide (pt ≤ 1000) = v8 at *
      cases v1 <;> cases v2 <;> cases v3 <;> cases v4 <;> cases v5 <;> cases v6 <;> cases v7 <;> cases v8 <;> simp_all
    · refine rMay_4 bk nm n pt w _ _ _ _ _ _ _ _ _ b1 b2 rfl rfl rfl rfl rfl rfl rfl rfl ?_
      rw [show isK 4 = true from rfl, show hasB 4 = true from rfl, show hasM 4 = false from rfl, show hasN 4 = true from rfl, show hasP 4 = false from rfl] at hm
      rw [hm]
      clear hm b1 b2
      generalize bktB bk.data.toList = v1 at *
      generalize bk.toList.isEmpty = v2 at *
      generalize nm.toList.isEmpty = v3 at *
      generalize decide ((200 : Int) < nm.size) = v4 at *
      generalize ((n : Int) != 0) = v5 at *
      generalize (pt == 0) = v6 at *
      generalize decide (1 ≤ pt) = v7 at *
      generalize decide (pt ≤ 1000) = v8 at *
      cases v1 <;> cases v2 <;> cases v3 <;> cases v4 <;> cases v5 <;> cases v6 <;> cases v7 <;> cases v8 <;> simp_all
    · refine rMay_5 bk nm n pt w _ _ _ _ _ _ _ _ _ b1 b2 rfl rfl rfl rfl rfl rfl rfl rfl ?_
      rw [show isK 5 = true from rfl, show hasB 5 = true from rfl, show hasM 5 = false from rfl, show hasN 5 = true from rfl, show hasP 5 = true from rfl] at hm
      rw [hm]
      clear hm b1 b2
      generalize bktB bk.data.toList = v1 at *
      generalize bk.toList.isEmpty = v2 at *
      generalize nm.toList.isEmpty = v3 at *
      generalize decide ((200 : Int) < nm.size) = v4 at *
      generalize ((n : Int) != 0) = v5 at *
      generalize (pt == 0) = v6 at *
      generalize decide (1 ≤ pt) = v7 at *
      generalize decide (pt ≤ 1000) = v8 at *
      cases v1 <;> cases v2 <;> cases v3 <;> cases v4 <;> cases v5 <;> cases v6 <;> cases v7 <;> cases v8 <;> simp_all
    · refine rMay_6 bk nm n pt w _ _ _ _ _ _ _ _ _ b1 b2 rfl rfl rfl rfl rfl rfl rfl rfl ?_
      rw [show isK 6 = true from rfl, show hasB 6 = false from rfl, show hasM 6 = false from rfl, show hasN 6 = true from rfl, show hasP 6 = false from rfl] at hm
      rw [hm]
      clear hm b1 b2
      generalize bktB bk.data.toList = v1 at *
      generalize bk.toList.isEmpty = v2 at *
      generalize nm.toList.isEmpty = v3 at *
      generalize decide ((200 : Int) < nm.size) = v4 at *
      generalize ((n : Int) != 0) = v5 at *
      generalize (pt == 0) = v6 at *
      generalize decide (1 ≤ pt) = v7 at *
      generalize decide (pt ≤ 1000) = v8 at *
      cases v1 <;> cases v2 <;> cases v3 <;> cases v4 <;> cases v5 <;> cases v6 <;> cases v7 <;> cases v8 <;> simp_all
end Go.Proofs.Ytccpbgkaeldlaaa
