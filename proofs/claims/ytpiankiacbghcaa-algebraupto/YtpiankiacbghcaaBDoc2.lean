/-
  The document's answer: Compose.
  The document's answer: Transform.
-/
import Derived.Test.YtpiankiacbghcaaBGlue
import Derived.Test.YtpiankiacbghcaaBThen2
import Derived.Test.YtpiankiacbghcaaBBeh1
import Derived.Test.YtpiankiacbghcaaBBeh2
namespace Go.Proofs.Ytpiankiacbghcaa
open Go.RowKit

set_option maxHeartbeats 1000000 in
set_option maxRecDepth 100000 in
theorem rCompose_err1 (QA QB : List Qt) (n : Int) (hL : QA.length ≤ 9223372036854775806) (hr : ∀ q ∈ QA, q.text.length ≤ 1000000000) (hn1 : -9223372036854775808 ≤ n) (hn2 : n ≤ 9223372036854775807) (he : errQ QA n ≠ 0) :
    CompSays false 65 QA QB n [] (errQ QA n) := by
  intro w v v' hp _ hp' _
  have HP : Hid (QsAt w v QA ∧ ∀ q ∈ QA, q.text.length ≤ 1000000000) := ⟨hp, hr⟩
  obtain ⟨ao, cap, rfl, hc⟩ := hp
  obtain ⟨ao', cap', rfl, hc'⟩ := hp'
  have hb : (errQ QA n != 0) = true := by rw [bne_iff_ne]; exact he
  obtain ⟨E, hE⟩ : ∃ E, E = errQ QA n := ⟨_, rfl⟩
  have HE : Hid (E = errQ QA n ∧ errQ QA n ≠ 0) := ⟨hE, he⟩
  rw [← hE] at hb ⊢
  clear hc hc' hr he hE
  go_enter Try.func65, Try.ntmps65
  go_wp2_with fail
  refine (Read_err _ QA n _ HP.out.1 hL HP.out.2 hn1 hn2 HE.out.2).mono ?_
  rintro e w1 ⟨rfl, hb1⟩
  rw [← HE.out.1]
  go_wp2
  go_ret2
  exact ⟨_, rfl, nil_own _ _, .inl rfl, (fun h => by cases h), hb1.alloc hb1.size _⟩

set_option maxHeartbeats 1000000 in
set_option maxRecDepth 100000 in
theorem rCompose_err2 (A : List Pt) (us : List Un) (QB : List Qt) (n m : Nat) (hok : OpU A us n) (hf : tlen A ≤ 2000000) (he0 : errQ (A.map Pt.q) n = 0) (ht : ∀ p ∈ A, isText p.text = true) (hm : m + inU us = n + outU us) (hL : QB.length ≤ 9223372036854775806) (hr : ∀ q ∈ QB, q.text.length ≤ 1000000000) (he : errQ QB m ≠ 0) :
    CompSays false 65 (A.map Pt.q) QB n [] (errQ QB m) := by
  intro w v v' hp _ hp' _
  have HP : Hid (QsAt w v (A.map Pt.q) ∧ OpU A us n ∧ tlen A ≤ 2000000 ∧ errQ (A.map Pt.q) n = 0 ∧ (∀ p ∈ A, isText p.text = true) ∧ (∀ q ∈ A.map Pt.q, q.text.length ≤ 1000000000) ∧ QsAt w v' QB ∧ (∀ q ∈ QB, q.text.length ≤ 1000000000) ∧ m + inU us = n + outU us) := ⟨hp, hok, hf, he0, ht, fun q hq => by
    obtain ⟨p, hp, rfl⟩ := List.mem_map.1 hq
    exact (hok.ok.texts p hp).2, hp', hr, hm⟩
  have hn := hok.small
  have hmb : m ≤ 1000000000 := by
    have h1 := hok.bytes
    have h2 := hok.fits
    have h3 : outU us ≤ inU us + bytesU us := by
      have hu := hok.reads.ok
      clear hp hp' HP he he0 hm
      generalize us = l at hu
      induction l with
      | nil => simp [outU]
      | cons u l ih =>
        have := ih hu.tail
        cases u with
        | k => simp only [outU, inU, bytesU]; omega
        | d => simp only [outU, inU, bytesU]; omega
        | i c => have h1 := (hu (.i c) (by simp) : IsCh c).1; simp only [outU, inU, bytesU]; omega
    omega
  obtain ⟨ao, cap, rfl, hc⟩ := hp
  obtain ⟨ao', cap', rfl, hc'⟩ := hp'
  rw [List.length_map] at HP ⊢
  have hb : (errQ QB m != 0) = true := by rw [bne_iff_ne]; exact he
  obtain ⟨E, hE⟩ : ∃ E, E = errQ QB m := ⟨_, rfl⟩
  have HE : Hid (E = errQ QB m ∧ errQ QB m ≠ 0) := ⟨hE, he⟩
  rw [← hE] at hb ⊢
  clear hc hc' hr he hE hok hf he0 ht hm
  go_enter Try.func65, Try.ntmps65
  go_wp2_with fail
  refine (Read_ok _ A n _ HP.out.1 HP.out.2.1.ok HP.out.2.2.1 HP.out.2.2.2.1 HP.out.2.2.2.2.2.1).mono ?_
  rintro e w1 ⟨gv, iv, G, X, rfl, hd, hld, hb1⟩
  have HDO : Hid (DocOp us n G (settR G X)) := docOp_of hld HP.out.2.1.ok.right HP.out.2.2.2.2.1 HP.out.2.1.reads HP.out.2.2.1
  have HD : Hid (DoesAt w.heap.size w1 gv iv G (settR G X) ∧ Below w.heap.size w w1) := ⟨hd, hb1⟩
  obtain ⟨ag, cg, rfl, _⟩ := gone_form hd.gone
  obtain ⟨Vs, hI⟩ := hd.ins
  obtain ⟨gi, ci, _, rfl, _⟩ := hI.form (by rw [HDO.out.xl]; omega)
  clear hd hld hb1 hI
  have HB : Hid (Below w1.heap.size w1 (w1.alloc (.cells #[.slice ag G.length cg, .slice (some ⟨gi, 0, none⟩) (settR G X).length ci] 129))) := (Below.refl _ _).alloc (Nat.le_refl _) _
  have hleft := HDO.out.left HP.out.2.1.reads.ok HP.out.2.1.fits HP.out.2.2.2.2.2.2.2.2
  have HLF : Hid (keptN G + total (settR G X) = m) := hleft.1
  clear hleft
  go_wp2_with fail
  refine (Left_any w.heap.size _ _ G (settR G X) _ (HD.out.1.below HB.out (Nat.le_refl _)) (by have := HDO.out.gl; omega) HDO.out.xl (by have := HDO.out.tot; omega)).mono ?_
  rintro e w2 ⟨rfl, hb2⟩
  rw [HLF.out]
  have HB2 : Hid (Below w.heap.size w w2) := (HD.out.2.trans (HB.out.mono HD.out.2.size)).trans (hb2.mono (Nat.le_trans HD.out.2.size HB.out.size))
  clear hb2
  go_wp2_with fail
  refine (Read_err _ QB m _ (HP.out.2.2.2.2.2.2.1.below HB2.out (Nat.le_refl _)) hL HP.out.2.2.2.2.2.2.2.1 (by omega) (by omega) HE.out.2).mono ?_
  rintro e w3 ⟨rfl, hb3⟩
  rw [← HE.out.1]
  have HB3 : Hid (Below w.heap.size w w3) := HB2.out.trans (hb3.mono HB2.out.size)
  clear hb3
  go_wp2
  go_ret2
  exact ⟨_, rfl, nil_own _ _, .inl rfl, (fun h => by cases h), HB3.out.alloc HB3.out.size _⟩

set_option maxHeartbeats 1000000 in
set_option maxRecDepth 100000 in
theorem rCompose_ok (A B : List Pt) (us vs : List Un) (n m : Nat) (hok : OpU A us n) (hf : tlen A ≤ 2000000) (he0 : errQ (A.map Pt.q) n = 0) (ht : ∀ p ∈ A, isText p.text = true) (hm : m + inU us = n + outU us)
    (hok' : OpU B vs m) (hf' : tlen B ≤ 2000000) (he0' : errQ (B.map Pt.q) m = 0) (ht' : ∀ p ∈ B, isText p.text = true) :
    CompSays false 65 (A.map Pt.q) (B.map Pt.q) n (normU (compU us vs)) 0 := by
  intro w v v' hp _ hp' _
  have HP : Hid (QsAt w v (A.map Pt.q) ∧ OpU A us n ∧ tlen A ≤ 2000000 ∧ errQ (A.map Pt.q) n = 0 ∧ (∀ p ∈ A, isText p.text = true) ∧ (∀ q ∈ A.map Pt.q, q.text.length ≤ 1000000000) ∧ m + inU us = n + outU us) := ⟨hp, hok, hf, he0, ht, fun q hq => by
    obtain ⟨p, hp, rfl⟩ := List.mem_map.1 hq
    exact (hok.ok.texts p hp).2, hm⟩
  have HP' : Hid (QsAt w v' (B.map Pt.q) ∧ OpU B vs m ∧ tlen B ≤ 2000000 ∧ errQ (B.map Pt.q) m = 0 ∧ (∀ p ∈ B, isText p.text = true) ∧ (∀ q ∈ B.map Pt.q, q.text.length ≤ 1000000000)) := ⟨hp', hok', hf', he0', ht', fun q hq => by
    obtain ⟨p, hp, rfl⟩ := List.mem_map.1 hq
    exact (hok'.ok.texts p hp).2⟩
  have hn := hok.small
  have hmb := hok'.small
  obtain ⟨ao, cap, rfl, hc⟩ := hp
  obtain ⟨ao', cap', rfl, hc'⟩ := hp'
  rw [List.length_map] at HP HP' ⊢
  rw [List.length_map]
  clear hc hc' hok hf he0 ht hm hok' hf' he0' ht'
  go_enter Try.func65, Try.ntmps65
  go_wp2_with fail
  refine (Read_ok _ A n _ HP.out.1 HP.out.2.1.ok HP.out.2.2.1 HP.out.2.2.2.1 HP.out.2.2.2.2.2.1).mono ?_
  rintro e w1 ⟨gv, iv, G, X, rfl, hd, hld, hb1⟩
  have HDO : Hid (DocOp us n G (settR G X)) := docOp_of hld HP.out.2.1.ok.right HP.out.2.2.2.2.1 HP.out.2.1.reads HP.out.2.2.1
  obtain ⟨Y, hY⟩ : ∃ Y, Y = settR G X := ⟨_, rfl⟩
  rw [← hY] at HDO hd
  have HD : Hid (DoesAt w.heap.size w1 gv iv G Y ∧ Below w.heap.size w w1) := ⟨hd, hb1⟩
  obtain ⟨ag, cg, rfl, _⟩ := gone_form hd.gone
  obtain ⟨Vs, hI⟩ := hd.ins
  obtain ⟨gi, ci, _, rfl, _⟩ := hI.form (by rw [HDO.out.xl]; omega)
  clear hd hld hb1 hI hY
  have HB : Hid (Below w1.heap.size w1 (w1.alloc (.cells #[.slice ag G.length cg, .slice (some ⟨gi, 0, none⟩) Y.length ci] 129))) := (Below.refl _ _).alloc (Nat.le_refl _) _
  have hleft := HDO.out.left HP.out.2.1.reads.ok HP.out.2.1.fits HP.out.2.2.2.2.2.2
  have HLF : Hid (keptN G + total Y = m ∧ outU (unitsN G Y) = m) := hleft
  clear hleft
  go_wp2_with fail
  refine (Left_any w.heap.size _ _ G Y _ (HD.out.1.below HB.out (Nat.le_refl _)) (by have := HDO.out.gl; omega) HDO.out.xl (by have := HDO.out.tot; omega)).mono ?_
  rintro e w2 ⟨rfl, hb2⟩
  rw [HLF.out.1]
  have hbx := (hb2.block w1.heap.size (by simp)).trans (heap_alloc_new w1 _)
  have HB2 : Hid (Below w.heap.size w w2 ∧ DoesAt w.heap.size w2 (.slice ag G.length cg) (.slice (some ⟨gi, 0, none⟩) Y.length ci) G Y ∧ w2.heap[w1.heap.size]? = some (.cells #[.slice ag G.length cg, .slice (some ⟨gi, 0, none⟩) Y.length ci] 129 (0, 0))) := ⟨(HD.out.2.trans (HB.out.mono HD.out.2.size)).trans (hb2.mono (Nat.le_trans HD.out.2.size HB.out.size)), (HD.out.1.below HB.out (Nat.le_refl _)).below hb2 (Nat.le_refl _), hbx⟩
  clear hb2 HB hbx HD
  go_wp2_with fail
  refine (Read_ok _ B m _ (HP'.out.1.below HB2.out.1 (Nat.le_refl _)) HP'.out.2.1.ok HP'.out.2.2.1 HP'.out.2.2.2.1 HP'.out.2.2.2.2.2).mono ?_
  rintro e w3 ⟨gv3, iv3, G3, X3, rfl, hd3, hld3, hb3⟩
  have HDO3 : Hid (DocOp vs m G3 (settR G3 X3)) := docOp_of hld3 HP'.out.2.1.ok.right HP'.out.2.2.2.2.1 HP'.out.2.1.reads HP'.out.2.2.1
  obtain ⟨Y3, hY3⟩ : ∃ Y, Y = settR G3 X3 := ⟨_, rfl⟩
  rw [← hY3] at HDO3 hd3
  obtain ⟨ag3, cg3, rfl, _⟩ := gone_form hd3.gone
  obtain ⟨Vs3, hI3⟩ := hd3.ins
  obtain ⟨gi3, ci3, _, rfl, _⟩ := hI3.form (by rw [HDO3.out.xl]; omega)
  have HD3 : Hid (DoesAt w.heap.size w3 (.slice ag3 G3.length cg3) (.slice (some ⟨gi3, 0, none⟩) Y3.length ci3) G3 Y3 ∧ DoesAt w.heap.size w3 (.slice ag G.length cg) (.slice (some ⟨gi, 0, none⟩) Y.length ci) G Y ∧ Below w.heap.size w w3) := ⟨hd3.lower HB2.out.1.size, HB2.out.2.1.below hb3 (Nat.le_refl _), HB2.out.1.trans (hb3.mono HB2.out.1.size)⟩
  have hx3 := (hb3.block _ (lt_of_blk HB2.out.2.2)).trans HB2.out.2.2
  have c0 : w3.cell? ⟨w1.heap.size, 0, none⟩ = some (.slice ag G.length cg) := Lib.cell_of_heap hx3 0
  have c1 : w3.cell? ⟨w1.heap.size, 1, none⟩ = some (.slice (some ⟨gi, 0, none⟩) Y.length ci) := Lib.cell_of_heap hx3 1
  have hl3 := lt_of_blk hx3
  have HBN : Hid (Below w3.heap.size w3 (w3.alloc (.cells #[.slice ag3 G3.length cg3, .slice (some ⟨gi3, 0, none⟩) Y3.length ci3] 129))) := (Below.refl _ _).alloc (Nat.le_refl _) _
  have HW : Hid (OkU (compU (unitsN G Y) (unitsN G3 Y3)) ∧ bytesU (compU (unitsN G Y) (unitsN G3 Y3)) ≤ 4000000) := by_hid (by
    have o1 := unitsN_ok G Y HDO.out.ch
    have o2 := unitsN_ok G3 Y3 HDO3.out.ch
    have h1 := compU_bytes (unitsN G Y) (unitsN G3 Y3)
    have h2 := HDO.out.byt
    have h3 := HDO3.out.byt
    exact ⟨compU_ok _ _ o1 o2, by omega⟩)
  clear hd3 hld3 hI3 hb3 hx3 hY3 HB2
  go_wp2_with fail
  refine (then_any w.heap.size _ _ _ _ G G3 Y Y3 _ (HD3.out.2.1.below HBN.out (Nat.le_refl _)) (HD3.out.1.below HBN.out (Nat.le_refl _)) (by have := HDO.out.gl; omega) HDO.out.xl HDO3.out.xl (by have := HDO3.out.gl; omega) HW.out.1 (by have := HW.out.2; omega) (by rw [HDO3.out.gl]; exact HLF.out.2) (by have := HDO.out.tot; omega)).mono ?_
  rintro e w4 ⟨gv4, iv4, G4, X4, rfl, hd4, hu4, hg4, hx4, hb4⟩
  have HU : Hid (unitsN G4 X4 = compU (unitsN G Y) (unitsN G3 Y3) ∧ X4.length = G4.length + 1 ∧ G4.length ≤ 1000000) := ⟨hu4, hx4, by have := HDO.out.gl; omega⟩
  have HSZ : Hid (Sizes G4 X4 ∧ Sizes G4 (settR G4 X4) ∧ Sizes G4 (settR G4 (settR G4 X4))) := sizes_units hx4 (by have := HU.out.2.2; omega) (by rw [hu4]; exact HW.out.1) (by rw [hu4]; have := HW.out.2; omega)
  have HPD : Hid (dropKeep ((units G4 (settR G4 (settR G4 X4))).foldl withP []) = normU (compU us vs)) := parts_doc hx4 (by rw [hu4]; exact HW.out.1) (comp_doc HDO.out.ch HDO3.out.ch HP.out.2.1.reads.ok HP'.out.2.1.reads.ok HDO.out.nrm HDO3.out.nrm hu4)
  obtain ⟨ag4, cg4, rfl, _⟩ := gone_form hd4.gone
  obtain ⟨Vs4, hI4⟩ := hd4.ins
  obtain ⟨gi4, ci4, _, rfl, _⟩ := hI4.form (by rw [settR_length G4 X4 hx4]; omega)
  have HD4 : Hid (DoesAt w3.heap.size w4 (.slice ag4 G4.length cg4) (.slice (some ⟨gi4, 0, none⟩) (settR G4 X4).length ci4) G4 (settR G4 X4) ∧ Below w.heap.size w w4) := ⟨hd4.lower (by simp), (HD3.out.2.2.trans (HBN.out.mono HD3.out.2.2.size)).trans (hb4.mono (by have := HD3.out.2.2.size; simp; omega))⟩
  clear hd4 hI4 hb4 hu4 hg4 hx4 c0 c1
  go_wp2_with fail
  refine (rParts_any w3.heap.size _ _ G4 (settR G4 X4) _ HD4.out.1 HSZ.out.2.1 HSZ.out.2.2).mono ?_
  rintro e w5 ⟨r, rfl, hrow, hb5⟩
  rw [HPD.out] at hrow
  have HF : Hid (w5.ownsRow w.heap.size 45 3 r (normU (compU us vs)).length (rowOf (normU (compU us vs))) ∧ Below w.heap.size w w5) := ⟨own_base hrow HD4.out.2.size, HD4.out.2.trans (hb5.mono HD4.out.2.size)⟩
  clear hrow hb5
  go_wp2
  go_ret2
  exact ⟨_, rfl, HF.out.1, by simp, (fun h => by cases h), HF.out.2⟩

set_option maxHeartbeats 1000000 in
set_option maxRecDepth 100000 in
theorem rTransform_err1 (QA QB : List Qt) (n : Int) (hL : QA.length ≤ 9223372036854775806) (hr : ∀ q ∈ QA, q.text.length ≤ 1000000000) (hn1 : -9223372036854775808 ≤ n) (hn2 : n ≤ 9223372036854775807) (he : errQ QA n ≠ 0) :
    TraSays false 66 QA QB n [] [] (errQ QA n) := by
  intro w v v' hp _ hp' _
  have HP : Hid (QsAt w v QA ∧ ∀ q ∈ QA, q.text.length ≤ 1000000000) := ⟨hp, hr⟩
  obtain ⟨ao, cap, rfl, hc⟩ := hp
  obtain ⟨ao', cap', rfl, hc'⟩ := hp'
  have hb : (errQ QA n != 0) = true := by rw [bne_iff_ne]; exact he
  obtain ⟨E, hE⟩ : ∃ E, E = errQ QA n := ⟨_, rfl⟩
  have HE : Hid (E = errQ QA n ∧ errQ QA n ≠ 0) := ⟨hE, he⟩
  rw [← hE] at hb ⊢
  clear hc hc' hr he hE
  go_enter Try.func66, Try.ntmps66
  go_wp2_with fail
  refine (Read_err _ QA n _ HP.out.1 hL HP.out.2 hn1 hn2 HE.out.2).mono ?_
  rintro e w1 ⟨rfl, hb1⟩
  rw [← HE.out.1]
  go_wp2
  exact bodyPost_ret (v := .tuple #[.slice none 0 0, .slice none 0 0, .int .i64 E]) (by simp [results, Try.results66, go_sem]) rfl ⟨_, _, rfl, ⟨nil_own _ _, nil_own _ _, fun g hg => by cases hg⟩, .inl ⟨rfl, rfl⟩, (fun h => by cases h), hb1.alloc hb1.size _⟩

set_option maxHeartbeats 1000000 in
set_option maxRecDepth 100000 in
theorem rTransform_err2 (A : List Pt) (us : List Un) (QB : List Qt) (n : Nat) (hok : OpU A us n) (hf : tlen A ≤ 2000000) (he0 : errQ (A.map Pt.q) n = 0) (hL : QB.length ≤ 9223372036854775806) (hr : ∀ q ∈ QB, q.text.length ≤ 1000000000) (he : errQ QB n ≠ 0) :
    TraSays false 66 (A.map Pt.q) QB n [] [] (errQ QB n) := by
  intro w v v' hp _ hp' _
  have HP : Hid (QsAt w v (A.map Pt.q) ∧ OpU A us n ∧ tlen A ≤ 2000000 ∧ errQ (A.map Pt.q) n = 0 ∧ (∀ q ∈ A.map Pt.q, q.text.length ≤ 1000000000) ∧ QsAt w v' QB ∧ (∀ q ∈ QB, q.text.length ≤ 1000000000)) := ⟨hp, hok, hf, he0, fun q hq => by
    obtain ⟨p, hp, rfl⟩ := List.mem_map.1 hq
    exact (hok.ok.texts p hp).2, hp', hr⟩
  have hn := hok.small
  obtain ⟨ao, cap, rfl, hc⟩ := hp
  obtain ⟨ao', cap', rfl, hc'⟩ := hp'
  rw [List.length_map] at HP ⊢
  have hb : (errQ QB n != 0) = true := by rw [bne_iff_ne]; exact he
  obtain ⟨E, hE⟩ : ∃ E, E = errQ QB n := ⟨_, rfl⟩
  have HE : Hid (E = errQ QB n ∧ errQ QB n ≠ 0) := ⟨hE, he⟩
  rw [← hE] at hb ⊢
  clear hc hc' hr he hE hok hf he0
  go_enter Try.func66, Try.ntmps66
  go_wp2_with fail
  refine (Read_ok _ A n _ HP.out.1 HP.out.2.1.ok HP.out.2.2.1 HP.out.2.2.2.1 HP.out.2.2.2.2.1).mono ?_
  rintro e w1 ⟨gv, iv, G, X, rfl, hd, hld, hb1⟩
  have HD : Hid (Below w.heap.size w w1 ∧ X.length = G.length + 1) := ⟨hb1, by rw [hld.xl, hld.gl]⟩
  obtain ⟨ag, cg, rfl, _⟩ := gone_form hd.gone
  obtain ⟨Vs, hI⟩ := hd.ins
  obtain ⟨gi, ci, _, rfl, _⟩ := hI.form (by rw [settR_length G X HD.out.2]; omega)
  have HB : Hid (Below w.heap.size w (w1.alloc (.cells #[.slice ag G.length cg, .slice (some ⟨gi, 0, none⟩) (settR G X).length ci] 129))) := HD.out.1.alloc HD.out.1.size _
  clear hd hld hb1 hI
  go_wp2_with fail
  refine (Read_err _ QB n _ (HP.out.2.2.2.2.2.1.below HB.out (Nat.le_refl _)) hL HP.out.2.2.2.2.2.2 (by omega) (by omega) HE.out.2).mono ?_
  rintro e w3 ⟨rfl, hb3⟩
  rw [← HE.out.1]
  have HB3 : Hid (Below w.heap.size w w3) := HB.out.trans (hb3.mono HB.out.size)
  clear hb3
  go_wp2
  exact bodyPost_ret (v := .tuple #[.slice none 0 0, .slice none 0 0, .int .i64 E]) (by simp [results, Try.results66, go_sem]) rfl ⟨_, _, rfl, ⟨nil_own _ _, nil_own _ _, fun g hg => by cases hg⟩, .inl ⟨rfl, rfl⟩, (fun h => by cases h), HB3.out.alloc HB3.out.size _⟩

/-- what comes of behind, ahead of Parts. -/
structure BehDone (w w' : World) (gv iv : Value) (G : List Bool) (X : List (List (List UInt8))) (N : List Pt) : Prop where
  does : DoesAt w.heap.size w' gv iv G (settR G X)
  sz1 : Sizes G (settR G X)
  sz2 : Sizes G (settR G (settR G X))
  nrm : dropKeep ((units G (settR G (settR G X))).foldl withP []) = N
  below : Below w.heap.size w w'

theorem BehDone.below' {w w' : World} {gv iv : Value} {G : List Bool} {X : List (List (List UInt8))} {N : List Pt} (h : BehDone w.drew w' gv iv G X N) : Below w.heap.size w w' := (Below.refl _ _).drew.trans h.below

theorem BehDone.parts {w w' : World} {gv iv : Value} {G : List Bool} {X : List (List (List UInt8))} {N : List Pt} (h : BehDone w w' gv iv G X N) :
    Calls Try.prog 75 #[.agg #[gv, iv]] w' fun e w2 => ∃ r, e = .returned r ∧ w2.ownsRow w'.heap.size 45 3 r N.length (rowOf N) ∧ Below w'.heap.size w' w2 := by
  have := rParts_any w.heap.size gv iv G (settR G X) w' h.does h.sz1 h.sz2
  rw [h.nrm] at this
  exact this

theorem behDone_of {w w' : World} {gv iv : Value} {G : List Bool} {X : List (List (List UInt8))} {W N : List Un} (hd : DoesAt w.heap.size w' gv iv G (settR G X)) (hu : unitsN G X = W) (hx : X.length = G.length + 1) (hg : G.length ≤ 5000000) (hb : Below w.heap.size w w') (ho : OkU W) (hby : bytesU W ≤ 10000000) (hn : normU W = normU N) :
    ∃ gv4 iv4 G4 X4, Ending.returned (.agg #[gv, iv]) = .returned (.agg #[gv4, iv4]) ∧ BehDone w w' gv4 iv4 G4 X4 (normU N) := by
  subst hu
  have hs := sizes_units hx hg ho hby
  exact ⟨gv, iv, G, X, rfl, hd, hs.2.1, hs.2.2, parts_doc hx ho hn, hb⟩

set_option maxHeartbeats 1000000 in
set_option maxRecDepth 100000 in
theorem rTransform_ok (A B : List Pt) (us vs xs ys : List Un) (n : Nat) (hok : OpU A us n) (hf : tlen A ≤ 2000000) (he0 : errQ (A.map Pt.q) n = 0) (ht : ∀ p ∈ A, isText p.text = true)
    (hok' : OpU B vs n) (hf' : tlen B ≤ 2000000) (he0' : errQ (B.map Pt.q) n = 0) (ht' : ∀ p ∈ B, isText p.text = true) (hx : Reads (normU us) xs) (hy : Reads (normU vs) ys) :
    TraSays false 66 (A.map Pt.q) (B.map Pt.q) n (normU (traU xs ys).1) (normU (traU xs ys).2) 0 := by
  intro w v v' hp _ hp' _
  have HP : Hid (QsAt w v (A.map Pt.q) ∧ OpU A us n ∧ tlen A ≤ 2000000 ∧ errQ (A.map Pt.q) n = 0 ∧ (∀ p ∈ A, isText p.text = true) ∧ (∀ q ∈ A.map Pt.q, q.text.length ≤ 1000000000) ∧ Reads (normU us) xs ∧ Reads (normU vs) ys) := ⟨hp, hok, hf, he0, ht, fun q hq => by
    obtain ⟨p, hp, rfl⟩ := List.mem_map.1 hq
    exact (hok.ok.texts p hp).2, hx, hy⟩
  have HP' : Hid (QsAt w v' (B.map Pt.q) ∧ OpU B vs n ∧ tlen B ≤ 2000000 ∧ errQ (B.map Pt.q) n = 0 ∧ (∀ p ∈ B, isText p.text = true) ∧ (∀ q ∈ B.map Pt.q, q.text.length ≤ 1000000000)) := ⟨hp', hok', hf', he0', ht', fun q hq => by
    obtain ⟨p, hp, rfl⟩ := List.mem_map.1 hq
    exact (hok'.ok.texts p hp).2⟩
  have hn := hok.small
  obtain ⟨ao, cap, rfl, hc⟩ := hp
  obtain ⟨ao', cap', rfl, hc'⟩ := hp'
  rw [List.length_map] at HP HP' ⊢
  rw [List.length_map]
  clear hc hc' hok hf he0 ht hok' hf' he0' ht' hx hy
  go_enter Try.func66, Try.ntmps66
  go_wp2_with fail
  refine (Read_ok _ A n _ HP.out.1 HP.out.2.1.ok HP.out.2.2.1 HP.out.2.2.2.1 HP.out.2.2.2.2.2.1).mono ?_
  rintro e w1 ⟨gv, iv, G, X, rfl, hd, hld, hb1⟩
  have HDO : Hid (DocOp us n G (settR G X)) := docOp_of hld HP.out.2.1.ok.right HP.out.2.2.2.2.1 HP.out.2.1.reads HP.out.2.2.1
  obtain ⟨Y, hY⟩ : ∃ Y, Y = settR G X := ⟨_, rfl⟩
  rw [← hY] at HDO hd
  obtain ⟨ag, cg, rfl, _⟩ := gone_form hd.gone
  obtain ⟨Vs, hI⟩ := hd.ins
  obtain ⟨gi, ci, _, rfl, _⟩ := hI.form (by rw [HDO.out.xl]; omega)
  have hbn : Below w1.heap.size w1 (w1.alloc (.cells #[.slice ag G.length cg, .slice (some ⟨gi, 0, none⟩) Y.length ci] 129)) := (Below.refl _ _).alloc (Nat.le_refl _) _
  have HB2 : Hid (Below w.heap.size w (w1.alloc (.cells #[.slice ag G.length cg, .slice (some ⟨gi, 0, none⟩) Y.length ci] 129)) ∧ DoesAt w.heap.size (w1.alloc (.cells #[.slice ag G.length cg, .slice (some ⟨gi, 0, none⟩) Y.length ci] 129)) (.slice ag G.length cg) (.slice (some ⟨gi, 0, none⟩) Y.length ci) G Y) := ⟨hb1.trans (hbn.mono hb1.size), hd.below hbn (Nat.le_refl _)⟩
  clear hd hld hb1 hI hY hbn
  go_wp2_with fail
  refine (Read_ok _ B n _ (HP'.out.1.below HB2.out.1 (Nat.le_refl _)) HP'.out.2.1.ok HP'.out.2.2.1 HP'.out.2.2.2.1 HP'.out.2.2.2.2.2).mono ?_
  rintro e w3 ⟨gv3, iv3, G3, X3, rfl, hd3, hld3, hb3⟩
  have HDO3 : Hid (DocOp vs n G3 (settR G3 X3)) := docOp_of hld3 HP'.out.2.1.ok.right HP'.out.2.2.2.2.1 HP'.out.2.1.reads HP'.out.2.2.1
  obtain ⟨Y3, hY3⟩ : ∃ Y, Y = settR G3 X3 := ⟨_, rfl⟩
  rw [← hY3] at HDO3 hd3
  obtain ⟨ag3, cg3, rfl, _⟩ := gone_form hd3.gone
  obtain ⟨Vs3, hI3⟩ := hd3.ins
  obtain ⟨gi3, ci3, _, rfl, _⟩ := hI3.form (by rw [HDO3.out.xl]; omega)
  have HD3 : Hid (DoesAt w.heap.size w3 (.slice ag3 G3.length cg3) (.slice (some ⟨gi3, 0, none⟩) Y3.length ci3) G3 Y3 ∧ DoesAt w.heap.size w3 (.slice ag G.length cg) (.slice (some ⟨gi, 0, none⟩) Y.length ci) G Y ∧ Below w.heap.size w w3) := ⟨hd3.lower HB2.out.1.size, HB2.out.2.below hb3 (Nat.le_refl _), HB2.out.1.trans (hb3.mono HB2.out.1.size)⟩
  have hx3 := (hb3.block w1.heap.size (by simp)).trans (heap_alloc_new w1 _)
  have c0 : w3.cell? ⟨w1.heap.size, 0, none⟩ = some (.slice ag G.length cg) := Lib.cell_of_heap hx3 0
  have c1 : w3.cell? ⟨w1.heap.size, 1, none⟩ = some (.slice (some ⟨gi, 0, none⟩) Y.length ci) := Lib.cell_of_heap hx3 1
  have hl3 := lt_of_blk hx3
  have HX3 : Hid (w3.heap[w1.heap.size]? = some (.cells #[.slice ag G.length cg, .slice (some ⟨gi, 0, none⟩) Y.length ci] 129 (0, 0))) := hx3
  clear hd3 hld3 hI3 hb3 hx3 hY3 HB2
  have HW : Hid ((OkU (traU (unitsN G Y) (unitsN G3 Y3)).1 ∧ bytesU (traU (unitsN G Y) (unitsN G3 Y3)).1 ≤ 2000000) ∧ (OkU (traU (unitsN G Y) (unitsN G3 Y3)).2 ∧ bytesU (traU (unitsN G Y) (unitsN G3 Y3)).2 ≤ 2000000) ∧ G.length = n ∧ G3.length = n) := by_hid (by
    have o := traU_ok _ _ (unitsN_ok G Y HDO.out.ch) (unitsN_ok G3 Y3 HDO3.out.ch)
    have b := traU_bytes (unitsN G Y) (unitsN G3 Y3)
    have h2 := HDO.out.byt
    have h3 := HDO3.out.byt
    exact ⟨⟨o.1, by omega⟩, ⟨o.2, by omega⟩, HDO.out.gl, HDO3.out.gl⟩)
  have HTD : Hid (normU (traU (unitsN G Y) (unitsN G3 Y3)).1 = normU (traU xs ys).1 ∧ normU (traU (unitsN G Y) (unitsN G3 Y3)).2 = normU (traU xs ys).2) := tra_doc HDO.out.ch HDO3.out.ch HDO.out.xl HDO3.out.xl HDO.out.set HDO3.out.set HDO.out.nrm HDO3.out.nrm HP.out.2.2.2.2.2.2.1 HP.out.2.2.2.2.2.2.2
  obtain ⟨w4, hw4⟩ : ∃ w4, w4 = w3.alloc (.cells #[.slice ag3 G3.length cg3, .slice (some ⟨gi3, 0, none⟩) Y3.length ci3] 129) := ⟨_, rfl⟩
  have HBX : Hid (w4.heap[w1.heap.size]? = some (.cells #[.slice ag G.length cg, .slice (some ⟨gi, 0, none⟩) Y.length ci] 129 (0, 0)) ∧ w4.heap[w3.heap.size]? = some (.cells #[.slice ag3 G3.length cg3, .slice (some ⟨gi3, 0, none⟩) Y3.length ci3] 129 (0, 0)) ∧ DoesAt w.heap.size w4 (.slice ag3 G3.length cg3) (.slice (some ⟨gi3, 0, none⟩) Y3.length ci3) G3 Y3 ∧ DoesAt w.heap.size w4 (.slice ag G.length cg) (.slice (some ⟨gi, 0, none⟩) Y.length ci) G Y ∧ Below w.heap.size w w4) := by_hid (by
    have hbn : Below w3.heap.size w3 w4 := by rw [hw4]; exact (Below.refl _ _).alloc (Nat.le_refl _) _
    exact ⟨(hbn.block _ hl3).trans HX3.out, by rw [hw4]; exact heap_alloc_new w3 _, HD3.out.1.below hbn (Nat.le_refl _), HD3.out.2.1.below hbn (Nat.le_refl _), HD3.out.2.2.trans (hbn.mono HD3.out.2.2.size)⟩)
  have HTWO : Hid (∀ wx, Below w4.heap.size w4 wx → wx.cell? ⟨w1.heap.size, 0, none⟩ = some (.slice ag G.length cg) ∧ wx.cell? ⟨w1.heap.size, 1, none⟩ = some (.slice (some ⟨gi, 0, none⟩) Y.length ci) ∧ wx.cell? ⟨w3.heap.size, 0, none⟩ = some (.slice ag3 G3.length cg3) ∧ wx.cell? ⟨w3.heap.size, 1, none⟩ = some (.slice (some ⟨gi3, 0, none⟩) Y3.length ci3)) := by_hid (fun wx hx => by
    have e1 := (hx.block _ (lt_of_blk HBX.out.1)).trans HBX.out.1
    have e2 := (hx.block _ (lt_of_blk HBX.out.2.1)).trans HBX.out.2.1
    exact ⟨Lib.cell_of_heap e1 0, Lib.cell_of_heap e1 1, Lib.cell_of_heap e2 0, Lib.cell_of_heap e2 1⟩)
  have HC1 : Hid (∀ wx, Below w4.heap.size w4 wx → Calls Try.prog 98 #[.agg #[.slice ag G.length cg, .slice (some ⟨gi, 0, none⟩) Y.length ci], .agg #[.slice ag3 G3.length cg3, .slice (some ⟨gi3, 0, none⟩) Y3.length ci3], .bool true] wx fun e w' => ∃ gv4 iv4 G4 X4, e = .returned (.agg #[gv4, iv4]) ∧ BehDone wx w' gv4 iv4 G4 X4 (normU (traU xs ys).1)) := by_hid (fun wx hx => by
    refine (behind_true w.heap.size _ _ _ _ G G3 Y Y3 wx (HBX.out.2.2.2.1.below hx (Nat.le_refl _)) (HBX.out.2.2.1.below hx (Nat.le_refl _)) (by have := HW.out.2.2; omega) (by have := HW.out.2.2; omega) HDO.out.xl HDO3.out.xl (by have := HDO.out.tot; omega) (by have := HDO3.out.tot; omega) (traU (unitsN G Y) (unitsN G3 Y3)).1 (by simp [behR]) HW.out.1.1 (by have := HW.out.1.2; omega)).mono ?_
    rintro e w' ⟨gv, iv, G4, X4, rfl, hd4, hu4, hg4, hx4, hb4⟩
    exact behDone_of hd4 hu4 hx4 (by have h1 := keptN_le G3; have h2 := HDO3.out.tot; have := HW.out.2.2; omega) hb4 HW.out.1.1 (by have := HW.out.1.2; omega) HTD.out.1)
  have HC2 : Hid (∀ wx, Below w4.heap.size w4 wx → Calls Try.prog 98 #[.agg #[.slice ag3 G3.length cg3, .slice (some ⟨gi3, 0, none⟩) Y3.length ci3], .agg #[.slice ag G.length cg, .slice (some ⟨gi, 0, none⟩) Y.length ci], .bool false] wx fun e w' => ∃ gv4 iv4 G4 X4, e = .returned (.agg #[gv4, iv4]) ∧ BehDone wx w' gv4 iv4 G4 X4 (normU (traU xs ys).2)) := by_hid (fun wx hx => by
    refine (behind_false w.heap.size _ _ _ _ G3 G Y3 Y wx (HBX.out.2.2.1.below hx (Nat.le_refl _)) (HBX.out.2.2.2.1.below hx (Nat.le_refl _)) (by have := HW.out.2.2; omega) (by have := HW.out.2.2; omega) HDO3.out.xl HDO.out.xl (by have := HDO3.out.tot; omega) (by have := HDO.out.tot; omega) (traU (unitsN G Y) (unitsN G3 Y3)).2 (by simp [behR]) HW.out.2.1.1 (by have := HW.out.2.1.2; omega)).mono ?_
    rintro e w' ⟨gv, iv, G4, X4, rfl, hd4, hu4, hg4, hx4, hb4⟩
    exact behDone_of hd4 hu4 hx4 (by have h1 := keptN_le G; have h2 := HDO.out.tot; have := HW.out.2.2; omega) hb4 HW.out.2.1.1 (by have := HW.out.2.1.2; omega) HTD.out.2)
  go_wp2_with fail
  rw [← hw4]
  have HB4 : Hid (Below w.heap.size w w4) := HBX.out.2.2.2.2
  clear hw4 c0 c1 HX3 HD3 HBX
  generalize Value.slice ag G.length cg = xg at HTWO HC1 HC2 ⊢
  generalize Value.slice (some ⟨gi, 0, none⟩) Y.length ci = xi at HTWO HC1 HC2 ⊢
  generalize Value.slice ag3 G3.length cg3 = yg at HTWO HC1 HC2 ⊢
  generalize Value.slice (some ⟨gi3, 0, none⟩) Y3.length ci3 = yi at HTWO HC1 HC2 ⊢
  obtain ⟨N1, hN1⟩ : ∃ z, z = normU (traU xs ys).1 := ⟨_, rfl⟩
  obtain ⟨N2, hN2⟩ : ∃ z, z = normU (traU xs ys).2 := ⟨_, rfl⟩
  rw [← hN1] at HC1
  rw [← hN2] at HC2
  have HNN : Hid (N1 = normU (traU xs ys).1 ∧ N2 = normU (traU xs ys).2) := ⟨hN1, hN2⟩
  clear hN1 hN2
  go_region_held3 (fun wx => wx.cell? ⟨w1.heap.size, 0, none⟩ = some xg ∧ wx.cell? ⟨w1.heap.size, 1, none⟩ = some xi ∧ wx.cell? ⟨w3.heap.size, 0, none⟩ = some yg ∧ wx.cell? ⟨w3.heap.size, 1, none⟩ = some yi) (first | exact HTWO.out _ ((Below.refl _ _).drew) | exact HTWO.out _ HBA.out.2 | exact HTWO.out _ HBB.out | exact HTWO.out _ HBC.out.2 | exact HTWO.out _ HBD.out) (first
    | (go_at_call_of 98 (Value.bool true); refine (HC1.out _ ((Below.refl _ _).drew)).mono ?_; rintro e wa ⟨g4, i4, G4, X4, rfl, hA⟩; have HBA : Hid (BehDone w4.drew wa g4 i4 G4 X4 N1 ∧ Below w4.heap.size w4 wa) := ⟨hA, hA.below'⟩; clear hA)
    | (go_at_call_of 75 (Value.agg #[g4, i4]); refine (HBA.out.1.parts).mono ?_; rintro e wb ⟨r1, rfl, hr1, hb1⟩; have HBB : Hid (Below w4.heap.size w4 wb) := HBA.out.2.trans (hb1.mono HBA.out.2.size); have HR1 : Hid (wb.ownsRow w4.heap.size 45 3 r1 N1.length (rowOf N1)) := own_base hr1 HBA.out.2.size; clear hr1 hb1)
    | (go_at_call_of 98 (Value.bool false); refine (HC2.out _ HBB.out).mono ?_; rintro e wc ⟨g5, i5, G5, X5, rfl, hA⟩; have HBC : Hid (BehDone wb wc g5 i5 G5 X5 N2 ∧ Below w4.heap.size w4 wc) := ⟨hA, HBB.out.trans (hA.below.mono HBB.out.size)⟩; clear hA)
    | (go_at_call_of 75 (Value.agg #[g5, i5]); refine (HBC.out.1.parts).mono ?_; rintro e wd ⟨r2, rfl, hr2, hb2⟩; have HBD : Hid (Below w4.heap.size w4 wd) := HBC.out.2.trans (hb2.mono HBC.out.2.size); have HR2 : Hid (wd.ownsRow wc.heap.size 45 3 r2 N2.length (rowOf N2) ∧ Below wc.heap.size wc wd) := ⟨hr2, hb2⟩; clear hr2 hb2))
  have HF : Hid (TwoNew w wd r1 r2 N1 N2 ∧ Below w.heap.size w wd) := by_hid (by
    have z1 := HB4.out.size
    have z2 := HBB.out.size
    have z3 := HBC.out.1.below.size
    refine ⟨⟨?_, own_base HR2.out.1 (by omega), fun g h1 h2 => ?_⟩, HB4.out.trans (HBD.out.mono HB4.out.size)⟩
    · have h1 := own_below (own_below HR1.out HBC.out.1.below (Nat.le_refl _)) HR2.out.2 (Nat.le_refl _)
      exact own_base h1 z1
    · have a1 := (HR1.out.lt g h1).2
      have a2 := (HR2.out.1.lt g h2).1
      omega)
  go_wp2
  exact bodyPost_ret (v := .tuple #[r1, r2, .int .i64 0]) (by simp [results, Try.results66, go_sem]) rfl ⟨r1, r2, rfl, by rw [← HNN.out.1, ← HNN.out.2]; exact HF.out.1, by simp, (fun h => by cases h), HF.out.2⟩

end Go.Proofs.Ytpiankiacbghcaa
