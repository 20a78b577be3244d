/-
  The document's answer: behind.
-/
import Derived.Test.YtpiankiacbghcaaBBeh0
namespace Go.Proofs.Ytpiankiacbghcaa
open Go.RowKit

set_option maxHeartbeats 40000000 in
set_option maxRecDepth 100000 in
theorem behind_false (base : Nat) (gd id go io : Value) (Gd Go : List Bool) (Xd Xo : List (List (List UInt8))) (w : World) (hd : DoesAt base w gd id Gd Xd) (ho : DoesAt base w go io Go Xo) (hG : Gd.length ≤ 1000000) (hl : Go.length = Gd.length) (hX : Xd.length = Gd.length + 1) (hY : Xo.length = Go.length + 1) (hTd : total Xd ≤ 10000000) (hTo : total Xo ≤ 3000000)
    (W : List Un) (hWe : behR false Gd Go Xd Xo 0 = W) (hW : OkU W) (hby : bytesU W ≤ 10000000) :
    Calls Try.prog 98 #[.agg #[gd, id], .agg #[go, io], .bool false] w fun e w' => ∃ gv iv G X, e = .returned (.agg #[gv, iv]) ∧ DoesAt w.heap.size w' gv iv G (settR G X) ∧ unitsN G X = W ∧ G.length = keptN Go + total Xo ∧ X.length = G.length + 1 ∧ Below w.heap.size w w' := by
  have hout := outU_units Go Xo hY
  have hm4 : keptN Go + total Xo ≤ 4000000 := by
    have := keptN_le Go
    omega
  obtain ⟨m, hm⟩ : ∃ m, m = keptN Go + total Xo := ⟨_, rfl⟩
  have hom : outU (unitsN Go Xo) = m := by rw [hm]; exact hout.1
  have HL : Hid (∀ x, Below w.heap.size w x → Calls Try.prog 96 #[.agg #[go, io]] x fun e w' => e = .returned (.int .i64 (m : Int)) ∧ Below x.heap.size x w') := by_hid (fun x hx => by
    rw [hm]
    exact Left_any base go io Go Xo x (ho.below hx (Nat.le_refl _)) (by omega) hY (by omega))
  rw [← hm] at hm4 ⊢
  obtain ⟨ad, cd, rfl, _⟩ := gone_form hd.gone
  obtain ⟨Vd, hId⟩ := hd.ins
  obtain ⟨gi, ci, cur, rfl, hbi, hgi, hic⟩ := hId.form (by omega)
  obtain ⟨ab, cb, rfl, _⟩ := gone_form ho.gone
  obtain ⟨Vb, hIb⟩ := ho.ins
  obtain ⟨gj, cj, cur2, rfl, hbj, hgj, hjc⟩ := hIb.form (by omega)
  have HD : Hid (DoesAt base w (.slice ad Gd.length cd) (.slice (some ⟨gi, 0, none⟩) Xd.length ci) Gd Xd ∧ DoesAt base w (.slice ab Go.length cb) (.slice (some ⟨gj, 0, none⟩) Xo.length cj) Go Xo) := ⟨hd, ho⟩
  have HW : Hid (OkU W ∧ bytesU W ≤ 10000000 ∧ outU (unitsN Go Xo) = m ∧ behR false Gd Go Xd Xo 0 = W) := ⟨hW, hby, hom, hWe⟩
  have HX : Hid (Xd.length = Gd.length + 1 ∧ Xo.length = Go.length + 1 ∧ Go.length = Gd.length) := ⟨hX, hY, hl⟩
  have hXl : Xd.length ≤ 1000001 := by omega
  have hXm : Xo.length ≤ 1000001 := by omega
  have hGo : Go.length ≤ 1000000 := by omega
  obtain ⟨i0, hi0, hz0, hz1, hz2⟩ := info_parts Try.infoStr
  clear hd ho hId hIb hgi hic hbi hgj hjc hbj hX hY hW hby hout hWe hom hm hl
  go_enter Try.func98, Try.ntmps98
  go_wp2_with fail
  refine (HL.out _ ((((Below.refl _ _).alloc (Nat.le_refl _) _).alloc (by simp) _).alloc (by simp; omega) _)).mono ?_
  rintro e w0 ⟨rfl, hb0⟩
  obtain ⟨k0, k1, k2, hbw0, hsz0⟩ := three_boxes hb0
  have HK : Hid (w0.heap[w.heap.size]? = _ ∧ w0.heap[w.heap.size + 1]? = _ ∧ w0.heap[w.heap.size + 1 + 1]? = _ ∧ Below w.heap.size w w0) := ⟨k0, k1, k2, hbw0⟩
  clear k0 k1 k2 hbw0 hb0 HL
  go_wp2_with fail
  refine (nothing_any m _ (by omega)).mono ?_
  rintro e w1 ⟨gv, iv, rfl, hd1, hb1⟩
  obtain ⟨ag, cg, rfl, _⟩ := gone_form hd1.gone
  obtain ⟨Vs', hI'⟩ := hd1.ins
  obtain ⟨gx, cx, _, rfl, _⟩ := hI'.form (by simp)
  simp only [List.length_replicate] at hd1
  have hsz1 := hb1.size
  have HS0 : Hid (OutSt (w.heap.size + 1 + 1 + 1) w [(w.heap.size, #[.slice ad Gd.length cd, .slice (some ⟨gi, 0, none⟩) Xd.length ci]), (w.heap.size + 1, #[.slice ab Go.length cb, .slice (some ⟨gj, 0, none⟩) Xo.length cj]), (w.heap.size + 1 + 1, #[.slice none 0 0, .slice none 0 0])] w1.heap.size (.slice ag m cg) (.slice (some ⟨gx, 0, none⟩) (m + 1) cx) (List.replicate m false) (List.replicate (m + 1) []) (w1.alloc (.cells #[.slice ag m cg, .slice (some ⟨gx, 0, none⟩) (m + 1) cx] 129))) := by_hid (by
    refine out_new (DoesAt.lower (base' := w.heap.size + 1 + 1 + 1) hd1 (by omega)) (HK.out.2.2.2.trans (hb1.mono (by omega))) ?_ (by omega)
    intro p hp
    simp only [List.mem_cons, List.not_mem_nil, or_false] at hp
    rcases hp with rfl | rfl | rfl
    · exact (hb1.block _ (by simp; omega)).trans HK.out.1
    · exact (hb1.block _ (by simp; omega)).trans HK.out.2.1
    · exact (hb1.block _ (by simp; omega)).trans HK.out.2.2.1)
  clear hd1 hb1 hI' HK
  rw [List.length_replicate, List.length_replicate]
  obtain ⟨c00, c01, c10, c11, c30, c31, hz3⟩ := HS0.out.cells
  go_wp2
  go_loopw [8, 9] (fun ax gx' wr => ∃ (a g : Nat) (G : List Bool) (X : List (List (List UInt8))), g ≤ Gd.length + 1 ∧ ax = .int .i64 a ∧ gx' = .int .i64 g ∧ Hid (BehSt W (behR false Gd Go Xd Xo g) m a (outU (unitsN (Go.drop g) (Xo.drop g))) G X ∧ OutSt (w.heap.size + 1 + 1 + 1) w [(w.heap.size, #[.slice ad Gd.length cd, .slice (some ⟨gi, 0, none⟩) Xd.length ci]), (w.heap.size + 1, #[.slice ab Go.length cb, .slice (some ⟨gj, 0, none⟩) Xo.length cj]), (w.heap.size + 1 + 1, #[.slice none 0 0, .slice none 0 0])] w1.heap.size (.slice ag m cg) (.slice (some ⟨gx, 0, none⟩) (m + 1) cx) G X wr)) (fun _ gx' _ => Gd.length + 2 - (intOf gx').toNat)
  case atStart =>
    refine ⟨0, 0, _, _, Nat.zero_le _, rfl, rfl, ⟨⟨?_, ?_⟩, HS0.out⟩⟩
    · rw [HW.out.2.2.2]
      exact laidC_new W (List.replicate m false) m (by simp)
    · rw [List.drop_zero, List.drop_zero, HW.out.2.2.1]
      omega
  case round =>
    clear c00 c01 c10 c11 c30 c31 hz3
    obtain ⟨a, g, G, X, hg, rfl, rfl, hv⟩ := hrel
    obtain ⟨c00, c01, c10, c11, c30, c31, hz3⟩ := hv.out.2.cells
    have hszr := hv.out.2.below.size
    have hlen3 : w.heap.size + 1 + 1 + 1 ≤ wr.heap.size := lt_of_blk (hv.out.2.boxes _ (List.mem_cons_of_mem _ (List.mem_cons_of_mem _ List.mem_cons_self)))
    by_cases hlt : g < Xd.length
    · have hgn : g ≤ Gd.length := by have := HX.out.1; omega
      have hgo : g < Xo.length := by have := HX.out; omega
      have hXdg : (Xd[g]).length ≤ 10000000 := Nat.le_trans (le_total g hlt) hTd
      have hXog : (Xo[g]).length ≤ 3000000 := Nat.le_trans (le_total g hgo) hTo
      have hgi : (g : Int) < (Xd.length : Int) := by omega
      have hgj : (g : Int) < (Xo.length : Int) := by omega
      have HCN : Hid (a + (Xo[g]).length + (if h : g < Go.length then (if Go[g]'h then 0 else 1) + outU (unitsN (Go.drop (g + 1)) (Xo.drop (g + 1))) else 0) = m) := by_hid (by
        have h := hv.out.1.cnt
        have h1 := HX.out
        by_cases hgg : g < Go.length
        · rw [outU_drop Go Xo g hgg h1.2.1] at h
          rw [dif_pos hgg]
          omega
        · rw [outU_at Go Xo g (by omega) h1.2.1] at h
          rw [dif_neg hgg]
          omega)
      have ham : a + (Xo[g]).length ≤ m := by
        have := HCN.out
        omega
      have hxl : X.length = m + 1 := hv.out.1.laid.xl
      have hfl : ∀ j, (List.replicate m false).getD j false = false := fun j => repD _ _ _
      have HFL : Hid (∀ j, (List.replicate m false).getD j false = false) := hfl
      clear hfl
      obtain ⟨sao, scap, e0, fS, hgil, _⟩ := HD.out.1.gapB hv.out.2.below g hlt
      obtain ⟨tao, tcap, f0, _, _⟩ := (HD.out.2.below hv.out.2.below (Nat.le_refl _)).gap g hgo
      have HSRC : Hid (SrcAt wr (.slice sao (Xd[g]).length scap) (Xd[g]).length (strV Xd[g])) := fS
      have HS : Hid (OutSt (w.heap.size + 1 + 1 + 1) w [(w.heap.size, #[.slice ad Gd.length cd, .slice (some ⟨gi, 0, none⟩) Xd.length ci]), (w.heap.size + 1, #[.slice ab Go.length cb, .slice (some ⟨gj, 0, none⟩) Xo.length cj]), (w.heap.size + 1 + 1, #[.slice none 0 0, .slice none 0 0])] w1.heap.size (.slice ag m cg) (.slice (some ⟨gx, 0, none⟩) (m + 1) cx) G X wr) := hv.out.2
      clear fS
      have hgx : a + (Xo[g]).length < X.length := by omega
      have hat0 : (0 : Int) ≤ (a : Int) + ((Xo[g]).length : Int) := by omega
      have hat1 : (a : Int) + ((Xo[g]).length : Int) < (m : Int) + 1 := by omega
      have hat2 : ((a : Int) + ((Xo[g]).length : Int)).toNat = a + (Xo[g]).length := by omega
      have HL1 : Hid (LaidC W ((Xd[g]).map Un.i ++ behT false Gd Go Xd Xo g) m (a + (Xo[g]).length) (List.replicate m false) G X) := by_hid (by
        have h := hv.out.1.laid
        rw [behR_second Gd Go Xd Xo g hgn HX.out.2.2 HX.out.1 HX.out.2.1] at h
        exact LaidC.skip HFL.out _ _ h ham)
      have hXg : (X[a + (Xo[g]).length]).length ≤ 10000000 := by
        have h := HL1.out.gap HW.out.1
        rw [List.getD_eq_getElem?_getD, List.getElem?_eq_getElem hgx] at h
        exact Nat.le_trans h HW.out.2.1
      clear hv
      obtain ⟨Vq, dao, dcap, hIq, hdq, k1, kf, hrow, hnil, hn1, hn2, hgl⟩ := HS.out.spot hxl (a + (Xo[g]).length) hgx
      have HDR : Hid (wr.ownsRow (w.heap.size + 1 + 1 + 1) 9 1 (.slice dao (X[a + (Xo[g]).length]).length dcap) (X[a + (Xo[g]).length]).length (strV X[a + (Xo[g]).length])) := hrow
      have HNIL : Hid ((X[a + (Xo[g]).length]).length = 0 → Value.slice dao (X[a + (Xo[g]).length]).length dcap = .slice none 0 0) := hnil
      have HPUT : Hid (∀ v9 w9, AppRes (w.heap.size + 1 + 1 + 1) 9 1 (wr.drew) (.slice dao (X[a + (Xo[g]).length]).length dcap) (X[a + (Xo[g]).length]).length (strV X[a + (Xo[g]).length]) (Xd[g]).length (strV Xd[g]) wr.heap.size v9 w9 → OutSt (w.heap.size + 1 + 1 + 1) w [(w.heap.size, #[.slice ad Gd.length cd, .slice (some ⟨gi, 0, none⟩) Xd.length ci]), (w.heap.size + 1, #[.slice ab Go.length cb, .slice (some ⟨gj, 0, none⟩) Xo.length cj]), (w.heap.size + 1 + 1, #[.slice none 0 0, .slice none 0 0])] w1.heap.size (.slice ag m cg) (.slice (some ⟨gx, 0, none⟩) (m + 1) cx) G (X.set (a + (Xo[g]).length) (X[a + (Xo[g]).length] ++ Xd[g])) (w9.setCell ⟨gx, a + (Xo[g]).length, none⟩ v9)) := by_hid (fun v9 w9 hA => HS.out.putAt hxl (a + (Xo[g]).length) hgx ((Below.refl _ _).drew) k1 (by simpa using hA))
      obtain ⟨hgxb9, hgne9⟩ := HS.out.rowLow hxl (by omega)
      have hlo9 : (w.heap.size + 1 + 1 + 1) ≤ wr.heap.size := by omega
      have KA : Hid ((wr.drew).cell? ⟨w1.heap.size, 1, none⟩ = some (.slice (some ⟨gx, 0, none⟩) (m + 1) cx) ∧ (wr.drew).cell? ⟨w.heap.size, 1, none⟩ = some (.slice (some ⟨gi, 0, none⟩) Xd.length ci) ∧ (wr.drew).cell? ⟨gi, g, none⟩ = some (.slice sao (Xd[g]).length scap)) := ⟨c31, c01, e0⟩
      have KF : Hid (∀ v9 w9, AppRes (w.heap.size + 1 + 1 + 1) 9 1 (wr.drew) (.slice dao (X[a + (Xo[g]).length]).length dcap) (X[a + (Xo[g]).length]).length (strV X[a + (Xo[g]).length]) (Xd[g]).length (strV Xd[g]) wr.heap.size v9 w9 → (w9.cell? ⟨w1.heap.size, 1, none⟩ = some (.slice (some ⟨gx, 0, none⟩) (m + 1) cx) ∧ w9.cell? ⟨w.heap.size, 1, none⟩ = some (.slice (some ⟨gi, 0, none⟩) Xd.length ci) ∧ w9.cell? ⟨gi, g, none⟩ = some (.slice sao (Xd[g]).length scap)) ∧ ∀ v, ((w9.setCell ⟨gx, a + (Xo[g]).length, none⟩ v).cell? ⟨w1.heap.size, 1, none⟩ = some (.slice (some ⟨gx, 0, none⟩) (m + 1) cx) ∧ (w9.setCell ⟨gx, a + (Xo[g]).length, none⟩ v).cell? ⟨w.heap.size, 1, none⟩ = some (.slice (some ⟨gi, 0, none⟩) Xd.length ci) ∧ (w9.setCell ⟨gx, a + (Xo[g]).length, none⟩ v).cell? ⟨gi, g, none⟩ = some (.slice sao (Xd[g]).length scap))) := by_hid (fun v9 w9 hA => by
        have h0 := (hA.grown.cell_far ⟨w1.heap.size, 1, none⟩ (by simp; omega) (Ne.symm hn1)).trans KA.out.1
        have h1 := (hA.grown.cell_far ⟨w.heap.size, 1, none⟩ (by have hl : w.heap.size < (w.heap.size + 1 + 1 + 1) := (by omega); simp; omega) (fun e => by have hl : w.heap.size < (w.heap.size + 1 + 1 + 1) := (by omega); have h3 : (w.heap.size + 1 + 1 + 1) ≤ w.heap.size := (HDR.out.lt _ e.symm).1; omega)).trans KA.out.2.1
        have h2 := (hA.grown.cell_far ⟨gi, g, none⟩ (by have hl : gi < (w.heap.size + 1 + 1 + 1) := (by omega); simp; omega) (fun e => by have hl : gi < (w.heap.size + 1 + 1 + 1) := (by omega); have h3 : (w.heap.size + 1 + 1 + 1) ≤ gi := (HDR.out.lt _ e.symm).1; omega)).trans KA.out.2.2
        exact ⟨⟨h0, h1, h2⟩, fun v => ⟨(World.cell?_setCell_other _ _ _ _ (fun e => hgne9 (congrArg Addr.block e).symm)).trans h0, (World.cell?_setCell_other _ _ _ _ (fun e => by have hl : w.heap.size < (w.heap.size + 1 + 1 + 1) := (by omega); have e1 : gx = w.heap.size := congrArg Addr.block e; omega)).trans h1, (World.cell?_setCell_other _ _ _ _ (fun e => by have hl : gi < (w.heap.size + 1 + 1 + 1) := (by omega); have e1 : gx = gi := congrArg Addr.block e; omega)).trans h2⟩⟩)
      clear hrow hnil hIq hdq
      go_upto_region 10 with fail
      go_cut [] (fun wc => OutSt (w.heap.size + 1 + 1 + 1) w [(w.heap.size, #[.slice ad Gd.length cd, .slice (some ⟨gi, 0, none⟩) Xd.length ci]), (w.heap.size + 1, #[.slice ab Go.length cb, .slice (some ⟨gj, 0, none⟩) Xo.length cj]), (w.heap.size + 1 + 1, #[.slice none 0 0, .slice none 0 0])] w1.heap.size (.slice ag m cg) (.slice (some ⟨gx, 0, none⟩) (m + 1) cx) G (X.set (a + (Xo[g]).length) (X[a + (Xo[g]).length] ++ Xd[g])) wc)
      case first =>
        go_wp2
        go_region_law ((refine step_append_any (by rfl) _ _ _ (by rfl) (w.heap.size + 1 + 1 + 1) 9 i0 _ 1 16 Try.underlying61 hi0 hz0 hz1 hz2 rfl (by omega) (.slice dao (X[a + (Xo[g]).length]).length dcap) _ _ (by rfl) (HDR.out.drew) HNIL.out (.slice sao (Xd[g]).length scap) (Xd[g]).length (strV Xd[g]) (by rfl) (HSRC.out.drew) (by simp [strV_length]) (strV_one _) (by unfold maxLen; omega) (by omega) (by simp; omega) wr.heap.size (by simp) ?_; intro ao9 cap9 w9 hA9; have d2 : w9.cell? ⟨w1.heap.size, 1, none⟩ = some (.slice (some ⟨gx, 0, none⟩) (m + 1) cx) := (KF.out _ _ hA9).1.1; have d0 : w9.cell? ⟨gx, a + (Xo[g]).length, none⟩ = some (.slice dao (X[a + (Xo[g]).length]).length dcap) := (hA9.grown.cell_far _ (by simp; omega) (Ne.symm hn2)).trans (((Below.refl _ _).drew : Below wr.heap.size wr (wr.drew)).cell (p := ⟨gx, a + (Xo[g]).length, none⟩) hgl |>.trans k1); have d1 : w9.frozen? ⟨gx, a + (Xo[g]).length, none⟩ = false := (hA9.grown.frozen_far _ (by simp; omega) (Ne.symm hn2)).trans ((World.frozen?_of_block (a := ⟨gx, a + (Xo[g]).length, none⟩) (((Below.refl _ _).drew : Below wr.heap.size wr (wr.drew)).block gx hgl)).trans kf); have H9 : Hid (_) := hA9; clear hA9))
        all_goals
          go_wp2
          go_meet
          exact HPUT.out _ _ H9.out
      case rest =>
        obtain ⟨Y, hxl2, HL2, hcut2⟩ : ∃ Y, Y.length = m + 1 ∧ Hid (LaidC W (behT false Gd Go Xd Xo g) m (a + (Xo[g]).length) (List.replicate m false) G Y) ∧ OutSt (w.heap.size + 1 + 1 + 1) w [(w.heap.size, #[.slice ad Gd.length cd, .slice (some ⟨gi, 0, none⟩) Xd.length ci]), (w.heap.size + 1, #[.slice ab Go.length cb, .slice (some ⟨gj, 0, none⟩) Xo.length cj]), (w.heap.size + 1 + 1, #[.slice none 0 0, .slice none 0 0])] w1.heap.size (.slice ag m cg) (.slice (some ⟨gx, 0, none⟩) (m + 1) cx) G Y wc := ⟨X.set (a + (Xo[g]).length) (X[a + (Xo[g]).length] ++ Xd[g]), by simpa using hxl, HL1.out.put (Xd[g]) hgx, hcut⟩
        clear hcut HPUT KA KF hlo9 hgxb9 hgne9 HDR HNIL k1 kf hn1 hn2 hgl c00 c01 c10 c11 c30 c31 hz3 e0 f0 hXg HSRC HS hxl HL1 hgx
        have HS2 : Hid (OutSt (w.heap.size + 1 + 1 + 1) w [(w.heap.size, #[.slice ad Gd.length cd, .slice (some ⟨gi, 0, none⟩) Xd.length ci]), (w.heap.size + 1, #[.slice ab Go.length cb, .slice (some ⟨gj, 0, none⟩) Xo.length cj]), (w.heap.size + 1 + 1, #[.slice none 0 0, .slice none 0 0])] w1.heap.size (.slice ag m cg) (.slice (some ⟨gx, 0, none⟩) (m + 1) cx) G Y wc) := hcut2
        obtain ⟨c00, c01, c10, c11, c30, c31, hz3⟩ := hcut2.cells
        obtain ⟨tao2, tcap2, f0, _, _⟩ := (HD.out.2.below hcut2.below (Nat.le_refl _)).gap g hgo
        by_cases hgd : g < Gd.length
        · have hgd2 : g < Go.length := by have := HX.out.2.2; omega
          have hgdi : (g : Int) < (Gd.length : Int) := by omega
          have hgdo : (g : Int) < (Go.length : Int) := by omega
          obtain ⟨gh, had, m1⟩ := (HD.out.1.below hcut2.below (Nat.le_refl _)).sign g hgd
          obtain ⟨gm, hab, m0⟩ := (HD.out.2.below hcut2.below (Nat.le_refl _)).sign g hgd2
          subst had hab
          have HT : Hid (behT false Gd Go Xd Xo g = (if Go[g] then [] else [uN Gd[g]]) ++ behR false Gd Go Xd Xo (g + 1)) := by_hid (by rw [behT, dif_pos ⟨hgd, hgd2⟩])
          cases hbo : Go[g]
          · rw [hbo] at m0
            have HC2 : Hid (a + (Xo[g]).length + 1 + outU (unitsN (Go.drop (g + 1)) (Xo.drop (g + 1))) = m) := by_hid (by
              have h := HCN.out
              rw [dif_pos hgd2, hbo] at h
              simp only [Bool.false_eq_true, if_false] at h
              omega)
            have ham2 : a + (Xo[g]).length < m := by
              have := HC2.out
              omega
            have HL3 : Hid (LaidC W (uN Gd[g] :: behR false Gd Go Xd Xo (g + 1)) m (a + (Xo[g]).length) (List.replicate m false) G Y) := by_hid (by
              have h := HL2.out
              rw [HT.out, hbo] at h
              exact h)
            have hgl' : G.length = m := HL2.out.gl
            obtain ⟨ag2, cg2, eg, hgc⟩ := gone_form hcut2.gone
            rw [hgl'] at eg
            simp only [Value.slice.injEq, true_and] at eg
            obtain ⟨rfl, rfl⟩ := eg
            obtain ⟨gk, curk, rfl, hgb, hgk, hcells⟩ := hgc (by omega)
            have g1 := hcells (a + (Xo[g]).length) (by omega)
            have gf : wc.frozen? ⟨gk, a + (Xo[g]).length, none⟩ = false := Lib.frozen_of_heap hgk _
            have H6 : Hid (BehSt W (behR false Gd Go Xd Xo (g + 1)) m (a + (Xo[g]).length + 1) (outU (unitsN (Go.drop (g + 1)) (Xo.drop (g + 1)))) (G.set (a + (Xo[g]).length) Gd[g]) Y ∧ OutSt (w.heap.size + 1 + 1 + 1) w [(w.heap.size, #[.slice (some ⟨gh, 0, none⟩) Gd.length cd, .slice (some ⟨gi, 0, none⟩) Xd.length ci]), (w.heap.size + 1, #[.slice (some ⟨gm, 0, none⟩) Go.length cb, .slice (some ⟨gj, 0, none⟩) Xo.length cj]), (w.heap.size + 1 + 1, #[.slice none 0 0, .slice none 0 0])] w1.heap.size (.slice (some ⟨gk, 0, none⟩) m cg) (.slice (some ⟨gx, 0, none⟩) (m + 1) cx) (G.set (a + (Xo[g]).length) Gd[g]) Y (wc.setCell ⟨gk, a + (Xo[g]).length, none⟩ (.bool Gd[g]))) := by_hid (by
              refine ⟨⟨HL3.out.mark Gd[g] ham2, HC2.out⟩, ?_⟩
              have := OutSt.mark (G := G) (by rw [hgl']; exact HS2.out) (a + (Xo[g]).length) (by omega) Gd[g]
              rw [hgl'] at this
              exact this)
            have ham3 : ((a + (Xo[g]).length : Nat) : Int) < (m : Int) := by omega
            clear hcells hgc hcut2 hgk hbo HT
            go_wp2
            go_region
            all_goals
              go_wp2
              go_roundw
              case rel => exact ⟨a + (Xo[g]).length + 1, g + 1, _, _, by omega, by go_num, by go_num, by_hid ⟨H6.out.1, by first | exact H6.out.2 | exact H6.out.2.drew⟩⟩
              case measure => simp [intOf]; omega
          · rw [hbo] at m0
            have H6 : Hid (BehSt W (behR false Gd Go Xd Xo (g + 1)) m (a + (Xo[g]).length) (outU (unitsN (Go.drop (g + 1)) (Xo.drop (g + 1)))) G Y ∧ OutSt (w.heap.size + 1 + 1 + 1) w [(w.heap.size, #[.slice (some ⟨gh, 0, none⟩) Gd.length cd, .slice (some ⟨gi, 0, none⟩) Xd.length ci]), (w.heap.size + 1, #[.slice (some ⟨gm, 0, none⟩) Go.length cb, .slice (some ⟨gj, 0, none⟩) Xo.length cj]), (w.heap.size + 1 + 1, #[.slice none 0 0, .slice none 0 0])] w1.heap.size (.slice ag m cg) (.slice (some ⟨gx, 0, none⟩) (m + 1) cx) G Y wc) := by_hid (by
              refine ⟨⟨?_, ?_⟩, HS2.out⟩
              · have h := HL2.out
                rw [HT.out, hbo] at h
                exact h
              · have h := HCN.out
                rw [dif_pos hgd2, hbo] at h
                simpa using h)
            clear hcut2 hbo HT
            go_wp2
            go_roundw
            case rel => exact ⟨a + (Xo[g]).length, g + 1, _, _, by omega, by go_num, by go_num, H6⟩
            case measure => simp [intOf]; omega
        · have hgd2 : ¬ g < Go.length := by have := HX.out.2.2; omega
          have hgdi : ¬ ((g : Int) < (Gd.length : Int)) := by omega
          have H6 : Hid (BehSt W (behR false Gd Go Xd Xo (g + 1)) m (a + (Xo[g]).length) (outU (unitsN (Go.drop (g + 1)) (Xo.drop (g + 1)))) G Y ∧ OutSt (w.heap.size + 1 + 1 + 1) w [(w.heap.size, #[.slice ad Gd.length cd, .slice (some ⟨gi, 0, none⟩) Xd.length ci]), (w.heap.size + 1, #[.slice ab Go.length cb, .slice (some ⟨gj, 0, none⟩) Xo.length cj]), (w.heap.size + 1 + 1, #[.slice none 0 0, .slice none 0 0])] w1.heap.size (.slice ag m cg) (.slice (some ⟨gx, 0, none⟩) (m + 1) cx) G Y wc) := by_hid (by
            have h1 := HX.out
            obtain ⟨e1, e2⟩ := behR_end false Gd Go Xd Xo (g + 1) (by omega) h1.2.2 h1.1 h1.2.1
            rw [e1, e2]
            refine ⟨⟨?_, ?_⟩, HS2.out⟩
            · have h := HL2.out
              rw [behT, dif_neg (by omega)] at h
              exact h
            · have h := HCN.out
              rw [dif_neg hgd2] at h
              exact h)
          clear hcut2
          go_wp2
          go_roundw
          case rel => exact ⟨a + (Xo[g]).length, g + 1, _, _, by omega, by go_num, by go_num, H6⟩
          case measure => simp [intOf]; omega
    · have hge : Gd.length < g := by have := HX.out.1; omega
      have HE : Hid (unitsN G X = W ∧ X.length = G.length + 1 ∧ G.length = m) := by_hid (by
        have h := hv.out.1
        have h1 := HX.out
        obtain ⟨e1, e2⟩ := behR_end false Gd Go Xd Xo g hge h1.2.2 h1.1 h1.2.1
        rw [e1, e2] at h
        have ha : a = m := by have := h.cnt; omega
        subst ha
        exact ⟨h.laid.done, by rw [h.laid.xl, h.laid.gl], h.laid.gl⟩)
      have HS5 : Hid (OutSt (w.heap.size + 1 + 1 + 1) w [(w.heap.size, #[.slice ad Gd.length cd, .slice (some ⟨gi, 0, none⟩) Xd.length ci]), (w.heap.size + 1, #[.slice ab Go.length cb, .slice (some ⟨gj, 0, none⟩) Xo.length cj]), (w.heap.size + 1 + 1, #[.slice none 0 0, .slice none 0 0])] w1.heap.size (.slice ag m cg) (.slice (some ⟨gx, 0, none⟩) (m + 1) cx) G X wr) := hv.out.2
      clear hv
      have HDO : Hid (DoesAt (w.heap.size + 1 + 1 + 1) wr (.slice ag m cg) (.slice (some ⟨gx, 0, none⟩) (m + 1) cx) G X) := ⟨HS5.out.gone, HS5.out.ins⟩
      have hwl : w.heap.size + 1 + 1 < wr.heap.size := hlen3
      have HTT : Hid (total X ≤ 10000000) := by_hid (by
        have h1 := total_units HE.out.2.1 (by rw [HE.out.1]; exact HW.out.1)
        rw [HE.out.1] at h1
        have := HW.out.2.1
        omega)
      go_wp2_with fail
      refine (settled_any (w.heap.size + 1 + 1 + 1) _ _ G X _ HDO.out HE.out.2.1 (by have := HE.out.2.2; omega) (by have := HTT.out; omega)).mono ?_
      rintro e w5 ⟨gv', iv', rfl, hd5, hb5⟩
      have kb : w5.heap[w.heap.size + 1 + 1]? = some (.cells #[.slice none 0 0, .slice none 0 0] 129 (0, 0)) := by rw [hb5.block _ hwl]; exact HS5.out.boxes _ (List.mem_cons_of_mem _ (List.mem_cons_of_mem _ List.mem_cons_self))
      obtain ⟨Vs', hI'⟩ := hd5.ins
      obtain ⟨ag', cg', rfl, _⟩ := gone_form hd5.gone
      obtain ⟨gi', ci', _, rfl, _⟩ := hI'.form (by rw [settR_length G X HE.out.2.1]; omega)
      obtain ⟨gv', hgv'⟩ : ∃ z, z = Value.slice ag' G.length cg' := ⟨_, rfl⟩
      obtain ⟨iv', hiv'⟩ : ∃ z, z = Value.slice (some ⟨gi', 0, none⟩) (settR G X).length ci' := ⟨_, rfl⟩
      rw [← hgv'] at hd5
      rw [← hiv'] at hd5 hI'
      have n0 := own_ne hd5.gone kb (by decide)
      have n1 := own_ne hI'.row kb (by decide)
      have c50 : w5.cell? ⟨w.heap.size + 1 + 1, 0, none⟩ = some (.slice none 0 0) := Lib.cell_of_heap kb 0
      have c51 : w5.cell? ⟨w.heap.size + 1 + 1, 1, none⟩ = some (.slice none 0 0) := Lib.cell_of_heap kb 1
      have f50 : w5.frozen? ⟨w.heap.size + 1 + 1, 0, none⟩ = false := Lib.frozen_of_heap kb 0
      have f51 : w5.frozen? ⟨w.heap.size + 1 + 1, 1, none⟩ = false := Lib.frozen_of_heap kb 1
      have HF : Hid (DoesAt w.heap.size ((w5.setCell ⟨w.heap.size + 1 + 1, 0, none⟩ gv').setCell ⟨w.heap.size + 1 + 1, 1, none⟩ iv') gv' iv' G (settR G X) ∧ Below w.heap.size w ((w5.setCell ⟨w.heap.size + 1 + 1, 0, none⟩ gv').setCell ⟨w.heap.size + 1 + 1, 1, none⟩ iv')) := by_hid (by
        refine ⟨⟨own_base (own_set (own_set hd5.gone n0 _ _) n0 _ _) (by omega), Vs', own_base (own_set (own_set hI'.row n1 _ _) n1 _ _) (by omega), fun j hj => ?_, hI'.non, hI'.apart⟩, ?_⟩
        · have n2 := own_ne (hI'.each j hj) kb (by decide)
          exact own_base (own_set (own_set (hI'.each j hj) n2 _ _) n2 _ _) (by omega)
        · exact ((HS5.out.below.trans (hb5.mono (by omega))).setCell (p := ⟨w.heap.size + 1 + 1, 0, none⟩) (by show w.heap.size ≤ w.heap.size + 1 + 1; omega) _).setCell (p := ⟨w.heap.size + 1 + 1, 1, none⟩) (by show w.heap.size ≤ w.heap.size + 1 + 1; omega) _)
      clear hd5 hb5 hI' kb n0 n1
      subst hgv' hiv'
      go_wp2
      refine bodyPost_ret (v := .agg #[Value.slice ag' G.length cg', Value.slice (some ⟨gi', 0, none⟩) (settR G X).length ci']) (by simp [results, Try.results98, go_sem, c50, c51]) rfl ⟨_, _, G, X, rfl, ?_, ?_, ?_, ?_, ?_⟩
      · exact HF.out.1
      · exact HE.out.1
      · exact HE.out.2.2
      · exact HE.out.2.1
      · exact HF.out.2

end Go.Proofs.Ytpiankiacbghcaa
