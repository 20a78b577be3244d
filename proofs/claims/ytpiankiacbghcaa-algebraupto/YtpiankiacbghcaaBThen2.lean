/-
  The document's answer: then, the walk.
-/
import Derived.Test.YtpiankiacbghcaaBBeh0
namespace Go.Proofs.Ytpiankiacbghcaa
open Go.RowKit

set_option maxHeartbeats 40000000 in
set_option maxRecDepth 100000 in
theorem then_any (base : Nat) (gd id gb ib : Value) (Gd Gb : List Bool) (Xd Xb : List (List (List UInt8))) (w : World) (hd : DoesAt base w gd id Gd Xd) (hb : DoesAt base w gb ib Gb Xb) (hG : Gd.length ≤ 1000000) (hX : Xd.length = Gd.length + 1) (hY : Xb.length = Gb.length + 1) (hB : Gb.length ≤ 1000000)
    (hW : OkU (compU (unitsN Gd Xd) (unitsN Gb Xb))) (hby : bytesU (compU (unitsN Gd Xd) (unitsN Gb Xb)) ≤ 10000000) (hout : outU (unitsN Gd Xd) = Gb.length) (hTd : total Xd ≤ 10000000) :
    Calls Try.prog 97 #[.agg #[gd, id], .agg #[gb, ib]] w fun e w' => ∃ gv iv G X, e = .returned (.agg #[gv, iv]) ∧ DoesAt w.heap.size w' gv iv G (settR G X) ∧ unitsN G X = compU (unitsN Gd Xd) (unitsN Gb Xb) ∧ G.length = Gd.length ∧ X.length = G.length + 1 ∧ Below w.heap.size w w' := by
  obtain ⟨ad, cd, rfl, _⟩ := gone_form hd.gone
  obtain ⟨Vd, hId⟩ := hd.ins
  obtain ⟨gi, ci, cur, rfl, hbi, hgi, hic⟩ := hId.form (by omega)
  obtain ⟨ab, cb, rfl, _⟩ := gone_form hb.gone
  obtain ⟨Vb, hIb⟩ := hb.ins
  obtain ⟨gj, cj, cur2, rfl, hbj, hgj, hjc⟩ := hIb.form (by omega)
  obtain ⟨W, hWe⟩ : ∃ W, W = compU (unitsN Gd Xd) (unitsN Gb Xb) := ⟨_, rfl⟩
  rw [← hWe] at hW hby ⊢
  have HD : Hid (DoesAt base w (.slice ad Gd.length cd) (.slice (some ⟨gi, 0, none⟩) Xd.length ci) Gd Xd ∧ DoesAt base w (.slice ab Gb.length cb) (.slice (some ⟨gj, 0, none⟩) Xb.length cj) Gb Xb) := ⟨hd, hb⟩
  have HW : Hid (OkU W ∧ bytesU W ≤ 10000000 ∧ outU (unitsN Gd Xd) = Gb.length ∧ W = compU (unitsN Gd Xd) (unitsN Gb Xb)) := ⟨hW, hby, hout, hWe⟩
  have HX : Hid (Xd.length = Gd.length + 1 ∧ Xb.length = Gb.length + 1) := ⟨hX, hY⟩
  have hXl : Xd.length ≤ 1000001 := by omega
  have hXm : Xb.length ≤ 1000001 := by omega
  obtain ⟨i0, hi0, hz0, hz1, hz2⟩ := info_parts Try.infoStr
  clear hd hb hId hIb hgi hic hbi hgj hjc hbj hX hY hW hby hout hWe
  go_enter Try.func97, Try.ntmps97
  go_wp2_with fail
  refine (nothing_any Gd.length _ (by omega)).mono ?_
  rintro e w1 ⟨gv, iv, rfl, hd1, hb1⟩
  obtain ⟨k0, k1, k2, hbw, hsz1⟩ := three_boxes hb1
  obtain ⟨ag, cg, rfl, _⟩ := gone_form hd1.gone
  obtain ⟨Vs', hI'⟩ := hd1.ins
  obtain ⟨gx, cx, _, rfl, _⟩ := hI'.form (by simp)
  simp only [List.length_replicate] at hd1
  have HS0 : Hid (OutSt (w.heap.size + 1 + 1 + 1) w [(w.heap.size, #[.slice ad Gd.length cd, .slice (some ⟨gi, 0, none⟩) Xd.length ci]), (w.heap.size + 1, #[.slice ab Gb.length cb, .slice (some ⟨gj, 0, none⟩) Xb.length cj]), (w.heap.size + 1 + 1, #[.slice none 0 0, .slice none 0 0])] w1.heap.size (.slice ag Gd.length cg) (.slice (some ⟨gx, 0, none⟩) (Gd.length + 1) cx) (List.replicate Gd.length false) (List.replicate (Gd.length + 1) []) (w1.alloc (.cells #[.slice ag Gd.length cg, .slice (some ⟨gx, 0, none⟩) (Gd.length + 1) cx] 129))) := by_hid (by
    refine out_new (DoesAt.lower (base' := w.heap.size + 1 + 1 + 1) hd1 (by simp)) hbw ?_ (by omega)
    intro p hp
    simp only [List.mem_cons, List.not_mem_nil, or_false] at hp
    rcases hp with rfl | rfl | rfl
    · exact k0
    · exact k1
    · exact k2)
  clear hd1 hb1 hbw k0 k1 k2 hI'
  have c0 : (w1.alloc (.cells #[.slice ag Gd.length cg, .slice (some ⟨gx, 0, none⟩) (Gd.length + 1) cx] 129)).cell? ⟨w.heap.size, 0, none⟩ = some (.slice ad Gd.length cd) := Lib.cell_of_heap (HS0.out.boxes _ (List.mem_cons_self)) 0
  rw [List.length_replicate, List.length_replicate]
  go_wp2_with (refine wpList_copy_gone rfl _ _ rfl (by simp) rfl rfl HS0.out (HD.out.1.below HS0.out.below (Nat.le_refl _)).gone ?_; intro w2 HS2)
  have HST : Hid (OutSt (w.heap.size + 1 + 1 + 1) w [(w.heap.size, #[.slice ad Gd.length cd, .slice (some ⟨gi, 0, none⟩) Xd.length ci]), (w.heap.size + 1, #[.slice ab Gb.length cb, .slice (some ⟨gj, 0, none⟩) Xb.length cj]), (w.heap.size + 1 + 1, #[.slice none 0 0, .slice none 0 0])] w1.heap.size (.slice ag Gd.length cg) (.slice (some ⟨gx, 0, none⟩) (Gd.length + 1) cx) Gd (List.replicate (Gd.length + 1) []) w2) := HS2
  clear HS2 c0 HS0
  obtain ⟨c00, c01, c10, c11, c30, c31, hz3⟩ := HST.out.cells
  go_loopw [6, 7] (fun ax gx' wr => ∃ (a g : Nat) (G : List Bool) (X : List (List (List UInt8))), g ≤ Gd.length ∧ ax = .int .i64 a ∧ gx' = .int .i64 g ∧ Hid (ThenSt W (unitsN (Gd.drop g) (Xd.drop g)) Gd Gb Xb a g G X ∧ OutSt (w.heap.size + 1 + 1 + 1) w [(w.heap.size, #[.slice ad Gd.length cd, .slice (some ⟨gi, 0, none⟩) Xd.length ci]), (w.heap.size + 1, #[.slice ab Gb.length cb, .slice (some ⟨gj, 0, none⟩) Xb.length cj]), (w.heap.size + 1 + 1, #[.slice none 0 0, .slice none 0 0])] w1.heap.size (.slice ag Gd.length cg) (.slice (some ⟨gx, 0, none⟩) (Gd.length + 1) cx) G X wr)) (fun _ gx' _ => Gd.length + 1 - (intOf gx').toNat)
  case atStart =>
    refine ⟨0, 0, Gd, _, Nat.zero_le _, rfl, rfl, ⟨⟨?_, ?_⟩, HST.out⟩⟩
    · have h := laidC_new W Gd Gd.length rfl
      have e := HW.out.2.2.2
      rw [List.drop_zero, List.drop_zero, List.drop_zero, List.drop_zero, ← e]
      exact h
    · rw [List.drop_zero, List.drop_zero, HW.out.2.2.1]
      omega
  case round =>
    clear c00 c01 c10 c11 c30 c31 hz3
    obtain ⟨a, g, G, X, hg, rfl, rfl, hv⟩ := hrel
    obtain ⟨c00, c01, c10, c11, c30, c31, hz3⟩ := hv.out.2.cells
    have hgX : g < Xd.length := by have := HX.out.1; omega
    have hgi : (g : Int) < (Xd.length : Int) := by omega
    have hXdg : (Xd[g]).length ≤ 10000000 := Nat.le_trans (le_total g hgX) hTd
    go_wp2
    go_loopw [6, 8] (fun ax ix wr => ∃ (a i : Nat) (G : List Bool) (X : List (List (List UInt8))), i ≤ (Xd[g]).length ∧ ax = .int .i64 a ∧ ix = .int .i64 i ∧ Hid (ThenSt W (((Xd[g]).drop i).map Un.i ++ restD Gd Xd g) Gd Gb Xb a g G X ∧ OutSt (w.heap.size + 1 + 1 + 1) w [(w.heap.size, #[.slice ad Gd.length cd, .slice (some ⟨gi, 0, none⟩) Xd.length ci]), (w.heap.size + 1, #[.slice ab Gb.length cb, .slice (some ⟨gj, 0, none⟩) Xb.length cj]), (w.heap.size + 1 + 1, #[.slice none 0 0, .slice none 0 0])] w1.heap.size (.slice ag Gd.length cg) (.slice (some ⟨gx, 0, none⟩) (Gd.length + 1) cx) G X wr)) (fun _ ix _ => (Xd[g]).length - (intOf ix).toNat)
    case atStart =>
      refine ⟨a, 0, G, X, Nat.zero_le _, rfl, rfl, ⟨⟨?_, ?_⟩, hv.out.2⟩⟩
      · have h := hv.out.1.laid
        rw [restD_eq Gd Xd g hgX HX.out.1] at h
        rw [List.drop_zero]
        exact h
      · have h := hv.out.1.cnt
        rw [restD_eq Gd Xd g hgX HX.out.1] at h
        rw [List.drop_zero]
        exact h
    case round =>
      clear c00 c01 c10 c11 c30 c31 hz3 hv
      obtain ⟨a, i, G, X, hi, rfl, rfl, hv⟩ := hrel
      obtain ⟨c00, c01, c10, c11, c30, c31, hz3⟩ := hv.out.2.cells
      obtain ⟨sao, scap, e0, _, hgil, eS⟩ := HD.out.1.gapB hv.out.2.below g hgX
      have ES : Hid (∀ i (hi : i < (Xd[g]).length), ∃ gs, sao = some ⟨gs, 0, none⟩ ∧ gs < w.heap.size ∧ wr.cell? ⟨gs, i, none⟩ = some (.string (bs (Xd[g])[i]))) := eS
      clear eS
      have hxl : X.length = Gd.length + 1 := hv.out.1.laid.xl
      have hgx : g < X.length := by omega
      have hlen3 : w.heap.size + 1 + 1 + 1 ≤ wr.heap.size := lt_of_blk (hv.out.2.boxes _ (List.mem_cons_of_mem _ (List.mem_cons_of_mem _ List.mem_cons_self)))
      have hszr := hv.out.2.below.size
      have hgn : (g : Int) < (Gd.length : Int) + 1 := by omega
      by_cases hlt : i < (Xd[g]).length
      · have hdrop : ((Xd[g]).drop i).map Un.i ++ restD Gd Xd g = Un.i (Xd[g])[i] :: (((Xd[g]).drop (i + 1)).map Un.i ++ restD Gd Xd g) := by rw [List.drop_eq_getElem_cons hlt]; rfl
        have hal : a < Gb.length := by
          have h := hv.out.1.cnt
          rw [hdrop] at h
          simp only [outU] at h
          omega
        have haX : a < Xb.length := by have := HX.out.2; omega
        have HL1 : Hid (LaidC W ((Xb[a]).map Un.i ++ ((if Gb[a] then [] else [Un.i (Xd[g])[i]]) ++ compU (((Xd[g]).drop (i + 1)).map Un.i ++ restD Gd Xd g) (unitsN (Gb.drop (a + 1)) (Xb.drop (a + 1))))) Gd.length g Gd G X) := by_hid (by
          have h := hv.out.1.laid
          rw [hdrop, then_i _ _ Gb Xb a hal HX.out.2] at h
          exact h)
        have HC1 : Hid (a + 1 + outU (((Xd[g]).drop (i + 1)).map Un.i ++ restD Gd Xd g) = Gb.length) := by_hid (by
          have h := hv.out.1.cnt
          rw [hdrop] at h
          simp only [outU] at h
          omega)
        clear hdrop
        obtain ⟨tao, tcap, f0, fS, hgjl, _⟩ := HD.out.2.gapB hv.out.2.below a haX
        obtain ⟨gm, hab, _⟩ := (HD.out.2.below hv.out.2.below (Nat.le_refl _)).sign a hal
        obtain ⟨gs, hsa, _⟩ := ES.out i hlt
        subst hab hsa
        have HSRC : Hid (SrcAt wr (.slice tao (Xb[a]).length tcap) (Xb[a]).length (strV Xb[a])) := fS
        have HS : Hid (OutSt (w.heap.size + 1 + 1 + 1) w [(w.heap.size, #[.slice ad Gd.length cd, .slice (some ⟨gi, 0, none⟩) Xd.length ci]), (w.heap.size + 1, #[.slice (some ⟨gm, 0, none⟩) Gb.length cb, .slice (some ⟨gj, 0, none⟩) Xb.length cj]), (w.heap.size + 1 + 1, #[.slice none 0 0, .slice none 0 0])] w1.heap.size (.slice ag Gd.length cg) (.slice (some ⟨gx, 0, none⟩) (Gd.length + 1) cx) G X wr) := hv.out.2
        have hXg : (X[g]).length ≤ 10000000 := by
          have h := HL1.out.gap HW.out.1
          rw [List.getD_eq_getElem?_getD, List.getElem?_eq_getElem hgx] at h
          exact Nat.le_trans h HW.out.2.1
        have hXb : (Xb[a]).length ≤ 10000000 := by
          have h := (HL1.out.put (Xb[a]) hgx).gap HW.out.1
          rw [setD_self _ _ _ _ hgx, List.length_append] at h
          have := HW.out.2.1
          omega
        have hai : (a : Int) < (Gb.length : Int) := by omega
        have haj : (a : Int) < (Xb.length : Int) := by omega
        have hii : (i : Int) < ((Xd[g]).length : Int) := by omega
        clear fS
        obtain ⟨Vq, dao, dcap, hIq, hdq, k1, kf, hrow, hnil, hn1, hn2, hgl⟩ := HS.out.spot hxl (g) hgx
        have HDR : Hid (wr.ownsRow (w.heap.size + 1 + 1 + 1) 9 1 (.slice dao (X[g]).length dcap) (X[g]).length (strV X[g])) := hrow
        have HNIL : Hid ((X[g]).length = 0 → Value.slice dao (X[g]).length dcap = .slice none 0 0) := hnil
        have HPUT : Hid (∀ v9 w9, AppRes (w.heap.size + 1 + 1 + 1) 9 1 (wr.drew) (.slice dao (X[g]).length dcap) (X[g]).length (strV X[g]) (Xb[a]).length (strV Xb[a]) wr.heap.size v9 w9 → OutSt (w.heap.size + 1 + 1 + 1) w [(w.heap.size, #[.slice ad Gd.length cd, .slice (some ⟨gi, 0, none⟩) Xd.length ci]), (w.heap.size + 1, #[.slice (some ⟨gm, 0, none⟩) Gb.length cb, .slice (some ⟨gj, 0, none⟩) Xb.length cj]), (w.heap.size + 1 + 1, #[.slice none 0 0, .slice none 0 0])] w1.heap.size (.slice ag Gd.length cg) (.slice (some ⟨gx, 0, none⟩) (Gd.length + 1) cx) G (X.set (g) (X[g] ++ Xb[a])) (w9.setCell ⟨gx, g, none⟩ v9)) := by_hid (fun v9 w9 hA => HS.out.putAt hxl (g) hgx ((Below.refl _ _).drew) k1 (by simpa using hA))
        obtain ⟨hgxb9, hgne9⟩ := HS.out.rowLow hxl (by omega)
        have hlo9 : (w.heap.size + 1 + 1 + 1) ≤ wr.heap.size := by omega
        have KA : Hid ((wr.drew).cell? ⟨w1.heap.size, 1, none⟩ = some (.slice (some ⟨gx, 0, none⟩) (Gd.length + 1) cx) ∧ (wr.drew).cell? ⟨(w.heap.size + 1), 1, none⟩ = some (.slice (some ⟨gj, 0, none⟩) Xb.length cj) ∧ (wr.drew).cell? ⟨gj, a, none⟩ = some (.slice tao (Xb[a]).length tcap)) := ⟨c31, c11, f0⟩
        have KF : Hid (∀ v9 w9, AppRes (w.heap.size + 1 + 1 + 1) 9 1 (wr.drew) (.slice dao (X[g]).length dcap) (X[g]).length (strV X[g]) (Xb[a]).length (strV Xb[a]) wr.heap.size v9 w9 → (w9.cell? ⟨w1.heap.size, 1, none⟩ = some (.slice (some ⟨gx, 0, none⟩) (Gd.length + 1) cx) ∧ w9.cell? ⟨(w.heap.size + 1), 1, none⟩ = some (.slice (some ⟨gj, 0, none⟩) Xb.length cj) ∧ w9.cell? ⟨gj, a, none⟩ = some (.slice tao (Xb[a]).length tcap)) ∧ ∀ v, ((w9.setCell ⟨gx, g, none⟩ v).cell? ⟨w1.heap.size, 1, none⟩ = some (.slice (some ⟨gx, 0, none⟩) (Gd.length + 1) cx) ∧ (w9.setCell ⟨gx, g, none⟩ v).cell? ⟨(w.heap.size + 1), 1, none⟩ = some (.slice (some ⟨gj, 0, none⟩) Xb.length cj) ∧ (w9.setCell ⟨gx, g, none⟩ v).cell? ⟨gj, a, none⟩ = some (.slice tao (Xb[a]).length tcap))) := by_hid (fun v9 w9 hA => by
          have h0 := (hA.grown.cell_far ⟨w1.heap.size, 1, none⟩ (by simp; omega) (Ne.symm hn1)).trans KA.out.1
          have h1 := (hA.grown.cell_far ⟨(w.heap.size + 1), 1, none⟩ (by have hl : (w.heap.size + 1) < (w.heap.size + 1 + 1 + 1) := (by omega); simp; omega) (fun e => by have hl : (w.heap.size + 1) < (w.heap.size + 1 + 1 + 1) := (by omega); have h3 : (w.heap.size + 1 + 1 + 1) ≤ (w.heap.size + 1) := (HDR.out.lt _ e.symm).1; omega)).trans KA.out.2.1
          have h2 := (hA.grown.cell_far ⟨gj, a, none⟩ (by have hl : gj < (w.heap.size + 1 + 1 + 1) := (by omega); simp; omega) (fun e => by have hl : gj < (w.heap.size + 1 + 1 + 1) := (by omega); have h3 : (w.heap.size + 1 + 1 + 1) ≤ gj := (HDR.out.lt _ e.symm).1; omega)).trans KA.out.2.2
          exact ⟨⟨h0, h1, h2⟩, fun v => ⟨(World.cell?_setCell_other _ _ _ _ (fun e => hgne9 (congrArg Addr.block e).symm)).trans h0, (World.cell?_setCell_other _ _ _ _ (fun e => by have hl : (w.heap.size + 1) < (w.heap.size + 1 + 1 + 1) := (by omega); have e1 : gx = (w.heap.size + 1) := congrArg Addr.block e; omega)).trans h1, (World.cell?_setCell_other _ _ _ _ (fun e => by have hl : gj < (w.heap.size + 1 + 1 + 1) := (by omega); have e1 : gx = gj := congrArg Addr.block e; omega)).trans h2⟩⟩)
        clear hrow hnil hIq hdq
        go_upto_region 10 with fail
        go_cut [] (fun wc => OutSt (w.heap.size + 1 + 1 + 1) w [(w.heap.size, #[.slice ad Gd.length cd, .slice (some ⟨gi, 0, none⟩) Xd.length ci]), (w.heap.size + 1, #[.slice (some ⟨gm, 0, none⟩) Gb.length cb, .slice (some ⟨gj, 0, none⟩) Xb.length cj]), (w.heap.size + 1 + 1, #[.slice none 0 0, .slice none 0 0])] w1.heap.size (.slice ag Gd.length cg) (.slice (some ⟨gx, 0, none⟩) (Gd.length + 1) cx) G (X.set (g) (X[g] ++ Xb[a])) wc)
        case first =>
          go_wp2
          refine wp_region_noPanic ?_
          refine wp_region_held_drew (S := fun wx => wx.cell? ⟨w1.heap.size, 1, none⟩ = some (.slice (some ⟨gx, 0, none⟩) (Gd.length + 1) cx) ∧ wx.cell? ⟨(w.heap.size + 1), 1, none⟩ = some (.slice (some ⟨gj, 0, none⟩) Xb.length cj) ∧ wx.cell? ⟨gj, a, none⟩ = some (.slice tao (Xb[a]).length tcap)) (by kernel_rfl) KA.out (fun hHeld => ?_)
          refine wpAnyH_take (i := 0) (v := ?_) rfl (by kernel_rfl) (by kernel_rfl) (by kernel_rfl) (fun _ _ _ h => h) (Or.inl ⟨by rfl, ?_⟩) (by assumption) ?_
          rotate_left
          · intro wq hSw
            (try dsimp only at hSw)
            go_simp
            (try with_reducible rfl)
          refine wpAnyH_take (i := 1) (v := ?_) rfl (by kernel_rfl) (by kernel_rfl) (by kernel_rfl) (fun _ _ _ h => h) (Or.inl ⟨by rfl, ?_⟩) (by assumption) ?_
          rotate_left
          · intro wq hSw
            (try dsimp only at hSw)
            go_simp
            (try with_reducible rfl)
          refine wpAnyH_take (i := 2) (v := ?_) rfl (by kernel_rfl) (by kernel_rfl) (by kernel_rfl) (fun _ _ _ h => h) (Or.inl ⟨by rfl, ?_⟩) (by assumption) ?_
          rotate_left
          · intro wq hSw
            (try dsimp only at hSw)
            go_simp
            (try with_reducible rfl)
          refine wpAnyH_take (i := 3) (v := ?_) rfl (by kernel_rfl) (by kernel_rfl) (by kernel_rfl) (fun _ _ _ h => h) (Or.inl ⟨by rfl, ?_⟩) (by assumption) ?_
          rotate_left
          · intro wq hSw
            (try dsimp only at hSw)
            go_simp
            (try with_reducible rfl)
          refine wpAnyH_take (i := 4) (v := ?_) rfl (by kernel_rfl) (by kernel_rfl) (by kernel_rfl) (fun _ _ _ h => h) (Or.inl ⟨by rfl, ?_⟩) (by assumption) ?_
          rotate_left
          · intro wq hSw
            (try dsimp only at hSw)
            go_simp
            (try with_reducible rfl)
          refine wpAnyH_take (i := 5) (v := ?_) rfl (by kernel_rfl) (by kernel_rfl) (by kernel_rfl) (fun _ _ _ h => h) (Or.inl ⟨by rfl, ?_⟩) (by assumption) ?_
          rotate_left
          · intro wq hSw
            (try dsimp only at hSw)
            go_simp
            (try with_reducible rfl)
          refine wpAnyH_take (i := 6) (v := ?_) rfl (by kernel_rfl) (by kernel_rfl) (by kernel_rfl) (fun _ _ _ h => h) (Or.inl ⟨by rfl, ?_⟩) (by assumption) ?_
          rotate_left
          · intro wq hSw
            (try dsimp only at hSw)
            go_simp
            (try with_reducible rfl)
          refine wpAnyH_take (i := 8) (v := ?_) rfl (by kernel_rfl) (by kernel_rfl) (by kernel_rfl) (fun _ _ _ h => h) (Or.inl ⟨by rfl, ?_⟩) (by assumption) ?_
          rotate_left
          · intro wq hSw
            (try dsimp only at hSw)
            go_simp
            (try with_reducible rfl)
          refine wpAnyH_take (i := 9) (v := ?_) rfl (by kernel_rfl) (by kernel_rfl) (by kernel_rfl) (fun _ _ _ h => h) (Or.inl ⟨by rfl, ?_⟩) (by assumption) ?_
          rotate_left
          · intro wq hSw
            (try dsimp only at hSw)
            go_simp
            (try with_reducible rfl)
          refine wpAnyH_take (i := 10) (v := ?_) rfl (by kernel_rfl) (by kernel_rfl) (by kernel_rfl) (fun _ _ _ h => h) (Or.inl ⟨by rfl, ?_⟩) (by assumption) ?_
          rotate_left
          · intro wq hSw
            (try dsimp only at hSw)
            go_simp
            (try with_reducible rfl)
          refine wpAnyH_take (i := 11) (v := ?_) rfl (by kernel_rfl) (by kernel_rfl) (by kernel_rfl) (fun _ _ _ h => h) (Or.inl ⟨by rfl, ?_⟩) (by assumption) ?_
          rotate_left
          · intro wq hSw
            (try dsimp only at hSw)
            go_simp
            (try with_reducible rfl)
          refine wpAnyH_take (i := 12) (v := ?_) rfl (by kernel_rfl) (by kernel_rfl) (by kernel_rfl) (fun _ _ _ h => h) (Or.inl ⟨by rfl, ?_⟩) (by assumption) ?_
          rotate_left
          · intro wq hSw
            (try dsimp only at hSw)
            go_simp
            (try with_reducible rfl)
          refine wpAnyH_ready (rs := [7]) (by kernel_rfl) (by simp) ?_
          refine AllReadyH.cons rfl (fun K hK => ?_) AllReadyH.nil
          go_simp
          refine hK.out _ _ KA.out (fun hHeld => ?_)
          clear hK K
          refine wpAnyH_ready (rs := [13]) (by kernel_rfl) (by simp) ?_
          refine AllReadyH.cons rfl (fun K hK => ?_) AllReadyH.nil
          refine step_append_any (by rfl) _ _ _ (by rfl) (w.heap.size + 1 + 1 + 1) 9 i0 _ 1 16 Try.underlying61 hi0 hz0 hz1 hz2 rfl (by omega) (.slice dao (X[g]).length dcap) _ _ (by rfl) (HDR.out.drew) HNIL.out (.slice tao (Xb[a]).length tcap) (Xb[a]).length (strV Xb[a]) (by rfl) (HSRC.out.drew) (by simp [strV_length]) (strV_one _) (by unfold maxLen; omega) (by omega) (by simp; omega) wr.heap.size (by simp) ?_
          intro ao9 cap9 w9 hA9
          have KC : Hid (_) := KF.out _ _ hA9
          have d0 : w9.cell? ⟨gx, g, none⟩ = some (.slice dao (X[g]).length dcap) := (hA9.grown.cell_far _ (by simp; omega) (Ne.symm hn2)).trans (((Below.refl _ _).drew : Below wr.heap.size wr (wr.drew)).cell (p := ⟨gx, g, none⟩) hgl |>.trans k1)
          have d1 : w9.frozen? ⟨gx, g, none⟩ = false := (hA9.grown.frozen_far _ (by simp; omega) (Ne.symm hn2)).trans ((World.frozen?_of_block (a := ⟨gx, g, none⟩) (((Below.refl _ _).drew : Below wr.heap.size wr (wr.drew)).block gx hgl)).trans kf)
          have H9 : Hid (_) := hA9
          clear hA9
          refine hK.out _ _ KC.out.1 (fun hHeld => ?_)
          clear hK K
          refine wpAnyH_take (i := 14) (v := ?_) rfl (by kernel_rfl) (by kernel_rfl) (by kernel_rfl) (fun _ _ _ h => h) (Or.inl ⟨by rfl, ?_⟩) (by assumption) ?_
          rotate_left
          · intro wq hSw
            (try dsimp only at hSw)
            go_simp
            (try with_reducible rfl)
          refine wpAnyH_ready (rs := [15]) (by kernel_rfl) (by simp) ?_
          refine AllReadyH.cons rfl (fun K hK => ?_) AllReadyH.nil
          go_simp
          refine hK.out _ _ (KC.out.2 _) (fun hHeld => ?_)
          clear hK K
          refine wpAnyH_done (by kernel_rfl) ?_ _
          refine NoPanic.normal ?_
          go_wp2
          go_meet
          exact HPUT.out _ _ H9.out
        case rest =>
          obtain ⟨Y, hxl2, hY3, HL2, hcut2⟩ : ∃ Y, Y.length = Gd.length + 1 ∧ (∀ h : g < Y.length, (Y[g]'h).length ≤ 20000000) ∧ Hid (LaidC W ((if Gb[a] then [] else [Un.i (Xd[g])[i]]) ++ compU (((Xd[g]).drop (i + 1)).map Un.i ++ restD Gd Xd g) (unitsN (Gb.drop (a + 1)) (Xb.drop (a + 1)))) Gd.length g Gd G Y) ∧ OutSt (w.heap.size + 1 + 1 + 1) w [(w.heap.size, #[.slice ad Gd.length cd, .slice (some ⟨gi, 0, none⟩) Xd.length ci]), (w.heap.size + 1, #[.slice (some ⟨gm, 0, none⟩) Gb.length cb, .slice (some ⟨gj, 0, none⟩) Xb.length cj]), (w.heap.size + 1 + 1, #[.slice none 0 0, .slice none 0 0])] w1.heap.size (.slice ag Gd.length cg) (.slice (some ⟨gx, 0, none⟩) (Gd.length + 1) cx) G Y wc := ⟨X.set g (X[g] ++ Xb[a]), by simpa using hxl, fun _ => by rw [List.getElem_set_self, List.length_append]; omega, HL1.out.put (Xb[a]) hgx, hcut⟩
          clear hcut HPUT KA KF hlo9 hgxb9 hgne9 HDR HNIL k1 kf hn1 hn2 hgl c00 c01 c10 c11 c30 c31 hz3 e0 f0 hXg HSRC HS hxl hgx
          have HS2 : Hid (OutSt (w.heap.size + 1 + 1 + 1) w [(w.heap.size, #[.slice ad Gd.length cd, .slice (some ⟨gi, 0, none⟩) Xd.length ci]), (w.heap.size + 1, #[.slice (some ⟨gm, 0, none⟩) Gb.length cb, .slice (some ⟨gj, 0, none⟩) Xb.length cj]), (w.heap.size + 1 + 1, #[.slice none 0 0, .slice none 0 0])] w1.heap.size (.slice ag Gd.length cg) (.slice (some ⟨gx, 0, none⟩) (Gd.length + 1) cx) G Y wc) := hcut2
          obtain ⟨c00, c01, c10, c11, c30, c31, hz3⟩ := hcut2.cells
          obtain ⟨gm2, hab, m0⟩ := (HD.out.2.below hcut2.below (Nat.le_refl _)).sign a hal
          simp only [Option.some.injEq, Addr.mk.injEq, and_true] at hab
          subst hab
          have hxl : Y.length = Gd.length + 1 := hxl2
          have hgx : g < Y.length := by omega
          have hYg := hY3 hgx
          have hlen4 : w.heap.size + 1 + 1 + 1 ≤ wc.heap.size := lt_of_blk (hcut2.boxes _ (List.mem_cons_of_mem _ (List.mem_cons_of_mem _ List.mem_cons_self)))
          cases hbb : Gb[a]
          · rw [hbb] at m0
            have HL3 : Hid (LaidC W ([(Xd[g])[i]].map Un.i ++ compU (((Xd[g]).drop (i + 1)).map Un.i ++ restD Gd Xd g) (unitsN (Gb.drop (a + 1)) (Xb.drop (a + 1)))) Gd.length g Gd G Y) := by_hid (by have h := HL2.out; rw [hbb] at h; exact h)
            obtain ⟨sao2, scap2, e0, _, _, eS2⟩ := HD.out.1.gapB hcut2.below g hgX
            obtain ⟨gs2, hsa2, hgs2, e1⟩ := eS2 i hlt
            subst hsa2
            have HONE : Hid (SrcAt (wc.drew.alloc (.cells #[.string (bs (Xd[g])[i])] 9)) (.slice (some ⟨wc.heap.size, 0, none⟩) 1 1) 1 (strV [(Xd[g])[i]])) := by_hid (.inr ⟨_, _, rfl, by omega, fun j u hu => cell_one_new _ _ _ j u hu⟩)
            clear hcut2 hbb eS2
            obtain ⟨Vq, dao, dcap, hIq, hdq, k1, kf, hrow, hnil, hn1, hn2, hgl⟩ := HS2.out.spot hxl (g) hgx
            have HDR : Hid (wc.ownsRow (w.heap.size + 1 + 1 + 1) 9 1 (.slice dao (Y[g]).length dcap) (Y[g]).length (strV Y[g])) := hrow
            have HNIL : Hid ((Y[g]).length = 0 → Value.slice dao (Y[g]).length dcap = .slice none 0 0) := hnil
            have HPUT : Hid (∀ v9 w9, AppRes (w.heap.size + 1 + 1 + 1) 9 1 (wc.drew.alloc (.cells #[.string (bs (Xd[g])[i])] 9)) (.slice dao (Y[g]).length dcap) (Y[g]).length (strV Y[g]) 1 (strV [(Xd[g])[i]]) (wc.heap.size + 1) v9 w9 → OutSt (w.heap.size + 1 + 1 + 1) w [(w.heap.size, #[.slice ad Gd.length cd, .slice (some ⟨gi, 0, none⟩) Xd.length ci]), (w.heap.size + 1, #[.slice (some ⟨gm, 0, none⟩) Gb.length cb, .slice (some ⟨gj, 0, none⟩) Xb.length cj]), (w.heap.size + 1 + 1, #[.slice none 0 0, .slice none 0 0])] w1.heap.size (.slice ag Gd.length cg) (.slice (some ⟨gx, 0, none⟩) (Gd.length + 1) cx) G (Y.set (g) (Y[g] ++ [(Xd[g])[i]])) (w9.setCell ⟨gx, g, none⟩ v9)) := by_hid (fun v9 w9 hA => HS2.out.putAt hxl (g) hgx ((Below.refl _ _).drew.alloc (Nat.le_refl _) _) k1 (by simpa using hA))
            obtain ⟨hgxb9, hgne9⟩ := HS2.out.rowLow hxl (by omega)
            have hlo9 : (w.heap.size + 1 + 1 + 1) ≤ wc.heap.size := by omega
            have KA : Hid ((wc.drew).cell? ⟨w1.heap.size, 1, none⟩ = some (.slice (some ⟨gx, 0, none⟩) (Gd.length + 1) cx) ∧ (wc.drew).cell? ⟨w.heap.size, 1, none⟩ = some (.slice (some ⟨gi, 0, none⟩) Xd.length ci) ∧ (wc.drew).cell? ⟨gi, g, none⟩ = some (.slice (some ⟨gs2, 0, none⟩) (Xd[g]).length scap2) ∧ (wc.drew).cell? ⟨gs2, i, none⟩ = some (.string (bs (Xd[g])[i]))) := ⟨c31, c01, e0, e1⟩
            have KB : Hid ((wc.drew.alloc (.cells #[.string (bs (Xd[g])[i])] 9)).cell? ⟨w1.heap.size, 1, none⟩ = some (.slice (some ⟨gx, 0, none⟩) (Gd.length + 1) cx) ∧ (wc.drew.alloc (.cells #[.string (bs (Xd[g])[i])] 9)).cell? ⟨w.heap.size, 1, none⟩ = some (.slice (some ⟨gi, 0, none⟩) Xd.length ci) ∧ (wc.drew.alloc (.cells #[.string (bs (Xd[g])[i])] 9)).cell? ⟨gi, g, none⟩ = some (.slice (some ⟨gs2, 0, none⟩) (Xd[g]).length scap2) ∧ (wc.drew.alloc (.cells #[.string (bs (Xd[g])[i])] 9)).cell? ⟨gs2, i, none⟩ = some (.string (bs (Xd[g])[i]))) := by_hid (by
              have hb := (((Below.refl _ _).drew.alloc (Nat.le_refl _) _) : Below wc.heap.size wc (wc.drew.alloc (.cells #[.string (bs (Xd[g])[i])] 9)))
              exact ⟨(hb.cell (p := ⟨w1.heap.size, 1, none⟩) hz3).trans c31, (hb.cell (p := ⟨w.heap.size, 1, none⟩) (show w.heap.size < wc.heap.size from Nat.lt_of_lt_of_le (show w.heap.size < (w.heap.size + 1 + 1 + 1) from (by omega)) hlo9)).trans c01, (hb.cell (p := ⟨gi, g, none⟩) (show gi < wc.heap.size from Nat.lt_of_lt_of_le (show gi < (w.heap.size + 1 + 1 + 1) from (by omega)) hlo9)).trans e0, (hb.cell (p := ⟨gs2, i, none⟩) (show gs2 < wc.heap.size from Nat.lt_of_lt_of_le (show gs2 < (w.heap.size + 1 + 1 + 1) from (by omega)) hlo9)).trans e1⟩)
            have KF : Hid (∀ v9 w9, AppRes (w.heap.size + 1 + 1 + 1) 9 1 (wc.drew.alloc (.cells #[.string (bs (Xd[g])[i])] 9)) (.slice dao (Y[g]).length dcap) (Y[g]).length (strV Y[g]) 1 (strV [(Xd[g])[i]]) (wc.heap.size + 1) v9 w9 → (w9.cell? ⟨w1.heap.size, 1, none⟩ = some (.slice (some ⟨gx, 0, none⟩) (Gd.length + 1) cx) ∧ w9.cell? ⟨w.heap.size, 1, none⟩ = some (.slice (some ⟨gi, 0, none⟩) Xd.length ci) ∧ w9.cell? ⟨gi, g, none⟩ = some (.slice (some ⟨gs2, 0, none⟩) (Xd[g]).length scap2) ∧ w9.cell? ⟨gs2, i, none⟩ = some (.string (bs (Xd[g])[i]))) ∧ ∀ v, ((w9.setCell ⟨gx, g, none⟩ v).cell? ⟨w1.heap.size, 1, none⟩ = some (.slice (some ⟨gx, 0, none⟩) (Gd.length + 1) cx) ∧ (w9.setCell ⟨gx, g, none⟩ v).cell? ⟨w.heap.size, 1, none⟩ = some (.slice (some ⟨gi, 0, none⟩) Xd.length ci) ∧ (w9.setCell ⟨gx, g, none⟩ v).cell? ⟨gi, g, none⟩ = some (.slice (some ⟨gs2, 0, none⟩) (Xd[g]).length scap2) ∧ (w9.setCell ⟨gx, g, none⟩ v).cell? ⟨gs2, i, none⟩ = some (.string (bs (Xd[g])[i])))) := by_hid (fun v9 w9 hA => by
              have h0 := (hA.grown.cell_far ⟨w1.heap.size, 1, none⟩ (by simp; omega) (Ne.symm hn1)).trans KB.out.1
              have h1 := (hA.grown.cell_far ⟨w.heap.size, 1, none⟩ (by have hl : w.heap.size < (w.heap.size + 1 + 1 + 1) := (by omega); simp; omega) (fun e => by have hl : w.heap.size < (w.heap.size + 1 + 1 + 1) := (by omega); have h3 : (w.heap.size + 1 + 1 + 1) ≤ w.heap.size := (HDR.out.lt _ e.symm).1; omega)).trans KB.out.2.1
              have h2 := (hA.grown.cell_far ⟨gi, g, none⟩ (by have hl : gi < (w.heap.size + 1 + 1 + 1) := (by omega); simp; omega) (fun e => by have hl : gi < (w.heap.size + 1 + 1 + 1) := (by omega); have h3 : (w.heap.size + 1 + 1 + 1) ≤ gi := (HDR.out.lt _ e.symm).1; omega)).trans KB.out.2.2.1
              have h3 := (hA.grown.cell_far ⟨gs2, i, none⟩ (by have hl : gs2 < (w.heap.size + 1 + 1 + 1) := (by omega); simp; omega) (fun e => by have hl : gs2 < (w.heap.size + 1 + 1 + 1) := (by omega); have h3 : (w.heap.size + 1 + 1 + 1) ≤ gs2 := (HDR.out.lt _ e.symm).1; omega)).trans KB.out.2.2.2
              exact ⟨⟨h0, h1, h2, h3⟩, fun v => ⟨(World.cell?_setCell_other _ _ _ _ (fun e => hgne9 (congrArg Addr.block e).symm)).trans h0, (World.cell?_setCell_other _ _ _ _ (fun e => by have hl : w.heap.size < (w.heap.size + 1 + 1 + 1) := (by omega); have e1 : gx = w.heap.size := congrArg Addr.block e; omega)).trans h1, (World.cell?_setCell_other _ _ _ _ (fun e => by have hl : gi < (w.heap.size + 1 + 1 + 1) := (by omega); have e1 : gx = gi := congrArg Addr.block e; omega)).trans h2, (World.cell?_setCell_other _ _ _ _ (fun e => by have hl : gs2 < (w.heap.size + 1 + 1 + 1) := (by omega); have e1 : gx = gs2 := congrArg Addr.block e; omega)).trans h3⟩⟩)
            clear hrow hnil hIq hdq
            go_upto_region 12 with fail
            go_cut [] (fun wc => OutSt (w.heap.size + 1 + 1 + 1) w [(w.heap.size, #[.slice ad Gd.length cd, .slice (some ⟨gi, 0, none⟩) Xd.length ci]), (w.heap.size + 1, #[.slice (some ⟨gm, 0, none⟩) Gb.length cb, .slice (some ⟨gj, 0, none⟩) Xb.length cj]), (w.heap.size + 1 + 1, #[.slice none 0 0, .slice none 0 0])] w1.heap.size (.slice ag Gd.length cg) (.slice (some ⟨gx, 0, none⟩) (Gd.length + 1) cx) G (Y.set (g) (Y[g] ++ [(Xd[g])[i]])) wc)
            case first =>
              go_wp2
              refine wp_region_noPanic ?_
              refine wp_region_held_drew (S := fun wx => wx.cell? ⟨w1.heap.size, 1, none⟩ = some (.slice (some ⟨gx, 0, none⟩) (Gd.length + 1) cx) ∧ wx.cell? ⟨w.heap.size, 1, none⟩ = some (.slice (some ⟨gi, 0, none⟩) Xd.length ci) ∧ wx.cell? ⟨gi, g, none⟩ = some (.slice (some ⟨gs2, 0, none⟩) (Xd[g]).length scap2) ∧ wx.cell? ⟨gs2, i, none⟩ = some (.string (bs (Xd[g])[i]))) (by kernel_rfl) KA.out (fun hHeld => ?_)
              refine wpAnyH_take (i := 0) (v := ?_) rfl (by kernel_rfl) (by kernel_rfl) (by kernel_rfl) (fun _ _ _ h => h) (Or.inl ⟨by rfl, ?_⟩) (by assumption) ?_
              rotate_left
              · intro wq hSw
                (try dsimp only at hSw)
                go_simp
                (try with_reducible rfl)
              refine wpAnyH_take (i := 1) (v := ?_) rfl (by kernel_rfl) (by kernel_rfl) (by kernel_rfl) (fun _ _ _ h => h) (Or.inl ⟨by rfl, ?_⟩) (by assumption) ?_
              rotate_left
              · intro wq hSw
                (try dsimp only at hSw)
                go_simp
                (try with_reducible rfl)
              refine wpAnyH_take (i := 2) (v := ?_) rfl (by kernel_rfl) (by kernel_rfl) (by kernel_rfl) (fun _ _ _ h => h) (Or.inl ⟨by rfl, ?_⟩) (by assumption) ?_
              rotate_left
              · intro wq hSw
                (try dsimp only at hSw)
                go_simp
                (try with_reducible rfl)
              refine wpAnyH_take (i := 3) (v := ?_) rfl (by kernel_rfl) (by kernel_rfl) (by kernel_rfl) (fun _ _ _ h => h) (Or.inl ⟨by rfl, ?_⟩) (by assumption) ?_
              rotate_left
              · intro wq hSw
                (try dsimp only at hSw)
                go_simp
                (try with_reducible rfl)
              refine wpAnyH_take (i := 4) (v := ?_) rfl (by kernel_rfl) (by kernel_rfl) (by kernel_rfl) (fun _ _ _ h => h) (Or.inl ⟨by rfl, ?_⟩) (by assumption) ?_
              rotate_left
              · intro wq hSw
                (try dsimp only at hSw)
                go_simp
                (try with_reducible rfl)
              refine wpAnyH_take (i := 5) (v := ?_) rfl (by kernel_rfl) (by kernel_rfl) (by kernel_rfl) (fun _ _ _ h => h) (Or.inl ⟨by rfl, ?_⟩) (by assumption) ?_
              rotate_left
              · intro wq hSw
                (try dsimp only at hSw)
                go_simp
                (try with_reducible rfl)
              refine wpAnyH_take (i := 6) (v := ?_) rfl (by kernel_rfl) (by kernel_rfl) (by kernel_rfl) (fun _ _ _ h => h) (Or.inl ⟨by rfl, ?_⟩) (by assumption) ?_
              rotate_left
              · intro wq hSw
                (try dsimp only at hSw)
                go_simp
                (try with_reducible rfl)
              refine wpAnyH_take (i := 8) (v := ?_) rfl (by kernel_rfl) (by kernel_rfl) (by kernel_rfl) (fun _ _ _ h => h) (Or.inl ⟨by rfl, ?_⟩) (by assumption) ?_
              rotate_left
              · intro wq hSw
                (try dsimp only at hSw)
                go_simp
                (try with_reducible rfl)
              refine wpAnyH_take (i := 9) (v := ?_) rfl (by kernel_rfl) (by kernel_rfl) (by kernel_rfl) (fun _ _ _ h => h) (Or.inl ⟨by rfl, ?_⟩) (by assumption) ?_
              rotate_left
              · intro wq hSw
                (try dsimp only at hSw)
                go_simp
                (try with_reducible rfl)
              refine wpAnyH_take (i := 10) (v := ?_) rfl (by kernel_rfl) (by kernel_rfl) (by kernel_rfl) (fun _ _ _ h => h) (Or.inl ⟨by rfl, ?_⟩) (by assumption) ?_
              rotate_left
              · intro wq hSw
                (try dsimp only at hSw)
                go_simp
                (try with_reducible rfl)
              refine wpAnyH_take (i := 11) (v := ?_) rfl (by kernel_rfl) (by kernel_rfl) (by kernel_rfl) (fun _ _ _ h => h) (Or.inl ⟨by rfl, ?_⟩) (by assumption) ?_
              rotate_left
              · intro wq hSw
                (try dsimp only at hSw)
                go_simp
                (try with_reducible rfl)
              refine wpAnyH_take (i := 12) (v := ?_) rfl (by kernel_rfl) (by kernel_rfl) (by kernel_rfl) (fun _ _ _ h => h) (Or.inl ⟨by rfl, ?_⟩) (by assumption) ?_
              rotate_left
              · intro wq hSw
                (try dsimp only at hSw)
                go_simp
                (try with_reducible rfl)
              refine wpAnyH_take (i := 13) (v := ?_) rfl (by kernel_rfl) (by kernel_rfl) (by kernel_rfl) (fun _ _ _ h => h) (Or.inl ⟨by rfl, ?_⟩) (by assumption) ?_
              rotate_left
              · intro wq hSw
                (try dsimp only at hSw)
                go_simp
                (try with_reducible rfl)
              refine wpAnyH_take (i := 14) (v := ?_) rfl (by kernel_rfl) (by kernel_rfl) (by kernel_rfl) (fun _ _ _ h => h) (Or.inl ⟨by rfl, ?_⟩) (by assumption) ?_
              rotate_left
              · intro wq hSw
                (try dsimp only at hSw)
                go_simp
                (try with_reducible rfl)
              refine wpAnyH_take (i := 15) (v := ?_) rfl (by kernel_rfl) (by kernel_rfl) (by kernel_rfl) (fun _ _ _ h => h) (Or.inl ⟨by rfl, ?_⟩) (by assumption) ?_
              rotate_left
              · intro wq hSw
                (try dsimp only at hSw)
                go_simp
                (try with_reducible rfl)
              refine wpAnyH_ready (rs := [7, 16]) (by kernel_rfl) (by simp) ?_
              refine AllReadyH.cons rfl (fun K hK => ?_) (AllReadyH.cons rfl (fun K hK => ?_) AllReadyH.nil)
              · go_simp
                refine hK.out _ _ KA.out (fun hHeld => ?_)
                clear hK K
                refine wpAnyH_ready (rs := [16]) (by kernel_rfl) (by simp) ?_
                refine AllReadyH.cons rfl (fun K hK => ?_) AllReadyH.nil
                go_simp
                refine hK.out _ _ KB.out (fun hHeld => ?_)
                clear hK K
                refine wpAnyH_ready (rs := [17]) (by kernel_rfl) (by simp) ?_
                refine AllReadyH.cons rfl (fun K hK => ?_) AllReadyH.nil
                refine step_append_any (by rfl) _ _ _ (by rfl) (w.heap.size + 1 + 1 + 1) 9 i0 _ 1 16 Try.underlying61 hi0 hz0 hz1 hz2 rfl (by omega) (.slice dao (Y[g]).length dcap) _ _ (by rfl) (HDR.out.drew.alloc _) HNIL.out (.slice (some ⟨wc.heap.size, 0, none⟩) 1 1) 1 (strV [(Xd[g])[i]]) (by rfl) (HONE.out) (by simp [strV_length]) (strV_one _) (by unfold maxLen; omega) (by omega) (by simp; omega) (wc.heap.size + 1) (by simp) ?_
                intro ao9 cap9 w9 hA9
                have KC : Hid (_) := KF.out _ _ hA9
                have d0 : w9.cell? ⟨gx, g, none⟩ = some (.slice dao (Y[g]).length dcap) := (hA9.grown.cell_far _ (by simp; omega) (Ne.symm hn2)).trans (((Below.refl _ _).drew.alloc (Nat.le_refl _) _ : Below wc.heap.size wc (wc.drew.alloc (.cells #[.string (bs (Xd[g])[i])] 9))).cell (p := ⟨gx, g, none⟩) hgl |>.trans k1)
                have d1 : w9.frozen? ⟨gx, g, none⟩ = false := (hA9.grown.frozen_far _ (by simp; omega) (Ne.symm hn2)).trans ((World.frozen?_of_block (a := ⟨gx, g, none⟩) (((Below.refl _ _).drew.alloc (Nat.le_refl _) _ : Below wc.heap.size wc (wc.drew.alloc (.cells #[.string (bs (Xd[g])[i])] 9))).block gx hgl)).trans kf)
                have H9 : Hid (_) := hA9
                clear hA9
                refine hK.out _ _ KC.out.1 (fun hHeld => ?_)
                clear hK K
                refine wpAnyH_take (i := 18) (v := ?_) rfl (by kernel_rfl) (by kernel_rfl) (by kernel_rfl) (fun _ _ _ h => h) (Or.inl ⟨by rfl, ?_⟩) (by assumption) ?_
                rotate_left
                · intro wq hSw
                  (try dsimp only at hSw)
                  go_simp
                  (try with_reducible rfl)
                refine wpAnyH_ready (rs := [19]) (by kernel_rfl) (by simp) ?_
                refine AllReadyH.cons rfl (fun K hK => ?_) AllReadyH.nil
                go_simp
                refine hK.out _ _ (KC.out.2 _) (fun hHeld => ?_)
                clear hK K
                refine wpAnyH_done (by kernel_rfl) ?_ _
                refine NoPanic.normal ?_
                go_wp2
                go_meet
                exact HPUT.out _ _ H9.out
              · go_simp
                refine hK.out _ _ KB.out (fun hHeld => ?_)
                clear hK K
                refine wpAnyH_ready (rs := [7]) (by kernel_rfl) (by simp) ?_
                refine AllReadyH.cons rfl (fun K hK => ?_) AllReadyH.nil
                go_simp
                refine hK.out _ _ KB.out (fun hHeld => ?_)
                clear hK K
                refine wpAnyH_ready (rs := [17]) (by kernel_rfl) (by simp) ?_
                refine AllReadyH.cons rfl (fun K hK => ?_) AllReadyH.nil
                refine step_append_any (by rfl) _ _ _ (by rfl) (w.heap.size + 1 + 1 + 1) 9 i0 _ 1 16 Try.underlying61 hi0 hz0 hz1 hz2 rfl (by omega) (.slice dao (Y[g]).length dcap) _ _ (by rfl) (HDR.out.drew.alloc _) HNIL.out (.slice (some ⟨wc.heap.size, 0, none⟩) 1 1) 1 (strV [(Xd[g])[i]]) (by rfl) (HONE.out) (by simp [strV_length]) (strV_one _) (by unfold maxLen; omega) (by omega) (by simp; omega) (wc.heap.size + 1) (by simp) ?_
                intro ao9 cap9 w9 hA9
                have KC : Hid (_) := KF.out _ _ hA9
                have d0 : w9.cell? ⟨gx, g, none⟩ = some (.slice dao (Y[g]).length dcap) := (hA9.grown.cell_far _ (by simp; omega) (Ne.symm hn2)).trans (((Below.refl _ _).drew.alloc (Nat.le_refl _) _ : Below wc.heap.size wc (wc.drew.alloc (.cells #[.string (bs (Xd[g])[i])] 9))).cell (p := ⟨gx, g, none⟩) hgl |>.trans k1)
                have d1 : w9.frozen? ⟨gx, g, none⟩ = false := (hA9.grown.frozen_far _ (by simp; omega) (Ne.symm hn2)).trans ((World.frozen?_of_block (a := ⟨gx, g, none⟩) (((Below.refl _ _).drew.alloc (Nat.le_refl _) _ : Below wc.heap.size wc (wc.drew.alloc (.cells #[.string (bs (Xd[g])[i])] 9))).block gx hgl)).trans kf)
                have H9 : Hid (_) := hA9
                clear hA9
                refine hK.out _ _ KC.out.1 (fun hHeld => ?_)
                clear hK K
                refine wpAnyH_take (i := 18) (v := ?_) rfl (by kernel_rfl) (by kernel_rfl) (by kernel_rfl) (fun _ _ _ h => h) (Or.inl ⟨by rfl, ?_⟩) (by assumption) ?_
                rotate_left
                · intro wq hSw
                  (try dsimp only at hSw)
                  go_simp
                  (try with_reducible rfl)
                refine wpAnyH_ready (rs := [19]) (by kernel_rfl) (by simp) ?_
                refine AllReadyH.cons rfl (fun K hK => ?_) AllReadyH.nil
                go_simp
                refine hK.out _ _ (KC.out.2 _) (fun hHeld => ?_)
                clear hK K
                refine wpAnyH_done (by kernel_rfl) ?_ _
                refine NoPanic.normal ?_
                go_wp2
                go_meet
                exact HPUT.out _ _ H9.out
            case rest =>
              have H6 : Hid (ThenSt W (((Xd[g]).drop (i + 1)).map Un.i ++ restD Gd Xd g) Gd Gb Xb (a + 1) g G (Y.set g (Y[g] ++ [(Xd[g])[i]])) ∧ OutSt (w.heap.size + 1 + 1 + 1) w [(w.heap.size, #[.slice ad Gd.length cd, .slice (some ⟨gi, 0, none⟩) Xd.length ci]), (w.heap.size + 1, #[.slice (some ⟨gm, 0, none⟩) Gb.length cb, .slice (some ⟨gj, 0, none⟩) Xb.length cj]), (w.heap.size + 1 + 1, #[.slice none 0 0, .slice none 0 0])] w1.heap.size (.slice ag Gd.length cg) (.slice (some ⟨gx, 0, none⟩) (Gd.length + 1) cx) G (Y.set g (Y[g] ++ [(Xd[g])[i]])) wc) := ⟨⟨HL3.out.put _ hgx, HC1.out⟩, hcut⟩
              clear hcut
              go_wp2
              go_roundw
              case rel => exact ⟨a + 1, i + 1, _, _, by omega, by go_num, by go_num, H6⟩
              case measure => simp [intOf]; omega
          · rw [hbb] at m0
            have H6 : Hid (ThenSt W (((Xd[g]).drop (i + 1)).map Un.i ++ restD Gd Xd g) Gd Gb Xb (a + 1) g G Y ∧ OutSt (w.heap.size + 1 + 1 + 1) w [(w.heap.size, #[.slice ad Gd.length cd, .slice (some ⟨gi, 0, none⟩) Xd.length ci]), (w.heap.size + 1, #[.slice (some ⟨gm, 0, none⟩) Gb.length cb, .slice (some ⟨gj, 0, none⟩) Xb.length cj]), (w.heap.size + 1 + 1, #[.slice none 0 0, .slice none 0 0])] w1.heap.size (.slice ag Gd.length cg) (.slice (some ⟨gx, 0, none⟩) (Gd.length + 1) cx) G Y wc) := ⟨⟨by have h := HL2.out; rw [hbb] at h; exact h, HC1.out⟩, HS2.out⟩
            clear hcut2 hbb
            go_wp2
            go_roundw
            case rel => exact ⟨a + 1, i + 1, _, _, by omega, by go_num, by go_num, H6⟩
            case measure => simp [intOf]; omega
      · have hii : i = (Xd[g]).length := by omega
        subst hii
        have HV : Hid (ThenSt W (restD Gd Xd g) Gd Gb Xb a g G X) := by_hid (by
          have h := hv.out.1
          rw [List.drop_length] at h
          exact h)
        have HS : Hid (OutSt (w.heap.size + 1 + 1 + 1) w [(w.heap.size, #[.slice ad Gd.length cd, .slice (some ⟨gi, 0, none⟩) Xd.length ci]), (w.heap.size + 1, #[.slice ab Gb.length cb, .slice (some ⟨gj, 0, none⟩) Xb.length cj]), (w.heap.size + 1 + 1, #[.slice none 0 0, .slice none 0 0])] w1.heap.size (.slice ag Gd.length cg) (.slice (some ⟨gx, 0, none⟩) (Gd.length + 1) cx) G X wr) := hv.out.2
        clear hv ES
        by_cases hgl2 : g = Gd.length
        · have HR : Hid (restD Gd Xd g = []) := by_hid (by rw [restD, dif_neg (by omega)])
          have hae : a = Gb.length := by
            have h := HV.out.cnt
            rw [HR.out] at h
            simpa [outU] using h
          have haX : a < Xb.length := by have := HX.out.2; omega
          have HL1 : Hid (LaidC W ((Xb[a]).map Un.i ++ []) Gd.length g Gd G X) := by_hid (by
            have h := HV.out.laid
            rw [HR.out] at h
            subst hae
            rw [then_end Gb Xb HX.out.2] at h
            rw [List.append_nil]
            exact h)
          obtain ⟨tao, tcap, f0, fS, hgjl, _⟩ := HD.out.2.gapB HS.out.below a haX
          have HSRC : Hid (SrcAt wr (.slice tao (Xb[a]).length tcap) (Xb[a]).length (strV Xb[a])) := fS
          have hXg : (X[g]).length ≤ 10000000 := by
            have h := HL1.out.gap HW.out.1
            rw [List.getD_eq_getElem?_getD, List.getElem?_eq_getElem hgx] at h
            exact Nat.le_trans h HW.out.2.1
          have hXb : (Xb[a]).length ≤ 10000000 := by
            have h := (HL1.out.put (Xb[a]) hgx).gap HW.out.1
            rw [setD_self _ _ _ _ hgx, List.length_append] at h
            have := HW.out.2.1
            omega
          have haj : (a : Int) < (Xb.length : Int) := by omega
          have hgd0 : ((g : Int) == (Gd.length : Int)) = true := beq_iff_eq.2 (by omega)
          have HGL : Hid (g = Gd.length) := hgl2
          clear fS HR hae hgl2
          obtain ⟨Vq, dao, dcap, hIq, hdq, k1, kf, hrow, hnil, hn1, hn2, hgl⟩ := HS.out.spot hxl (g) hgx
          have HDR : Hid (wr.ownsRow (w.heap.size + 1 + 1 + 1) 9 1 (.slice dao (X[g]).length dcap) (X[g]).length (strV X[g])) := hrow
          have HNIL : Hid ((X[g]).length = 0 → Value.slice dao (X[g]).length dcap = .slice none 0 0) := hnil
          have HPUT : Hid (∀ v9 w9, AppRes (w.heap.size + 1 + 1 + 1) 9 1 (wr.drew) (.slice dao (X[g]).length dcap) (X[g]).length (strV X[g]) (Xb[a]).length (strV Xb[a]) wr.heap.size v9 w9 → OutSt (w.heap.size + 1 + 1 + 1) w [(w.heap.size, #[.slice ad Gd.length cd, .slice (some ⟨gi, 0, none⟩) Xd.length ci]), (w.heap.size + 1, #[.slice ab Gb.length cb, .slice (some ⟨gj, 0, none⟩) Xb.length cj]), (w.heap.size + 1 + 1, #[.slice none 0 0, .slice none 0 0])] w1.heap.size (.slice ag Gd.length cg) (.slice (some ⟨gx, 0, none⟩) (Gd.length + 1) cx) G (X.set (g) (X[g] ++ Xb[a])) (w9.setCell ⟨gx, g, none⟩ v9)) := by_hid (fun v9 w9 hA => HS.out.putAt hxl (g) hgx ((Below.refl _ _).drew) k1 (by simpa using hA))
          obtain ⟨hgxb9, hgne9⟩ := HS.out.rowLow hxl (by omega)
          have hlo9 : (w.heap.size + 1 + 1 + 1) ≤ wr.heap.size := by omega
          have KA : Hid ((wr.drew).cell? ⟨w1.heap.size, 1, none⟩ = some (.slice (some ⟨gx, 0, none⟩) (Gd.length + 1) cx) ∧ (wr.drew).cell? ⟨(w.heap.size + 1), 1, none⟩ = some (.slice (some ⟨gj, 0, none⟩) Xb.length cj) ∧ (wr.drew).cell? ⟨gj, a, none⟩ = some (.slice tao (Xb[a]).length tcap)) := ⟨c31, c11, f0⟩
          have KF : Hid (∀ v9 w9, AppRes (w.heap.size + 1 + 1 + 1) 9 1 (wr.drew) (.slice dao (X[g]).length dcap) (X[g]).length (strV X[g]) (Xb[a]).length (strV Xb[a]) wr.heap.size v9 w9 → (w9.cell? ⟨w1.heap.size, 1, none⟩ = some (.slice (some ⟨gx, 0, none⟩) (Gd.length + 1) cx) ∧ w9.cell? ⟨(w.heap.size + 1), 1, none⟩ = some (.slice (some ⟨gj, 0, none⟩) Xb.length cj) ∧ w9.cell? ⟨gj, a, none⟩ = some (.slice tao (Xb[a]).length tcap)) ∧ ∀ v, ((w9.setCell ⟨gx, g, none⟩ v).cell? ⟨w1.heap.size, 1, none⟩ = some (.slice (some ⟨gx, 0, none⟩) (Gd.length + 1) cx) ∧ (w9.setCell ⟨gx, g, none⟩ v).cell? ⟨(w.heap.size + 1), 1, none⟩ = some (.slice (some ⟨gj, 0, none⟩) Xb.length cj) ∧ (w9.setCell ⟨gx, g, none⟩ v).cell? ⟨gj, a, none⟩ = some (.slice tao (Xb[a]).length tcap))) := by_hid (fun v9 w9 hA => by
            have h0 := (hA.grown.cell_far ⟨w1.heap.size, 1, none⟩ (by simp; omega) (Ne.symm hn1)).trans KA.out.1
            have h1 := (hA.grown.cell_far ⟨(w.heap.size + 1), 1, none⟩ (by have hl : (w.heap.size + 1) < (w.heap.size + 1 + 1 + 1) := (by omega); simp; omega) (fun e => by have hl : (w.heap.size + 1) < (w.heap.size + 1 + 1 + 1) := (by omega); have h3 : (w.heap.size + 1 + 1 + 1) ≤ (w.heap.size + 1) := (HDR.out.lt _ e.symm).1; omega)).trans KA.out.2.1
            have h2 := (hA.grown.cell_far ⟨gj, a, none⟩ (by have hl : gj < (w.heap.size + 1 + 1 + 1) := (by omega); simp; omega) (fun e => by have hl : gj < (w.heap.size + 1 + 1 + 1) := (by omega); have h3 : (w.heap.size + 1 + 1 + 1) ≤ gj := (HDR.out.lt _ e.symm).1; omega)).trans KA.out.2.2
            exact ⟨⟨h0, h1, h2⟩, fun v => ⟨(World.cell?_setCell_other _ _ _ _ (fun e => hgne9 (congrArg Addr.block e).symm)).trans h0, (World.cell?_setCell_other _ _ _ _ (fun e => by have hl : (w.heap.size + 1) < (w.heap.size + 1 + 1 + 1) := (by omega); have e1 : gx = (w.heap.size + 1) := congrArg Addr.block e; omega)).trans h1, (World.cell?_setCell_other _ _ _ _ (fun e => by have hl : gj < (w.heap.size + 1 + 1 + 1) := (by omega); have e1 : gx = gj := congrArg Addr.block e; omega)).trans h2⟩⟩)
          clear hrow hnil hIq hdq
          go_upto_region 15 with fail
          go_cut [] (fun wc => OutSt (w.heap.size + 1 + 1 + 1) w [(w.heap.size, #[.slice ad Gd.length cd, .slice (some ⟨gi, 0, none⟩) Xd.length ci]), (w.heap.size + 1, #[.slice ab Gb.length cb, .slice (some ⟨gj, 0, none⟩) Xb.length cj]), (w.heap.size + 1 + 1, #[.slice none 0 0, .slice none 0 0])] w1.heap.size (.slice ag Gd.length cg) (.slice (some ⟨gx, 0, none⟩) (Gd.length + 1) cx) G (X.set (g) (X[g] ++ Xb[a])) wc)
          case first =>
            go_wp2
            refine wp_region_noPanic ?_
            refine wp_region_held_drew (S := fun wx => wx.cell? ⟨w1.heap.size, 1, none⟩ = some (.slice (some ⟨gx, 0, none⟩) (Gd.length + 1) cx) ∧ wx.cell? ⟨(w.heap.size + 1), 1, none⟩ = some (.slice (some ⟨gj, 0, none⟩) Xb.length cj) ∧ wx.cell? ⟨gj, a, none⟩ = some (.slice tao (Xb[a]).length tcap)) (by kernel_rfl) KA.out (fun hHeld => ?_)
            refine wpAnyH_take (i := 0) (v := ?_) rfl (by kernel_rfl) (by kernel_rfl) (by kernel_rfl) (fun _ _ _ h => h) (Or.inl ⟨by rfl, ?_⟩) (by assumption) ?_
            rotate_left
            · intro wq hSw
              (try dsimp only at hSw)
              go_simp
              (try with_reducible rfl)
            refine wpAnyH_take (i := 1) (v := ?_) rfl (by kernel_rfl) (by kernel_rfl) (by kernel_rfl) (fun _ _ _ h => h) (Or.inl ⟨by rfl, ?_⟩) (by assumption) ?_
            rotate_left
            · intro wq hSw
              (try dsimp only at hSw)
              go_simp
              (try with_reducible rfl)
            refine wpAnyH_take (i := 2) (v := ?_) rfl (by kernel_rfl) (by kernel_rfl) (by kernel_rfl) (fun _ _ _ h => h) (Or.inl ⟨by rfl, ?_⟩) (by assumption) ?_
            rotate_left
            · intro wq hSw
              (try dsimp only at hSw)
              go_simp
              (try with_reducible rfl)
            refine wpAnyH_take (i := 3) (v := ?_) rfl (by kernel_rfl) (by kernel_rfl) (by kernel_rfl) (fun _ _ _ h => h) (Or.inl ⟨by rfl, ?_⟩) (by assumption) ?_
            rotate_left
            · intro wq hSw
              (try dsimp only at hSw)
              go_simp
              (try with_reducible rfl)
            refine wpAnyH_take (i := 4) (v := ?_) rfl (by kernel_rfl) (by kernel_rfl) (by kernel_rfl) (fun _ _ _ h => h) (Or.inl ⟨by rfl, ?_⟩) (by assumption) ?_
            rotate_left
            · intro wq hSw
              (try dsimp only at hSw)
              go_simp
              (try with_reducible rfl)
            refine wpAnyH_take (i := 5) (v := ?_) rfl (by kernel_rfl) (by kernel_rfl) (by kernel_rfl) (fun _ _ _ h => h) (Or.inl ⟨by rfl, ?_⟩) (by assumption) ?_
            rotate_left
            · intro wq hSw
              (try dsimp only at hSw)
              go_simp
              (try with_reducible rfl)
            refine wpAnyH_take (i := 6) (v := ?_) rfl (by kernel_rfl) (by kernel_rfl) (by kernel_rfl) (fun _ _ _ h => h) (Or.inl ⟨by rfl, ?_⟩) (by assumption) ?_
            rotate_left
            · intro wq hSw
              (try dsimp only at hSw)
              go_simp
              (try with_reducible rfl)
            refine wpAnyH_take (i := 8) (v := ?_) rfl (by kernel_rfl) (by kernel_rfl) (by kernel_rfl) (fun _ _ _ h => h) (Or.inl ⟨by rfl, ?_⟩) (by assumption) ?_
            rotate_left
            · intro wq hSw
              (try dsimp only at hSw)
              go_simp
              (try with_reducible rfl)
            refine wpAnyH_take (i := 9) (v := ?_) rfl (by kernel_rfl) (by kernel_rfl) (by kernel_rfl) (fun _ _ _ h => h) (Or.inl ⟨by rfl, ?_⟩) (by assumption) ?_
            rotate_left
            · intro wq hSw
              (try dsimp only at hSw)
              go_simp
              (try with_reducible rfl)
            refine wpAnyH_take (i := 10) (v := ?_) rfl (by kernel_rfl) (by kernel_rfl) (by kernel_rfl) (fun _ _ _ h => h) (Or.inl ⟨by rfl, ?_⟩) (by assumption) ?_
            rotate_left
            · intro wq hSw
              (try dsimp only at hSw)
              go_simp
              (try with_reducible rfl)
            refine wpAnyH_take (i := 11) (v := ?_) rfl (by kernel_rfl) (by kernel_rfl) (by kernel_rfl) (fun _ _ _ h => h) (Or.inl ⟨by rfl, ?_⟩) (by assumption) ?_
            rotate_left
            · intro wq hSw
              (try dsimp only at hSw)
              go_simp
              (try with_reducible rfl)
            refine wpAnyH_take (i := 12) (v := ?_) rfl (by kernel_rfl) (by kernel_rfl) (by kernel_rfl) (fun _ _ _ h => h) (Or.inl ⟨by rfl, ?_⟩) (by assumption) ?_
            rotate_left
            · intro wq hSw
              (try dsimp only at hSw)
              go_simp
              (try with_reducible rfl)
            refine wpAnyH_ready (rs := [7]) (by kernel_rfl) (by simp) ?_
            refine AllReadyH.cons rfl (fun K hK => ?_) AllReadyH.nil
            go_simp
            refine hK.out _ _ KA.out (fun hHeld => ?_)
            clear hK K
            refine wpAnyH_ready (rs := [13]) (by kernel_rfl) (by simp) ?_
            refine AllReadyH.cons rfl (fun K hK => ?_) AllReadyH.nil
            refine step_append_any (by rfl) _ _ _ (by rfl) (w.heap.size + 1 + 1 + 1) 9 i0 _ 1 16 Try.underlying61 hi0 hz0 hz1 hz2 rfl (by omega) (.slice dao (X[g]).length dcap) _ _ (by rfl) (HDR.out.drew) HNIL.out (.slice tao (Xb[a]).length tcap) (Xb[a]).length (strV Xb[a]) (by rfl) (HSRC.out.drew) (by simp [strV_length]) (strV_one _) (by unfold maxLen; omega) (by omega) (by simp; omega) wr.heap.size (by simp) ?_
            intro ao9 cap9 w9 hA9
            have KC : Hid (_) := KF.out _ _ hA9
            have d0 : w9.cell? ⟨gx, g, none⟩ = some (.slice dao (X[g]).length dcap) := (hA9.grown.cell_far _ (by simp; omega) (Ne.symm hn2)).trans (((Below.refl _ _).drew : Below wr.heap.size wr (wr.drew)).cell (p := ⟨gx, g, none⟩) hgl |>.trans k1)
            have d1 : w9.frozen? ⟨gx, g, none⟩ = false := (hA9.grown.frozen_far _ (by simp; omega) (Ne.symm hn2)).trans ((World.frozen?_of_block (a := ⟨gx, g, none⟩) (((Below.refl _ _).drew : Below wr.heap.size wr (wr.drew)).block gx hgl)).trans kf)
            have H9 : Hid (_) := hA9
            clear hA9
            refine hK.out _ _ KC.out.1 (fun hHeld => ?_)
            clear hK K
            refine wpAnyH_take (i := 14) (v := ?_) rfl (by kernel_rfl) (by kernel_rfl) (by kernel_rfl) (fun _ _ _ h => h) (Or.inl ⟨by rfl, ?_⟩) (by assumption) ?_
            rotate_left
            · intro wq hSw
              (try dsimp only at hSw)
              go_simp
              (try with_reducible rfl)
            refine wpAnyH_ready (rs := [15]) (by kernel_rfl) (by simp) ?_
            refine AllReadyH.cons rfl (fun K hK => ?_) AllReadyH.nil
            go_simp
            refine hK.out _ _ (KC.out.2 _) (fun hHeld => ?_)
            clear hK K
            refine wpAnyH_done (by kernel_rfl) ?_ _
            refine NoPanic.normal ?_
            go_wp2
            go_meet
            exact HPUT.out _ _ H9.out
          case rest =>
            have HL2 : Hid (LaidC W [] Gd.length Gd.length Gd G (X.set g (X[g] ++ Xb[a]))) := by_hid (by
              have h := HL1.out.put (Xb[a]) hgx
              have e := HGL.out
              subst e
              exact h)
            obtain ⟨Y, HY, hcut2⟩ : ∃ Y, Hid (unitsN G Y = W ∧ Y.length = G.length + 1 ∧ G.length = Gd.length) ∧ OutSt (w.heap.size + 1 + 1 + 1) w [(w.heap.size, #[.slice ad Gd.length cd, .slice (some ⟨gi, 0, none⟩) Xd.length ci]), (w.heap.size + 1, #[.slice ab Gb.length cb, .slice (some ⟨gj, 0, none⟩) Xb.length cj]), (w.heap.size + 1 + 1, #[.slice none 0 0, .slice none 0 0])] w1.heap.size (.slice ag Gd.length cg) (.slice (some ⟨gx, 0, none⟩) (Gd.length + 1) cx) G Y wc := ⟨X.set g (X[g] ++ Xb[a]), ⟨HL2.out.done, by rw [HL2.out.xl, HL2.out.gl], HL2.out.gl⟩, hcut⟩
            clear hcut HPUT KA KF hlo9 hgxb9 hgne9 HDR HNIL k1 kf hn1 hn2 hgl c00 c01 c10 c11 c30 c31 hz3 e0 f0 hXg HSRC HS HL1 HL2 HV hxl hgx
            have HS5 : Hid (OutSt (w.heap.size + 1 + 1 + 1) w [(w.heap.size, #[.slice ad Gd.length cd, .slice (some ⟨gi, 0, none⟩) Xd.length ci]), (w.heap.size + 1, #[.slice ab Gb.length cb, .slice (some ⟨gj, 0, none⟩) Xb.length cj]), (w.heap.size + 1 + 1, #[.slice none 0 0, .slice none 0 0])] w1.heap.size (.slice ag Gd.length cg) (.slice (some ⟨gx, 0, none⟩) (Gd.length + 1) cx) G Y wc) := hcut2
            obtain ⟨c00, c01, c10, c11, c30, c31, hz3⟩ := hcut2.cells
            have HDO : Hid (DoesAt (w.heap.size + 1 + 1 + 1) wc (.slice ag Gd.length cg) (.slice (some ⟨gx, 0, none⟩) (Gd.length + 1) cx) G Y) := ⟨hcut2.gone, hcut2.ins⟩
            have hwl : w.heap.size + 1 + 1 < wc.heap.size := lt_of_blk (hcut2.boxes _ (List.mem_cons_of_mem _ (List.mem_cons_of_mem _ List.mem_cons_self)))
            have HTT : Hid (total Y ≤ 10000000) := by_hid (by
              have h1 := total_units HY.out.2.1 (by rw [HY.out.1]; exact HW.out.1)
              rw [HY.out.1] at h1
              have := HW.out.2.1
              omega)
            clear hcut2
            go_wp2_with fail
            refine (settled_any (w.heap.size + 1 + 1 + 1) _ _ G Y _ HDO.out HY.out.2.1 (by have := HY.out.2.2; omega) (by have := HTT.out; omega)).mono ?_
            rintro e w5 ⟨gv', iv', rfl, hd5, hb5⟩
            have kb : w5.heap[w.heap.size + 1 + 1]? = some (.cells #[.slice none 0 0, .slice none 0 0] 129 (0, 0)) := by rw [hb5.block _ hwl]; exact HS5.out.boxes _ (List.mem_cons_of_mem _ (List.mem_cons_of_mem _ List.mem_cons_self))
            obtain ⟨Vs', hI'⟩ := hd5.ins
            obtain ⟨ag', cg', rfl, _⟩ := gone_form hd5.gone
            obtain ⟨gi', ci', _, rfl, _⟩ := hI'.form (by rw [settR_length G Y HY.out.2.1]; omega)
            obtain ⟨gv', hgv'⟩ : ∃ z, z = Value.slice ag' G.length cg' := ⟨_, rfl⟩
            obtain ⟨iv', hiv'⟩ : ∃ z, z = Value.slice (some ⟨gi', 0, none⟩) (settR G Y).length ci' := ⟨_, rfl⟩
            rw [← hgv'] at hd5
            rw [← hiv'] at hd5 hI'
            have n0 := own_ne hd5.gone kb (by decide)
            have n1 := own_ne hI'.row kb (by decide)
            have c50 : w5.cell? ⟨w.heap.size + 1 + 1, 0, none⟩ = some (.slice none 0 0) := Lib.cell_of_heap kb 0
            have c51 : w5.cell? ⟨w.heap.size + 1 + 1, 1, none⟩ = some (.slice none 0 0) := Lib.cell_of_heap kb 1
            have f50 : w5.frozen? ⟨w.heap.size + 1 + 1, 0, none⟩ = false := Lib.frozen_of_heap kb 0
            have f51 : w5.frozen? ⟨w.heap.size + 1 + 1, 1, none⟩ = false := Lib.frozen_of_heap kb 1
            have HF : Hid (DoesAt w.heap.size ((w5.setCell ⟨w.heap.size + 1 + 1, 0, none⟩ gv').setCell ⟨w.heap.size + 1 + 1, 1, none⟩ iv') gv' iv' G (settR G Y) ∧ Below w.heap.size w ((w5.setCell ⟨w.heap.size + 1 + 1, 0, none⟩ gv').setCell ⟨w.heap.size + 1 + 1, 1, none⟩ iv')) := by_hid (by
              refine ⟨⟨own_base (own_set (own_set hd5.gone n0 _ _) n0 _ _) (by omega), Vs', own_base (own_set (own_set hI'.row n1 _ _) n1 _ _) (by omega), fun j hj => ?_, hI'.non, hI'.apart⟩, ?_⟩
              · have n2 := own_ne (hI'.each j hj) kb (by decide)
                exact own_base (own_set (own_set (hI'.each j hj) n2 _ _) n2 _ _) (by omega)
              · exact ((HS5.out.below.trans (hb5.mono (by omega))).setCell (p := ⟨w.heap.size + 1 + 1, 0, none⟩) (by show w.heap.size ≤ w.heap.size + 1 + 1; omega) _).setCell (p := ⟨w.heap.size + 1 + 1, 1, none⟩) (by show w.heap.size ≤ w.heap.size + 1 + 1; omega) _)
            clear hd5 hb5 hI' kb n0 n1
            subst hgv' hiv'
            go_wp2
            refine bodyPost_ret (v := .agg #[Value.slice ag' G.length cg', Value.slice (some ⟨gi', 0, none⟩) (settR G Y).length ci']) (by simp [results, Try.results97, go_sem, c50, c51]) rfl ⟨_, _, G, Y, rfl, ?_, ?_, ?_, ?_, ?_⟩
            · exact HF.out.1
            · exact HY.out.1
            · exact HY.out.2.2
            · exact HY.out.2.1
            · exact HF.out.2
        · have hgd0 : ((g : Int) == (Gd.length : Int)) = false := beq_eq_false_iff_ne.2 (by omega)
          have hgd : g < Gd.length := by omega
          obtain ⟨gh, had, m1⟩ := (HD.out.1.below HS.out.below (Nat.le_refl _)).sign g hgd
          subst had
          have hgdi : (g : Int) < (Gd.length : Int) := by omega
          have HR : Hid (restD Gd Xd g = uN Gd[g] :: unitsN (Gd.drop (g + 1)) (Xd.drop (g + 1))) := by_hid (by rw [restD, dif_pos hgd])
          clear hgl2
          cases hbg : Gd[g]
          · rw [hbg] at m1
            have hal : a < Gb.length := by
              have h := HV.out.cnt
              rw [HR.out, hbg] at h
              simp only [uN, Bool.false_eq_true, if_false, outU] at h
              omega
            have haX : a < Xb.length := by have := HX.out.2; omega
            have HL1 : Hid (LaidC W ((Xb[a]).map Un.i ++ (uN Gb[a] :: compU (unitsN (Gd.drop (g + 1)) (Xd.drop (g + 1))) (unitsN (Gb.drop (a + 1)) (Xb.drop (a + 1))))) Gd.length g Gd G X) := by_hid (by
              have h := HV.out.laid
              rw [HR.out, hbg, show uN false = Un.k from rfl, then_k _ Gb Xb a hal HX.out.2] at h
              exact h)
            have HC1 : Hid (a + 1 + outU (unitsN (Gd.drop (g + 1)) (Xd.drop (g + 1))) = Gb.length) := by_hid (by
              have h := HV.out.cnt
              rw [HR.out, hbg] at h
              simp only [uN, Bool.false_eq_true, if_false, outU] at h
              omega)
            obtain ⟨tao, tcap, f0, fS, hgjl, _⟩ := HD.out.2.gapB HS.out.below a haX
            obtain ⟨gm, hab, _⟩ := (HD.out.2.below HS.out.below (Nat.le_refl _)).sign a hal
            subst hab
            have HSRC : Hid (SrcAt wr (.slice tao (Xb[a]).length tcap) (Xb[a]).length (strV Xb[a])) := fS
            have hXg : (X[g]).length ≤ 10000000 := by
              have h := HL1.out.gap HW.out.1
              rw [List.getD_eq_getElem?_getD, List.getElem?_eq_getElem hgx] at h
              exact Nat.le_trans h HW.out.2.1
            have hXb : (Xb[a]).length ≤ 10000000 := by
              have h := (HL1.out.put (Xb[a]) hgx).gap HW.out.1
              rw [setD_self _ _ _ _ hgx, List.length_append] at h
              have := HW.out.2.1
              omega
            have hai : (a : Int) < (Gb.length : Int) := by omega
            have haj : (a : Int) < (Xb.length : Int) := by omega
            clear fS HR hbg HV
            obtain ⟨Vq, dao, dcap, hIq, hdq, k1, kf, hrow, hnil, hn1, hn2, hgl⟩ := HS.out.spot hxl (g) hgx
            have HDR : Hid (wr.ownsRow (w.heap.size + 1 + 1 + 1) 9 1 (.slice dao (X[g]).length dcap) (X[g]).length (strV X[g])) := hrow
            have HNIL : Hid ((X[g]).length = 0 → Value.slice dao (X[g]).length dcap = .slice none 0 0) := hnil
            have HPUT : Hid (∀ v9 w9, AppRes (w.heap.size + 1 + 1 + 1) 9 1 (wr.drew) (.slice dao (X[g]).length dcap) (X[g]).length (strV X[g]) (Xb[a]).length (strV Xb[a]) wr.heap.size v9 w9 → OutSt (w.heap.size + 1 + 1 + 1) w [(w.heap.size, #[.slice (some ⟨gh, 0, none⟩) Gd.length cd, .slice (some ⟨gi, 0, none⟩) Xd.length ci]), (w.heap.size + 1, #[.slice (some ⟨gm, 0, none⟩) Gb.length cb, .slice (some ⟨gj, 0, none⟩) Xb.length cj]), (w.heap.size + 1 + 1, #[.slice none 0 0, .slice none 0 0])] w1.heap.size (.slice ag Gd.length cg) (.slice (some ⟨gx, 0, none⟩) (Gd.length + 1) cx) G (X.set (g) (X[g] ++ Xb[a])) (w9.setCell ⟨gx, g, none⟩ v9)) := by_hid (fun v9 w9 hA => HS.out.putAt hxl (g) hgx ((Below.refl _ _).drew) k1 (by simpa using hA))
            obtain ⟨hgxb9, hgne9⟩ := HS.out.rowLow hxl (by omega)
            have hlo9 : (w.heap.size + 1 + 1 + 1) ≤ wr.heap.size := by omega
            have KA : Hid ((wr.drew).cell? ⟨w1.heap.size, 1, none⟩ = some (.slice (some ⟨gx, 0, none⟩) (Gd.length + 1) cx) ∧ (wr.drew).cell? ⟨(w.heap.size + 1), 1, none⟩ = some (.slice (some ⟨gj, 0, none⟩) Xb.length cj) ∧ (wr.drew).cell? ⟨gj, a, none⟩ = some (.slice tao (Xb[a]).length tcap)) := ⟨c31, c11, f0⟩
            have KF : Hid (∀ v9 w9, AppRes (w.heap.size + 1 + 1 + 1) 9 1 (wr.drew) (.slice dao (X[g]).length dcap) (X[g]).length (strV X[g]) (Xb[a]).length (strV Xb[a]) wr.heap.size v9 w9 → (w9.cell? ⟨w1.heap.size, 1, none⟩ = some (.slice (some ⟨gx, 0, none⟩) (Gd.length + 1) cx) ∧ w9.cell? ⟨(w.heap.size + 1), 1, none⟩ = some (.slice (some ⟨gj, 0, none⟩) Xb.length cj) ∧ w9.cell? ⟨gj, a, none⟩ = some (.slice tao (Xb[a]).length tcap)) ∧ ∀ v, ((w9.setCell ⟨gx, g, none⟩ v).cell? ⟨w1.heap.size, 1, none⟩ = some (.slice (some ⟨gx, 0, none⟩) (Gd.length + 1) cx) ∧ (w9.setCell ⟨gx, g, none⟩ v).cell? ⟨(w.heap.size + 1), 1, none⟩ = some (.slice (some ⟨gj, 0, none⟩) Xb.length cj) ∧ (w9.setCell ⟨gx, g, none⟩ v).cell? ⟨gj, a, none⟩ = some (.slice tao (Xb[a]).length tcap))) := by_hid (fun v9 w9 hA => by
              have h0 := (hA.grown.cell_far ⟨w1.heap.size, 1, none⟩ (by simp; omega) (Ne.symm hn1)).trans KA.out.1
              have h1 := (hA.grown.cell_far ⟨(w.heap.size + 1), 1, none⟩ (by have hl : (w.heap.size + 1) < (w.heap.size + 1 + 1 + 1) := (by omega); simp; omega) (fun e => by have hl : (w.heap.size + 1) < (w.heap.size + 1 + 1 + 1) := (by omega); have h3 : (w.heap.size + 1 + 1 + 1) ≤ (w.heap.size + 1) := (HDR.out.lt _ e.symm).1; omega)).trans KA.out.2.1
              have h2 := (hA.grown.cell_far ⟨gj, a, none⟩ (by have hl : gj < (w.heap.size + 1 + 1 + 1) := (by omega); simp; omega) (fun e => by have hl : gj < (w.heap.size + 1 + 1 + 1) := (by omega); have h3 : (w.heap.size + 1 + 1 + 1) ≤ gj := (HDR.out.lt _ e.symm).1; omega)).trans KA.out.2.2
              exact ⟨⟨h0, h1, h2⟩, fun v => ⟨(World.cell?_setCell_other _ _ _ _ (fun e => hgne9 (congrArg Addr.block e).symm)).trans h0, (World.cell?_setCell_other _ _ _ _ (fun e => by have hl : (w.heap.size + 1) < (w.heap.size + 1 + 1 + 1) := (by omega); have e1 : gx = (w.heap.size + 1) := congrArg Addr.block e; omega)).trans h1, (World.cell?_setCell_other _ _ _ _ (fun e => by have hl : gj < (w.heap.size + 1 + 1 + 1) := (by omega); have e1 : gx = gj := congrArg Addr.block e; omega)).trans h2⟩⟩)
            clear hrow hnil hIq hdq
            go_upto_region 17 with fail
            go_cut [] (fun wc => OutSt (w.heap.size + 1 + 1 + 1) w [(w.heap.size, #[.slice (some ⟨gh, 0, none⟩) Gd.length cd, .slice (some ⟨gi, 0, none⟩) Xd.length ci]), (w.heap.size + 1, #[.slice (some ⟨gm, 0, none⟩) Gb.length cb, .slice (some ⟨gj, 0, none⟩) Xb.length cj]), (w.heap.size + 1 + 1, #[.slice none 0 0, .slice none 0 0])] w1.heap.size (.slice ag Gd.length cg) (.slice (some ⟨gx, 0, none⟩) (Gd.length + 1) cx) G (X.set (g) (X[g] ++ Xb[a])) wc)
            case first =>
              go_wp2
              refine wp_region_noPanic ?_
              refine wp_region_held_drew (S := fun wx => wx.cell? ⟨w1.heap.size, 1, none⟩ = some (.slice (some ⟨gx, 0, none⟩) (Gd.length + 1) cx) ∧ wx.cell? ⟨(w.heap.size + 1), 1, none⟩ = some (.slice (some ⟨gj, 0, none⟩) Xb.length cj) ∧ wx.cell? ⟨gj, a, none⟩ = some (.slice tao (Xb[a]).length tcap)) (by kernel_rfl) KA.out (fun hHeld => ?_)
              refine wpAnyH_take (i := 0) (v := ?_) rfl (by kernel_rfl) (by kernel_rfl) (by kernel_rfl) (fun _ _ _ h => h) (Or.inl ⟨by rfl, ?_⟩) (by assumption) ?_
              rotate_left
              · intro wq hSw
                (try dsimp only at hSw)
                go_simp
                (try with_reducible rfl)
              refine wpAnyH_take (i := 1) (v := ?_) rfl (by kernel_rfl) (by kernel_rfl) (by kernel_rfl) (fun _ _ _ h => h) (Or.inl ⟨by rfl, ?_⟩) (by assumption) ?_
              rotate_left
              · intro wq hSw
                (try dsimp only at hSw)
                go_simp
                (try with_reducible rfl)
              refine wpAnyH_take (i := 2) (v := ?_) rfl (by kernel_rfl) (by kernel_rfl) (by kernel_rfl) (fun _ _ _ h => h) (Or.inl ⟨by rfl, ?_⟩) (by assumption) ?_
              rotate_left
              · intro wq hSw
                (try dsimp only at hSw)
                go_simp
                (try with_reducible rfl)
              refine wpAnyH_take (i := 3) (v := ?_) rfl (by kernel_rfl) (by kernel_rfl) (by kernel_rfl) (fun _ _ _ h => h) (Or.inl ⟨by rfl, ?_⟩) (by assumption) ?_
              rotate_left
              · intro wq hSw
                (try dsimp only at hSw)
                go_simp
                (try with_reducible rfl)
              refine wpAnyH_take (i := 4) (v := ?_) rfl (by kernel_rfl) (by kernel_rfl) (by kernel_rfl) (fun _ _ _ h => h) (Or.inl ⟨by rfl, ?_⟩) (by assumption) ?_
              rotate_left
              · intro wq hSw
                (try dsimp only at hSw)
                go_simp
                (try with_reducible rfl)
              refine wpAnyH_take (i := 5) (v := ?_) rfl (by kernel_rfl) (by kernel_rfl) (by kernel_rfl) (fun _ _ _ h => h) (Or.inl ⟨by rfl, ?_⟩) (by assumption) ?_
              rotate_left
              · intro wq hSw
                (try dsimp only at hSw)
                go_simp
                (try with_reducible rfl)
              refine wpAnyH_take (i := 6) (v := ?_) rfl (by kernel_rfl) (by kernel_rfl) (by kernel_rfl) (fun _ _ _ h => h) (Or.inl ⟨by rfl, ?_⟩) (by assumption) ?_
              rotate_left
              · intro wq hSw
                (try dsimp only at hSw)
                go_simp
                (try with_reducible rfl)
              refine wpAnyH_take (i := 8) (v := ?_) rfl (by kernel_rfl) (by kernel_rfl) (by kernel_rfl) (fun _ _ _ h => h) (Or.inl ⟨by rfl, ?_⟩) (by assumption) ?_
              rotate_left
              · intro wq hSw
                (try dsimp only at hSw)
                go_simp
                (try with_reducible rfl)
              refine wpAnyH_take (i := 9) (v := ?_) rfl (by kernel_rfl) (by kernel_rfl) (by kernel_rfl) (fun _ _ _ h => h) (Or.inl ⟨by rfl, ?_⟩) (by assumption) ?_
              rotate_left
              · intro wq hSw
                (try dsimp only at hSw)
                go_simp
                (try with_reducible rfl)
              refine wpAnyH_take (i := 10) (v := ?_) rfl (by kernel_rfl) (by kernel_rfl) (by kernel_rfl) (fun _ _ _ h => h) (Or.inl ⟨by rfl, ?_⟩) (by assumption) ?_
              rotate_left
              · intro wq hSw
                (try dsimp only at hSw)
                go_simp
                (try with_reducible rfl)
              refine wpAnyH_take (i := 11) (v := ?_) rfl (by kernel_rfl) (by kernel_rfl) (by kernel_rfl) (fun _ _ _ h => h) (Or.inl ⟨by rfl, ?_⟩) (by assumption) ?_
              rotate_left
              · intro wq hSw
                (try dsimp only at hSw)
                go_simp
                (try with_reducible rfl)
              refine wpAnyH_take (i := 12) (v := ?_) rfl (by kernel_rfl) (by kernel_rfl) (by kernel_rfl) (fun _ _ _ h => h) (Or.inl ⟨by rfl, ?_⟩) (by assumption) ?_
              rotate_left
              · intro wq hSw
                (try dsimp only at hSw)
                go_simp
                (try with_reducible rfl)
              refine wpAnyH_ready (rs := [7]) (by kernel_rfl) (by simp) ?_
              refine AllReadyH.cons rfl (fun K hK => ?_) AllReadyH.nil
              go_simp
              refine hK.out _ _ KA.out (fun hHeld => ?_)
              clear hK K
              refine wpAnyH_ready (rs := [13]) (by kernel_rfl) (by simp) ?_
              refine AllReadyH.cons rfl (fun K hK => ?_) AllReadyH.nil
              refine step_append_any (by rfl) _ _ _ (by rfl) (w.heap.size + 1 + 1 + 1) 9 i0 _ 1 16 Try.underlying61 hi0 hz0 hz1 hz2 rfl (by omega) (.slice dao (X[g]).length dcap) _ _ (by rfl) (HDR.out.drew) HNIL.out (.slice tao (Xb[a]).length tcap) (Xb[a]).length (strV Xb[a]) (by rfl) (HSRC.out.drew) (by simp [strV_length]) (strV_one _) (by unfold maxLen; omega) (by omega) (by simp; omega) wr.heap.size (by simp) ?_
              intro ao9 cap9 w9 hA9
              have KC : Hid (_) := KF.out _ _ hA9
              have d0 : w9.cell? ⟨gx, g, none⟩ = some (.slice dao (X[g]).length dcap) := (hA9.grown.cell_far _ (by simp; omega) (Ne.symm hn2)).trans (((Below.refl _ _).drew : Below wr.heap.size wr (wr.drew)).cell (p := ⟨gx, g, none⟩) hgl |>.trans k1)
              have d1 : w9.frozen? ⟨gx, g, none⟩ = false := (hA9.grown.frozen_far _ (by simp; omega) (Ne.symm hn2)).trans ((World.frozen?_of_block (a := ⟨gx, g, none⟩) (((Below.refl _ _).drew : Below wr.heap.size wr (wr.drew)).block gx hgl)).trans kf)
              have H9 : Hid (_) := hA9
              clear hA9
              refine hK.out _ _ KC.out.1 (fun hHeld => ?_)
              clear hK K
              refine wpAnyH_take (i := 14) (v := ?_) rfl (by kernel_rfl) (by kernel_rfl) (by kernel_rfl) (fun _ _ _ h => h) (Or.inl ⟨by rfl, ?_⟩) (by assumption) ?_
              rotate_left
              · intro wq hSw
                (try dsimp only at hSw)
                go_simp
                (try with_reducible rfl)
              refine wpAnyH_ready (rs := [15]) (by kernel_rfl) (by simp) ?_
              refine AllReadyH.cons rfl (fun K hK => ?_) AllReadyH.nil
              go_simp
              refine hK.out _ _ (KC.out.2 _) (fun hHeld => ?_)
              clear hK K
              refine wpAnyH_done (by kernel_rfl) ?_ _
              refine NoPanic.normal ?_
              go_wp2
              go_meet
              exact HPUT.out _ _ H9.out
            case rest =>
              obtain ⟨Y, hxl2, HL2, hcut2⟩ : ∃ Y, Y.length = Gd.length + 1 ∧ Hid (LaidC W (uN Gb[a] :: compU (unitsN (Gd.drop (g + 1)) (Xd.drop (g + 1))) (unitsN (Gb.drop (a + 1)) (Xb.drop (a + 1)))) Gd.length g Gd G Y) ∧ OutSt (w.heap.size + 1 + 1 + 1) w [(w.heap.size, #[.slice (some ⟨gh, 0, none⟩) Gd.length cd, .slice (some ⟨gi, 0, none⟩) Xd.length ci]), (w.heap.size + 1, #[.slice (some ⟨gm, 0, none⟩) Gb.length cb, .slice (some ⟨gj, 0, none⟩) Xb.length cj]), (w.heap.size + 1 + 1, #[.slice none 0 0, .slice none 0 0])] w1.heap.size (.slice ag Gd.length cg) (.slice (some ⟨gx, 0, none⟩) (Gd.length + 1) cx) G Y wc := ⟨X.set g (X[g] ++ Xb[a]), by simpa using hxl, HL1.out.put (Xb[a]) hgx, hcut⟩
              clear hcut HPUT KA KF hlo9 hgxb9 hgne9 HDR HNIL k1 kf hn1 hn2 hgl c00 c01 c10 c11 c30 c31 hz3 e0 f0 m1 hXg HSRC HS hxl hgx
              obtain ⟨c00, c01, c10, c11, c30, c31, hz3⟩ := hcut2.cells
              obtain ⟨gm2, hab, m0⟩ := (HD.out.2.below hcut2.below (Nat.le_refl _)).sign a hal
              simp only [Option.some.injEq, Addr.mk.injEq, and_true] at hab
              subst hab
              have hgl' : G.length = Gd.length := HL2.out.gl
              obtain ⟨ag2, cg2, eg, hgc⟩ := gone_form hcut2.gone
              rw [hgl'] at eg
              simp only [Value.slice.injEq, true_and] at eg
              obtain ⟨rfl, rfl⟩ := eg
              obtain ⟨gk, curk, rfl, hgb, hgk, hcells⟩ := hgc (by omega)
              have g1 := hcells g (by omega)
              have gf : wc.frozen? ⟨gk, g, none⟩ = false := Lib.frozen_of_heap hgk g
              have H6 : Hid (ThenSt W (unitsN (Gd.drop (g + 1)) (Xd.drop (g + 1))) Gd Gb Xb (a + 1) (g + 1) (G.set g Gb[a]) Y ∧ OutSt (w.heap.size + 1 + 1 + 1) w [(w.heap.size, #[.slice (some ⟨gh, 0, none⟩) Gd.length cd, .slice (some ⟨gi, 0, none⟩) Xd.length ci]), (w.heap.size + 1, #[.slice (some ⟨gm, 0, none⟩) Gb.length cb, .slice (some ⟨gj, 0, none⟩) Xb.length cj]), (w.heap.size + 1 + 1, #[.slice none 0 0, .slice none 0 0])] w1.heap.size (.slice (some ⟨gk, 0, none⟩) Gd.length cg) (.slice (some ⟨gx, 0, none⟩) (Gd.length + 1) cx) (G.set g Gb[a]) Y (wc.setCell ⟨gk, g, none⟩ (.bool Gb[a]))) := by_hid (by
                refine ⟨⟨HL2.out.mark Gb[a] hgd, HC1.out⟩, ?_⟩
                have := OutSt.mark (G := G) (by rw [hgl']; exact hcut2) g (by omega) Gb[a]
                rw [hgl'] at this
                exact this)
              clear hcells hgc hcut2 hgk
              go_wp2
              go_region
              all_goals
                go_wp2
                go_roundw
                case rel => exact ⟨a + 1, g + 1, _, _, by omega, by go_num, by go_num, by_hid ⟨H6.out.1, by first | exact H6.out.2 | exact H6.out.2.drew⟩⟩
                case measure => simp [intOf]; omega
          · rw [hbg] at m1
            have H6 : Hid (ThenSt W (unitsN (Gd.drop (g + 1)) (Xd.drop (g + 1))) Gd Gb Xb a (g + 1) G X ∧ OutSt (w.heap.size + 1 + 1 + 1) w [(w.heap.size, #[.slice (some ⟨gh, 0, none⟩) Gd.length cd, .slice (some ⟨gi, 0, none⟩) Xd.length ci]), (w.heap.size + 1, #[.slice ab Gb.length cb, .slice (some ⟨gj, 0, none⟩) Xb.length cj]), (w.heap.size + 1 + 1, #[.slice none 0 0, .slice none 0 0])] w1.heap.size (.slice ag Gd.length cg) (.slice (some ⟨gx, 0, none⟩) (Gd.length + 1) cx) G X wr) := by_hid (by
              have h := HV.out
              rw [HR.out, hbg] at h
              refine ⟨⟨?_, ?_⟩, HS.out⟩
              · have h1 := h.laid
                rw [show uN true = Un.d from rfl, compU] at h1
                exact LaidC.stay true h1 hgd (by rw [List.getD_eq_getElem?_getD, List.getElem?_eq_getElem hgd, hbg]; rfl)
              · have h2 := h.cnt
                simpa [uN, outU] using h2)
            clear hbg HV HS
            go_wp2
            go_roundw
            case rel => exact ⟨a, g + 1, _, _, by omega, rfl, by go_num, H6⟩
            case measure => simp [intOf]; omega

end Go.Proofs.Ytpiankiacbghcaa
