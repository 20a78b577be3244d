/-
  The document's answer: Invert.
-/
import Derived.Test.YtpiankiacbghcaaBGlue
import Derived.Test.YtpiankiacbghcaaBBeh0
import Derived.Test.YtpiankiacbghcaaRRef14
namespace Go.Proofs.Ytpiankiacbghcaa
open Go.RowKit

set_option maxHeartbeats 1000000 in
set_option maxRecDepth 100000 in
theorem rInvert_bad (Q : List Qt) (t : List UInt8) (ht : t.length ≤ 1000000000) (he : isText t = false) : InvSays false 67 Q t [] 2 := by
  intro w v hp _
  have HP : Hid (QsAt w v Q ∧ isText t = false) := ⟨hp, he⟩
  obtain ⟨ao, cap, rfl, hc⟩ := hp
  clear hc he
  go_enter Try.func67, Try.ntmps67
  go_wp2_with fail
  refine (on_bad _ Q t _ HP.out.1 ht HP.out.2).mono ?_
  rintro e w1 ⟨rfl, hb1⟩
  go_wp2
  go_ret2
  exact ⟨_, rfl, nil_own _ _, .inl rfl, (fun h => by cases h), hb1.alloc hb1.size _⟩

set_option maxHeartbeats 1000000 in
set_option maxRecDepth 100000 in
theorem rInvert_err (Q : List Qt) (t : List UInt8) (hL : Q.length ≤ 9223372036854775806) (hr : ∀ q ∈ Q, q.text.length ≤ 1000000000) (ht : t.length ≤ 1000000000) (htx : isText t = true) (he : errQ Q (charsL t).length ≠ 0) :
    InvSays false 67 Q t [] (errQ Q (charsL t).length) := by
  intro w v hp _
  have HP : Hid (QsAt w v Q ∧ (∀ q ∈ Q, q.text.length ≤ 1000000000) ∧ isText t = true) := ⟨hp, hr, htx⟩
  obtain ⟨ao, cap, rfl, hc⟩ := hp
  have hb : (errQ Q (charsL t).length != 0) = true := by rw [bne_iff_ne]; exact he
  obtain ⟨E, hE⟩ : ∃ E, E = errQ Q (charsL t).length := ⟨_, rfl⟩
  have HE : Hid (E = errQ Q (charsL t).length ∧ errQ Q (charsL t).length ≠ 0) := ⟨hE, he⟩
  rw [← hE] at hb ⊢
  clear hc hr he hE htx
  go_enter Try.func67, Try.ntmps67
  go_wp2_with fail
  refine (on_err _ Q t _ HP.out.1 hL HP.out.2.1 ht HP.out.2.2 HE.out.2).mono ?_
  rintro e w1 ⟨⟨lv, rfl⟩, hb1⟩
  rw [← HE.out.1]
  go_wp2
  go_ret2
  exact ⟨_, rfl, nil_own _ _, .inl rfl, (fun h => by cases h), hb1.alloc hb1.size _⟩

/-- what is still to be laid. -/
def invR (G : List Bool) (Y : List (List (List UInt8))) (cs : List (List UInt8)) (g : Nat) : List Un := invU (unitsN (G.drop g) (Y.drop g)) (cs.drop g)
theorem invR_eq (G : List Bool) (Y : List (List (List UInt8))) (cs : List (List UInt8)) (g : Nat) (hg : g < Y.length) (hx : Y.length = G.length + 1) : invR G Y cs g = List.replicate (Y[g]).length Un.d ++ invU (restD G Y g) (cs.drop g) := by
  rw [invR, restD_eq G Y g hg hx, inw_is]

set_option maxHeartbeats 40000000 in
set_option maxRecDepth 100000 in
theorem rInvert_ok (L : List Pt) (us : List Un) (t : List UInt8) (hok : OpU L us (charsL t).length) (hf : tlen L ≤ 2000000) (ht : t.length ≤ 2000000) (htx : isText t = true) (he : errQ (L.map Pt.q) (charsL t).length = 0) (hLt : ∀ p ∈ L, isText p.text = true) :
    InvSays false 67 (L.map Pt.q) t (normU (invU us (charsL t))) 0 := by
  intro w v hp _
  have HP : Hid (QsAt w v (L.map Pt.q) ∧ OpU L us (charsL t).length ∧ tlen L ≤ 2000000 ∧ errQ (L.map Pt.q) (charsL t).length = 0 ∧ (∀ p ∈ L, isText p.text = true) ∧ (∀ q ∈ L.map Pt.q, q.text.length ≤ 1000000000) ∧ isText t = true) := ⟨hp, hok, hf, he, hLt, fun q hq => by
    obtain ⟨p, hp, rfl⟩ := List.mem_map.1 hq
    exact (hok.ok.texts p hp).2, htx⟩
  have hn := hok.small
  obtain ⟨ao, cap, rfl, hc⟩ := hp
  rw [List.length_map] at HP ⊢
  obtain ⟨cs, hcs⟩ : ∃ cs, cs = charsL t := ⟨_, rfl⟩
  have HCS : Hid (cs = charsL t ∧ (∀ c ∈ cs, IsCh c) ∧ t = cs.flatten) := ⟨hcs, by rw [hcs]; exact text_chars t, by rw [hcs]; exact text_eq htx⟩
  clear hc hok hf he hLt htx
  go_enter Try.func67, Try.ntmps67
  go_wp2_with fail
  refine (on_ok _ L t _ HP.out.1 HP.out.2.1.ok HP.out.2.2.1 HP.out.2.2.2.2.2.1 (by omega) HP.out.2.2.2.2.2.2 HP.out.2.2.2.1).mono ?_
  rintro e w1 ⟨lv, gv, iv, G, X, rfl, hlv, hd, hld, hb1⟩
  have HDO : Hid (DocOp us (charsL t).length G (settR G X)) := docOp_of hld HP.out.2.1.ok.right HP.out.2.2.2.2.1 HP.out.2.1.reads HP.out.2.2.1
  rw [← hcs] at hlv HDO
  obtain ⟨Y, hY⟩ : ∃ Y, Y = settR G X := ⟨_, rfl⟩
  rw [← hY] at HDO hd
  obtain ⟨ad, cd, rfl, _⟩ := gone_form hd.gone
  obtain ⟨Vs, hI⟩ := hd.ins
  obtain ⟨gi, ci, _, rfl, _⟩ := hI.form (by rw [HDO.out.xl]; omega)
  obtain ⟨lo, lcap, rfl⟩ : ∃ lo lcap, lv = .slice lo cs.length lcap := by
    rcases hlv.2 with ⟨e, h0⟩ | ⟨g2, cap2, cur2, e, _⟩
    · exact ⟨none, 0, by rw [e, h0]⟩
    · exact ⟨_, _, e⟩
  have hcn : cs.length ≤ 1000000 := by rw [hcs]; exact hn
  have hbn : Below w1.heap.size w1 (w1.alloc (.cells #[.slice ad G.length cd, .slice (some ⟨gi, 0, none⟩) Y.length ci] 129)) := (Below.refl _ _).alloc (Nat.le_refl _) _
  have HB2 : Hid (Below w.heap.size w (w1.alloc (.cells #[.slice ad G.length cd, .slice (some ⟨gi, 0, none⟩) Y.length ci] 129)) ∧ DoesAt w.heap.size (w1.alloc (.cells #[.slice ad G.length cd, .slice (some ⟨gi, 0, none⟩) Y.length ci] 129)) (.slice ad G.length cd) (.slice (some ⟨gi, 0, none⟩) Y.length ci) G Y ∧ (w1.alloc (.cells #[.slice ad G.length cd, .slice (some ⟨gi, 0, none⟩) Y.length ci] 129)).ownsRow w.heap.size 9 1 (.slice lo cs.length lcap) cs.length (strV cs)) := ⟨hb1.trans (hbn.mono hb1.size), hd.below hbn (Nat.le_refl _), own_below hlv hbn (Nat.le_refl _)⟩
  obtain ⟨m, hm⟩ : ∃ m, m = keptN G + total Y := ⟨_, rfl⟩
  have hm4 : m ≤ 4000000 := by
    have h1 := keptN_le G
    have h2 := HDO.out.tot
    have h3 := HDO.out.gl
    omega
  have HOU : Hid (outU (unitsN G Y) = m ∧ keptN G + total Y = m) := by_hid ⟨by rw [hm]; exact (outU_units G Y HDO.out.xl).1, hm.symm⟩
  obtain ⟨W, hW⟩ : ∃ W, W = invU (unitsN G Y) cs := ⟨_, rfl⟩
  have HW : Hid (OkU W ∧ bytesU W ≤ 2000000 ∧ W = invU (unitsN G Y) cs ∧ normU W = normU (invU us cs)) := by_hid (by
    have h1 := invU_bytes (unitsN G Y) cs
    have h2 : cs.flatten.length ≤ 2000000 := by rw [← HCS.out.2.2]; exact ht
    refine ⟨by rw [hW]; exact invU_ok _ _ HCS.out.2.1, by rw [hW]; omega, hW, ?_⟩
    rw [hW]
    exact ((HDO.out.eqv HP.out.2.1.reads.ok).inv cs).norm)
  have HGL : Hid (G.length = cs.length ∧ Y.length = G.length + 1) := ⟨HDO.out.gl, HDO.out.xl⟩
  have hYl : Y.length ≤ 1000001 := by have := HGL.out; omega
  have hgl1 : G.length ≤ 1000000 := by have := HGL.out; omega
  have HTY : Hid (total Y ≤ 2000000) := HDO.out.tot
  clear hd hld hb1 hI hY hbn hlv hm hW hcs
  obtain ⟨i0, hi0, hz0, hz1, hz2⟩ := info_parts Try.infoStr
  go_wp2_with fail
  refine (Left_any w.heap.size _ _ G Y _ HB2.out.2.1 hgl1 HGL.out.2 (by have := HTY.out; omega)).mono ?_
  rintro e w2 ⟨rfl, hb2⟩
  rw [HOU.out.2]
  have hbx := (hb2.block w1.heap.size (by simp)).trans (heap_alloc_new w1 _)
  have HB3 : Hid (Below w.heap.size w w2 ∧ DoesAt w.heap.size w2 (.slice ad G.length cd) (.slice (some ⟨gi, 0, none⟩) Y.length ci) G Y ∧ w2.ownsRow w.heap.size 9 1 (.slice lo cs.length lcap) cs.length (strV cs) ∧ w2.heap[w1.heap.size]? = some (.cells #[.slice ad G.length cd, .slice (some ⟨gi, 0, none⟩) Y.length ci] 129 (0, 0))) := ⟨HB2.out.1.trans (hb2.mono HB2.out.1.size), HB2.out.2.1.below hb2 (Nat.le_refl _), own_below HB2.out.2.2 hb2 (Nat.le_refl _), hbx⟩
  have hl12 : w1.heap.size < w2.heap.size := lt_of_blk hbx
  clear hb2 hbx HB2
  go_wp2_with fail
  refine (nothing_any m _ (by omega)).mono ?_
  rintro e w3 ⟨gv, iv, rfl, hd1, hb1⟩
  obtain ⟨ag, cg, rfl, _⟩ := gone_form hd1.gone
  obtain ⟨Vs', hI'⟩ := hd1.ins
  obtain ⟨gx, cx, _, rfl, _⟩ := hI'.form (by simp)
  simp only [List.length_replicate] at hd1
  have HS0 : Hid (OutSt w2.heap.size w2 [] w3.heap.size (.slice ag m cg) (.slice (some ⟨gx, 0, none⟩) (m + 1) cx) (List.replicate m false) (List.replicate (m + 1) []) (w3.alloc (.cells #[.slice ag m cg, .slice (some ⟨gx, 0, none⟩) (m + 1) cx] 129))) := by_hid (out_new hd1 hb1 (fun p hp => by cases hp) (Nat.le_refl _))
  clear hd1 hb1 hI'
  rw [List.length_replicate, List.length_replicate]
  have HXC : Hid (∀ wx, Below w2.heap.size w2 wx → wx.cell? ⟨w1.heap.size, 0, none⟩ = some (.slice ad G.length cd) ∧ wx.cell? ⟨w1.heap.size, 1, none⟩ = some (.slice (some ⟨gi, 0, none⟩) Y.length ci)) := by_hid (fun wx hx => by
    have e1 := (hx.block _ hl12).trans HB3.out.2.2.2
    exact ⟨Lib.cell_of_heap e1 0, Lib.cell_of_heap e1 1⟩)
  have HLC : Hid (∀ wx, Below w2.heap.size w2 wx → ∀ g (hg : g < cs.length), ∃ gs, lo = some ⟨gs, 0, none⟩ ∧ wx.cell? ⟨gs, g, none⟩ = some (.string (bs cs[g]))) := by_hid (fun wx hx g hg => by
    have hr := own_below HB3.out.2.2.1 hx (Nat.le_refl _)
    rcases hr.2 with ⟨e, h0⟩ | ⟨g2, cap2, cur2, e, _⟩
    · omega
    · simp only [Value.slice.injEq, true_and] at e
      obtain ⟨rfl, rfl⟩ := e
      refine ⟨g2, rfl, ?_⟩
      have hcell := hr.cells (g := g2) rfl g (.string (bs cs[g])) (by simp [strV, List.getElem?_eq_getElem hg])
      have hadd : (⟨g2, 0, none⟩ : Addr).add g = ⟨g2, g, none⟩ := by unfold Addr.add; split <;> simp_all
      rwa [hadd] at hcell)
  obtain ⟨c0, c1⟩ := HXC.out _ HS0.out.below
  go_wp2
  go_loopw [10, 11] (fun ax gx' wr => ∃ (a g : Nat) (G' : List Bool) (X' : List (List (List UInt8))), g ≤ G.length ∧ ax = .int .i64 a ∧ gx' = .int .i64 g ∧ Hid (BehSt W (invR G Y cs g) m a (outU (unitsN (G.drop g) (Y.drop g))) G' X' ∧ OutSt w2.heap.size w2 [] w3.heap.size (.slice ag m cg) (.slice (some ⟨gx, 0, none⟩) (m + 1) cx) G' X' wr)) (fun _ gx' _ => G.length + 1 - (intOf gx').toNat)
  case atStart =>
    refine ⟨0, 0, _, _, Nat.zero_le _, rfl, rfl, ⟨⟨?_, ?_⟩, HS0.out⟩⟩
    · rw [invR, List.drop_zero, List.drop_zero, List.drop_zero, ← HW.out.2.2.1]
      exact laidC_new W (List.replicate m false) m (by simp)
    · rw [List.drop_zero, List.drop_zero, HOU.out.1]
      omega
  case round =>
    clear c0 c1
    obtain ⟨a, g, G', X', hg, rfl, rfl, hv⟩ := hrel
    obtain ⟨c0, c1⟩ := HXC.out _ hv.out.2.below
    have hgY : g < Y.length := by have := HGL.out; omega
    have hgi : (g : Int) < (Y.length : Int) := by omega
    have hYg : (Y[g]).length ≤ 2000000 := Nat.le_trans (le_total g hgY) HTY.out
    go_wp2
    go_loopw [10, 12] (fun ax ix wr => ∃ (a i : Nat) (G' : List Bool) (X' : List (List (List UInt8))), i ≤ (Y[g]).length ∧ ax = .int .i64 a ∧ ix = .int .i64 i ∧ Hid (BehSt W (List.replicate ((Y[g]).length - i) Un.d ++ invU (restD G Y g) (cs.drop g)) m a ((Y[g]).length - i + outU (restD G Y g)) G' X' ∧ OutSt w2.heap.size w2 [] w3.heap.size (.slice ag m cg) (.slice (some ⟨gx, 0, none⟩) (m + 1) cx) G' X' wr)) (fun _ ix _ => (Y[g]).length - (intOf ix).toNat)
    case atStart =>
      refine ⟨a, 0, G', X', Nat.zero_le _, rfl, rfl, ⟨⟨?_, ?_⟩, hv.out.2⟩⟩
      · have h := hv.out.1.laid
        rw [invR_eq G Y cs g hgY HGL.out.2] at h
        exact h
      · have h := hv.out.1.cnt
        rw [restD_eq G Y g hgY HGL.out.2, outU_append, (is_nums _).2.1] at h
        exact h
    case round =>
      clear c0 c1 hv
      obtain ⟨a, i, G', X', hi, rfl, rfl, hv⟩ := hrel
      obtain ⟨c0, c1⟩ := HXC.out _ hv.out.2.below
      have c30 : wr.cell? ⟨w3.heap.size, 0, none⟩ = some (.slice ag m cg) := Lib.cell_of_heap hv.out.2.new 0
      have c31 : wr.cell? ⟨w3.heap.size, 1, none⟩ = some (.slice (some ⟨gx, 0, none⟩) (m + 1) cx) := Lib.cell_of_heap hv.out.2.new 1
      have hz3 : w3.heap.size < wr.heap.size := lt_of_blk hv.out.2.new
      obtain ⟨sao, scap, e0, _, _⟩ := (HB3.out.2.1.below hv.out.2.below (Nat.le_refl _)).gap g hgY
      have hszr := hv.out.2.below.size
      have hgl' : G'.length = m := hv.out.1.laid.gl
      have hxl : X'.length = m + 1 := hv.out.1.laid.xl
      have hcnt := hv.out.1.cnt
      have HSS : Hid (OutSt w2.heap.size w2 [] w3.heap.size (.slice ag m cg) (.slice (some ⟨gx, 0, none⟩) (m + 1) cx) G' X' wr) := hv.out.2
      by_cases hlt : i < (Y[g]).length
      · have ham : a < m := by omega
        have hrep : (Y[g]).length - i = (Y[g]).length - (i + 1) + 1 := by omega
        have hc6 : a + 1 + ((Y[g]).length - (i + 1) + outU (restD G Y g)) = m := by omega
        have haG : a < G'.length := by omega
        have hami : (a : Int) < (m : Int) := by omega
        obtain ⟨ag2, cg2, eg, hgc⟩ := gone_form hv.out.2.gone
        rw [hgl'] at eg
        simp only [Value.slice.injEq, true_and] at eg
        obtain ⟨rfl, rfl⟩ := eg
        obtain ⟨gk, curk, rfl, hgb, hgk, hcells⟩ := hgc (by omega)
        have g1 := hcells a haG
        have gf : wr.frozen? ⟨gk, a, none⟩ = false := Lib.frozen_of_heap hgk a
        have H6 : Hid (BehSt W (List.replicate ((Y[g]).length - (i + 1)) Un.d ++ invU (restD G Y g) (cs.drop g)) m (a + 1) ((Y[g]).length - (i + 1) + outU (restD G Y g)) (G'.set a true) X' ∧ OutSt w2.heap.size w2 [] w3.heap.size (.slice (some ⟨gk, 0, none⟩) m cg) (.slice (some ⟨gx, 0, none⟩) (m + 1) cx) (G'.set a true) X' (wr.setCell ⟨gk, a, none⟩ (.bool true))) := by_hid (by
          refine ⟨⟨?_, hc6⟩, ?_⟩
          · have h := hv.out.1.laid
            rw [hrep, List.replicate_succ, List.cons_append] at h
            exact LaidC.mark true h ham
          · have := OutSt.mark (G := G') (by rw [hgl']; exact HSS.out) a haG true
            rw [hgl'] at this
            exact this)
        have hii : (i : Int) < ((Y[g]).length : Int) := by omega
        clear hcells hgc hv hgk hcnt hrep hc6
        go_wp2
        go_roundw
        case rel => exact ⟨a + 1, i + 1, _, _, by omega, by go_num, by go_num, H6⟩
        case measure => simp [intOf]; omega
      · have hie : i = (Y[g]).length := by omega
        subst hie
        have HV : Hid (BehSt W (invU (restD G Y g) (cs.drop g)) m a (outU (restD G Y g)) G' X') := by_hid (by
          have h := hv.out.1
          rw [Nat.sub_self, Nat.zero_add] at h
          exact h)
        clear hv hcnt
        by_cases hgl2 : g = G.length
        · have hgd0 : ((g : Int) == (cs.length : Int)) = true := beq_iff_eq.2 (by have := HGL.out; omega)
          have HE : Hid (unitsN G' X' = W ∧ X'.length = G'.length + 1 ∧ G'.length = m) := by_hid (by
            have h := HV.out
            rw [restD, dif_neg (by omega)] at h
            have h1 := h.cnt
            have ha : a = m := by simpa [outU] using h1
            subst ha
            have h2 := h.laid
            rw [invU] at h2
            exact ⟨h2.done, by rw [hxl, hgl'], hgl'⟩)
          have HGE : Hid (g = G.length) := hgl2
          clear hgl2 HV
          have HSZ : Hid (Sizes G' X' ∧ Sizes G' (settR G' X') ∧ Sizes G' (settR G' (settR G' X'))) := sizes_units HE.out.2.1 (by omega) (by rw [HE.out.1]; exact HW.out.1) (by rw [HE.out.1]; have := HW.out.2.1; omega)
          have HPD : Hid (dropKeep ((units G' (settR G' X')).foldl withP []) = normU (invU us cs)) := by_hid (by
            rw [parts_one G' X' HE.out.2.1 (ne_of_chX (chX_of_units G' X' HE.out.2.1 (by rw [HE.out.1]; exact HW.out.1))), HE.out.1]
            exact HW.out.2.2.2)
          have HDD : Hid (DoesAt w2.heap.size wr (.slice ag m cg) (.slice (some ⟨gx, 0, none⟩) (m + 1) cx) G' X') := ⟨HSS.out.gone, HSS.out.ins⟩
          go_wp2_with fail
          refine (rParts_any w2.heap.size _ _ G' X' _ HDD.out HSZ.out.1 HSZ.out.2.1).mono ?_
          rintro e w5 ⟨r, rfl, hrow, hb5⟩
          rw [HPD.out] at hrow
          have HBB : Hid (Below w.heap.size w wr) := HB3.out.1.trans (HSS.out.below.mono HB3.out.1.size)
          have HF : Hid (w5.ownsRow w.heap.size 45 3 r (normU (invU us cs)).length (rowOf (normU (invU us cs))) ∧ Below w.heap.size w w5) := ⟨own_base hrow HBB.out.size, HBB.out.trans (hb5.mono HBB.out.size)⟩
          clear hrow hb5
          go_wp2
          go_ret2
          rw [← HCS.out.1]
          exact ⟨_, rfl, HF.out.1, by simp, (fun h => by cases h), HF.out.2⟩
        · have hgd0 : ((g : Int) == (cs.length : Int)) = false := beq_eq_false_iff_ne.2 (by have := HGL.out; omega)
          have hgd : g < G.length := by omega
          have hgc : g < cs.length := by have := HGL.out; omega
          have hgci : (g : Int) < (cs.length : Int) := by omega
          have hgdi : (g : Int) < (G.length : Int) := by omega
          obtain ⟨gh, had, m1⟩ := (HB3.out.2.1.below HSS.out.below (Nat.le_refl _)).sign g hgd
          subst had
          have HV2 : Hid (BehSt W ((if G[g] then Un.i cs[g] else Un.k) :: invR G Y cs (g + 1)) m a ((if G[g] then 0 else 1) + outU (unitsN (G.drop (g + 1)) (Y.drop (g + 1)))) G' X') := by_hid (by
            have h := HV.out
            rw [restD, dif_pos hgd, inw_mark _ _ cs g hgc] at h
            refine ⟨h.laid, ?_⟩
            have h1 := h.cnt
            cases hb : G[g] <;> (rw [hb] at h1; simp [uN, outU] at h1 ⊢; omega))
          clear hgl2 HV
          cases hbg : G[g]
          · rw [hbg] at m1
            have H6 : Hid (BehSt W (invR G Y cs (g + 1)) m (a + 1) (outU (unitsN (G.drop (g + 1)) (Y.drop (g + 1)))) G' X' ∧ OutSt w2.heap.size w2 [] w3.heap.size (.slice ag m cg) (.slice (some ⟨gx, 0, none⟩) (m + 1) cx) G' X' wr) := by_hid (by
              have h := HV2.out
              rw [hbg] at h
              simp only [Bool.false_eq_true, if_false] at h
              have h1 := h.cnt
              refine ⟨⟨LaidC.stay false h.laid (by omega) (repD _ _ _), by omega⟩, HSS.out⟩)
            have ham2 : a < 4000001 := by
              have h := HV2.out.cnt
              omega
            clear hbg HV2
            go_wp2
            go_roundw
            case rel => exact ⟨a + 1, g + 1, _, _, by omega, by go_num, by go_num, H6⟩
            case measure => simp [intOf]; omega
          · rw [hbg] at m1
            have HL1 : Hid (LaidC W ([cs[g]].map Un.i ++ invR G Y cs (g + 1)) m a (List.replicate m false) G' X' ∧ a + outU (unitsN (G.drop (g + 1)) (Y.drop (g + 1))) = m) := by_hid (by
              have h := HV2.out
              rw [hbg] at h
              simp only [if_true, Nat.zero_add] at h
              exact ⟨h.laid, h.cnt⟩)
            have ham3 : a ≤ m := HL1.out.1.le
            have hgx : a < X'.length := by omega
            have ham1 : (a : Int) < (m : Int) + 1 := by omega
            have hXg : (X'[a]).length ≤ 10000000 := by
              have h := HL1.out.1.gap HW.out.1
              rw [List.getD_eq_getElem?_getD, List.getElem?_eq_getElem hgx] at h
              have := HW.out.2.1
              exact Nat.le_trans h (by omega)
            obtain ⟨gs, hlo, e1⟩ := HLC.out _ HSS.out.below g hgc
            subst hlo
            have hgs2 : gs < w2.heap.size := by
              obtain ⟨gs', hlo', e2⟩ := HLC.out w2 (Below.refl _ _) g hgc
              simp only [Option.some.injEq, Addr.mk.injEq, and_true] at hlo'
              subst hlo'
              exact World.block_lt_of_cell? w2 _ e2
            have HONE : Hid (SrcAt (wr.drew.alloc (.cells #[.string (bs cs[g])] 9)) (.slice (some ⟨wr.heap.size, 0, none⟩) 1 1) 1 (strV [cs[g]])) := by_hid (.inr ⟨_, _, rfl, by omega, fun j u hu => cell_one_new _ _ _ j u hu⟩)
            have HS : Hid (OutSt w2.heap.size w2 [] w3.heap.size (.slice ag m cg) (.slice (some ⟨gx, 0, none⟩) (m + 1) cx) G' X' wr) := HSS.out
            clear hbg HV2
            obtain ⟨Vq, dao, dcap, hIq, hdq, k1, kf, hrow, hnil, hn1, hn2, hgl⟩ := HS.out.spot hxl (a) hgx
            have HDR : Hid (wr.ownsRow w2.heap.size 9 1 (.slice dao (X'[a]).length dcap) (X'[a]).length (strV X'[a])) := hrow
            have HNIL : Hid ((X'[a]).length = 0 → Value.slice dao (X'[a]).length dcap = .slice none 0 0) := hnil
            have HPUT : Hid (∀ v9 w9, AppRes w2.heap.size 9 1 (wr.drew.alloc (.cells #[.string (bs cs[g])] 9)) (.slice dao (X'[a]).length dcap) (X'[a]).length (strV X'[a]) 1 (strV [cs[g]]) (wr.heap.size + 1) v9 w9 → OutSt w2.heap.size w2 [] w3.heap.size (.slice ag m cg) (.slice (some ⟨gx, 0, none⟩) (m + 1) cx) G' (X'.set (a) (X'[a] ++ [cs[g]])) (w9.setCell ⟨gx, a, none⟩ v9)) := by_hid (fun v9 w9 hA => HS.out.putAt hxl (a) hgx ((Below.refl _ _).drew.alloc (Nat.le_refl _) _) k1 (by simpa using hA))
            obtain ⟨hgxb9, hgne9⟩ := HS.out.rowLow hxl (by omega)
            have hlo9 : w2.heap.size ≤ wr.heap.size := by omega
            have KA : Hid ((wr.drew).cell? ⟨w3.heap.size, 1, none⟩ = some (.slice (some ⟨gx, 0, none⟩) (m + 1) cx) ∧ (wr.drew).cell? ⟨gs, g, none⟩ = some (.string (bs cs[g]))) := ⟨c31, e1⟩
            have KB : Hid ((wr.drew.alloc (.cells #[.string (bs cs[g])] 9)).cell? ⟨w3.heap.size, 1, none⟩ = some (.slice (some ⟨gx, 0, none⟩) (m + 1) cx) ∧ (wr.drew.alloc (.cells #[.string (bs cs[g])] 9)).cell? ⟨gs, g, none⟩ = some (.string (bs cs[g]))) := by_hid (by
              have hb := (((Below.refl _ _).drew.alloc (Nat.le_refl _) _) : Below wr.heap.size wr (wr.drew.alloc (.cells #[.string (bs cs[g])] 9)))
              exact ⟨(hb.cell (p := ⟨w3.heap.size, 1, none⟩) hz3).trans c31, (hb.cell (p := ⟨gs, g, none⟩) (show gs < wr.heap.size from Nat.lt_of_lt_of_le (show gs < w2.heap.size from (hgs2)) hlo9)).trans e1⟩)
            have KF : Hid (∀ v9 w9, AppRes w2.heap.size 9 1 (wr.drew.alloc (.cells #[.string (bs cs[g])] 9)) (.slice dao (X'[a]).length dcap) (X'[a]).length (strV X'[a]) 1 (strV [cs[g]]) (wr.heap.size + 1) v9 w9 → (w9.cell? ⟨w3.heap.size, 1, none⟩ = some (.slice (some ⟨gx, 0, none⟩) (m + 1) cx) ∧ w9.cell? ⟨gs, g, none⟩ = some (.string (bs cs[g]))) ∧ ∀ v, ((w9.setCell ⟨gx, a, none⟩ v).cell? ⟨w3.heap.size, 1, none⟩ = some (.slice (some ⟨gx, 0, none⟩) (m + 1) cx) ∧ (w9.setCell ⟨gx, a, none⟩ v).cell? ⟨gs, g, none⟩ = some (.string (bs cs[g])))) := by_hid (fun v9 w9 hA => by
              have h0 := (hA.grown.cell_far ⟨w3.heap.size, 1, none⟩ (by simp; omega) (Ne.symm hn1)).trans KB.out.1
              have h1 := (hA.grown.cell_far ⟨gs, g, none⟩ (by have hl : gs < w2.heap.size := (hgs2); simp; omega) (fun e => by have hl : gs < w2.heap.size := (hgs2); have h3 : w2.heap.size ≤ gs := (HDR.out.lt _ e.symm).1; omega)).trans KB.out.2
              exact ⟨⟨h0, h1⟩, fun v => ⟨(World.cell?_setCell_other _ _ _ _ (fun e => hgne9 (congrArg Addr.block e).symm)).trans h0, (World.cell?_setCell_other _ _ _ _ (fun e => by have hl : gs < w2.heap.size := (hgs2); have e1 : gx = gs := congrArg Addr.block e; omega)).trans h1⟩⟩)
            clear hrow hnil hIq hdq
            go_wp2
            go_region_law ((refine step_append_any (by rfl) _ _ _ (by rfl) w2.heap.size 9 i0 _ 1 16 Try.underlying61 hi0 hz0 hz1 hz2 rfl (by omega) (.slice dao (X'[a]).length dcap) _ _ (by rfl) (HDR.out.drew.alloc _) HNIL.out (.slice (some ⟨wr.heap.size, 0, none⟩) 1 1) 1 (strV [cs[g]]) (by rfl) (HONE.out) (by simp [strV_length]) (strV_one _) (by unfold maxLen; omega) (by omega) (by simp; omega) (wr.heap.size + 1) (by simp) ?_; intro ao9 cap9 w9 hA9; have d2 : w9.cell? ⟨w3.heap.size, 1, none⟩ = some (.slice (some ⟨gx, 0, none⟩) (m + 1) cx) := (KF.out _ _ hA9).1.1; have d0 : w9.cell? ⟨gx, a, none⟩ = some (.slice dao (X'[a]).length dcap) := (hA9.grown.cell_far _ (by simp; omega) (Ne.symm hn2)).trans (((Below.refl _ _).drew.alloc (Nat.le_refl _) _ : Below wr.heap.size wr (wr.drew.alloc (.cells #[.string (bs cs[g])] 9))).cell (p := ⟨gx, a, none⟩) hgl |>.trans k1); have d1 : w9.frozen? ⟨gx, a, none⟩ = false := (hA9.grown.frozen_far _ (by simp; omega) (Ne.symm hn2)).trans ((World.frozen?_of_block (a := ⟨gx, a, none⟩) (((Below.refl _ _).drew.alloc (Nat.le_refl _) _ : Below wr.heap.size wr (wr.drew.alloc (.cells #[.string (bs cs[g])] 9))).block gx hgl)).trans kf); have H9 : Hid (_) := hA9; clear hA9))
            all_goals
              go_wp2
              go_roundw
              case rel => exact ⟨a, g + 1, _, _, by omega, rfl, by go_num, by_hid ⟨⟨HL1.out.1.put _ hgx, HL1.out.2⟩, HPUT.out _ _ H9.out⟩⟩
              case measure => simp [intOf]; omega

end Go.Proofs.Ytpiankiacbghcaa
