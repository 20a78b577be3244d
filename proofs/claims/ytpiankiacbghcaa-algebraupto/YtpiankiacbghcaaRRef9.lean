/-
  The document's answer: Read, the walk.
-/
import Derived.Test.YtpiankiacbghcaaRRef8
namespace Go.Proofs.Ytpiankiacbghcaa
open Go.RowKit

theorem ReadSt.spot {w wr : World} {gv : Value} {G : List Bool} {X : List (List (List UInt8))} {b3 gi ci m : Nat} (h : ReadSt w b3 gv (.slice (some ⟨gi, 0, none⟩) (m + 1) ci) G X wr) (hx : X.length = m + 1) (a : Nat) (ha : a < X.length) :
    ∃ Vs dao dcap, InsAt (w.heap.size + 1) wr (.slice (some ⟨gi, 0, none⟩) X.length ci) X Vs ∧ Vs.getD a undef = .slice dao (X[a]).length dcap ∧ wr.cell? ⟨gi, a, none⟩ = some (.slice dao (X[a]).length dcap) ∧ wr.frozen? ⟨gi, a, none⟩ = false
      ∧ wr.ownsRow (w.heap.size + 1) 9 1 (.slice dao (X[a]).length dcap) (X[a]).length (strV X[a]) ∧ (Value.slice dao (X[a]).length dcap).ownBlock ≠ some b3 ∧ (Value.slice dao (X[a]).length dcap).ownBlock ≠ some gi ∧ gi < wr.heap.size := by
  obtain ⟨Vs, hI⟩ := h.ins
  have hI' : InsAt (w.heap.size + 1) wr (.slice (some ⟨gi, 0, none⟩) X.length ci) X Vs := by rw [hx]; exact hI
  obtain ⟨gi9, ci9, cur9, e9, hb9, hgi9, hcell9⟩ := hI'.form (by omega)
  simp only [Value.slice.injEq, Option.some.injEq, Addr.mk.injEq] at e9
  obtain ⟨⟨rfl, _⟩, _, rfl⟩ := e9
  have hrow := hI'.each a ha
  obtain ⟨dao, dcap, hdf⟩ : ∃ dao dcap, Vs.getD a undef = .slice dao (X[a]).length dcap := by
    rcases hrow.2 with ⟨e, h0⟩ | ⟨g2, cap2, cur2, e, _⟩
    · exact ⟨none, 0, by rw [e, h0]⟩
    · exact ⟨_, _, e⟩
  have hc := hcell9 a ha
  rw [hdf] at hrow hc
  exact ⟨Vs, dao, dcap, hI', hdf, hc, Lib.frozen_of_heap hgi9 a, hrow, own_ne hrow h.new (by decide), own_ne hrow hgi9 (by decide), lt_of_blk hgi9⟩

theorem tlen_take_succ (L : List Pt) (i : Nat) (h : i < L.length) : tlen (L.take (i + 1)) = tlen (L.take i) + L[i].text.length := by
  rw [List.take_succ_eq_append_getElem h, tlen_append]
  simp [tlen]

set_option maxHeartbeats 4000000 in
set_option maxRecDepth 100000 in
theorem Read_ok (v : Value) (L : List Pt) (m : Nat) (w : World) (hp : QsAt w v (L.map Pt.q)) (hok : OkOp L m) (hf : tlen L ≤ 2000000) (he : errQ (L.map Pt.q) m = 0) (hr : ∀ q ∈ L.map Pt.q, q.text.length ≤ 1000000000) :
    Calls Try.prog 91 #[v, .int .i64 m] w fun e w' => ∃ gv iv G X, e = .returned (.tuple #[.agg #[gv, iv], .int .i64 0]) ∧ DoesAt w.heap.size w' gv iv G (settR G X) ∧ Laid (unitsOf L) m (nums L) (tlen L) G X ∧ Below w.heap.size w w' := by
  have HP : Hid (QsAt w v (L.map Pt.q) ∧ (∀ q ∈ L.map Pt.q, q.text.length ≤ 1000000000) ∧ OkOp L m) := ⟨hp, hr, hok⟩
  have HC : Hid ((if decide (40 < (L.map Pt.q).length) || !(L.map Pt.q).all rightQ then 0 else if !(L.map Pt.q).all (fun q => isText q.text) then 0 else sumQ (L.map Pt.q)) = nums L ∧ (if decide (40 < (L.map Pt.q).length) || !(L.map Pt.q).all rightQ then (1 : Int) else if !(L.map Pt.q).all (fun q => isText q.text) then 2 else 0) = 0) := by_hid (by
    have ha : argQ (L.map Pt.q) m = false := by
      cases h : argQ (L.map Pt.q) m with
      | false => rfl
      | true => simp [errQ, h] at he
    have hb : (decide (40 < (L.map Pt.q).length) || !(L.map Pt.q).all rightQ) = false := by
      simp only [argQ, Bool.or_eq_false_iff] at ha ⊢
      exact ⟨ha.1.2, ha.2⟩
    have hc : (!(L.map Pt.q).all (fun q => isText q.text)) = false := by
      cases h : (!(L.map Pt.q).all (fun q => isText q.text)) with
      | false => rfl
      | true => simp only [errQ, ha, h] at he; simp at he
    rw [hb, hc, sumQ_pt]
    simp)
  have HTX : Hid (∀ p ∈ L, isText p.text = true) := by_hid (fun p hp => by
    have ha : argQ (L.map Pt.q) m = false := by
      cases h : argQ (L.map Pt.q) m with
      | false => rfl
      | true => simp [errQ, h] at he
    have hc : (!(L.map Pt.q).all (fun q => isText q.text)) = false := by
      cases h : (!(L.map Pt.q).all (fun q => isText q.text)) with
      | false => rfl
      | true => simp only [errQ, ha, h] at he; simp at he
    rw [Bool.not_eq_false'] at hc
    exact List.all_eq_true.1 hc p.q (List.mem_map_of_mem hp))
  obtain ⟨ao, cap, rfl, hc⟩ := hp
  have HCELL : Hid (0 < L.length → ∃ b off, ao = some ⟨b, off, none⟩ ∧ b < w.heap.size ∧ ∀ k (h : k < L.length), QtAt w b (off + k * 3) (L[k]).q) := by_hid (fun hl => by
    obtain ⟨b, off, e, hb, h⟩ := hc (by simpa using hl)
    exact ⟨b, off, e, hb, fun k hk => by have := h k (by simpa using hk); simpa using this⟩)
  rw [List.length_map] at HP ⊢
  have hLl : L.length ≤ 40 := hok.len
  have hcn : nums L ≤ m := hok.fits
  have hm : m ≤ 1000000 := hok.small
  clear hc hr hok he
  go_enter Try.func91, Try.ntmps91
  go_wp2_with (go_at_call 108; refine (rcount_any _ (L.map Pt.q) _ (HP.out.1.below ((Below.refl _ _).alloc (Nat.le_refl _) _) (Nat.le_refl _)) (by simp; omega) HP.out.2.1).mono ?_; rintro e w1 ⟨rfl, hb1⟩; rw [HC.out.1, HC.out.2]; have K1 : Hid (w1.heap[w.heap.size]? = some (.cells #[.slice none 0 0, .slice none 0 0] 129 (0, 0))) := by_hid (read_box hb1); have HB1 : Hid (Below w.heap.size w w1) := by_hid (((Below.refl _ _).alloc (Nat.le_refl _) _).trans (hb1.mono (by simp))); clear hb1)
  refine (nothing_any m _ (by omega)).mono ?_
  rintro e w2 ⟨gv, iv, rfl, hd2, hb2⟩
  have HD2 : Hid (DoesAt w1.heap.size w2 gv iv (List.replicate m false) (List.replicate (m + 1) []) ∧ Below w1.heap.size w1 w2) := ⟨hd2, hb2⟩
  obtain ⟨ag, cg, rfl, _⟩ := gone_form hd2.gone
  obtain ⟨Vs0, hI0⟩ := hd2.ins
  obtain ⟨gi, ci, _, rfl, _⟩ := hI0.form (by simp)
  rw [List.length_replicate] at HD2
  clear hd2 hb2 hI0
  have HS0 : Hid (ReadSt w w2.heap.size (.slice ag m cg) (.slice (some ⟨gi, 0, none⟩) (m + 1) ci) (List.replicate m false) (List.replicate (m + 1) []) (w2.alloc (.cells #[.slice ag m cg, .slice (some ⟨gi, 0, none⟩) (m + 1) ci] 129))) := by_hid (by
    obtain ⟨hd, hb⟩ := HD2.out
    have hl1 := lt_of_blk K1.out
    have hbb : Below w2.heap.size w2 (w2.alloc (.cells #[.slice ag m cg, .slice (some ⟨gi, 0, none⟩) (m + 1) ci] 129)) := (Below.refl _ _).alloc (Nat.le_refl _) _
    obtain ⟨Vs, hI⟩ := (hd.below hbb (Nat.le_refl _)).ins
    simp only [List.length_replicate] at hI
    have h2 : w2.heap[w.heap.size]? = some (.cells #[.slice none 0 0, .slice none 0 0] 129 (0, 0)) := by rw [hb.block _ hl1]; exact K1.out
    refine ⟨?_, heap_new_at _ _ _ rfl, ?_, ⟨Vs, ⟨own_base hI.row (by omega), fun j hj => own_base (hI.each j hj) (by omega), hI.non, hI.apart⟩⟩, (HB1.out.trans (hb.mono HB1.out.size)).alloc (by have := hb.size; omega) _⟩
    · rw [hbb.block _ (lt_of_blk h2)]; exact h2
    · have := own_base (base := w.heap.size + 1) (hd.below hbb (Nat.le_refl _)).gone (by omega)
      simpa using this)
  obtain ⟨i0, hi0, hz0, hz1, hz2⟩ := info_parts Try.infoStr
  go_wp2
  go_loopw [9, 10] (fun ax ix wr => ∃ (i a : Nat) (G : List Bool) (X : List (List (List UInt8))), i ≤ L.length ∧ ax = .int .i64 a ∧ ix = .int .i64 i ∧ a = nums (L.take i) ∧ Laid (unitsOf (L.take i)) m a (tlen (L.take i)) G X ∧ ReadSt w w2.heap.size (.slice ag m cg) (.slice (some ⟨gi, 0, none⟩) (m + 1) ci) G X wr) (fun _ ix _ => L.length - (intOf ix).toNat)
  case atStart => exact ⟨0, 0, _, _, Nat.zero_le _, rfl, rfl, by simp [nums], by simpa [unitsOf, tlen] using laid_new m, HS0.out⟩
  case round =>
    obtain ⟨i, a, G, X, hi, rfl, rfl, ha, hLd, hSt⟩ := hrel
    have HS : Hid (ReadSt w w2.heap.size (.slice ag m cg) (.slice (some ⟨gi, 0, none⟩) (m + 1) ci) G X wr) := hSt
    have HLD : Hid (Laid (unitsOf (L.take i)) m a (tlen (L.take i)) G X) := hLd
    have HA : Hid (a = nums (L.take i)) := ha
    have ham : a ≤ m := hLd.le
    have hxl := hLd.xl
    have hax : a < X.length := by omega
    have hbz := hSt.below.size
    have hwl : w.heap.size < wr.heap.size := lt_of_blk hSt.res
    by_cases hlt : i < L.length
    · obtain ⟨b, off, rfl, hbl, hcc⟩ := HCELL.out (by omega)
      obtain ⟨c0, c1, c2⟩ := hcc i hlt
      have HC0 : Hid (QtAt w b (off + i * 3) (L[i]).q) := by_hid (hcc i hlt)
      rw [← hSt.below.cell (p := ⟨b, _, none⟩) hbl] at c0 c1 c2
      simp only [Pt.q] at c0 c1 c2
      clear hcc hSt hLd ha HCELL
      have hbl2 : b < wr.heap.size := by omega
      have hil : (i : Int) < (L.length : Int) := by omega
      have ham2 : a + (L[i]).num ≤ m := by
        have h1 := nums_take_succ L i hlt
        have h2 := nums_take_le L (i + 1)
        have h3 := HA.out
        omega
      rcases HP.out.2.2.right L[i] (List.getElem_mem hlt) with ⟨e1, e2, e3, e4⟩ | ⟨e1, e2, e3⟩ | ⟨e1, e2, e3, e4⟩
      · rw [e4] at c2
        rw [e1] at c0
        go_wp2_with fail
        refine (Characters_nil _).mono ?_
        rintro e w3 ⟨rfl, hb3⟩
        have hS3 := HS.out.on hb3
        obtain ⟨Vs, dao, dcap, hI3, hdv, k1, kf, hrow, hn1, hn2, hgl⟩ := hS3.spot hxl a hax
        have HS4 : Hid (ReadSt w w2.heap.size (.slice ag m cg) (.slice (some ⟨gi, 0, none⟩) (m + 1) ci) G X (w3.setCell ⟨gi, a, none⟩ (.slice dao (X[a]).length dcap)).drew) := by_hid (by
          have := ReadSt.same (by rw [hxl]; exact hS3) hI3 a hax _ hdv
          rw [hxl] at this
          exact this.drew)
        have HDR : Hid (w3.ownsRow (w.heap.size + 1) 9 1 (.slice dao (X[a]).length dcap) (X[a]).length (strV X[a])) := hrow
        have c31 : w3.cell? ⟨w2.heap.size, 1, none⟩ = some (.slice (some ⟨gi, 0, none⟩) (m + 1) ci) := Lib.cell_of_heap hS3.new 1
        rw [← hb3.cell (p := ⟨b, _, none⟩) hbl2] at c0 c1 c2
        have ham1 : (a : Int) < (m : Int) + 1 := by omega
        clear hS3 hI3 hdv hrow hb3
        go_wp2
        go_region_law ((refine step_append_none (by rfl) _ _ _ (by rfl) (w.heap.size + 1) 9 i0 1 Try.underlying61 hi0 _ _ _ (by rfl) (HDR.out) (by rfl) ?_))
        all_goals
          go_wp2
          go_loopw [9, 13] (fun ax kx wr' => ∃ (k : Nat) (G' : List Bool), k ≤ (L[i]).num ∧ ax = .int .i64 (a + k : Nat) ∧ kx = .int .i64 k ∧ Laid (unitsOf (L.take i) ++ List.replicate k (uB false)) m (a + k) (tlen (L.take i)) G' X ∧ ReadSt w w2.heap.size (.slice ag m cg) (.slice (some ⟨gi, 0, none⟩) (m + 1) ci) G' X wr') (fun _ kx _ => (L[i]).num - (intOf kx).toNat)
          case atStart => exact ⟨0, G, Nat.zero_le _, rfl, rfl, by simpa using HLD.out, HS4.out⟩
          case round =>
            obtain ⟨k, G', hk, rfl, rfl, hLd', hSt'⟩ := hrel
            have HS' : Hid (ReadSt w w2.heap.size (.slice ag m cg) (.slice (some ⟨gi, 0, none⟩) (m + 1) ci) G' X wr) := hSt'
            have HLD' : Hid (Laid (unitsOf (L.take i) ++ List.replicate k (uB false)) m (a + k) (tlen (L.take i)) G' X) := hLd'
            obtain ⟨d0, d1, _⟩ := HC0.out
            rw [← hSt'.below.cell (p := ⟨b, _, none⟩) hbl] at d0 d1
            simp only [Pt.q] at d0 d1
            rw [e1] at d0
            have hnum : (L[i]).num ≤ 1000000 := e3
            have hgl' := hLd'.gl
            clear hLd'
            by_cases hkl : k < (L[i]).num
            · obtain ⟨ag2, cg2, eg, hgc⟩ := gone_form hSt'.gone
              rw [hgl'] at eg
              simp only [Value.slice.injEq, true_and] at eg
              obtain ⟨rfl, rfl⟩ := eg
              obtain ⟨gg, cur, rfl, hgb, hgg, hcells⟩ := hgc (by omega)
              have g0 : wr.cell? ⟨w2.heap.size, 0, none⟩ = some (.slice (some ⟨gg, 0, none⟩) m cg) := Lib.cell_of_heap hSt'.new 0
              have g1 := hcells (a + k) (by omega)
              have gf : wr.frozen? ⟨gg, a + k, none⟩ = false := Lib.frozen_of_heap hgg (a + k)
              have hakm : ((a + k : Nat) : Int) < (m : Int) := by omega
              have HS5 : Hid (ReadSt w w2.heap.size (.slice (some ⟨gg, 0, none⟩) m cg) (.slice (some ⟨gi, 0, none⟩) (m + 1) ci) (G'.set (a + k) false) X (wr.setCell ⟨gg, a + k, none⟩ (.bool false))) := by_hid (by
                have := ReadSt.mark (G := G') (by rw [hgl']; exact hSt') (a + k) (by omega) false
                rw [hgl'] at this
                exact this)
              have hkl1 : (k : Int) < ((L[i]).num : Int) := by omega
              clear hcells hgc hSt' hgg
              go_wp2
              go_region
              all_goals
                go_wp2
                go_roundw
                case rel =>
                  refine ⟨k + 1, G'.set (a + k) false, by omega, by go_num, by go_num, ?_, by first | exact HS5.out | exact HS5.out.drew⟩
                  have := HLD'.out.mark false (by omega)
                  rw [List.append_assoc, ← List.replicate_succ'] at this
                  exact this
                case measure => simp [intOf]; omega
            · have hkk : k = (L[i]).num := by omega
              subst hkk
              clear hSt'
              go_wp2
              go_roundw
              case rel =>
                refine ⟨i + 1, a + (L[i]).num, G', X, by omega, rfl, by go_num, by rw [nums_take_succ L i hlt, HA.out], ?_, HS'.out⟩
                rw [unitsOf_succ L i hlt, tlen_take_succ L i hlt, e4]
                have hu : uP (charsL ([] : List UInt8)) L[i] = List.replicate (L[i]).num (uB false) := by simp [uP, e1, uB]
                rw [hu]
                exact HLD'.out
              case measure => simp [intOf]; omega
      · rw [e1] at c0
        rw [e2] at c1
        have htl := HP.out.2.1 (L[i]).q (List.mem_map_of_mem (List.getElem_mem hlt))
        have htx := HTX.out L[i] (List.getElem_mem hlt)
        obtain ⟨cs, hcs⟩ : ∃ cs, cs = charsL (L[i]).text := ⟨_, rfl⟩
        have hfl : (L[i]).text = cs.flatten := by rw [hcs]; exact text_eq htx
        have HCS : Hid (cs = charsL (L[i]).text ∧ (L[i]).text = cs.flatten) := ⟨hcs, hfl⟩
        have hcp : 0 < cs.length := by
          cases hh : cs with
          | nil => rw [hh] at hfl; exact absurd hfl e3
          | cons x y => simp
        have htlen : (L[i]).text.length ≤ 2000000 := by
          have h1 := tlen_take_succ L i hlt
          have h2 := tlen_take_le L (i + 1)
          omega
        have hC1 : cs.length ≤ 2000000 := by
          have := chars_len (text_chars (L[i]).text)
          rw [← hcs, ← hfl] at this
          omega
        have hX1 : (X[a]).length ≤ 2000000 := by
          have h1 := le_total a hax
          have h2 := ne_total HLD.out.ne
          have h3 := HLD.out.byt
          have h4 := tlen_take_le L i
          omega
        have HTL : Hid ((L[i]).text.length ≤ 1000000000) := htl
        clear hcs hfl htx htl htlen
        go_wp2_with fail
        refine (Characters_any (L[i]).text _ HTL.out).mono ?_
        rintro e w3 ⟨hres, hb3⟩
        rcases hres with ⟨_, v3, rfl, hv3⟩ | ⟨h1, rfl⟩
        case inr => exact absurd (HTX.out L[i] (List.getElem_mem hlt)) (by rw [h1]; decide)
        rw [← HCS.out.1] at hv3
        obtain ⟨gs, scap, rfl⟩ : ∃ gs scap, v3 = .slice (some ⟨gs, 0, none⟩) cs.length scap := by
          rcases hv3.2 with ⟨e, h0⟩ | ⟨g2, cap2, cur2, e, _⟩
          · omega
          · exact ⟨_, _, e⟩
        have HNEW : Hid (∀ j u, (strV cs)[j]? = some u → w3.cell? ((⟨gs, 0, none⟩ : Addr).add j) = some u) := hv3.cells (g := gs) rfl
        have hS3 := HS.out.on hb3
        obtain ⟨Vs, dao, dcap, hI3, hdv, k1, kf, hrow, hn1, hn2, hgl⟩ := hS3.spot hxl a hax
        have HS3 : Hid (ReadSt w w2.heap.size (.slice ag m cg) (.slice (some ⟨gi, 0, none⟩) X.length ci) G X w3 ∧ InsAt (w.heap.size + 1) w3 (.slice (some ⟨gi, 0, none⟩) X.length ci) X Vs ∧ Vs.getD a undef = .slice dao (X[a]).length dcap ∧ X[a] ++ cs ≠ []) := ⟨by rw [hxl]; exact hS3, hI3, hdv, fun e => by have := (List.append_eq_nil_iff.1 e).2; rw [this] at hcp; simp at hcp⟩
        have HDR : Hid (w3.ownsRow (w.heap.size + 1) 9 1 (.slice dao (X[a]).length dcap) (X[a]).length (strV X[a])) := hrow
        have c31 : w3.cell? ⟨w2.heap.size, 1, none⟩ = some (.slice (some ⟨gi, 0, none⟩) (m + 1) ci) := Lib.cell_of_heap hS3.new 1
        have hl3 : w2.heap.size < w3.heap.size := lt_of_blk hS3.new
        have hw3 := hb3.size
        rw [← hb3.cell (p := ⟨b, _, none⟩) hbl2] at c0 c1 c2
        have ham1 : (a : Int) < (m : Int) + 1 := by omega
        clear hS3 hI3 hdv hrow hb3 hv3
        go_wp2
        go_region_law ((refine step_append_lies _ (by rfl) _ _ _ (by rfl) (w.heap.size + 1) 9 i0 _ 1 16 Try.underlying61 hi0 hz0 hz1 hz2 rfl (by omega) (.slice dao (X[a]).length dcap) _ _ (by rfl) (HDR.out.drew) ⟨gs, 0, none⟩ cs.length scap (strV cs) (by rfl) (by simp [strV_length]) (HNEW.out) (strV_one _) (by omega) (by unfold maxLen; omega) (by omega) (by simp; omega) w3.heap.size (by simp) ?_; intro gn cap9 w9 hown9 hgrow9 hat9 hlt9; have d0 : w9.cell? ⟨gi, a, none⟩ = some (.slice dao (X[a]).length dcap) := (hgrow9.cell_far _ (by simp; omega) (Ne.symm hn2)).trans k1; have d1 : w9.frozen? ⟨gi, a, none⟩ = false := (hgrow9.frozen_far _ (by simp; omega) (Ne.symm hn2)).trans kf; have d2 : w9.cell? ⟨w2.heap.size, 1, none⟩ = some (.slice (some ⟨gi, 0, none⟩) (m + 1) ci) := (hgrow9.cell_far _ (by simp; omega) (Ne.symm hn1)).trans c31; have H9 : Hid (w9.ownsRow (w.heap.size + 1) 9 1 (.slice (some ⟨gn, 0, none⟩) ((X[a]).length + cs.length) cap9) ((X[a]).length + cs.length) (strV X[a] ++ strV cs) ∧ w3.drew.grownBy w9 (Value.slice dao (X[a]).length dcap).ownBlock ∧ ((Value.slice dao (X[a]).length dcap).ownBlock = some gn ∨ gn = w3.heap.size)) := ⟨hown9, hgrow9, hat9⟩; clear hown9 hgrow9 hat9))
        all_goals
          go_wp2
          go_loopw [9, 13] (fun ax kx wr' => ax = .int .i64 a ∧ kx = .int .i64 0 ∧ ReadSt w w2.heap.size (.slice ag m cg) (.slice (some ⟨gi, 0, none⟩) (m + 1) ci) G (X.set a (X[a] ++ cs)) wr') (fun _ _ _ => 0)
          case atStart =>
            refine ⟨rfl, rfl, ?_⟩
            obtain ⟨q1, q2, q3⟩ := H9.out
            obtain ⟨p1, p2, p3, p4⟩ := HS3.out
            have hh := ReadSt.push p1.drew p2.drew a hax rfl p4 q1 (by rw [p3]; exact q2) (by rw [p3]; exact q3)
            rw [hxl] at hh
            exact hh
          case round =>
            obtain ⟨rfl, rfl, hSt'⟩ := hrel
            obtain ⟨d0, d1, _⟩ := HC0.out
            rw [← hSt'.below.cell (p := ⟨b, _, none⟩) hbl] at d0 d1
            simp only [Pt.q] at d0 d1
            rw [e2] at d1
            have HS5 : Hid (ReadSt w w2.heap.size (.slice ag m cg) (.slice (some ⟨gi, 0, none⟩) (m + 1) ci) G (X.set a (X[a] ++ cs)) wr) := hSt'
            clear hSt'
            go_wp2
            go_roundw
            case rel =>
              refine ⟨i + 1, a, G, X.set a (X[a] ++ cs), by omega, rfl, by go_num, by rw [nums_take_succ L i hlt, e2, ← HA.out]; rfl, ?_, HS5.out⟩
              rw [unitsOf_succ L i hlt, tlen_take_succ L i hlt]
              have hu : uP (charsL (L[i]).text) L[i] = cs.map I := by rw [← HCS.out.1]; simp [uP, e1]
              rw [hu, HCS.out.2]
              exact HLD.out.put cs (by rw [HCS.out.1]; exact charsL_ne _) hax
            case measure => simp [intOf]; omega
      · rw [e4] at c2
        rw [e1] at c0
        go_wp2_with fail
        refine (Characters_nil _).mono ?_
        rintro e w3 ⟨rfl, hb3⟩
        have hS3 := HS.out.on hb3
        obtain ⟨Vs, dao, dcap, hI3, hdv, k1, kf, hrow, hn1, hn2, hgl⟩ := hS3.spot hxl a hax
        have HS4 : Hid (ReadSt w w2.heap.size (.slice ag m cg) (.slice (some ⟨gi, 0, none⟩) (m + 1) ci) G X (w3.setCell ⟨gi, a, none⟩ (.slice dao (X[a]).length dcap)).drew) := by_hid (by
          have := ReadSt.same (by rw [hxl]; exact hS3) hI3 a hax _ hdv
          rw [hxl] at this
          exact this.drew)
        have HDR : Hid (w3.ownsRow (w.heap.size + 1) 9 1 (.slice dao (X[a]).length dcap) (X[a]).length (strV X[a])) := hrow
        have c31 : w3.cell? ⟨w2.heap.size, 1, none⟩ = some (.slice (some ⟨gi, 0, none⟩) (m + 1) ci) := Lib.cell_of_heap hS3.new 1
        rw [← hb3.cell (p := ⟨b, _, none⟩) hbl2] at c0 c1 c2
        have ham1 : (a : Int) < (m : Int) + 1 := by omega
        clear hS3 hI3 hdv hrow hb3
        go_wp2
        go_region_law ((refine step_append_none (by rfl) _ _ _ (by rfl) (w.heap.size + 1) 9 i0 1 Try.underlying61 hi0 _ _ _ (by rfl) (HDR.out) (by rfl) ?_))
        all_goals
          go_wp2
          go_loopw [9, 13] (fun ax kx wr' => ∃ (k : Nat) (G' : List Bool), k ≤ (L[i]).num ∧ ax = .int .i64 (a + k : Nat) ∧ kx = .int .i64 k ∧ Laid (unitsOf (L.take i) ++ List.replicate k (uB true)) m (a + k) (tlen (L.take i)) G' X ∧ ReadSt w w2.heap.size (.slice ag m cg) (.slice (some ⟨gi, 0, none⟩) (m + 1) ci) G' X wr') (fun _ kx _ => (L[i]).num - (intOf kx).toNat)
          case atStart => exact ⟨0, G, Nat.zero_le _, rfl, rfl, by simpa using HLD.out, HS4.out⟩
          case round =>
            obtain ⟨k, G', hk, rfl, rfl, hLd', hSt'⟩ := hrel
            have HS' : Hid (ReadSt w w2.heap.size (.slice ag m cg) (.slice (some ⟨gi, 0, none⟩) (m + 1) ci) G' X wr) := hSt'
            have HLD' : Hid (Laid (unitsOf (L.take i) ++ List.replicate k (uB true)) m (a + k) (tlen (L.take i)) G' X) := hLd'
            obtain ⟨d0, d1, _⟩ := HC0.out
            rw [← hSt'.below.cell (p := ⟨b, _, none⟩) hbl] at d0 d1
            simp only [Pt.q] at d0 d1
            rw [e1] at d0
            have hnum : (L[i]).num ≤ 1000000 := e3
            have hgl' := hLd'.gl
            clear hLd'
            by_cases hkl : k < (L[i]).num
            · obtain ⟨ag2, cg2, eg, hgc⟩ := gone_form hSt'.gone
              rw [hgl'] at eg
              simp only [Value.slice.injEq, true_and] at eg
              obtain ⟨rfl, rfl⟩ := eg
              obtain ⟨gg, cur, rfl, hgb, hgg, hcells⟩ := hgc (by omega)
              have g0 : wr.cell? ⟨w2.heap.size, 0, none⟩ = some (.slice (some ⟨gg, 0, none⟩) m cg) := Lib.cell_of_heap hSt'.new 0
              have g1 := hcells (a + k) (by omega)
              have gf : wr.frozen? ⟨gg, a + k, none⟩ = false := Lib.frozen_of_heap hgg (a + k)
              have hakm : ((a + k : Nat) : Int) < (m : Int) := by omega
              have HS5 : Hid (ReadSt w w2.heap.size (.slice (some ⟨gg, 0, none⟩) m cg) (.slice (some ⟨gi, 0, none⟩) (m + 1) ci) (G'.set (a + k) true) X (wr.setCell ⟨gg, a + k, none⟩ (.bool true))) := by_hid (by
                have := ReadSt.mark (G := G') (by rw [hgl']; exact hSt') (a + k) (by omega) true
                rw [hgl'] at this
                exact this)
              have hkl1 : (k : Int) < ((L[i]).num : Int) := by omega
              clear hcells hgc hSt' hgg
              go_wp2
              go_region
              all_goals
                go_wp2
                go_roundw
                case rel =>
                  refine ⟨k + 1, G'.set (a + k) true, by omega, by go_num, by go_num, ?_, by first | exact HS5.out | exact HS5.out.drew⟩
                  have := HLD'.out.mark true (by omega)
                  rw [List.append_assoc, ← List.replicate_succ'] at this
                  exact this
                case measure => simp [intOf]; omega
            · have hkk : k = (L[i]).num := by omega
              subst hkk
              clear hSt'
              go_wp2
              go_roundw
              case rel =>
                refine ⟨i + 1, a + (L[i]).num, G', X, by omega, rfl, by go_num, by rw [nums_take_succ L i hlt, HA.out], ?_, HS'.out⟩
                rw [unitsOf_succ L i hlt, tlen_take_succ L i hlt, e4]
                have hu : uP (charsL ([] : List UInt8)) L[i] = List.replicate (L[i]).num (uB true) := by simp [uP, e1, uB]
                rw [hu]
                exact HLD'.out
              case measure => simp [intOf]; omega
    · have hii : i = L.length := by omega
      subst hii
      have g0 : wr.cell? ⟨w2.heap.size, 0, none⟩ = some (.slice ag m cg) := Lib.cell_of_heap hSt.new 0
      have g1 : wr.cell? ⟨w2.heap.size, 1, none⟩ = some (.slice (some ⟨gi, 0, none⟩) (m + 1) ci) := Lib.cell_of_heap hSt.new 1
      have HA2 : Hid (Laid (unitsOf L) m (nums L) (tlen L) G X) := by_hid (by
        have h1 := HLD.out
        rw [HA.out, List.take_length] at h1
        exact h1)
      have HDO : Hid (DoesAt (w.heap.size + 1) wr (.slice ag m cg) (.slice (some ⟨gi, 0, none⟩) (m + 1) ci) G X) := ⟨hSt.gone, hSt.ins⟩
      clear hSt hLd ha
      go_wp2_with fail
      refine (settled_any (w.heap.size + 1) _ _ G X _ HDO.out (by rw [HA2.out.xl, HA2.out.gl]) (by rw [HA2.out.gl]; omega) (by have h1 := ne_total HA2.out.ne; have h2 := HA2.out.byt; omega)).mono ?_
      rintro e w5 ⟨gv', iv', rfl, hd5, hb5⟩
      have kb : w5.heap[w.heap.size]? = some (.cells #[.slice none 0 0, .slice none 0 0] 129 (0, 0)) := by rw [hb5.block _ hwl]; exact HS.out.res
      obtain ⟨Vs', hI'⟩ := hd5.ins
      obtain ⟨ag', cg', rfl, _⟩ := gone_form hd5.gone
      obtain ⟨gi', ci', _, rfl, _⟩ := hI'.form (by rw [settR_length G X (by rw [HA2.out.xl, HA2.out.gl])]; omega)
      obtain ⟨gv', hgv'⟩ : ∃ z, z = Value.slice ag' G.length cg' := ⟨_, rfl⟩
      obtain ⟨iv', hiv'⟩ : ∃ z, z = Value.slice (some ⟨gi', 0, none⟩) (settR G X).length ci' := ⟨_, rfl⟩
      rw [← hgv'] at hd5
      rw [← hiv'] at hd5 hI'
      have n0 := own_ne hd5.gone kb (by decide)
      have n1 := own_ne hI'.row kb (by decide)
      have c50 : w5.cell? ⟨w.heap.size, 0, none⟩ = some (.slice none 0 0) := Lib.cell_of_heap kb 0
      have c51 : w5.cell? ⟨w.heap.size, 1, none⟩ = some (.slice none 0 0) := Lib.cell_of_heap kb 1
      have f50 : w5.frozen? ⟨w.heap.size, 0, none⟩ = false := Lib.frozen_of_heap kb 0
      have f51 : w5.frozen? ⟨w.heap.size, 1, none⟩ = false := Lib.frozen_of_heap kb 1
      have HF : Hid (DoesAt w.heap.size ((w5.setCell ⟨w.heap.size, 0, none⟩ gv').setCell ⟨w.heap.size, 1, none⟩ iv') gv' iv' G (settR G X) ∧ Below w.heap.size w ((w5.setCell ⟨w.heap.size, 0, none⟩ gv').setCell ⟨w.heap.size, 1, none⟩ iv')) := by_hid (by
        refine ⟨⟨own_base (own_set (own_set hd5.gone n0 _ _) n0 _ _) (by omega), Vs', own_base (own_set (own_set hI'.row n1 _ _) n1 _ _) (by omega), fun j hj => ?_, hI'.non, hI'.apart⟩, ?_⟩
        · have n2 := own_ne (hI'.each j hj) kb (by decide)
          exact own_base (own_set (own_set (hI'.each j hj) n2 _ _) n2 _ _) (by omega)
        · exact ((HS.out.below.trans (hb5.mono (by omega))).setCell (p := ⟨w.heap.size, 0, none⟩) (Nat.le_refl _) _).setCell (p := ⟨w.heap.size, 1, none⟩) (Nat.le_refl _) _)
      clear hd5 hb5 hI' kb n0 n1
      subst hgv' hiv'
      go_wp2
      refine bodyPost_ret (v := .tuple #[.agg #[Value.slice ag' G.length cg', Value.slice (some ⟨gi', 0, none⟩) (settR G X).length ci'], .int .i64 0]) (by simp [results, Try.results91, go_sem, c50, c51]) rfl ⟨_, _, G, X, rfl, ?_, ?_, ?_⟩
      · exact HF.out.1
      · exact HA2.out
      · exact HF.out.2

end Go.Proofs.Ytpiankiacbghcaa
