/-
  parts.Compose.
-/
import Derived.Test.YtgoaihpaajchaaaAlg4
namespace Go.Proofs.Ytgoaihpaajchaaa
open Go.RowKit

theorem pad_bytes {us : List Un} {m : Nat} (h : us = [] ∨ m ≤ us.length) : bytesU (padk us m) + bytesU (us.drop m) = bytesU us := by
  rcases h with rfl | h
  · rw [padk_nil, (repk_nums m).2.2]; simp [bytesU]
  · conv => rhs; rw [padk_split h, bytesU_append]
theorem drop_lens {ua ub : List Un} {m : Nat} (hua : ua = [] ∨ m ≤ ua.length) (hub : ub = [] ∨ m ≤ ub.length) (hnn : ¬ (ua = [] ∧ ub = [])) : (ua.drop m).length + (ub.drop m).length + m ≤ ua.length + ub.length := by
  simp only [List.length_drop]
  rcases hua with rfl | hua
  · rcases hub with rfl | hub
    · exact absurd ⟨rfl, rfl⟩ hnn
    · simp; omega
  · omega

theorem WB.cmp {N ma mb ma' mb' ka kb m : Nat} {xa xb : List UInt8} {ua ub : List Un} {W : Wr} (h : WB N W (ma + mb) (ua.length + ub.length) (bytesU ua + bytesU ub)) (ha : Pc ka m xa (padk ua m)) (_hb : Pc kb m xb (padk ub m)) (hka : ka ≠ 3)
    (hua : ua = [] ∨ m ≤ ua.length) (hub : ub = [] ∨ m ≤ ub.length) (hnn : ¬ (ua = [] ∧ ub = [])) (hm : 1 ≤ m) (hq : ma' + mb' + 1 ≤ ma + mb) :
    WB N (W.cmp ka kb m xa) (ma' + mb') ((ua.drop m).length + (ub.drop m).length) (bytesU (ua.drop m) + bytesU (ub.drop m)) := by
  obtain ⟨h1, h2, h3⟩ := h
  have d := drop_lens hua hub hnn
  have ba := pad_bytes hua
  have bb := pad_bytes hub
  have la := ha.len.2
  unfold Wr.cmp
  split
  · unfold Wr.wrP
    split
    · obtain ⟨q1, q2, q3⟩ := keep_size W m hm
      exact ⟨by omega, by omega, by omega⟩
    · split
      · obtain ⟨q1, q2⟩ := put_size W xa
        exact ⟨by omega, by omega, by show (W.put ++ xa).length + _ ≤ _; rw [List.length_append]; omega⟩
      · rcases ha with ⟨e, _⟩ | ⟨e, _⟩ | ⟨e, _⟩
        · exact absurd e (by assumption)
        · exact absurd e hka
        · exact absurd e (by assumption)
  · split
    · obtain ⟨q1, q2⟩ := gone_size W m
      exact ⟨by omega, by omega, by show W.put.length + _ ≤ _; omega⟩
    · exact ⟨by omega, by omega, by omega⟩

theorem noD {V : Vw} {us : List Un} {m E kind n : Nat} {text : List UInt8} {v : Value} {fin : Bool} (h : CD V us m E kind n text v fin) (hk : kind ≠ 3) : ∀ X, us ≠ .d :: X := by
  intro X
  rcases h.at with ⟨_, e, _⟩ | ⟨_, hn, _, _, pu, ru, rfl, hpc⟩
  · rw [e]; simp
  · obtain ⟨n, rfl⟩ : ∃ k, n = k + 1 := ⟨n - 1, by omega⟩
    rcases hpc with ⟨_, _, rfl⟩ | ⟨e, _⟩ | ⟨_, ch, _, hl, _, rfl⟩
    · simp [List.replicate_succ]
    · exact absurd e hk
    · cases ch with
      | nil => simp at hl
      | cons c ch => simp

theorem field_n (wx : World) (a b : Int) (t : ByteArray) : (Instr.field 65 (.agg #[.int .i64 a, .int .i64 b, .string t]) 1).run Try.prog wx = .ok (.int .i64 b) wx := by kernel_rfl
theorem field_t (wx : World) (a b : Int) (t : ByteArray) : (Instr.field 65 (.agg #[.int .i64 a, .int .i64 b, .string t]) 2).run Try.prog wx = .ok (.string t) wx := by kernel_rfl

theorem PairIn.other {V : Vw} {wr wr' : World} {bc : Nat} {ua ub : List Un} {ma mb E : Nat} (h : PairIn V bc ua ub ma mb E wr) (he : wr'.heap[bc]? = wr.heap[bc]?) : PairIn V bc ua ub ma mb E wr' := by
  obtain ⟨a1, a2, a3, a4, a5, a6, a7, b1, b2, b3, b4, b5, b6, b7, h1, h2⟩ := h
  exact ⟨a1, a2, a3, a4, a5, a6, a7, b1, b2, b3, b4, b5, b6, b7, he.trans h1, h2⟩
theorem PairIn.lt {V : Vw} {wr : World} {bc : Nat} {ua ub : List Un} {ma mb E : Nat} (h : PairIn V bc ua ub ma mb E wr) : bc < wr.heap.size := by
  obtain ⟨a1, a2, a3, a4, a5, a6, a7, b1, b2, b3, b4, b5, b6, b7, h1, h2⟩ := h
  exact lt_of_blk h1
theorem pair_wrote {V : Vw} {wr wr' : World} {b bc : Nat} {W : Wr} {dv pa bv : Value} {vs : List Value} {ua ub : List Un} {ma mb E : Nat} (hw : Wrote b [dv, bv] vs wr wr') (h : WrAt b W wr dv pa bv) (hp : PairIn V bc ua ub ma mb E wr) (hne : b ≠ bc) : PairIn V bc ua ub ma mb E wr' := by
  obtain ⟨a1, a2, a3, a4, a5, a6, a7, b1, b2, b3, b4, b5, b6, b7, h1, h2⟩ := hp
  exact ⟨a1, a2, a3, a4, a5, a6, a7, b1, b2, b3, b4, b5, b6, b7, hw.cur h h1 (by decide) (by decide) hne, h2⟩
theorem WrAt.alloc2 {b : Nat} {W : Wr} {w : World} {dv pa bv : Value} (h : WrAt b W w dv pa bv) (x y : Obj) : WrAt b W ((w.alloc x).alloc y) dv pa bv := (h.alloc x).alloc y

def CompRel (w : World) (us vs : List Un) (N g : Nat) (c : Value) (wr : World) : Prop :=
  ∃ (bc : Nat) (ua ub : List Un) (ma mb E : Nat) (W : Wr) (dv pa bv : Value), c = .pointer (some ⟨bc, 0, none⟩) ∧ w.heap.size < bc ∧ PairIn (Vw.plain w) bc ua ub ma mb E wr ∧ ma + mb = g ∧ E + (us.length + vs.length) = topE + (ua.length + ub.length) ∧ ua.length + ub.length ≤ us.length + vs.length ∧
    WrAt w.heap.size W wr dv pa bv ∧ stU W (compU ua ub) = stU Wr.new (compU us vs) ∧ WB N W (ma + mb) (ua.length + ub.length) (bytesU ua + bytesU ub) ∧ Below w.heap.size w wr

set_option maxHeartbeats 1000000 in
set_option maxRecDepth 100000 in
theorem pCompose_any (v v' : Value) (A B : List Pt) (us vs : List Un) (w : World) (hp : PartsAt w v A) (hcap : CapOk v) (hr : Reads A us) (hp' : PartsAt w v' B) (hcap' : CapOk v') (hr' : Reads B vs) (hN : A.length + B.length ≤ 1000) (hby : bytesU us + bytesU vs ≤ 1000000000) (hlen : us.length + vs.length ≤ 1000000000) :
    Calls Try.prog 26 #[v, v'] w fun e w' => ∃ v', e = .returned v' ∧ (w'.ownsRow w.heap.size 42 3 v' (normU (compU us vs)).length (rowOf (normU (compU us vs))) ∧ (normU (compU us vs)).length ≤ A.length + B.length) ∧ Below w.heap.size w w' := by
  have H1 : Hid (∀ w1, Below w.heap.size w w1 → Calls Try.prog 43 #[v, v'] w1 fun e w' => (∃ val, e = .returned val ∧ BothV (Vw.plain w) us A.length vs B.length val) ∧ Below w1.heap.size w1 w') := fun w1 h1 => readBoth_any v v' A B us vs (Vw.plain w) w1 (Vw.of h1) hp.plain hcap hr (by omega) (by omega) (by omega) hp'.plain hcap' hr' (by omega) (by omega) (by omega)
  obtain ⟨ao, cap, rfl, _⟩ := hp
  obtain ⟨ao', cap', rfl, _⟩ := hp'
  clear hcap hcap' hr hr'
  go_enter Try.func26, Try.ntmps26
  go_wp2_with fail
  refine (H1.out _ ((Below.refl _ _).alloc (Nat.le_refl _) _)).mono ?_
  rintro e w1 ⟨⟨val, rfl, k1, n1, t1, ao1, l1, p1, f1, k2, n2, t2, ao2, l2, p2, f2, rfl, hd1, hd2⟩, hb1⟩
  have hs1 := hb1.size
  have hwr := (hb1.block w.heap.size (by simp)).trans (heap_alloc_new w _)
  have HS : Hid (CD (Vw.plain w) us A.length topE k1 n1 t1 (.slice ao1 l1 p1) f1 ∧ CD (Vw.plain w) vs B.length topE k2 n2 t2 (.slice ao2 l2 p2) f2 ∧ Below w.heap.size w w1 ∧ WrAt w.heap.size Wr.new w1 (.slice none 0 0) (.pointer none) (.slice none 0 0) ∧ w.heap.size < w1.heap.size) := ⟨hd1, hd2, ((Below.refl _ _).alloc (Nat.le_refl _) _).trans (hb1.mono (by simp)), ⟨hwr, .inl rfl, World.ownsRow_nil _ _ _ _, World.ownsRow_nil _ _ _ _, fun _ => rfl⟩, by simp at hs1; omega⟩
  clear hd1 hd2 hb1 hs1 hwr
  unfold pairV
  go_wp2_with fail
  go_loopg [6] (A.length + B.length) (fun g c wr => CompRel w us vs (A.length + B.length) g c wr)
  case atStart =>
    obtain ⟨q1, q2, q3, q4, q5⟩ := HS.out
    exact ⟨w1.heap.size, us, vs, A.length, B.length, topE, Wr.new, _, _, _, rfl, q5, ⟨_, _, _, _, _, _, _, _, _, _, _, _, _, _, heap_alloc_new w1 _, q1, q2⟩, rfl, rfl, Nat.le_refl _, q4.alloc _, rfl, ⟨by simp [Wr.new, Wr.fl, kp, ip, dp], by simpa [Wr.new, Wr.fl, kp, ip, dp, nums] using hlen, by simpa [Wr.new] using hby⟩, q3.alloc q3.size _⟩
  case round =>
    obtain ⟨bc, ua, ub, ma, mb, E, W, dv, pa, bv, rfl, hbc, ⟨x1, y1, z1, o1, i1, j1, g1, x2, y2, z2, o2, i2, j2, g2, hblk, hca, hcb⟩, hg, hE, hle, hwr, hst, hwb, hB⟩ := hrel
    have c0 : wr.cell? ⟨bc, 0, none⟩ = some (.int .i64 x1) := Lib.cell_of_heap hblk 0
    have c5 : wr.cell? ⟨bc, 5, none⟩ = some (.int .i64 x2) := Lib.cell_of_heap hblk 5
    have c4 : wr.cell? ⟨bc, 4, none⟩ = some (.bool g1) := Lib.cell_of_heap hblk 4
    have c9 : wr.cell? ⟨bc, 9, none⟩ = some (.bool g2) := Lib.cell_of_heap hblk 9
    have HM : Hid (Calls Try.prog 44 #[.pointer (some ⟨bc, 0, none⟩)] wr fun e w' => e = .returned (.bool (!g1 || !g2)) ∧ w' = wr) := either_any bc wr g1 g2 c4 c9
    have HR : Hid (wr.heap[bc]? = some (.cells (ten x1 y1 z1 (.slice o1 i1 j1) g1 x2 y2 z2 (.slice o2 i2 j2) g2) 83 (0, 0)) ∧ CD (Vw.plain w) ua ma E x1 y1 z1 (.slice o1 i1 j1) g1 ∧ CD (Vw.plain w) ub mb E x2 y2 z2 (.slice o2 i2 j2) g2 ∧ WrAt w.heap.size W wr dv pa bv ∧ Below w.heap.size w wr) := ⟨hblk, hca, hcb, hwr, hB⟩
    have HQ : Hid (stU W (compU ua ub) = stU Wr.new (compU us vs) ∧ WB (A.length + B.length) W (ma + mb) (ua.length + ub.length) (bytesU ua + bytesU ub) ∧ W.Small) := ⟨hst, hwb, hwb.small hN⟩
    have hEt : E ≤ topE := by omega
    have hEb : 1000000000 < E := by unfold topE at *; omega
    have HE : Hid (E + (us.length + vs.length) = topE + (ua.length + ub.length)) := hE
    have hall : ua.length ≤ 1000000000 ∧ ub.length ≤ 1000000000 ∧ bytesU ua + bytesU ub ≤ 1000000000 := by have := hwb.pu; omega
    clear hblk hca hcb hwr hst hwb hB c4 c9 hE
    have hf1 : ∀ (wx : World) (a b : Int) (t : ByteArray), (Instr.field 65 (.agg #[.int .i64 a, .int .i64 b, .string t]) 1).run Try.prog wx = .ok (.int .i64 b) wx := field_n
    have hf2 : ∀ (wx : World) (a b : Int) (t : ByteArray), (Instr.field 65 (.agg #[.int .i64 a, .int .i64 b, .string t]) 2).run Try.prog wx = .ok (.string t) wx := field_t
    go_wp2_with fail
    refine HM.out.mono ?_
    rintro e w2 ⟨rfl, rfl⟩
    by_cases hfin : g1 = true ∧ g2 = true
    · obtain ⟨rfl, rfl⟩ := hfin
      go_wp2_with fail
      refine (wParts_any _ W _ _ _ _ HR.out.2.2.2.1 HQ.out.2.2).mono ?_
      rintro e w3 ⟨v', rfl, hv, hw3, hb3⟩
      have HV : Hid (w3.ownsRow w.heap.size 42 3 v' W.settle.done.length (rowOf W.settle.done) ∧ Below w.heap.size w w3) := ⟨hv, HR.out.2.2.2.2.trans hb3⟩
      clear hv hw3 hb3
      go_wp2
      go_ret
      have he := HR.out.2.1.ended
      have he2 := HR.out.2.2.1.ended
      have hst := HQ.out.1
      have hwb := HQ.out.2.1
      rw [he.1, he2.1] at hst
      have hn : normU (compU us vs) = W.settle.done := by rw [normU_eq, ← hst]; simp [compU, stU_nil]
      refine ⟨v', rfl, ⟨by rw [hn]; exact HV.out.1, ?_⟩, HV.out.2⟩
      have h1 := hwb.fl
      have h2 := settled_done W
      rw [hn]
      have h3 := congrArg List.length (settle_fl W)
      rw [h2, List.length_append] at h3
      omega
    · have hor : (!g1 || !g2) = true := by cases g1 <;> cases g2 <;> simp_all
      rw [hor]
      have HF : Hid (¬ (g1 = true ∧ g2 = true)) := hfin
      clear hfin hor
      by_cases hk1 : x1 = 3
      · subst hk1
        have hg1 : g1 = false := by
          rcases HR.out.2.1.at with ⟨_, _, h, _⟩ | ⟨h, _⟩
          · omega
          · exact h
        subst hg1
        go_wp2_with fail
        refine (whole_p1 HR.out.1 HR.out.2.1 HR.out.2.2.1 (Vw.of HR.out.2.2.2.2) (by show w.heap.size ≤ _; omega) hEt).mono ?_
        rintro e w3 ⟨rfl, ⟨pu, ua', hpair, hru, hpc, hn, hm⟩, hb3, hk3⟩
        have hw3 : WrAt w.heap.size W w3 dv pa bv := HR.out.2.2.2.1.keepX hk3 HR.out.1 (by decide) (by decide) (by omega)
        have HX : Hid (PairIn (Vw.plain w) bc ua' ub (ma - 1) mb E w3 ∧ Below w.heap.size w w3 ∧ WrAt w.heap.size W w3 dv pa bv ∧ ua = pu ++ ua' ∧ Pc 3 y1 z1 pu) := ⟨hpair, HR.out.2.2.2.2.trans (hb3.mono (by omega)), hw3, hru, hpc⟩
        have hl := hpc.len.1
        have hual : ua.length = y1 + ua'.length := by rw [hru, List.length_append, hl]
        clear hpair hru hpc hb3 hk3 hw3 hl
        go_wp2_with fail
        refine (wDelete_any _ W y1 _ _ _ _ HX.out.2.2.1 HQ.out.2.2 (by omega)).mono ?_
        rintro e w5 ⟨rfl, ⟨dv', pa', bv', hW', hwrote⟩, hb5⟩
        have hpair5 : PairIn (Vw.plain w) bc ua' ub (ma - 1) mb E w5 := pair_wrote hwrote HX.out.2.2.1 HX.out.1 (by omega)
        obtain ⟨a1, a2, a3, a4, a5, a6, a7, b1, b2, b3, b4, b5, b6, b7, hblk5, hca5, hcb5⟩ := hpair5
        have d0 : w5.cell? ⟨bc, 0, none⟩ = some (.int .i64 a1) := Lib.cell_of_heap hblk5 0
        have d1 : w5.cell? ⟨bc, 1, none⟩ = some (.int .i64 a2) := Lib.cell_of_heap hblk5 1
        have d2 : w5.cell? ⟨bc, 2, none⟩ = some (.string (bs a3)) := Lib.cell_of_heap hblk5 2
        have d3 : w5.cell? ⟨bc, 3, none⟩ = some (.slice a4 a5 a6) := Lib.cell_of_heap hblk5 3
        have d4 : w5.cell? ⟨bc, 4, none⟩ = some (.bool a7) := Lib.cell_of_heap hblk5 4
        have d5 : w5.cell? ⟨bc, 5, none⟩ = some (.int .i64 b1) := Lib.cell_of_heap hblk5 5
        have d6 : w5.cell? ⟨bc, 6, none⟩ = some (.int .i64 b2) := Lib.cell_of_heap hblk5 6
        have d7 : w5.cell? ⟨bc, 7, none⟩ = some (.string (bs b3)) := Lib.cell_of_heap hblk5 7
        have d8 : w5.cell? ⟨bc, 8, none⟩ = some (.slice b4 b5 b6) := Lib.cell_of_heap hblk5 8
        have d9 : w5.cell? ⟨bc, 9, none⟩ = some (.bool b7) := Lib.cell_of_heap hblk5 9
        have HY : Hid (WrAt w.heap.size ({ W with gone := W.gone + y1 }) w5 dv' pa' bv' ∧ Below w.heap.size w w5 ∧ CD (Vw.plain w) ua' (ma - 1) (E - y1) a1 a2 a3 (.slice a4 a5 a6) a7 ∧ CD (Vw.plain w) ub mb (E - y1) b1 b2 b3 (.slice b4 b5 b6) b7) := ⟨hW', HX.out.2.1.trans hb5, hca5.mono (by omega), hcb5.mono (by omega)⟩
        clear hblk5 hca5 hcb5 hW' hwrote hb5
        go_wp2
        go_roundg ((ma - 1) + mb)
        case measure => omega
        case rel =>
          refine ⟨w5.heap.size, ua', ub, (ma - 1), mb, (E - y1), { W with gone := W.gone + y1 }, dv', pa', bv', rfl, ?_, ⟨a1, a2, a3, a4, a5, a6, a7, b1, b2, b3, b4, b5, b6, b7, heap_alloc_new w5 _, HY.out.2.2.1, HY.out.2.2.2⟩, rfl, ?_, ?_, HY.out.1.alloc _, ?_, ?_, HY.out.2.1.alloc HY.out.2.1.size _⟩
          · have := lt_of_blk HY.out.1.blk; omega
          · have := HE.out; unfold topE at *; omega
          · omega
          · obtain ⟨_, _, e⟩ | ⟨_, _, e⟩ | ⟨e, _⟩ := HX.out.2.2.2.2
            · omega
            · rw [← HQ.out.1, HX.out.2.2.2.1, e, comp_dn, stU_repd]
            · omega
          · have q := gone_size W y1
            obtain ⟨r1, r2, r3⟩ := HQ.out.2.1
            have hbb : bytesU ua' ≤ bytesU ua := by rw [HX.out.2.2.2.1, bytesU_append]; omega
            exact ⟨by omega, by omega, by show W.put.length + _ ≤ _; omega⟩
      · by_cases hk2 : x2 = 2
        · subst hk2
          have hg2 : g2 = false := by
            rcases HR.out.2.2.1.at with ⟨_, _, h, _⟩ | ⟨h, _⟩
            · omega
            · exact h
          subst hg2
          have hx13 : ((x1 : Int) == 3) = false := beq_eq_false_iff_ne.2 (by omega)
          go_wp2_with fail
          refine (whole_p2 HR.out.1 HR.out.2.1 HR.out.2.2.1 (Vw.of HR.out.2.2.2.2) (by show w.heap.size ≤ _; omega) hEt).mono ?_
          rintro e w3 ⟨rfl, ⟨pu, ub', hpair, hru, hpc, hn, hm⟩, hb3, hk3⟩
          have hw3 : WrAt w.heap.size W w3 dv pa bv := HR.out.2.2.2.1.keepX hk3 HR.out.1 (by decide) (by decide) (by omega)
          have HX : Hid (PairIn (Vw.plain w) bc ua ub' ma (mb - 1) E w3 ∧ Below w.heap.size w w3 ∧ WrAt w.heap.size W w3 dv pa bv ∧ ub = pu ++ ub' ∧ Pc 2 y2 z2 pu) := ⟨hpair, HR.out.2.2.2.2.trans (hb3.mono (by omega)), hw3, hru, hpc⟩
          have hl := hpc.len
          have hubl : ub.length = y2 + ub'.length := by rw [hru, List.length_append, hl.1]
          have hubb : bytesU ub = z2.length + bytesU ub' := by rw [hru, bytesU_append, hl.2]
          have hz2 : z2.length ≤ 1000000000 := by omega
          have HUB : Hid (bytesU ub = z2.length + bytesU ub') := hubb
          clear hpair hru hpc hb3 hk3 hw3 hl hubb
          go_wp2_with fail
          refine (wInsert_any _ W z2 _ _ _ _ HX.out.2.2.1 HQ.out.2.2 hz2).mono ?_
          rintro e w5 ⟨rfl, ⟨dv', pa', bv', hW', hwrote⟩, hb5⟩
          have hpair5 : PairIn (Vw.plain w) bc ua ub' ma (mb - 1) E w5 := pair_wrote hwrote HX.out.2.2.1 HX.out.1 (by omega)
          obtain ⟨a1, a2, a3, a4, a5, a6, a7, b1, b2, b3, b4, b5, b6, b7, hblk5, hca5, hcb5⟩ := hpair5
          have d0 : w5.cell? ⟨bc, 0, none⟩ = some (.int .i64 a1) := Lib.cell_of_heap hblk5 0
          have d1 : w5.cell? ⟨bc, 1, none⟩ = some (.int .i64 a2) := Lib.cell_of_heap hblk5 1
          have d2 : w5.cell? ⟨bc, 2, none⟩ = some (.string (bs a3)) := Lib.cell_of_heap hblk5 2
          have d3 : w5.cell? ⟨bc, 3, none⟩ = some (.slice a4 a5 a6) := Lib.cell_of_heap hblk5 3
          have d4 : w5.cell? ⟨bc, 4, none⟩ = some (.bool a7) := Lib.cell_of_heap hblk5 4
          have d5 : w5.cell? ⟨bc, 5, none⟩ = some (.int .i64 b1) := Lib.cell_of_heap hblk5 5
          have d6 : w5.cell? ⟨bc, 6, none⟩ = some (.int .i64 b2) := Lib.cell_of_heap hblk5 6
          have d7 : w5.cell? ⟨bc, 7, none⟩ = some (.string (bs b3)) := Lib.cell_of_heap hblk5 7
          have d8 : w5.cell? ⟨bc, 8, none⟩ = some (.slice b4 b5 b6) := Lib.cell_of_heap hblk5 8
          have d9 : w5.cell? ⟨bc, 9, none⟩ = some (.bool b7) := Lib.cell_of_heap hblk5 9
          have HY : Hid (WrAt w.heap.size ({ W with put := W.put ++ z2 }) w5 dv' pa' bv' ∧ Below w.heap.size w w5 ∧ CD (Vw.plain w) ua ma (E - y2) a1 a2 a3 (.slice a4 a5 a6) a7 ∧ CD (Vw.plain w) ub' (mb - 1) (E - y2) b1 b2 b3 (.slice b4 b5 b6) b7) := ⟨hW', HX.out.2.1.trans hb5, hca5.mono (by omega), hcb5.mono (by omega)⟩
          clear hblk5 hca5 hcb5 hW' hwrote hb5
          go_wp2
          go_roundg (ma + (mb - 1))
          case measure => omega
          case rel =>
            refine ⟨w5.heap.size, ua, ub', ma, (mb - 1), (E - y2), { W with put := W.put ++ z2 }, dv', pa', bv', rfl, ?_, ⟨a1, a2, a3, a4, a5, a6, a7, b1, b2, b3, b4, b5, b6, b7, heap_alloc_new w5 _, HY.out.2.2.1, HY.out.2.2.2⟩, rfl, ?_, ?_, HY.out.1.alloc _, ?_, ?_, HY.out.2.1.alloc HY.out.2.1.size _⟩
            · have := lt_of_blk HY.out.1.blk; omega
            · have := HE.out; unfold topE at *; omega
            · omega
            · obtain ⟨e, _⟩ | ⟨e, _⟩ | ⟨_, ch, _, _, e1, e2⟩ := HX.out.2.2.2.2
              · omega
              · omega
              · rw [← HQ.out.1, HX.out.2.2.2.1, e2, comp_ins ch ua ub' (noD HR.out.2.1 hk1), stU_is, e1]
            · have q := put_size W z2
              obtain ⟨r1, r2, r3⟩ := HQ.out.2.1
              have := HUB.out
              exact ⟨by omega, by omega, by show (W.put ++ z2).length + _ ≤ _; rw [List.length_append]; omega⟩
        · have hx13 : ((x1 : Int) == 3) = false := beq_eq_false_iff_ne.2 (by omega)
          have hx22 : ((x2 : Int) == 2) = false := beq_eq_false_iff_ne.2 (by omega)
          go_wp2_with fail
          refine (step_p HR.out.1 HR.out.2.1 HR.out.2.2.1 (Vw.of HR.out.2.2.2.2) (by show w.heap.size ≤ _; omega) hEt hEb HF.out hall.1 hall.2.1).mono ?_
          rintro e w3 ⟨m, xa, xb, rfl, ⟨hm1, hm2, hpa, hpb, hua, hub, hnn⟩, ⟨ma', mb', hpair, hdec⟩, hb3, hk3⟩
          have hw3 : WrAt w.heap.size W w3 dv pa bv := HR.out.2.2.2.1.keepX hk3 HR.out.1 (by decide) (by decide) (by omega)
          have HX : Hid (PairIn (Vw.plain w) bc (ua.drop m) (ub.drop m) ma' mb' (E - m) w3 ∧ Below w.heap.size w w3 ∧ WrAt w.heap.size W w3 dv pa bv ∧ Pc x1 m xa (padk ua m) ∧ Pc x2 m xb (padk ub m) ∧ (ua = [] ∨ m ≤ ua.length) ∧ (ub = [] ∨ m ≤ ub.length) ∧ ¬ (ua = [] ∧ ub = [])) := ⟨hpair, HR.out.2.2.2.2.trans (hb3.mono (by omega)), hw3, hpa, hpb, hua, hub, hnn⟩
          have hxa : xa.length ≤ 1000000000 := by
            have := hpa.len.2
            have := pad_bytes hua
            omega
          have HXA : Hid (xa.length ≤ 1000000000) := hxa
          have hdl := drop_lens hua hub hnn
          have HDL : Hid ((ua.drop m).length + (ub.drop m).length + m ≤ ua.length + ub.length) := hdl
          clear hpair hpa hpb hua hub hnn hb3 hk3 hw3 hxa hdl
          go_wp2_with fail
          refine (composeStep_any _ W _ _ _ _ x1 x2 m xa xb _ _ (HX.out.2.2.1.alloc2 _ _) HQ.out.2.2 HX.out.2.2.2.1 HX.out.2.2.2.2.1 hk1 hk2 hm1 hm2 HXA.out).mono ?_
          rintro e w5 ⟨rfl, ⟨dv', pa', bv', hW', hwrote⟩, hb5⟩
          have hpair5 : PairIn (Vw.plain w) bc (ua.drop m) (ub.drop m) ma' mb' (E - m) w5 := pair_wrote hwrote (HX.out.2.2.1.alloc2 _ _) (HX.out.1.other ((Lib.alloc_old _ _ bc (by have := HX.out.1.lt; simp; omega)).trans (Lib.alloc_old _ _ bc HX.out.1.lt))) (by omega)
          obtain ⟨a1, a2, a3, a4, a5, a6, a7, b1, b2, b3, b4, b5, b6, b7, hblk5, hca5, hcb5⟩ := hpair5
          have d0 : w5.cell? ⟨bc, 0, none⟩ = some (.int .i64 a1) := Lib.cell_of_heap hblk5 0
          have d1 : w5.cell? ⟨bc, 1, none⟩ = some (.int .i64 a2) := Lib.cell_of_heap hblk5 1
          have d2 : w5.cell? ⟨bc, 2, none⟩ = some (.string (bs a3)) := Lib.cell_of_heap hblk5 2
          have d3 : w5.cell? ⟨bc, 3, none⟩ = some (.slice a4 a5 a6) := Lib.cell_of_heap hblk5 3
          have d4 : w5.cell? ⟨bc, 4, none⟩ = some (.bool a7) := Lib.cell_of_heap hblk5 4
          have d5 : w5.cell? ⟨bc, 5, none⟩ = some (.int .i64 b1) := Lib.cell_of_heap hblk5 5
          have d6 : w5.cell? ⟨bc, 6, none⟩ = some (.int .i64 b2) := Lib.cell_of_heap hblk5 6
          have d7 : w5.cell? ⟨bc, 7, none⟩ = some (.string (bs b3)) := Lib.cell_of_heap hblk5 7
          have d8 : w5.cell? ⟨bc, 8, none⟩ = some (.slice b4 b5 b6) := Lib.cell_of_heap hblk5 8
          have d9 : w5.cell? ⟨bc, 9, none⟩ = some (.bool b7) := Lib.cell_of_heap hblk5 9
          have HY : Hid (WrAt w.heap.size (W.cmp x1 x2 m xa) w5 dv' pa' bv' ∧ Below w.heap.size w w5 ∧ CD (Vw.plain w) (ua.drop m) ma' (E - m) a1 a2 a3 (.slice a4 a5 a6) a7 ∧ CD (Vw.plain w) (ub.drop m) mb' (E - m) b1 b2 b3 (.slice b4 b5 b6) b7) := ⟨hW', (((HX.out.2.1.alloc HX.out.2.1.size _).alloc (by have := HX.out.2.1.size; simp; omega) _)).trans hb5, hca5, hcb5⟩
          clear hblk5 hca5 hcb5 hW' hwrote hb5
          go_wp2
          go_roundg (ma' + mb')
          case measure => omega
          case rel =>
            have hEE : topE + ((ua.drop m).length + (ub.drop m).length) - (us.length + vs.length) ≤ E - m := by have h1 := HDL.out; have h2 := HE.out; omega
            refine ⟨w5.heap.size, ua.drop m, ub.drop m, ma', mb', topE + ((ua.drop m).length + (ub.drop m).length) - (us.length + vs.length), W.cmp x1 x2 m xa, dv', pa', bv', rfl, ?_, ⟨a1, a2, a3, a4, a5, a6, a7, b1, b2, b3, b4, b5, b6, b7, heap_alloc_new w5 _, HY.out.2.2.1.mono hEE, HY.out.2.2.2.mono hEE⟩, rfl, ?_, ?_, HY.out.1.alloc _, ?_, ?_, HY.out.2.1.alloc HY.out.2.1.size _⟩
            · have := lt_of_blk HY.out.1.blk; omega
            · have h1 := HDL.out; unfold topE at *; omega
            · have h1 := HDL.out; omega
            · obtain ⟨_, _, _, q1, q2, q3, q4, q5⟩ := HX.out
              rw [← HQ.out.1, cmp_st q1 q2 hk1 hk2 q3 q4 q5 W hm1]
            · obtain ⟨_, _, _, q1, q2, q3, q4, q5⟩ := HX.out
              exact HQ.out.2.1.cmp q1 q2 hk1 q3 q4 q5 hm1 hdec

end Go.Proofs.Ytgoaihpaajchaaa
