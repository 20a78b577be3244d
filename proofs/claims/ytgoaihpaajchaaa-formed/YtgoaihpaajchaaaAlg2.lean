/-
  parts.Apply, over a cursor.
-/
import Derived.Test.YtgoaihpaajchaaaAlg1
namespace Go.Proofs.Ytgoaihpaajchaaa
open Go.RowKit

theorem BldAt.keepX {b bc o : Nat} {T T' : TypeId} {cb : Array Value} {t : List UInt8} {w w' : World} {cs : Array Value} (h : BldAt T b o cb t w) (hk : KeepX (fun g => g = bc) w w') (hc : w.heap[bc]? = some (.cells cs T' (0, 0))) (h2 : T' ≠ 5) (hne : b ≠ bc) : BldAt T b o cb t w' := by
  obtain ⟨v, hv, hown, hn⟩ := h.buf
  refine ⟨(hk b (lt_of_blk h.blk) hne).trans h.blk, h.adr, v, hv, ?_, hn⟩
  have hnn := own_ne hown hc h2
  refine ⟨hown.1, ?_⟩
  rcases hown.2 with e | ⟨g, cap, cur, rfl, hbb, hgg, rest⟩
  · exact .inl e
  · exact .inr ⟨g, cap, cur, rfl, hbb, (hk g (lt_of_blk hgg) (fun e => hnn (by simp [Value.ownBlock, e]))).trans hgg, rest⟩
theorem BldAt.alloc2 {T : TypeId} {b o : Nat} {cs : Array Value} {t : List UInt8} {w : World} (h : BldAt T b o cs t w) (x : Obj) : BldAt T b o cs t (w.alloc x) := by
  obtain ⟨v, hv, hown, hn⟩ := h.buf
  exact ⟨(Lib.alloc_old w x _ (lt_of_blk h.blk)).trans h.blk, h.adr, v, hv, hown.alloc x, hn⟩
theorem BldAt.below2 {T : TypeId} {b o : Nat} {cs : Array Value} {t : List UInt8} {w w' : World} (h : BldAt T b o cs t w) (hb : Below w.heap.size w w') : BldAt T b o cs t w' := by
  obtain ⟨v, hv, hown, hn⟩ := h.buf
  refine ⟨(hb.block b (lt_of_blk h.blk)).trans h.blk, h.adr, v, hv, ?_, hn⟩
  refine ⟨hown.1, ?_⟩
  rcases hown.2 with e | ⟨g, cap, cur, rfl, hbb, hgg, rest⟩
  · exact .inl e
  · exact .inr ⟨g, cap, cur, rfl, hbb, (hb.block g (lt_of_blk hgg)).trans hgg, rest⟩

/-- a Builder's calls leave a cursor's block. -/
theorem wrote_bld {b bc o : Nat} {T T' : TypeId} {cb : Array Value} {t : List UInt8} {w w' : World} {vs : List Value} {cs : Array Value} (hw : ∀ v, cb[o + 1]? = some v → Wrote b [v] vs w w') (h : BldAt T b o cb t w) (hc : w.heap[bc]? = some (.cells cs T' (0, 0))) (h2 : T' ≠ 5) (hne : b ≠ bc) : w'.heap[bc]? = some (.cells cs T' (0, 0)) := by
  obtain ⟨v, hv, hown, hn⟩ := h.buf
  refine ((hw v hv).keep bc (lt_of_blk hc) (Ne.symm hne) ?_).trans hc
  intro u hu
  simp only [List.mem_singleton] at hu
  subst hu
  exact own_ne hown hc h2

theorem builderPlace : BldPlace 61 2 0 := ⟨by decide, by decide, by kernel_rfl⟩
theorem chars_len {cs : List (List UInt8)} (h : ∀ c ∈ cs, IsCh c) : cs.length ≤ cs.flatten.length := by
  rw [← leads_chars cs h]; exact leads_le _

def ApplyRel (w : World) (R : List UInt8) (m : Nat) (r c : Value) (wr : World) : Prop :=
  ∃ (bc kind n : Nat) (text : List UInt8) (ao : Option Addr) (l cap : Nat) (fin : Bool) (ru : List Un) (cs' : List (List UInt8)) (out : List UInt8) (cb : Array Value), c = .pointer (some ⟨bc, 0, none⟩) ∧ r = .string (bs cs'.flatten) ∧ w.heap.size < bc ∧ wr.heap[bc]? = some (.cells #[.int .i64 kind, .int .i64 n, .string (bs text), .slice ao l cap, .bool fin] 67 (0, 0)) ∧
    CD (Vw.plain w) ru m topE kind n text (.slice ao l cap) fin ∧ (∀ c ∈ cs', IsCh c) ∧ cs'.flatten.length ≤ 1000000000 ∧ cb.size = 2 ∧ BldAt 61 w.heap.size 0 cb out wr ∧ out ++ (applyU ru cs').flatten = R ∧ Below w.heap.size w wr

set_option maxHeartbeats 1000000 in
set_option maxRecDepth 100000 in
theorem pApply_any (v : Value) (L : List Pt) (us : List Un) (cs : List (List UInt8)) (w : World) (hp : PartsAt w v L) (hcap : CapOk v) (hr : Reads L us) (hR : L.length ≤ 1000) (hby : bytesU us ≤ 1000000000) (hlen : us.length ≤ 1000000000) (hch : ∀ c ∈ cs, IsCh c) (hcl : cs.flatten.length ≤ 1000000000) (hout : (applyU us cs).flatten.length ≤ 2000000000) :
    Calls Try.prog 24 #[.string (bs cs.flatten), v] w fun e w' => e = .returned (.string (bs (applyU us cs).flatten)) ∧ Below w.heap.size w w' := by
  obtain ⟨R, hRR⟩ : ∃ R, R = (applyU us cs).flatten := ⟨_, rfl⟩
  rw [← hRR] at hout ⊢
  have HRR : Hid (R = (applyU us cs).flatten) := hRR
  have HC : Hid (∀ c ∈ cs, IsCh c) := hch
  have H1 : Hid (∀ w1, Below w.heap.size w w1 → Calls Try.prog 32 #[v] w1 fun e w' => (∃ val, e = .returned val ∧ ReadV (Vw.plain w) us L.length val) ∧ Below w1.heap.size w1 w') := fun w1 h1 => read_any v L us (Vw.plain w) w1 hp.plain (Vw.of h1) hcap hr hR hby hlen
  obtain ⟨ao, cap, rfl, _⟩ := hp
  clear hcap hRR hch
  go_enter Try.func24, Try.ntmps24
  go_wp2_with fail
  refine (H1.out _ ((Below.refl _ _).alloc (Nat.le_refl _) _)).mono ?_
  rintro e w1 ⟨⟨val, rfl, k1, n1, t1, ao1, l1, p1, f1, rfl, hd1⟩, hb1⟩
  have hs1 := hb1.size
  have hwr := (hb1.block w.heap.size (by simp)).trans (heap_alloc_new w _)
  have HS : Hid (CD (Vw.plain w) us L.length topE k1 n1 t1 (.slice ao1 l1 p1) f1 ∧ Below w.heap.size w w1 ∧ BldAt 61 w.heap.size 0 #[.pointer none, .slice none 0 0] [] w1 ∧ w.heap.size < w1.heap.size) := ⟨hd1, ((Below.refl _ _).alloc (Nat.le_refl _) _).trans (hb1.mono (by simp)), ⟨hwr, .inl rfl, .slice none 0 0, rfl, World.ownsRow_nil _ _ _ _, fun _ => rfl⟩, by simp at hs1; omega⟩
  clear hd1 hb1 hs1 hwr
  unfold curV
  go_wp2_with fail
  go_loopg [6, 7] L.length (fun m r c wr => ApplyRel w R m r c wr)
  case atStart =>
    obtain ⟨q1, q2, q3, q4⟩ := HS.out
    exact ⟨w1.heap.size, k1, n1, t1, ao1, l1, p1, f1, us, cs, [], #[.pointer none, .slice none 0 0], rfl, rfl, q4, heap_alloc_new w1 _, q1, HC.out, hcl, rfl, q3.alloc2 _, by rw [HRR.out]; rfl, q2.alloc q2.size _⟩
  case round =>
    obtain ⟨bc, kind, n, text, ao2, l2, cap2, fin, ru, cs', out, cb, rfl, rfl, hbc, hblk, hcd, hch, hcl', hcb, hbd, hout', hB⟩ := hrel
    have c4 : wr.cell? ⟨bc, 4, none⟩ = some (.bool fin) := Lib.cell_of_heap hblk 4
    have HM : Hid (Calls Try.prog 33 #[.pointer (some ⟨bc, 0, none⟩)] wr fun e w' => e = .returned (.bool (!fin)) ∧ w' = wr) := more_any bc 0 wr fin c4
    have HR : Hid (wr.heap[bc]? = some (.cells #[.int .i64 kind, .int .i64 n, .string (bs text), .slice ao2 l2 cap2, .bool fin] 67 (0, 0)) ∧ CD (Vw.plain w) ru gk topE kind n text (.slice ao2 l2 cap2) fin ∧ BldAt 61 w.heap.size 0 cb out wr ∧ Below w.heap.size w wr) := ⟨hblk, hcd, hbd, hB⟩
    have HQ : Hid ((∀ c ∈ cs', IsCh c) ∧ cb.size = 2 ∧ out ++ (applyU ru cs').flatten = R) := ⟨hch, hcb, hout'⟩
    have hcl2 : cs'.length ≤ 1000000000 := by have := chars_len hch; omega
    have HPL : Hid (BldPlace 61 cb.size 0) := by show BldPlace 61 cb.size 0; rw [hcb]; exact builderPlace
    have ho1 : out.length + (applyU ru cs').flatten.length ≤ 2000000000 := by rw [← List.length_append, hout']; exact hout
    have HO1 : Hid (out.length + (applyU ru cs').flatten.length ≤ 2000000000) := ho1
    have ho2 : out.length ≤ 2000000000 := by omega
    clear hblk hcd hbd hB c4 hch hcb hout' ho1
    go_wp2_with fail
    refine HM.out.mono ?_
    rintro e w2 ⟨rfl, rfl⟩
    cases fin with
    | true =>
      have he := HR.out.2.1.ended
      have HO2 : Hid (out ++ cs'.flatten = R) := by show _ = _; rw [← HQ.out.2.2, he.1]; rfl
      clear he
      go_wp2_with fail
      refine (writeString_any _ HR.out.2.2.1 HPL.out (by omega)).mono ?_
      rintro e w3 ⟨rfl, ⟨v', hbd3, _⟩, hb3, _⟩
      rw [HO2.out] at hbd3
      have HB3 : Hid (BldAt 61 w.heap.size 0 ((cb.setIfInBounds 0 (.pointer (some ⟨w.heap.size, 0, none⟩))).setIfInBounds (0 + 1) v') R w3 ∧ Below w.heap.size w w3) := ⟨hbd3, HR.out.2.2.2.trans hb3⟩
      clear hbd3 hb3
      go_wp2_with fail
      refine (bString_any HB3.out.1 (by decide)).mono ?_
      rintro e w4 ⟨rfl, hb4⟩
      go_wp2
      go_ret
      exact ⟨rfl, HB3.out.2.trans hb4⟩
    | false =>
      go_wp2_with fail
      refine (whole_cur HR.out.1 HR.out.2.1 HR.out.2.2.2 (by omega)).mono ?_
      rintro e w3 ⟨rfl, ⟨k', n', t', ao', l', c', f', pu, ru', hblk', hcd', hru, hpc, hn, hm⟩, hb3, hk3⟩
      have hbd3 : BldAt 61 w.heap.size 0 cb out w3 := HR.out.2.2.1.keepX hk3 HR.out.1 (by decide) (by omega)
      have HX : Hid (w3.heap[bc]? = some (.cells #[.int .i64 k', .int .i64 n', .string (bs t'), .slice ao' l' c', .bool f'] 67 (0, 0)) ∧ CD (Vw.plain w) ru' (gk - 1) topE k' n' t' (.slice ao' l' c') f' ∧ Below w.heap.size w w3 ∧ BldAt 61 w.heap.size 0 cb out w3) := ⟨hblk', hcd', HR.out.2.2.2.trans (hb3.mono (by omega)), hbd3⟩
      have HP : Hid (ru = pu ++ ru' ∧ Pc kind n text pu) := ⟨hru, hpc⟩
      have hlim : n ≤ 1000000000 ∧ text.length ≤ 1000000000 := by
        have h1 := hpc.len
        obtain ⟨R9, _, _, _, h4, h5, _⟩ := HR.out.2.1
        rw [hru, List.length_append] at h5
        rw [hru, bytesU_append] at h4
        omega
      have hn1 := hlim.1
      have HTL : Hid (text.length ≤ 1000000000) := hlim.2
      have h3 : (cs'.take n).flatten.length + (cs'.drop n).flatten.length ≤ 1000000000 := by rw [← List.length_append, ← flatten_split]; exact hcl'
      have HT : Hid (∀ c ∈ cs'.drop n, IsCh c) := fun c hc => HQ.out.1 c (List.mem_of_mem_drop hc)
      have hl1 : (cs'.take n).flatten.length ≤ 1000000000 := by omega
      have hl2 : (cs'.drop n).flatten.length ≤ 1000000000 := by omega
      clear hblk' hcd' hru hb3 hk3 hbd3 hlim
      have hw3s := HX.out.2.2.1.size
      rcases hpc with ⟨rfl, rfl, hpu⟩ | ⟨rfl, rfl, hpu⟩ | ⟨rfl, ch, hchs, hnn, htt, hpu⟩
      · have HA : Hid (applyU ru cs' = cs'.take n ++ applyU ru' (cs'.drop n)) := by show _ = _; rw [HP.out.1, hpu, applyU_repk]
        clear hpu
        go_wp2_with fail
        refine (cut_ok (bs cs'.flatten) cs' (n : Int) _ (by rw [bs_size]; omega) (bs_data _) HQ.out.1 (by omega) (by omega) (by omega)).mono ?_
        rintro e w4 ⟨rfl, hb4⟩
        rw [Int.toNat_natCast]
        have hblk4 := (hb4.block bc (by have := lt_of_blk HX.out.1; simp; omega)).trans ((Lib.alloc_old _ _ bc (lt_of_blk HX.out.1)).trans HX.out.1)
        have HZ : Hid (BldAt 61 w.heap.size 0 cb out w4 ∧ Below w.heap.size w w4 ∧ w4.heap[bc]? = some (.cells #[.int .i64 k', .int .i64 n', .string (bs t'), .slice ao' l' c', .bool f'] 67 (0, 0))) := ⟨(HX.out.2.2.2.alloc2 _).below2 hb4, (HX.out.2.2.1.alloc hw3s _).trans (hb4.mono (by simp; omega)), hblk4⟩
        clear hb4 hblk4
        go_wp2_with fail
        refine (writeString_any _ HZ.out.1 HPL.out (by omega)).mono ?_
        rintro e w5 ⟨rfl, ⟨v', hbd5, hwr5⟩, hb5, _⟩
        have hblk5 := wrote_bld hwr5 HZ.out.1 HZ.out.2.2 (by decide) (by omega)
        have d0 : w5.cell? ⟨bc, 0, none⟩ = some (.int .i64 k') := Lib.cell_of_heap hblk5 0
        have d1 : w5.cell? ⟨bc, 1, none⟩ = some (.int .i64 n') := Lib.cell_of_heap hblk5 1
        have d2 : w5.cell? ⟨bc, 2, none⟩ = some (.string (bs t')) := Lib.cell_of_heap hblk5 2
        have d3 : w5.cell? ⟨bc, 3, none⟩ = some (.slice ao' l' c') := Lib.cell_of_heap hblk5 3
        have d4 : w5.cell? ⟨bc, 4, none⟩ = some (.bool f') := Lib.cell_of_heap hblk5 4
        have HB5 : Hid (BldAt 61 w.heap.size 0 ((cb.setIfInBounds 0 (.pointer (some ⟨w.heap.size, 0, none⟩))).setIfInBounds (0 + 1) v') (out ++ (cs'.take n).flatten) w5 ∧ Below w.heap.size w w5) := ⟨hbd5, HZ.out.2.1.trans hb5⟩
        clear hblk5 hbd5 hwr5 hb5
        go_wp2
        go_roundg (gk - 1)
        case measure => omega
        case rel =>
          refine ⟨w5.heap.size, k', n', t', ao', l', c', f', ru', cs'.drop n, _, _, rfl, rfl, ?_, heap_alloc_new w5 _, HX.out.2.1, HT.out, hl2, by simp [HQ.out.2.1], HB5.out.1.alloc2 _, ?_, HB5.out.2.alloc HB5.out.2.size _⟩
          · have := lt_of_blk HB5.out.1.blk; omega
          · rw [← HQ.out.2.2, HA.out, List.flatten_append, List.append_assoc]
      · have HA : Hid (applyU ru cs' = applyU ru' (cs'.drop n)) := by show _ = _; rw [HP.out.1, hpu, applyU_repd]
        clear hpu
        go_wp2_with fail
        refine (cut_ok (bs cs'.flatten) cs' (n : Int) _ (by rw [bs_size]; omega) (bs_data _) HQ.out.1 (by omega) (by omega) (by omega)).mono ?_
        rintro e w5 ⟨rfl, hb4⟩
        rw [Int.toNat_natCast]
        have hblk5 := (hb4.block bc (by have := lt_of_blk HX.out.1; simp; omega)).trans ((Lib.alloc_old _ _ bc (lt_of_blk HX.out.1)).trans HX.out.1)
        have d0 : w5.cell? ⟨bc, 0, none⟩ = some (.int .i64 k') := Lib.cell_of_heap hblk5 0
        have d1 : w5.cell? ⟨bc, 1, none⟩ = some (.int .i64 n') := Lib.cell_of_heap hblk5 1
        have d2 : w5.cell? ⟨bc, 2, none⟩ = some (.string (bs t')) := Lib.cell_of_heap hblk5 2
        have d3 : w5.cell? ⟨bc, 3, none⟩ = some (.slice ao' l' c') := Lib.cell_of_heap hblk5 3
        have d4 : w5.cell? ⟨bc, 4, none⟩ = some (.bool f') := Lib.cell_of_heap hblk5 4
        have HB5 : Hid (BldAt 61 w.heap.size 0 cb out w5 ∧ Below w.heap.size w w5) := ⟨(HX.out.2.2.2.alloc2 _).below2 hb4, (HX.out.2.2.1.alloc hw3s _).trans (hb4.mono (by simp; omega))⟩
        clear hb4 hblk5
        go_wp2
        go_roundg (gk - 1)
        case measure => omega
        case rel =>
          refine ⟨w5.heap.size, k', n', t', ao', l', c', f', ru', cs'.drop n, out, cb, rfl, rfl, ?_, heap_alloc_new w5 _, HX.out.2.1, HT.out, hl2, HQ.out.2.1, HB5.out.1.alloc2 _, ?_, HB5.out.2.alloc HB5.out.2.size _⟩
          · have := lt_of_blk HB5.out.1.blk; omega
          · rw [← HQ.out.2.2, HA.out]
      · have HA : Hid (applyU ru cs' = ch ++ applyU ru' cs' ∧ text = ch.flatten) := by refine ⟨?_, htt⟩; rw [HP.out.1, hpu, applyU_is]
        clear hpu hchs hnn htt
        go_wp2_with fail
        refine (writeString_any text (HX.out.2.2.2.alloc2 _) HPL.out (by have := HTL.out; omega)).mono ?_
        rintro e w5 ⟨rfl, ⟨v', hbd5, hwr5⟩, hb5, _⟩
        have hblk5 := wrote_bld hwr5 (HX.out.2.2.2.alloc2 _) ((Lib.alloc_old _ _ bc (lt_of_blk HX.out.1)).trans HX.out.1) (by decide) (by omega)
        have d0 : w5.cell? ⟨bc, 0, none⟩ = some (.int .i64 k') := Lib.cell_of_heap hblk5 0
        have d1 : w5.cell? ⟨bc, 1, none⟩ = some (.int .i64 n') := Lib.cell_of_heap hblk5 1
        have d2 : w5.cell? ⟨bc, 2, none⟩ = some (.string (bs t')) := Lib.cell_of_heap hblk5 2
        have d3 : w5.cell? ⟨bc, 3, none⟩ = some (.slice ao' l' c') := Lib.cell_of_heap hblk5 3
        have d4 : w5.cell? ⟨bc, 4, none⟩ = some (.bool f') := Lib.cell_of_heap hblk5 4
        have HB5 : Hid (BldAt 61 w.heap.size 0 ((cb.setIfInBounds 0 (.pointer (some ⟨w.heap.size, 0, none⟩))).setIfInBounds (0 + 1) v') (out ++ text) w5 ∧ Below w.heap.size w w5) := ⟨hbd5, (HX.out.2.2.1.alloc hw3s _).trans hb5⟩
        clear hblk5 hbd5 hwr5 hb5
        go_wp2
        go_roundg (gk - 1)
        case measure => omega
        case rel =>
          refine ⟨w5.heap.size, k', n', t', ao', l', c', f', ru', cs', _, _, rfl, rfl, ?_, heap_alloc_new w5 _, HX.out.2.1, HQ.out.1, hcl', by simp [HQ.out.2.1], HB5.out.1.alloc2 _, ?_, HB5.out.2.alloc HB5.out.2.size _⟩
          · have := lt_of_blk HB5.out.1.blk; omega
          · rw [← HQ.out.2.2, HA.out.1, List.flatten_append, List.append_assoc, ← HA.out.2]

end Go.Proofs.Ytgoaihpaajchaaa
