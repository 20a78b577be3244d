/-
  parts.Invert, over a cursor.
-/
import Derived.Test.YtgoaihpaajchaaaAlg2
namespace Go.Proofs.Ytgoaihpaajchaaa
open Go.RowKit

theorem invU_repk (n : Nat) : ∀ (ru : List Un) (cs : List (List UInt8)), invU (List.replicate n .k ++ ru) cs = List.replicate n .k ++ invU ru (cs.drop n) := by
  induction n with
  | zero => intro ru cs; simp
  | succ n ih => intro ru cs; rw [List.replicate_succ, List.cons_append, List.cons_append, invU, ih, List.drop_drop, Nat.add_comm]
theorem invU_repd (n : Nat) : ∀ (ru : List Un) (cs : List (List UInt8)), invU (List.replicate n .d ++ ru) cs = (cs.take n).map .i ++ invU ru (cs.drop n) := by
  induction n with
  | zero => intro ru cs; simp
  | succ n ih =>
    intro ru cs
    rw [List.replicate_succ, List.cons_append]
    cases cs with
    | nil => rw [invU, ih]; simp
    | cons c cs => rw [invU, ih]; simp
theorem invU_is (ch : List (List UInt8)) : ∀ (ru : List Un) (cs : List (List UInt8)), invU (ch.map .i ++ ru) cs = List.replicate ch.length .d ++ invU ru cs := by
  induction ch with
  | nil => intro ru cs; simp
  | cons c ch ih => intro ru cs; rw [List.map_cons, List.cons_append, invU, ih, List.length_cons, List.replicate_succ, List.cons_append]

theorem WrAt.below2 {b : Nat} {W : Wr} {w w' : World} {dv pa bv : Value} (h : WrAt b W w dv pa bv) (hb : Below w.heap.size w w') : WrAt b W w' dv pa bv := by
  refine ⟨(hb.block b (lt_of_blk h.blk)).trans h.blk, h.adr, ⟨h.row.1, ?_⟩, ⟨h.buf.1, ?_⟩, h.non⟩
  · rcases h.row.2 with e | ⟨g, cap, cur, rfl, hbb, hgg, rest⟩
    · exact .inl e
    · exact .inr ⟨g, cap, cur, rfl, hbb, (hb.block g (lt_of_blk hgg)).trans hgg, rest⟩
  · rcases h.buf.2 with e | ⟨g, cap, cur, rfl, hbb, hgg, rest⟩
    · exact .inl e
    · exact .inr ⟨g, cap, cur, rfl, hbb, (hb.block g (lt_of_blk hgg)).trans hgg, rest⟩

def InvRel (w : World) (us : List Un) (cs : List (List UInt8)) (N m : Nat) (r c : Value) (wr : World) : Prop :=
  ∃ (bc kind n : Nat) (text : List UInt8) (ao : Option Addr) (l cap : Nat) (fin : Bool) (ru : List Un) (cs' : List (List UInt8)) (W : Wr) (dv pa bv : Value), c = .pointer (some ⟨bc, 0, none⟩) ∧ r = .string (bs cs'.flatten) ∧ w.heap.size < bc ∧ wr.heap[bc]? = some (.cells #[.int .i64 kind, .int .i64 n, .string (bs text), .slice ao l cap, .bool fin] 67 (0, 0)) ∧
    CD (Vw.plain w) ru m topE kind n text (.slice ao l cap) fin ∧ WrAt w.heap.size W wr dv pa bv ∧ (∀ c ∈ cs', IsCh c) ∧ stU W (invU ru cs') = stU Wr.new (invU us cs) ∧ WB N W m ru.length cs'.flatten.length ∧ Below w.heap.size w wr

set_option maxHeartbeats 1000000 in
set_option maxRecDepth 100000 in
theorem pInvert_any (v : Value) (L : List Pt) (us : List Un) (cs : List (List UInt8)) (w : World) (hp : PartsAt w v L) (hcap : CapOk v) (hr : Reads L us) (hR : L.length ≤ 1000) (hby : bytesU us ≤ 1000000000) (hlen : us.length ≤ 1000000000) (hch : ∀ c ∈ cs, IsCh c) (hcl : cs.flatten.length ≤ 1000000000) :
    Calls Try.prog 28 #[v, .string (bs cs.flatten)] w fun e w' => ∃ v', e = .returned v' ∧ (w'.ownsRow w.heap.size 42 3 v' (normU (invU us cs)).length (rowOf (normU (invU us cs))) ∧ (normU (invU us cs)).length ≤ L.length) ∧ Below w.heap.size w w' := by
  have HC : Hid (∀ c ∈ cs, IsCh c) := hch
  have H1 : Hid (∀ w1, Below w.heap.size w w1 → Calls Try.prog 32 #[v] w1 fun e w' => (∃ val, e = .returned val ∧ ReadV (Vw.plain w) us L.length val) ∧ Below w1.heap.size w1 w') := fun w1 h1 => read_any v L us (Vw.plain w) w1 hp.plain (Vw.of h1) hcap hr hR hby hlen
  obtain ⟨ao, cap, rfl, _⟩ := hp
  clear hcap hch
  go_enter Try.func28, Try.ntmps28
  go_wp2_with fail
  refine (H1.out _ ((Below.refl _ _).alloc (Nat.le_refl _) _)).mono ?_
  rintro e w1 ⟨⟨val, rfl, k1, n1, t1, ao1, l1, p1, f1, rfl, hd1⟩, hb1⟩
  have hs1 := hb1.size
  have hwr := (hb1.block w.heap.size (by simp)).trans (heap_alloc_new w _)
  have HS : Hid (CD (Vw.plain w) us L.length topE k1 n1 t1 (.slice ao1 l1 p1) f1 ∧ Below w.heap.size w w1 ∧ WrAt w.heap.size Wr.new w1 (.slice none 0 0) (.pointer none) (.slice none 0 0) ∧ w.heap.size < w1.heap.size) := ⟨hd1, ((Below.refl _ _).alloc (Nat.le_refl _) _).trans (hb1.mono (by simp)), ⟨hwr, .inl rfl, World.ownsRow_nil _ _ _ _, World.ownsRow_nil _ _ _ _, fun _ => rfl⟩, by simp at hs1; omega⟩
  clear hd1 hb1 hs1 hwr
  unfold curV
  go_wp2_with fail
  go_loopg [6, 7] L.length (fun m r c wr => InvRel w us cs L.length m r c wr)
  case atStart =>
    obtain ⟨q1, q2, q3, q4⟩ := HS.out
    exact ⟨w1.heap.size, k1, n1, t1, ao1, l1, p1, f1, us, cs, Wr.new, _, _, _, rfl, rfl, q4, heap_alloc_new w1 _, q1, q3.alloc _, HC.out, rfl, ⟨by simp [Wr.new, Wr.fl, kp, ip, dp], by simpa [Wr.new, Wr.fl, kp, ip, dp, nums] using hlen, by show 0 + cs.flatten.length ≤ _; omega⟩, q2.alloc q2.size _⟩
  case round =>
    obtain ⟨bc, kind, n, text, ao2, l2, cap2, fin, ru, cs', W, dv, pa, bv, rfl, rfl, hbc, hblk, hcd, hwr, hch, hst, hwb, hB⟩ := hrel
    have c4 : wr.cell? ⟨bc, 4, none⟩ = some (.bool fin) := Lib.cell_of_heap hblk 4
    have HM : Hid (Calls Try.prog 33 #[.pointer (some ⟨bc, 0, none⟩)] wr fun e w' => e = .returned (.bool (!fin)) ∧ w' = wr) := more_any bc 0 wr fin c4
    have HR : Hid (wr.heap[bc]? = some (.cells #[.int .i64 kind, .int .i64 n, .string (bs text), .slice ao2 l2 cap2, .bool fin] 67 (0, 0)) ∧ CD (Vw.plain w) ru gk topE kind n text (.slice ao2 l2 cap2) fin ∧ WrAt w.heap.size W wr dv pa bv ∧ Below w.heap.size w wr) := ⟨hblk, hcd, hwr, hB⟩
    have HQ : Hid ((∀ c ∈ cs', IsCh c) ∧ stU W (invU ru cs') = stU Wr.new (invU us cs) ∧ WB L.length W gk ru.length cs'.flatten.length) := ⟨hch, hst, hwb⟩
    have hcl' : cs'.flatten.length ≤ 1000000000 := by have := hwb.pu; omega
    have hcl2 : cs'.length ≤ 1000000000 := by have := chars_len hch; omega
    clear hblk hcd hwr hst hwb hB c4 hch
    go_wp2_with fail
    refine HM.out.mono ?_
    rintro e w2 ⟨rfl, rfl⟩
    cases fin with
    | true =>
      go_wp2_with fail
      refine (wParts_any _ W _ _ _ _ HR.out.2.2.1 (HQ.out.2.2.small hR)).mono ?_
      rintro e w3 ⟨v', rfl, hv, hw3, hb3⟩
      have HV : Hid (w3.ownsRow w.heap.size 42 3 v' W.settle.done.length (rowOf W.settle.done) ∧ Below w.heap.size w w3) := ⟨hv, HR.out.2.2.2.trans hb3⟩
      clear hv hw3 hb3
      go_wp2
      go_ret
      have he := HR.out.2.1.ended
      have hst := HQ.out.2.1
      have hwb := HQ.out.2.2
      rw [he.1] at hst
      have hn : normU (invU us cs) = W.settle.done := by rw [normU_eq, ← hst]; rfl
      refine ⟨v', rfl, ⟨by rw [hn]; exact HV.out.1, ?_⟩, HV.out.2⟩
      have h1 := hwb.fl
      have h2 := settled_done W
      rw [hn]
      have h3 := congrArg List.length (settle_fl W)
      rw [h2, List.length_append] at h3
      omega
    | false =>
      go_wp2_with fail
      refine (whole_cur HR.out.1 HR.out.2.1 HR.out.2.2.2 (by omega)).mono ?_
      rintro e w3 ⟨rfl, ⟨k', n', t', ao', l', c', f', pu, ru', hblk', hcd', hru, hpc, hn, hm⟩, hb3, hk3⟩
      have hw3 : WrAt w.heap.size W w3 dv pa bv := HR.out.2.2.1.keepX hk3 HR.out.1 (by decide) (by decide) (by omega)
      have HSM : Hid W.Small := HQ.out.2.2.small hR
      have HX : Hid (w3.heap[bc]? = some (.cells #[.int .i64 k', .int .i64 n', .string (bs t'), .slice ao' l' c', .bool f'] 67 (0, 0)) ∧ CD (Vw.plain w) ru' (gk - 1) topE k' n' t' (.slice ao' l' c') f' ∧ Below w.heap.size w w3 ∧ WrAt w.heap.size W w3 dv pa bv) := ⟨hblk', hcd', HR.out.2.2.2.trans (hb3.mono (by omega)), hw3⟩
      have HP : Hid (ru = pu ++ ru' ∧ Pc kind n text pu ∧ ru.length = n + ru'.length ∧ WB L.length W gk ru.length cs'.flatten.length) := ⟨hru, hpc, by rw [hru, List.length_append, hpc.len.1], HQ.out.2.2⟩
      have hn1 : n ≤ 1000000000 := by
        have h1 := hpc.len
        have h2 := HQ.out.2.2.nu
        rw [hru, List.length_append] at h2
        omega
      have h3 : (cs'.take n).flatten.length + (cs'.drop n).flatten.length = cs'.flatten.length := by rw [← List.length_append, ← flatten_split]
      have H3 : Hid ((cs'.take n).flatten.length + (cs'.drop n).flatten.length = cs'.flatten.length) := h3
      have HT : Hid (∀ c ∈ cs'.drop n, IsCh c) := fun c hc => HQ.out.1 c (List.mem_of_mem_drop hc)
      have hl1 : (cs'.take n).flatten.length ≤ 1000000000 := by omega
      clear hblk' hcd' hru hb3 hk3 hw3 h3
      have hw3s := HX.out.2.2.1.size
      rcases hpc with ⟨rfl, rfl, hpu⟩ | ⟨rfl, rfl, hpu⟩ | ⟨rfl, ch, hchs, hnn, htt, hpu⟩
      · have HA : Hid (invU ru cs' = List.replicate n .k ++ invU ru' (cs'.drop n)) := by show _ = _; rw [HP.out.1, hpu, invU_repk]
        clear hpu
        go_wp2_with fail
        refine (cut_ok (bs cs'.flatten) cs' (n : Int) _ (by rw [bs_size]; omega) (bs_data _) HQ.out.1 (by omega) (by omega) (by omega)).mono ?_
        rintro e w4 ⟨rfl, hb4⟩
        rw [Int.toNat_natCast]
        have hblk4 := (hb4.block bc (by have := lt_of_blk HX.out.1; simp; omega)).trans ((Lib.alloc_old _ _ bc (lt_of_blk HX.out.1)).trans HX.out.1)
        have e4 := (hb4.block w3.heap.size (by simp)).trans (heap_alloc_new w3 _)
        have p4 : w4.cell? ⟨w3.heap.size, 1, none⟩ = some (.int .i64 n) := Lib.cell_of_heap e4 1
        clear e4
        have HZ : Hid (WrAt w.heap.size W w4 dv pa bv ∧ Below w.heap.size w w4 ∧ w4.heap[bc]? = some (.cells #[.int .i64 k', .int .i64 n', .string (bs t'), .slice ao' l' c', .bool f'] 67 (0, 0))) := ⟨(HX.out.2.2.2.alloc _).below2 hb4, (HX.out.2.2.1.alloc hw3s _).trans (hb4.mono (by simp; omega)), hblk4⟩
        clear hb4 hblk4
        go_wp2_with fail
        refine ((wKeep_any _ W n _ _ _ _ HZ.out.1 HSM.out hn (by omega)).mono ?_)
        rintro e w5 ⟨rfl, ⟨dv', pa', bv', hW', hwrote⟩, hb5⟩
        have hblk5 := hwrote.cur HZ.out.1 HZ.out.2.2 (by decide) (by decide) (by omega)
        have d0 : w5.cell? ⟨bc, 0, none⟩ = some (.int .i64 k') := Lib.cell_of_heap hblk5 0
        have d1 : w5.cell? ⟨bc, 1, none⟩ = some (.int .i64 n') := Lib.cell_of_heap hblk5 1
        have d2 : w5.cell? ⟨bc, 2, none⟩ = some (.string (bs t')) := Lib.cell_of_heap hblk5 2
        have d3 : w5.cell? ⟨bc, 3, none⟩ = some (.slice ao' l' c') := Lib.cell_of_heap hblk5 3
        have d4 : w5.cell? ⟨bc, 4, none⟩ = some (.bool f') := Lib.cell_of_heap hblk5 4
        have HY : Hid (WrAt w.heap.size (W.keep n) w5 dv' pa' bv' ∧ Below w.heap.size w w5) := ⟨hW', HZ.out.2.1.trans hb5⟩
        clear hblk5 hW' hwrote hb5
        go_wp2
        go_roundg (gk - 1)
        case measure => omega
        case rel =>
          refine ⟨w5.heap.size, k', n', t', ao', l', c', f', ru', cs'.drop n, W.keep n, dv', pa', bv', rfl, rfl, ?_, heap_alloc_new w5 _, HX.out.2.1, HY.out.1.alloc _, HT.out, ?_, ?_, HY.out.2.alloc HY.out.2.size _⟩
          · have := lt_of_blk HY.out.1.blk; omega
          · rw [← HQ.out.2.1, HA.out, stU_repk]
          · have q := keep_size W n hn; have q2 := HP.out.2.2.1; obtain ⟨z1, z2, z3⟩ := HP.out.2.2.2; have z4 := H3.out; exact ⟨by omega, by omega, by omega⟩
      · have HA : Hid (invU ru cs' = (cs'.take n).map .i ++ invU ru' (cs'.drop n)) := by show _ = _; rw [HP.out.1, hpu, invU_repd]
        clear hpu
        go_wp2_with fail
        refine (cut_ok (bs cs'.flatten) cs' (n : Int) _ (by rw [bs_size]; omega) (bs_data _) HQ.out.1 (by omega) (by omega) (by omega)).mono ?_
        rintro e w4 ⟨rfl, hb4⟩
        rw [Int.toNat_natCast]
        have hblk4 := (hb4.block bc (by have := lt_of_blk HX.out.1; simp; omega)).trans ((Lib.alloc_old _ _ bc (lt_of_blk HX.out.1)).trans HX.out.1)
        have e4 := (hb4.block w3.heap.size (by simp)).trans (heap_alloc_new w3 _)
        have p4 : w4.cell? ⟨w3.heap.size, 1, none⟩ = some (.int .i64 n) := Lib.cell_of_heap e4 1
        clear e4
        have HZ : Hid (WrAt w.heap.size W w4 dv pa bv ∧ Below w.heap.size w w4 ∧ w4.heap[bc]? = some (.cells #[.int .i64 k', .int .i64 n', .string (bs t'), .slice ao' l' c', .bool f'] 67 (0, 0))) := ⟨(HX.out.2.2.2.alloc _).below2 hb4, (HX.out.2.2.1.alloc hw3s _).trans (hb4.mono (by simp; omega)), hblk4⟩
        clear hb4 hblk4
        go_wp2_with fail
        refine ((wInsert_any _ W (cs'.take n).flatten _ _ _ _ HZ.out.1 HSM.out hl1).mono ?_)
        rintro e w5 ⟨rfl, ⟨dv', pa', bv', hW', hwrote⟩, hb5⟩
        have hblk5 := hwrote.cur HZ.out.1 HZ.out.2.2 (by decide) (by decide) (by omega)
        have d0 : w5.cell? ⟨bc, 0, none⟩ = some (.int .i64 k') := Lib.cell_of_heap hblk5 0
        have d1 : w5.cell? ⟨bc, 1, none⟩ = some (.int .i64 n') := Lib.cell_of_heap hblk5 1
        have d2 : w5.cell? ⟨bc, 2, none⟩ = some (.string (bs t')) := Lib.cell_of_heap hblk5 2
        have d3 : w5.cell? ⟨bc, 3, none⟩ = some (.slice ao' l' c') := Lib.cell_of_heap hblk5 3
        have d4 : w5.cell? ⟨bc, 4, none⟩ = some (.bool f') := Lib.cell_of_heap hblk5 4
        have HY : Hid (WrAt w.heap.size ({ W with put := W.put ++ (cs'.take n).flatten }) w5 dv' pa' bv' ∧ Below w.heap.size w w5) := ⟨hW', HZ.out.2.1.trans hb5⟩
        clear hblk5 hW' hwrote hb5
        go_wp2
        go_roundg (gk - 1)
        case measure => omega
        case rel =>
          refine ⟨w5.heap.size, k', n', t', ao', l', c', f', ru', cs'.drop n, { W with put := W.put ++ (cs'.take n).flatten }, dv', pa', bv', rfl, rfl, ?_, heap_alloc_new w5 _, HX.out.2.1, HY.out.1.alloc _, HT.out, ?_, ?_, HY.out.2.alloc HY.out.2.size _⟩
          · have := lt_of_blk HY.out.1.blk; omega
          · rw [← HQ.out.2.1, HA.out, stU_is]
          · have q := put_size W (cs'.take n).flatten; have q2 := HP.out.2.2.1; obtain ⟨z1, z2, z3⟩ := HP.out.2.2.2; have z4 := H3.out; refine ⟨by omega, by omega, ?_⟩; show (W.put ++ (cs'.take n).flatten).length + _ ≤ _; rw [List.length_append]; omega
      · have HA : Hid (invU ru cs' = List.replicate n .d ++ invU ru' cs') := by show _ = _; rw [HP.out.1, hpu, invU_is, hnn]
        clear hpu hchs hnn htt
        go_wp2_with fail
        refine ((wDelete_any _ W n _ _ _ _ (HX.out.2.2.2.alloc _) HSM.out (by omega)).mono ?_)
        rintro e w5 ⟨rfl, ⟨dv', pa', bv', hW', hwrote⟩, hb5⟩
        have hblk5 := hwrote.cur (HX.out.2.2.2.alloc _) ((Lib.alloc_old _ _ bc (lt_of_blk HX.out.1)).trans HX.out.1) (by decide) (by decide) (by omega)
        have d0 : w5.cell? ⟨bc, 0, none⟩ = some (.int .i64 k') := Lib.cell_of_heap hblk5 0
        have d1 : w5.cell? ⟨bc, 1, none⟩ = some (.int .i64 n') := Lib.cell_of_heap hblk5 1
        have d2 : w5.cell? ⟨bc, 2, none⟩ = some (.string (bs t')) := Lib.cell_of_heap hblk5 2
        have d3 : w5.cell? ⟨bc, 3, none⟩ = some (.slice ao' l' c') := Lib.cell_of_heap hblk5 3
        have d4 : w5.cell? ⟨bc, 4, none⟩ = some (.bool f') := Lib.cell_of_heap hblk5 4
        have HY : Hid (WrAt w.heap.size ({ W with gone := W.gone + n }) w5 dv' pa' bv' ∧ Below w.heap.size w w5) := ⟨hW', (HX.out.2.2.1.alloc hw3s _).trans hb5⟩
        clear hblk5 hW' hwrote hb5
        go_wp2
        go_roundg (gk - 1)
        case measure => omega
        case rel =>
          refine ⟨w5.heap.size, k', n', t', ao', l', c', f', ru', cs', { W with gone := W.gone + n }, dv', pa', bv', rfl, rfl, ?_, heap_alloc_new w5 _, HX.out.2.1, HY.out.1.alloc _, HQ.out.1, ?_, ?_, HY.out.2.alloc HY.out.2.size _⟩
          · have := lt_of_blk HY.out.1.blk; omega
          · rw [← HQ.out.2.1, HA.out, stU_repd]
          · have q := gone_size W n; have q2 := HP.out.2.2.1; obtain ⟨z1, z2, z3⟩ := HP.out.2.2.2; exact ⟨by omega, by omega, z3⟩

end Go.Proofs.Ytgoaihpaajchaaa
