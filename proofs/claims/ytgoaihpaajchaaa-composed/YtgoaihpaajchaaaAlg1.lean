/-
  parts.Normal, over a cursor.
-/
import Derived.Test.YtgoaihpaajchaaaWalks7
import Derived.Test.YtgoaihpaajchaaaCur3
import Derived.Deep.LoopGhost
namespace Go.Proofs.Ytgoaihpaajchaaa
open Go.RowKit

theorem WrAt.keepX {b bc : Nat} {W : Wr} {w w' : World} {dv pa bv : Value} {cs : Array Value} {T : TypeId} (h : WrAt b W w dv pa bv) (hk : KeepX (fun g => g = bc) w w') (hc : w.heap[bc]? = some (.cells cs T (0, 0))) (h1 : T ≠ 42) (h2 : T ≠ 5) (hne : b ≠ bc) : WrAt b W w' dv pa bv := by
  refine ⟨(hk b (lt_of_blk h.blk) hne).trans h.blk, h.adr, ?_, ?_, h.non⟩
  · have hn := own_ne h.row hc h1
    refine ⟨h.row.1, ?_⟩
    rcases h.row.2 with e | ⟨g, cap, cur, rfl, hbb, hgg, rest⟩
    · exact .inl e
    · exact .inr ⟨g, cap, cur, rfl, hbb, (hk g (lt_of_blk hgg) (fun e => hn (by simp [Value.ownBlock, e]))).trans hgg, rest⟩
  · have hn := own_ne h.buf hc h2
    refine ⟨h.buf.1, ?_⟩
    rcases h.buf.2 with e | ⟨g, cap, cur, rfl, hbb, hgg, rest⟩
    · exact .inl e
    · exact .inr ⟨g, cap, cur, rfl, hbb, (hk g (lt_of_blk hgg) (fun e => hn (by simp [Value.ownBlock, e]))).trans hgg, rest⟩

theorem WrAt.alloc {b : Nat} {W : Wr} {w : World} {dv pa bv : Value} (h : WrAt b W w dv pa bv) (o : Obj) : WrAt b W (w.alloc o) dv pa bv :=
  ⟨(Lib.alloc_old w o _ (lt_of_blk h.blk)).trans h.blk, h.adr, h.row.alloc o, h.buf.alloc o, h.non⟩

/-- the Writer's calls leave a cursor's block. -/
theorem Wrote.cur {b bc : Nat} {W : Wr} {w w' : World} {dv pa bv : Value} {vs : List Value} {cs : Array Value} {T : TypeId} (hw : Wrote b [dv, bv] vs w w') (h : WrAt b W w dv pa bv) (hc : w.heap[bc]? = some (.cells cs T (0, 0))) (h1 : T ≠ 42) (h2 : T ≠ 5) (hne : b ≠ bc) : w'.heap[bc]? = some (.cells cs T (0, 0)) := by
  refine (hw.keep bc (lt_of_blk hc) (Ne.symm hne) ?_).trans hc
  intro v hv
  simp only [List.mem_cons, List.not_mem_nil, or_false] at hv
  rcases hv with rfl | rfl
  · exact own_ne h.row hc h1
  · exact own_ne h.buf hc h2

/-- what is written for a piece. -/
def Wr.wrP (W : Wr) (kind n : Nat) (text : List UInt8) : Wr := if kind = 1 then W.keep n else if kind = 2 then { W with put := W.put ++ text } else { W with gone := W.gone + n }

theorem wrP_st {kind n : Nat} {text : List UInt8} {pu : List Un} (h : Pc kind n text pu) (W : Wr) (ru : List Un) : stU W (pu ++ ru) = stU (W.wrP kind n text) ru := by
  rcases h with ⟨rfl, rfl, rfl⟩ | ⟨rfl, rfl, rfl⟩ | ⟨rfl, ch, _, rfl, rfl, rfl⟩
  · rw [stU_repk]; rfl
  · rw [stU_repd]; rfl
  · rw [stU_is]; rfl

theorem keep_size (w : Wr) (n : Nat) (hn : 1 ≤ n) : nums (w.keep n).fl = nums w.fl + n ∧ (w.keep n).fl.length ≤ w.fl.length + 1 ∧ (w.keep n).put.length ≤ w.put.length := by
  have hn0 : n ≠ 0 := by omega
  have hs := settle_fl w
  obtain ⟨e1, e2⟩ := settle_kept w
  have hst : w.keep n = { w.settle with kept := w.settle.kept + n } := by simp [Wr.keep, hn0]
  rw [hst]
  refine ⟨?_, ?_, ?_⟩
  · rw [← hs, nums_fl, nums_fl, e2]; simp only; omega
  · rw [← hs]
    simp only [Wr.fl, e1, e2, List.length_append]
    have := len_kp (w.settle.kept + n)
    omega
  · rw [show ({ w.settle with kept := w.settle.kept + n } : Wr).put = w.settle.put from rfl, e1]; simp
theorem put_size (w : Wr) (t : List UInt8) : nums ({ w with put := w.put ++ t } : Wr).fl = nums w.fl ∧ ({ w with put := w.put ++ t } : Wr).fl.length ≤ w.fl.length + 1 := by
  refine ⟨by rw [nums_fl, nums_fl], ?_⟩
  simp only [Wr.fl, List.length_append]
  by_cases e : w.put = []
  · have := len_ip (w.put ++ t); omega
  · have h1 : (ip (w.put ++ t)).length = 1 := by simp [ip, e]
    have h2 : (ip w.put).length = 1 := by simp [ip, e]
    omega
theorem gone_size (w : Wr) (n : Nat) : nums ({ w with gone := w.gone + n } : Wr).fl = nums w.fl + n ∧ ({ w with gone := w.gone + n } : Wr).fl.length ≤ w.fl.length + 1 := by
  refine ⟨by rw [nums_fl, nums_fl]; simp only; omega, ?_⟩
  simp only [Wr.fl, List.length_append]
  by_cases e : w.gone = 0
  · have := len_dp (w.gone + n); omega
  · have h1 : (dp (w.gone + n)).length = 1 := by simp [dp, e]
    have h2 : (dp w.gone).length = 1 := by simp [dp, e]
    omega

/-- how great a Writer is, with what is still to come: of m parts, len characters, by bytes. -/
structure WB (N : Nat) (W : Wr) (m len by' : Nat) : Prop where
  fl : W.fl.length + m ≤ N
  nu : nums W.fl + len ≤ 1000000000
  pu : W.put.length + by' ≤ 1000000000

theorem WB.small {N : Nat} {W : Wr} {m len by' : Nat} (h : WB N W m len by') (hN : N ≤ 1000) : W.Small := by
  have h1 := h.fl; have h2 := h.nu; have h3 := h.pu
  rw [nums_fl] at h2
  have i : W.done.length ≤ W.fl.length := by simp only [Wr.fl, List.length_append]; omega
  exact ⟨by omega, by omega, by omega, by omega⟩

theorem WB.step {N kind n : Nat} {text : List UInt8} {pu ru : List Un} {W : Wr} {m : Nat} (h : WB N W (m + 1) (pu ++ ru).length (bytesU (pu ++ ru))) (hp : Pc kind n text pu) (hn : 1 ≤ n) : WB N (W.wrP kind n text) m ru.length (bytesU ru) := by
  obtain ⟨h1, h2, h3⟩ := h
  obtain ⟨e1, e2⟩ := hp.len
  rw [List.length_append] at h2
  rw [bytesU_append] at h3
  rcases hp with ⟨rfl, rfl, rfl⟩ | ⟨rfl, rfl, rfl⟩ | ⟨rfl, ch, _, rfl, rfl, rfl⟩
  · obtain ⟨q1, q2, q3⟩ := keep_size W n hn
    exact ⟨by show (W.keep n).fl.length + m ≤ N; omega, by show nums (W.keep n).fl + _ ≤ _; omega, by show (W.keep n).put.length + _ ≤ _; omega⟩
  · obtain ⟨q1, q2⟩ := gone_size W n
    exact ⟨by show ({ W with gone := W.gone + n } : Wr).fl.length + m ≤ N; omega, by show nums ({ W with gone := W.gone + n } : Wr).fl + _ ≤ _; omega, by show W.put.length + _ ≤ _; omega⟩
  · obtain ⟨q1, q2⟩ := put_size W ch.flatten
    exact ⟨by show ({ W with put := W.put ++ ch.flatten } : Wr).fl.length + m ≤ N; omega, by show nums ({ W with put := W.put ++ ch.flatten } : Wr).fl + _ ≤ _; omega, by show (W.put ++ ch.flatten).length + _ ≤ _; rw [List.length_append]; omega⟩

def NormRel (w : World) (us : List Un) (N m : Nat) (c : Value) (wr : World) : Prop :=
  ∃ (bc kind n : Nat) (text : List UInt8) (ao : Option Addr) (l cap : Nat) (fin : Bool) (ru : List Un) (W : Wr) (dv pa bv : Value), c = .pointer (some ⟨bc, 0, none⟩) ∧ w.heap.size < bc ∧ wr.heap[bc]? = some (.cells #[.int .i64 kind, .int .i64 n, .string (bs text), .slice ao l cap, .bool fin] 67 (0, 0)) ∧
    CD (Vw.plain w) ru m topE kind n text (.slice ao l cap) fin ∧ WrAt w.heap.size W wr dv pa bv ∧ stU W ru = stU Wr.new us ∧ WB N W m ru.length (bytesU ru) ∧ Below w.heap.size w wr

/-- the cursor whole, as a loop's round meets it. -/
theorem whole_cur {w wr : World} {bc kind n : Nat} {text : List UInt8} {ao : Option Addr} {l cap : Nat} {ru : List Un} {m : Nat} (hbc : wr.heap[bc]? = some (.cells #[.int .i64 kind, .int .i64 n, .string (bs text), .slice ao l cap, .bool false] 67 (0, 0)))
    (hcd : CD (Vw.plain w) ru m topE kind n text (.slice ao l cap) false) (hB : Below w.heap.size w wr) (hbb : w.heap.size ≤ bc) :
    Calls Try.prog 34 #[.pointer (some ⟨bc, 0, none⟩)] wr fun e w' => e = .returned (.agg #[.int .i64 kind, .int .i64 n, .string (bs text)]) ∧
      (∃ (k' n' : Nat) (t' : List UInt8) (ao' : Option Addr) (l' c' : Nat) (f' : Bool) (pu ru' : List Un), w'.heap[bc]? = some (.cells #[.int .i64 k', .int .i64 n', .string (bs t'), .slice ao' l' c', .bool f'] 67 (0, 0)) ∧ CD (Vw.plain w) ru' (m - 1) topE k' n' t' (.slice ao' l' c') f' ∧ ru = pu ++ ru' ∧ Pc kind n text pu ∧ 1 ≤ n ∧ 1 ≤ m) ∧ Below bc wr w' ∧ KeepX (fun g => g = bc) wr w' := by
  obtain ⟨R, h1, h2, h3, h4, h5, h6⟩ := hcd
  rcases h6 with ⟨x, _⟩ | ⟨_, pu, ru', hn, hpc, hr, rfl, rfl⟩
  · cases x
  · rw [bytesU_append] at h4
    rw [List.length_append] at h5
    refine (whole_any 67 bc 0 _ (Vw.plain w) wr kind n text _ R ru' hbc ⟨by simp, rfl, rfl, rfl, rfl, rfl⟩ h1 h2 (Vw.of hB) hbb hr h3 (by omega) (by omega)).mono ?_
    rintro e w' ⟨rfl, ⟨cs', q1, q2, q3⟩, q4, q5⟩
    refine ⟨rfl, ?_, q4, q5⟩
    obtain ⟨k', n', t', v', f', hin, hcd'⟩ := q2.cd
    obtain ⟨ao', l', c', rfl⟩ := hcd'.form
    have hz : cs'.size = 5 := q3.size
    have e : cs' = #[.int .i64 k', .int .i64 n', .string (bs t'), .slice ao' l' c', .bool f'] := by
      apply Array.ext_getElem?
      intro i
      match i with
      | 0 => rw [hin.c0]; rfl
      | 1 => rw [hin.c1]; rfl
      | 2 => rw [hin.c2]; rfl
      | 3 => rw [hin.c3]; rfl
      | 4 => rw [hin.c4]; rfl
      | i + 5 => rw [Array.getElem?_eq_none (by omega), Array.getElem?_eq_none (by simp)]
    subst e
    exact ⟨k', n', t', ao', l', c', f', pu, ru', q1, by simpa using hcd', rfl, hpc, hn, by omega⟩

theorem CD.ended {V : Vw} {ru : List Un} {m E kind n : Nat} {text : List UInt8} {v : Value} (h : CD V ru m E kind n text v true) : ru = [] ∧ m = 0 := by
  obtain ⟨R, _, _, _, _, _, h6⟩ := h
  rcases h6 with ⟨_, e, _, _, _, _, _, e2⟩ | ⟨x, _⟩
  · exact ⟨e, e2⟩
  · cases x

set_option maxHeartbeats 1000000 in
set_option maxRecDepth 100000 in
theorem pNormal_any (v : Value) (L : List Pt) (us : List Un) (w : World) (hp : PartsAt w v L) (hcap : CapOk v) (hr : Reads L us) (hR : L.length ≤ 1000) (hby : bytesU us ≤ 1000000000) (hlen : us.length ≤ 1000000000) :
    Calls Try.prog 22 #[v] w fun e w' => ∃ v', e = .returned v' ∧ (w'.ownsRow w.heap.size 42 3 v' (normU us).length (rowOf (normU us)) ∧ (normU us).length ≤ L.length) ∧ Below w.heap.size w w' := by
  have H1 : Hid (∀ w1, Below w.heap.size w w1 → Calls Try.prog 32 #[v] w1 fun e w' => (∃ val, e = .returned val ∧ ReadV (Vw.plain w) us L.length val) ∧ Below w1.heap.size w1 w') := fun w1 h1 => read_any v L us (Vw.plain w) w1 hp.plain (Vw.of h1) hcap hr hR hby hlen
  obtain ⟨ao, cap, rfl, _⟩ := hp
  clear hcap
  go_enter Try.func22, Try.ntmps22
  go_wp2_with fail
  refine (H1.out _ ((Below.refl _ _).alloc (Nat.le_refl _) _)).mono ?_
  rintro e w1 ⟨⟨val, rfl, k1, n1, t1, ao1, l1, p1, f1, rfl, hd1⟩, hb1⟩
  have hs1 := hb1.size
  have hwr := (hb1.block w.heap.size (by simp)).trans (heap_alloc_new w _)
  have HS : Hid (CD (Vw.plain w) us L.length topE k1 n1 t1 (.slice ao1 l1 p1) f1 ∧ Below w.heap.size w w1 ∧ WrAt w.heap.size Wr.new w1 (.slice none 0 0) (.pointer none) (.slice none 0 0) ∧ w.heap.size < w1.heap.size) := ⟨hd1, ((Below.refl _ _).alloc (Nat.le_refl _) _).trans (hb1.mono (by simp)), ⟨hwr, .inl rfl, World.ownsRow_nil _ _ _ _, World.ownsRow_nil _ _ _ _, fun _ => rfl⟩, by simp at hs1; omega⟩
  clear hd1 hb1 hs1 hwr
  unfold curV
  go_wp2_with fail
  go_loopg [4] L.length (fun m c wr => NormRel w us L.length m c wr)
  case atStart =>
    obtain ⟨q1, q2, q3, q4⟩ := HS.out
    exact ⟨w1.heap.size, k1, n1, t1, ao1, l1, p1, f1, us, Wr.new, _, _, _, rfl, q4, heap_alloc_new w1 _, q1, q3.alloc _, rfl, ⟨by simp [Wr.new, Wr.fl, kp, ip, dp], by simpa [Wr.new, Wr.fl, kp, ip, dp, nums] using hlen, by simpa [Wr.new] using hby⟩, q2.alloc q2.size _⟩
  case round =>
    obtain ⟨bc, kind, n, text, ao2, l2, cap2, fin, ru, W, dv, pa, bv, rfl, hbc, hblk, hcd, hwr, hst, hwb, hB⟩ := hrel
    have c4 : wr.cell? ⟨bc, 4, none⟩ = some (.bool fin) := Lib.cell_of_heap hblk 4
    have HM : Hid (Calls Try.prog 33 #[.pointer (some ⟨bc, 0, none⟩)] wr fun e w' => e = .returned (.bool (!fin)) ∧ w' = wr) := more_any bc 0 wr fin c4
    have HR : Hid (wr.heap[bc]? = some (.cells #[.int .i64 kind, .int .i64 n, .string (bs text), .slice ao2 l2 cap2, .bool fin] 67 (0, 0)) ∧ CD (Vw.plain w) ru gk topE kind n text (.slice ao2 l2 cap2) fin ∧ WrAt w.heap.size W wr dv pa bv ∧ stU W ru = stU Wr.new us ∧ WB L.length W gk ru.length (bytesU ru) ∧ Below w.heap.size w wr) := ⟨hblk, hcd, hwr, hst, hwb, hB⟩
    clear hblk hcd hwr hst hwb hB c4
    go_wp2_with fail
    refine HM.out.mono ?_
    rintro e w2 ⟨rfl, rfl⟩
    cases fin with
    | true =>
      have HW : Hid (Calls Try.prog 38 #[.pointer (some ⟨w.heap.size, 0, none⟩)] w2 fun e w' => ∃ v, e = .returned v ∧ w'.ownsRow w.heap.size 42 3 v W.settle.done.length (rowOf W.settle.done) ∧ Wrote w.heap.size [dv, bv] [v] w2 w' ∧ Below w.heap.size w2 w') := wParts_any _ W _ _ _ _ HR.out.2.2.1 (HR.out.2.2.2.2.1.small hR)
      go_wp2_with fail
      refine HW.out.mono ?_
      rintro e w3 ⟨v', rfl, hv, hw3, hb3⟩
      have HV : Hid (w3.ownsRow w.heap.size 42 3 v' W.settle.done.length (rowOf W.settle.done) ∧ Below w.heap.size w w3) := ⟨hv, HR.out.2.2.2.2.2.trans hb3⟩
      clear hv hw3 hb3
      go_wp2
      go_ret
      have he := HR.out.2.1.ended
      have hst := HR.out.2.2.2.1
      have hwb := HR.out.2.2.2.2.1
      rw [he.1, stU_nil] at hst
      have hn : normU us = W.settle.done := by rw [normU_eq, ← hst]
      refine ⟨v', rfl, ⟨by rw [hn]; exact HV.out.1, ?_⟩, HV.out.2⟩
      have h1 := hwb.fl
      have h2 := settled_done W
      rw [hn]
      have h3 := congrArg List.length (settle_fl W)
      rw [h2, List.length_append] at h3
      omega
    | false =>
      go_wp2_with fail
      refine (whole_cur HR.out.1 HR.out.2.1 HR.out.2.2.2.2.2 (by omega)).mono ?_
      rintro e w3 ⟨rfl, ⟨k', n', t', ao', l', c', f', pu, ru', hblk', hcd', hru, hpc, hn, hm⟩, hb3, hk3⟩
      have hw3 : WrAt w.heap.size W w3 dv pa bv := HR.out.2.2.1.keepX hk3 HR.out.1 (by decide) (by decide) (by omega)
      have hsm : W.Small := HR.out.2.2.2.2.1.small hR
      have HX : Hid (w3.heap[bc]? = some (.cells #[.int .i64 k', .int .i64 n', .string (bs t'), .slice ao' l' c', .bool f'] 67 (0, 0)) ∧ CD (Vw.plain w) ru' (gk - 1) topE k' n' t' (.slice ao' l' c') f' ∧ Below w.heap.size w w3 ∧ WrAt w.heap.size W w3 dv pa bv) := ⟨hblk', hcd', HR.out.2.2.2.2.2.trans (hb3.mono (by omega)), hw3⟩
      have HSM : Hid W.Small := hsm
      have HP : Hid (ru = pu ++ ru' ∧ Pc kind n text pu ∧ stU W ru = stU Wr.new us ∧ WB L.length W gk ru.length (bytesU ru)) := ⟨hru, hpc, HR.out.2.2.2.1, HR.out.2.2.2.2.1⟩
      have hlim : n ≤ 1000000000 ∧ text.length ≤ 1000000000 := by
        have h1 := hpc.len
        have h2 := HR.out.2.2.2.2.1.nu
        have h3 := HR.out.2.2.2.2.1.pu
        rw [hru, List.length_append] at h2
        rw [hru, bytesU_append] at h3
        omega
      have hn1 := hlim.1
      have HTL : Hid (text.length ≤ 1000000000) := hlim.2
      clear hblk' hcd' hru hb3 hk3 hw3 hsm hlim
      rcases hpc with ⟨rfl, _⟩ | ⟨rfl, _⟩ | ⟨rfl, _⟩
      · go_wp2_with fail
        refine ((wKeep_any _ W n _ _ _ _ (HX.out.2.2.2.alloc _) HSM.out hn (by omega)).mono ?_)
        rintro e w4 ⟨rfl, ⟨dv', pa', bv', hW', hwrote⟩, hb4⟩
        have hblk4 := hwrote.cur (HX.out.2.2.2.alloc _) ((Lib.alloc_old _ _ bc (lt_of_blk HX.out.1)).trans HX.out.1) (by decide) (by decide) (by omega)
        have d0 : w4.cell? ⟨bc, 0, none⟩ = some (.int .i64 k') := Lib.cell_of_heap hblk4 0
        have d1 : w4.cell? ⟨bc, 1, none⟩ = some (.int .i64 n') := Lib.cell_of_heap hblk4 1
        have d2 : w4.cell? ⟨bc, 2, none⟩ = some (.string (bs t')) := Lib.cell_of_heap hblk4 2
        have d3 : w4.cell? ⟨bc, 3, none⟩ = some (.slice ao' l' c') := Lib.cell_of_heap hblk4 3
        have d4 : w4.cell? ⟨bc, 4, none⟩ = some (.bool f') := Lib.cell_of_heap hblk4 4
        have HY : Hid (WrAt w.heap.size (W.wrP 1 n text) w4 dv' pa' bv' ∧ Below w.heap.size w w4) := ⟨hW', HX.out.2.2.1.trans (((Below.refl _ _).alloc (by have := HX.out.2.2.1.size; omega) _).trans hb4)⟩
        clear hblk4 hW' hwrote hb4
        go_wp2
        go_roundg (gk - 1)
        case measure => omega
        case rel =>
          refine ⟨w4.heap.size, k', n', t', ao', l', c', f', ru', W.wrP 1 n text, dv', pa', bv', rfl, ?_, heap_alloc_new w4 _, HX.out.2.1, HY.out.1.alloc _, ?_, ?_, HY.out.2.alloc HY.out.2.size _⟩
          · have := lt_of_blk HY.out.1.blk; omega
          · rw [← HP.out.2.2.1, HP.out.1, wrP_st HP.out.2.1]
          · refine WB.step (pu := pu) ?_ HP.out.2.1 hn
            rw [← HP.out.1, Nat.sub_add_cancel hm]
            exact HP.out.2.2.2
      · go_wp2_with fail
        refine ((wDelete_any _ W n _ _ _ _ (HX.out.2.2.2.alloc _) HSM.out (by omega)).mono ?_)
        rintro e w4 ⟨rfl, ⟨dv', pa', bv', hW', hwrote⟩, hb4⟩
        have hblk4 := hwrote.cur (HX.out.2.2.2.alloc _) ((Lib.alloc_old _ _ bc (lt_of_blk HX.out.1)).trans HX.out.1) (by decide) (by decide) (by omega)
        have d0 : w4.cell? ⟨bc, 0, none⟩ = some (.int .i64 k') := Lib.cell_of_heap hblk4 0
        have d1 : w4.cell? ⟨bc, 1, none⟩ = some (.int .i64 n') := Lib.cell_of_heap hblk4 1
        have d2 : w4.cell? ⟨bc, 2, none⟩ = some (.string (bs t')) := Lib.cell_of_heap hblk4 2
        have d3 : w4.cell? ⟨bc, 3, none⟩ = some (.slice ao' l' c') := Lib.cell_of_heap hblk4 3
        have d4 : w4.cell? ⟨bc, 4, none⟩ = some (.bool f') := Lib.cell_of_heap hblk4 4
        have HY : Hid (WrAt w.heap.size (W.wrP 3 n text) w4 dv' pa' bv' ∧ Below w.heap.size w w4) := ⟨hW', HX.out.2.2.1.trans (((Below.refl _ _).alloc (by have := HX.out.2.2.1.size; omega) _).trans hb4)⟩
        clear hblk4 hW' hwrote hb4
        go_wp2
        go_roundg (gk - 1)
        case measure => omega
        case rel =>
          refine ⟨w4.heap.size, k', n', t', ao', l', c', f', ru', W.wrP 3 n text, dv', pa', bv', rfl, ?_, heap_alloc_new w4 _, HX.out.2.1, HY.out.1.alloc _, ?_, ?_, HY.out.2.alloc HY.out.2.size _⟩
          · have := lt_of_blk HY.out.1.blk; omega
          · rw [← HP.out.2.2.1, HP.out.1, wrP_st HP.out.2.1]
          · refine WB.step (pu := pu) ?_ HP.out.2.1 hn
            rw [← HP.out.1, Nat.sub_add_cancel hm]
            exact HP.out.2.2.2
      · go_wp2_with fail
        refine ((wInsert_any _ W text _ _ _ _ (HX.out.2.2.2.alloc _) HSM.out HTL.out).mono ?_)
        rintro e w4 ⟨rfl, ⟨dv', pa', bv', hW', hwrote⟩, hb4⟩
        have hblk4 := hwrote.cur (HX.out.2.2.2.alloc _) ((Lib.alloc_old _ _ bc (lt_of_blk HX.out.1)).trans HX.out.1) (by decide) (by decide) (by omega)
        have d0 : w4.cell? ⟨bc, 0, none⟩ = some (.int .i64 k') := Lib.cell_of_heap hblk4 0
        have d1 : w4.cell? ⟨bc, 1, none⟩ = some (.int .i64 n') := Lib.cell_of_heap hblk4 1
        have d2 : w4.cell? ⟨bc, 2, none⟩ = some (.string (bs t')) := Lib.cell_of_heap hblk4 2
        have d3 : w4.cell? ⟨bc, 3, none⟩ = some (.slice ao' l' c') := Lib.cell_of_heap hblk4 3
        have d4 : w4.cell? ⟨bc, 4, none⟩ = some (.bool f') := Lib.cell_of_heap hblk4 4
        have HY : Hid (WrAt w.heap.size (W.wrP 2 n text) w4 dv' pa' bv' ∧ Below w.heap.size w w4) := ⟨hW', HX.out.2.2.1.trans (((Below.refl _ _).alloc (by have := HX.out.2.2.1.size; omega) _).trans hb4)⟩
        clear hblk4 hW' hwrote hb4
        go_wp2
        go_roundg (gk - 1)
        case measure => omega
        case rel =>
          refine ⟨w4.heap.size, k', n', t', ao', l', c', f', ru', W.wrP 2 n text, dv', pa', bv', rfl, ?_, heap_alloc_new w4 _, HX.out.2.1, HY.out.1.alloc _, ?_, ?_, HY.out.2.alloc HY.out.2.size _⟩
          · have := lt_of_blk HY.out.1.blk; omega
          · rw [← HP.out.2.2.1, HP.out.1, wrP_st HP.out.2.1]
          · refine WB.step (pu := pu) ?_ HP.out.2.1 hn
            rw [← HP.out.1, Nat.sub_add_cancel hm]
            exact HP.out.2.2.2

end Go.Proofs.Ytgoaihpaajchaaa
