/-
  parts.Writer: Keep, Insert, Delete, Parts; parts.Normal; ops.Normal.
-/
import Derived.Test.YtnlafahfcmmehaaWalks6
namespace Go.Proofs.Ytnlafahfcmmehaa
open Go.RowKit

set_option maxHeartbeats 400000 in
theorem settle_nop (b : Nat) (W : Wr) (w : World) (dv pa bv : Value) (h : WrAt b W w dv pa bv) (hput : W.put = [] ∧ W.gone = 0) :
    Calls Try.prog 69 #[.pointer (some ⟨b, 0, none⟩)] w fun e w' => e = .returned (.tuple #[]) ∧ w' = w := by
  have H : Hid (WrAt b W w dv pa bv) := h
  have c4 : w.cell? ⟨b, 4, none⟩ = some (.int .i64 0) := by have := Lib.cell_of_heap h.blk 4; rw [hput.2] at this; exact this
  have q1 : ((W.put.length : Int) == 0) = true := by rw [hput.1]; rfl
  clear h hput
  go_enter Try.func69, Try.ntmps69
  go_wp2_with (go_at_call 85; refine (bLen_any H.out.bld).mono ?_; rintro e w' ⟨rfl, rfl⟩)
  exact bodyPost_ret (results_none rfl _ _ _) rfl ⟨rfl, rfl⟩

theorem settle_all (b : Nat) (W : Wr) (w : World) (dv pa bv : Value) (h : WrAt b W w dv pa bv) (hs : W.Small) :
    Calls Try.prog 69 #[.pointer (some ⟨b, 0, none⟩)] w fun e w' => e = .returned (.tuple #[]) ∧ (∃ dv pa bv, WrAt b W.settle w' dv pa bv) ∧ Below b w w' := by
  by_cases hp : W.put = [] ∧ W.gone = 0
  · refine (settle_nop b W w dv pa bv h hp).mono ?_
    rintro e w' ⟨rfl, rfl⟩
    exact ⟨rfl, ⟨dv, pa, bv, by rw [Wr.settle, if_pos hp]; exact h⟩, Below.refl _ _⟩
  · exact settle_any b W w dv pa bv h hs hp

set_option maxHeartbeats 400000 in
theorem wKeep_any (b : Nat) (W : Wr) (n : Nat) (w : World) (dv pa bv : Value) (h : WrAt b W w dv pa bv) (hs : W.Small) (hn : 1 ≤ n) (hn2 : n ≤ 1000000000) :
    Calls Try.prog 33 #[.pointer (some ⟨b, 0, none⟩), .int .i64 n] w fun e w' => e = .returned (.tuple #[]) ∧ (∃ dv pa bv, WrAt b (W.keep n) w' dv pa bv) ∧ Below b w w' := by
  have H : Hid (WrAt b W w dv pa bv) := h
  have HS : Hid W.Small := hs
  have hn0 : ((n : Int) == 0) = false := beq_eq_false_iff_ne.2 (by omega)
  have hsk : W.settle.kept ≤ 1000000000 := by
    unfold Wr.settle
    split
    · exact hs.kept
    · exact Nat.zero_le _
  clear h hs
  go_enter Try.func33, Try.ntmps33
  go_wp2_with fail
  refine (settle_all b W w dv pa bv H.out HS.out).mono ?_
  rintro e w1 ⟨rfl, ⟨dv1, pa1, bv1, h1⟩, hb1⟩
  have H1 : Hid (WrAt b W.settle w1 dv1 pa1 bv1 ∧ Below b w w1) := ⟨h1, hb1⟩
  have c1 : w1.cell? ⟨b, 1, none⟩ = some (.int .i64 W.settle.kept) := Lib.cell_of_heap h1.blk 1
  have f1 : w1.frozen? ⟨b, 1, none⟩ = false := Lib.frozen_of_heap h1.blk 1
  clear h1 hb1
  go_wp2
  go_end0
  obtain ⟨h1, hb1⟩ := H1.out
  have hk : W.keep n = ⟨W.settle.done, W.settle.kept + n, W.settle.put, W.settle.gone⟩ := by rw [Wr.keep, if_neg (by omega)]
  refine ⟨rfl, ⟨dv1, pa1, bv1, ?_⟩, hb1.setCell (p := ⟨b, 1, none⟩) (Nat.le_refl _) _⟩
  rw [hk]
  refine ⟨?_, h1.adr, own_set h1.row (own_ne h1.row h1.blk (by decide)) _ _, own_set h1.buf (own_ne h1.buf h1.blk (by decide)) _ _, h1.non⟩
  have := block_set h1.blk 1 (.int .i64 ((W.settle.kept : Int) + (n : Int)))
  simpa using this

set_option maxHeartbeats 400000 in
theorem wDelete_any (b : Nat) (W : Wr) (n : Nat) (w : World) (dv pa bv : Value) (h : WrAt b W w dv pa bv) (hs : W.Small) (hn2 : n ≤ 1000000000) :
    Calls Try.prog 35 #[.pointer (some ⟨b, 0, none⟩), .int .i64 n] w fun e w' => e = .returned (.tuple #[]) ∧ (∃ dv pa bv, WrAt b { W with gone := W.gone + n } w' dv pa bv) ∧ Below b w w' := by
  have H1 : Hid (WrAt b W w dv pa bv) := h
  have hg := hs.gone
  have c1 : w.cell? ⟨b, 4, none⟩ = some (.int .i64 W.gone) := Lib.cell_of_heap h.blk 4
  have f1 : w.frozen? ⟨b, 4, none⟩ = false := Lib.frozen_of_heap h.blk 4
  clear h hs
  go_enter Try.func35, Try.ntmps35
  go_wp2
  go_end0
  have h1 := H1.out
  refine ⟨rfl, ⟨dv, pa, bv, ?_⟩, (Below.refl _ _).setCell (p := ⟨b, 4, none⟩) (Nat.le_refl _) _⟩
  refine ⟨?_, h1.adr, own_set h1.row (own_ne h1.row h1.blk (by decide)) _ _, own_set h1.buf (own_ne h1.buf h1.blk (by decide)) _ _, h1.non⟩
  have := block_set h1.blk 4 (.int .i64 ((W.gone : Int) + (n : Int)))
  simpa using this

set_option maxHeartbeats 400000 in
theorem wInsert_any (b : Nat) (W : Wr) (t : List UInt8) (w : World) (dv pa bv : Value) (h : WrAt b W w dv pa bv) (hs : W.Small) (hn2 : t.length ≤ 1000000000) :
    Calls Try.prog 34 #[.pointer (some ⟨b, 0, none⟩), .string (bs t)] w fun e w' => e = .returned (.tuple #[]) ∧ (∃ dv pa bv, WrAt b { W with put := W.put ++ t } w' dv pa bv) ∧ Below b w w' := by
  have H1 : Hid (WrAt b W w dv pa bv) := h
  have hp := hs.put
  clear h hs
  go_enter Try.func34, Try.ntmps34
  go_wp2_with fail
  refine (writeString_any t H1.out.bld writerPlace (by omega)).mono ?_
  rintro e w1 ⟨rfl, ⟨v', h2⟩, hb, hk⟩
  go_wp2
  go_end0
  have h1 := H1.out
  refine ⟨rfl, ⟨dv, .pointer (some ⟨b, 2, none⟩), v', ?_⟩, hb⟩
  obtain ⟨v2, e2, r2, n2⟩ := h2.buf
  have e3 : v2 = v' := by simpa using e2.symm
  subst e3
  refine ⟨?_, .inr rfl, row_others h1.row h1.blk hk, r2, n2⟩
  have := h2.blk
  simpa using this

set_option maxHeartbeats 400000 in
theorem wParts_any (b : Nat) (W : Wr) (w : World) (dv pa bv : Value) (h : WrAt b W w dv pa bv) (hs : W.Small) :
    Calls Try.prog 36 #[.pointer (some ⟨b, 0, none⟩)] w fun e w' => ∃ v, e = .returned v ∧ PartsAt w' v W.settle.done ∧ Below b w w' := by
  have H : Hid (WrAt b W w dv pa bv) := h
  have HS : Hid W.Small := hs
  clear h hs
  go_enter Try.func36, Try.ntmps36
  go_wp2_with fail
  refine (settle_all b W w dv pa bv H.out HS.out).mono ?_
  rintro e w1 ⟨rfl, ⟨dv1, pa1, bv1, h1⟩, hb1⟩
  have H1 : Hid (WrAt b W.settle w1 dv1 pa1 bv1 ∧ Below b w w1) := ⟨h1, hb1⟩
  have c0 : w1.cell? ⟨b, 0, none⟩ = some dv1 := Lib.cell_of_heap h1.blk 0
  have c1 : w1.cell? ⟨b, 1, none⟩ = some (.int .i64 W.settle.kept) := Lib.cell_of_heap h1.blk 1
  have c2 : w1.cell? ⟨b, 2, none⟩ = some pa1 := Lib.cell_of_heap h1.blk 2
  have c3 : w1.cell? ⟨b, 3, none⟩ = some bv1 := Lib.cell_of_heap h1.blk 3
  have c4 : w1.cell? ⟨b, 4, none⟩ = some (.int .i64 W.settle.gone) := Lib.cell_of_heap h1.blk 4
  have f0 : w1.frozen? ⟨b, 0, none⟩ = false := Lib.frozen_of_heap h1.blk 0
  have f1 : w1.frozen? ⟨b, 1, none⟩ = false := Lib.frozen_of_heap h1.blk 1
  have f2 : w1.frozen? ⟨b, 2, none⟩ = false := Lib.frozen_of_heap h1.blk 2
  have f3 : w1.frozen? ⟨b, 3, none⟩ = false := Lib.frozen_of_heap h1.blk 3
  have f4 : w1.frozen? ⟨b, 4, none⟩ = false := Lib.frozen_of_heap h1.blk 4
  clear h1 hb1
  go_wp2
  go_ret
  obtain ⟨h1, hb1⟩ := H1.out
  have hne := own_ne h1.row h1.blk (by decide)
  refine ⟨dv1, rfl, parts_of_row (own_set (own_set (own_set (own_set (own_set h1.row hne _ _) hne _ _) hne _ _) hne _ _) hne _ _), ?_⟩
  exact ((((hb1.setCell (p := ⟨b, 0, none⟩) (Nat.le_refl _) _).setCell (p := ⟨b, 1, none⟩) (Nat.le_refl _) _).setCell (p := ⟨b, 2, none⟩) (Nat.le_refl _) _).setCell (p := ⟨b, 3, none⟩) (Nat.le_refl _) _).setCell (p := ⟨b, 4, none⟩) (Nat.le_refl _) _

/-- how many bytes all texts have. -/
def tlen (L : List Pt) : Nat := (L.map (fun p => p.text.length)).sum
theorem tlen_append (A B : List Pt) : tlen (A ++ B) = tlen A + tlen B := by simp [tlen]
theorem tlen_take_le (L : List Pt) (k : Nat) : tlen (L.take k) ≤ tlen L := by
  conv => rhs; rw [← List.take_append_drop k L]
  rw [tlen_append]; omega

theorem settle_put_le (w : Wr) : w.settle.put.length ≤ w.put.length := by
  unfold Wr.settle
  split
  · exact Nat.le_refl _
  · simp

theorem steps_put (L : List Pt) : ∀ w : Wr, (steps w L).put.length ≤ w.put.length + tlen L := by
  induction L with
  | nil => intro w; simp [steps, tlen]
  | cons p L ih =>
    intro w
    have := ih (w.step p)
    rw [show steps w (p :: L) = steps (w.step p) L from rfl]
    have h2 : (w.step p).put.length ≤ w.put.length + p.text.length := by
      unfold Wr.step
      split
      · unfold Wr.keep
        split
        · omega
        · have := settle_put_le w; simp only; omega
      · split
        · simp
        · split
          · simp only; omega
          · omega
    simp only [tlen, List.map_cons, List.sum_cons] at *
    omega

structure Fit (L : List Pt) : Prop where
  len : L.length ≤ 1000
  right : ∀ p ∈ L, Right p
  numsLe : nums L ≤ 1000000
  textsLe : tlen L ≤ 1000000

theorem Fit.small {L : List Pt} (h : Fit L) (k : Nat) : (steps Wr.new (L.take k)).Small := by
  have hr : ∀ p ∈ L.take k, Right p := fun p hp => h.right p (List.mem_of_mem_take hp)
  obtain ⟨a, b⟩ := steps_size (L.take k) Wr.new hr
  have e : Wr.new.fl = [] := by simp [Wr.new, Wr.fl, kp, ip, dp]
  rw [e] at a b
  have c := steps_put (L.take k) Wr.new
  have d := tlen_take_le L k
  have f := nums_take_le L k
  have g : (L.take k).length ≤ L.length := List.length_take_le' _ _
  have h1 := h.len; have h2 := h.numsLe; have h3 := h.textsLe
  rw [nums_fl] at a
  have i : (steps Wr.new (L.take k)).done.length ≤ (steps Wr.new (L.take k)).fl.length := by simp only [Wr.fl, List.length_append]; omega
  have j : nums ([] : List Pt) = 0 := rfl
  have l : Wr.new.put.length = 0 := rfl
  simp only [List.length_nil] at b
  exact ⟨by omega, by omega, by omega, by omega⟩

theorem steps_take_succ (L : List Pt) (k : Nat) (h : k < L.length) (w : Wr) : steps w (L.take (k + 1)) = (steps w (L.take k)).step L[k] := by
  rw [List.take_succ_eq_append_getElem h, steps, List.foldl_append]; rfl

set_option maxHeartbeats 1000000 in
set_option maxRecDepth 100000 in
theorem pNormal_any (v : Value) (L : List Pt) (w : World) (hp : PartsAt w v L) (hf : Fit L) :
    Calls Try.prog 21 #[v] w fun e w' => ∃ v', e = .returned v' ∧ PartsAt w' v' (norm L) ∧ Below w.heap.size w w' := by
  obtain ⟨ao, cap, rfl, hc⟩ := hp
  have HF : Hid (Fit L) := hf
  have hL := hf.len
  clear hf
  go_enter Try.func21, Try.ntmps21
  go_wp2
  go_loopw [8] (fun i wr => ∃ k : Nat, k ≤ L.length ∧ i = .int .i64 k ∧ (∃ dv pa bv, WrAt w.heap.size (steps Wr.new (L.take k)) wr dv pa bv) ∧ Below w.heap.size w wr) (fun i _ => L.length - (intOf i).toNat)
  case atStart => exact ⟨0, Nat.zero_le _, rfl, ⟨.slice none 0 0, .pointer none, .slice none 0 0, heap_alloc_new w _, .inl rfl, World.ownsRow_nil _ _ _ _, World.ownsRow_nil _ _ _ _, fun _ => rfl⟩, (Below.refl _ _).alloc (Nat.le_refl _) _⟩
  case round =>
    obtain ⟨k, hk, rfl, ⟨dv, pa, bv, hw⟩, hB⟩ := hrel
    have HW : Hid (WrAt w.heap.size (steps Wr.new (L.take k)) wr dv pa bv) := hw
    have hlw := lt_of_blk hw.blk
    have HM : Hid ((steps Wr.new (L.take k)).Small) := HF.out.small k
    clear hw
    by_cases hlt : k < L.length
    · obtain ⟨b, off, rfl, hbl, hcc⟩ := hc (by omega)
      obtain ⟨c0, c1, c2⟩ := hcc k hlt
      rw [← hB.cell (p := ⟨b, _, none⟩) hbl] at c0 c1 c2
      clear hcc hc
      have HS := steps_take_succ L k hlt Wr.new
      have hnum : L[k].num ≤ 1000000 := Nat.le_trans (le_nums (List.getElem_mem hlt)) HF.out.numsLe
      have htx : L[k].text.length ≤ 1000000 := by
        have h1 := tlen_take_le L (k + 1)
        have h2 := HF.out.textsLe
        rw [List.take_succ_eq_append_getElem hlt, tlen_append] at h1
        have h3 : tlen [L[k]] = L[k].text.length := by simp [tlen]
        omega
      have hup : ∀ o, WrAt w.heap.size (steps Wr.new (L.take k)) (wr.alloc o) dv pa bv := fun o => ⟨(Lib.alloc_old wr o _ hlw).trans HW.out.blk, HW.out.adr, HW.out.row.alloc o, HW.out.buf.alloc o, HW.out.non⟩
      have HU : Hid (∀ o, WrAt w.heap.size (steps Wr.new (L.take k)) (wr.alloc o) dv pa bv) := hup
      have HST : Hid (steps Wr.new (L.take (k + 1)) = (steps Wr.new (L.take k)).step L[k]) := HS
      clear hup HS
      rcases HF.out.right L[k] (List.getElem_mem hlt) with ⟨a1, a2, a3, a4⟩ | ⟨a1, a2, a3⟩ | ⟨a1, a2, a3, a4⟩
      · rw [a1] at c0
        have HK : Hid ((steps Wr.new (L.take k)).step L[k] = (steps Wr.new (L.take k)).keep L[k].num) := by show _ = _; rw [Wr.step, if_pos a1]
        clear a1 a4
        go_wp2_with (go_at_call 33; refine (wKeep_any _ _ L[k].num _ _ _ _ (HU.out _) HM.out a2 (by omega)).mono ?_; rintro e w2 ⟨rfl, hw2, hb2⟩)
        go_roundw
        case rel => exact ⟨k + 1, by omega, by go_num, by rw [HST.out, HK.out]; exact hw2, (hB.alloc (by omega) _).trans hb2⟩
        case measure => simp [intOf]; omega
      · rw [a1] at c0
        have HK : Hid ((steps Wr.new (L.take k)).step L[k] = { steps Wr.new (L.take k) with put := (steps Wr.new (L.take k)).put ++ L[k].text }) := by show _ = _; rw [Wr.step, if_neg (by omega), if_pos a1]
        clear a1 a2 a3
        go_wp2_with (go_at_call 34; refine (wInsert_any _ _ L[k].text _ _ _ _ (HU.out _) HM.out (by omega)).mono ?_; rintro e w2 ⟨rfl, hw2, hb2⟩)
        go_roundw
        case rel => exact ⟨k + 1, by omega, by go_num, by rw [HST.out, HK.out]; exact hw2, (hB.alloc (by omega) _).trans hb2⟩
        case measure => simp [intOf]; omega
      · rw [a1] at c0
        have HK : Hid ((steps Wr.new (L.take k)).step L[k] = { steps Wr.new (L.take k) with gone := (steps Wr.new (L.take k)).gone + L[k].num }) := by show _ = _; rw [Wr.step, if_neg (by omega), if_neg (by omega), if_pos a1]
        clear a1 a4
        go_wp2_with (go_at_call 35; refine (wDelete_any _ _ L[k].num _ _ _ _ (HU.out _) HM.out (by omega)).mono ?_; rintro e w2 ⟨rfl, hw2, hb2⟩)
        go_roundw
        case rel => exact ⟨k + 1, by omega, by go_num, by rw [HST.out, HK.out]; exact hw2, (hB.alloc (by omega) _).trans hb2⟩
        case measure => simp [intOf]; omega
    · have hkk : k = L.length := by omega
      subst hkk
      go_wp2_with (go_at_call 36; refine (wParts_any _ _ _ _ _ _ HW.out HM.out).mono ?_; rintro e w2 ⟨v', rfl, hv, hb2⟩)
      go_ret
      refine ⟨v', rfl, ?_, hB.trans hb2⟩
      rw [List.take_length] at hv
      exact hv

end Go.Proofs.Ytnlafahfcmmehaa
