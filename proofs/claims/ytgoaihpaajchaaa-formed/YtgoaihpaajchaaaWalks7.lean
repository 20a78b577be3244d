/-
  parts.Writer: Keep, Insert, Delete, Parts, and which blocks they write.
-/
import Derived.Test.YtgoaihpaajchaaaWalks6
namespace Go.Proofs.Ytgoaihpaajchaaa
open Go.RowKit

set_option maxHeartbeats 400000 in
theorem settle_nop (b : Nat) (W : Wr) (w : World) (dv pa bv : Value) (h : WrAt b W w dv pa bv) (hput : W.put = [] ∧ W.gone = 0) :
    Calls Try.prog 50 #[.pointer (some ⟨b, 0, none⟩)] w fun e w' => e = .returned (.tuple #[]) ∧ w' = w := by
  have H : Hid (WrAt b W w dv pa bv) := h
  have c4 : w.cell? ⟨b, 4, none⟩ = some (.int .i64 0) := by have := Lib.cell_of_heap h.blk 4; rw [hput.2] at this; exact this
  have q1 : ((W.put.length : Int) == 0) = true := by rw [hput.1]; rfl
  clear h hput
  go_enter Try.func50, Try.ntmps50
  go_wp2_with (go_at_call 54; refine (bLen_any H.out.bld).mono ?_; rintro e w' ⟨rfl, rfl⟩)
  exact bodyPost_ret (results_none rfl _ _ _) rfl ⟨rfl, rfl⟩

theorem settle_all (b : Nat) (W : Wr) (w : World) (dv pa bv : Value) (h : WrAt b W w dv pa bv) (hs : W.Small) :
    Calls Try.prog 50 #[.pointer (some ⟨b, 0, none⟩)] w fun e w' => e = .returned (.tuple #[]) ∧ (∃ dv' pa' bv', WrAt b W.settle w' dv' pa' bv' ∧ Wrote b [dv, bv] [dv', bv'] w w') ∧ Below b w w' := by
  by_cases hp : W.put = [] ∧ W.gone = 0
  · refine (settle_nop b W w dv pa bv h hp).mono ?_
    rintro e w' ⟨rfl, rfl⟩
    exact ⟨rfl, ⟨dv, pa, bv, by rw [Wr.settle, if_pos hp]; exact h, Wrote.refl _ _ _⟩, Below.refl _ _⟩
  · exact settle_any b W w dv pa bv h hs hp

set_option maxHeartbeats 400000 in
theorem wKeep_any (b : Nat) (W : Wr) (n : Nat) (w : World) (dv pa bv : Value) (h : WrAt b W w dv pa bv) (hs : W.Small) (hn : 1 ≤ n) (hn2 : n ≤ 1000000000) :
    Calls Try.prog 35 #[.pointer (some ⟨b, 0, none⟩), .int .i64 n] w fun e w' => e = .returned (.tuple #[]) ∧ (∃ dv' pa' bv', WrAt b (W.keep n) w' dv' pa' bv' ∧ Wrote b [dv, bv] [dv', bv'] w w') ∧ Below b w w' := by
  have H : Hid (WrAt b W w dv pa bv) := h
  have HS : Hid W.Small := hs
  have hn0 : ((n : Int) == 0) = false := beq_eq_false_iff_ne.2 (by omega)
  have hsk : W.settle.kept ≤ 1000000000 := by
    unfold Wr.settle
    split
    · exact hs.kept
    · exact Nat.zero_le _
  clear h hs
  go_enter Try.func35, Try.ntmps35
  go_wp2_with fail
  refine (settle_all b W w dv pa bv H.out HS.out).mono ?_
  rintro e w1 ⟨rfl, ⟨dv1, pa1, bv1, h1, hw1⟩, hb1⟩
  have HW1 : Hid (Wrote b [dv, bv] [dv1, bv1] w w1) := hw1
  clear hw1
  have H1 : Hid (WrAt b W.settle w1 dv1 pa1 bv1 ∧ Below b w w1) := ⟨h1, hb1⟩
  have c1 : w1.cell? ⟨b, 1, none⟩ = some (.int .i64 W.settle.kept) := Lib.cell_of_heap h1.blk 1
  have f1 : w1.frozen? ⟨b, 1, none⟩ = false := Lib.frozen_of_heap h1.blk 1
  clear h1 hb1
  go_wp2
  go_end0
  obtain ⟨h1, hb1⟩ := H1.out
  have hk : W.keep n = ⟨W.settle.done, W.settle.kept + n, W.settle.put, W.settle.gone⟩ := by rw [Wr.keep, if_neg (by omega)]
  refine ⟨rfl, ⟨dv1, pa1, bv1, ?_, HW1.out.setCell _ _⟩, hb1.setCell (p := ⟨b, 1, none⟩) (Nat.le_refl _) _⟩
  rw [hk]
  refine ⟨?_, h1.adr, own_set h1.row (own_ne h1.row h1.blk (by decide)) _ _, own_set h1.buf (own_ne h1.buf h1.blk (by decide)) _ _, h1.non⟩
  have := block_set h1.blk 1 (.int .i64 ((W.settle.kept : Int) + (n : Int)))
  simpa using this

set_option maxHeartbeats 400000 in
theorem wDelete_any (b : Nat) (W : Wr) (n : Nat) (w : World) (dv pa bv : Value) (h : WrAt b W w dv pa bv) (hs : W.Small) (hn2 : n ≤ 1000000000) :
    Calls Try.prog 37 #[.pointer (some ⟨b, 0, none⟩), .int .i64 n] w fun e w' => e = .returned (.tuple #[]) ∧ (∃ dv' pa' bv', WrAt b { W with gone := W.gone + n } w' dv' pa' bv' ∧ Wrote b [dv, bv] [dv', bv'] w w') ∧ Below b w w' := by
  have H1 : Hid (WrAt b W w dv pa bv) := h
  have hg := hs.gone
  have c1 : w.cell? ⟨b, 4, none⟩ = some (.int .i64 W.gone) := Lib.cell_of_heap h.blk 4
  have f1 : w.frozen? ⟨b, 4, none⟩ = false := Lib.frozen_of_heap h.blk 4
  clear h hs
  go_enter Try.func37, Try.ntmps37
  go_wp2
  go_end0
  have h1 := H1.out
  refine ⟨rfl, ⟨dv, pa, bv, ?_, (Wrote.refl _ _ _).setCell _ _⟩, (Below.refl _ _).setCell (p := ⟨b, 4, none⟩) (Nat.le_refl _) _⟩
  refine ⟨?_, h1.adr, own_set h1.row (own_ne h1.row h1.blk (by decide)) _ _, own_set h1.buf (own_ne h1.buf h1.blk (by decide)) _ _, h1.non⟩
  have := block_set h1.blk 4 (.int .i64 ((W.gone : Int) + (n : Int)))
  simpa using this

set_option maxHeartbeats 400000 in
theorem wInsert_any (b : Nat) (W : Wr) (t : List UInt8) (w : World) (dv pa bv : Value) (h : WrAt b W w dv pa bv) (hs : W.Small) (hn2 : t.length ≤ 1000000000) :
    Calls Try.prog 36 #[.pointer (some ⟨b, 0, none⟩), .string (bs t)] w fun e w' => e = .returned (.tuple #[]) ∧ (∃ dv' pa' bv', WrAt b { W with put := W.put ++ t } w' dv' pa' bv' ∧ Wrote b [dv, bv] [dv', bv'] w w') ∧ Below b w w' := by
  have H1 : Hid (WrAt b W w dv pa bv) := h
  have hp := hs.put
  clear h hs
  go_enter Try.func36, Try.ntmps36
  go_wp2_with fail
  refine (writeString_any t H1.out.bld writerPlace (by omega)).mono ?_
  rintro e w1 ⟨rfl, ⟨v', h2, hw2⟩, hb, hk⟩
  have HW2 : Hid (∀ v, (#[dv, .int .i64 W.kept, pa, bv, .int .i64 W.gone] : Array Value)[2 + 1]? = some v → Wrote b [v] [v'] w w1) := hw2
  clear hw2
  go_wp2
  go_end0
  have h1 := H1.out
  refine ⟨rfl, ⟨dv, .pointer (some ⟨b, 2, none⟩), v', ?_, (HW2.out bv rfl).more⟩, hb⟩
  obtain ⟨v2, e2, r2, n2⟩ := h2.buf
  have e3 : v2 = v' := by simpa using e2.symm
  subst e3
  refine ⟨?_, .inr rfl, row_others h1.row h1.blk hk, r2, n2⟩
  have := h2.blk
  simpa using this

set_option maxHeartbeats 400000 in
theorem wParts_any (b : Nat) (W : Wr) (w : World) (dv pa bv : Value) (h : WrAt b W w dv pa bv) (hs : W.Small) :
    Calls Try.prog 38 #[.pointer (some ⟨b, 0, none⟩)] w fun e w' => ∃ v, e = .returned v ∧ w'.ownsRow b 42 3 v W.settle.done.length (rowOf W.settle.done) ∧ Wrote b [dv, bv] [v] w w' ∧ Below b w w' := by
  have H : Hid (WrAt b W w dv pa bv) := h
  have HS : Hid W.Small := hs
  clear h hs
  go_enter Try.func38, Try.ntmps38
  go_wp2_with fail
  refine (settle_all b W w dv pa bv H.out HS.out).mono ?_
  rintro e w1 ⟨rfl, ⟨dv1, pa1, bv1, h1, hw1⟩, hb1⟩
  have HW1 : Hid (Wrote b [dv, bv] [dv1, bv1] w w1) := hw1
  clear hw1
  have H1 : Hid (WrAt b W.settle w1 dv1 pa1 bv1 ∧ Below b w w1) := ⟨h1, hb1⟩
  have c0 : w1.cell? ⟨b, 0, none⟩ = some dv1 := Lib.cell_of_heap h1.blk 0
  have c1 : w1.cell? ⟨b, 1, none⟩ = some (.int .i64 W.settle.kept) := Lib.cell_of_heap h1.blk 1
  have c2 : w1.cell? ⟨b, 2, none⟩ = some pa1 := Lib.cell_of_heap h1.blk 2
  have c3 : w1.cell? ⟨b, 3, none⟩ = some bv1 := Lib.cell_of_heap h1.blk 3
  have c4 : w1.cell? ⟨b, 4, none⟩ = some (.int .i64 W.settle.gone) := Lib.cell_of_heap h1.blk 4
  have f0 : w1.frozen? ⟨b, 0, none⟩ = false := Lib.frozen_of_heap h1.blk 0
  have f1 : w1.frozen? ⟨b, 1, none⟩ = false := Lib.frozen_of_heap h1.blk 1
  have f2 : w1.frozen? ⟨b, 2, none⟩ = false := Lib.frozen_of_heap h1.blk 2
  have f3 : w1.frozen? ⟨b, 3, none⟩ = false := Lib.frozen_of_heap h1.blk 3
  have f4 : w1.frozen? ⟨b, 4, none⟩ = false := Lib.frozen_of_heap h1.blk 4
  clear h1 hb1
  go_wp2
  go_ret
  obtain ⟨h1, hb1⟩ := H1.out
  have hne := own_ne h1.row h1.blk (by decide)
  refine ⟨dv1, rfl, own_set (own_set (own_set (own_set (own_set h1.row hne _ _) hne _ _) hne _ _) hne _ _) hne _ _, ?_, ?_⟩
  · exact ((((((HW1.out.sub (fun v hv => .inl (by simp only [List.mem_singleton] at hv; simp [hv]))).setCell _ _).setCell _ _).setCell _ _).setCell _ _).setCell _ _)
  exact ((((hb1.setCell (p := ⟨b, 0, none⟩) (Nat.le_refl _) _).setCell (p := ⟨b, 1, none⟩) (Nat.le_refl _) _).setCell (p := ⟨b, 2, none⟩) (Nat.le_refl _) _).setCell (p := ⟨b, 3, none⟩) (Nat.le_refl _) _).setCell (p := ⟨b, 4, none⟩) (Nat.le_refl _) _

/-- how many bytes all texts have. -/
def tlen (L : List Pt) : Nat := (L.map (fun p => p.text.length)).sum
theorem tlen_append (A B : List Pt) : tlen (A ++ B) = tlen A + tlen B := by simp [tlen]
theorem tlen_take_le (L : List Pt) (k : Nat) : tlen (L.take k) ≤ tlen L := by
  conv => rhs; rw [← List.take_append_drop k L]
  rw [tlen_append]; omega

theorem settle_put_le (w : Wr) : w.settle.put.length ≤ w.put.length := by
  unfold Wr.settle
  split
  · exact Nat.le_refl _
  · simp

theorem steps_put (L : List Pt) : ∀ w : Wr, (steps w L).put.length ≤ w.put.length + tlen L := by
  induction L with
  | nil => intro w; simp [steps, tlen]
  | cons p L ih =>
    intro w
    have := ih (w.step p)
    rw [show steps w (p :: L) = steps (w.step p) L from rfl]
    have h2 : (w.step p).put.length ≤ w.put.length + p.text.length := by
      unfold Wr.step
      split
      · unfold Wr.keep
        split
        · omega
        · have := settle_put_le w; simp only; omega
      · split
        · simp
        · split
          · simp only; omega
          · omega
    simp only [tlen, List.map_cons, List.sum_cons] at *
    omega

structure Fit (L : List Pt) : Prop where
  len : L.length ≤ 1000
  right : ∀ p ∈ L, Right p
  numsLe : nums L ≤ 1000000
  textsLe : tlen L ≤ 1000000

theorem Fit.small {L : List Pt} (h : Fit L) (k : Nat) : (steps Wr.new (L.take k)).Small := by
  have hr : ∀ p ∈ L.take k, Right p := fun p hp => h.right p (List.mem_of_mem_take hp)
  obtain ⟨a, b⟩ := steps_size (L.take k) Wr.new hr
  have e : Wr.new.fl = [] := by simp [Wr.new, Wr.fl, kp, ip, dp]
  rw [e] at a b
  have c := steps_put (L.take k) Wr.new
  have d := tlen_take_le L k
  have f := nums_take_le L k
  have g : (L.take k).length ≤ L.length := List.length_take_le' _ _
  have h1 := h.len; have h2 := h.numsLe; have h3 := h.textsLe
  rw [nums_fl] at a
  have i : (steps Wr.new (L.take k)).done.length ≤ (steps Wr.new (L.take k)).fl.length := by simp only [Wr.fl, List.length_append]; omega
  have j : nums ([] : List Pt) = 0 := rfl
  have l : Wr.new.put.length = 0 := rfl
  simp only [List.length_nil] at b
  exact ⟨by omega, by omega, by omega, by omega⟩

theorem steps_take_succ (L : List Pt) (k : Nat) (h : k < L.length) (w : Wr) : steps w (L.take (k + 1)) = (steps w (L.take k)).step L[k] := by
  rw [List.take_succ_eq_append_getElem h, steps, List.foldl_append]; rfl

end Go.Proofs.Ytgoaihpaajchaaa
