/-
  quilllaw.lent: a list of parts, with more of the caller's behind it.
  quilllaw.whole: what was lent is as it was; then the caller writes into it.
-/
import Derived.Test.YtpiankiacbghcaaRProg
import Derived.Laws.MakeOwn
import Derived.Laws.CopyOwn
namespace Go.Proofs.Ytpiankiacbghcaa
open Go.RowKit

/-- copy, of elements of k cells. -/
theorem run_copy_wide {P : Program} (w : World) (dT sT ty elem : TypeId) (k g o dLen dCap : Nat) (a : Addr) (sLen sCap : Nat) (cur : Array Value) (t : TypeId) (cs : List Value)
    (hu : P.underlying dT = some (.slice elem)) (hs : (P.info? elem).map (·.size) = some k)
    (hg : w.heap[g]? = some (.cells cur t (0, 0))) (hn : cs.length = Nat.min sLen dLen * k)
    (hsrc : ∀ j v, cs[j]? = some v → w.cell? (a.add j) = some v) (hfit : o + cs.length ≤ cur.size) (h1 : ∀ v ∈ cs, v.oneCell' = true) :
    (Builtin.copy_ #[dT, sT] ty #[.slice (some ⟨g, o, none⟩) dLen dCap, .slice (some a) sLen sCap]).run P w =
      .ok (goInt (Nat.min sLen dLen)) (w.setRow g (cur.toList.take o ++ cs ++ cur.toList.drop (o + cs.length)).toArray) := by
  have hl := run_loadCells_list (P := P) w a cs hsrc
  have hst := run_storeCells_at P g o t cs 0 cur w hg (by simpa using hfit) h1
  cases hq : P.info? elem with
  | none => simp [hq] at hs
  | some i =>
    have hi : i.size = k := by simpa [hq] using hs
    simp [Builtin.copy_, run_underlying hu, Builtin.lenOf, Builtin.firstCells, sizeOf, typeInfo, hq, hi, ← hn, hl, hst]

theorem wpList_copy_wide {P : Program} {w : World} {ops : Array Oper} {rest : List Oper} {o : Oper} {a : Act} {Q : Exit → Act → World → Prop} (hgd : o.guard = none) (d s : Operand) (dT sT : TypeId)
    (ho : o.op = .call { callee := .builtin .copy, args := #[d, s], argTypes := #[dT, sT] }) (elem : TypeId) (k : Nat) (hu : P.underlying dT = some (.slice elem)) (hsz : (P.info? elem).map (·.size) = some k)
    (g off dLen dCap : Nat) (ad : Addr) (sLen sCap : Nat) (hd : a.eval d = .slice (some ⟨g, off, none⟩) dLen dCap) (hs : a.eval s = .slice (some ad) sLen sCap)
    (cur : Array Value) (t : TypeId) (hg : w.heap[g]? = some (.cells cur t (0, 0))) (cs : List Value) (hn : cs.length = Nat.min sLen dLen * k)
    (hsrc : ∀ j v, cs[j]? = some v → w.cell? (ad.add j) = some v) (hfit : off + cs.length ≤ cur.size) (h1 : ∀ v ∈ cs, v.oneCell' = true)
    (h : wpList P ops Q rest (a.put o.dst (goInt (Nat.min sLen dLen))) (w.setRow g (cur.toList.take off ++ cs ++ cur.toList.drop (off + cs.length)).toArray)) : wpList P ops Q (o :: rest) a w := by
  refine wpList_plain hgd fun K hK => ?_
  have hrun := run_copy_wide (P := P) w dT sT o.type elem k g off dLen dCap ad sLen sCap cur t cs hu hsz hg hn hsrc hfit h1
  unfold Oper.wp
  simp [execOp, ho, resolve, invoke, builtin, hd, hs, hrun, Result.andThen]
  exact hK _ _ (by simpa using h)

/-- the cells of parts of any numbers. -/
def qCells (q : Qt) : List Value := [.int .i64 q.kind, .int .i64 q.num, .string (bs q.text)]
def rowQ (L : List Qt) : List Value := L.flatMap qCells
theorem rowQ_length (L : List Qt) : (rowQ L).length = L.length * 3 := by
  induction L with
  | nil => rfl
  | cons p L ih => simp only [rowQ, List.flatMap_cons, List.length_append, List.length_cons] at *; simp only [qCells, List.length_cons, List.length_nil]; omega
theorem rowQ_append (A B : List Qt) : rowQ (A ++ B) = rowQ A ++ rowQ B := by simp [rowQ]
theorem rowQ_at (L : List Qt) : ∀ (k : Nat) (h : k < L.length) (j : Nat), j < 3 → (rowQ L)[k * 3 + j]? = (qCells L[k])[j]? := by
  induction L with
  | nil => intro k h; simp at h
  | cons p L ih =>
    intro k h j hj
    have hl : (qCells p).length = 3 := rfl
    cases k with
    | zero => simp only [rowQ, List.flatMap_cons, Nat.zero_mul, Nat.zero_add, List.getElem_cons_zero]; rw [List.getElem?_append_left (by omega)]
    | succ k =>
      have := ih k (by simpa using h) j hj
      simp only [rowQ, List.flatMap_cons, List.getElem_cons_succ] at *
      rw [List.getElem?_append_right (by omega), ← this, hl]
      congr 1
      omega
theorem rowQ_one (L : List Qt) : ∀ u ∈ rowQ L, u.oneCell' = true := by
  intro u hu
  simp only [rowQ, List.mem_flatMap] at hu
  obtain ⟨q, _, hq⟩ := hu
  simp only [qCells, List.mem_cons, List.not_mem_nil, or_false] at hq
  rcases hq with rfl | rfl | rfl <;> rfl
theorem rowQ_set (L : List Qt) : ∀ (k : Nat), k < L.length → ∀ q : Qt, rowQ (L.set k q) = (((rowQ L).set (k * 3) (.int .i64 q.kind)).set (k * 3 + 1) (.int .i64 q.num)).set (k * 3 + 2) (.string (bs q.text)) := by
  induction L with
  | nil => intro k h; simp at h
  | cons p L ih =>
    intro k h q
    cases k with
    | zero => simp [rowQ, qCells]
    | succ k =>
      have := ih k (by simpa using h) q
      have e : ∀ x, rowQ (x :: L) = .int .i64 x.kind :: .int .i64 x.num :: .string (bs x.text) :: rowQ L := fun x => by simp [rowQ, qCells]
      have e2 : rowQ (p :: L.set k q) = .int .i64 p.kind :: .int .i64 p.num :: .string (bs p.text) :: rowQ (L.set k q) := by simp [rowQ, qCells]
      rw [List.set_cons_succ, e2, this, e]
      rw [show (k + 1) * 3 = k * 3 + 1 + 1 + 1 by omega]
      simp only [List.set_cons_succ]

def zeroQ : Qt := ⟨0, 0, []⟩
def beyondQ : Qt := ⟨2, 0, [98, 101, 121, 111, 110, 100]⟩

theorem made_zero (n : Nat) : (madeCells #[.int .i64 0, .int .i64 0, .string ⟨#[]⟩] (n * 3)).toList = rowQ (List.replicate n zeroQ) := by
  apply List.ext_getElem?
  intro i
  by_cases h : i < n * 3
  · have hr := rowQ_at (List.replicate n zeroQ) (i / 3) (by simp; omega) (i % 3) (by omega)
    rw [show i / 3 * 3 + i % 3 = i by omega] at hr
    rw [hr]
    simp only [madeCells, Array.toList_map, Array.toList_range, List.getElem?_map, List.getElem?_range h, Option.map_some, List.getElem_replicate]
    have h3 : i % 3 = 0 ∨ i % 3 = 1 ∨ i % 3 = 2 := by omega
    rcases h3 with e | e | e
    · simp [e, qCells, zeroQ]
    · simp [e, qCells, zeroQ]
    · simp [e, qCells, zeroQ, bs]
  · rw [List.getElem?_eq_none (by rw [Array.length_toList, size_madeCells]; omega), List.getElem?_eq_none (by rw [rowQ_length]; simp; omega)]

theorem Try.sizePart : (Try.prog.info? 45).map (fun i => i.size) = some 3 := by kernel_rfl

/-- a list with so many of the caller's behind it. -/
def lentQ (Q : List Qt) (k : Nat) : List Qt := Q ++ (List.replicate k beyondQ ++ List.replicate (8 - k) zeroQ)
theorem lentQ_length (Q : List Qt) (k : Nat) (hk : k ≤ 8) : (lentQ Q k).length = Q.length + 8 := by simp [lentQ]; omega
theorem lentQ_set (Q : List Qt) (k : Nat) (hk : k < 8) : (lentQ Q k).set (Q.length + k) beyondQ = lentQ Q (k + 1) := by
  unfold lentQ
  rw [List.set_append_right _ _ (by omega), Nat.add_sub_cancel_left, List.set_append_right _ _ (by simp), List.length_replicate, Nat.sub_self]
  congr 1
  rw [show 8 - k = (8 - (k + 1)) + 1 by omega, List.replicate_succ, List.set_cons_zero, List.replicate_succ', List.append_assoc]
  rfl

theorem eq_nil_no (x : World) (a : Addr) (n c : Nat) : (binOp .eql 28 (.slice (some a) n c) (.slice none 0 0)).run Try.prog x = .ok (.bool false) x := by kernel_rfl
theorem eq_nil_yes (x : World) : (binOp .eql 28 (.slice none 0 0) (.slice none 0 0)).run Try.prog x = .ok (.bool true) x := by kernel_rfl

set_option maxHeartbeats 1000000 in
set_option maxRecDepth 100000 in
theorem lent_nil (w : World) : Calls Try.prog 61 #[.slice none 0 0] w fun e w' => e = .returned (.slice none 0 0) ∧ w' = w := by
  have he := eq_nil_yes
  go_enter Try.func61, Try.ntmps61
  go_wp2
  go_ret
  exact ⟨rfl, rfl⟩

/-- parts at an address. -/
def ArgQ (w : World) (a : Addr) (Q : List Qt) : Prop := 0 < Q.length → ∃ b off, a = ⟨b, off, none⟩ ∧ b < w.heap.size ∧ ∀ k (h : k < Q.length), QtAt w b (off + k * 3) Q[k]

set_option maxHeartbeats 1000000 in
set_option maxRecDepth 100000 in
theorem lent_some (ad : Addr) (cap : Nat) (Q : List Qt) (w : World) (hq : ArgQ w ad Q) (hn : Q.length ≤ 1000000000) :
    Calls Try.prog 61 #[.slice (some ad) Q.length cap] w fun e w' => e = .returned (.slice (some ⟨w.heap.size, 0, none⟩) Q.length (Q.length + 8)) ∧ w'.heap[w.heap.size]? = some (.cells (rowQ (lentQ Q 8)).toArray 45 (0, 0)) ∧ Below w.heap.size w w' := by
  obtain ⟨i0, hi, hz0, hz1, hz2⟩ := info_parts Try.infoPart
  have hmk : ∀ x : World, (Instr.makeSlice 28 (.int .i64 ((Q.length : Int) + 8)) (.int .i64 ((Q.length : Int) + 8))).run Try.prog x = .ok (.slice (some ⟨x.heap.size, 0, none⟩) (Q.length + 8) (Q.length + 8)) (x.alloc (.cells (rowQ (List.replicate (Q.length + 8) zeroQ)).toArray 45)) := by
    intro x
    have h := run_make (P := Try.prog) x 28 45 i0 _ Try.underlying28 hi hz0 .i64 .i64 ((Q.length : Int) + 8) ((Q.length : Int) + 8) (by omega) (by omega) (by rw [hz2]; omega) (by omega)
    rw [hz1, show ((Q.length : Int) + 8).toNat = Q.length + 8 by omega] at h
    rw [h]
    congr 2
    rw [← made_zero]
    rfl
  have hrow : (rowQ (List.replicate (Q.length + 8) zeroQ)).take 0 ++ rowQ Q ++ (rowQ (List.replicate (Q.length + 8) zeroQ)).drop (0 + (rowQ Q).length) = rowQ (lentQ Q 0) := by
    rw [List.take_zero, List.nil_append, Nat.zero_add, List.replicate_append_replicate.symm, rowQ_append, List.drop_append_of_le_length (by rw [rowQ_length, rowQ_length]; simp), List.drop_of_length_le (by rw [rowQ_length, rowQ_length]; simp)]
    simp [lentQ, rowQ_append]
  have HR : Hid ((rowQ (List.replicate (Q.length + 8) zeroQ)).take 0 ++ rowQ Q ++ (rowQ (List.replicate (Q.length + 8) zeroQ)).drop (0 + (rowQ Q).length) = rowQ (lentQ Q 0)) := hrow
  have hsrc : ∀ o : Obj, ∀ j v, (rowQ Q)[j]? = some v → (w.alloc o).cell? (ad.add j) = some v := by
    intro o j v hj
    have hjl : j < Q.length * 3 := by
      have := (List.getElem?_eq_some_iff.1 hj).1
      rwa [rowQ_length] at this
    have hr := rowQ_at Q (j / 3) (by omega) (j % 3) (by omega)
    rw [show j / 3 * 3 + j % 3 = j by omega, hj] at hr
    obtain ⟨b, off, rfl, hb, hq⟩ := hq (by omega)
    have hadd : (⟨b, off, none⟩ : Addr).add j = ⟨b, off + j, none⟩ := by unfold Addr.add; split <;> simp_all
    rw [hadd]
    have hold : ∀ o2, (w.alloc o).cell? ⟨b, o2, none⟩ = w.cell? ⟨b, o2, none⟩ := fun o2 => World.cell?_of_block (Lib.alloc_old w o b hb)
    rw [hold]
    obtain ⟨c0, c1, c2⟩ := hq (j / 3) (by omega)
    have h3 : j % 3 = 0 ∨ j % 3 = 1 ∨ j % 3 = 2 := by omega
    rcases h3 with e | e | e
    · rw [e] at hr; simp only [qCells, List.getElem?_cons_zero, Option.some.injEq] at hr; rw [hr, show off + j = off + j / 3 * 3 by omega]; exact c0
    · rw [e] at hr; simp only [qCells, List.getElem?_cons_succ, List.getElem?_cons_zero, Option.some.injEq] at hr; rw [hr, show off + j = off + j / 3 * 3 + 1 by omega]; exact c1
    · rw [e] at hr; simp only [qCells, List.getElem?_cons_succ, List.getElem?_cons_zero, Option.some.injEq] at hr; rw [hr, show off + j = off + j / 3 * 3 + 2 by omega]; exact c2
  have HSRC : Hid (∀ o : Obj, ∀ j v, (rowQ Q)[j]? = some v → (w.alloc o).cell? (ad.add j) = some v) := hsrc
  clear hrow hsrc hq
  have he := eq_nil_no
  go_enter Try.func61, Try.ntmps61
  go_wp2
  rw [run_copy_wide (P := Try.prog) _ 28 28 3 45 3 w.heap.size 0 _ _ ad _ _ (rowQ (List.replicate (Q.length + 8) zeroQ)).toArray 45 (rowQ Q) Try.underlying28 Try.sizePart (heap_alloc_new w _) (by rw [rowQ_length]; congr 1; show _ = min _ _; omega) (HSRC.out _) (by simp [rowQ_length]; omega) (rowQ_one Q)]
  simp only [Result.andThen]
  rw [Oper.upon_value]
  obtain ⟨w1, hw1⟩ : ∃ w1, w1 = (w.alloc (.cells (rowQ (List.replicate (Q.length + 8) zeroQ)).toArray 45)).setRow w.heap.size ((rowQ (List.replicate (Q.length + 8) zeroQ)).toArray.toList.take 0 ++ rowQ Q ++ (rowQ (List.replicate (Q.length + 8) zeroQ)).toArray.toList.drop (0 + (rowQ Q).length)).toArray := ⟨_, rfl⟩
  rw [← hw1]
  have HW1 : Hid (w1.heap[w.heap.size]? = some (.cells (rowQ (lentQ Q 0)).toArray 45 (0, 0)) ∧ Below w.heap.size w w1) := by
    refine ⟨?_, ?_⟩
    · rw [hw1, setRow_heap _ _ _ _ _ _ (heap_alloc_new w _)]
      rw [List.toList_toArray, HR.out]
    · rw [hw1]
      exact below_setRow ((Below.refl _ _).alloc (Nat.le_refl _) _) (Nat.le_refl _) _
  clear hw1
  go_wp2
  go_loopw [5] (fun i wr => ∃ k : Nat, k ≤ 8 ∧ i = .int .i64 ((Q.length : Int) + k) ∧ Hid (wr.heap[w.heap.size]? = some (.cells (rowQ (lentQ Q k)).toArray 45 (0, 0)) ∧ Below w.heap.size w wr)) (fun i _ => Q.length + 8 - (intOf i).toNat)
  case atStart => exact ⟨0, by omega, by simp, HW1.out⟩
  case round =>
    obtain ⟨k, hk, rfl, hw⟩ := hrel
    by_cases hlt : k < 8
    · have hz : (rowQ (lentQ Q k)).toArray.size = (Q.length + 8) * 3 := by simp [rowQ_length, lentQ_length Q k hk]
      have hex : ∀ j, j < (Q.length + 8) * 3 → ∃ u, wr.cell? ⟨w.heap.size, j, none⟩ = some u := fun j hj => ⟨_, by rw [Lib.cell_of_heap hw.out.1]; exact Array.getElem?_eq_getElem (by rw [hz]; exact hj)⟩
      obtain ⟨u0, c0⟩ := hex ((Q.length + k) * 3) (by omega)
      obtain ⟨u1, c1⟩ := hex ((Q.length + k) * 3 + 1) (by omega)
      obtain ⟨u2, c2⟩ := hex ((Q.length + k) * 3 + 2) (by omega)
      have f0 : ∀ j, wr.frozen? ⟨w.heap.size, j, none⟩ = false := fun j => Lib.frozen_of_heap hw.out.1 _
      clear hex hz
      go_wp2
      go_roundw
      case rel =>
        refine ⟨k + 1, by omega, by go_num, ?_, ?_⟩
        · have h1 := block_set (block_set (block_set hw.out.1 ((Q.length + k) * 3) (.int .i64 beyondQ.kind)) ((Q.length + k) * 3 + 1) (.int .i64 beyondQ.num)) ((Q.length + k) * 3 + 2) (.string (bs beyondQ.text))
          refine h1.trans ?_
          rw [List.setIfInBounds_toArray, List.setIfInBounds_toArray, List.setIfInBounds_toArray, ← rowQ_set _ _ (by rw [lentQ_length Q k hk]; omega), lentQ_set Q k hlt]
        · exact ((hw.out.2.setCell (p := ⟨w.heap.size, _, none⟩) (Nat.le_refl _) _).setCell (p := ⟨w.heap.size, _, none⟩) (Nat.le_refl _) _).setCell (p := ⟨w.heap.size, _, none⟩) (Nat.le_refl _) _
      case measure => simp [intOf]; omega
    · go_wp2
      go_ret
      have hk8 : k = 8 := by omega
      subst hk8
      exact ⟨rfl, hw.out.1, hw.out.2⟩

def delQ : Qt := ⟨3, 1, []⟩
/-- the first i elements written into. -/
def wroteQ (L : List Qt) (i : Nat) : List Qt := List.replicate i delQ ++ L.drop i
theorem wroteQ_length (L : List Qt) (i : Nat) (h : i ≤ L.length) : (wroteQ L i).length = L.length := by simp [wroteQ]; omega
theorem wroteQ_at (L : List Qt) (i : Nat) (h : i < L.length) : (wroteQ L i)[i]'(by rw [wroteQ_length L i (by omega)]; exact h) = L[i] := by
  simp [wroteQ]
theorem wroteQ_set (L : List Qt) (i : Nat) (h : i < L.length) : (wroteQ L i).set i delQ = wroteQ L (i + 1) := by
  unfold wroteQ
  rw [List.set_append_right _ _ (by simp), List.length_replicate, Nat.sub_self, List.drop_eq_getElem_cons h, List.set_cons_zero, List.replicate_succ', List.append_assoc]
  rfl

set_option maxHeartbeats 1000000 in
set_option maxRecDepth 100000 in
theorem whole_nil (v : Value) (w : World) : Calls Try.prog 68 #[v, .slice none 0 0] w fun e w' => e = .returned (.bool true) ∧ w' = w := by
  have he := eq_nil_yes
  go_enter Try.func68, Try.ntmps68
  go_wp2
  go_ret
  exact ⟨rfl, rfl⟩

set_option maxHeartbeats 1000000 in
set_option maxRecDepth 100000 in
theorem whole_some (g : Nat) (ad : Addr) (cap : Nat) (Q : List Qt) (w : World) (hg : w.heap[g]? = some (.cells (rowQ (lentQ Q 8)).toArray 45 (0, 0))) (hne : 0 < Q.length → ad.block ≠ g) (hq : ArgQ w ad Q) (hn : Q.length ≤ 1000000000) :
    Calls Try.prog 68 #[.slice (some ⟨g, 0, none⟩) Q.length (Q.length + 8), .slice (some ad) Q.length cap] w fun e w' => e = .returned (.bool true) ∧ Below g w w' ∧ KeepX (fun k => k = g) w w' := by
  have he := eq_nil_no
  have HG : Hid (w.heap[g]? = some (.cells (rowQ (lentQ Q 8)).toArray 45 (0, 0)) ∧ (0 < Q.length → ad.block ≠ g) ∧ ArgQ w ad Q) := ⟨hg, hne, hq⟩
  have hlt := lt_of_blk hg
  clear hg hne hq
  go_enter Try.func68, Try.ntmps68
  go_wp2
  go_loopw [7, 8] (fun ok i wr => ∃ k : Nat, k ≤ Q.length + 8 ∧ ok = .bool true ∧ i = .int .i64 k ∧ Hid (wr.heap[g]? = some (.cells (rowQ (wroteQ (lentQ Q 8) k)).toArray 45 (0, 0)) ∧ Below g w wr ∧ KeepX (fun k => k = g) w wr)) (fun _ i _ => Q.length + 8 - (intOf i).toNat)
  case atStart => exact ⟨0, by omega, rfl, rfl, by simpa [wroteQ] using HG.out.1, Below.refl _ _, keepX_refl _ _⟩
  case round =>
    obtain ⟨k, hk, rfl, rfl, hw⟩ := hrel
    by_cases hlt2 : k < Q.length + 8
    · have hlen : (lentQ Q 8).length = Q.length + 8 := lentQ_length Q 8 (by omega)
      have hwl : (wroteQ (lentQ Q 8) k).length = Q.length + 8 := by rw [wroteQ_length _ _ (by omega), hlen]
      have hat : ∀ j, j < 3 → wr.cell? ⟨g, k * 3 + j, none⟩ = (qCells ((lentQ Q 8)[k]'(by omega)))[j]? := by
        intro j hj
        rw [Lib.cell_of_heap hw.out.1, List.getElem?_toArray, rowQ_at _ k (by omega) j hj, wroteQ_at _ _ (by omega)]
      have d0 := hat 0 (by omega)
      have d1 := hat 1 (by omega)
      have d2 := hat 2 (by omega)
      have f0 : ∀ j, wr.frozen? ⟨g, j, none⟩ = false := fun j => Lib.frozen_of_heap hw.out.1 _
      have hgz := lt_of_blk hw.out.1
      have hki : (k : Int) < (Q.length : Int) + 8 := by omega
      have hki2 : k < Q.length + 8 := hlt2
      clear hat
      have HEND : Hid (∀ wx : World, wx.heap[g]? = wr.heap[g]? → Below g w wx → KeepX (fun k => k = g) w wx → (((wx.setCell ⟨g, k * 3, none⟩ (.int .i64 3)).setCell ⟨g, k * 3 + 1, none⟩ (.int .i64 1)).setCell ⟨g, k * 3 + 2, none⟩ (.string ⟨#[]⟩)).heap[g]? = some (.cells (rowQ (wroteQ (lentQ Q 8) (k + 1))).toArray 45 (0, 0)) ∧ Below g w (((wx.setCell ⟨g, k * 3, none⟩ (.int .i64 3)).setCell ⟨g, k * 3 + 1, none⟩ (.int .i64 1)).setCell ⟨g, k * 3 + 2, none⟩ (.string ⟨#[]⟩)) ∧ KeepX (fun k => k = g) w (((wx.setCell ⟨g, k * 3, none⟩ (.int .i64 3)).setCell ⟨g, k * 3 + 1, none⟩ (.int .i64 1)).setCell ⟨g, k * 3 + 2, none⟩ (.string ⟨#[]⟩))) := by
        intro wx hx hb hkx
        refine ⟨?_, ((hb.setCell (p := ⟨g, _, none⟩) (Nat.le_refl _) _).setCell (p := ⟨g, _, none⟩) (Nat.le_refl _) _).setCell (p := ⟨g, _, none⟩) (Nat.le_refl _) _, keepX_set (keepX_set (keepX_set hkx _ _) _ _) _ _⟩
        have h1 := block_set (block_set (block_set (hx.trans hw.out.1) (k * 3) (.int .i64 delQ.kind)) (k * 3 + 1) (.int .i64 delQ.num)) (k * 3 + 2) (.string (bs delQ.text))
        refine h1.trans ?_
        rw [List.setIfInBounds_toArray, List.setIfInBounds_toArray, List.setIfInBounds_toArray, ← rowQ_set _ _ (by omega), wroteQ_set _ _ (by omega)]
      by_cases hin : k < Q.length
      · have hel : (lentQ Q 8)[k]'(by omega) = Q[k] := by simp [lentQ, List.getElem_append_left hin]
        rw [hel] at d0 d1 d2
        have hb2 := HG.out.2.1 (by omega)
        obtain ⟨b, off, rfl, hb1, hqq⟩ := HG.out.2.2 (by omega)
        obtain ⟨c0, c1, c2⟩ := hqq k hin
        clear hqq
        have hbk : wr.heap[b]? = w.heap[b]? := hw.out.2.2 b hb1 hb2
        have hcc : ∀ o2, wr.cell? ⟨b, o2, none⟩ = w.cell? ⟨b, o2, none⟩ := fun o2 => World.cell?_of_block hbk
        rw [← hcc] at c0 c1 c2
        have hbz : b < wr.heap.size := Nat.lt_of_lt_of_le hb1 hw.out.2.1.size
        clear hbk hcc hel
        simp only [qCells, List.getElem?_cons_zero, List.getElem?_cons_succ, Nat.add_zero] at d0 d1 d2
        have hki3 : (k : Int) < (Q.length : Int) := by omega
        go_wp2
        go_quiet (fail)
        go_wp2
        go_roundw
        case rel =>
          refine ⟨k + 1, by omega, rfl, by go_num, HEND.out _ (Lib.alloc_old wr _ g hgz) (below_drewN (hw.out.2.1.alloc (by omega) _) _) ?_⟩
          exact fun q hq hn => (Lib.alloc_old wr _ q (Nat.lt_of_lt_of_le hq hw.out.2.1.size)).trans (hw.out.2.2 q hq hn)
        case measure => simp [intOf]; omega
      · have hel : (lentQ Q 8)[k]'(by omega) = beyondQ := by
          unfold lentQ
          rw [List.getElem_append_right (by omega), List.getElem_append_left (by simp; omega), List.getElem_replicate]
        rw [hel] at d0 d1 d2
        clear hel
        replace d0 : wr.cell? ⟨g, k * 3, none⟩ = some (.int .i64 2) := d0
        replace d1 : wr.cell? ⟨g, k * 3 + 1, none⟩ = some (.int .i64 0) := d1
        replace d2 : wr.cell? ⟨g, k * 3 + 2, none⟩ = some (.string { data := #[98, 101, 121, 111, 110, 100] }) := d2
        have hki3 : ¬ ((k : Int) < (Q.length : Int)) := by omega
        go_wp2
        go_quiet (fail)
        go_wp2
        go_roundw
        case rel =>
          refine ⟨k + 1, by omega, rfl, by go_num, HEND.out _ (Lib.alloc_old wr _ g hgz) (below_drewN (hw.out.2.1.alloc (by omega) _) _) ?_⟩
          exact fun q hq hn => (Lib.alloc_old wr _ q (Nat.lt_of_lt_of_le hq hw.out.2.1.size)).trans (hw.out.2.2 q hq hn)
        case measure => simp [intOf]; omega
    · go_wp2
      go_ret
      exact ⟨rfl, hw.out.2.1, hw.out.2.2⟩

end Go.Proofs.Ytpiankiacbghcaa
