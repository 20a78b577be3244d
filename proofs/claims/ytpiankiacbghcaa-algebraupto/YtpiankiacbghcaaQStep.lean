/-
  quilllaw.plays: the steps of the kinds in play, one behind the other.
  quilllaw.plays, walked.
  Steps that are not too great.
-/
import Derived.Test.YtpiankiacbghcaaQPlays1
import Derived.Laws.AppendOwnNone
namespace Go.Proofs.Ytpiankiacbghcaa
open Go.RowKit

theorem wpList_append_nil {P : Program} {w : World} {ops : Array Oper} {rest : List Oper} {o : Oper} {a : Act} {Q : Exit → Act → World → Prop} (hgd : o.guard = none) (s x : Operand) (t : TypeId)
    (ho : o.op = .call { callee := .builtin .append, args := #[s, x], argTypes := #[t, t] })
    (base : Nat) (e : TypeId) (i : TypeInfo) (size : Nat) (ht : P.underlying t = some (.slice e)) (hi : P.info? e = some i)
    (v : Value) (n : Nat) (xs : List Value) (hs : a.eval s = v) (hown : w.ownsRow base e size v n xs) (hx : a.eval x = .slice none 0 0)
    (h : wpList P ops Q rest (a.put o.dst v) w) : wpList P ops Q (o :: rest) a w := by
  refine wpList_plain hgd fun K hK => ?_
  have hrun := run_append_owned_none (P := P) (w := w) base t o.type e i size ht hi v n xs hown
  unfold Oper.wp execOp
  simp [ho, resolve, invoke, builtin, hs, hx, hrun, Result.andThen]
  exact hK _ _ h

theorem wpList_append_src {P : Program} {w : World} {ops : Array Oper} {rest : List Oper} {o : Oper} {a : Act} {Q : Exit → Act → World → Prop} (hgd : o.guard = none) (s x : Operand) (t : TypeId)
    (ho : o.op = .call { callee := .builtin .append, args := #[s, x], argTypes := #[t, t] })
    (base : Nat) (e : TypeId) (i : TypeInfo) (z : Value) (size bytes : Nat) (ht : P.underlying t = some (.slice e)) (hi : P.info? e = some i) (hz : i.zero = some z)
    (hsize : i.size = size) (hby : i.bytes = bytes) (hzs : z.cells.size = size) (hsz : 0 < size)
    (v : Value) (n : Nat) (xs : List Value) (hs : a.eval s = v) (hown : w.ownsRow base e size v n xs)
    (xv : Value) (m : Nat) (news : List Value) (hx : a.eval x = xv) (hsrc : (xv = .slice none 0 0 ∧ m = 0) ∨ ∃ ad c, xv = .slice (some ad) m c ∧ ∀ j u, news[j]? = some u → w.cell? (ad.add j) = some u) (hl : news.length = m * size) (h1 : ∀ u ∈ news, u.oneCell' = true)
    (h63 : n + m ≤ maxLen) (hbytes : (n + m) * bytes ≤ 140737488355328) (hbase : base ≤ w.heap.size)
    (h : ∀ v' w', w'.ownsRow base e size v' (n + m) (xs ++ news) → w.grownBy w' v.ownBlock → wpList P ops Q rest (a.put o.dst v') w') : wpList P ops Q (o :: rest) a w := by
  rcases hsrc with ⟨rfl, rfl⟩ | ⟨ad, c, rfl, hnews⟩
  · have hn : news = [] := List.eq_nil_of_length_eq_zero (by simpa using hl)
    subst hn
    refine wpList_append_nil hgd s x t ho base e i size ht hi v n xs hs hown hx ?_
    refine h v w ?_ ⟨rfl, rfl, rfl, Nat.le_refl _, fun _ _ _ => rfl⟩
    rw [List.append_nil]
    exact hown
  · exact wpList_append_own w hgd s x t ho base e i z size bytes ht hi hz hsize hby hzs hsz v n xs hs hown ad m c news hx hl hnews h1 h63 hbytes hbase fun v' w' h2 h3 _ => h v' w' h2 h3

theorem Try.infoOp : (Try.prog.info? 58).map (fun i => (i.zero, i.size, i.bytes)) = some (some (.agg #[.int .i64 0, .int .i64 0, .int .i64 0, .int .i64 0, .int .i64 0, .string ⟨#[]⟩, .slice none 0 0, .slice none 0 0]), 8, 104) := by kernel_rfl

theorem rowS_length (l : List Stp) : (rowS l).length = l.length * 8 := by
  induction l with
  | nil => rfl
  | cons o l ih => simp only [rowS, List.flatMap_cons, List.length_append, List.length_cons] at *; rw [ih]; simp [stpCells]; omega
theorem rowS_append (a b : List Stp) : rowS (a ++ b) = rowS a ++ rowS b := by simp [rowS]
theorem rowS_at (l : List Stp) (k : Nat) (h : k < l.length) (j : Nat) (hj : j < 8) : (rowS l)[k * 8 + j]? = (stpCells l[k])[j]? := by
  induction l generalizing k with
  | nil => simp at h
  | cons o l ih =>
    simp only [rowS, List.flatMap_cons]
    cases k with
    | zero => rw [List.getElem?_append_left (by simp [stpCells]; omega)]; simp
    | succ k =>
      rw [List.getElem?_append_right (by simp [stpCells]; omega)]
      have := ih k (by simpa using h)
      simp only [rowS] at this
      simpa [stpCells, show (k + 1) * 8 + j - 8 = k * 8 + j by omega] using this

/-- a step's lists. -/
def StpOk (lim : Nat) (w : World) (o : Stp) : Prop := ArgOk lim w o.L o.QL ∧ ArgOk lim w o.M o.QM

theorem ArgAt.mono {lim lim' : Nat} {w : World} {v : Value} {Q : List Qt} (h : ArgAt lim w v Q) (hl : lim ≤ lim') : ArgAt lim' w v Q := by
  rcases h with h | ⟨ad, cap, rfl, hq⟩
  · exact .inl h
  · refine .inr ⟨ad, cap, rfl, fun h => ?_⟩
    obtain ⟨b, off, rfl, hb, hc⟩ := hq h
    exact ⟨b, off, rfl, by omega, hc⟩

theorem StpOk.mono {lim lim' : Nat} {w w' : World} {o : Stp} (h : StpOk lim w o) (hl : lim ≤ lim') (hs : ∀ q, q < lim → w'.heap[q]? = w.heap[q]?) : StpOk lim' w' o :=
  ⟨⟨(h.1.1.same hs).mono hl, h.1.2⟩, ⟨(h.2.1.same hs).mono hl, h.2.2⟩⟩

theorem StpOk.one {lim : Nat} {w : World} {o : Stp} (h : StpOk lim w o) : ∀ u ∈ stpCells o, u.oneCell' = true := by
  intro u hu
  obtain ⟨al, cl, hl⟩ := h.1.1.shape
  obtain ⟨am, cm, hm⟩ := h.2.1.shape
  simp only [stpCells, List.mem_cons, List.not_mem_nil, or_false, hl, hm] at hu
  rcases hu with rfl | rfl | rfl | rfl | rfl | rfl | rfl | rfl <;> rfl

/-- done, at a step. -/
def DoneSays (o : Stp) : Prop :=
  ∀ base w kv Vs, Bk base w kv Vs → Vs.length ≤ 90000000 → StpOk base w o →
    Calls Try.prog 36 #[.pointer (some ⟨base, 0, none⟩), .agg #[.int .i64 o.K, .int .i64 o.A, .int .i64 o.B, .int .i64 o.C, .int .i64 o.D, .string (bs o.S), o.L, o.M]] w fun e w' => e = .returned (.bool true) ∧ Below base w w' ∧ ∃ kv' Vs', Bk base w' kv' Vs' ∧ Vs'.length ≤ Vs.length + 8

theorem step_says (o : Stp) (h : DoneSays o) (h1 : 1 ≤ o.K) (h5 : o.K ≤ 5) (base : Nat) (w : World) (kv : Value) (Vs : List Value) (hk : Bk base w kv Vs) (hV : Vs.length ≤ 90000000) (ho : StpOk base w o) :
    Calls Try.prog 24 #[.pointer (some ⟨base, 0, none⟩), .agg #[.int .i64 o.K, .int .i64 o.A, .int .i64 o.B, .int .i64 o.C, .int .i64 o.D, .string (bs o.S), o.L, o.M]] w fun e w' => e = .returned (.bool true) ∧ Below base w w' ∧ ∃ kv' Vs', Bk base w' kv' Vs' ∧ Vs'.length ≤ Vs.length + 8 := by
  have hlt := lt_of_blk hk.cells
  have hb : Below w.heap.size w (w.alloc (.cells #[.int .i64 o.K, .int .i64 o.A, .int .i64 o.B, .int .i64 o.C, .int .i64 o.D, .string (bs o.S), o.L, o.M] 58)) := (Below.refl _ _).alloc (Nat.le_refl _) _
  refine step_done base o.K o.A o.B o.C o.D (bs o.S) o.L o.M w _ h1 h5 ?_
  refine (h base _ kv Vs (hk.stay hb) hV (ho.mono (Nat.le_refl _) fun q hq => hb.block q (by omega))).mono ?_
  rintro e w' ⟨rfl, hb2, hx⟩
  exact ⟨rfl, (hb.mono (by omega)).trans hb2, hx⟩

/-- the script. -/
def StepsAt (w : World) (v : Value) (Ss : List Stp) : Prop :=
  (v = .slice none 0 0 ∧ Ss.length = 0) ∨ ∃ a cap, v = .slice (some a) Ss.length cap ∧ ∀ j u, (rowS Ss)[j]? = some u → w.cell? (a.add j) = some u

theorem first_ok {w w1 : World} (hA : w1.heap[w.heap.size]? = some (.cells (rowQ firstA).toArray 45 (0, 0))) (hB : w1.heap[w.heap.size + 1]? = some (.cells (rowQ firstB).toArray 45 (0, 0))) :
    ∀ o ∈ firstS w.heap.size, StpOk (w.heap.size + 2) w1 o := by
  have hz : ArgOk (w.heap.size + 2) w1 (.slice none 0 0) [] := ⟨.inl ⟨rfl, rfl⟩, Nat.le_refl _, by simp⟩
  have at2 : ∀ (b : Nat) (Q : List Qt), Q.length = 2 → b < w.heap.size + 2 → w1.heap[b]? = some (.cells (rowQ Q).toArray 45 (0, 0)) → ArgOk (w.heap.size + 2) w1 (.slice (some ⟨b, 0, none⟩) 2 2) Q := by
    intro b Q hq hb hh
    refine ⟨.inr ⟨_, 2, by rw [hq], fun _ => ⟨b, 0, rfl, hb, fun k hk => ?_⟩⟩, Nat.le_refl _, by omega⟩
    have hat : ∀ j, j < 3 → w1.cell? ⟨b, k * 3 + j, none⟩ = (qCells Q[k])[j]? := fun j hj => by
      rw [Lib.cell_of_heap hh, List.getElem?_toArray, rowQ_at _ k hk j hj]
    rw [Nat.zero_add]
    exact ⟨hat 0 (by omega), hat 1 (by omega), hat 2 (by omega)⟩
  have ha := at2 _ firstA rfl (by omega) hA
  have hb := at2 _ firstB rfl (by omega) hB
  intro o ho
  simp only [firstS, List.mem_cons, List.not_mem_nil, or_false] at ho
  rcases ho with rfl | rfl | rfl | rfl | rfl | rfl | rfl | rfl | rfl | rfl | rfl | rfl | rfl
  all_goals exact ⟨by first | exact ha | exact hb | exact hz, by first | exact hz | exact hb | exact ha⟩

/-- where plays stands. -/
structure PlaySt (w : World) (base gA : Nat) (All : List Stp) (k : Nat) (wr : World) : Prop where
  book : ∃ kv Vs, Bk base wr kv Vs ∧ Vs.length ≤ 8 * k
  row : ∀ i (h : i < All.length) j, j < 8 → wr.cell? ⟨gA, i * 8 + j, none⟩ = (stpCells All[i])[j]?
  old : Below w.heap.size w wr
  ok : ∀ o ∈ All, StpOk base wr o

theorem PlaySt.next {w wr wx : World} {base gA k : Nat} {All : List Stp} (h : PlaySt w base gA All k wr) (hb : Below base wr wx) (hbk : ∃ kv Vs, Bk base wx kv Vs ∧ Vs.length ≤ 8 * (k + 1)) (hg : gA < base) (hw : w.heap.size ≤ base) : PlaySt w base gA All (k + 1) wx :=
  ⟨hbk, fun i hi j hj => (hb.cell (p := ⟨gA, _, none⟩) hg).trans (h.row i hi j hj), h.old.trans (hb.mono hw), fun o ho => (h.ok o ho).mono (Nat.le_refl _) fun q hq => hb.block q hq⟩

set_option maxHeartbeats 4000000 in
set_option maxRecDepth 100000 in
theorem plays_any (sv : Value) (Ss : List Stp) (zs : List Int) (pb pc : Nat) (w : World) (hs : StepsAt w sv Ss) (hst : ∀ o ∈ Ss, StpOk w.heap.size w o)
    (hplay : ∀ j (h : j < zs.length), w.cell? ⟨pb, 0 + j, none⟩ = some (.int .i64 zs[j])) (hpb : pb < w.heap.size) (hzl : zs.length ≤ 1000) (hn : Ss.length ≤ 2000000)
    (hK : ∀ o ∈ firstS w.heap.size ++ Ss, o.K ∈ zs → 1 ≤ o.K ∧ o.K ≤ 5 ∧ DoneSays o) :
    Calls Try.prog 9 #[sv, .slice (some ⟨pb, 0, none⟩) zs.length pc] w fun e w' => e = .returned (.bool true) ∧ Below w.heap.size w w' := by
  have HS : Hid (StepsAt w sv Ss ∧ (∀ o ∈ Ss, StpOk w.heap.size w o) ∧ (∀ j (h : j < zs.length), w.cell? ⟨pb, 0 + j, none⟩ = some (.int .i64 zs[j])) ∧ ∀ o ∈ firstS w.heap.size ++ Ss, o.K ∈ zs → 1 ≤ o.K ∧ o.K ≤ 5 ∧ DoneSays o) := ⟨hs, hst, hplay, hK⟩
  clear hs hst hplay hK
  obtain ⟨i0, hi, hz0, hz1, hz2⟩ := info_parts Try.infoOp
  go_enter Try.func9, Try.ntmps9
  go_wp2_with fail
  refine (first_any w).mono ?_
  rintro e w1 ⟨rfl, hA, hB, hF, hz, hb1⟩
  have hlen13 : (rowS (firstS w.heap.size)).length = 13 * 8 := rowS_length _
  have HO : Hid (w1.ownsRow w.heap.size 58 8 (.slice (some ⟨w.heap.size + 2, 0, none⟩) 13 13) 13 (rowS (firstS w.heap.size))) := ⟨hlen13, .inr ⟨_, 13, _, rfl, by omega, hF, Nat.le_refl _, by unfold maxLen; omega, by rw [List.size_toArray, hlen13], by rw [List.take_of_length_le (by simp [hlen13])]⟩⟩
  have H1 : Hid ((∀ o ∈ firstS w.heap.size, StpOk (w.heap.size + 2) w1 o) ∧ Below w.heap.size w w1) := ⟨first_ok hA hB, hb1⟩
  have HSR : Hid ((sv = .slice none 0 0 ∧ Ss.length = 0) ∨ ∃ ad c, sv = .slice (some ad) Ss.length c ∧ ∀ j u, (rowS Ss)[j]? = some u → w1.cell? (ad.add j) = some u) := by
    rcases HS.out.1 with h | ⟨a, cap, rfl, hc⟩
    · exact .inl h
    · refine .inr ⟨a, cap, rfl, fun j u hu => ?_⟩
      have h := hc j u hu
      exact (H1.out.2.cell (World.block_lt_of_cell? w _ h)).trans h
  have HONE : Hid (∀ u ∈ rowS Ss, u.oneCell' = true) := by
    intro u hu
    obtain ⟨o, ho, hu⟩ := List.mem_flatMap.1 hu
    exact (HS.out.2.1 o ho).one u hu
  clear hA hB hF hb1 hlen13
  go_wp2_with (at_builtin; refine wpList_append_src rfl _ _ 22 rfl w.heap.size 58 i0 _ 8 104 Try.underlying22 hi hz0 hz1 hz2 rfl (by decide) _ 13 _ rfl HO.out sv Ss.length (rowS Ss) rfl HSR.out (rowS_length _) HONE.out (by unfold maxLen; omega) (by omega) (by omega) ?_; intro v2 w2 hown2 hgrow2)
  rw [← rowS_append] at hown2
  have hal : (firstS w.heap.size ++ Ss).length = 13 + Ss.length := by rw [List.length_append]; rfl
  obtain ⟨gA, capA, rfl, hgl, hgz⟩ := hown2.form (by omega)
  have HR : Hid (∀ i (h : i < (firstS w.heap.size ++ Ss).length) j, j < 8 → w2.cell? ⟨gA, i * 8 + j, none⟩ = (stpCells (firstS w.heap.size ++ Ss)[i])[j]?) := by
    intro i hi j hj
    have hlt : i * 8 + j < (rowS (firstS w.heap.size ++ Ss)).length := by rw [rowS_length]; omega
    have hadd : (⟨gA, 0, none⟩ : Addr).add (i * 8 + j) = ⟨gA, i * 8 + j, none⟩ := by unfold Addr.add; split <;> simp_all
    have hc := hown2.cells (g := gA) rfl (i * 8 + j) _ (List.getElem?_eq_getElem hlt)
    rw [hadd] at hc
    rw [hc, ← rowS_at _ i hi j hj, List.getElem?_eq_getElem hlt]
  have hz2' := hgrow2.size
  have H2 : Hid (Below w.heap.size w w2 ∧ ∀ o ∈ firstS w.heap.size ++ Ss, StpOk w2.heap.size w2 o) := by
    have hold : ∀ q, q < w.heap.size + 2 → w2.heap[q]? = w1.heap[q]? := fun q hq => hgrow2.block q (by omega) (fun e => by have e2 : q = w.heap.size + 2 := Option.some.inj e; omega)
    refine ⟨⟨hgrow2.os.trans H1.out.2.os, hgrow2.tape.trans H1.out.2.tape, hgrow2.output.trans H1.out.2.output, by omega, fun q hq => (hold q (by omega)).trans (H1.out.2.block q hq)⟩, fun o ho => ?_⟩
    rcases List.mem_append.1 ho with h | h
    · exact (H1.out.1 o h).mono (by omega) hold
    · exact (HS.out.2.1 o h).mono (by omega) fun q hq => (hold q (by omega)).trans (H1.out.2.block q hq)
  clear hown2 hgrow2
  obtain ⟨All, hAll⟩ : ∃ All, All = firstS w.heap.size ++ Ss := ⟨_, rfl⟩
  rw [← hAll] at HR H2 hal
  have HKK : Hid (∀ o ∈ All, o.K ∈ zs → 1 ≤ o.K ∧ o.K ≤ 5 ∧ DoneSays o) := by rw [hAll]; exact HS.out.2.2.2
  clear hAll
  go_wp2
  go_loopw [7] (fun i wr => ∃ k : Nat, k ≤ 13 + Ss.length ∧ i = .int .i64 k ∧ Hid (PlaySt w w2.heap.size gA All k wr)) (fun i _ => 13 + Ss.length - (intOf i).toNat)
  case atStart =>
    have hb3 : Below w2.heap.size w2 (w2.alloc (.cells #[.slice none 0 0, .slice none 0 0, .slice none 0 0] 56)) := (Below.refl _ _).alloc (Nat.le_refl _) _
    refine ⟨0, Nat.zero_le _, rfl, ⟨.slice none 0 0, [], ⟨heap_alloc_new w2 _, ⟨rfl, .inl ⟨rfl, rfl⟩⟩, fun i hi => absurd hi (by simp), fun i hi => absurd hi (by simp), rfl⟩, by simp⟩, fun i hi j hj => (hb3.cell (p := ⟨gA, _, none⟩) hgz).trans (HR.out i hi j hj), H2.out.1.trans (hb3.mono (by omega)), fun o ho => (H2.out.2 o ho).mono (Nat.le_refl _) fun q hq => hb3.block q hq⟩
  case round =>
    obtain ⟨k, hk, rfl, hP⟩ := hrel
    by_cases hlt : k < 13 + Ss.length
    · have hka : k < All.length := by omega
      have hc := hP.out.row k hka
      have hmem : All[k] ∈ All := List.getElem_mem hka
      obtain ⟨o, ho⟩ : ∃ o, o = All[k] := ⟨_, rfl⟩
      rw [← ho] at hc hmem
      obtain ⟨al, cl, hL⟩ := (hP.out.ok o hmem).1.1.shape
      obtain ⟨am, cm, hM⟩ := (hP.out.ok o hmem).2.1.shape
      have c0 : wr.cell? ⟨gA, k * 8, none⟩ = some (.int .i64 o.K) := hc 0 (by omega)
      have c1 : wr.cell? ⟨gA, k * 8 + 1, none⟩ = some (.int .i64 o.A) := hc 1 (by omega)
      have c2 : wr.cell? ⟨gA, k * 8 + 2, none⟩ = some (.int .i64 o.B) := hc 2 (by omega)
      have c3 : wr.cell? ⟨gA, k * 8 + 3, none⟩ = some (.int .i64 o.C) := hc 3 (by omega)
      have c4 : wr.cell? ⟨gA, k * 8 + 4, none⟩ = some (.int .i64 o.D) := hc 4 (by omega)
      have c5 : wr.cell? ⟨gA, k * 8 + 5, none⟩ = some (.string (bs o.S)) := hc 5 (by omega)
      have c6 : wr.cell? ⟨gA, k * 8 + 6, none⟩ = some (.slice al o.QL.length cl) := (hc 6 (by omega)).trans (by simp [stpCells, hL])
      have c7 : wr.cell? ⟨gA, k * 8 + 7, none⟩ = some (.slice am o.QM.length cm) := (hc 7 (by omega)).trans (by simp [stpCells, hM])
      have HO : Hid (o ∈ All ∧ o.L = .slice al o.QL.length cl ∧ o.M = .slice am o.QM.length cm) := ⟨hmem, hL, hM⟩
      have hki : (k : Int) < 13 + (Ss.length : Int) := by omega
      have hkm : (k : Int) < 144115188075855872 := by omega
      clear hc hmem hL hM ho
      have HPL : Hid (∀ wx, Below wr.heap.size wr wx → ∀ j (h : j < zs.length), wx.cell? ⟨pb, 0 + j, none⟩ = some (.int .i64 zs[j])) := fun wx hx j hj => by
        have hpb2 : pb < wr.heap.size := by have := hP.out.old.size; omega
        exact (hx.cell (p := ⟨pb, _, none⟩) hpb2).trans ((hP.out.old.cell (p := ⟨pb, _, none⟩) hpb).trans (HS.out.2.2.1 j hj))
      have hbx : Below wr.heap.size wr (wr.alloc (.cells #[.int .i64 o.K, .int .i64 o.A, .int .i64 o.B, .int .i64 o.C, .int .i64 o.D, .string (bs o.S), .slice al o.QL.length cl, .slice am o.QM.length cm] 58)) := (Below.refl _ _).alloc (Nat.le_refl _) _
      have HBX : Hid (_) := hbx
      clear hbx
      by_cases hin : o.K ∈ zs
      · have HIN : Hid (decide (o.K ∈ zs) = true) := decide_eq_true hin
        have HD : Hid (1 ≤ o.K ∧ o.K ≤ 5 ∧ DoneSays o) := HKK.out o HO.out.1 hin
        clear hin
        obtain ⟨kv, Vs, hbk, hvl⟩ := hP.out.book
        have HBK : Hid (Bk w2.heap.size wr kv Vs ∧ Vs.length ≤ 8 * k) := ⟨hbk, hvl⟩
        have hblt : w2.heap.size < wr.heap.size := lt_of_blk hbk.cells
        clear hbk hvl
        have HST : Hid (∀ wx, Below wr.heap.size wr wx → Calls Try.prog 24 #[.pointer (some ⟨w2.heap.size, 0, none⟩), .agg #[.int .i64 o.K, .int .i64 o.A, .int .i64 o.B, .int .i64 o.C, .int .i64 o.D, .string (bs o.S), .slice al o.QL.length cl, .slice am o.QM.length cm]] wx fun e w' => e = .returned (.bool true) ∧ Below w2.heap.size wx w' ∧ ∃ kv' Vs', Bk w2.heap.size w' kv' Vs' ∧ Vs'.length ≤ Vs.length + 8) := by
          intro wx hx
          have h := step_says o HD.out.2.2 HD.out.1 HD.out.2.1 w2.heap.size wx kv Vs (HBK.out.1.stay hx) (by have := HBK.out.2; omega) ((hP.out.ok o HO.out.1).mono (Nat.le_refl _) fun q hq => hx.block q (by omega))
          rw [HO.out.2.1, HO.out.2.2] at h
          exact h
        go_wp2_with (go_at_call 23; refine (among_any pb 0 pc zs o.K _ (HPL.out _ HBX.out) (by omega)).mono ?_; rintro e w4 ⟨rfl, rfl⟩; rw [HIN.out])
        refine (HST.out _ HBX.out).mono ?_
        rintro e w5 ⟨rfl, hb5, kv', Vs', hbk', hvl'⟩
        have H5 : Hid (Below w2.heap.size wr w5 ∧ Bk w2.heap.size w5 kv' Vs' ∧ Vs'.length ≤ 8 * (k + 1)) := ⟨(HBX.out.mono (by omega)).trans hb5, hbk', by have := HBK.out.2; omega⟩
        clear hb5 hbk' hvl'
        go_wp2_with fail
        refine (looks_yes w2.heap.size 1 Vs' _ (H5.out.2.1.looks (by have := H5.out.2.2; omega))).mono ?_
        rintro e w6 ⟨rfl, hb6⟩
        have H6 : Hid (PlaySt w w2.heap.size gA All (k + 1) w6) := hP.out.next (H5.out.1.trans (hb6.mono (by have := H5.out.1.size; omega))) ⟨kv', Vs', H5.out.2.1.stay hb6, H5.out.2.2⟩ hgz (by have := H2.out.1.size; omega)
        clear hb6
        go_wp2
        go_roundw
        case rel => exact ⟨k + 1, by omega, by go_num, H6⟩
        case measure => simp [intOf]; omega
      · have HIN : Hid (decide (o.K ∈ zs) = false) := decide_eq_false hin
        clear hin
        go_wp2_with (go_at_call 23; refine (among_any pb 0 pc zs o.K _ (HPL.out _ HBX.out) (by omega)).mono ?_; rintro e w4 ⟨rfl, rfl⟩; rw [HIN.out])
        have H6 : Hid (PlaySt w w2.heap.size gA All (k + 1) (wr.alloc (.cells #[.int .i64 o.K, .int .i64 o.A, .int .i64 o.B, .int .i64 o.C, .int .i64 o.D, .string (bs o.S), .slice al o.QL.length cl, .slice am o.QM.length cm] 58))) := by
          obtain ⟨kv, Vs, hbk, hvl⟩ := hP.out.book
          have hblt : w2.heap.size < wr.heap.size := lt_of_blk hbk.cells
          exact hP.out.next (HBX.out.mono (by omega)) ⟨kv, Vs, hbk.stay HBX.out, by omega⟩ hgz (by have := H2.out.1.size; omega)
        go_roundw
        case rel => exact ⟨k + 1, by omega, by go_num, H6⟩
        case measure => simp [intOf]; omega
    · go_wp2
      go_ret
      exact ⟨rfl, hP.out.old⟩

def tlenQ (Q : List Qt) : Nat := (Q.map fun q => q.text.length).sum
theorem tlenQ_map (L : List Pt) : tlenQ (L.map Pt.q) = tlen L := by simp [tlenQ, tlen, Pt.q, Function.comp_def]
theorem tlenQ_mem {Q : List Qt} {q : Qt} (h : q ∈ Q) : q.text.length ≤ tlenQ Q := by
  induction Q with
  | nil => cases h
  | cons x r ih =>
    simp only [tlenQ, List.map_cons, List.sum_cons] at *
    rcases List.mem_cons.1 h with rfl | e
    · omega
    · have := ih e; omega

/-- a step whose numbers are ints, and whose texts are not too long. -/
structure Small (o : Stp) : Prop where
  lo : -9223372036854775808 ≤ o.A
  hi : o.A ≤ 9223372036854775807
  txt : o.S.length ≤ 2000000
  l : tlenQ o.QL ≤ 2000000
  m : tlenQ o.QM ≤ 2000000

theorem first_tlen : tlenQ firstA ≤ 2000000 ∧ tlenQ firstB ≤ 2000000 ∧ tlenQ [] ≤ 2000000 := by decide

theorem first_small (n : Nat) : ∀ o ∈ firstS n, Small o := by
  intro o ho
  simp only [firstS, List.mem_cons, List.not_mem_nil, or_false] at ho
  rcases ho with rfl | rfl | rfl | rfl | rfl | rfl | rfl | rfl | rfl | rfl | rfl | rfl | rfl
  all_goals exact ⟨by simp, by simp, by simp, by first | exact first_tlen.1 | exact first_tlen.2.1 | exact first_tlen.2.2, by first | exact first_tlen.1 | exact first_tlen.2.1 | exact first_tlen.2.2⟩

theorem steps_in {sv : Value} {Ss : List Stp} {w w' : World} (h : StepsAt w sv Ss) (hb : Below w.heap.size w w') : StepsAt w' sv Ss := by
  rcases h with h | ⟨a, cap, rfl, hc⟩
  · exact .inl h
  · refine .inr ⟨a, cap, rfl, fun j u hu => ?_⟩
    have h := hc j u hu
    exact (hb.cell (World.block_lt_of_cell? w _ h)).trans h

theorem ints_of_new (w : World) (zs : List Int) : ∀ j (h : j < zs.length), (w.alloc (.cells (zs.map (Value.int .i64)).toArray 3)).cell? ⟨w.heap.size, 0 + j, none⟩ = some (.int .i64 zs[j]) := by
  intro j h
  rw [Lib.cell_of_heap (heap_alloc_new w _), Nat.zero_add, List.getElem?_toArray, List.getElem?_map, List.getElem?_eq_getElem h]
  rfl

end Go.Proofs.Ytpiankiacbghcaa
