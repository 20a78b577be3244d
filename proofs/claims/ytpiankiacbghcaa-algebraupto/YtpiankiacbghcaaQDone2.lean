/-
  What is lent and looked at again; the book between two steps.
  Normal of the program, at every operation: what it gives is new memory.
  quilllaw.World.done: what holds between its calls.
  quilllaw.World.done: a Normal, an Apply.
-/
import Derived.Test.YtpiankiacbghcaaQParts
import Derived.Test.YtpiankiacbghcaaQWhole
import Derived.Test.YtpiankiacbghcaaOps1
namespace Go.Proofs.Ytpiankiacbghcaa
open Go.RowKit

/-- a list of parts that comes in, in blocks below lim: nil, or parts at an address. -/
def ArgAt (lim : Nat) (w : World) (v : Value) (Q : List Qt) : Prop :=
  (v = .slice none 0 0 ∧ Q = []) ∨ ∃ ad cap, v = .slice (some ad) Q.length cap ∧ (0 < Q.length → ∃ b off, ad = ⟨b, off, none⟩ ∧ b < lim ∧ ∀ k (h : k < Q.length), QtAt w b (off + k * 3) Q[k])

theorem QtAt.same {w w' : World} {b o : Nat} {p : Qt} (h : QtAt w b o p) (hs : w'.heap[b]? = w.heap[b]?) : QtAt w' b o p :=
  ⟨(World.cell?_of_block (a := ⟨b, _, none⟩) hs).trans h.1, (World.cell?_of_block (a := ⟨b, _, none⟩) hs).trans h.2.1, (World.cell?_of_block (a := ⟨b, _, none⟩) hs).trans h.2.2⟩

theorem ArgAt.same {lim : Nat} {w w' : World} {v : Value} {Q : List Qt} (h : ArgAt lim w v Q) (hs : ∀ q, q < lim → w'.heap[q]? = w.heap[q]?) : ArgAt lim w' v Q := by
  rcases h with h | ⟨ad, cap, rfl, hq⟩
  · exact .inl h
  · refine .inr ⟨ad, cap, rfl, fun h => ?_⟩
    obtain ⟨b, off, rfl, hb, hc⟩ := hq h
    exact ⟨b, off, rfl, hb, fun k hk => (hc k hk).same (hs b hb)⟩

theorem ArgAt.qs {lim : Nat} {w : World} {v : Value} {Q : List Qt} (h : ArgAt lim w v Q) (hl : lim ≤ w.heap.size) : QsAt w v Q := by
  rcases h with ⟨rfl, rfl⟩ | ⟨ad, cap, rfl, hq⟩
  · exact ⟨none, 0, rfl, fun h => by simp at h⟩
  · refine ⟨some ad, cap, rfl, fun h => ?_⟩
    obtain ⟨b, off, rfl, hb, hc⟩ := hq h
    exact ⟨b, off, rfl, by omega, hc⟩

theorem ArgAt.shape {lim : Nat} {w : World} {v : Value} {Q : List Qt} (h : ArgAt lim w v Q) : ∃ ao cap, v = .slice ao Q.length cap := by
  rcases h with ⟨rfl, rfl⟩ | ⟨ad, cap, rfl, _⟩
  · exact ⟨none, 0, rfl⟩
  · exact ⟨some ad, cap, rfl⟩

/-- a list that was lent for v. -/
def LentAt (lo : Nat) (w : World) (v x : Value) (Q : List Qt) : Prop :=
  (v = .slice none 0 0 ∧ x = .slice none 0 0 ∧ Q = []) ∨ ∃ ad cap g, v = .slice (some ad) Q.length cap ∧ x = .slice (some ⟨g, 0, none⟩) Q.length (Q.length + 8) ∧ lo ≤ g ∧ w.heap[g]? = some (.cells (rowQ (lentQ Q 8)).toArray 45 (0, 0))

theorem LentAt.same {lo : Nat} {w w' : World} {v x : Value} {Q : List Qt} (h : LentAt lo w v x Q) (hs : ∀ g, x.ownBlock = some g → g < w.heap.size → w'.heap[g]? = w.heap[g]?) : LentAt lo w' v x Q := by
  rcases h with h | ⟨ad, cap, g, rfl, rfl, hl, hg⟩
  · exact .inl h
  · exact .inr ⟨ad, cap, g, rfl, rfl, hl, (hs g rfl (lt_of_blk hg)).trans hg⟩

theorem LentAt.low {lo : Nat} {w : World} {v x : Value} {Q : List Qt} (h : LentAt lo w v x Q) : ∀ g, x.ownBlock = some g → lo ≤ g ∧ g < w.heap.size := by
  intro g hg
  rcases h with ⟨_, rfl, _⟩ | ⟨ad, cap, g', rfl, rfl, hl, hh⟩
  · cases hg
  · cases hg
    exact ⟨hl, lt_of_blk hh⟩

theorem LentAt.shape {lo : Nat} {w : World} {v x : Value} {Q : List Qt} (h : LentAt lo w v x Q) : ∃ ao cap, x = .slice ao Q.length cap := by
  rcases h with ⟨_, rfl, rfl⟩ | ⟨ad, cap, g', rfl, rfl, _⟩
  · exact ⟨none, 0, rfl⟩
  · exact ⟨_, _, rfl⟩

theorem LentAt.cap {lo : Nat} {w : World} {v x : Value} {Q : List Qt} (h : LentAt lo w v x Q) : CapOk x := by
  rcases h with ⟨_, rfl, _⟩ | ⟨ad, cap, g', rfl, rfl, _⟩
  · exact Nat.le_refl _
  · show Q.length ≤ Q.length + 8
    omega

theorem LentAt.qs {lo : Nat} {w : World} {v x : Value} {Q : List Qt} (h : LentAt lo w v x Q) : QsAt w x Q := by
  rcases h with ⟨_, rfl, rfl⟩ | ⟨ad, cap, g, rfl, rfl, _, hg⟩
  · exact ⟨none, 0, rfl, fun h => by simp at h⟩
  · refine ⟨_, _, rfl, fun h => ⟨g, 0, rfl, lt_of_blk hg, fun k hk => ?_⟩⟩
    have hlen : (lentQ Q 8).length = Q.length + 8 := lentQ_length Q 8 (by omega)
    have hat : ∀ j, j < 3 → w.cell? ⟨g, k * 3 + j, none⟩ = (qCells Q[k])[j]? := by
      intro j hj
      rw [Lib.cell_of_heap hg, List.getElem?_toArray, rowQ_at _ k (by omega) j hj]
      congr 2
      simp [lentQ, List.getElem_append_left hk]
    rw [Nat.zero_add]
    exact ⟨hat 0 (by omega), hat 1 (by omega), hat 2 (by omega)⟩

theorem lent_any {lim : Nat} (v : Value) (Q : List Qt) (w : World) (h : ArgAt lim w v Q) (hl : lim ≤ w.heap.size) (hn : Q.length ≤ 1000000000) :
    Calls Try.prog 61 #[v] w fun e w' => ∃ x, e = .returned x ∧ LentAt w.heap.size w' v x Q ∧ Below w.heap.size w w' := by
  rcases h with ⟨rfl, rfl⟩ | ⟨ad, cap, rfl, hq⟩
  · refine (lent_nil w).mono ?_
    rintro e w' ⟨rfl, rfl⟩
    exact ⟨_, rfl, .inl ⟨rfl, rfl, rfl⟩, Below.refl _ _⟩
  · refine (lent_some ad cap Q w (fun h => ?_) hn).mono ?_
    · obtain ⟨b, off, rfl, hb, hc⟩ := hq h
      exact ⟨b, off, rfl, by omega, hc⟩
    · rintro e w' ⟨rfl, hg, hb⟩
      exact ⟨_, rfl, .inr ⟨ad, cap, _, rfl, rfl, Nat.le_refl _, hg⟩, hb⟩

theorem wholeQ_any {lim lo : Nat} (v x : Value) (Q : List Qt) (w : World) (h : LentAt lo w v x Q) (ha : ArgAt lim w v Q) (hl : lim ≤ lo) (hz : lim ≤ w.heap.size) (hn : Q.length ≤ 1000000000) :
    Calls Try.prog 68 #[x, v] w fun e w' => e = .returned (.bool true) ∧ Below lo w w' ∧ KeepX (fun k => x.ownBlock = some k) w w' := by
  rcases h with ⟨rfl, rfl, rfl⟩ | ⟨ad, cap, g, rfl, rfl, hg, hh⟩
  · refine (whole_nil _ w).mono ?_
    rintro e w' ⟨rfl, rfl⟩
    exact ⟨rfl, Below.refl _ _, fun _ _ _ => rfl⟩
  · rcases ha with ⟨e, _⟩ | ⟨ad', cap', e, hq⟩
    · cases e
    · simp only [Value.slice.injEq, Option.some.injEq, true_and] at e
      obtain ⟨rfl, rfl⟩ := e
      refine (whole_some g ad cap Q w hh (fun h => ?_) (fun h => ?_) hn).mono ?_
      · obtain ⟨b, off, rfl, hb, hc⟩ := hq h
        show b ≠ g
        omega
      · obtain ⟨b, off, rfl, hb, hc⟩ := hq h
        exact ⟨b, off, rfl, by omega, hc⟩
      · rintro e w' ⟨rfl, hb, hk⟩
        exact ⟨rfl, hb.mono hg, fun q hq hn => hk q hq fun e => hn (by subst e; rfl)⟩

/-- the book, between two steps: its cells; each list reads as its mark. -/
structure Bk (base : Nat) (w : World) (kv : Value) (Vs : List Value) : Prop where
  cells : w.heap[base]? = some (.cells #[.slice none 0 0, kv, .slice none 0 0] 56 (0, 0))
  row : w.ownsRow base 28 1 kv Vs.length Vs
  marks : ∀ i (h : i < Vs.length), ∃ n, n ≤ 1000 ∧ Mk w Vs[i] (-1000 - (i : Int) / 4) n
  lt : ∀ i (h : i < Vs.length) g, Vs[i].ownBlock = some g → g < w.heap.size
  four : Vs.length % 4 = 0

theorem Bk.same {base : Nat} {w w' : World} {kv : Value} {Vs : List Value} (h : Bk base w kv Vs) (hz : w.heap.size ≤ w'.heap.size) (hb : w'.heap[base]? = w.heap[base]?) (hk : ∀ g, kv.ownBlock = some g → w'.heap[g]? = w.heap[g]?) (hv : ∀ i (_ : i < Vs.length) g, Vs[i].ownBlock = some g → w'.heap[g]? = w.heap[g]?) : Bk base w' kv Vs :=
  ⟨hb.trans h.cells, own_same h.row fun g hg _ => hk g hg, fun i hi => by obtain ⟨n, hn, hm⟩ := h.marks i hi; exact ⟨n, hn, hm.same fun g hg _ => hv i hi g hg⟩, fun i hi g hg => Nat.lt_of_lt_of_le (h.lt i hi g hg) hz, h.four⟩

theorem Bk.stay {base : Nat} {w w' : World} {kv : Value} {Vs : List Value} (h : Bk base w kv Vs) (hb : Below w.heap.size w w') : Bk base w' kv Vs :=
  h.same hb.size (hb.block _ (lt_of_blk h.cells)) (fun g hg => hb.block g (own_block h.row hg).1) fun i hi g hg => hb.block g (h.lt i hi g hg)

/-- all that the book holds lies below lo, or from hi on. -/
def Out (lo hi base : Nat) (kv : Value) (Vs : List Value) : Prop := base < lo ∧ (∀ g, kv.ownBlock = some g → g < lo ∨ hi ≤ g) ∧ ∀ i (_ : i < Vs.length) g, Vs[i].ownBlock = some g → g < lo ∨ hi ≤ g

theorem Bk.out {base : Nat} {w : World} {kv : Value} {Vs : List Value} (h : Bk base w kv Vs) (hi : Nat) : Out w.heap.size hi base kv Vs :=
  ⟨lt_of_blk h.cells, fun _ hg => .inl (own_block h.row hg).1, fun i hi g hg => .inl (h.lt i hi g hg)⟩

theorem Bk.avoid {lo hi base : Nat} {w w' : World} {kv : Value} {Vs : List Value} {S : Nat → Prop} (h : Bk base w kv Vs) (ho : Out lo hi base kv Vs) (hz : w.heap.size ≤ w'.heap.size) (hk : KeepX S w w') (hS : ∀ q, S q → lo ≤ q ∧ q < hi) : Bk base w' kv Vs := by
  have hno : ∀ q, q < lo ∨ hi ≤ q → ¬ S q := fun q hq hs => by have := hS q hs; omega
  exact h.same hz (hk _ (lt_of_blk h.cells) (hno _ (.inl ho.1))) (fun g hg => hk g (own_block h.row hg).1 (hno g (ho.2.1 g hg))) fun i hi g hg => hk g (h.lt i hi g hg) (hno g (ho.2.2 i hi g hg))

theorem Mk.int0 {w : World} {v : Value} {m : Int} {n : Nat} (h : Mk w v m n) (hn : 0 < n) : ∃ b cap, v = .slice (some ⟨b, 0, none⟩) n cap ∧ w.cell? ⟨b, 0, none⟩ = some (.int .i64 m) := by
  obtain ⟨ao, cap, rfl, hc⟩ := h
  obtain ⟨b, rfl, hq⟩ := hc hn
  have := (hq 0 hn).1
  rw [Nat.zero_mul] at this
  exact ⟨b, cap, rfl, this⟩

/-- a list of the book does not lie in the book's own blocks. -/
theorem Bk.apart {base : Nat} {w : World} {kv : Value} {Vs : List Value} (h : Bk base w kv Vs) {i : Nat} (hi : i < Vs.length) {m : Int} {n : Nat} (hm : Mk w Vs[i] m n) (hn : 0 < n) : ∀ g, Vs[i].ownBlock = some g → g ≠ base ∧ kv.ownBlock ≠ some g := by
  intro g hg
  obtain ⟨b, cap, e, hc⟩ := hm.int0 hn
  rw [e] at hg
  cases hg
  refine ⟨fun eb => ?_, fun ek => ?_⟩
  · replace eb : b = base := eb
    rw [eb, Lib.cell_of_heap h.cells] at hc
    simp at hc
  · rcases h.row.2 with ⟨rfl, _⟩ | ⟨g', cap', cur, rfl, _, hh, _, _, _, htk⟩
    · cases ek
    · cases ek
      obtain ⟨n0, _, a0, c0, e0, _⟩ := h.marks 0 (by omega)
      rw [Lib.cell_of_heap hh] at hc
      have h1 : (cur.toList.take (Vs.length * 1))[0]? = Vs[0]? := by rw [htk]
      rw [List.getElem?_take_of_lt (by omega), Array.getElem?_toList, hc, List.getElem?_eq_getElem (by omega), e0] at h1
      cases h1

theorem Bk.kept {base n : Nat} {w w' : World} {kv lv one two three kv' : Value} {Vs : List Value} (h : Bk base w kv Vs) (hK : Keeps w base 1 base #[.slice none 0 0, kv, .slice none 0 0] kv lv Vs (-1000 - (Vs.length : Int) / 4) n one two three kv' w') (hn : n ≤ 900)
    (hlv : ∀ g, lv.ownBlock = some g → g < w.heap.size ∧ ∀ i (_ : i < Vs.length), Vs[i].ownBlock ≠ some g) : Bk base w' kv' (Vs ++ [lv, one, two, three]) := by
  have hz := hK.bel.size
  have h4 := h.four
  have key : ∀ i (hi : i < (Vs ++ [lv, one, two, three]).length), (∃ n, n ≤ 1000 ∧ Mk w' (Vs ++ [lv, one, two, three])[i] (-1000 - (i : Int) / 4) n) ∧ ∀ g, (Vs ++ [lv, one, two, three])[i].ownBlock = some g → g < w'.heap.size := by
    intro i hi
    rcases Nat.lt_or_ge i Vs.length with hlt | hge
    · rw [List.getElem_append_left hlt]
      refine ⟨?_, fun g hg => Nat.lt_of_lt_of_le (h.lt i hlt g hg) hz⟩
      obtain ⟨k, hk, hm⟩ := h.marks i hlt
      refine ⟨k, hk, ?_⟩
      rcases Nat.eq_zero_or_pos k with rfl | hpos
      · obtain ⟨ao, cap, e, _⟩ := hm
        exact ⟨ao, cap, e, fun h => by omega⟩
      · refine hm.same fun g hg hlt2 => ?_
        have ha := h.apart hlt hm hpos g hg
        exact hK.old g hlt2 ha.1 (fun e => (hlv g e).2 i hlt hg) ha.2
    · rw [List.getElem_append_right hge]
      obtain ⟨j, rfl⟩ := Nat.exists_eq_add_of_le hge
      have hj : j < 4 := by simp at hi; omega
      have hq : (-1000 - ((Vs.length + j : Nat) : Int) / 4) = -1000 - (Vs.length : Int) / 4 := by omega
      rw [hq]
      have hblk : ∀ (u : Value) (k : Nat), Mk w' u (-1000 - (Vs.length : Int) / 4) (k + 1) → ∀ g, u.ownBlock = some g → g < w'.heap.size := by
        intro u k hm g hg
        obtain ⟨b, cap, e, hc⟩ := hm.int0 (by omega)
        rw [e] at hg
        cases hg
        exact World.block_lt_of_cell? w' _ hc
      have hj' : j = 0 ∨ j = 1 ∨ j = 2 ∨ j = 3 := by omega
      rcases hj' with rfl | rfl | rfl | rfl
      · simp only [Nat.add_zero, Nat.sub_self, List.getElem_cons_zero]
        exact ⟨⟨n, by omega, hK.mk0⟩, fun g hg => Nat.lt_of_lt_of_le (hlv g hg).1 hz⟩
      · simp only [Nat.add_sub_cancel_left, List.getElem_cons_zero, List.getElem_cons_succ]
        exact ⟨⟨n + 1, by omega, hK.mk1⟩, hblk _ _ hK.mk1⟩
      · simp only [Nat.add_sub_cancel_left, List.getElem_cons_zero, List.getElem_cons_succ]
        exact ⟨⟨n + 2, by omega, hK.mk2⟩, hblk _ _ hK.mk2⟩
      · simp only [Nat.add_sub_cancel_left, List.getElem_cons_zero, List.getElem_cons_succ]
        exact ⟨⟨n + 3, by omega, hK.mk3⟩, hblk _ _ hK.mk3⟩
  refine ⟨hK.hkb, ?_, fun i hi => (key i hi).1, fun i hi => (key i hi).2, by simp; omega⟩
  have hl : (Vs ++ [lv, one, two, three]).length = Vs.length + 4 := by simp
  rw [hl]
  exact hK.row

theorem Out.kept {lo hi base n : Nat} {w w' : World} {kv lv one two three kv' : Value} {Vs : List Value} {m : Int} {kcs : Array Value} (h : Out lo hi base kv Vs) (hK : Keeps w base 1 base kcs kv lv Vs m n one two three kv' w') (hz : hi ≤ w.heap.size) (hlv : ∀ g, lv.ownBlock = some g → g < lo ∨ hi ≤ g) : Out lo hi base kv' (Vs ++ [lv, one, two, three]) := by
  have hone : ∀ u ∈ [one, two, three], ∀ g, u.ownBlock = some g → g < lo ∨ hi ≤ g := by
    intro u hu g hg
    rcases hK.lo u hu g hg with h1 | h1
    · exact hlv g h1
    · exact .inr (by omega)
  refine ⟨h.1, fun g hg => ?_, fun i hi g hg => ?_⟩
  · rcases hK.kvo g hg with h1 | h1
    · exact h.2.1 g h1
    · exact .inr (by omega)
  · have hm := List.getElem_mem hi
    rcases Nat.lt_or_ge i Vs.length with hlt | hge
    · rw [List.getElem_append_left hlt] at hg
      exact h.2.2 i hlt g hg
    · rw [List.getElem_append_right hge] at hg
      have hmem : ([lv, one, two, three])[i - Vs.length]'(by simp at hi ⊢; omega) ∈ [lv, one, two, three] := List.getElem_mem _
      rcases List.mem_cons.1 hmem with e | e
      · rw [e] at hg
        exact hlv g hg
      · exact hone _ e g hg

theorem Bk.looks {base : Nat} {w : World} {kv : Value} {Vs : List Value} (h : Bk base w kv Vs) (hV : Vs.length ≤ 1000000000) : BookAt w base 1 Vs := by
  refine ⟨?_, (Lib.cell_of_heap h.cells 2).trans rfl, fun i hi => ?_, hV⟩
  · rcases h.row.2 with ⟨rfl, h0⟩ | ⟨g, cap, cur, rfl, _, hh, _, _, _, htk⟩
    · refine ⟨none, 0, ?_, fun hp => by omega⟩
      rw [h0]
      exact (Lib.cell_of_heap h.cells 1).trans rfl
    · refine ⟨some ⟨g, 0, none⟩, cap, (Lib.cell_of_heap h.cells 1).trans rfl, fun hp => ⟨g, 0, rfl, fun i hi => ?_⟩⟩
      rw [Lib.cell_of_heap hh, Nat.zero_add]
      have h1 : (cur.toList.take (Vs.length * 1))[i]? = Vs[i]? := by rw [htk]
      rw [List.getElem?_take_of_lt (by omega), Array.getElem?_toList, List.getElem?_eq_getElem hi] at h1
      exact h1
  · obtain ⟨n, hn, hm⟩ := h.marks i hi
    exact hm.marks (by omega)

theorem own_lower {w : World} {base base' sz n : Nat} {e : TypeId} {v : Value} {xs : List Value} (h : w.ownsRow base e sz v n xs) (hb : base' ≤ base) : w.ownsRow base' e sz v n xs := by
  refine ⟨h.1, ?_⟩
  rcases h.2 with hn | ⟨g, cap, cur, rfl, hbb, hgg, rest⟩
  · exact .inl hn
  · exact .inr ⟨g, cap, cur, rfl, by omega, hgg, rest⟩

theorem Normal_own (v : Value) (L : List Pt) (us : List Un) (n : Nat) (w : World) (hp : PartsAt w v L) (hcap : CapOk v) (hok : OpU L us n) :
    Calls Try.prog 14 #[v, .int .i64 n] w fun e w' => ∃ v', e = .returned (.tuple #[v', .int .i64 0]) ∧ w'.ownsRow w.heap.size 45 3 v' (normU us).length (rowOf (normU us)) ∧ (normU us).length ≤ L.length ∧ Below w.heap.size w w' := by
  have HP : Hid (PartsAt w v L ∧ OpU L us n ∧ CapOk v) := ⟨hp, hok, hcap⟩
  obtain ⟨ao, cap, rfl, hc⟩ := hp
  clear hok hcap hc
  go_enter Try.func14, Try.ntmps14
  go_wp2_with fail
  refine (errorOf_ok _ L n _ HP.out.1 HP.out.2.1.ok).mono ?_
  rintro e w1 ⟨rfl, hb1⟩
  go_wp2_with fail
  refine (pNormal_any _ L us _ (HP.out.1.below hb1 (Nat.le_refl _)) HP.out.2.2 HP.out.2.1.reads (by have := HP.out.2.1.len; omega) (by have := HP.out.2.1.bytes; omega) (by have := HP.out.2.1.units; omega)).mono ?_
  rintro e w2 ⟨v', rfl, ⟨hp2, hl2⟩, hb2⟩
  go_wp2
  go_ret2
  exact ⟨v', rfl, own_lower hp2 hb1.size, hl2, hb1.trans (hb2.mono hb1.size)⟩

/-- between the calls of done, as long as nothing old is written: the step's box, what was lent. -/
structure DS (w : World) (vs : Array Value) (vL vM x y : Value) (QL QM : List Qt) (wi : World) : Prop where
  bel : Below w.heap.size w wi
  box : wi.heap[w.heap.size]? = some (.cells vs 58 (0, 0))
  lx : LentAt (w.heap.size + 1) wi vL x QL
  ly : LentAt (w.heap.size + 1) wi vM y QM
  apart : ∀ g, x.ownBlock = some g → y.ownBlock ≠ some g

theorem DS.stay {w wi wj : World} {vs : Array Value} {vL vM x y : Value} {QL QM : List Qt} (h : DS w vs vL vM x y QL QM wi) (hb : Below wi.heap.size wi wj) : DS w vs vL vM x y QL QM wj :=
  ⟨h.bel.trans (hb.mono h.bel.size), (hb.block _ (lt_of_blk h.box)).trans h.box, h.lx.same fun g _ hg => hb.block g hg, h.ly.same fun g _ hg => hb.block g hg, h.apart⟩

theorem DS.start {w w0 w1 w2 : World} {vs : Array Value} {vL vM x y : Value} {QL QM : List Qt} (h0 : w0 = w.alloc (.cells vs 58)) (hx : LentAt w0.heap.size w1 vL x QL) (hb1 : Below w0.heap.size w0 w1) (hy : LentAt w1.heap.size w2 vM y QM) (hb2 : Below w1.heap.size w1 w2) : DS w vs vL vM x y QL QM w2 := by
  have hs0 : w0.heap.size = w.heap.size + 1 := by rw [h0]; simp
  have hb0 : Below w.heap.size w w0 := by rw [h0]; exact (Below.refl _ _).alloc (Nat.le_refl _) _
  have hz1 := hb1.size
  have hbox : w0.heap[w.heap.size]? = some (.cells vs 58 (0, 0)) := by rw [h0]; exact heap_alloc_new w _
  refine ⟨(hb0.trans (hb1.mono (by omega))).trans (hb2.mono (by omega)), (hb2.block _ (by omega)).trans ((hb1.block _ (by omega)).trans hbox), ?_, ?_, fun g hg hg2 => ?_⟩
  · rw [hs0] at hx
    exact hx.same fun g _ hg => hb2.block g hg
  · rcases hy with hn | ⟨ad, cap, g, e1, e2, hl, hh⟩
    · exact .inl hn
    · exact .inr ⟨ad, cap, g, e1, e2, by omega, hh⟩
  · have := (hx.low g hg).2
    have := (hy.low g hg2).1
    omega

/-- behind what done asks: the book may have grown. -/
structure DE (base : Nat) (w : World) (vs : Array Value) (vL vM x y : Value) (QL QM : List Qt) (kv : Value) (Vs : List Value) (wi : World) : Prop where
  bel : Below base w wi
  box : wi.heap[w.heap.size]? = some (.cells vs 58 (0, 0))
  lx : LentAt (w.heap.size + 1) wi vL x QL
  ly : LentAt (w.heap.size + 1) wi vM y QM
  apart : ∀ g, x.ownBlock = some g → y.ownBlock ≠ some g
  book : Bk base wi kv Vs
  out : ∃ hi, Out w.heap.size hi base kv Vs ∧ ∀ g, x.ownBlock = some g ∨ y.ownBlock = some g → g < hi

theorem DS.same {base : Nat} {w wi : World} {vs : Array Value} {vL vM x y kv : Value} {QL QM : List Qt} {Vs : List Value} (h : DS w vs vL vM x y QL QM wi) (hk : Bk base w kv Vs) : DE base w vs vL vM x y QL QM kv Vs wi := by
  have hlt := lt_of_blk hk.cells
  refine ⟨h.bel.mono (by omega), h.box, h.lx, h.ly, h.apart, hk.stay h.bel, wi.heap.size, hk.out _, fun g hg => ?_⟩
  rcases hg with hg | hg
  · exact (h.lx.low g hg).2
  · exact (h.ly.low g hg).2

theorem DS.kept {base n : Nat} {w w2 wi w' : World} {vs : Array Value} {vL vM x y kv lv one two three kv' : Value} {QL QM : List Qt} {Vs : List Value} (h2 : DS w vs vL vM x y QL QM w2) (h : DS w vs vL vM x y QL QM wi) (hz : w2.heap.size ≤ wi.heap.size) (hk : Bk base w kv Vs)
    (hK : Keeps wi base 1 base #[.slice none 0 0, kv, .slice none 0 0] kv lv Vs (-1000 - (Vs.length : Int) / 4) n one two three kv' w') (hn : n ≤ 900) (hlv : ∀ g, lv.ownBlock = some g → w2.heap.size ≤ g ∧ g < wi.heap.size) : DE base w vs vL vM x y QL QM kv' (Vs ++ [lv, one, two, three]) w' := by
  have hlt := lt_of_blk hk.cells
  have hs2 := lt_of_blk h2.box
  have hzz := h2.bel.size
  have hold : ∀ q, w.heap.size ≤ q → q < w2.heap.size → w'.heap[q]? = wi.heap[q]? := by
    intro q h1 h2
    refine hK.old q (by omega) (by omega) (fun e => ?_) fun e => ?_
    · have := (hlv q e).1
      omega
    · have := (own_block hk.row e).1
      omega
  have hgx : ∀ g, x.ownBlock = some g ∨ y.ownBlock = some g → w.heap.size ≤ g ∧ g < w2.heap.size := by
    intro g hg
    rcases hg with hg | hg
    · have := h2.lx.low g hg
      omega
    · have := h2.ly.low g hg
      omega
  refine ⟨(h.bel.mono (by omega)).trans hK.bel, (hold _ (Nat.le_refl _) hs2).trans h.box, h.lx.same fun g hg _ => hold g (hgx g (.inl hg)).1 (hgx g (.inl hg)).2, h.ly.same fun g hg _ => hold g (hgx g (.inr hg)).1 (hgx g (.inr hg)).2, h.apart, ?_, w2.heap.size, ?_, fun g hg => (hgx g hg).2⟩
  · refine (hk.stay h.bel).kept hK hn fun g hg => ⟨(hlv g hg).2, fun i hi e => ?_⟩
    have := hk.lt i hi g e
    have := (hlv g hg).1
    omega
  · exact (hk.out w2.heap.size).kept hK hz fun g hg => .inr (hlv g hg).1

structure DF (base : Nat) (w : World) (vs : Array Value) (vM y : Value) (QM : List Qt) (kv : Value) (Vs : List Value) (wi : World) : Prop where
  bel : Below base w wi
  box : wi.heap[w.heap.size]? = some (.cells vs 58 (0, 0))
  ly : LentAt (w.heap.size + 1) wi vM y QM
  book : Bk base wi kv Vs
  out : ∃ hi, Out w.heap.size hi base kv Vs ∧ ∀ g, y.ownBlock = some g → g < hi

/-- the first list is looked at again. -/
theorem DE.first {base : Nat} {w wi : World} {vs : Array Value} {vL vM x y kv : Value} {QL QM : List Qt} {Vs : List Value} (h : DE base w vs vL vM x y QL QM kv Vs wi) (ha : ArgAt base w vL QL) (hn : QL.length ≤ 1000000000) :
    Calls Try.prog 68 #[x, vL] wi fun e w' => e = .returned (.bool true) ∧ DF base w vs vM y QM kv Vs w' := by
  have hlt : base < w.heap.size := by obtain ⟨hi, ho, _⟩ := h.out; exact ho.1
  have hz := h.bel.size
  refine (wholeQ_any (lim := base) vL x QL wi h.lx (ha.same fun q hq => h.bel.block q hq) (by omega) (by omega) hn).mono ?_
  rintro e w' ⟨rfl, hb, hk⟩
  refine ⟨rfl, h.bel.trans (hb.mono (by omega)), (hb.block _ (by omega)).trans h.box, h.ly.same fun g hg hl => hk g hl fun e => h.apart g e hg, ?_, ?_⟩
  · obtain ⟨hi, ho, hg⟩ := h.out
    exact h.book.avoid ho hb.size hk fun q hq => ⟨by have := (h.lx.low q hq).1; omega, hg q (.inl hq)⟩
  · obtain ⟨hi, ho, hg⟩ := h.out
    exact ⟨hi, ho, fun g e => hg g (.inr e)⟩

/-- and the second. -/
theorem DF.second {base : Nat} {w wi : World} {vs : Array Value} {vM y kv : Value} {QM : List Qt} {Vs : List Value} (h : DF base w vs vM y QM kv Vs wi) (ha : ArgAt base w vM QM) (hn : QM.length ≤ 1000000000) :
    Calls Try.prog 68 #[y, vM] wi fun e w' => e = .returned (.bool true) ∧ Below base w w' ∧ Bk base w' kv Vs := by
  have hlt : base < w.heap.size := by obtain ⟨hi, ho, _⟩ := h.out; exact ho.1
  have hz := h.bel.size
  refine (wholeQ_any (lim := base) vM y QM wi h.ly (ha.same fun q hq => h.bel.block q hq) (by omega) (by omega) hn).mono ?_
  rintro e w' ⟨rfl, hb, hk⟩
  refine ⟨rfl, h.bel.trans (hb.mono (by omega)), ?_⟩
  obtain ⟨hi, ho, hg⟩ := h.out
  exact h.book.avoid ho hb.size hk fun q hq => ⟨by have := (h.ly.low q hq).1; omega, hg q hq⟩

theorem rowOf_q (N : List Pt) : rowOf N = rowQ (N.map Pt.q) := by
  induction N with
  | nil => rfl
  | cons p N ih =>
    simp only [rowOf, rowQ, List.map_cons, List.flatMap_cons] at *
    rw [ih]
    rfl

theorem parts_eq (base bl bm : Nat) (kv lv mv : Value) (Vs : List Value) (e : Int) (N : List Pt) (w : World) (hk : Bk base w kv Vs) (hl : w.ownsRow bl 45 3 lv N.length (rowOf N)) (hm : w.ownsRow bm 45 3 mv N.length (rowOf N)) (he : lv = .slice none 0 0 ∨ e = 0) (hb : base ≤ bl) (hV : Vs.length ≤ 100000000) (hN : N.length ≤ 900) :
    Calls Try.prog 63 #[.pointer (some ⟨base, 0, none⟩), lv, .int .i64 e, mv, .int .i64 e] w fun e w' => e = .returned (.bool true) ∧ ∃ kv' one two three, Keeps w base 1 base #[.slice none 0 0, kv, .slice none 0 0] kv lv Vs (-1000 - (Vs.length : Int) / 4) N.length one two three kv' w' := by
  have hlt := lt_of_blk hk.cells
  obtain ⟨am, cm, rfl⟩ := own_shape hm rfl
  rcases hl.2 with ⟨rfl, h0⟩ | ⟨g, cap, cur, rfl, hg, hh, _⟩
  · have hN0 : N = [] := List.eq_nil_of_length_eq_zero h0
    subst hN0
    exact parts_nil base base _ kv Vs e am cm w hk.cells rfl hk.row hV (by omega) (Nat.le_refl _)
  · have he0 : e = 0 := by
      rcases he with h | h
      · cases h
      · exact h
    subst he0
    have hlen : (N.map Pt.q).length = N.length := List.length_map ..
    have h := parts_some base base _ kv Vs ⟨g, 0, none⟩ cap am cm (N.map Pt.q) w hk.cells rfl hk.row (by rw [hlen, ← rowOf_q]; exact own_lower hl hb) (fun hpos => ?_) hV (by omega) (by omega) (Nat.le_refl _)
    · rw [hlen] at h
      exact h
    · rw [hlen] at hpos
      rcases hm.2 with ⟨_, h0⟩ | ⟨g2, cap2, cur2, e2, _⟩
      · omega
      · simp only [Value.slice.injEq, true_and] at e2
        obtain ⟨rfl, rfl⟩ := e2
        refine ⟨g2, 0, rfl, fun k hk2 => ?_⟩
        have hc := hm.cells (g := g2) rfl
        rw [rowOf_q] at hc
        have hadd : ∀ j, (⟨g2, 0, none⟩ : Addr).add j = ⟨g2, j, none⟩ := fun j => by unfold Addr.add; split <;> simp_all
        have h0 := hc (k * 3 + 0) _ (rowQ_at _ k hk2 0 (by omega))
        have h1 := hc (k * 3 + 1) _ (rowQ_at _ k hk2 1 (by omega))
        have h2 := hc (k * 3 + 2) _ (rowQ_at _ k hk2 2 (by omega))
        rw [hadd] at h0 h1 h2
        rw [Nat.zero_add]
        exact ⟨h0, h1, h2⟩

/-- what Normal gives, the program's and the document's. -/
def NormSays (F : FuncId) (Q : List Qt) (A : Int) (N : List Pt) (err : Int) : Prop :=
  ∀ w x, QsAt w x Q → CapOk x → Calls Try.prog F #[x, .int .i64 A] w fun e w' => ∃ lv, e = .returned (.tuple #[lv, .int .i64 err]) ∧ w'.ownsRow w.heap.size 45 3 lv N.length (rowOf N) ∧ (lv = .slice none 0 0 ∨ err = 0) ∧ Below w.heap.size w w'

def ArgOk (base : Nat) (w : World) (v : Value) (Q : List Qt) : Prop := ArgAt base w v Q ∧ CapOk v ∧ Q.length ≤ 1000000000

set_option maxHeartbeats 2000000 in
set_option maxRecDepth 100000 in
theorem done_normal (base : Nat) (A B C D : Int) (t : List UInt8) (vL vM kv : Value) (QL QM : List Qt) (Vs : List Value) (N : List Pt) (err : Int) (w : World) (hk : Bk base w kv Vs) (hV : Vs.length ≤ 100000000) (aL : ArgOk base w vL QL) (aM : ArgOk base w vM QM) (hN : N.length ≤ 900)
    (h1 : NormSays 14 QL A N err) (h2 : NormSays 62 QL A N err) :
    Calls Try.prog 36 #[.pointer (some ⟨base, 0, none⟩), .agg #[.int .i64 1, .int .i64 A, .int .i64 B, .int .i64 C, .int .i64 D, .string (bs t), vL, vM]] w fun e w' => e = .returned (.bool true) ∧ Below base w w' ∧ ∃ kv' Vs', Bk base w' kv' Vs' ∧ Vs'.length ≤ Vs.length + 8 := by
  obtain ⟨aoL, capL, rfl⟩ := aL.1.shape
  obtain ⟨aoM, capM, rfl⟩ := aM.1.shape
  have HL : Hid (ArgOk base w (.slice aoL QL.length capL) QL) := aL
  have HM : Hid (ArgOk base w (.slice aoM QM.length capM) QM) := aM
  have HK : Hid (Bk base w kv Vs ∧ Vs.length ≤ 100000000 ∧ N.length ≤ 900 ∧ base < w.heap.size) := ⟨hk, hV, hN, lt_of_blk hk.cells⟩
  have H1 : Hid (NormSays 14 QL A N err) := h1
  have H2 : Hid (NormSays 62 QL A N err) := h2
  clear aL aM hk hV hN h1 h2
  go_enter Try.func36, Try.ntmps36
  go_wp2_with fail
  refine (lent_any (lim := base) _ QL _ (HL.out.1.same fun q hq => Lib.alloc_old w _ q (by have := HK.out.2.2.2; omega)) (by have := HK.out.2.2.2; simp; omega) HL.out.2.2).mono ?_
  rintro e w1 ⟨x, rfl, hx, hb1⟩
  obtain ⟨ax, cx, rfl⟩ := hx.shape
  have hbx := (hb1.block w.heap.size (by simp)).trans (heap_alloc_new w _)
  have c7 : w1.cell? ⟨w.heap.size, 7, none⟩ = some (.slice aoM QM.length capM) := (Lib.cell_of_heap hbx 7).trans rfl
  have hz1 : w.heap.size < w1.heap.size := lt_of_blk hbx
  have HX : Hid (∀ q, q < base → w1.heap[q]? = w.heap[q]?) := fun q hq => by have h0 := HK.out.2.2.2; exact (hb1.block q (by simp; omega)).trans (Lib.alloc_old w _ q (by omega))
  have HS : Hid (∀ y w2, LentAt w1.heap.size w2 (.slice aoM QM.length capM) y QM → Below w1.heap.size w1 w2 → DS w _ (.slice aoL QL.length capL) (.slice aoM QM.length capM) (.slice ax QL.length cx) y QL QM w2) := fun y w2 hy hb2 => DS.start rfl hx hb1 hy hb2
  clear hx hb1 hbx
  go_wp2_with fail
  refine (lent_any (lim := base) _ QM _ (HM.out.1.same HX.out) (by have := HK.out.2.2.2; omega) HM.out.2.2).mono ?_
  rintro e w2 ⟨y, rfl, hy, hb2⟩
  obtain ⟨ay, cy, rfl⟩ := hy.shape
  have HS2 : Hid (DS w _ (.slice aoL QL.length capL) (.slice aoM QM.length capM) (.slice ax QL.length cx) (.slice ay QM.length cy) QL QM w2) := HS.out _ _ hy hb2
  clear hy hb2 c7 HX HS hz1
  have c0 : w2.cell? ⟨w.heap.size, 0, none⟩ = some (.int .i64 1) := (Lib.cell_of_heap HS2.out.box 0).trans rfl
  have c1 : w2.cell? ⟨w.heap.size, 1, none⟩ = some (.int .i64 A) := (Lib.cell_of_heap HS2.out.box 1).trans rfl
  go_wp2_with fail
  refine (H1.out _ _ HS2.out.lx.qs HS2.out.lx.cap).mono ?_
  rintro e w3 ⟨lv, rfl, hl, hz, hb3⟩
  obtain ⟨al, cl, rfl⟩ := own_shape hl rfl
  have HS3 : Hid (DS w _ (.slice aoL QL.length capL) (.slice aoM QM.length capM) (.slice ax QL.length cx) (.slice ay QM.length cy) QL QM w3) := HS2.out.stay hb3
  have HN : Hid (w3.ownsRow w2.heap.size 45 3 (.slice al N.length cl) N.length (rowOf N) ∧ (Value.slice al N.length cl = .slice none 0 0 ∨ err = 0) ∧ Below w2.heap.size w2 w3) := ⟨hl, hz, hb3⟩
  clear hl hz hb3 c0 c1
  have c1 : w3.cell? ⟨w.heap.size, 1, none⟩ = some (.int .i64 A) := (Lib.cell_of_heap HS3.out.box 1).trans rfl
  have c6 : w3.cell? ⟨w.heap.size, 6, none⟩ = some (.slice aoL QL.length capL) := (Lib.cell_of_heap HS3.out.box 6).trans rfl
  go_wp2_with fail
  refine (H2.out _ _ ((HL.out.1.qs (by have := HK.out.2.2.2; omega)).below HS3.out.bel (Nat.le_refl _)) HL.out.2.1).mono ?_
  rintro e w4 ⟨mv, rfl, hm, hz, hb4⟩
  obtain ⟨am, cm, rfl⟩ := own_shape hm rfl
  have HS4 : Hid (DS w _ (.slice aoL QL.length capL) (.slice aoM QM.length capM) (.slice ax QL.length cx) (.slice ay QM.length cy) QL QM w4) := HS3.out.stay hb4
  have HN4 : Hid (w4.ownsRow w2.heap.size 45 3 (.slice al N.length cl) N.length (rowOf N) ∧ w4.ownsRow w3.heap.size 45 3 (.slice am N.length cm) N.length (rowOf N) ∧ w2.heap.size ≤ w4.heap.size) := ⟨own_same HN.out.1 fun g _ hg => hb4.block g hg, hm, by have := HN.out.2.2.size; have := hb4.size; omega⟩
  clear hm hz hb4 c1 c6
  go_wp2_with fail
  refine (parts_eq base w2.heap.size w3.heap.size kv _ _ Vs err N _ (HK.out.1.stay HS4.out.bel) HN4.out.1 HN4.out.2.1 HN.out.2.1 (by have := HK.out.2.2.2; have := HS2.out.bel.size; omega) HK.out.2.1 HK.out.2.2.1).mono ?_
  rintro e w5 ⟨rfl, kv', one, two, three, hK⟩
  have HE : Hid (DE base w _ (.slice aoL QL.length capL) (.slice aoM QM.length capM) (.slice ax QL.length cx) (.slice ay QM.length cy) QL QM kv' (Vs ++ [.slice al N.length cl, one, two, three]) w5) := HS2.out.kept HS4.out HN4.out.2.2 HK.out.1 hK HK.out.2.2.1 fun g hg => ⟨(own_block HN4.out.1 hg).2.1, (own_block HN4.out.1 hg).1⟩
  clear hK
  have c6 : w5.cell? ⟨w.heap.size, 6, none⟩ = some (.slice aoL QL.length capL) := (Lib.cell_of_heap HE.out.box 6).trans rfl
  go_wp2_with fail
  refine (HE.out.first HL.out.1 HL.out.2.2).mono ?_
  rintro e w6 ⟨rfl, hF⟩
  have HF : Hid (DF base w _ _ _ _ _ _ w6) := hF
  clear hF c6
  have c7 : w6.cell? ⟨w.heap.size, 7, none⟩ = some (.slice aoM QM.length capM) := (Lib.cell_of_heap HF.out.box 7).trans rfl
  go_wp2_with fail
  refine (HF.out.second HM.out.1 HM.out.2.2).mono ?_
  rintro e w7 ⟨rfl, hb7, hk7⟩
  have HR : Hid (Below base w w7 ∧ Bk base w7 kv' (Vs ++ [.slice al N.length cl, one, two, three])) := ⟨hb7, hk7⟩
  clear hb7 hk7 c7
  go_wp2
  go_ret
  exact ⟨by simp, HR.out.1, kv', _, HR.out.2, by simp⟩

/-- what Apply gives, the program's and the document's. -/
def ApplySays (F : FuncId) (t : List UInt8) (Q : List Qt) (r : List UInt8) (err : Int) : Prop :=
  ∀ w x, QsAt w x Q → CapOk x → Calls Try.prog F #[.string (bs t), x] w fun e w' => e = .returned (.tuple #[.string (bs r), .int .i64 err]) ∧ Below w.heap.size w w'

set_option maxHeartbeats 2000000 in
set_option maxRecDepth 100000 in
theorem done_apply (base : Nat) (A B C D : Int) (t : List UInt8) (vL vM kv : Value) (QL QM : List Qt) (Vs : List Value) (r : List UInt8) (err : Int) (w : World) (hk : Bk base w kv Vs) (aL : ArgOk base w vL QL) (aM : ArgOk base w vM QM)
    (h1 : ApplySays 16 t QL r err) (h2 : ApplySays 64 t QL r err) :
    Calls Try.prog 36 #[.pointer (some ⟨base, 0, none⟩), .agg #[.int .i64 2, .int .i64 A, .int .i64 B, .int .i64 C, .int .i64 D, .string (bs t), vL, vM]] w fun e w' => e = .returned (.bool true) ∧ Below base w w' ∧ ∃ kv' Vs', Bk base w' kv' Vs' ∧ Vs'.length ≤ Vs.length + 8 := by
  obtain ⟨aoL, capL, rfl⟩ := aL.1.shape
  obtain ⟨aoM, capM, rfl⟩ := aM.1.shape
  have HL : Hid (ArgOk base w (.slice aoL QL.length capL) QL) := aL
  have HM : Hid (ArgOk base w (.slice aoM QM.length capM) QM) := aM
  have HK : Hid (Bk base w kv Vs ∧ True ∧ True ∧ base < w.heap.size) := ⟨hk, trivial, trivial, lt_of_blk hk.cells⟩
  have H1 : Hid (ApplySays 16 t QL r err) := h1
  have H2 : Hid (ApplySays 64 t QL r err) := h2
  clear aL aM hk h1 h2
  go_enter Try.func36, Try.ntmps36
  go_wp2_with fail
  refine (lent_any (lim := base) _ QL _ (HL.out.1.same fun q hq => Lib.alloc_old w _ q (by have := HK.out.2.2.2; omega)) (by have := HK.out.2.2.2; simp; omega) HL.out.2.2).mono ?_
  rintro e w1 ⟨x, rfl, hx, hb1⟩
  obtain ⟨ax, cx, rfl⟩ := hx.shape
  have hbx := (hb1.block w.heap.size (by simp)).trans (heap_alloc_new w _)
  have c7 : w1.cell? ⟨w.heap.size, 7, none⟩ = some (.slice aoM QM.length capM) := (Lib.cell_of_heap hbx 7).trans rfl
  have hz1 : w.heap.size < w1.heap.size := lt_of_blk hbx
  have HX : Hid (∀ q, q < base → w1.heap[q]? = w.heap[q]?) := fun q hq => by have h0 := HK.out.2.2.2; exact (hb1.block q (by simp; omega)).trans (Lib.alloc_old w _ q (by omega))
  have HS : Hid (∀ y w2, LentAt w1.heap.size w2 (.slice aoM QM.length capM) y QM → Below w1.heap.size w1 w2 → DS w _ (.slice aoL QL.length capL) (.slice aoM QM.length capM) (.slice ax QL.length cx) y QL QM w2) := fun y w2 hy hb2 => DS.start rfl hx hb1 hy hb2
  clear hx hb1 hbx
  go_wp2_with fail
  refine (lent_any (lim := base) _ QM _ (HM.out.1.same HX.out) (by have := HK.out.2.2.2; omega) HM.out.2.2).mono ?_
  rintro e w2 ⟨y, rfl, hy, hb2⟩
  obtain ⟨ay, cy, rfl⟩ := hy.shape
  have HS2 : Hid (DS w _ (.slice aoL QL.length capL) (.slice aoM QM.length capM) (.slice ax QL.length cx) (.slice ay QM.length cy) QL QM w2) := HS.out _ _ hy hb2
  clear hy hb2 c7 HX HS hz1
  have c0 : w2.cell? ⟨w.heap.size, 0, none⟩ = some (.int .i64 2) := (Lib.cell_of_heap HS2.out.box 0).trans rfl
  have c5 : w2.cell? ⟨w.heap.size, 5, none⟩ = some (.string (bs t)) := (Lib.cell_of_heap HS2.out.box 5).trans rfl
  go_wp2_with fail
  refine (H1.out _ _ HS2.out.lx.qs HS2.out.lx.cap).mono ?_
  rintro e w3 ⟨rfl, hb3⟩
  have HS3 : Hid (DS w _ (.slice aoL QL.length capL) (.slice aoM QM.length capM) (.slice ax QL.length cx) (.slice ay QM.length cy) QL QM w3) := HS2.out.stay hb3
  clear hb3 c0 c5
  have c5 : w3.cell? ⟨w.heap.size, 5, none⟩ = some (.string (bs t)) := (Lib.cell_of_heap HS3.out.box 5).trans rfl
  have c6 : w3.cell? ⟨w.heap.size, 6, none⟩ = some (.slice aoL QL.length capL) := (Lib.cell_of_heap HS3.out.box 6).trans rfl
  go_wp2_with fail
  refine (H2.out _ _ ((HL.out.1.qs (by have := HK.out.2.2.2; omega)).below HS3.out.bel (Nat.le_refl _)) HL.out.2.1).mono ?_
  rintro e w5 ⟨rfl, hb4⟩
  have HE : Hid (DE base w _ (.slice aoL QL.length capL) (.slice aoM QM.length capM) (.slice ax QL.length cx) (.slice ay QM.length cy) QL QM kv Vs w5) := (HS3.out.stay hb4).same HK.out.1
  clear hb4 c5 c6
  have c6 : w5.cell? ⟨w.heap.size, 6, none⟩ = some (.slice aoL QL.length capL) := (Lib.cell_of_heap HE.out.box 6).trans rfl
  go_wp2_with fail
  refine (HE.out.first HL.out.1 HL.out.2.2).mono ?_
  rintro e w6 ⟨rfl, hF⟩
  have HF : Hid (DF base w _ _ _ _ _ _ w6) := hF
  clear hF c6
  have c7 : w6.cell? ⟨w.heap.size, 7, none⟩ = some (.slice aoM QM.length capM) := (Lib.cell_of_heap HF.out.box 7).trans rfl
  go_wp2_with fail
  refine (HF.out.second HM.out.1 HM.out.2.2).mono ?_
  rintro e w7 ⟨rfl, hb7, hk7⟩
  have HR : Hid (Below base w w7 ∧ Bk base w7 kv Vs) := ⟨hb7, hk7⟩
  clear hb7 hk7 c7
  go_wp2
  go_ret
  exact ⟨by simp, HR.out.1, kv, _, HR.out.2, by omega⟩

end Go.Proofs.Ytpiankiacbghcaa
