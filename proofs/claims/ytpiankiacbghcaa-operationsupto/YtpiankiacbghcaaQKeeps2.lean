/-
  quilllaw: among; the book of lists that came out.
  append of marks: what read as marks reads as marks behind it.
  quilllaw.Book.keeps: the list that came out is written full of marks; three appends to it; the book takes all four.
  quilllaw.Book.keeps: what holds behind each append.
-/
import Derived.Test.YtpiankiacbghcaaQWhole
import Derived.Maps.AppendAt
import Derived.Deep.RegionHeld3
import Derived.Deep.AppendLies
import Derived.Deep.RegionLaw
namespace Go.Proofs.Ytpiankiacbghcaa
open Go.RowKit

set_option maxHeartbeats 400000 in
theorem among_any (b off cap : Nat) (zs : List Int) (k : Int) (w : World) (hz : ∀ j (h : j < zs.length), w.cell? ⟨b, off + j, none⟩ = some (.int .i64 zs[j])) (hn : zs.length ≤ 1000000) :
    Calls Try.prog 23 #[.slice (some ⟨b, off, none⟩) zs.length cap, .int .i64 k] w fun e w' => e = .returned (.bool (decide (k ∈ zs))) ∧ w' = w := by
  have HZ : Hid (∀ j (h : j < zs.length), w.cell? ⟨b, off + j, none⟩ = some (.int .i64 zs[j])) := hz
  clear hz
  go_enter Try.func23, Try.ntmps23
  go_wp2
  go_loop [5] (fun i => ∃ j : Nat, j ≤ zs.length ∧ i = .int .i64 j ∧ Hid (k ∉ zs.take j)) (fun i => zs.length - (intOf i).toNat)
  case atStart => exact ⟨0, Nat.zero_le _, rfl, by show _ ∉ _; simp⟩
  case round =>
    obtain ⟨j, hj, rfl, hnot⟩ := hrel
    by_cases hlt : j < zs.length
    · have c0 := HZ.out j hlt
      by_cases he : zs[j] = k
      · have hb : (zs[j] == k) = true := beq_iff_eq.2 he
        have HM : Hid (k ∈ zs) := by show k ∈ zs; rw [← he]; exact List.getElem_mem hlt
        clear he
        go_wp2
        go_ret
        exact ⟨ret_bool (decide_eq_true HM.out).symm, rfl⟩
      · have hb : (zs[j] == k) = false := beq_eq_false_iff_ne.2 he
        have HN : Hid (k ∉ zs.take (j + 1)) := by
          show _ ∉ _
          rw [List.take_succ_eq_append_getElem hlt, List.mem_append]
          rintro (h | h)
          · exact hnot.out h
          · simp at h; exact he h.symm
        clear he
        go_wp2
        go_round
        case rel => exact ⟨j + 1, by omega, by go_num, HN⟩
        case measure => simp [intOf]; omega
    · go_wp2
      go_ret
      refine ⟨ret_bool (decide_eq_false ?_).symm, rfl⟩
      have := hnot.out
      rwa [List.take_of_length_le (by omega)] at this

/-- a list that reads as so many marks of one kind. -/
def MarksAt (w : World) (v : Value) (m : Int) : Prop :=
  ∃ ao n cap, v = .slice ao n cap ∧ n ≤ 1000000000 ∧ (0 < n → ∃ b off, ao = some ⟨b, off, none⟩ ∧ ∀ j, j < n → QtAt w b (off + j * 3) ⟨m, 0, []⟩)

/-- the book: in its row each list reads as its marks; there are no entries. -/
structure BookAt (w : World) (kb : Nat) (o : Nat) (Vs : List Value) : Prop where
  row : ∃ ao cap, w.cell? ⟨kb, o, none⟩ = some (.slice ao Vs.length cap) ∧ (0 < Vs.length → ∃ b off, ao = some ⟨b, off, none⟩ ∧ ∀ i (h : i < Vs.length), w.cell? ⟨b, off + i, none⟩ = some Vs[i])
  ent : w.cell? ⟨kb, o + 1, none⟩ = some (.slice none 0 0)
  marks : ∀ i (h : i < Vs.length), MarksAt w Vs[i] (-1000 - (i : Int) / 4)
  len : Vs.length ≤ 1000000000

set_option maxHeartbeats 1000000 in
set_option maxRecDepth 100000 in
theorem looks_yes (kb o : Nat) (Vs : List Value) (w : World) (h : BookAt w kb o Vs) :
    Calls Try.prog 25 #[.pointer (some ⟨kb, o, none⟩)] w fun e w' => e = .returned (.bool true) ∧ Below w.heap.size w w' := by
  obtain ⟨⟨ao, cap, c0, hrow⟩, c1, hm, hl⟩ := h
  have HM : Hid ((0 < Vs.length → ∃ b off, ao = some ⟨b, off, none⟩ ∧ ∀ i (h : i < Vs.length), w.cell? ⟨b, off + i, none⟩ = some Vs[i]) ∧ ∀ i (h : i < Vs.length), MarksAt w Vs[i] (-1000 - (i : Int) / 4)) := ⟨hrow, hm⟩
  clear hrow hm
  have hkb : kb < w.heap.size := World.block_lt_of_cell? w _ c0
  have HC : Hid (w.cell? ⟨kb, o, none⟩ = some (.slice ao Vs.length cap) ∧ w.cell? ⟨kb, o + 1, none⟩ = some (.slice none 0 0)) := ⟨c0, c1⟩
  clear c0 c1
  have c0 : w.cell? ⟨kb, o, none⟩ = some (.slice ao Vs.length cap) := HC.out.1
  go_enter Try.func25, Try.ntmps25
  go_wp2
  go_loopw [3] (fun i wr => ∃ k : Nat, k ≤ Vs.length ∧ i = .int .i64 k ∧ Below w.heap.size w wr) (fun i _ => Vs.length - (intOf i).toNat)
  case atStart => exact ⟨0, Nat.zero_le _, rfl, Below.refl _ _⟩
  case round =>
    rename World => wo
    obtain ⟨k, hk, rfl, hB⟩ := hrel
    clear c0
    have c0 : wo.cell? ⟨kb, o, none⟩ = some (.slice ao Vs.length cap) := (hB.cell (p := ⟨kb, o, none⟩) hkb).trans HC.out.1
    have c1 : wo.cell? ⟨kb, o + 1, none⟩ = some (.slice none 0 0) := (hB.cell (p := ⟨kb, o + 1, none⟩) hkb).trans HC.out.2
    have hkr : kb < wo.heap.size := Nat.lt_of_lt_of_le hkb hB.size
    by_cases hlt : k < Vs.length
    · obtain ⟨rb, roff, rfl, hrc⟩ := HM.out.1 (by omega)
      have r0 := hrc k hlt
      obtain ⟨ao2, n2, cap2, hv, hn2, hmk⟩ := HM.out.2 k hlt
      rw [hv] at r0
      have hrb : rb < w.heap.size := World.block_lt_of_cell? w _ r0
      rw [← hB.cell (p := ⟨rb, _, none⟩) hrb] at r0
      have hrr : rb < wo.heap.size := Nat.lt_of_lt_of_le hrb hB.size
      have HMK : Hid (0 < n2 → ∃ b off, ao2 = some ⟨b, off, none⟩ ∧ ∀ j, j < n2 → QtAt w b (off + j * 3) ⟨-1000 - (k : Int) / 4, 0, []⟩) := hmk
      clear hrc hmk hv
      have hki : (k : Int) < (Vs.length : Int) := by omega
      go_wp2
      go_loopw [5] (fun j wx => ∃ q : Nat, q ≤ n2 ∧ j = .int .i64 q ∧ Hid (wx.heap[wo.heap.size]? = some (.cells #[.int .i64 (-1000 - (k : Int) / 4), .int .i64 0, .string ⟨#[]⟩] 45 (0, 0)) ∧ Below wo.heap.size wo wx)) (fun j _ => n2 - (intOf j).toNat)
      case atStart => exact ⟨0, Nat.zero_le _, rfl, heap_alloc_new wo _, (Below.refl _ _).alloc (Nat.le_refl _) _⟩
      case round =>
        obtain ⟨q, hq, rfl, hx⟩ := hrel
        have e0 : wr.cell? ⟨kb, o, none⟩ = some (.slice (some ⟨rb, roff, none⟩) Vs.length cap) := (hx.out.2.cell (p := ⟨kb, o, none⟩) hkr).trans c0
        have e1 : wr.cell? ⟨rb, roff + k, none⟩ = some (.slice ao2 n2 cap2) := (hx.out.2.cell (p := ⟨rb, roff + k, none⟩) hrr).trans r0
        have m0 : wr.cell? ⟨wo.heap.size, 0, none⟩ = some (.int .i64 (-1000 - (k : Int) / 4)) := Lib.cell_of_heap hx.out.1 0
        have m1 : wr.cell? ⟨wo.heap.size, 1, none⟩ = some (.int .i64 0) := Lib.cell_of_heap hx.out.1 1
        have m2 : wr.cell? ⟨wo.heap.size, 2, none⟩ = some (.string ⟨#[]⟩) := Lib.cell_of_heap hx.out.1 2
        clear c0 c1 r0
        by_cases hlt2 : q < n2
        · obtain ⟨b, off, rfl, hm⟩ := HMK.out (by omega)
          obtain ⟨q0, q1, q2⟩ := hm q hlt2
          have hbb : b < w.heap.size := World.block_lt_of_cell? w _ q0
          have hB2 : Below w.heap.size w wr := hB.trans (hx.out.2.mono hB.size)
          rw [← hB2.cell (p := ⟨b, _, none⟩) hbb] at q0 q1 q2
          replace q2 : wr.cell? ⟨b, off + q * 3 + 2, none⟩ = some (.string ⟨#[]⟩) := q2
          have hqi : (q : Int) < (n2 : Int) := by omega
          clear hm hB2
          go_wp2
          go_quiet (fail)
          go_wp2
          go_roundw
          case rel => exact ⟨q + 1, by omega, by go_num, hx.out.1, below_drewN hx.out.2 _⟩
          case measure => simp [intOf]; omega
        · go_wp2
          go_roundw
          case rel => exact ⟨k + 1, by omega, by go_num, hB.trans (hx.out.2.mono hB.size)⟩
          case measure => simp [intOf]; omega
    · go_wp2
      go_loopw [6] (fun i wx => i = .int .i64 0 ∧ wx = wo) (fun _ _ => 0)
      case atStart => exact ⟨rfl, rfl⟩
      case round =>
        obtain ⟨rfl, rfl⟩ := hrel
        go_wp2
        go_ret
        exact ⟨rfl, hB⟩

def markQ (m : Int) : Qt := ⟨m, 0, []⟩
/-- a list at a block's beginning that reads as n marks. -/
def Mk (w : World) (v : Value) (m : Int) (n : Nat) : Prop :=
  ∃ ao cap, v = .slice ao n cap ∧ (0 < n → ∃ b, ao = some ⟨b, 0, none⟩ ∧ ∀ j, j < n → QtAt w b (j * 3) (markQ m))

theorem Mk.marks {w : World} {v : Value} {m : Int} {n : Nat} (h : Mk w v m n) (hn : n ≤ 1000000000) : MarksAt w v m := by
  obtain ⟨ao, cap, rfl, hc⟩ := h
  refine ⟨ao, n, cap, rfl, hn, fun h => ?_⟩
  obtain ⟨b, rfl, hq⟩ := hc h
  exact ⟨b, 0, rfl, fun j hj => by rw [Nat.zero_add]; exact hq j hj⟩

/-- what an append writes: nothing that was there, or behind the list alone. -/
theorem append_where {P : Program} {w : World} (base : Nat) (t ty e : TypeId) (i : TypeInfo) (z : Value) (size bytes : Nat) (ht : P.underlying t = some (.slice e)) (hi : P.info? e = some i) (hz : i.zero = some z) (hsize : i.size = size) (hby : i.bytes = bytes) (hsz : 0 < size)
    (v : Value) (n : Nat) (xs : List Value) (hown : w.ownsRow base e size v n xs) (a : Addr) (m c : Nat) (news : List Value) (hl : news.length = m * size) (hnews : ∀ j u, news[j]? = some u → w.cell? (a.add j) = some u) (h1 : ∀ u ∈ news, u.oneCell' = true)
    (hm : 0 < m) (h63 : n + m ≤ maxLen) (hbytes : (n + m) * bytes ≤ 140737488355328) (v' : Value) (w' : World) (hr : (Builtin.append_ #[t, t] ty #[v, .slice (some a) m c]).run P w = .ok v' w') :
    (∀ k, k < w.heap.size → w'.heap[k]? = w.heap[k]?) ∨ (∃ g cap cur, v = .slice (some ⟨g, 0, none⟩) n cap ∧ w.heap[g]? = some (.cells cur e (0, 0)) ∧ n * size + news.length ≤ cur.size ∧ w' = w.setRow g (cur.toList.take (n * size) ++ news ++ cur.toList.drop (n * size + news.length)).toArray) := by
  subst hsize hby
  unfold maxLen at h63
  rcases hown.2 with ⟨rfl, rfl⟩ | ⟨g, cap, cur, rfl, hbg, hg, hnc, hcm, hcs, htake⟩
  · have hr2 := run_append_nil (P := P) w t ty e i z ht hi hz a m c news hl hnews hm (by omega) (by have hb := hbytes; simp only [Nat.zero_add] at hb; omega)
    rw [hr] at hr2
    simp only [Result.ok.injEq] at hr2
    obtain ⟨_, rfl⟩ := hr2
    exact .inl fun k hk => Lib.alloc_old w.drew _ k hk
  · by_cases hroom : n + m ≤ cap
    · have hfit : n * i.size + news.length ≤ cur.size := by rw [hl, hcs, ← Nat.add_mul]; exact Nat.mul_le_mul_right _ hroom
      have hr2 := run_append_room (P := P) w t ty e i ht hi g n cap cur hg a m c news hl hnews h1 hroom hfit
      rw [hr] at hr2
      simp only [Result.ok.injEq] at hr2
      obtain ⟨_, rfl⟩ := hr2
      exact .inr ⟨g, cap, cur, rfl, hg, hfit, rfl⟩
    · have holds : ∀ j u, xs[j]? = some u → w.cell? ((⟨g, 0, none⟩ : Addr).add j) = some u := hown.cells (g := g) rfl
      have hr2 := run_append_grow (P := P) w t ty e i z ht hi hz ⟨g, 0, none⟩ n cap xs hown.1 holds a m c news hl hnews (by omega) (by omega) (growslice_fits (by omega) hbytes)
      rw [hr] at hr2
      simp only [Result.ok.injEq] at hr2
      obtain ⟨_, rfl⟩ := hr2
      exact .inl fun k hk => Lib.alloc_old w.drew _ k hk

theorem row_marks (m : Int) (k : Nat) : ∀ p, p < k * 3 → (rowQ (List.replicate k (markQ m)))[p]? = (qCells (markQ m))[p % 3]? := by
  intro p hp
  have := rowQ_at (List.replicate k (markQ m)) (p / 3) (by simp; omega) (p % 3) (by omega)
  rw [show p / 3 * 3 + p % 3 = p by omega] at this
  rw [this]
  simp

theorem mark_cells {w : World} {b : Nat} {m : Int} {n : Nat} : (∀ j, j < n → QtAt w b (j * 3) (markQ m)) ↔ ∀ p, p < n * 3 → w.cell? ⟨b, p, none⟩ = (qCells (markQ m))[p % 3]? := by
  constructor
  · intro h p hp
    obtain ⟨c0, c1, c2⟩ := h (p / 3) (by omega)
    have h3 : p % 3 = 0 ∨ p % 3 = 1 ∨ p % 3 = 2 := by omega
    rcases h3 with e | e | e
    · rw [e, show p = p / 3 * 3 by omega]; exact c0
    · rw [e, show p = p / 3 * 3 + 1 by omega]; exact c1
    · rw [e, show p = p / 3 * 3 + 2 by omega]; exact c2
  · intro h j hj
    have h0 := h (j * 3) (by omega)
    have h1 := h (j * 3 + 1) (by omega)
    have h2 := h (j * 3 + 2) (by omega)
    rw [show j * 3 % 3 = 0 by omega] at h0
    rw [show (j * 3 + 1) % 3 = 1 by omega] at h1
    rw [show (j * 3 + 2) % 3 = 2 by omega] at h2
    exact ⟨h0, h1, h2⟩

/-- WHAT READ AS MARKS READS AS MARKS. -/
theorem Mk.append {w w' : World} {g n k : Nat} {cur : Array Value} {e : TypeId} {m : Int} {u : Value} {nu : Nat} (h : Mk w u m nu) (hg : w.heap[g]? = some (.cells cur e (0, 0))) (hfit : n * 3 + (rowQ (List.replicate k (markQ m))).length ≤ cur.size)
    (hw : w' = w.setRow g (cur.toList.take (n * 3) ++ rowQ (List.replicate k (markQ m)) ++ cur.toList.drop (n * 3 + (rowQ (List.replicate k (markQ m))).length)).toArray) : Mk w' u m nu := by
  obtain ⟨ao, cap, rfl, hc⟩ := h
  refine ⟨ao, cap, rfl, fun hn => ?_⟩
  obtain ⟨b, rfl, hq⟩ := hc hn
  refine ⟨b, rfl, ?_⟩
  rw [mark_cells] at hq ⊢
  intro p hp
  by_cases hb : b = g
  · subst hb
    have h1 := setRow_heap w b cur (cur.toList.take (n * 3) ++ rowQ (List.replicate k (markQ m)) ++ cur.toList.drop (n * 3 + (rowQ (List.replicate k (markQ m))).length)).toArray e (0, 0) hg
    rw [← hw] at h1
    rw [Lib.cell_of_heap h1, List.getElem?_toArray]
    have h0 := hq p hp
    rw [Lib.cell_of_heap hg] at h0
    rw [rowQ_length, List.length_replicate] at hfit ⊢
    have hl : (cur.toList.take (n * 3)).length = n * 3 := by simp; omega
    rw [List.append_assoc]
    by_cases hp1 : p < n * 3
    · rw [List.getElem?_append_left (by omega), List.getElem?_take_of_lt hp1]
      simpa using h0
    · rw [List.getElem?_append_right (by omega), hl]
      by_cases hp2 : p < n * 3 + k * 3
      · rw [List.getElem?_append_left (by rw [rowQ_length]; simp; omega), row_marks m k (p - n * 3) (by omega)]
        congr 1
        omega
      · rw [List.getElem?_append_right (by rw [rowQ_length]; simp; omega), rowQ_length, List.length_replicate, List.getElem?_drop]
        rw [show n * 3 + k * 3 + (p - n * 3 - k * 3) = p by omega]
        simpa using h0
  · have h1 : w'.heap[b]? = w.heap[b]? := by rw [hw]; exact setRow_other w g b _ hb
    rw [World.cell?_of_block (a := ⟨b, p, none⟩) h1]
    exact hq p hp

/-- append to a row, and all that is known of it. -/
theorem append_marks {P : Program} {w : World} {ops : Array Oper} {rest : List Oper} {o : Oper} {a : Act} {Q : Exit → Act → World → Prop} (hgd : o.guard = none) (s x : Operand) (t : TypeId)
    (ho : o.op = .call { callee := .builtin .append, args := #[s, x], argTypes := #[t, t] })
    (base : Nat) (e : TypeId) (i : TypeInfo) (z : Value) (size bytes : Nat) (ht : P.underlying t = some (.slice e)) (hi : P.info? e = some i) (hz : i.zero = some z) (hsize : i.size = size) (hby : i.bytes = bytes) (hzs : z.cells.size = size) (hsz : 0 < size)
    (v : Value) (n : Nat) (xs : List Value) (hs : a.eval s = v) (hown : w.ownsRow base e size v n xs) (ad : Addr) (m c : Nat) (news : List Value) (hx : a.eval x = .slice (some ad) m c) (hl : news.length = m * size) (hnews : ∀ j u, news[j]? = some u → w.cell? (ad.add j) = some u) (h1 : ∀ u ∈ news, u.oneCell' = true)
    (hm : 0 < m) (h63 : n + m ≤ maxLen) (hbytes : (n + m) * bytes ≤ 140737488355328) (hbase : base ≤ w.heap.size)
    (h : ∀ v' w', w'.ownsRow base e size v' (n + m) (xs ++ news) → w.grownBy w' v.ownBlock →
      ((∀ k, k < w.heap.size → w'.heap[k]? = w.heap[k]?) ∨ (∃ g cap cur, v = .slice (some ⟨g, 0, none⟩) n cap ∧ w.heap[g]? = some (.cells cur e (0, 0)) ∧ n * size + news.length ≤ cur.size ∧ w' = w.setRow g (cur.toList.take (n * size) ++ news ++ cur.toList.drop (n * size + news.length)).toArray)) → (v'.ownBlock = v.ownBlock ∨ v'.ownBlock = some w.heap.size) → wpList P ops Q rest (a.put o.dst v') w') : wpList P ops Q (o :: rest) a w := by
  refine wpList_plain hgd fun K hK => ?_
  obtain ⟨v', w', hr, h2, h3, _, h5⟩ := run_append_own_at (P := P) (w := w) base t o.type e i z size bytes ht hi hz hsize hby hzs hsz v n xs hown ad m c news hl hnews h1 h63 hbytes hbase
  have h4 := append_where (P := P) base t o.type e i z size bytes ht hi hz hsize hby hsz v n xs hown ad m c news hl hnews h1 hm h63 hbytes v' w' hr
  unfold Oper.wp execOp
  simp only [ho, resolve, invoke, builtin, Sem.run_bind, Sem.run_pure, Result.andThen_ok, List.map_toArray, List.map_cons, List.map_nil, hs, hx, hr]
  exact hK _ _ (h v' w' h2 h3 h4 h5)

/-- marks, kept by an append of marks. -/
theorem Mk.appended {w w' : World} {v u : Value} {e : TypeId} {m : Int} {n k nu : Nat} (h : Mk w u m nu)
    (hw : (∀ q, q < w.heap.size → w'.heap[q]? = w.heap[q]?) ∨ (∃ g cap cur, v = .slice (some ⟨g, 0, none⟩) n cap ∧ w.heap[g]? = some (.cells cur e (0, 0)) ∧ n * 3 + (rowQ (List.replicate k (markQ m))).length ≤ cur.size ∧ w' = w.setRow g (cur.toList.take (n * 3) ++ rowQ (List.replicate k (markQ m)) ++ cur.toList.drop (n * 3 + (rowQ (List.replicate k (markQ m))).length)).toArray)) : Mk w' u m nu := by
  rcases hw with hw | ⟨g, cap, cur, _, hg, hfit, rfl⟩
  · obtain ⟨ao, cap, rfl, hc⟩ := h
    refine ⟨ao, cap, rfl, fun hn => ?_⟩
    obtain ⟨b, rfl, hq⟩ := hc hn
    refine ⟨b, rfl, ?_⟩
    rw [mark_cells] at hq ⊢
    intro p hp
    have h0 := hq p hp
    have hb : b < w.heap.size := by
      have h3 : p % 3 = 0 ∨ p % 3 = 1 ∨ p % 3 = 2 := by omega
      rcases h3 with e | e | e <;> (rw [e] at h0; exact World.block_lt_of_cell? w _ h0)
    rw [World.cell?_of_block (a := ⟨b, p, none⟩) (hw b hb)]
    exact h0
  · exact h.append hg hfit rfl

theorem mk_of_row {w : World} {base : Nat} {e : TypeId} {v : Value} {m : Int} {n : Nat} (h : w.ownsRow base e 3 v n (rowQ (List.replicate n (markQ m)))) : Mk w v m n := by
  rcases h.2 with ⟨rfl, rfl⟩ | ⟨g, cap, cur, rfl, _, hg, hle, _, _, _⟩
  · exact ⟨none, 0, rfl, fun h => by omega⟩
  · refine ⟨_, _, rfl, fun _ => ⟨g, rfl, ?_⟩⟩
    rw [mark_cells]
    intro p hp
    have hc := h.cells (g := g) rfl
    have hadd : ∀ j, (⟨g, 0, none⟩ : Addr).add j = ⟨g, j, none⟩ := fun j => by unfold Addr.add; split <;> simp_all
    have hr := row_marks m n p hp
    have h3 : p % 3 = 0 ∨ p % 3 = 1 ∨ p % 3 = 2 := by omega
    rcases h3 with e | e | e <;>
      (rw [e] at hr ⊢; have := hc p _ hr; rw [hadd] at this; exact this)

theorem own_cell {w : World} {base g n cap sz : Nat} {e : TypeId} {ys : List Value} (h : w.ownsRow base e sz (.slice (some ⟨g, 0, none⟩) n cap) n ys) (j : Nat) (v : Value) : (w.setCell ⟨g, j, none⟩ v).ownsRow base e sz (.slice (some ⟨g, 0, none⟩) n cap) n (ys.set j v) := by
  refine ⟨by simpa using h.1, ?_⟩
  rcases h.2 with ⟨e1, _⟩ | ⟨g', cap', cur, e1, hbb, hgg, h1, h2, h3, h4⟩
  · cases e1
  · simp only [Value.slice.injEq, Option.some.injEq, Addr.mk.injEq, and_true, true_and] at e1
    obtain ⟨rfl, rfl⟩ := e1
    refine .inr ⟨g, cap, _, rfl, hbb, block_set hgg j v, h1, h2, by simpa using h3, ?_⟩
    rw [Array.toList_setIfInBounds, List.take_set, h4]

/-- the first k elements written full of marks. -/
def markedV (m : Int) (xs : List Value) (k : Nat) : List Value := rowQ (List.replicate k (markQ m)) ++ xs.drop (k * 3)
theorem markedV_set (m : Int) (xs : List Value) (k : Nat) (h : k * 3 + 3 ≤ xs.length) : (((markedV m xs k).set (k * 3) (.int .i64 m)).set (k * 3 + 1) (.int .i64 0)).set (k * 3 + 2) (.string ⟨#[]⟩) = markedV m xs (k + 1) := by
  have hl : (rowQ (List.replicate k (markQ m))).length = k * 3 := by rw [rowQ_length]; simp
  unfold markedV
  rw [List.set_append_right _ _ (by omega), List.set_append_right _ _ (by omega), List.set_append_right _ _ (by omega), hl]
  rw [show k * 3 - k * 3 = 0 by omega, show k * 3 + 1 - k * 3 = 1 by omega, show k * 3 + 2 - k * 3 = 2 by omega]
  rw [List.drop_eq_getElem_cons (show k * 3 < xs.length by omega), List.drop_eq_getElem_cons (show k * 3 + 1 < xs.length by omega), List.drop_eq_getElem_cons (show k * 3 + 1 + 1 < xs.length by omega)]
  rw [List.replicate_succ', rowQ_append, List.append_assoc, show (k + 1) * 3 = k * 3 + 1 + 1 + 1 by omega]
  rfl

/-- append_marks, and where the row lies. -/
theorem append_at {P : Program} {w : World} {ops : Array Oper} {rest : List Oper} {o : Oper} {a : Act} {Q : Exit → Act → World → Prop} (hgd : o.guard = none) (s x : Operand) (t : TypeId)
    (ho : o.op = .call { callee := .builtin .append, args := #[s, x], argTypes := #[t, t] })
    (base : Nat) (e : TypeId) (i : TypeInfo) (z : Value) (size bytes : Nat) (ht : P.underlying t = some (.slice e)) (hi : P.info? e = some i) (hz : i.zero = some z) (hsize : i.size = size) (hby : i.bytes = bytes) (hzs : z.cells.size = size) (hsz : 0 < size)
    (v : Value) (n : Nat) (xs : List Value) (hs : a.eval s = v) (hown : w.ownsRow base e size v n xs) (ad : Addr) (m c : Nat) (news : List Value) (hx : a.eval x = .slice (some ad) m c) (hl : news.length = m * size) (hnews : ∀ j u, news[j]? = some u → w.cell? (ad.add j) = some u) (h1 : ∀ u ∈ news, u.oneCell' = true)
    (h63 : n + m ≤ maxLen) (hbytes : (n + m) * bytes ≤ 140737488355328) (hbase : base ≤ w.heap.size)
    (h : ∀ v' w', w'.ownsRow base e size v' (n + m) (xs ++ news) → w.grownBy w' v.ownBlock → (v'.ownBlock = v.ownBlock ∨ v'.ownBlock = some w.heap.size) → wpList P ops Q rest (a.put o.dst v') w') : wpList P ops Q (o :: rest) a w := by
  refine wpList_plain hgd fun K hK => ?_
  obtain ⟨v', w', hr, h2, h3, _, h5⟩ := run_append_own_at (P := P) (w := w) base t o.type e i z size bytes ht hi hz hsize hby hzs hsz v n xs hown ad m c news hl hnews h1 h63 hbytes hbase
  unfold Oper.wp execOp
  simp only [ho, resolve, invoke, builtin, Sem.run_bind, Sem.run_pure, Result.andThen_ok, List.map_toArray, List.map_cons, List.map_nil, hs, hx, hr]
  exact hK _ _ (h v' w' h2 h3 h5)

theorem own_same {w w' : World} {base sz n : Nat} {e : TypeId} {v : Value} {xs : List Value} (h : w.ownsRow base e sz v n xs) (hs : ∀ g, v.ownBlock = some g → g < w.heap.size → w'.heap[g]? = w.heap[g]?) : w'.ownsRow base e sz v n xs := by
  refine ⟨h.1, ?_⟩
  rcases h.2 with hn | ⟨g, cap, cur, rfl, hb, hg, rest⟩
  · exact .inl hn
  · exact .inr ⟨g, cap, cur, rfl, hb, (hs g rfl (lt_of_blk hg)).trans hg, rest⟩

theorem own_block {w : World} {base sz n : Nat} {e : TypeId} {v : Value} {xs : List Value} (h : w.ownsRow base e sz v n xs) {g : Nat} (hg : v.ownBlock = some g) : g < w.heap.size ∧ base ≤ g ∧ ∃ cur, w.heap[g]? = some (.cells cur e (0, 0)) := by
  rcases h.2 with ⟨rfl, _⟩ | ⟨g', cap, cur, rfl, hb, hgg, _⟩
  · cases hg
  · cases hg
    exact ⟨lt_of_blk hgg, hb, cur, hgg⟩

/-- the list itself stays as it is where something is appended to it. -/
theorem own_stays {w w' : World} {base n : Nat} {e : TypeId} {v : Value} {xs news : List Value} (h : w.ownsRow base e 3 v n xs)
    (hw : (∀ q, q < w.heap.size → w'.heap[q]? = w.heap[q]?) ∨ (∃ g cap cur, v = .slice (some ⟨g, 0, none⟩) n cap ∧ w.heap[g]? = some (.cells cur e (0, 0)) ∧ n * 3 + news.length ≤ cur.size ∧ w' = w.setRow g (cur.toList.take (n * 3) ++ news ++ cur.toList.drop (n * 3 + news.length)).toArray)) : w'.ownsRow base e 3 v n xs := by
  rcases hw with hw | ⟨g, cap, cur, rfl, hg, hfit, rfl⟩
  · exact own_same h fun g _ hlt => hw g hlt
  · refine ⟨h.1, ?_⟩
    rcases h.2 with ⟨e1, _⟩ | ⟨g', cap', cur', e1, hb, hgg, h1, h2, h3, h4⟩
    · cases e1
    · simp only [Value.slice.injEq, Option.some.injEq, Addr.mk.injEq, and_true, true_and] at e1
      obtain ⟨rfl, rfl⟩ := e1
      rw [hg] at hgg
      simp only [Option.some.injEq, Obj.cells.injEq, and_true] at hgg
      subst hgg
      refine .inr ⟨g, cap, _, rfl, hb, setRow_heap w g cur _ e (0, 0) hg, h1, h2, ?_, ?_⟩
      · simp only [List.size_toArray, List.length_append, List.length_take, List.length_drop, Array.length_toList]; omega
      · rw [List.append_assoc, List.take_append_of_le_length (by simp; omega), List.take_take, Nat.min_self, h4]

/-- behind the loop, and behind each append to the list. -/
structure Ph (w : World) (base : Nat) (lv : Value) (m : Int) (n : Nat) (ones : List (Value × Nat)) (wr : World) : Prop where
  l : wr.ownsRow base 45 3 lv n (rowQ (List.replicate n (markQ m)))
  mks : ∀ p ∈ ones, Mk wr p.1 m p.2
  old : ∀ q, q < w.heap.size → lv.ownBlock ≠ some q → wr.heap[q]? = w.heap[q]?
  mark : wr.heap[w.heap.size]? = some (.cells #[.int .i64 m, .int .i64 0, .string ⟨#[]⟩] 45 (0, 0))
  bel : Below base w wr
  lb : ∀ g, lv.ownBlock = some g → g < w.heap.size ∧ base ≤ g
  bs : base ≤ w.heap.size
  ty : ∀ p ∈ ones, ∀ g, p.1.ownBlock = some g → ∃ cur, wr.heap[g]? = some (.cells cur 45 (0, 0))
  lo : ∀ p ∈ ones, ∀ g, p.1.ownBlock = some g → lv.ownBlock = some g ∨ w.heap.size ≤ g

theorem Mk.same {w w' : World} {u : Value} {m : Int} {n : Nat} (h : Mk w u m n) (hs : ∀ g, u.ownBlock = some g → g < w.heap.size → w'.heap[g]? = w.heap[g]?) : Mk w' u m n := by
  obtain ⟨ao, cap, rfl, hc⟩ := h
  refine ⟨ao, cap, rfl, fun hn => ?_⟩
  obtain ⟨b, rfl, hq⟩ := hc hn
  refine ⟨b, rfl, fun j hj => ?_⟩
  obtain ⟨c0, c1, c2⟩ := hq j hj
  have hb := hs b rfl (World.block_lt_of_cell? w _ c0)
  exact ⟨(World.cell?_of_block (a := ⟨b, _, none⟩) hb).trans c0, (World.cell?_of_block (a := ⟨b, _, none⟩) hb).trans c1, (World.cell?_of_block (a := ⟨b, _, none⟩) hb).trans c2⟩

theorem Ph.alloc {w wr : World} {base : Nat} {lv : Value} {m : Int} {n : Nat} {ones : List (Value × Nat)} (h : Ph w base lv m n ones wr) (o : Obj) : Ph w base lv m n ones (wr.alloc o) := by
  have hs := h.bel.size
  have hb := h.bs
  exact ⟨h.l.alloc _, fun p hp => (h.mks p hp).same fun g _ hg => Lib.alloc_old wr o g hg, fun q hq hn => (Lib.alloc_old wr o q (by omega)).trans (h.old q hq hn), (Lib.alloc_old wr o _ (lt_of_blk h.mark)).trans h.mark, h.bel.alloc (by omega) _, h.lb, h.bs, fun p hp g hg => by obtain ⟨cur, hc⟩ := h.ty p hp g hg; exact ⟨cur, (Lib.alloc_old wr o g (lt_of_blk hc)).trans hc⟩, h.lo⟩

theorem Ph.append {w wr w' : World} {base : Nat} {lv v' : Value} {m : Int} {n k : Nat} {ones : List (Value × Nat)} (h : Ph w base lv m n ones wr)
    (hown : w'.ownsRow base 45 3 v' (n + k) (rowQ (List.replicate n (markQ m)) ++ rowQ (List.replicate k (markQ m)))) (hg : wr.grownBy w' lv.ownBlock)
    (hw : (∀ q, q < wr.heap.size → w'.heap[q]? = wr.heap[q]?) ∨ (∃ g cap cur, lv = .slice (some ⟨g, 0, none⟩) n cap ∧ wr.heap[g]? = some (.cells cur 45 (0, 0)) ∧ n * 3 + (rowQ (List.replicate k (markQ m))).length ≤ cur.size ∧ w' = wr.setRow g (cur.toList.take (n * 3) ++ rowQ (List.replicate k (markQ m)) ++ cur.toList.drop (n * 3 + (rowQ (List.replicate k (markQ m))).length)).toArray)) (hv : v'.ownBlock = lv.ownBlock ∨ v'.ownBlock = some wr.heap.size) :
    Ph w base lv m n (ones ++ [(v', n + k)]) w' := by
  have hs := h.bel.size
  have hb := h.bs
  rw [← rowQ_append, List.replicate_append_replicate] at hown
  refine ⟨own_stays h.l hw, fun p hp => ?_, fun q hq hn => ?_, ?_, h.bel.grown hg (by omega) fun q hq => (h.lb q hq).2, h.lb, h.bs, fun p hp g hpg => ?_, fun p hp g hpg => ?_⟩
  · rcases List.mem_append.1 hp with hp | hp
    · exact (h.mks p hp).appended hw
    · simp only [List.mem_singleton] at hp
      subst hp
      exact mk_of_row hown
  · exact (hg.block q (by omega) (fun e => hn e.symm)).trans (h.old q hq hn)
  · refine (hg.block _ (lt_of_blk h.mark) fun e => ?_).trans h.mark
    have := (h.lb _ e.symm).1
    omega
  · rcases List.mem_append.1 hp with hp | hp
    · obtain ⟨cur, hc⟩ := h.ty p hp g hpg
      rcases hw with hw | ⟨g', cap, cur', _, hg', hfit, rfl⟩
      · exact ⟨cur, (hw g (lt_of_blk hc)).trans hc⟩
      · by_cases he : g = g'
        · subst he
          exact ⟨_, setRow_heap wr g cur' _ 45 (0, 0) hg'⟩
        · exact ⟨cur, (setRow_other wr g' g _ he).trans hc⟩
    · simp only [List.mem_singleton] at hp
      subst hp
      exact (own_block hown hpg).2.2
  · rcases List.mem_append.1 hp with hp | hp
    · exact h.lo p hp g hpg
    · simp only [List.mem_singleton] at hp
      subst hp
      rcases hv with hv | hv
      · exact .inl (hv ▸ hpg)
      · rw [hv] at hpg
        simp only [Option.some.injEq] at hpg
        exact .inr (by omega)

/-- what a slice of marks reads as, just built. -/
theorem cells_new (w : World) (cs : List Value) (c : Array Value) (e : TypeId) (hc : c = cs.toArray) : ∀ j u, cs[j]? = some u → (w.alloc (.cells c e)).cell? ((⟨w.heap.size, 0, none⟩ : Addr).add j) = some u := by
  intro j u hj
  have hadd : (⟨w.heap.size, 0, none⟩ : Addr).add j = ⟨w.heap.size, j, none⟩ := by unfold Addr.add; split <;> simp_all
  rw [hadd, Lib.cell_of_heap (heap_alloc_new w _), hc, List.getElem?_toArray, hj]

/-- the book, growing. -/
structure Pb (wp : World) (kb o base : Nat) (kcs : Array Value) (kv : Value) (Ws : List Value) (kvi : Value) (wr : World) : Prop where
  hkb : wr.heap[kb]? = some (.cells (kcs.setIfInBounds o kvi) 56 (0, 0))
  row : wr.ownsRow base 28 1 kvi Ws.length Ws
  old : ∀ q, q < wp.heap.size → q ≠ kb → kv.ownBlock ≠ some q → wr.heap[q]? = wp.heap[q]?
  bel : Below base wp wr
  own : ∀ g, kvi.ownBlock = some g → kv.ownBlock = some g ∨ wp.heap.size ≤ g
  kbb : base ≤ kb
  bs : base ≤ wp.heap.size

theorem Pb.step {wp wr w' : World} {kb o base : Nat} {kcs : Array Value} {kv kvi v' x : Value} {Ws : List Value} (h : Pb wp kb o base kcs kv Ws kvi wr) (ob : Obj)
    (hown : w'.ownsRow base 28 1 v' (Ws.length + 1) (Ws ++ [x])) (hg : (wr.alloc ob).grownBy w' kvi.ownBlock) (hv : v'.ownBlock = kvi.ownBlock ∨ v'.ownBlock = some (wr.alloc ob).heap.size) :
    Pb wp kb o base kcs kv (Ws ++ [x]) v' (w'.setCell ⟨kb, o, none⟩ v') := by
  have hs := h.bel.size
  have hb := h.bs
  have hkl := lt_of_blk h.hkb
  have hne : some kb ≠ kvi.ownBlock := fun e => by
    obtain ⟨_, _, cur, hc⟩ := own_block h.row e.symm
    rw [h.hkb] at hc
    simp at hc
  have hk' : w'.heap[kb]? = some (.cells (kcs.setIfInBounds o kvi) 56 (0, 0)) := (hg.block kb (by simp; omega) hne).trans ((Lib.alloc_old wr ob kb hkl).trans h.hkb)
  have hne' : v'.ownBlock ≠ some kb := fun e => by
    obtain ⟨_, _, cur, hc⟩ := own_block hown e
    rw [hk'] at hc
    simp at hc
  refine ⟨?_, ?_, fun q hq hqk hqv => ?_, ?_, fun g hvg => ?_, h.kbb, h.bs⟩
  · have := block_set hk' o v'
    rwa [Array.setIfInBounds_setIfInBounds] at this
  · rw [List.length_append]
    exact own_same hown fun g hgg _ => Below.heap_setCell _ _ _ _ fun e => hne' (by rw [hgg, e])
  · rw [Below.heap_setCell _ _ _ _ hqk]
    have hq2 : some q ≠ kvi.ownBlock := fun e => by
      rcases h.own q e.symm with h1 | h1
      · exact hqv h1
      · omega
    exact (hg.block q (by simp; omega) hq2).trans ((Lib.alloc_old wr ob q (by omega)).trans (h.old q hq hqk hqv))
  · exact ((h.bel.alloc (by omega) ob).grown hg (by simp; omega) fun q hq => (own_block h.row hq).2.1).setCell h.kbb v'
  · rcases hv with hv | hv
    · exact h.own g (hv ▸ hvg)
    · rw [hv] at hvg
      simp at hvg
      omega

end Go.Proofs.Ytpiankiacbghcaa
