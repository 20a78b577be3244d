/-
  quilllaw: among; the book of lists that came out.
  append of marks: what read as marks reads as marks behind it.
  quilllaw.Book.keeps: the list that came out is written full of marks; three appends to it; the book takes all four.
  quilllaw.Book.keeps: what holds behind each append.
  quilllaw.Book.keeps, walked.
  quilllaw.World.parts.
-/
import Derived.Test.YtpiankiacbghcaaQWhole
import Derived.Maps.AppendAt
import Derived.Deep.RegionHeld3
import Derived.Deep.AppendLies
import Derived.Deep.RegionLaw
namespace Go.Proofs.Ytpiankiacbghcaa
open Go.RowKit

set_option maxHeartbeats 400000 in
theorem among_any (b off cap : Nat) (zs : List Int) (k : Int) (w : World) (hz : ∀ j (h : j < zs.length), w.cell? ⟨b, off + j, none⟩ = some (.int .i64 zs[j])) (hn : zs.length ≤ 1000000) :
    Calls Try.prog 23 #[.slice (some ⟨b, off, none⟩) zs.length cap, .int .i64 k] w fun e w' => e = .returned (.bool (decide (k ∈ zs))) ∧ w' = w := by
  have HZ : Hid (∀ j (h : j < zs.length), w.cell? ⟨b, off + j, none⟩ = some (.int .i64 zs[j])) := hz
  clear hz
  go_enter Try.func23, Try.ntmps23
  go_wp2
  go_loop [5] (fun i => ∃ j : Nat, j ≤ zs.length ∧ i = .int .i64 j ∧ Hid (k ∉ zs.take j)) (fun i => zs.length - (intOf i).toNat)
  case atStart => exact ⟨0, Nat.zero_le _, rfl, by show _ ∉ _; simp⟩
  case round =>
    obtain ⟨j, hj, rfl, hnot⟩ := hrel
    by_cases hlt : j < zs.length
    · have c0 := HZ.out j hlt
      by_cases he : zs[j] = k
      · have hb : (zs[j] == k) = true := beq_iff_eq.2 he
        have HM : Hid (k ∈ zs) := by show k ∈ zs; rw [← he]; exact List.getElem_mem hlt
        clear he
        go_wp2
        go_ret
        exact ⟨ret_bool (decide_eq_true HM.out).symm, rfl⟩
      · have hb : (zs[j] == k) = false := beq_eq_false_iff_ne.2 he
        have HN : Hid (k ∉ zs.take (j + 1)) := by
          show _ ∉ _
          rw [List.take_succ_eq_append_getElem hlt, List.mem_append]
          rintro (h | h)
          · exact hnot.out h
          · simp at h; exact he h.symm
        clear he
        go_wp2
        go_round
        case rel => exact ⟨j + 1, by omega, by go_num, HN⟩
        case measure => simp [intOf]; omega
    · go_wp2
      go_ret
      refine ⟨ret_bool (decide_eq_false ?_).symm, rfl⟩
      have := hnot.out
      rwa [List.take_of_length_le (by omega)] at this

/-- a list that reads as so many marks of one kind. -/
def MarksAt (w : World) (v : Value) (m : Int) : Prop :=
  ∃ ao n cap, v = .slice ao n cap ∧ n ≤ 1000000000 ∧ (0 < n → ∃ b off, ao = some ⟨b, off, none⟩ ∧ ∀ j, j < n → QtAt w b (off + j * 3) ⟨m, 0, []⟩)

/-- the book: in its row each list reads as its marks; there are no entries. -/
structure BookAt (w : World) (kb : Nat) (o : Nat) (Vs : List Value) : Prop where
  row : ∃ ao cap, w.cell? ⟨kb, o, none⟩ = some (.slice ao Vs.length cap) ∧ (0 < Vs.length → ∃ b off, ao = some ⟨b, off, none⟩ ∧ ∀ i (h : i < Vs.length), w.cell? ⟨b, off + i, none⟩ = some Vs[i])
  ent : w.cell? ⟨kb, o + 1, none⟩ = some (.slice none 0 0)
  marks : ∀ i (h : i < Vs.length), MarksAt w Vs[i] (-1000 - (i : Int) / 4)
  len : Vs.length ≤ 1000000000

set_option maxHeartbeats 1000000 in
set_option maxRecDepth 100000 in
theorem looks_yes (kb o : Nat) (Vs : List Value) (w : World) (h : BookAt w kb o Vs) :
    Calls Try.prog 25 #[.pointer (some ⟨kb, o, none⟩)] w fun e w' => e = .returned (.bool true) ∧ Below w.heap.size w w' := by
  obtain ⟨⟨ao, cap, c0, hrow⟩, c1, hm, hl⟩ := h
  have HM : Hid ((0 < Vs.length → ∃ b off, ao = some ⟨b, off, none⟩ ∧ ∀ i (h : i < Vs.length), w.cell? ⟨b, off + i, none⟩ = some Vs[i]) ∧ ∀ i (h : i < Vs.length), MarksAt w Vs[i] (-1000 - (i : Int) / 4)) := ⟨hrow, hm⟩
  clear hrow hm
  have hkb : kb < w.heap.size := World.block_lt_of_cell? w _ c0
  have HC : Hid (w.cell? ⟨kb, o, none⟩ = some (.slice ao Vs.length cap) ∧ w.cell? ⟨kb, o + 1, none⟩ = some (.slice none 0 0)) := ⟨c0, c1⟩
  clear c0 c1
  have c0 : w.cell? ⟨kb, o, none⟩ = some (.slice ao Vs.length cap) := HC.out.1
  go_enter Try.func25, Try.ntmps25
  go_wp2
  go_loopw [3] (fun i wr => ∃ k : Nat, k ≤ Vs.length ∧ i = .int .i64 k ∧ Below w.heap.size w wr) (fun i _ => Vs.length - (intOf i).toNat)
  case atStart => exact ⟨0, Nat.zero_le _, rfl, Below.refl _ _⟩
  case round =>
    rename World => wo
    obtain ⟨k, hk, rfl, hB⟩ := hrel
    clear c0
    have c0 : wo.cell? ⟨kb, o, none⟩ = some (.slice ao Vs.length cap) := (hB.cell (p := ⟨kb, o, none⟩) hkb).trans HC.out.1
    have c1 : wo.cell? ⟨kb, o + 1, none⟩ = some (.slice none 0 0) := (hB.cell (p := ⟨kb, o + 1, none⟩) hkb).trans HC.out.2
    have hkr : kb < wo.heap.size := Nat.lt_of_lt_of_le hkb hB.size
    by_cases hlt : k < Vs.length
    · obtain ⟨rb, roff, rfl, hrc⟩ := HM.out.1 (by omega)
      have r0 := hrc k hlt
      obtain ⟨ao2, n2, cap2, hv, hn2, hmk⟩ := HM.out.2 k hlt
      rw [hv] at r0
      have hrb : rb < w.heap.size := World.block_lt_of_cell? w _ r0
      rw [← hB.cell (p := ⟨rb, _, none⟩) hrb] at r0
      have hrr : rb < wo.heap.size := Nat.lt_of_lt_of_le hrb hB.size
      have HMK : Hid (0 < n2 → ∃ b off, ao2 = some ⟨b, off, none⟩ ∧ ∀ j, j < n2 → QtAt w b (off + j * 3) ⟨-1000 - (k : Int) / 4, 0, []⟩) := hmk
      clear hrc hmk hv
      have hki : (k : Int) < (Vs.length : Int) := by omega
      go_wp2
      go_loopw [5] (fun j wx => ∃ q : Nat, q ≤ n2 ∧ j = .int .i64 q ∧ Hid (wx.heap[wo.heap.size]? = some (.cells #[.int .i64 (-1000 - (k : Int) / 4), .int .i64 0, .string ⟨#[]⟩] 45 (0, 0)) ∧ Below wo.heap.size wo wx)) (fun j _ => n2 - (intOf j).toNat)
      case atStart => exact ⟨0, Nat.zero_le _, rfl, heap_alloc_new wo _, (Below.refl _ _).alloc (Nat.le_refl _) _⟩
      case round =>
        obtain ⟨q, hq, rfl, hx⟩ := hrel
        have e0 : wr.cell? ⟨kb, o, none⟩ = some (.slice (some ⟨rb, roff, none⟩) Vs.length cap) := (hx.out.2.cell (p := ⟨kb, o, none⟩) hkr).trans c0
        have e1 : wr.cell? ⟨rb, roff + k, none⟩ = some (.slice ao2 n2 cap2) := (hx.out.2.cell (p := ⟨rb, roff + k, none⟩) hrr).trans r0
        have m0 : wr.cell? ⟨wo.heap.size, 0, none⟩ = some (.int .i64 (-1000 - (k : Int) / 4)) := Lib.cell_of_heap hx.out.1 0
        have m1 : wr.cell? ⟨wo.heap.size, 1, none⟩ = some (.int .i64 0) := Lib.cell_of_heap hx.out.1 1
        have m2 : wr.cell? ⟨wo.heap.size, 2, none⟩ = some (.string ⟨#[]⟩) := Lib.cell_of_heap hx.out.1 2
        clear c0 c1 r0
        by_cases hlt2 : q < n2
        · obtain ⟨b, off, rfl, hm⟩ := HMK.out (by omega)
          obtain ⟨q0, q1, q2⟩ := hm q hlt2
          have hbb : b < w.heap.size := World.block_lt_of_cell? w _ q0
          have hB2 : Below w.heap.size w wr := hB.trans (hx.out.2.mono hB.size)
          rw [← hB2.cell (p := ⟨b, _, none⟩) hbb] at q0 q1 q2
          replace q2 : wr.cell? ⟨b, off + q * 3 + 2, none⟩ = some (.string ⟨#[]⟩) := q2
          have hqi : (q : Int) < (n2 : Int) := by omega
          clear hm hB2
          go_wp2
          go_quiet (fail)
          go_wp2
          go_roundw
          case rel => exact ⟨q + 1, by omega, by go_num, hx.out.1, below_drewN hx.out.2 _⟩
          case measure => simp [intOf]; omega
        · go_wp2
          go_roundw
          case rel => exact ⟨k + 1, by omega, by go_num, hB.trans (hx.out.2.mono hB.size)⟩
          case measure => simp [intOf]; omega
    · go_wp2
      go_loopw [6] (fun i wx => i = .int .i64 0 ∧ wx = wo) (fun _ _ => 0)
      case atStart => exact ⟨rfl, rfl⟩
      case round =>
        obtain ⟨rfl, rfl⟩ := hrel
        go_wp2
        go_ret
        exact ⟨rfl, hB⟩

def markQ (m : Int) : Qt := ⟨m, 0, []⟩
/-- a list at a block's beginning that reads as n marks. -/
def Mk (w : World) (v : Value) (m : Int) (n : Nat) : Prop :=
  ∃ ao cap, v = .slice ao n cap ∧ (0 < n → ∃ b, ao = some ⟨b, 0, none⟩ ∧ ∀ j, j < n → QtAt w b (j * 3) (markQ m))

theorem Mk.marks {w : World} {v : Value} {m : Int} {n : Nat} (h : Mk w v m n) (hn : n ≤ 1000000000) : MarksAt w v m := by
  obtain ⟨ao, cap, rfl, hc⟩ := h
  refine ⟨ao, n, cap, rfl, hn, fun h => ?_⟩
  obtain ⟨b, rfl, hq⟩ := hc h
  exact ⟨b, 0, rfl, fun j hj => by rw [Nat.zero_add]; exact hq j hj⟩

/-- what an append writes: nothing that was there, or behind the list alone. -/
theorem append_where {P : Program} {w : World} (base : Nat) (t ty e : TypeId) (i : TypeInfo) (z : Value) (size bytes : Nat) (ht : P.underlying t = some (.slice e)) (hi : P.info? e = some i) (hz : i.zero = some z) (hsize : i.size = size) (hby : i.bytes = bytes) (hsz : 0 < size)
    (v : Value) (n : Nat) (xs : List Value) (hown : w.ownsRow base e size v n xs) (a : Addr) (m c : Nat) (news : List Value) (hl : news.length = m * size) (hnews : ∀ j u, news[j]? = some u → w.cell? (a.add j) = some u) (h1 : ∀ u ∈ news, u.oneCell' = true)
    (hm : 0 < m) (h63 : n + m ≤ maxLen) (hbytes : (n + m) * bytes ≤ 140737488355328) (v' : Value) (w' : World) (hr : (Builtin.append_ #[t, t] ty #[v, .slice (some a) m c]).run P w = .ok v' w') :
    (∀ k, k < w.heap.size → w'.heap[k]? = w.heap[k]?) ∨ (∃ g cap cur, v = .slice (some ⟨g, 0, none⟩) n cap ∧ w.heap[g]? = some (.cells cur e (0, 0)) ∧ n * size + news.length ≤ cur.size ∧ w' = w.setRow g (cur.toList.take (n * size) ++ news ++ cur.toList.drop (n * size + news.length)).toArray) := by
  subst hsize hby
  unfold maxLen at h63
  rcases hown.2 with ⟨rfl, rfl⟩ | ⟨g, cap, cur, rfl, hbg, hg, hnc, hcm, hcs, htake⟩
  · have hr2 := run_append_nil (P := P) w t ty e i z ht hi hz a m c news hl hnews hm (by omega) (by have hb := hbytes; simp only [Nat.zero_add] at hb; omega)
    rw [hr] at hr2
    simp only [Result.ok.injEq] at hr2
    obtain ⟨_, rfl⟩ := hr2
    exact .inl fun k hk => Lib.alloc_old w.drew _ k hk
  · by_cases hroom : n + m ≤ cap
    · have hfit : n * i.size + news.length ≤ cur.size := by rw [hl, hcs, ← Nat.add_mul]; exact Nat.mul_le_mul_right _ hroom
      have hr2 := run_append_room (P := P) w t ty e i ht hi g n cap cur hg a m c news hl hnews h1 hroom hfit
      rw [hr] at hr2
      simp only [Result.ok.injEq] at hr2
      obtain ⟨_, rfl⟩ := hr2
      exact .inr ⟨g, cap, cur, rfl, hg, hfit, rfl⟩
    · have holds : ∀ j u, xs[j]? = some u → w.cell? ((⟨g, 0, none⟩ : Addr).add j) = some u := hown.cells (g := g) rfl
      have hr2 := run_append_grow (P := P) w t ty e i z ht hi hz ⟨g, 0, none⟩ n cap xs hown.1 holds a m c news hl hnews (by omega) (by omega) (growslice_fits (by omega) hbytes)
      rw [hr] at hr2
      simp only [Result.ok.injEq] at hr2
      obtain ⟨_, rfl⟩ := hr2
      exact .inl fun k hk => Lib.alloc_old w.drew _ k hk

theorem row_marks (m : Int) (k : Nat) : ∀ p, p < k * 3 → (rowQ (List.replicate k (markQ m)))[p]? = (qCells (markQ m))[p % 3]? := by
  intro p hp
  have := rowQ_at (List.replicate k (markQ m)) (p / 3) (by simp; omega) (p % 3) (by omega)
  rw [show p / 3 * 3 + p % 3 = p by omega] at this
  rw [this]
  simp

theorem mark_cells {w : World} {b : Nat} {m : Int} {n : Nat} : (∀ j, j < n → QtAt w b (j * 3) (markQ m)) ↔ ∀ p, p < n * 3 → w.cell? ⟨b, p, none⟩ = (qCells (markQ m))[p % 3]? := by
  constructor
  · intro h p hp
    obtain ⟨c0, c1, c2⟩ := h (p / 3) (by omega)
    have h3 : p % 3 = 0 ∨ p % 3 = 1 ∨ p % 3 = 2 := by omega
    rcases h3 with e | e | e
    · rw [e, show p = p / 3 * 3 by omega]; exact c0
    · rw [e, show p = p / 3 * 3 + 1 by omega]; exact c1
    · rw [e, show p = p / 3 * 3 + 2 by omega]; exact c2
  · intro h j hj
    have h0 := h (j * 3) (by omega)
    have h1 := h (j * 3 + 1) (by omega)
    have h2 := h (j * 3 + 2) (by omega)
    rw [show j * 3 % 3 = 0 by omega] at h0
    rw [show (j * 3 + 1) % 3 = 1 by omega] at h1
    rw [show (j * 3 + 2) % 3 = 2 by omega] at h2
    exact ⟨h0, h1, h2⟩

/-- WHAT READ AS MARKS READS AS MARKS. -/
theorem Mk.append {w w' : World} {g n k : Nat} {cur : Array Value} {e : TypeId} {m : Int} {u : Value} {nu : Nat} (h : Mk w u m nu) (hg : w.heap[g]? = some (.cells cur e (0, 0))) (hfit : n * 3 + (rowQ (List.replicate k (markQ m))).length ≤ cur.size)
    (hw : w' = w.setRow g (cur.toList.take (n * 3) ++ rowQ (List.replicate k (markQ m)) ++ cur.toList.drop (n * 3 + (rowQ (List.replicate k (markQ m))).length)).toArray) : Mk w' u m nu := by
  obtain ⟨ao, cap, rfl, hc⟩ := h
  refine ⟨ao, cap, rfl, fun hn => ?_⟩
  obtain ⟨b, rfl, hq⟩ := hc hn
  refine ⟨b, rfl, ?_⟩
  rw [mark_cells] at hq ⊢
  intro p hp
  by_cases hb : b = g
  · subst hb
    have h1 := setRow_heap w b cur (cur.toList.take (n * 3) ++ rowQ (List.replicate k (markQ m)) ++ cur.toList.drop (n * 3 + (rowQ (List.replicate k (markQ m))).length)).toArray e (0, 0) hg
    rw [← hw] at h1
    rw [Lib.cell_of_heap h1, List.getElem?_toArray]
    have h0 := hq p hp
    rw [Lib.cell_of_heap hg] at h0
    rw [rowQ_length, List.length_replicate] at hfit ⊢
    have hl : (cur.toList.take (n * 3)).length = n * 3 := by simp; omega
    rw [List.append_assoc]
    by_cases hp1 : p < n * 3
    · rw [List.getElem?_append_left (by omega), List.getElem?_take_of_lt hp1]
      simpa using h0
    · rw [List.getElem?_append_right (by omega), hl]
      by_cases hp2 : p < n * 3 + k * 3
      · rw [List.getElem?_append_left (by rw [rowQ_length]; simp; omega), row_marks m k (p - n * 3) (by omega)]
        congr 1
        omega
      · rw [List.getElem?_append_right (by rw [rowQ_length]; simp; omega), rowQ_length, List.length_replicate, List.getElem?_drop]
        rw [show n * 3 + k * 3 + (p - n * 3 - k * 3) = p by omega]
        simpa using h0
  · have h1 : w'.heap[b]? = w.heap[b]? := by rw [hw]; exact setRow_other w g b _ hb
    rw [World.cell?_of_block (a := ⟨b, p, none⟩) h1]
    exact hq p hp

/-- append to a row, and all that is known of it. -/
theorem append_marks {P : Program} {w : World} {ops : Array Oper} {rest : List Oper} {o : Oper} {a : Act} {Q : Exit → Act → World → Prop} (hgd : o.guard = none) (s x : Operand) (t : TypeId)
    (ho : o.op = .call { callee := .builtin .append, args := #[s, x], argTypes := #[t, t] })
    (base : Nat) (e : TypeId) (i : TypeInfo) (z : Value) (size bytes : Nat) (ht : P.underlying t = some (.slice e)) (hi : P.info? e = some i) (hz : i.zero = some z) (hsize : i.size = size) (hby : i.bytes = bytes) (hzs : z.cells.size = size) (hsz : 0 < size)
    (v : Value) (n : Nat) (xs : List Value) (hs : a.eval s = v) (hown : w.ownsRow base e size v n xs) (ad : Addr) (m c : Nat) (news : List Value) (hx : a.eval x = .slice (some ad) m c) (hl : news.length = m * size) (hnews : ∀ j u, news[j]? = some u → w.cell? (ad.add j) = some u) (h1 : ∀ u ∈ news, u.oneCell' = true)
    (hm : 0 < m) (h63 : n + m ≤ maxLen) (hbytes : (n + m) * bytes ≤ 140737488355328) (hbase : base ≤ w.heap.size)
    (h : ∀ v' w', w'.ownsRow base e size v' (n + m) (xs ++ news) → w.grownBy w' v.ownBlock →
      ((∀ k, k < w.heap.size → w'.heap[k]? = w.heap[k]?) ∨ (∃ g cap cur, v = .slice (some ⟨g, 0, none⟩) n cap ∧ w.heap[g]? = some (.cells cur e (0, 0)) ∧ n * size + news.length ≤ cur.size ∧ w' = w.setRow g (cur.toList.take (n * size) ++ news ++ cur.toList.drop (n * size + news.length)).toArray)) → (v'.ownBlock = v.ownBlock ∨ v'.ownBlock = some w.heap.size) → wpList P ops Q rest (a.put o.dst v') w') : wpList P ops Q (o :: rest) a w := by
  refine wpList_plain hgd fun K hK => ?_
  obtain ⟨v', w', hr, h2, h3, _, h5⟩ := run_append_own_at (P := P) (w := w) base t o.type e i z size bytes ht hi hz hsize hby hzs hsz v n xs hown ad m c news hl hnews h1 h63 hbytes hbase
  have h4 := append_where (P := P) base t o.type e i z size bytes ht hi hz hsize hby hsz v n xs hown ad m c news hl hnews h1 hm h63 hbytes v' w' hr
  unfold Oper.wp execOp
  simp only [ho, resolve, invoke, builtin, Sem.run_bind, Sem.run_pure, Result.andThen_ok, List.map_toArray, List.map_cons, List.map_nil, hs, hx, hr]
  exact hK _ _ (h v' w' h2 h3 h4 h5)

/-- marks, kept by an append of marks. -/
theorem Mk.appended {w w' : World} {v u : Value} {e : TypeId} {m : Int} {n k nu : Nat} (h : Mk w u m nu)
    (hw : (∀ q, q < w.heap.size → w'.heap[q]? = w.heap[q]?) ∨ (∃ g cap cur, v = .slice (some ⟨g, 0, none⟩) n cap ∧ w.heap[g]? = some (.cells cur e (0, 0)) ∧ n * 3 + (rowQ (List.replicate k (markQ m))).length ≤ cur.size ∧ w' = w.setRow g (cur.toList.take (n * 3) ++ rowQ (List.replicate k (markQ m)) ++ cur.toList.drop (n * 3 + (rowQ (List.replicate k (markQ m))).length)).toArray)) : Mk w' u m nu := by
  rcases hw with hw | ⟨g, cap, cur, _, hg, hfit, rfl⟩
  · obtain ⟨ao, cap, rfl, hc⟩ := h
    refine ⟨ao, cap, rfl, fun hn => ?_⟩
    obtain ⟨b, rfl, hq⟩ := hc hn
    refine ⟨b, rfl, ?_⟩
    rw [mark_cells] at hq ⊢
    intro p hp
    have h0 := hq p hp
    have hb : b < w.heap.size := by
      have h3 : p % 3 = 0 ∨ p % 3 = 1 ∨ p % 3 = 2 := by omega
      rcases h3 with e | e | e <;> (rw [e] at h0; exact World.block_lt_of_cell? w _ h0)
    rw [World.cell?_of_block (a := ⟨b, p, none⟩) (hw b hb)]
    exact h0
  · exact h.append hg hfit rfl

theorem mk_of_row {w : World} {base : Nat} {e : TypeId} {v : Value} {m : Int} {n : Nat} (h : w.ownsRow base e 3 v n (rowQ (List.replicate n (markQ m)))) : Mk w v m n := by
  rcases h.2 with ⟨rfl, rfl⟩ | ⟨g, cap, cur, rfl, _, hg, hle, _, _, _⟩
  · exact ⟨none, 0, rfl, fun h => by omega⟩
  · refine ⟨_, _, rfl, fun _ => ⟨g, rfl, ?_⟩⟩
    rw [mark_cells]
    intro p hp
    have hc := h.cells (g := g) rfl
    have hadd : ∀ j, (⟨g, 0, none⟩ : Addr).add j = ⟨g, j, none⟩ := fun j => by unfold Addr.add; split <;> simp_all
    have hr := row_marks m n p hp
    have h3 : p % 3 = 0 ∨ p % 3 = 1 ∨ p % 3 = 2 := by omega
    rcases h3 with e | e | e <;>
      (rw [e] at hr ⊢; have := hc p _ hr; rw [hadd] at this; exact this)

theorem own_cell {w : World} {base g n cap sz : Nat} {e : TypeId} {ys : List Value} (h : w.ownsRow base e sz (.slice (some ⟨g, 0, none⟩) n cap) n ys) (j : Nat) (v : Value) : (w.setCell ⟨g, j, none⟩ v).ownsRow base e sz (.slice (some ⟨g, 0, none⟩) n cap) n (ys.set j v) := by
  refine ⟨by simpa using h.1, ?_⟩
  rcases h.2 with ⟨e1, _⟩ | ⟨g', cap', cur, e1, hbb, hgg, h1, h2, h3, h4⟩
  · cases e1
  · simp only [Value.slice.injEq, Option.some.injEq, Addr.mk.injEq, and_true, true_and] at e1
    obtain ⟨rfl, rfl⟩ := e1
    refine .inr ⟨g, cap, _, rfl, hbb, block_set hgg j v, h1, h2, by simpa using h3, ?_⟩
    rw [Array.toList_setIfInBounds, List.take_set, h4]

/-- the first k elements written full of marks. -/
def markedV (m : Int) (xs : List Value) (k : Nat) : List Value := rowQ (List.replicate k (markQ m)) ++ xs.drop (k * 3)
theorem markedV_set (m : Int) (xs : List Value) (k : Nat) (h : k * 3 + 3 ≤ xs.length) : (((markedV m xs k).set (k * 3) (.int .i64 m)).set (k * 3 + 1) (.int .i64 0)).set (k * 3 + 2) (.string ⟨#[]⟩) = markedV m xs (k + 1) := by
  have hl : (rowQ (List.replicate k (markQ m))).length = k * 3 := by rw [rowQ_length]; simp
  unfold markedV
  rw [List.set_append_right _ _ (by omega), List.set_append_right _ _ (by omega), List.set_append_right _ _ (by omega), hl]
  rw [show k * 3 - k * 3 = 0 by omega, show k * 3 + 1 - k * 3 = 1 by omega, show k * 3 + 2 - k * 3 = 2 by omega]
  rw [List.drop_eq_getElem_cons (show k * 3 < xs.length by omega), List.drop_eq_getElem_cons (show k * 3 + 1 < xs.length by omega), List.drop_eq_getElem_cons (show k * 3 + 1 + 1 < xs.length by omega)]
  rw [List.replicate_succ', rowQ_append, List.append_assoc, show (k + 1) * 3 = k * 3 + 1 + 1 + 1 by omega]
  rfl

/-- append_marks, and where the row lies. -/
theorem append_at {P : Program} {w : World} {ops : Array Oper} {rest : List Oper} {o : Oper} {a : Act} {Q : Exit → Act → World → Prop} (hgd : o.guard = none) (s x : Operand) (t : TypeId)
    (ho : o.op = .call { callee := .builtin .append, args := #[s, x], argTypes := #[t, t] })
    (base : Nat) (e : TypeId) (i : TypeInfo) (z : Value) (size bytes : Nat) (ht : P.underlying t = some (.slice e)) (hi : P.info? e = some i) (hz : i.zero = some z) (hsize : i.size = size) (hby : i.bytes = bytes) (hzs : z.cells.size = size) (hsz : 0 < size)
    (v : Value) (n : Nat) (xs : List Value) (hs : a.eval s = v) (hown : w.ownsRow base e size v n xs) (ad : Addr) (m c : Nat) (news : List Value) (hx : a.eval x = .slice (some ad) m c) (hl : news.length = m * size) (hnews : ∀ j u, news[j]? = some u → w.cell? (ad.add j) = some u) (h1 : ∀ u ∈ news, u.oneCell' = true)
    (h63 : n + m ≤ maxLen) (hbytes : (n + m) * bytes ≤ 140737488355328) (hbase : base ≤ w.heap.size)
    (h : ∀ v' w', w'.ownsRow base e size v' (n + m) (xs ++ news) → w.grownBy w' v.ownBlock → (v'.ownBlock = v.ownBlock ∨ v'.ownBlock = some w.heap.size) → wpList P ops Q rest (a.put o.dst v') w') : wpList P ops Q (o :: rest) a w := by
  refine wpList_plain hgd fun K hK => ?_
  obtain ⟨v', w', hr, h2, h3, _, h5⟩ := run_append_own_at (P := P) (w := w) base t o.type e i z size bytes ht hi hz hsize hby hzs hsz v n xs hown ad m c news hl hnews h1 h63 hbytes hbase
  unfold Oper.wp execOp
  simp only [ho, resolve, invoke, builtin, Sem.run_bind, Sem.run_pure, Result.andThen_ok, List.map_toArray, List.map_cons, List.map_nil, hs, hx, hr]
  exact hK _ _ (h v' w' h2 h3 h5)

theorem own_same {w w' : World} {base sz n : Nat} {e : TypeId} {v : Value} {xs : List Value} (h : w.ownsRow base e sz v n xs) (hs : ∀ g, v.ownBlock = some g → g < w.heap.size → w'.heap[g]? = w.heap[g]?) : w'.ownsRow base e sz v n xs := by
  refine ⟨h.1, ?_⟩
  rcases h.2 with hn | ⟨g, cap, cur, rfl, hb, hg, rest⟩
  · exact .inl hn
  · exact .inr ⟨g, cap, cur, rfl, hb, (hs g rfl (lt_of_blk hg)).trans hg, rest⟩

theorem own_block {w : World} {base sz n : Nat} {e : TypeId} {v : Value} {xs : List Value} (h : w.ownsRow base e sz v n xs) {g : Nat} (hg : v.ownBlock = some g) : g < w.heap.size ∧ base ≤ g ∧ ∃ cur, w.heap[g]? = some (.cells cur e (0, 0)) := by
  rcases h.2 with ⟨rfl, _⟩ | ⟨g', cap, cur, rfl, hb, hgg, _⟩
  · cases hg
  · cases hg
    exact ⟨lt_of_blk hgg, hb, cur, hgg⟩

/-- the list itself stays as it is where something is appended to it. -/
theorem own_stays {w w' : World} {base n : Nat} {e : TypeId} {v : Value} {xs news : List Value} (h : w.ownsRow base e 3 v n xs)
    (hw : (∀ q, q < w.heap.size → w'.heap[q]? = w.heap[q]?) ∨ (∃ g cap cur, v = .slice (some ⟨g, 0, none⟩) n cap ∧ w.heap[g]? = some (.cells cur e (0, 0)) ∧ n * 3 + news.length ≤ cur.size ∧ w' = w.setRow g (cur.toList.take (n * 3) ++ news ++ cur.toList.drop (n * 3 + news.length)).toArray)) : w'.ownsRow base e 3 v n xs := by
  rcases hw with hw | ⟨g, cap, cur, rfl, hg, hfit, rfl⟩
  · exact own_same h fun g _ hlt => hw g hlt
  · refine ⟨h.1, ?_⟩
    rcases h.2 with ⟨e1, _⟩ | ⟨g', cap', cur', e1, hb, hgg, h1, h2, h3, h4⟩
    · cases e1
    · simp only [Value.slice.injEq, Option.some.injEq, Addr.mk.injEq, and_true, true_and] at e1
      obtain ⟨rfl, rfl⟩ := e1
      rw [hg] at hgg
      simp only [Option.some.injEq, Obj.cells.injEq, and_true] at hgg
      subst hgg
      refine .inr ⟨g, cap, _, rfl, hb, setRow_heap w g cur _ e (0, 0) hg, h1, h2, ?_, ?_⟩
      · simp only [List.size_toArray, List.length_append, List.length_take, List.length_drop, Array.length_toList]; omega
      · rw [List.append_assoc, List.take_append_of_le_length (by simp; omega), List.take_take, Nat.min_self, h4]

/-- behind the loop, and behind each append to the list. -/
structure Ph (w : World) (base : Nat) (lv : Value) (m : Int) (n : Nat) (ones : List (Value × Nat)) (wr : World) : Prop where
  l : wr.ownsRow base 45 3 lv n (rowQ (List.replicate n (markQ m)))
  mks : ∀ p ∈ ones, Mk wr p.1 m p.2
  old : ∀ q, q < w.heap.size → lv.ownBlock ≠ some q → wr.heap[q]? = w.heap[q]?
  mark : wr.heap[w.heap.size]? = some (.cells #[.int .i64 m, .int .i64 0, .string ⟨#[]⟩] 45 (0, 0))
  bel : Below base w wr
  lb : ∀ g, lv.ownBlock = some g → g < w.heap.size ∧ base ≤ g
  bs : base ≤ w.heap.size
  ty : ∀ p ∈ ones, ∀ g, p.1.ownBlock = some g → ∃ cur, wr.heap[g]? = some (.cells cur 45 (0, 0))
  lo : ∀ p ∈ ones, ∀ g, p.1.ownBlock = some g → lv.ownBlock = some g ∨ w.heap.size ≤ g

theorem Mk.same {w w' : World} {u : Value} {m : Int} {n : Nat} (h : Mk w u m n) (hs : ∀ g, u.ownBlock = some g → g < w.heap.size → w'.heap[g]? = w.heap[g]?) : Mk w' u m n := by
  obtain ⟨ao, cap, rfl, hc⟩ := h
  refine ⟨ao, cap, rfl, fun hn => ?_⟩
  obtain ⟨b, rfl, hq⟩ := hc hn
  refine ⟨b, rfl, fun j hj => ?_⟩
  obtain ⟨c0, c1, c2⟩ := hq j hj
  have hb := hs b rfl (World.block_lt_of_cell? w _ c0)
  exact ⟨(World.cell?_of_block (a := ⟨b, _, none⟩) hb).trans c0, (World.cell?_of_block (a := ⟨b, _, none⟩) hb).trans c1, (World.cell?_of_block (a := ⟨b, _, none⟩) hb).trans c2⟩

theorem Ph.alloc {w wr : World} {base : Nat} {lv : Value} {m : Int} {n : Nat} {ones : List (Value × Nat)} (h : Ph w base lv m n ones wr) (o : Obj) : Ph w base lv m n ones (wr.alloc o) := by
  have hs := h.bel.size
  have hb := h.bs
  exact ⟨h.l.alloc _, fun p hp => (h.mks p hp).same fun g _ hg => Lib.alloc_old wr o g hg, fun q hq hn => (Lib.alloc_old wr o q (by omega)).trans (h.old q hq hn), (Lib.alloc_old wr o _ (lt_of_blk h.mark)).trans h.mark, h.bel.alloc (by omega) _, h.lb, h.bs, fun p hp g hg => by obtain ⟨cur, hc⟩ := h.ty p hp g hg; exact ⟨cur, (Lib.alloc_old wr o g (lt_of_blk hc)).trans hc⟩, h.lo⟩

theorem Ph.append {w wr w' : World} {base : Nat} {lv v' : Value} {m : Int} {n k : Nat} {ones : List (Value × Nat)} (h : Ph w base lv m n ones wr)
    (hown : w'.ownsRow base 45 3 v' (n + k) (rowQ (List.replicate n (markQ m)) ++ rowQ (List.replicate k (markQ m)))) (hg : wr.grownBy w' lv.ownBlock)
    (hw : (∀ q, q < wr.heap.size → w'.heap[q]? = wr.heap[q]?) ∨ (∃ g cap cur, lv = .slice (some ⟨g, 0, none⟩) n cap ∧ wr.heap[g]? = some (.cells cur 45 (0, 0)) ∧ n * 3 + (rowQ (List.replicate k (markQ m))).length ≤ cur.size ∧ w' = wr.setRow g (cur.toList.take (n * 3) ++ rowQ (List.replicate k (markQ m)) ++ cur.toList.drop (n * 3 + (rowQ (List.replicate k (markQ m))).length)).toArray)) (hv : v'.ownBlock = lv.ownBlock ∨ v'.ownBlock = some wr.heap.size) :
    Ph w base lv m n (ones ++ [(v', n + k)]) w' := by
  have hs := h.bel.size
  have hb := h.bs
  rw [← rowQ_append, List.replicate_append_replicate] at hown
  refine ⟨own_stays h.l hw, fun p hp => ?_, fun q hq hn => ?_, ?_, h.bel.grown hg (by omega) fun q hq => (h.lb q hq).2, h.lb, h.bs, fun p hp g hpg => ?_, fun p hp g hpg => ?_⟩
  · rcases List.mem_append.1 hp with hp | hp
    · exact (h.mks p hp).appended hw
    · simp only [List.mem_singleton] at hp
      subst hp
      exact mk_of_row hown
  · exact (hg.block q (by omega) (fun e => hn e.symm)).trans (h.old q hq hn)
  · refine (hg.block _ (lt_of_blk h.mark) fun e => ?_).trans h.mark
    have := (h.lb _ e.symm).1
    omega
  · rcases List.mem_append.1 hp with hp | hp
    · obtain ⟨cur, hc⟩ := h.ty p hp g hpg
      rcases hw with hw | ⟨g', cap, cur', _, hg', hfit, rfl⟩
      · exact ⟨cur, (hw g (lt_of_blk hc)).trans hc⟩
      · by_cases he : g = g'
        · subst he
          exact ⟨_, setRow_heap wr g cur' _ 45 (0, 0) hg'⟩
        · exact ⟨cur, (setRow_other wr g' g _ he).trans hc⟩
    · simp only [List.mem_singleton] at hp
      subst hp
      exact (own_block hown hpg).2.2
  · rcases List.mem_append.1 hp with hp | hp
    · exact h.lo p hp g hpg
    · simp only [List.mem_singleton] at hp
      subst hp
      rcases hv with hv | hv
      · exact .inl (hv ▸ hpg)
      · rw [hv] at hpg
        simp only [Option.some.injEq] at hpg
        exact .inr (by omega)

/-- what a slice of marks reads as, just built. -/
theorem cells_new (w : World) (cs : List Value) (c : Array Value) (e : TypeId) (hc : c = cs.toArray) : ∀ j u, cs[j]? = some u → (w.alloc (.cells c e)).cell? ((⟨w.heap.size, 0, none⟩ : Addr).add j) = some u := by
  intro j u hj
  have hadd : (⟨w.heap.size, 0, none⟩ : Addr).add j = ⟨w.heap.size, j, none⟩ := by unfold Addr.add; split <;> simp_all
  rw [hadd, Lib.cell_of_heap (heap_alloc_new w _), hc, List.getElem?_toArray, hj]

/-- the book, growing. -/
structure Pb (wp : World) (kb o base : Nat) (kcs : Array Value) (kv : Value) (Ws : List Value) (kvi : Value) (wr : World) : Prop where
  hkb : wr.heap[kb]? = some (.cells (kcs.setIfInBounds o kvi) 56 (0, 0))
  row : wr.ownsRow base 28 1 kvi Ws.length Ws
  old : ∀ q, q < wp.heap.size → q ≠ kb → kv.ownBlock ≠ some q → wr.heap[q]? = wp.heap[q]?
  bel : Below base wp wr
  own : ∀ g, kvi.ownBlock = some g → kv.ownBlock = some g ∨ wp.heap.size ≤ g
  kbb : base ≤ kb
  bs : base ≤ wp.heap.size

theorem Pb.step {wp wr w' : World} {kb o base : Nat} {kcs : Array Value} {kv kvi v' x : Value} {Ws : List Value} (h : Pb wp kb o base kcs kv Ws kvi wr) (ob : Obj)
    (hown : w'.ownsRow base 28 1 v' (Ws.length + 1) (Ws ++ [x])) (hg : (wr.alloc ob).grownBy w' kvi.ownBlock) (hv : v'.ownBlock = kvi.ownBlock ∨ v'.ownBlock = some (wr.alloc ob).heap.size) :
    Pb wp kb o base kcs kv (Ws ++ [x]) v' (w'.setCell ⟨kb, o, none⟩ v') := by
  have hs := h.bel.size
  have hb := h.bs
  have hkl := lt_of_blk h.hkb
  have hne : some kb ≠ kvi.ownBlock := fun e => by
    obtain ⟨_, _, cur, hc⟩ := own_block h.row e.symm
    rw [h.hkb] at hc
    simp at hc
  have hk' : w'.heap[kb]? = some (.cells (kcs.setIfInBounds o kvi) 56 (0, 0)) := (hg.block kb (by simp; omega) hne).trans ((Lib.alloc_old wr ob kb hkl).trans h.hkb)
  have hne' : v'.ownBlock ≠ some kb := fun e => by
    obtain ⟨_, _, cur, hc⟩ := own_block hown e
    rw [hk'] at hc
    simp at hc
  refine ⟨?_, ?_, fun q hq hqk hqv => ?_, ?_, fun g hvg => ?_, h.kbb, h.bs⟩
  · have := block_set hk' o v'
    rwa [Array.setIfInBounds_setIfInBounds] at this
  · rw [List.length_append]
    exact own_same hown fun g hgg _ => Below.heap_setCell _ _ _ _ fun e => hne' (by rw [hgg, e])
  · rw [Below.heap_setCell _ _ _ _ hqk]
    have hq2 : some q ≠ kvi.ownBlock := fun e => by
      rcases h.own q e.symm with h1 | h1
      · exact hqv h1
      · omega
    exact (hg.block q (by simp; omega) hq2).trans ((Lib.alloc_old wr ob q (by omega)).trans (h.old q hq hqk hqv))
  · exact ((h.bel.alloc (by omega) ob).grown hg (by simp; omega) fun q hq => (own_block h.row hq).2.1).setCell h.kbb v'
  · rcases hv with hv | hv
    · exact h.own g (hv ▸ hvg)
    · rw [hv] at hvg
      simp at hvg
      omega

theorem Try.infoParts : (Try.prog.info? 28).map (fun i => (i.zero, i.size, i.bytes)) = some (some (.slice none 0 0), 1, 24) := by kernel_rfl

theorem own_shape {w : World} {base sz n n' : Nat} {e : TypeId} {v : Value} {xs : List Value} (h : w.ownsRow base e sz v n xs) (hn : n = n') : ∃ ao cap, v = .slice ao n' cap := by
  subst hn
  rcases h.2 with ⟨rfl, rfl⟩ | ⟨g, cap, cur, rfl, _⟩
  · exact ⟨none, 0, rfl⟩
  · exact ⟨_, _, rfl⟩

theorem cells_at (w : World) (b : Nat) (hb : b = w.heap.size) (cs : List Value) (c : Array Value) (e : TypeId) (hc : c = cs.toArray) : ∀ j u, cs[j]? = some u → (w.alloc (.cells c e)).cell? ((⟨b, 0, none⟩ : Addr).add j) = some u := by
  subst hb
  exact cells_new w cs c e hc

theorem Ph.one {w wr : World} {base : Nat} {lv : Value} {m : Int} {n : Nat} {ones : List (Value × Nat)} (h : Ph w base lv m n ones wr) (p : Value × Nat) (hp : p ∈ ones) : p.1.oneCell' = true := by
  obtain ⟨_, _, e, _⟩ := h.mks p hp
  rw [e]; rfl

theorem mid_cell {w : World} {kb o : Nat} {kcs : Array Value} {v : Value} {t : TypeId} (h : w.heap[kb]? = some (.cells (kcs.setIfInBounds o v) t (0, 0))) (ho : o < kcs.size) : w.cell? ⟨kb, o, none⟩ = some v := by
  rw [Lib.cell_of_heap h, Array.getElem?_setIfInBounds_self_of_lt ho]

theorem Pb.cell {wp wr : World} {kb o base : Nat} {kcs : Array Value} {kv kvi : Value} {Ws : List Value} (h : Pb wp kb o base kcs kv Ws kvi wr) (ho : o < kcs.size) : wr.cell? ⟨kb, o, none⟩ = some kvi := mid_cell h.hkb ho

theorem Pb.mid {wp wr w' : World} {kb o base : Nat} {kcs : Array Value} {kv kvi : Value} {Ws : List Value} (h : Pb wp kb o base kcs kv Ws kvi wr) (ob : Obj) (hg : (wr.alloc ob).grownBy w' kvi.ownBlock) : w'.heap[kb]? = some (.cells (kcs.setIfInBounds o kvi) 56 (0, 0)) := by
  have hkl := lt_of_blk h.hkb
  have hne : some kb ≠ kvi.ownBlock := fun e => by
    obtain ⟨_, _, cur, hc⟩ := own_block h.row e.symm
    rw [h.hkb] at hc
    simp at hc
  exact (hg.block kb (by simp; omega) hne).trans ((Lib.alloc_old wr ob kb hkl).trans h.hkb)

theorem book_begins {w w3 : World} {kb o base n : Nat} {kcs : Array Value} {kv lv : Value} {Vs : List Value} {m : Int} {ones : List (Value × Nat)} (hkb : w.heap[kb]? = some (.cells kcs 56 (0, 0))) (hkv : kcs[o]? = some kv) (hrow : w.ownsRow base 28 1 kv Vs.length Vs) (h : Ph w base lv m n ones w3) (hl : ∀ g, lv.ownBlock = some g → ∃ cur, w.heap[g]? = some (.cells cur 45 (0, 0))) (hb : base ≤ kb) : Pb w3 kb o base kcs kv Vs kv w3 := by
  have hs := h.bel.size
  have hbs := h.bs
  refine ⟨?_, own_same hrow fun g hg hlt => h.old g hlt fun e => ?_, fun _ _ _ _ => rfl, Below.refl _ _, fun g hg => .inl hg, hb, by omega⟩
  · have he : kcs.setIfInBounds o kv = kcs := by
      apply Array.ext_getElem?
      intro j
      rw [Array.getElem?_setIfInBounds]
      split
      · rename_i e; subst e
        have := (Array.getElem?_eq_some_iff.1 hkv).1
        rw [if_pos this, hkv]
      · rfl
    rw [he]
    refine (h.old kb (lt_of_blk hkb) fun e => ?_).trans hkb
    obtain ⟨cur, hc⟩ := hl kb e
    rw [hkb] at hc
    simp at hc
  · obtain ⟨cur, hc⟩ := hl g e
    obtain ⟨_, _, cur', hc'⟩ := own_block hrow hg
    rw [hc] at hc'
    simp at hc'

/-- what keeps leaves. -/
structure Keeps (w : World) (kb o base : Nat) (kcs : Array Value) (kv lv : Value) (Vs : List Value) (m : Int) (n : Nat) (one two three kv' : Value) (w' : World) : Prop where
  hkb : w'.heap[kb]? = some (.cells (kcs.setIfInBounds o kv') 56 (0, 0))
  row : w'.ownsRow base 28 1 kv' (Vs.length + 4) (Vs ++ [lv, one, two, three])
  mk0 : Mk w' lv m n
  mk1 : Mk w' one m (n + 1)
  mk2 : Mk w' two m (n + 2)
  mk3 : Mk w' three m (n + 3)
  bel : Below base w w'
  old : ∀ q, q < w.heap.size → q ≠ kb → lv.ownBlock ≠ some q → kv.ownBlock ≠ some q → w'.heap[q]? = w.heap[q]?
  lo : ∀ u ∈ [one, two, three], ∀ g, u.ownBlock = some g → lv.ownBlock = some g ∨ w.heap.size ≤ g
  kvo : ∀ g, kv'.ownBlock = some g → kv.ownBlock = some g ∨ w.heap.size ≤ g

theorem book_ends {w w3 w' : World} {kb o base n : Nat} {kcs : Array Value} {kv lv kv' one two three : Value} {Vs : List Value} {m : Int} (h : Ph w base lv m n [(one, n + 1), (two, n + 2), (three, n + 3)] w3) (h3 : Pb w3 kb o base kcs kv Vs kv w3) (hb : Pb w3 kb o base kcs kv (Vs ++ [lv, one, two, three]) kv' w') : Keeps w kb o base kcs kv lv Vs m n one two three kv' w' := by
  have hs := h.bel.size
  have hmk : ∀ (u : Value) (j : Nat), Mk w3 u m j → (∀ g, u.ownBlock = some g → ∃ cur, w3.heap[g]? = some (.cells cur 45 (0, 0))) → Mk w' u m j := by
    intro u j hu hty
    refine hu.same fun g hg hlt => ?_
    obtain ⟨cur, hc⟩ := hty g hg
    refine hb.old g hlt (fun e => ?_) fun e => ?_
    · rw [e, h3.hkb] at hc
      simp at hc
    · obtain ⟨_, _, cur', hc'⟩ := own_block h3.row e
      rw [hc] at hc'
      simp at hc'
  refine ⟨hb.hkb, by simpa using hb.row, hmk _ _ (mk_of_row h.l) fun g hg => (own_block h.l hg).2.2, hmk _ _ (h.mks (one, n + 1) (by simp)) (h.ty (one, n + 1) (by simp)), hmk _ _ (h.mks (two, n + 2) (by simp)) (h.ty (two, n + 2) (by simp)), hmk _ _ (h.mks (three, n + 3) (by simp)) (h.ty (three, n + 3) (by simp)), h.bel.trans hb.bel, fun q hq h1 h2 h4 => ?_, fun u hu g hg => ?_, fun g hg => ?_⟩
  · exact (hb.old q (by omega) h1 h4).trans (h.old q hq h2)
  · simp only [List.mem_cons, List.not_mem_nil, or_false] at hu
    rcases hu with rfl | rfl | rfl
    · exact h.lo (_, n + 1) (by simp) g hg
    · exact h.lo (_, n + 2) (by simp) g hg
    · exact h.lo (_, n + 3) (by simp) g hg
  · rcases hb.own g hg with h1 | h1
    · exact .inl h1
    · exact .inr (by omega)

structure Kept (w : World) (base : Nat) (lv : Value) (m : Int) (wr : World) : Prop where
  old : ∀ q, q < w.heap.size → lv.ownBlock ≠ some q → wr.heap[q]? = w.heap[q]?
  mark : wr.heap[w.heap.size]? = some (.cells #[.int .i64 m, .int .i64 0, .string ⟨#[]⟩] 45 (0, 0))
  bel : Below base w wr

set_option maxHeartbeats 1000000 in
set_option maxRecDepth 100000 in
theorem keeps_any (kb o base : Nat) (kcs : Array Value) (kv lv : Value) (Vs xs : List Value) (n : Nat) (w : World) (hkb : w.heap[kb]? = some (.cells kcs 56 (0, 0))) (hkv : kcs[o]? = some kv)
    (hrow : w.ownsRow base 28 1 kv Vs.length Vs) (hl : w.ownsRow base 45 3 lv n xs) (hV : Vs.length ≤ 100000000) (hn : n ≤ 100000000) (hbase : base ≤ w.heap.size) (hkbb : base ≤ kb) :
    Calls Try.prog 92 #[.pointer (some ⟨kb, o, none⟩), lv] w fun e w' => e = .returned (.tuple #[]) ∧ ∃ kv' one two three, Keeps w kb o base kcs kv lv Vs (-1000 - (Vs.length : Int) / 4) n one two three kv' w' := by
  obtain ⟨i0, hi, hz0, hz1, hz2⟩ := info_parts Try.infoPart
  obtain ⟨ak, ck, rfl⟩ : ∃ ao cap, kv = .slice ao Vs.length cap := by
    rcases hrow.2 with ⟨rfl, h0⟩ | ⟨g, cap, cur, rfl, _⟩
    · exact ⟨none, 0, by rw [h0]⟩
    · exact ⟨_, _, rfl⟩
  obtain ⟨al, cl, rfl⟩ : ∃ ao cap, lv = .slice ao n cap := by
    rcases hl.2 with ⟨rfl, h0⟩ | ⟨g, cap, cur, rfl, _⟩
    · exact ⟨none, 0, by rw [h0]⟩
    · exact ⟨_, _, rfl⟩
  have c0 : w.cell? ⟨kb, o, none⟩ = some (.slice ak Vs.length ck) := (Lib.cell_of_heap hkb o).trans hkv
  have HK : Hid (w.heap[kb]? = some (.cells kcs 56 (0, 0)) ∧ kcs[o]? = some (.slice ak Vs.length ck) ∧ w.ownsRow base 28 1 (.slice ak Vs.length ck) Vs.length Vs ∧ w.ownsRow base 45 3 (.slice al n cl) n xs) := ⟨hkb, hkv, hrow, hl⟩
  have hlt := lt_of_blk hkb
  clear hkb hkv hrow hl
  go_enter Try.func92, Try.ntmps92
  go_wp2
  go_loopw [5] (fun i wr => ∃ k : Nat, k ≤ n ∧ i = .int .i64 k ∧ Hid (wr.ownsRow base 45 3 (.slice al n cl) n (markedV (-1000 - (Vs.length : Int) / 4) xs k) ∧ Kept w base (.slice al n cl) (-1000 - (Vs.length : Int) / 4) wr)) (fun i _ => n - (intOf i).toNat)
  case atStart =>
    refine ⟨0, Nat.zero_le _, rfl, ?_, fun q hq _ => Lib.alloc_old w _ q hq, heap_alloc_new w _, (Below.refl _ _).alloc hbase _⟩
    have := HK.out.2.2.2.alloc (.cells #[.int .i64 (-1000 - (Vs.length : Int) / 4), .int .i64 0, .string ⟨#[]⟩] 45)
    simpa [markedV, rowQ] using this
  case round =>
    obtain ⟨k, hk, rfl, hw⟩ := hrel
    have m0 : wr.cell? ⟨w.heap.size, 0, none⟩ = some (.int .i64 (-1000 - (Vs.length : Int) / 4)) := Lib.cell_of_heap hw.out.2.mark 0
    have m1 : wr.cell? ⟨w.heap.size, 1, none⟩ = some (.int .i64 0) := Lib.cell_of_heap hw.out.2.mark 1
    have m2 : wr.cell? ⟨w.heap.size, 2, none⟩ = some (.string ⟨#[]⟩) := Lib.cell_of_heap hw.out.2.mark 2
    by_cases hlt2 : k < n
    · obtain ⟨g, cap, cur, e1, hbg, hg, q1, q2, q3, q4⟩ : ∃ g cap cur, Value.slice al n cl = .slice (some ⟨g, 0, none⟩) n cap ∧ base ≤ g ∧ wr.heap[g]? = some (.cells cur 45 (0, 0)) ∧ n ≤ cap ∧ cap ≤ maxLen ∧ cur.size = cap * 3 ∧ cur.toList.take (n * 3) = markedV (-1000 - (Vs.length : Int) / 4) xs k := by
        rcases hw.out.1.2 with ⟨_, h0⟩ | h
        · omega
        · exact h
      simp only [Value.slice.injEq, true_and] at e1
      obtain ⟨rfl, rfl⟩ := e1
      have hex : ∀ j, j < n * 3 → ∃ u, wr.cell? ⟨g, j, none⟩ = some u := fun j hj => ⟨_, by rw [Lib.cell_of_heap hg]; exact Array.getElem?_eq_getElem (by rw [q3]; omega)⟩
      obtain ⟨u0, d0⟩ := hex (k * 3) (by omega)
      obtain ⟨u1, d1⟩ := hex (k * 3 + 1) (by omega)
      obtain ⟨u2, d2⟩ := hex (k * 3 + 2) (by omega)
      have f0 : ∀ j, wr.frozen? ⟨g, j, none⟩ = false := fun j => Lib.frozen_of_heap hg _
      have hki : (k : Int) < (n : Int) := by omega
      have HNEXT : Hid ((((wr.setCell ⟨g, k * 3, none⟩ (.int .i64 (-1000 - (Vs.length : Int) / 4))).setCell ⟨g, k * 3 + 1, none⟩ (.int .i64 0)).setCell ⟨g, k * 3 + 2, none⟩ (.string ⟨#[]⟩)).ownsRow base 45 3 (.slice (some ⟨g, 0, none⟩) n cl) n (markedV (-1000 - (Vs.length : Int) / 4) xs (k + 1)) ∧ Kept w base (.slice (some ⟨g, 0, none⟩) n cl) (-1000 - (Vs.length : Int) / 4) (((wr.setCell ⟨g, k * 3, none⟩ (.int .i64 (-1000 - (Vs.length : Int) / 4))).setCell ⟨g, k * 3 + 1, none⟩ (.int .i64 0)).setCell ⟨g, k * 3 + 2, none⟩ (.string ⟨#[]⟩))) := by
        have hgl := (own_block HK.out.2.2.2 (g := g) rfl).1
        have hxl := HK.out.2.2.2.1
        refine ⟨?_, fun q hq hn => ?_, ?_, ((hw.out.2.bel.setCell hbg _).setCell hbg _).setCell hbg _⟩
        · have := own_cell (own_cell (own_cell hw.out.1 (k * 3) (.int .i64 (-1000 - (Vs.length : Int) / 4))) (k * 3 + 1) (.int .i64 0)) (k * 3 + 2) (.string ⟨#[]⟩)
          rwa [markedV_set _ _ _ (by omega)] at this
        · have hne : q ≠ g := fun e => hn (by rw [e]; rfl)
          rw [Below.heap_setCell _ _ _ _ hne, Below.heap_setCell _ _ _ _ hne, Below.heap_setCell _ _ _ _ hne]
          exact hw.out.2.old q hq hn
        · have hne : w.heap.size ≠ g := by omega
          rw [Below.heap_setCell _ _ _ _ hne, Below.heap_setCell _ _ _ _ hne, Below.heap_setCell _ _ _ _ hne]
          exact hw.out.2.mark
      clear hex hg q1 q2 q3 q4 cur
      go_wp2
      go_roundw
      case rel => exact ⟨k + 1, by omega, by go_num, HNEXT.out⟩
      case measure => simp [intOf]; omega
    · obtain rfl : k = n := by omega
      have HP : Hid (Ph w base (.slice al k cl) (-1000 - (Vs.length : Int) / 4) k [] wr) := by
        refine ⟨?_, fun p hp => by simp at hp, hw.out.2.old, hw.out.2.mark, hw.out.2.bel, fun g hg => ⟨(own_block HK.out.2.2.2 hg).1, (own_block HK.out.2.2.2 hg).2.1⟩, hbase, fun p hp => by simp at hp, fun p hp => by simp at hp⟩
        have h1 := hw.out.1
        have h2 := HK.out.2.2.2.1
        unfold markedV at h1
        rwa [List.drop_of_length_le (by omega), List.append_nil] at h1
      clear hw
      go_upto_region 8 with (first
        | (at_builtin; refine append_marks rfl _ _ 28 rfl base 45 i0 _ 3 32 Try.underlying28 hi hz0 hz1 hz2 rfl (by decide) _ _ _ rfl (HP.out.alloc _).l ⟨wr.heap.size, 0, none⟩ 1 1 (rowQ (List.replicate 1 (markQ (-1000 - (Vs.length : Int) / 4)))) rfl rfl (cells_new _ _ _ _ rfl) (rowQ_one _) (by omega) (by unfold maxLen; omega) (by omega) (by have q1 := HP.out.bel.size; have q2 := HP.out.bs; simp; omega) ?_; intro v1 w1 hown1 hgrow1 hwh1 hv1; obtain ⟨a1, c1, rfl⟩ := own_shape hown1 rfl; have HP1 : Hid (Ph w base (.slice al k cl) (-1000 - (Vs.length : Int) / 4) k [(.slice a1 (k + 1) c1, k + 1)] w1) := (HP.out.alloc _).append hown1 hgrow1 hwh1 hv1; clear hown1 hgrow1 hwh1 hv1 m0 m1 m2; have m0 : w1.cell? ⟨w.heap.size, 0, none⟩ = some (.int .i64 (-1000 - (Vs.length : Int) / 4)) := Lib.cell_of_heap HP1.out.mark 0; have m1 : w1.cell? ⟨w.heap.size, 1, none⟩ = some (.int .i64 0) := Lib.cell_of_heap HP1.out.mark 1; have m2 : w1.cell? ⟨w.heap.size, 2, none⟩ = some (.string ⟨#[]⟩) := Lib.cell_of_heap HP1.out.mark 2)
        | (at_builtin; refine append_marks rfl _ _ 28 rfl base 45 i0 _ 3 32 Try.underlying28 hi hz0 hz1 hz2 rfl (by decide) _ _ _ rfl (HP1.out.alloc _).l ⟨w1.heap.size, 0, none⟩ 2 2 (rowQ (List.replicate 2 (markQ (-1000 - (Vs.length : Int) / 4)))) rfl rfl (cells_new _ _ _ _ rfl) (rowQ_one _) (by omega) (by unfold maxLen; omega) (by omega) (by have q1 := HP1.out.bel.size; have q2 := HP1.out.bs; simp; omega) ?_; intro v2 w2 hown2 hgrow2 hwh2 hv2; obtain ⟨a2, c2, rfl⟩ := own_shape hown2 rfl; have HP2 : Hid (Ph w base (.slice al k cl) (-1000 - (Vs.length : Int) / 4) k [(.slice a1 (k + 1) c1, k + 1), (.slice a2 (k + 2) c2, k + 2)] w2) := (HP1.out.alloc _).append hown2 hgrow2 hwh2 hv2; clear hown2 hgrow2 hwh2 hv2 m0 m1 m2; have m0 : w2.cell? ⟨w.heap.size, 0, none⟩ = some (.int .i64 (-1000 - (Vs.length : Int) / 4)) := Lib.cell_of_heap HP2.out.mark 0; have m1 : w2.cell? ⟨w.heap.size, 1, none⟩ = some (.int .i64 0) := Lib.cell_of_heap HP2.out.mark 1; have m2 : w2.cell? ⟨w.heap.size, 2, none⟩ = some (.string ⟨#[]⟩) := Lib.cell_of_heap HP2.out.mark 2)
        | (at_builtin; refine append_marks rfl _ _ 28 rfl base 45 i0 _ 3 32 Try.underlying28 hi hz0 hz1 hz2 rfl (by decide) _ _ _ rfl (HP2.out.alloc _).l ⟨w2.heap.size, 0, none⟩ 3 3 (rowQ (List.replicate 3 (markQ (-1000 - (Vs.length : Int) / 4)))) rfl rfl (cells_new _ _ _ _ rfl) (rowQ_one _) (by omega) (by unfold maxLen; omega) (by omega) (by have q1 := HP2.out.bel.size; have q2 := HP2.out.bs; simp; omega) ?_; intro v3 w3 hown3 hgrow3 hwh3 hv3; obtain ⟨a3, c3, rfl⟩ := own_shape hown3 rfl; have HP3 : Hid (Ph w base (.slice al k cl) (-1000 - (Vs.length : Int) / 4) k [(.slice a1 (k + 1) c1, k + 1), (.slice a2 (k + 2) c2, k + 2), (.slice a3 (k + 3) c3, k + 3)] w3) := (HP2.out.alloc _).append hown3 hgrow3 hwh3 hv3; clear hown3 hgrow3 hwh3 hv3 m0 m1 m2; have m0 : w3.cell? ⟨w.heap.size, 0, none⟩ = some (.int .i64 (-1000 - (Vs.length : Int) / 4)) := Lib.cell_of_heap HP3.out.mark 0; have m1 : w3.cell? ⟨w.heap.size, 1, none⟩ = some (.int .i64 0) := Lib.cell_of_heap HP3.out.mark 1; have m2 : w3.cell? ⟨w.heap.size, 2, none⟩ = some (.string ⟨#[]⟩) := Lib.cell_of_heap HP3.out.mark 2))
      obtain ⟨i1, hj, hy0, hy1, hy2⟩ := info_parts Try.infoParts
      have HB3 : Hid (Pb w3 kb o base kcs (.slice ak Vs.length ck) Vs (.slice ak Vs.length ck) w3) := book_begins HK.out.1 HK.out.2.1 HK.out.2.2.1 HP3.out (fun g hg => (own_block HK.out.2.2.2 hg).2.2) hkbb
      have hoz : o < kcs.size := (Array.getElem?_eq_some_iff.1 HK.out.2.1).1
      clear c0 m0 m1 m2
      have c0 : w3.cell? ⟨kb, o, none⟩ = some (.slice ak Vs.length ck) := HB3.out.cell hoz
      have hz3 : base ≤ w3.heap.size := HB3.out.bs
      go_wp2_with (first
        | (at_builtin; refine append_at rfl _ _ 51 rfl base 28 i1 _ 1 24 Try.underlying51 hj hy0 hy1 hy2 rfl (by decide) _ _ _ rfl (HB3.out.row.alloc _) ⟨w3.heap.size, 0, none⟩ 1 1 [(.slice al k cl)] rfl rfl (cells_at _ _ (by simp) _ _ _ rfl) (fun u hu => by rw [List.mem_singleton] at hu; rw [hu]; exact rfl) (by unfold maxLen; (try simp); omega) (by (try simp); omega) (by have q1 := HB3.out.bel.size; (try simp at q1); (try simp); omega) ?_; intro v4 w4 hown4 hgrow4 hv4; obtain ⟨a4, c4, rfl⟩ := own_shape hown4 (show _ = Vs.length + 1 by simp); have HB4 : Hid (Pb w3 kb o base kcs (.slice ak Vs.length ck) (Vs ++ [(.slice al k cl)]) (.slice a4 (Vs.length + 1) c4) (w4.setCell ⟨kb, o, none⟩ (.slice a4 (Vs.length + 1) c4))) := HB3.out.step _ hown4 hgrow4 hv4; have hm4 := HB3.out.mid _ hgrow4; clear hown4 hgrow4 hv4 c0; have c0 : w4.cell? ⟨kb, o, none⟩ = some (.slice ak Vs.length ck) := mid_cell hm4 hoz; have f4 : w4.frozen? ⟨kb, o, none⟩ = false := Lib.frozen_of_heap hm4 o; clear hm4)
        | (at_builtin; refine append_at rfl _ _ 51 rfl base 28 i1 _ 1 24 Try.underlying51 hj hy0 hy1 hy2 rfl (by decide) _ _ _ rfl (HB4.out.row.alloc _) ⟨w4.heap.size, 0, none⟩ 1 1 [(.slice a1 (k + 1) c1)] rfl rfl (cells_at _ _ (by simp) _ _ _ rfl) (fun u hu => by rw [List.mem_singleton] at hu; rw [hu]; exact rfl) (by unfold maxLen; (try simp); omega) (by (try simp); omega) (by have q1 := HB4.out.bel.size; (try simp at q1); (try simp); omega) ?_; intro v5 w5 hown5 hgrow5 hv5; obtain ⟨a5, c5, rfl⟩ := own_shape hown5 (show _ = Vs.length + 2 by simp); have HB5 : Hid (Pb w3 kb o base kcs (.slice ak Vs.length ck) ((Vs ++ [.slice al k cl]) ++ [(.slice a1 (k + 1) c1)]) (.slice a5 (Vs.length + 2) c5) (w5.setCell ⟨kb, o, none⟩ (.slice a5 (Vs.length + 2) c5))) := HB4.out.step _ hown5 hgrow5 hv5; have hm5 := HB4.out.mid _ hgrow5; clear hown5 hgrow5 hv5 c0; have c0 : w5.cell? ⟨kb, o, none⟩ = some (.slice a4 (Vs.length + 1) c4) := mid_cell hm5 hoz; have f5 : w5.frozen? ⟨kb, o, none⟩ = false := Lib.frozen_of_heap hm5 o; clear hm5)
        | (at_builtin; refine append_at rfl _ _ 51 rfl base 28 i1 _ 1 24 Try.underlying51 hj hy0 hy1 hy2 rfl (by decide) _ _ _ rfl (HB5.out.row.alloc _) ⟨w5.heap.size, 0, none⟩ 1 1 [(.slice a2 (k + 2) c2)] rfl rfl (cells_at _ _ (by simp) _ _ _ rfl) (fun u hu => by rw [List.mem_singleton] at hu; rw [hu]; exact rfl) (by unfold maxLen; (try simp); omega) (by (try simp); omega) (by have q1 := HB5.out.bel.size; (try simp at q1); (try simp); omega) ?_; intro v6 w6 hown6 hgrow6 hv6; obtain ⟨a6, c6, rfl⟩ := own_shape hown6 (show _ = Vs.length + 3 by simp); have HB6 : Hid (Pb w3 kb o base kcs (.slice ak Vs.length ck) ((Vs ++ [.slice al k cl] ++ [.slice a1 (k + 1) c1]) ++ [(.slice a2 (k + 2) c2)]) (.slice a6 (Vs.length + 3) c6) (w6.setCell ⟨kb, o, none⟩ (.slice a6 (Vs.length + 3) c6))) := HB5.out.step _ hown6 hgrow6 hv6; have hm6 := HB5.out.mid _ hgrow6; clear hown6 hgrow6 hv6 c0; have c0 : w6.cell? ⟨kb, o, none⟩ = some (.slice a5 (Vs.length + 2) c5) := mid_cell hm6 hoz; have f6 : w6.frozen? ⟨kb, o, none⟩ = false := Lib.frozen_of_heap hm6 o; clear hm6)
        | (at_builtin; refine append_at rfl _ _ 51 rfl base 28 i1 _ 1 24 Try.underlying51 hj hy0 hy1 hy2 rfl (by decide) _ _ _ rfl (HB6.out.row.alloc _) ⟨w6.heap.size, 0, none⟩ 1 1 [(.slice a3 (k + 3) c3)] rfl rfl (cells_at _ _ (by simp) _ _ _ rfl) (fun u hu => by rw [List.mem_singleton] at hu; rw [hu]; exact rfl) (by unfold maxLen; (try simp); omega) (by (try simp); omega) (by have q1 := HB6.out.bel.size; (try simp at q1); (try simp); omega) ?_; intro v7 w7 hown7 hgrow7 hv7; obtain ⟨a7, c7, rfl⟩ := own_shape hown7 (show _ = Vs.length + 4 by simp); have HB7 : Hid (Pb w3 kb o base kcs (.slice ak Vs.length ck) ((Vs ++ [.slice al k cl] ++ [.slice a1 (k + 1) c1] ++ [.slice a2 (k + 2) c2]) ++ [(.slice a3 (k + 3) c3)]) (.slice a7 (Vs.length + 4) c7) (w7.setCell ⟨kb, o, none⟩ (.slice a7 (Vs.length + 4) c7))) := HB6.out.step _ hown7 hgrow7 hv7; have hm7 := HB6.out.mid _ hgrow7; clear hown7 hgrow7 hv7 c0; have c0 : w7.cell? ⟨kb, o, none⟩ = some (.slice a6 (Vs.length + 3) c6) := mid_cell hm7 hoz; have f7 : w7.frozen? ⟨kb, o, none⟩ = false := Lib.frozen_of_heap hm7 o; clear hm7))
      refine bodyPost_end (results_none rfl _ _ _) rfl ⟨rfl, .slice a7 (Vs.length + 4) c7, _, _, _, book_ends HP3.out HB3.out ?_⟩
      have h := HB7.out
      simp only [List.append_assoc, List.cons_append, List.nil_append] at h
      exact h

theorem Keeps.from {w w1 w' : World} {kb o base : Nat} {kcs : Array Value} {kv lv : Value} {Vs : List Value} {m : Int} {n : Nat} {one two three kv' : Value} (h : Keeps w1 kb o base kcs kv lv Vs m n one two three kv' w') (hb : Below w.heap.size w w1) (hbase : base ≤ w.heap.size) : Keeps w kb o base kcs kv lv Vs m n one two three kv' w' := by
  have hs := hb.size
  exact ⟨h.hkb, h.row, h.mk0, h.mk1, h.mk2, h.mk3, (hb.mono hbase).trans h.bel, fun q hq h1 h2 h3 => (h.old q (by omega) h1 h2 h3).trans (hb.block q hq), fun u hu g hg => (h.lo u hu g hg).imp id fun h => by omega, fun g hg => (h.kvo g hg).imp id fun h => by omega⟩

set_option maxHeartbeats 1000000 in
set_option maxRecDepth 100000 in
theorem parts_nil (kb base : Nat) (kcs : Array Value) (kv : Value) (Vs : List Value) (e : Int) (am : Option Addr) (cm : Nat) (w : World) (hkb : w.heap[kb]? = some (.cells kcs 56 (0, 0))) (hkv : kcs[1]? = some kv)
    (hrow : w.ownsRow base 28 1 kv Vs.length Vs) (hV : Vs.length ≤ 100000000) (hbase : base ≤ w.heap.size) (hkbb : base ≤ kb) :
    Calls Try.prog 63 #[.pointer (some ⟨kb, 0, none⟩), .slice none 0 0, .int .i64 e, .slice am 0 cm, .int .i64 e] w fun e w' => e = .returned (.bool true) ∧ ∃ kv' one two three, Keeps w kb 1 base kcs kv (.slice none 0 0) Vs (-1000 - (Vs.length : Int) / 4) 0 one two three kv' w' := by
  have HC := keeps_any kb 1 base kcs kv (.slice none 0 0) Vs [] 0 w hkb hkv hrow ⟨rfl, .inl ⟨rfl, rfl⟩⟩ hV (by omega) hbase hkbb
  clear hkb hkv hrow
  have he := eq_nil_yes
  go_enter Try.func63, Try.ntmps63
  go_wp2
  go_loopw [11, 12] (fun a i wr => a = .bool true ∧ i = .int .i64 0 ∧ wr = w) (fun _ _ _ => 0)
  case atStart => exact ⟨rfl, rfl, rfl⟩
  case round =>
    obtain ⟨rfl, rfl, rfl⟩ := hrel
    go_wp2_with (go_at_call 92; refine HC.mono ?_; rintro _ w' ⟨rfl, HKP⟩)
    go_ret
    exact ⟨rfl, HKP⟩

set_option maxHeartbeats 1000000 in
set_option maxRecDepth 100000 in
theorem parts_some (kb base : Nat) (kcs : Array Value) (kv : Value) (Vs : List Value) (al : Addr) (cl : Nat) (am : Option Addr) (cm : Nat) (Q : List Qt) (w : World) (hkb : w.heap[kb]? = some (.cells kcs 56 (0, 0))) (hkv : kcs[1]? = some kv)
    (hrow : w.ownsRow base 28 1 kv Vs.length Vs) (hl : w.ownsRow base 45 3 (.slice (some al) Q.length cl) Q.length (rowQ Q)) (hm : 0 < Q.length → ∃ b off, am = some ⟨b, off, none⟩ ∧ ∀ k (h : k < Q.length), QtAt w b (off + k * 3) Q[k]) (hV : Vs.length ≤ 100000000) (hn : Q.length ≤ 100000000) (hbase : base ≤ w.heap.size) (hkbb : base ≤ kb) :
    Calls Try.prog 63 #[.pointer (some ⟨kb, 0, none⟩), .slice (some al) Q.length cl, .int .i64 0, .slice am Q.length cm, .int .i64 0] w fun e w' => e = .returned (.bool true) ∧ ∃ kv' one two three, Keeps w kb 1 base kcs kv (.slice (some al) Q.length cl) Vs (-1000 - (Vs.length : Int) / 4) Q.length one two three kv' w' := by
  have HC : Hid (∀ wr, Below w.heap.size w wr → Calls Try.prog 92 #[.pointer (some ⟨kb, 1, none⟩), .slice (some al) Q.length cl] wr fun e w' => e = .returned (.tuple #[]) ∧ ∃ kv' one two three, Keeps w kb 1 base kcs kv (.slice (some al) Q.length cl) Vs (-1000 - (Vs.length : Int) / 4) Q.length one two three kv' w') := by
    intro wr hb
    have hs := hb.size
    refine (keeps_any kb 1 base kcs kv _ Vs _ Q.length wr ((hb.block kb (lt_of_blk hkb)).trans hkb) hkv (own_same hrow fun g _ hg => hb.block g hg) (own_same hl fun g _ hg => hb.block g hg) hV hn (by omega) hkbb).mono ?_
    rintro _ w' ⟨rfl, kv', one, two, three, h⟩
    exact ⟨rfl, kv', one, two, three, h.from hb hbase⟩
  obtain ⟨gl, rfl, HL⟩ : ∃ gl, al = ⟨gl, 0, none⟩ ∧ Hid (∀ k (h : k < Q.length), QtAt w gl (k * 3) Q[k]) := by
    rcases hl.2 with ⟨e, _⟩ | ⟨g, cap, cur, e1, _⟩
    · cases e
    · simp only [Value.slice.injEq, Option.some.injEq, true_and] at e1
      obtain ⟨rfl, rfl⟩ := e1
      refine ⟨g, rfl, fun k hk => ?_⟩
      have hc := hl.cells (g := g) rfl
      have hadd : ∀ j, (⟨g, 0, none⟩ : Addr).add j = ⟨g, j, none⟩ := fun j => by unfold Addr.add; split <;> simp_all
      have h0 := hc (k * 3 + 0) _ (rowQ_at Q k hk 0 (by omega))
      have h1 := hc (k * 3 + 1) _ (rowQ_at Q k hk 1 (by omega))
      have h2 := hc (k * 3 + 2) _ (rowQ_at Q k hk 2 (by omega))
      rw [hadd] at h0 h1 h2
      exact ⟨h0, h1, h2⟩
  have HM : Hid (0 < Q.length → ∃ b off, am = some ⟨b, off, none⟩ ∧ ∀ k (h : k < Q.length), QtAt w b (off + k * 3) Q[k]) := hm
  clear hkb hkv hrow hl hm
  have he := eq_nil_no
  go_enter Try.func63, Try.ntmps63
  go_wp2
  go_loopw [11, 12] (fun a i wr => a = .bool true ∧ ∃ k : Nat, k ≤ Q.length ∧ i = .int .i64 k ∧ Below w.heap.size w wr) (fun _ i _ => Q.length - (intOf i).toNat)
  case atStart => exact ⟨rfl, 0, Nat.zero_le _, rfl, Below.refl _ _⟩
  case round =>
    obtain ⟨rfl, k, hk, rfl, hB⟩ := hrel
    by_cases hlt : k < Q.length
    · obtain ⟨b, off, rfl, hq⟩ := HM.out (by omega)
      obtain ⟨p0, p1, p2⟩ := hq k hlt
      obtain ⟨q0, q1, q2⟩ := HL.out k hlt
      have hb1 : b < w.heap.size := World.block_lt_of_cell? w _ p0
      have hb2 : gl < w.heap.size := World.block_lt_of_cell? w _ q0
      rw [← hB.cell (p := ⟨b, _, none⟩) hb1] at p0 p1 p2
      rw [← hB.cell (p := ⟨gl, _, none⟩) hb2] at q0 q1 q2
      have hki : (k : Int) < (Q.length : Int) := by omega
      clear hq
      go_wp2
      go_quiet (fail)
      go_wp2
      go_roundw
      case rel => exact ⟨by simp, k + 1, by omega, by go_num, below_drewN hB _⟩
      case measure => simp [intOf]; omega
    · go_wp2_with (go_at_call 92; refine (HC.out _ hB).mono ?_; rintro _ w' ⟨rfl, HKP⟩)
      go_ret
      exact ⟨rfl, HKP⟩

end Go.Proofs.Ytpiankiacbghcaa
