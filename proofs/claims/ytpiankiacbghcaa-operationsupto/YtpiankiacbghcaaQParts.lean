/-
  quilllaw.Book.keeps, walked.
  quilllaw.World.parts.
-/
import Derived.Test.YtpiankiacbghcaaQKeeps2
namespace Go.Proofs.Ytpiankiacbghcaa
open Go.RowKit

theorem Try.infoParts : (Try.prog.info? 28).map (fun i => (i.zero, i.size, i.bytes)) = some (some (.slice none 0 0), 1, 24) := by kernel_rfl

theorem own_shape {w : World} {base sz n n' : Nat} {e : TypeId} {v : Value} {xs : List Value} (h : w.ownsRow base e sz v n xs) (hn : n = n') : ∃ ao cap, v = .slice ao n' cap := by
  subst hn
  rcases h.2 with ⟨rfl, rfl⟩ | ⟨g, cap, cur, rfl, _⟩
  · exact ⟨none, 0, rfl⟩
  · exact ⟨_, _, rfl⟩

theorem cells_at (w : World) (b : Nat) (hb : b = w.heap.size) (cs : List Value) (c : Array Value) (e : TypeId) (hc : c = cs.toArray) : ∀ j u, cs[j]? = some u → (w.alloc (.cells c e)).cell? ((⟨b, 0, none⟩ : Addr).add j) = some u := by
  subst hb
  exact cells_new w cs c e hc

theorem Ph.one {w wr : World} {base : Nat} {lv : Value} {m : Int} {n : Nat} {ones : List (Value × Nat)} (h : Ph w base lv m n ones wr) (p : Value × Nat) (hp : p ∈ ones) : p.1.oneCell' = true := by
  obtain ⟨_, _, e, _⟩ := h.mks p hp
  rw [e]; rfl

theorem mid_cell {w : World} {kb o : Nat} {kcs : Array Value} {v : Value} {t : TypeId} (h : w.heap[kb]? = some (.cells (kcs.setIfInBounds o v) t (0, 0))) (ho : o < kcs.size) : w.cell? ⟨kb, o, none⟩ = some v := by
  rw [Lib.cell_of_heap h, Array.getElem?_setIfInBounds_self_of_lt ho]

theorem Pb.cell {wp wr : World} {kb o base : Nat} {kcs : Array Value} {kv kvi : Value} {Ws : List Value} (h : Pb wp kb o base kcs kv Ws kvi wr) (ho : o < kcs.size) : wr.cell? ⟨kb, o, none⟩ = some kvi := mid_cell h.hkb ho

theorem Pb.mid {wp wr w' : World} {kb o base : Nat} {kcs : Array Value} {kv kvi : Value} {Ws : List Value} (h : Pb wp kb o base kcs kv Ws kvi wr) (ob : Obj) (hg : (wr.alloc ob).grownBy w' kvi.ownBlock) : w'.heap[kb]? = some (.cells (kcs.setIfInBounds o kvi) 56 (0, 0)) := by
  have hkl := lt_of_blk h.hkb
  have hne : some kb ≠ kvi.ownBlock := fun e => by
    obtain ⟨_, _, cur, hc⟩ := own_block h.row e.symm
    rw [h.hkb] at hc
    simp at hc
  exact (hg.block kb (by simp; omega) hne).trans ((Lib.alloc_old wr ob kb hkl).trans h.hkb)

theorem book_begins {w w3 : World} {kb o base n : Nat} {kcs : Array Value} {kv lv : Value} {Vs : List Value} {m : Int} {ones : List (Value × Nat)} (hkb : w.heap[kb]? = some (.cells kcs 56 (0, 0))) (hkv : kcs[o]? = some kv) (hrow : w.ownsRow base 28 1 kv Vs.length Vs) (h : Ph w base lv m n ones w3) (hl : ∀ g, lv.ownBlock = some g → ∃ cur, w.heap[g]? = some (.cells cur 45 (0, 0))) (hb : base ≤ kb) : Pb w3 kb o base kcs kv Vs kv w3 := by
  have hs := h.bel.size
  have hbs := h.bs
  refine ⟨?_, own_same hrow fun g hg hlt => h.old g hlt fun e => ?_, fun _ _ _ _ => rfl, Below.refl _ _, fun g hg => .inl hg, hb, by omega⟩
  · have he : kcs.setIfInBounds o kv = kcs := by
      apply Array.ext_getElem?
      intro j
      rw [Array.getElem?_setIfInBounds]
      split
      · rename_i e; subst e
        have := (Array.getElem?_eq_some_iff.1 hkv).1
        rw [if_pos this, hkv]
      · rfl
    rw [he]
    refine (h.old kb (lt_of_blk hkb) fun e => ?_).trans hkb
    obtain ⟨cur, hc⟩ := hl kb e
    rw [hkb] at hc
    simp at hc
  · obtain ⟨cur, hc⟩ := hl g e
    obtain ⟨_, _, cur', hc'⟩ := own_block hrow hg
    rw [hc] at hc'
    simp at hc'

/-- what keeps leaves. -/
structure Keeps (w : World) (kb o base : Nat) (kcs : Array Value) (kv lv : Value) (Vs : List Value) (m : Int) (n : Nat) (one two three kv' : Value) (w' : World) : Prop where
  hkb : w'.heap[kb]? = some (.cells (kcs.setIfInBounds o kv') 56 (0, 0))
  row : w'.ownsRow base 28 1 kv' (Vs.length + 4) (Vs ++ [lv, one, two, three])
  mk0 : Mk w' lv m n
  mk1 : Mk w' one m (n + 1)
  mk2 : Mk w' two m (n + 2)
  mk3 : Mk w' three m (n + 3)
  bel : Below base w w'
  old : ∀ q, q < w.heap.size → q ≠ kb → lv.ownBlock ≠ some q → kv.ownBlock ≠ some q → w'.heap[q]? = w.heap[q]?
  lo : ∀ u ∈ [one, two, three], ∀ g, u.ownBlock = some g → lv.ownBlock = some g ∨ w.heap.size ≤ g
  kvo : ∀ g, kv'.ownBlock = some g → kv.ownBlock = some g ∨ w.heap.size ≤ g

theorem book_ends {w w3 w' : World} {kb o base n : Nat} {kcs : Array Value} {kv lv kv' one two three : Value} {Vs : List Value} {m : Int} (h : Ph w base lv m n [(one, n + 1), (two, n + 2), (three, n + 3)] w3) (h3 : Pb w3 kb o base kcs kv Vs kv w3) (hb : Pb w3 kb o base kcs kv (Vs ++ [lv, one, two, three]) kv' w') : Keeps w kb o base kcs kv lv Vs m n one two three kv' w' := by
  have hs := h.bel.size
  have hmk : ∀ (u : Value) (j : Nat), Mk w3 u m j → (∀ g, u.ownBlock = some g → ∃ cur, w3.heap[g]? = some (.cells cur 45 (0, 0))) → Mk w' u m j := by
    intro u j hu hty
    refine hu.same fun g hg hlt => ?_
    obtain ⟨cur, hc⟩ := hty g hg
    refine hb.old g hlt (fun e => ?_) fun e => ?_
    · rw [e, h3.hkb] at hc
      simp at hc
    · obtain ⟨_, _, cur', hc'⟩ := own_block h3.row e
      rw [hc] at hc'
      simp at hc'
  refine ⟨hb.hkb, by simpa using hb.row, hmk _ _ (mk_of_row h.l) fun g hg => (own_block h.l hg).2.2, hmk _ _ (h.mks (one, n + 1) (by simp)) (h.ty (one, n + 1) (by simp)), hmk _ _ (h.mks (two, n + 2) (by simp)) (h.ty (two, n + 2) (by simp)), hmk _ _ (h.mks (three, n + 3) (by simp)) (h.ty (three, n + 3) (by simp)), h.bel.trans hb.bel, fun q hq h1 h2 h4 => ?_, fun u hu g hg => ?_, fun g hg => ?_⟩
  · exact (hb.old q (by omega) h1 h4).trans (h.old q hq h2)
  · simp only [List.mem_cons, List.not_mem_nil, or_false] at hu
    rcases hu with rfl | rfl | rfl
    · exact h.lo (_, n + 1) (by simp) g hg
    · exact h.lo (_, n + 2) (by simp) g hg
    · exact h.lo (_, n + 3) (by simp) g hg
  · rcases hb.own g hg with h1 | h1
    · exact .inl h1
    · exact .inr (by omega)

structure Kept (w : World) (base : Nat) (lv : Value) (m : Int) (wr : World) : Prop where
  old : ∀ q, q < w.heap.size → lv.ownBlock ≠ some q → wr.heap[q]? = w.heap[q]?
  mark : wr.heap[w.heap.size]? = some (.cells #[.int .i64 m, .int .i64 0, .string ⟨#[]⟩] 45 (0, 0))
  bel : Below base w wr

set_option maxHeartbeats 1000000 in
set_option maxRecDepth 100000 in
theorem keeps_any (kb o base : Nat) (kcs : Array Value) (kv lv : Value) (Vs xs : List Value) (n : Nat) (w : World) (hkb : w.heap[kb]? = some (.cells kcs 56 (0, 0))) (hkv : kcs[o]? = some kv)
    (hrow : w.ownsRow base 28 1 kv Vs.length Vs) (hl : w.ownsRow base 45 3 lv n xs) (hV : Vs.length ≤ 100000000) (hn : n ≤ 100000000) (hbase : base ≤ w.heap.size) (hkbb : base ≤ kb) :
    Calls Try.prog 92 #[.pointer (some ⟨kb, o, none⟩), lv] w fun e w' => e = .returned (.tuple #[]) ∧ ∃ kv' one two three, Keeps w kb o base kcs kv lv Vs (-1000 - (Vs.length : Int) / 4) n one two three kv' w' := by
  obtain ⟨i0, hi, hz0, hz1, hz2⟩ := info_parts Try.infoPart
  obtain ⟨ak, ck, rfl⟩ : ∃ ao cap, kv = .slice ao Vs.length cap := by
    rcases hrow.2 with ⟨rfl, h0⟩ | ⟨g, cap, cur, rfl, _⟩
    · exact ⟨none, 0, by rw [h0]⟩
    · exact ⟨_, _, rfl⟩
  obtain ⟨al, cl, rfl⟩ : ∃ ao cap, lv = .slice ao n cap := by
    rcases hl.2 with ⟨rfl, h0⟩ | ⟨g, cap, cur, rfl, _⟩
    · exact ⟨none, 0, by rw [h0]⟩
    · exact ⟨_, _, rfl⟩
  have c0 : w.cell? ⟨kb, o, none⟩ = some (.slice ak Vs.length ck) := (Lib.cell_of_heap hkb o).trans hkv
  have HK : Hid (w.heap[kb]? = some (.cells kcs 56 (0, 0)) ∧ kcs[o]? = some (.slice ak Vs.length ck) ∧ w.ownsRow base 28 1 (.slice ak Vs.length ck) Vs.length Vs ∧ w.ownsRow base 45 3 (.slice al n cl) n xs) := ⟨hkb, hkv, hrow, hl⟩
  have hlt := lt_of_blk hkb
  clear hkb hkv hrow hl
  go_enter Try.func92, Try.ntmps92
  go_wp2
  go_loopw [5] (fun i wr => ∃ k : Nat, k ≤ n ∧ i = .int .i64 k ∧ Hid (wr.ownsRow base 45 3 (.slice al n cl) n (markedV (-1000 - (Vs.length : Int) / 4) xs k) ∧ Kept w base (.slice al n cl) (-1000 - (Vs.length : Int) / 4) wr)) (fun i _ => n - (intOf i).toNat)
  case atStart =>
    refine ⟨0, Nat.zero_le _, rfl, ?_, fun q hq _ => Lib.alloc_old w _ q hq, heap_alloc_new w _, (Below.refl _ _).alloc hbase _⟩
    have := HK.out.2.2.2.alloc (.cells #[.int .i64 (-1000 - (Vs.length : Int) / 4), .int .i64 0, .string ⟨#[]⟩] 45)
    simpa [markedV, rowQ] using this
  case round =>
    obtain ⟨k, hk, rfl, hw⟩ := hrel
    have m0 : wr.cell? ⟨w.heap.size, 0, none⟩ = some (.int .i64 (-1000 - (Vs.length : Int) / 4)) := Lib.cell_of_heap hw.out.2.mark 0
    have m1 : wr.cell? ⟨w.heap.size, 1, none⟩ = some (.int .i64 0) := Lib.cell_of_heap hw.out.2.mark 1
    have m2 : wr.cell? ⟨w.heap.size, 2, none⟩ = some (.string ⟨#[]⟩) := Lib.cell_of_heap hw.out.2.mark 2
    by_cases hlt2 : k < n
    · obtain ⟨g, cap, cur, e1, hbg, hg, q1, q2, q3, q4⟩ : ∃ g cap cur, Value.slice al n cl = .slice (some ⟨g, 0, none⟩) n cap ∧ base ≤ g ∧ wr.heap[g]? = some (.cells cur 45 (0, 0)) ∧ n ≤ cap ∧ cap ≤ maxLen ∧ cur.size = cap * 3 ∧ cur.toList.take (n * 3) = markedV (-1000 - (Vs.length : Int) / 4) xs k := by
        rcases hw.out.1.2 with ⟨_, h0⟩ | h
        · omega
        · exact h
      simp only [Value.slice.injEq, true_and] at e1
      obtain ⟨rfl, rfl⟩ := e1
      have hex : ∀ j, j < n * 3 → ∃ u, wr.cell? ⟨g, j, none⟩ = some u := fun j hj => ⟨_, by rw [Lib.cell_of_heap hg]; exact Array.getElem?_eq_getElem (by rw [q3]; omega)⟩
      obtain ⟨u0, d0⟩ := hex (k * 3) (by omega)
      obtain ⟨u1, d1⟩ := hex (k * 3 + 1) (by omega)
      obtain ⟨u2, d2⟩ := hex (k * 3 + 2) (by omega)
      have f0 : ∀ j, wr.frozen? ⟨g, j, none⟩ = false := fun j => Lib.frozen_of_heap hg _
      have hki : (k : Int) < (n : Int) := by omega
      have HNEXT : Hid ((((wr.setCell ⟨g, k * 3, none⟩ (.int .i64 (-1000 - (Vs.length : Int) / 4))).setCell ⟨g, k * 3 + 1, none⟩ (.int .i64 0)).setCell ⟨g, k * 3 + 2, none⟩ (.string ⟨#[]⟩)).ownsRow base 45 3 (.slice (some ⟨g, 0, none⟩) n cl) n (markedV (-1000 - (Vs.length : Int) / 4) xs (k + 1)) ∧ Kept w base (.slice (some ⟨g, 0, none⟩) n cl) (-1000 - (Vs.length : Int) / 4) (((wr.setCell ⟨g, k * 3, none⟩ (.int .i64 (-1000 - (Vs.length : Int) / 4))).setCell ⟨g, k * 3 + 1, none⟩ (.int .i64 0)).setCell ⟨g, k * 3 + 2, none⟩ (.string ⟨#[]⟩))) := by
        have hgl := (own_block HK.out.2.2.2 (g := g) rfl).1
        have hxl := HK.out.2.2.2.1
        refine ⟨?_, fun q hq hn => ?_, ?_, ((hw.out.2.bel.setCell hbg _).setCell hbg _).setCell hbg _⟩
        · have := own_cell (own_cell (own_cell hw.out.1 (k * 3) (.int .i64 (-1000 - (Vs.length : Int) / 4))) (k * 3 + 1) (.int .i64 0)) (k * 3 + 2) (.string ⟨#[]⟩)
          rwa [markedV_set _ _ _ (by omega)] at this
        · have hne : q ≠ g := fun e => hn (by rw [e]; rfl)
          rw [Below.heap_setCell _ _ _ _ hne, Below.heap_setCell _ _ _ _ hne, Below.heap_setCell _ _ _ _ hne]
          exact hw.out.2.old q hq hn
        · have hne : w.heap.size ≠ g := by omega
          rw [Below.heap_setCell _ _ _ _ hne, Below.heap_setCell _ _ _ _ hne, Below.heap_setCell _ _ _ _ hne]
          exact hw.out.2.mark
      clear hex hg q1 q2 q3 q4 cur
      go_wp2
      go_roundw
      case rel => exact ⟨k + 1, by omega, by go_num, HNEXT.out⟩
      case measure => simp [intOf]; omega
    · obtain rfl : k = n := by omega
      have HP : Hid (Ph w base (.slice al k cl) (-1000 - (Vs.length : Int) / 4) k [] wr) := by
        refine ⟨?_, fun p hp => by simp at hp, hw.out.2.old, hw.out.2.mark, hw.out.2.bel, fun g hg => ⟨(own_block HK.out.2.2.2 hg).1, (own_block HK.out.2.2.2 hg).2.1⟩, hbase, fun p hp => by simp at hp, fun p hp => by simp at hp⟩
        have h1 := hw.out.1
        have h2 := HK.out.2.2.2.1
        unfold markedV at h1
        rwa [List.drop_of_length_le (by omega), List.append_nil] at h1
      clear hw
      go_upto_region 8 with (first
        | (at_builtin; refine append_marks rfl _ _ 28 rfl base 45 i0 _ 3 32 Try.underlying28 hi hz0 hz1 hz2 rfl (by decide) _ _ _ rfl (HP.out.alloc _).l ⟨wr.heap.size, 0, none⟩ 1 1 (rowQ (List.replicate 1 (markQ (-1000 - (Vs.length : Int) / 4)))) rfl rfl (cells_new _ _ _ _ rfl) (rowQ_one _) (by omega) (by unfold maxLen; omega) (by omega) (by have q1 := HP.out.bel.size; have q2 := HP.out.bs; simp; omega) ?_; intro v1 w1 hown1 hgrow1 hwh1 hv1; obtain ⟨a1, c1, rfl⟩ := own_shape hown1 rfl; have HP1 : Hid (Ph w base (.slice al k cl) (-1000 - (Vs.length : Int) / 4) k [(.slice a1 (k + 1) c1, k + 1)] w1) := (HP.out.alloc _).append hown1 hgrow1 hwh1 hv1; clear hown1 hgrow1 hwh1 hv1 m0 m1 m2; have m0 : w1.cell? ⟨w.heap.size, 0, none⟩ = some (.int .i64 (-1000 - (Vs.length : Int) / 4)) := Lib.cell_of_heap HP1.out.mark 0; have m1 : w1.cell? ⟨w.heap.size, 1, none⟩ = some (.int .i64 0) := Lib.cell_of_heap HP1.out.mark 1; have m2 : w1.cell? ⟨w.heap.size, 2, none⟩ = some (.string ⟨#[]⟩) := Lib.cell_of_heap HP1.out.mark 2)
        | (at_builtin; refine append_marks rfl _ _ 28 rfl base 45 i0 _ 3 32 Try.underlying28 hi hz0 hz1 hz2 rfl (by decide) _ _ _ rfl (HP1.out.alloc _).l ⟨w1.heap.size, 0, none⟩ 2 2 (rowQ (List.replicate 2 (markQ (-1000 - (Vs.length : Int) / 4)))) rfl rfl (cells_new _ _ _ _ rfl) (rowQ_one _) (by omega) (by unfold maxLen; omega) (by omega) (by have q1 := HP1.out.bel.size; have q2 := HP1.out.bs; simp; omega) ?_; intro v2 w2 hown2 hgrow2 hwh2 hv2; obtain ⟨a2, c2, rfl⟩ := own_shape hown2 rfl; have HP2 : Hid (Ph w base (.slice al k cl) (-1000 - (Vs.length : Int) / 4) k [(.slice a1 (k + 1) c1, k + 1), (.slice a2 (k + 2) c2, k + 2)] w2) := (HP1.out.alloc _).append hown2 hgrow2 hwh2 hv2; clear hown2 hgrow2 hwh2 hv2 m0 m1 m2; have m0 : w2.cell? ⟨w.heap.size, 0, none⟩ = some (.int .i64 (-1000 - (Vs.length : Int) / 4)) := Lib.cell_of_heap HP2.out.mark 0; have m1 : w2.cell? ⟨w.heap.size, 1, none⟩ = some (.int .i64 0) := Lib.cell_of_heap HP2.out.mark 1; have m2 : w2.cell? ⟨w.heap.size, 2, none⟩ = some (.string ⟨#[]⟩) := Lib.cell_of_heap HP2.out.mark 2)
        | (at_builtin; refine append_marks rfl _ _ 28 rfl base 45 i0 _ 3 32 Try.underlying28 hi hz0 hz1 hz2 rfl (by decide) _ _ _ rfl (HP2.out.alloc _).l ⟨w2.heap.size, 0, none⟩ 3 3 (rowQ (List.replicate 3 (markQ (-1000 - (Vs.length : Int) / 4)))) rfl rfl (cells_new _ _ _ _ rfl) (rowQ_one _) (by omega) (by unfold maxLen; omega) (by omega) (by have q1 := HP2.out.bel.size; have q2 := HP2.out.bs; simp; omega) ?_; intro v3 w3 hown3 hgrow3 hwh3 hv3; obtain ⟨a3, c3, rfl⟩ := own_shape hown3 rfl; have HP3 : Hid (Ph w base (.slice al k cl) (-1000 - (Vs.length : Int) / 4) k [(.slice a1 (k + 1) c1, k + 1), (.slice a2 (k + 2) c2, k + 2), (.slice a3 (k + 3) c3, k + 3)] w3) := (HP2.out.alloc _).append hown3 hgrow3 hwh3 hv3; clear hown3 hgrow3 hwh3 hv3 m0 m1 m2; have m0 : w3.cell? ⟨w.heap.size, 0, none⟩ = some (.int .i64 (-1000 - (Vs.length : Int) / 4)) := Lib.cell_of_heap HP3.out.mark 0; have m1 : w3.cell? ⟨w.heap.size, 1, none⟩ = some (.int .i64 0) := Lib.cell_of_heap HP3.out.mark 1; have m2 : w3.cell? ⟨w.heap.size, 2, none⟩ = some (.string ⟨#[]⟩) := Lib.cell_of_heap HP3.out.mark 2))
      obtain ⟨i1, hj, hy0, hy1, hy2⟩ := info_parts Try.infoParts
      have HB3 : Hid (Pb w3 kb o base kcs (.slice ak Vs.length ck) Vs (.slice ak Vs.length ck) w3) := book_begins HK.out.1 HK.out.2.1 HK.out.2.2.1 HP3.out (fun g hg => (own_block HK.out.2.2.2 hg).2.2) hkbb
      have hoz : o < kcs.size := (Array.getElem?_eq_some_iff.1 HK.out.2.1).1
      clear c0 m0 m1 m2
      have c0 : w3.cell? ⟨kb, o, none⟩ = some (.slice ak Vs.length ck) := HB3.out.cell hoz
      have hz3 : base ≤ w3.heap.size := HB3.out.bs
      go_wp2_with (first
        | (at_builtin; refine append_at rfl _ _ 51 rfl base 28 i1 _ 1 24 Try.underlying51 hj hy0 hy1 hy2 rfl (by decide) _ _ _ rfl (HB3.out.row.alloc _) ⟨w3.heap.size, 0, none⟩ 1 1 [(.slice al k cl)] rfl rfl (cells_at _ _ (by simp) _ _ _ rfl) (fun u hu => by rw [List.mem_singleton] at hu; rw [hu]; exact rfl) (by unfold maxLen; (try simp); omega) (by (try simp); omega) (by have q1 := HB3.out.bel.size; (try simp at q1); (try simp); omega) ?_; intro v4 w4 hown4 hgrow4 hv4; obtain ⟨a4, c4, rfl⟩ := own_shape hown4 (show _ = Vs.length + 1 by simp); have HB4 : Hid (Pb w3 kb o base kcs (.slice ak Vs.length ck) (Vs ++ [(.slice al k cl)]) (.slice a4 (Vs.length + 1) c4) (w4.setCell ⟨kb, o, none⟩ (.slice a4 (Vs.length + 1) c4))) := HB3.out.step _ hown4 hgrow4 hv4; have hm4 := HB3.out.mid _ hgrow4; clear hown4 hgrow4 hv4 c0; have c0 : w4.cell? ⟨kb, o, none⟩ = some (.slice ak Vs.length ck) := mid_cell hm4 hoz; have f4 : w4.frozen? ⟨kb, o, none⟩ = false := Lib.frozen_of_heap hm4 o; clear hm4)
        | (at_builtin; refine append_at rfl _ _ 51 rfl base 28 i1 _ 1 24 Try.underlying51 hj hy0 hy1 hy2 rfl (by decide) _ _ _ rfl (HB4.out.row.alloc _) ⟨w4.heap.size, 0, none⟩ 1 1 [(.slice a1 (k + 1) c1)] rfl rfl (cells_at _ _ (by simp) _ _ _ rfl) (fun u hu => by rw [List.mem_singleton] at hu; rw [hu]; exact rfl) (by unfold maxLen; (try simp); omega) (by (try simp); omega) (by have q1 := HB4.out.bel.size; (try simp at q1); (try simp); omega) ?_; intro v5 w5 hown5 hgrow5 hv5; obtain ⟨a5, c5, rfl⟩ := own_shape hown5 (show _ = Vs.length + 2 by simp); have HB5 : Hid (Pb w3 kb o base kcs (.slice ak Vs.length ck) ((Vs ++ [.slice al k cl]) ++ [(.slice a1 (k + 1) c1)]) (.slice a5 (Vs.length + 2) c5) (w5.setCell ⟨kb, o, none⟩ (.slice a5 (Vs.length + 2) c5))) := HB4.out.step _ hown5 hgrow5 hv5; have hm5 := HB4.out.mid _ hgrow5; clear hown5 hgrow5 hv5 c0; have c0 : w5.cell? ⟨kb, o, none⟩ = some (.slice a4 (Vs.length + 1) c4) := mid_cell hm5 hoz; have f5 : w5.frozen? ⟨kb, o, none⟩ = false := Lib.frozen_of_heap hm5 o; clear hm5)
        | (at_builtin; refine append_at rfl _ _ 51 rfl base 28 i1 _ 1 24 Try.underlying51 hj hy0 hy1 hy2 rfl (by decide) _ _ _ rfl (HB5.out.row.alloc _) ⟨w5.heap.size, 0, none⟩ 1 1 [(.slice a2 (k + 2) c2)] rfl rfl (cells_at _ _ (by simp) _ _ _ rfl) (fun u hu => by rw [List.mem_singleton] at hu; rw [hu]; exact rfl) (by unfold maxLen; (try simp); omega) (by (try simp); omega) (by have q1 := HB5.out.bel.size; (try simp at q1); (try simp); omega) ?_; intro v6 w6 hown6 hgrow6 hv6; obtain ⟨a6, c6, rfl⟩ := own_shape hown6 (show _ = Vs.length + 3 by simp); have HB6 : Hid (Pb w3 kb o base kcs (.slice ak Vs.length ck) ((Vs ++ [.slice al k cl] ++ [.slice a1 (k + 1) c1]) ++ [(.slice a2 (k + 2) c2)]) (.slice a6 (Vs.length + 3) c6) (w6.setCell ⟨kb, o, none⟩ (.slice a6 (Vs.length + 3) c6))) := HB5.out.step _ hown6 hgrow6 hv6; have hm6 := HB5.out.mid _ hgrow6; clear hown6 hgrow6 hv6 c0; have c0 : w6.cell? ⟨kb, o, none⟩ = some (.slice a5 (Vs.length + 2) c5) := mid_cell hm6 hoz; have f6 : w6.frozen? ⟨kb, o, none⟩ = false := Lib.frozen_of_heap hm6 o; clear hm6)
        | (at_builtin; refine append_at rfl _ _ 51 rfl base 28 i1 _ 1 24 Try.underlying51 hj hy0 hy1 hy2 rfl (by decide) _ _ _ rfl (HB6.out.row.alloc _) ⟨w6.heap.size, 0, none⟩ 1 1 [(.slice a3 (k + 3) c3)] rfl rfl (cells_at _ _ (by simp) _ _ _ rfl) (fun u hu => by rw [List.mem_singleton] at hu; rw [hu]; exact rfl) (by unfold maxLen; (try simp); omega) (by (try simp); omega) (by have q1 := HB6.out.bel.size; (try simp at q1); (try simp); omega) ?_; intro v7 w7 hown7 hgrow7 hv7; obtain ⟨a7, c7, rfl⟩ := own_shape hown7 (show _ = Vs.length + 4 by simp); have HB7 : Hid (Pb w3 kb o base kcs (.slice ak Vs.length ck) ((Vs ++ [.slice al k cl] ++ [.slice a1 (k + 1) c1] ++ [.slice a2 (k + 2) c2]) ++ [(.slice a3 (k + 3) c3)]) (.slice a7 (Vs.length + 4) c7) (w7.setCell ⟨kb, o, none⟩ (.slice a7 (Vs.length + 4) c7))) := HB6.out.step _ hown7 hgrow7 hv7; have hm7 := HB6.out.mid _ hgrow7; clear hown7 hgrow7 hv7 c0; have c0 : w7.cell? ⟨kb, o, none⟩ = some (.slice a6 (Vs.length + 3) c6) := mid_cell hm7 hoz; have f7 : w7.frozen? ⟨kb, o, none⟩ = false := Lib.frozen_of_heap hm7 o; clear hm7))
      refine bodyPost_end (results_none rfl _ _ _) rfl ⟨rfl, .slice a7 (Vs.length + 4) c7, _, _, _, book_ends HP3.out HB3.out ?_⟩
      have h := HB7.out
      simp only [List.append_assoc, List.cons_append, List.nil_append] at h
      exact h

theorem Keeps.from {w w1 w' : World} {kb o base : Nat} {kcs : Array Value} {kv lv : Value} {Vs : List Value} {m : Int} {n : Nat} {one two three kv' : Value} (h : Keeps w1 kb o base kcs kv lv Vs m n one two three kv' w') (hb : Below w.heap.size w w1) (hbase : base ≤ w.heap.size) : Keeps w kb o base kcs kv lv Vs m n one two three kv' w' := by
  have hs := hb.size
  exact ⟨h.hkb, h.row, h.mk0, h.mk1, h.mk2, h.mk3, (hb.mono hbase).trans h.bel, fun q hq h1 h2 h3 => (h.old q (by omega) h1 h2 h3).trans (hb.block q hq), fun u hu g hg => (h.lo u hu g hg).imp id fun h => by omega, fun g hg => (h.kvo g hg).imp id fun h => by omega⟩

set_option maxHeartbeats 1000000 in
set_option maxRecDepth 100000 in
theorem parts_nil (kb base : Nat) (kcs : Array Value) (kv : Value) (Vs : List Value) (e : Int) (am : Option Addr) (cm : Nat) (w : World) (hkb : w.heap[kb]? = some (.cells kcs 56 (0, 0))) (hkv : kcs[1]? = some kv)
    (hrow : w.ownsRow base 28 1 kv Vs.length Vs) (hV : Vs.length ≤ 100000000) (hbase : base ≤ w.heap.size) (hkbb : base ≤ kb) :
    Calls Try.prog 63 #[.pointer (some ⟨kb, 0, none⟩), .slice none 0 0, .int .i64 e, .slice am 0 cm, .int .i64 e] w fun e w' => e = .returned (.bool true) ∧ ∃ kv' one two three, Keeps w kb 1 base kcs kv (.slice none 0 0) Vs (-1000 - (Vs.length : Int) / 4) 0 one two three kv' w' := by
  have HC := keeps_any kb 1 base kcs kv (.slice none 0 0) Vs [] 0 w hkb hkv hrow ⟨rfl, .inl ⟨rfl, rfl⟩⟩ hV (by omega) hbase hkbb
  clear hkb hkv hrow
  have he := eq_nil_yes
  go_enter Try.func63, Try.ntmps63
  go_wp2
  go_loopw [11, 12] (fun a i wr => a = .bool true ∧ i = .int .i64 0 ∧ wr = w) (fun _ _ _ => 0)
  case atStart => exact ⟨rfl, rfl, rfl⟩
  case round =>
    obtain ⟨rfl, rfl, rfl⟩ := hrel
    go_wp2_with (go_at_call 92; refine HC.mono ?_; rintro _ w' ⟨rfl, HKP⟩)
    go_ret
    exact ⟨rfl, HKP⟩

set_option maxHeartbeats 1000000 in
set_option maxRecDepth 100000 in
theorem parts_some (kb base : Nat) (kcs : Array Value) (kv : Value) (Vs : List Value) (al : Addr) (cl : Nat) (am : Option Addr) (cm : Nat) (Q : List Qt) (w : World) (hkb : w.heap[kb]? = some (.cells kcs 56 (0, 0))) (hkv : kcs[1]? = some kv)
    (hrow : w.ownsRow base 28 1 kv Vs.length Vs) (hl : w.ownsRow base 45 3 (.slice (some al) Q.length cl) Q.length (rowQ Q)) (hm : 0 < Q.length → ∃ b off, am = some ⟨b, off, none⟩ ∧ ∀ k (h : k < Q.length), QtAt w b (off + k * 3) Q[k]) (hV : Vs.length ≤ 100000000) (hn : Q.length ≤ 100000000) (hbase : base ≤ w.heap.size) (hkbb : base ≤ kb) :
    Calls Try.prog 63 #[.pointer (some ⟨kb, 0, none⟩), .slice (some al) Q.length cl, .int .i64 0, .slice am Q.length cm, .int .i64 0] w fun e w' => e = .returned (.bool true) ∧ ∃ kv' one two three, Keeps w kb 1 base kcs kv (.slice (some al) Q.length cl) Vs (-1000 - (Vs.length : Int) / 4) Q.length one two three kv' w' := by
  have HC : Hid (∀ wr, Below w.heap.size w wr → Calls Try.prog 92 #[.pointer (some ⟨kb, 1, none⟩), .slice (some al) Q.length cl] wr fun e w' => e = .returned (.tuple #[]) ∧ ∃ kv' one two three, Keeps w kb 1 base kcs kv (.slice (some al) Q.length cl) Vs (-1000 - (Vs.length : Int) / 4) Q.length one two three kv' w') := by
    intro wr hb
    have hs := hb.size
    refine (keeps_any kb 1 base kcs kv _ Vs _ Q.length wr ((hb.block kb (lt_of_blk hkb)).trans hkb) hkv (own_same hrow fun g _ hg => hb.block g hg) (own_same hl fun g _ hg => hb.block g hg) hV hn (by omega) hkbb).mono ?_
    rintro _ w' ⟨rfl, kv', one, two, three, h⟩
    exact ⟨rfl, kv', one, two, three, h.from hb hbase⟩
  obtain ⟨gl, rfl, HL⟩ : ∃ gl, al = ⟨gl, 0, none⟩ ∧ Hid (∀ k (h : k < Q.length), QtAt w gl (k * 3) Q[k]) := by
    rcases hl.2 with ⟨e, _⟩ | ⟨g, cap, cur, e1, _⟩
    · cases e
    · simp only [Value.slice.injEq, Option.some.injEq, true_and] at e1
      obtain ⟨rfl, rfl⟩ := e1
      refine ⟨g, rfl, fun k hk => ?_⟩
      have hc := hl.cells (g := g) rfl
      have hadd : ∀ j, (⟨g, 0, none⟩ : Addr).add j = ⟨g, j, none⟩ := fun j => by unfold Addr.add; split <;> simp_all
      have h0 := hc (k * 3 + 0) _ (rowQ_at Q k hk 0 (by omega))
      have h1 := hc (k * 3 + 1) _ (rowQ_at Q k hk 1 (by omega))
      have h2 := hc (k * 3 + 2) _ (rowQ_at Q k hk 2 (by omega))
      rw [hadd] at h0 h1 h2
      exact ⟨h0, h1, h2⟩
  have HM : Hid (0 < Q.length → ∃ b off, am = some ⟨b, off, none⟩ ∧ ∀ k (h : k < Q.length), QtAt w b (off + k * 3) Q[k]) := hm
  clear hkb hkv hrow hl hm
  have he := eq_nil_no
  go_enter Try.func63, Try.ntmps63
  go_wp2
  go_loopw [11, 12] (fun a i wr => a = .bool true ∧ ∃ k : Nat, k ≤ Q.length ∧ i = .int .i64 k ∧ Below w.heap.size w wr) (fun _ i _ => Q.length - (intOf i).toNat)
  case atStart => exact ⟨rfl, 0, Nat.zero_le _, rfl, Below.refl _ _⟩
  case round =>
    obtain ⟨rfl, k, hk, rfl, hB⟩ := hrel
    by_cases hlt : k < Q.length
    · obtain ⟨b, off, rfl, hq⟩ := HM.out (by omega)
      obtain ⟨p0, p1, p2⟩ := hq k hlt
      obtain ⟨q0, q1, q2⟩ := HL.out k hlt
      have hb1 : b < w.heap.size := World.block_lt_of_cell? w _ p0
      have hb2 : gl < w.heap.size := World.block_lt_of_cell? w _ q0
      rw [← hB.cell (p := ⟨b, _, none⟩) hb1] at p0 p1 p2
      rw [← hB.cell (p := ⟨gl, _, none⟩) hb2] at q0 q1 q2
      have hki : (k : Int) < (Q.length : Int) := by omega
      clear hq
      go_wp2
      go_quiet (fail)
      go_wp2
      go_roundw
      case rel => exact ⟨by simp, k + 1, by omega, by go_num, below_drewN hB _⟩
      case measure => simp [intOf]; omega
    · go_wp2_with (go_at_call 92; refine (HC.out _ hB).mono ?_; rintro _ w' ⟨rfl, HKP⟩)
      go_ret
      exact ⟨rfl, HKP⟩

end Go.Proofs.Ytpiankiacbghcaa
