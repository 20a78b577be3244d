/-
  strings.Builder, wherever it lies in a block: WriteString, String, Len, Reset.
-/
import Derived.Test.YtnlafahfcmmehaaWalks4
import Derived.Lib.Builder
import Derived.Lib.AppendStr
import Derived.Lib.UnsafeStr
import Derived.Lib.OthersKept
import Derived.Laws.Externs
import Derived.RegionTactic
namespace Go.Proofs.Ytnlafahfcmmehaa
open Go.RowKit

/-- a Builder at place o of block b, a block of cells of type T, that holds the bytes t. -/
structure BldAt (T : TypeId) (b o : Nat) (cs : Array Value) (t : List UInt8) (w : World) : Prop where
  blk : w.heap[b]? = some (.cells cs T (0, 0))
  adr : cs[o]? = some (.pointer none) ∨ cs[o]? = some (.pointer (some ⟨b, o, none⟩))
  buf : ∃ v, cs[o + 1]? = some v ∧ w.ownsRow b 5 1 v t.length (Lib.byteCells t) ∧ (t = [] → v = .slice none 0 0)

theorem block_set {w : World} {b : Nat} {cs : Array Value} {T : TypeId} (h : w.heap[b]? = some (.cells cs T (0, 0))) (o : Nat) (x : Value) :
    (w.setCell ⟨b, o, none⟩ x).heap[b]? = some (.cells (cs.setIfInBounds o x) T (0, 0)) := by
  simp [World.setCell, Array.getElem?_modify, h]

theorem own_set {w : World} {b base : Nat} {e : TypeId} {sz : Nat} {v : Value} {n : Nat} {xs : List Value} (h : w.ownsRow base e sz v n xs) (hne : v.ownBlock ≠ some b) (o : Nat) (x : Value) :
    (w.setCell ⟨b, o, none⟩ x).ownsRow base e sz v n xs :=
  h.kept (row := some b) ⟨rfl, rfl, rfl, by simp [World.setCell], fun k _ hk => Below.heap_setCell _ _ _ _ (fun e => hk (by simp [e]))⟩ (Or.inr hne)

theorem own_ne {w : World} {base : Nat} {e T : TypeId} {sz : Nat} {v : Value} {n : Nat} {xs : List Value} {b : Nat} {cs : Array Value} (h : w.ownsRow base e sz v n xs) (hb : w.heap[b]? = some (.cells cs T (0, 0))) (hT : T ≠ e) : v.ownBlock ≠ some b := by
  rcases h.2 with ⟨rfl, _⟩ | ⟨g, cap, cur, rfl, _, hg, _⟩
  · simp [Value.ownBlock]
  · intro h
    simp only [Value.ownBlock, Option.some.injEq] at h
    subst h
    rw [hg] at hb
    simp only [Option.some.injEq, Obj.cells.injEq] at hb
    exact hT hb.2.1.symm

theorem Try.infoByte : (Try.prog.info? 5).map (fun i => (i.zero, i.size, i.bytes)) = some (some (.int .u8 0), 1, 1) := by kernel_rfl
theorem Try.sizeBuilder : (Try.prog.info? 77).map (fun i => i.size) = some 2 := by kernel_rfl
theorem Try.cellsByte : Try.prog.cellsOf 5 = 1 := by kernel_rfl

set_option maxHeartbeats 1000000 in
set_option maxRecDepth 100000 in
theorem copyCheck_used (b o : Nat) (w : World) (h0 : w.cell? ⟨b, o, none⟩ = some (.pointer (some ⟨b, o, none⟩))) :
    Calls Try.prog 71 #[.pointer (some ⟨b, o, none⟩)] w fun e w' => e = .returned (.tuple #[]) ∧ w' = w := by
  obtain ⟨j, hj, _⟩ := Option.map_eq_some_iff.1 Try.sizeBuilder
  go_enter Try.func71, Try.ntmps71
  go_wp2
  rw [Lib.run_neq_ptr_same w _ Try.underlying74 hj]
  go_wp2
  go_end0
  exact ⟨rfl, rfl⟩

set_option maxHeartbeats 1000000 in
set_option maxRecDepth 100000 in
theorem copyCheck_fresh (b o n : Nat) (T : TypeId) (w : World) (h0 : w.cell? ⟨b, o, none⟩ = some (.pointer none)) (hsh : w.shape? b = some (T, n)) (ho : o < n) (hfz : w.frozen? ⟨b, o, none⟩ = false)
    (hl : liesAt Try.prog Try.prog.depth T (n / Try.prog.cellsOf T) o 77 1 = true) :
    Calls Try.prog 71 #[.pointer (some ⟨b, o, none⟩)] w fun e w' => e = .returned (.tuple #[]) ∧ w' = w.setCell ⟨b, o, none⟩ (.pointer (some ⟨b, o, none⟩)) := by
  obtain ⟨j, hj, hjs⟩ := Option.map_eq_some_iff.1 Try.sizeBuilder
  have HL : Hid (liesAt Try.prog Try.prog.depth T (n / Try.prog.cellsOf T) o 77 1 = true) := hl
  clear hl
  go_enter Try.func71, Try.ntmps71
  go_wp2
  rw [Lib.run_to_unsafe w ⟨b, o, none⟩ Try.underlying74 Try.underlying143 hj (by rw [hjs]; decide) hsh ho]
  simp only [Result.andThen]
  rw [Oper.upon_value]
  go_wp2
  rw [run_callFunc_extern Try.func87 (by kernel_rfl) (by kernel_rfl) (by kernel_rfl) (e := Extern.AbiNoEscape.same) (by kernel_rfl)]
  rw [Lib.run_noEscape]
  simp only [Result.andThen]
  rw [Oper.upon_value]
  go_wp2
  rw [Lib.run_from_unsafe w ⟨b, o, none⟩ Try.underlying143 Try.underlying74 hj hsh HL.out]
  simp only [Result.andThen]
  rw [Oper.upon_value]
  go_wp2
  go_end0
  exact ⟨rfl, rfl⟩

theorem lt_of_blk {w : World} {b : Nat} {x : Obj} (h : w.heap[b]? = some x) : b < w.heap.size := (Array.getElem?_eq_some_iff.1 h).1

/-- what a Builder's type and place must be. -/
structure BldPlace (T : TypeId) (n o : Nat) : Prop where
  ne : T ≠ 5
  room : o + 1 < n
  lies : liesAt Try.prog Try.prog.depth T (n / Try.prog.cellsOf T) o 77 1 = true

theorem copyCheck_any {T : TypeId} {b o : Nat} {cs : Array Value} {t : List UInt8} {w : World} (h : BldAt T b o cs t w) (hp : BldPlace T cs.size o) :
    Calls Try.prog 71 #[.pointer (some ⟨b, o, none⟩)] w fun e w' => e = .returned (.tuple #[]) ∧ BldAt T b o (cs.setIfInBounds o (.pointer (some ⟨b, o, none⟩))) t w' ∧ Below b w w' ∧ Lib.OthersKept 5 (some b) w w' := by
  have hr := hp.room
  obtain ⟨v, hv, hown, hnil⟩ := h.buf
  have hne := own_ne hown h.blk hp.ne
  rcases h.adr with ha | ha
  · refine (copyCheck_fresh b o cs.size T w (by rw [Lib.cell_of_heap h.blk]; exact ha) (by simp [World.shape?, h.blk]) (by omega) (Lib.frozen_of_heap h.blk o) hp.lies).mono ?_
    rintro e w' ⟨rfl, rfl⟩
    refine ⟨rfl, ⟨block_set h.blk _ _, .inr (by rw [Array.getElem?_setIfInBounds_self_of_lt (by omega)]), v, ?_, own_set hown hne _ _, hnil⟩, (Below.refl _ _).setCell (p := ⟨b, o, none⟩) (Nat.le_refl _) _, Lib.OthersKept.setCell (b := b) (Lib.OthersKept.refl _ _ _) ⟨b, o, none⟩ rfl _⟩
    rw [Array.getElem?_setIfInBounds_ne (by omega)]; exact hv
  · refine (copyCheck_used b o w (by rw [Lib.cell_of_heap h.blk]; exact ha)).mono ?_
    rintro e w' ⟨rfl, rfl⟩
    refine ⟨rfl, ?_, Below.refl _ _, Lib.OthersKept.refl _ _ _⟩
    have e : cs.setIfInBounds o (.pointer (some ⟨b, o, none⟩)) = cs := by
      apply Array.ext_getElem?
      intro i
      by_cases hi : o = i
      · subst hi; rw [Array.getElem?_setIfInBounds_self_of_lt (by omega)]; exact ha.symm
      · rw [Array.getElem?_setIfInBounds_ne hi]
    rw [e]; exact h

set_option maxHeartbeats 1000000 in
set_option maxRecDepth 100000 in
theorem writeString_any {T : TypeId} {b o : Nat} {cs : Array Value} {t : List UInt8} {w : World} (s : List UInt8) (h : BldAt T b o cs t w) (hp : BldPlace T cs.size o) (hlen : t.length + s.length ≤ 140737488355328) :
    Calls Try.prog 39 #[.pointer (some ⟨b, o, none⟩), .string (bs s)] w fun e w' => e = .returned (.tuple #[.int .i64 s.length, .nilIface]) ∧
      (∃ v', BldAt T b o ((cs.setIfInBounds o (.pointer (some ⟨b, o, none⟩))).setIfInBounds (o + 1) v') (t ++ s) w') ∧ Below b w w' ∧ Lib.OthersKept 5 (some b) w w' := by
  obtain ⟨i0, hi, hz0, hz1, hz2⟩ := info_parts Try.infoByte
  have hr := hp.room
  have HP : Hid (BldPlace T cs.size o) := hp
  have hss : (bs s).size ≤ 140737488355328 := by rw [bs_size]; omega
  have hss2 : t.length + (bs s).size ≤ 140737488355328 := by rw [bs_size]; omega
  clear hp
  go_enter Try.func39, Try.ntmps39
  go_wp2_with (go_at_call 71; refine (copyCheck_any h HP.out).mono ?_)
  rintro e w1 ⟨rfl, h1, hb1, hk1⟩
  obtain ⟨hbk, hadr, v, hv, hown, hnil⟩ := h1
  have hlt := lt_of_blk hbk
  have hne := own_ne hown hbk HP.out.ne
  have c1 : w1.cell? ⟨b, o + 1, none⟩ = some v := by rw [Lib.cell_of_heap hbk]; exact hv
  have HK : Hid (Lib.OthersKept 5 (some b) w w1) := hk1
  have HB : Hid (w1.heap[b]? = some (.cells (cs.setIfInBounds o (.pointer (some ⟨b, o, none⟩))) T (0, 0)) ∧ (t = [] → v = .slice none 0 0) ∧ Below b w w1 ∧ v.ownBlock ≠ some b) := ⟨hbk, hnil, hb1, hne⟩
  clear hbk hadr hnil hk1 hb1 hv hne
  go_wp2_with (at_builtin; refine Lib.wpList_append_own_string _ rfl _ _ 75 9 rfl b 5 i0 Try.underlying75 Try.underlying9 hi hz0 hz1 hz2 _ _ _ rfl hown (bs s) rfl ?c3 ?c4 ?c5 ?_)
  case c3 => unfold maxLen; omega
  case c4 => omega
  case c5 => omega
  intro v' w2 hown' hgrow hiff
  obtain ⟨hbk, hnil, hb1, hne⟩ := HB.out
  have hb2 : w2.heap[b]? = some (.cells (cs.setIfInBounds o (.pointer (some ⟨b, o, none⟩))) T (0, 0)) := by
    rw [hgrow.block b hlt (fun e => hne e.symm)]
    exact hbk
  have f1 : w2.frozen? ⟨b, o + 1, none⟩ = false := Lib.frozen_of_heap hb2 _
  have f2 : w2.cell? ⟨b, o + 1, none⟩ = (cs.setIfInBounds o (.pointer (some ⟨b, o, none⟩)))[o + 1]? := Lib.cell_of_heap hb2 _
  have HF : Hid ((v' = .slice none 0 0 ↔ v = .slice none 0 0 ∧ bs s = ByteArray.empty)) := hiff
  have HG : Hid (w1.grownBy w2 v.ownBlock) := hgrow
  have HB2 : Hid (w2.heap[b]? = some (.cells (cs.setIfInBounds o (.pointer (some ⟨b, o, none⟩))) T (0, 0))) := hb2
  clear hbk hnil hb1 hne hiff hgrow hb2
  have f3 : ∃ u, w2.cell? ⟨b, o + 1, none⟩ = some u := by
    rw [f2, Array.getElem?_eq_getElem (by simp; omega)]
    exact ⟨_, rfl⟩
  obtain ⟨u, f3⟩ := f3
  clear f2
  obtain ⟨ao, n', cap, rfl⟩ : ∃ ao n' cap, v' = .slice ao n' cap := by
    rcases hown'.2 with ⟨hv, _⟩ | ⟨g, cap, cur, hv, _⟩
    · exact ⟨_, _, _, hv⟩
    · exact ⟨_, _, _, hv⟩
  go_wp2
  go_ret2
  obtain ⟨hbk, hnil, hb1, hne⟩ := HB.out
  have hown2 : w2.ownsRow b 5 1 (.slice ao n' cap) (t ++ s).length (Lib.byteCells (t ++ s)) := by
    rw [Lib.byteCells_append, List.length_append, ← bs_size s]
    rw [Lib.strCells_eq, bs_data] at hown'
    exact hown'
  have hne2 := own_ne hown2 HB2.out HP.out.ne
  refine ⟨by rw [bs_size]; rfl, ⟨_, block_set HB2.out _ _, .inr ?_, _, ?_, own_set hown2 hne2 _ _, ?_⟩, ?_, ?_⟩
  · rw [Array.getElem?_setIfInBounds_ne (by omega), Array.getElem?_setIfInBounds_self_of_lt (by omega)]
  · rw [Array.getElem?_setIfInBounds_self_of_lt (by simp; omega)]
  · intro he
    have h1 : t = [] ∧ s = [] := by simpa using he
    exact HF.out.2 ⟨hnil h1.1, by rw [h1.2]; rfl⟩
  · exact (hb1.grown HG.out (by omega) (fun k hk => (hown.lt k hk).1)).setCell (p := ⟨b, o + 1, none⟩) (Nat.le_refl _) _
  · refine Lib.OthersKept.setCell (b := b) (HK.out.grown HG.out ?_) ⟨b, o + 1, none⟩ rfl _
    intro g hg
    rcases hown.2 with ⟨rfl, _⟩ | ⟨g', cap, cur, rfl, _, hgg, _⟩
    · simp [Value.ownBlock] at hg
    · simp [Value.ownBlock] at hg
      subst hg
      exact ⟨cur, _, hgg⟩

theorem bldSlice {T : TypeId} {b o : Nat} {cs : Array Value} {t : List UInt8} {w : World} (h : BldAt T b o cs t w) :
    ∃ ao cap, cs[o + 1]? = some (.slice ao t.length cap) := by
  obtain ⟨v, hv, hown, _⟩ := h.buf
  rcases hown.2 with ⟨rfl, h0⟩ | ⟨g, cap, cur, rfl, _⟩
  · exact ⟨none, 0, by rw [h0]; exact hv⟩
  · exact ⟨_, _, hv⟩

set_option maxHeartbeats 1000000 in
theorem bLen_any {T : TypeId} {b o : Nat} {cs : Array Value} {t : List UInt8} {w : World} (h : BldAt T b o cs t w) :
    Calls Try.prog 85 #[.pointer (some ⟨b, o, none⟩)] w fun e w' => e = .returned (.int .i64 t.length) ∧ w' = w := by
  obtain ⟨ao, cap, hv⟩ := bldSlice h
  have c1 : w.cell? ⟨b, o + 1, none⟩ = some (.slice ao t.length cap) := by rw [Lib.cell_of_heap h.blk]; exact hv
  clear h hv
  go_enter Try.func85, Try.ntmps85
  go_wp2
  go_ret
  exact ⟨rfl, rfl⟩

set_option maxHeartbeats 1000000 in
theorem bReset_any {T : TypeId} {b o : Nat} {cs : Array Value} {w : World} (hb : w.heap[b]? = some (.cells cs T (0, 0))) (ho : o + 1 < cs.size) :
    Calls Try.prog 86 #[.pointer (some ⟨b, o, none⟩)] w fun e w' => e = .returned (.tuple #[]) ∧ w' = (w.setCell ⟨b, o, none⟩ (.pointer none)).setCell ⟨b, o + 1, none⟩ (.slice none 0 0) := by
  obtain ⟨u0, e0⟩ : ∃ u, w.cell? ⟨b, o, none⟩ = some u := ⟨_, by rw [Lib.cell_of_heap hb]; exact Array.getElem?_eq_getElem (by omega)⟩
  obtain ⟨u1, e1⟩ : ∃ u, w.cell? ⟨b, o + 1, none⟩ = some u := ⟨_, by rw [Lib.cell_of_heap hb]; exact Array.getElem?_eq_getElem (by omega)⟩
  have f0 : w.frozen? ⟨b, o, none⟩ = false := Lib.frozen_of_heap hb _
  have f1 : w.frozen? ⟨b, o + 1, none⟩ = false := Lib.frozen_of_heap hb _
  clear hb
  go_enter Try.func86, Try.ntmps86
  go_wp2
  go_end0
  exact ⟨rfl, rfl⟩

set_option maxHeartbeats 2000000 in
set_option maxRecDepth 100000 in
theorem bString_some {T : TypeId} {b o : Nat} {cs : Array Value} {t : List UInt8} {w : World} (h : BldAt T b o cs t w) (h0 : t ≠ []) (hT : T ≠ 5) :
    Calls Try.prog 40 #[.pointer (some ⟨b, o, none⟩)] w fun e w' => e = .returned (.string (bs t)) ∧ w'.heap[b]? = some (.cells cs T (0, 0)) ∧ Below b w w' ∧ Lib.OthersKept 5 (some b) w w' := by
  obtain ⟨v, hv, hown, _⟩ := h.buf
  have hl0 : t.length ≠ 0 := by simpa using h0
  have hne := own_ne hown h.blk hT
  obtain ⟨g, cap, cur, rfl, hbg, hg, hnc, hcm, hcs, htake⟩ : ∃ g cap cur, v = .slice (some ⟨g, 0, none⟩) t.length cap ∧ b ≤ g ∧ w.heap[g]? = some (.cells cur 5 (0, 0)) ∧ t.length ≤ cap ∧ cap ≤ maxLen ∧ cur.size = cap * 1 ∧ cur.toList.take (t.length * 1) = Lib.byteCells t := by
    rcases hown.2 with ⟨_, hz⟩ | ⟨g, cap, cur, hv, r⟩
    · exact absurd hz hl0
    · exact ⟨g, cap, cur, hv, r⟩
  have hgb : g ≠ b := fun e => hne (by simp [Value.ownBlock, e])
  have c1 : w.drew.cell? ⟨b, o + 1, none⟩ = some (.slice (some ⟨g, 0, none⟩) t.length cap) := by
    have : w.drew.heap[b]? = some (.cells cs T (0, 0)) := h.blk
    rw [Lib.cell_of_heap this]; exact hv
  have hSD : (Builtin.unsafeSliceData_ #[75] 125 #[.slice (some ⟨g, 0, none⟩) t.length cap]).run Try.prog w.drew = .ok (.pointer (some ⟨g, 0, none⟩)) w.drew :=
    Lib.run_unsafeSliceData_row _ _ _ _ _ _ (by omega)
  have hUS : (Builtin.unsafeString_ #[125, 3] 9 #[.pointer (some ⟨g, 0, none⟩), .int .i64 t.length]).run Try.prog w.drew = .ok (.string (bs t)) (w.drew.freeze ⟨g, 0, none⟩ t.length) := by
    refine Lib.run_unsafeString_row w.drew 125 3 9 5 Try.underlying125 Try.cellsByte g cur.size (by have hg' : w.drew.heap[g]? = some (.cells cur 5 (0, 0)) := hg; simp [World.shape?, hg']) t h0 (by omega) (by unfold maxLen at hcm; omega) ?_
    intro j x hx
    have := hown.cells (g := g) rfl j (.int .u8 x.toNat) (by simp [Lib.byteCells, hx])
    exact this
  have HB : Hid (w.heap[b]? = some (.cells cs T (0, 0)) ∧ w.heap[g]? = some (.cells cur 5 (0, 0))) := ⟨h.blk, hg⟩
  clear h hv hown hne hg
  go_enter Try.func40, Try.ntmps40
  go_wp2
  go_region
  all_goals
    go_wp2
    go_ret
    refine ⟨rfl, ?_, Lib.below_freeze (Below.drew (Below.refl b w)) (p := ⟨g, 0, none⟩) hbg _, (Lib.OthersKept.refl _ _ _).freeze (w := w.drew) ⟨g, 0, none⟩ _ ⟨cur, _, HB.out.2⟩⟩
    unfold World.freeze
    split
    · exact HB.out.1
    · simp only [Array.getElem?_modify]
      rw [if_neg hgb]
      exact HB.out.1

set_option maxHeartbeats 2000000 in
set_option maxRecDepth 100000 in
theorem bString_none {T : TypeId} {b o : Nat} {cs : Array Value} {w : World} (h : BldAt T b o cs [] w) :
    Calls Try.prog 40 #[.pointer (some ⟨b, o, none⟩)] w fun e w' => e = .returned (.string (bs [])) ∧ Below b w w' := by
  obtain ⟨v, hv, hown, hn⟩ := h.buf
  have hn := hn rfl
  subst hn
  have c1 : w.drew.cell? ⟨b, o + 1, none⟩ = some (.slice none 0 0) := by
    have : w.drew.heap[b]? = some (.cells cs T (0, 0)) := h.blk
    rw [Lib.cell_of_heap this]; exact hv
  have hUS : ∀ W q, (Builtin.unsafeString_ #[125, 3] 9 #[.pointer q, .int .i64 0]).run Try.prog W = .ok (.string .empty) W := fun W q => Lib.run_unsafeString_none W _ _ _ q
  have hSD : (Builtin.unsafeSliceData_ #[75] 125 #[.slice none 0 0]).run Try.prog w.drew = .ok (.pointer none) w.drew := rfl
  clear h hv hown
  go_enter Try.func40, Try.ntmps40
  go_wp2
  go_region
  all_goals (go_wp2; go_ret; exact ⟨rfl, Below.drew (Below.refl b w)⟩)

theorem bString_any {T : TypeId} {b o : Nat} {cs : Array Value} {t : List UInt8} {w : World} (h : BldAt T b o cs t w) (hT : T ≠ 5) :
    Calls Try.prog 40 #[.pointer (some ⟨b, o, none⟩)] w fun e w' => e = .returned (.string (bs t)) ∧ Below b w w' := by
  by_cases h0 : t = []
  · subst h0; exact bString_none h
  · refine (bString_some h h0 hT).mono ?_
    rintro e w' ⟨rfl, _, hb, _⟩
    exact ⟨rfl, hb⟩

end Go.Proofs.Ytnlafahfcmmehaa
