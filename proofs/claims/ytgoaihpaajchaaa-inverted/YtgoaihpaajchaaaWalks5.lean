/-
  strings.Builder, wherever it lies in a block: WriteString, String, Len, Reset.
-/
import Derived.Test.YtgoaihpaajchaaaWalks4
import Derived.Lib.Builder
import Derived.Lib.AppendStr
import Derived.Lib.UnsafeStr
import Derived.Lib.OthersKept
import Derived.Laws.Externs
import Derived.RegionTactic
namespace Go.Proofs.Ytgoaihpaajchaaa
open Go.RowKit

/-- a Builder at place o of block b, a block of cells of type T, that holds the bytes t. -/
structure BldAt (T : TypeId) (b o : Nat) (cs : Array Value) (t : List UInt8) (w : World) : Prop where
  blk : w.heap[b]? = some (.cells cs T (0, 0))
  adr : cs[o]? = some (.pointer none) ∨ cs[o]? = some (.pointer (some ⟨b, o, none⟩))
  buf : ∃ v, cs[o + 1]? = some v ∧ w.ownsRow b 5 1 v t.length (Lib.byteCells t) ∧ (t = [] → v = .slice none 0 0)

theorem block_set {w : World} {b : Nat} {cs : Array Value} {T : TypeId} (h : w.heap[b]? = some (.cells cs T (0, 0))) (o : Nat) (x : Value) :
    (w.setCell ⟨b, o, none⟩ x).heap[b]? = some (.cells (cs.setIfInBounds o x) T (0, 0)) := by
  simp [World.setCell, Array.getElem?_modify, h]

theorem own_set {w : World} {b base : Nat} {e : TypeId} {sz : Nat} {v : Value} {n : Nat} {xs : List Value} (h : w.ownsRow base e sz v n xs) (hne : v.ownBlock ≠ some b) (o : Nat) (x : Value) :
    (w.setCell ⟨b, o, none⟩ x).ownsRow base e sz v n xs :=
  h.kept (row := some b) ⟨rfl, rfl, rfl, by simp [World.setCell], fun k _ hk => Below.heap_setCell _ _ _ _ (fun e => hk (by simp [e]))⟩ (Or.inr hne)

theorem own_ne {w : World} {base : Nat} {e T : TypeId} {sz : Nat} {v : Value} {n : Nat} {xs : List Value} {b : Nat} {cs : Array Value} (h : w.ownsRow base e sz v n xs) (hb : w.heap[b]? = some (.cells cs T (0, 0))) (hT : T ≠ e) : v.ownBlock ≠ some b := by
  rcases h.2 with ⟨rfl, _⟩ | ⟨g, cap, cur, rfl, _, hg, _⟩
  · simp [Value.ownBlock]
  · intro h
    simp only [Value.ownBlock, Option.some.injEq] at h
    subst h
    rw [hg] at hb
    simp only [Option.some.injEq, Obj.cells.injEq] at hb
    exact hT hb.2.1.symm

/-- what was not in S is as it was. -/
def KeepX (S : Nat → Prop) (w w' : World) : Prop := ∀ g, g < w.heap.size → ¬ S g → w'.heap[g]? = w.heap[g]?

/-- which blocks a call may write: b, and the rows of the values vs; and where the values vs' lie behind it. -/
structure Wrote (b : Nat) (vs vs' : List Value) (w w' : World) : Prop where
  size : w.heap.size ≤ w'.heap.size
  keep : ∀ g, g < w.heap.size → g ≠ b → (∀ v ∈ vs, v.ownBlock ≠ some g) → w'.heap[g]? = w.heap[g]?
  own : ∀ v ∈ vs', ∀ g, v.ownBlock = some g → (∃ u ∈ vs, u.ownBlock = some g) ∨ w.heap.size ≤ g

theorem Wrote.refl (b : Nat) (vs : List Value) (w : World) : Wrote b vs vs w w := ⟨Nat.le_refl _, fun _ _ _ _ => rfl, fun v hv _ hg => .inl ⟨v, hv, hg⟩⟩
theorem Wrote.trans {b : Nat} {vs vs1 vs2 : List Value} {w w1 w2 : World} (h : Wrote b vs vs1 w w1) (k : Wrote b vs1 vs2 w1 w2) : Wrote b vs vs2 w w2 := by
  refine ⟨Nat.le_trans h.size k.size, fun g hg hb hv => ?_, fun v hv g hg => ?_⟩
  · refine (k.keep g (Nat.lt_of_lt_of_le hg h.size) hb (fun v hv1 e => ?_)).trans (h.keep g hg hb hv)
    rcases h.own v hv1 g e with ⟨u, hu, hu2⟩ | hle
    · exact hv u hu hu2
    · omega
  · rcases k.own v hv g hg with ⟨u, hu, hu2⟩ | hle
    · exact h.own u hu g hu2
    · exact .inr (Nat.le_trans h.size hle)
theorem Wrote.alloc {b : Nat} {vs vs1 : List Value} {w w1 : World} (h : Wrote b vs vs1 w w1) (o : Obj) : Wrote b vs vs1 w (w1.alloc o) :=
  ⟨by have := h.size; simp; omega, fun g hg hb hv => (Lib.alloc_old w1 o g (Nat.lt_of_lt_of_le hg h.size)).trans (h.keep g hg hb hv), h.own⟩
theorem Wrote.drew {b : Nat} {vs vs1 : List Value} {w w1 : World} (h : Wrote b vs vs1 w w1) : Wrote b vs vs1 w w1.drew := ⟨h.size, h.keep, h.own⟩
theorem Wrote.setCell {b : Nat} {vs vs1 : List Value} {w w1 : World} (h : Wrote b vs vs1 w w1) (o : Nat) (x : Value) : Wrote b vs vs1 w (w1.setCell ⟨b, o, none⟩ x) :=
  ⟨by have := h.size; simpa [World.setCell] using this, fun g hg hb hv => (Below.heap_setCell _ _ _ _ hb).trans (h.keep g hg hb hv), h.own⟩
theorem Wrote.sub {b : Nat} {vs vs1 vs2 : List Value} {w w1 : World} (h : Wrote b vs vs1 w w1) (hs : ∀ v ∈ vs2, v ∈ vs1 ∨ v.ownBlock = none) : Wrote b vs vs2 w w1 :=
  ⟨h.size, h.keep, fun v hv g hg => by
    rcases hs v hv with e | e
    · exact h.own v e g hg
    · rw [e] at hg; cases hg⟩

/-- a call that writes into the second row alone. -/
theorem Wrote.more {b : Nat} {u v v' : Value} {w w1 : World} (h : Wrote b [v] [v'] w w1) : Wrote b [u, v] [u, v'] w w1 :=
  ⟨h.size, fun g hg hb hv => h.keep g hg hb (fun x hx => hv x (by simp only [List.mem_singleton] at hx; simp [hx])), fun x hx g hg => by
    simp only [List.mem_cons, List.not_mem_nil, or_false] at hx
    rcases hx with rfl | rfl
    · exact .inl ⟨_, by simp, hg⟩
    · rcases h.own _ (by simp) g hg with ⟨y, hy, hy2⟩ | e
      · exact .inl ⟨y, by simp only [List.mem_singleton] at hy; simp [hy], hy2⟩
      · exact .inr e⟩

/-- appending a string's bytes: where the row lies then. -/
theorem string_at {P : Program} {w : World} (base : Nat) (t u ty e : TypeId) (i : TypeInfo) (ht : P.underlying t = some (.slice e)) (hu : P.underlying u = some .string) (hi : P.info? e = some i) (hz : i.zero = some (.int .u8 0))
    (hsize : i.size = 1) (hby : i.bytes = 1) (v : Value) (n : Nat) (xs : List Value) (hown : w.ownsRow base e 1 v n xs) (s : ByteArray)
    (h63 : n + s.size ≤ maxLen) (hbytes : n + s.size ≤ 140737488355328) (v' : Value) (w' : World)
    (hr : (Builtin.append_ #[t, u] ty #[v, .string s]).run P w = .ok v' w') : ∀ g, v'.ownBlock = some g → v.ownBlock = some g ∨ w.heap.size ≤ g := by
  intro g hg
  rcases hown.2 with ⟨rfl, rfl⟩ | ⟨g0, cap, cur, rfl, hbg, hgg, hnc, hcm, hcs, htake⟩
  · have hx : xs = [] := List.eq_nil_of_length_eq_zero (by simpa using hown.1)
    subst hx
    obtain ⟨v2, w2, hr2, ho2, _, _⟩ := Lib.run_append_own_string (P := P) w w.heap.size t u ty e i ht hu hi hz hsize hby (.slice none 0 0) 0 [] (World.ownsRow_nil _ _ _ _) s h63 hbytes (Nat.le_refl _)
    rw [hr] at hr2
    simp only [Result.ok.injEq] at hr2
    obtain ⟨rfl, rfl⟩ := hr2
    exact .inr (ho2.lt g hg).1
  · have hxl : xs.length = n := by simpa using hown.1
    by_cases hroom : n + s.size ≤ cap
    · have hcs' : cur.size = cap := by simpa using hcs
      have hr2 := Lib.run_append_room_string (P := P) w t u ty e i ht hu hi hsize g0 n cap cur hgg s hroom (by omega)
      rw [hr] at hr2
      simp only [Result.ok.injEq] at hr2
      obtain ⟨rfl, rfl⟩ := hr2
      exact .inl hg
    · have holds : ∀ j u, xs[j]? = some u → w.cell? ((⟨g0, 0, none⟩ : Addr).add j) = some u := hown.cells (g := g0) rfl
      unfold maxLen at h63
      have hr2 := Lib.run_append_grow_string (P := P) w t u ty e i (.int .u8 0) ht hu hi hz ⟨g0, 0, none⟩ n cap xs (by rw [hsize]; simpa using hxl) holds s (by omega) (by omega) (by rw [hby]; exact growslice_fits (by omega) (by omega))
      rw [hr] at hr2
      simp only [Result.ok.injEq] at hr2
      obtain ⟨rfl, rfl⟩ := hr2
      simp only [Value.ownBlock, Option.some.injEq] at hg
      exact .inr (by omega)

theorem append_string_at {P : Program} {w : World} {ops : Array Oper} {rest : List Oper} {o : Oper} {a : Act} {Q : Exit → Act → World → Prop} (hgd : o.guard = none) (sl x : Operand) (t u : TypeId)
    (ho : o.op = .call { callee := .builtin .append, args := #[sl, x], argTypes := #[t, u] })
    (base : Nat) (e : TypeId) (i : TypeInfo) (ht : P.underlying t = some (.slice e)) (hu : P.underlying u = some .string) (hi : P.info? e = some i) (hz : i.zero = some (.int .u8 0))
    (hsize : i.size = 1) (hby : i.bytes = 1)
    (v : Value) (n : Nat) (xs : List Value) (hs : a.eval sl = v) (hown : w.ownsRow base e 1 v n xs) (s : ByteArray) (hx : a.eval x = .string s)
    (h63 : n + s.size ≤ maxLen) (hbytes : n + s.size ≤ 140737488355328) (hbase : base ≤ w.heap.size)
    (h : ∀ v' w', w'.ownsRow base e 1 v' (n + s.size) (xs ++ Lib.strCells s) → w.grownBy w' v.ownBlock → (v' = .slice none 0 0 ↔ v = .slice none 0 0 ∧ s.size = 0) → (∀ g, v'.ownBlock = some g → v.ownBlock = some g ∨ w.heap.size ≤ g) → wpList P ops Q rest (a.put o.dst v') w') : wpList P ops Q (o :: rest) a w := by
  refine wpList_plain hgd fun K hK => ?_
  obtain ⟨v', w', hr, h2, h3, h4⟩ := Lib.run_append_own_string (P := P) w base t u o.type e i ht hu hi hz hsize hby v n xs hown s h63 hbytes hbase
  have h5 := string_at (P := P) base t u o.type e i ht hu hi hz hsize hby v n xs hown s h63 hbytes v' w' hr
  unfold Oper.wp execOp
  simp only [ho, resolve, invoke, builtin, Sem.run_bind, Sem.run_pure, Result.andThen_ok, List.map_toArray, List.map_cons, List.map_nil, hs, hx, hr]
  exact hK _ _ (h v' w' h2 h3 h4 h5)

theorem Try.infoByte : (Try.prog.info? 5).map (fun i => (i.zero, i.size, i.bytes)) = some (some (.int .u8 0), 1, 1) := by kernel_rfl
theorem Try.sizeBuilder : (Try.prog.info? 61).map (fun i => i.size) = some 2 := by kernel_rfl
theorem Try.cellsByte : Try.prog.cellsOf 5 = 1 := by kernel_rfl

set_option maxHeartbeats 1000000 in
set_option maxRecDepth 100000 in
theorem copyCheck_used (b o : Nat) (w : World) (h0 : w.cell? ⟨b, o, none⟩ = some (.pointer (some ⟨b, o, none⟩))) :
    Calls Try.prog 52 #[.pointer (some ⟨b, o, none⟩)] w fun e w' => e = .returned (.tuple #[]) ∧ w' = w := by
  obtain ⟨j, hj, _⟩ := Option.map_eq_some_iff.1 Try.sizeBuilder
  go_enter Try.func52, Try.ntmps52
  go_wp2
  rw [Lib.run_neq_ptr_same w _ Try.underlying58 hj]
  go_wp2
  go_end0
  exact ⟨rfl, rfl⟩

set_option maxHeartbeats 1000000 in
set_option maxRecDepth 100000 in
theorem copyCheck_fresh (b o n : Nat) (T : TypeId) (w : World) (h0 : w.cell? ⟨b, o, none⟩ = some (.pointer none)) (hsh : w.shape? b = some (T, n)) (ho : o < n) (hfz : w.frozen? ⟨b, o, none⟩ = false)
    (hl : liesAt Try.prog Try.prog.depth T (n / Try.prog.cellsOf T) o 61 1 = true) :
    Calls Try.prog 52 #[.pointer (some ⟨b, o, none⟩)] w fun e w' => e = .returned (.tuple #[]) ∧ w' = w.setCell ⟨b, o, none⟩ (.pointer (some ⟨b, o, none⟩)) := by
  obtain ⟨j, hj, hjs⟩ := Option.map_eq_some_iff.1 Try.sizeBuilder
  have HL : Hid (liesAt Try.prog Try.prog.depth T (n / Try.prog.cellsOf T) o 61 1 = true) := hl
  clear hl
  go_enter Try.func52, Try.ntmps52
  go_wp2
  rw [Lib.run_to_unsafe w ⟨b, o, none⟩ Try.underlying58 Try.underlying96 hj (by rw [hjs]; decide) hsh ho]
  simp only [Result.andThen]
  rw [Oper.upon_value]
  go_wp2
  rw [run_callFunc_extern Try.func57 (by kernel_rfl) (by kernel_rfl) (by kernel_rfl) (e := Extern.AbiNoEscape.same) (by kernel_rfl)]
  rw [Lib.run_noEscape]
  simp only [Result.andThen]
  rw [Oper.upon_value]
  go_wp2
  rw [Lib.run_from_unsafe w ⟨b, o, none⟩ Try.underlying96 Try.underlying58 hj hsh HL.out]
  simp only [Result.andThen]
  rw [Oper.upon_value]
  go_wp2
  go_end0
  exact ⟨rfl, rfl⟩

theorem lt_of_blk {w : World} {b : Nat} {x : Obj} (h : w.heap[b]? = some x) : b < w.heap.size := (Array.getElem?_eq_some_iff.1 h).1

/-- what a Builder's type and place must be. -/
structure BldPlace (T : TypeId) (n o : Nat) : Prop where
  ne : T ≠ 5
  room : o + 1 < n
  lies : liesAt Try.prog Try.prog.depth T (n / Try.prog.cellsOf T) o 61 1 = true

theorem copyCheck_any {T : TypeId} {b o : Nat} {cs : Array Value} {t : List UInt8} {w : World} (h : BldAt T b o cs t w) (hp : BldPlace T cs.size o) :
    Calls Try.prog 52 #[.pointer (some ⟨b, o, none⟩)] w fun e w' => e = .returned (.tuple #[]) ∧ BldAt T b o (cs.setIfInBounds o (.pointer (some ⟨b, o, none⟩))) t w' ∧ Below b w w' ∧ Lib.OthersKept 5 (some b) w w' ∧ KeepX (fun g => g = b) w w' := by
  have hr := hp.room
  obtain ⟨v, hv, hown, hnil⟩ := h.buf
  have hne := own_ne hown h.blk hp.ne
  rcases h.adr with ha | ha
  · refine (copyCheck_fresh b o cs.size T w (by rw [Lib.cell_of_heap h.blk]; exact ha) (by simp [World.shape?, h.blk]) (by omega) (Lib.frozen_of_heap h.blk o) hp.lies).mono ?_
    rintro e w' ⟨rfl, rfl⟩
    refine ⟨rfl, ⟨block_set h.blk _ _, .inr (by rw [Array.getElem?_setIfInBounds_self_of_lt (by omega)]), v, ?_, own_set hown hne _ _, hnil⟩, (Below.refl _ _).setCell (p := ⟨b, o, none⟩) (Nat.le_refl _) _, Lib.OthersKept.setCell (b := b) (Lib.OthersKept.refl _ _ _) ⟨b, o, none⟩ rfl _, fun g _ hg => Below.heap_setCell _ _ _ _ hg⟩
    rw [Array.getElem?_setIfInBounds_ne (by omega)]; exact hv
  · refine (copyCheck_used b o w (by rw [Lib.cell_of_heap h.blk]; exact ha)).mono ?_
    rintro e w' ⟨rfl, rfl⟩
    refine ⟨rfl, ?_, Below.refl _ _, Lib.OthersKept.refl _ _ _, fun _ _ _ => rfl⟩
    have e : cs.setIfInBounds o (.pointer (some ⟨b, o, none⟩)) = cs := by
      apply Array.ext_getElem?
      intro i
      by_cases hi : o = i
      · subst hi; rw [Array.getElem?_setIfInBounds_self_of_lt (by omega)]; exact ha.symm
      · rw [Array.getElem?_setIfInBounds_ne hi]
    rw [e]; exact h

set_option maxHeartbeats 1000000 in
set_option maxRecDepth 100000 in
theorem writeString_any {T : TypeId} {b o : Nat} {cs : Array Value} {t : List UInt8} {w : World} (s : List UInt8) (h : BldAt T b o cs t w) (hp : BldPlace T cs.size o) (hlen : t.length + s.length ≤ 140737488355328) :
    Calls Try.prog 41 #[.pointer (some ⟨b, o, none⟩), .string (bs s)] w fun e w' => e = .returned (.tuple #[.int .i64 s.length, .nilIface]) ∧
      (∃ v', BldAt T b o ((cs.setIfInBounds o (.pointer (some ⟨b, o, none⟩))).setIfInBounds (o + 1) v') (t ++ s) w' ∧ ∀ v, cs[o + 1]? = some v → Wrote b [v] [v'] w w') ∧ Below b w w' ∧ Lib.OthersKept 5 (some b) w w' := by
  obtain ⟨i0, hi, hz0, hz1, hz2⟩ := info_parts Try.infoByte
  have hr := hp.room
  have HP : Hid (BldPlace T cs.size o) := hp
  have hss : (bs s).size ≤ 140737488355328 := by rw [bs_size]; omega
  have hss2 : t.length + (bs s).size ≤ 140737488355328 := by rw [bs_size]; omega
  clear hp
  go_enter Try.func41, Try.ntmps41
  go_wp2_with (go_at_call 52; refine (copyCheck_any h HP.out).mono ?_)
  rintro e w1 ⟨rfl, h1, hb1, hk1, hx1⟩
  have HX : Hid (KeepX (fun g => g = b) w w1) := hx1
  clear hx1
  obtain ⟨hbk, hadr, v, hv, hown, hnil⟩ := h1
  have hlt := lt_of_blk hbk
  have hne := own_ne hown hbk HP.out.ne
  have c1 : w1.cell? ⟨b, o + 1, none⟩ = some v := by rw [Lib.cell_of_heap hbk]; exact hv
  have HK : Hid (Lib.OthersKept 5 (some b) w w1) := hk1
  have HV : Hid (cs[o + 1]? = some v) := by
    have := hv
    rw [Array.getElem?_setIfInBounds_ne (by omega)] at this
    exact this
  have HB : Hid (w1.heap[b]? = some (.cells (cs.setIfInBounds o (.pointer (some ⟨b, o, none⟩))) T (0, 0)) ∧ (t = [] → v = .slice none 0 0) ∧ Below b w w1 ∧ v.ownBlock ≠ some b) := ⟨hbk, hnil, hb1, hne⟩
  clear hbk hadr hnil hk1 hb1 hv hne
  go_wp2_with (at_builtin; refine append_string_at rfl _ _ 59 9 rfl b 5 i0 Try.underlying59 Try.underlying9 hi hz0 hz1 hz2 _ _ _ rfl hown (bs s) rfl ?c3 ?c4 ?c5 ?_)
  case c3 => unfold maxLen; omega
  case c4 => omega
  case c5 => omega
  intro v' w2 hown' hgrow hiff hat
  have HAT : Hid (∀ g, v'.ownBlock = some g → v.ownBlock = some g ∨ w1.heap.size ≤ g) := hat
  clear hat
  obtain ⟨hbk, hnil, hb1, hne⟩ := HB.out
  have hb2 : w2.heap[b]? = some (.cells (cs.setIfInBounds o (.pointer (some ⟨b, o, none⟩))) T (0, 0)) := by
    rw [hgrow.block b hlt (fun e => hne e.symm)]
    exact hbk
  have f1 : w2.frozen? ⟨b, o + 1, none⟩ = false := Lib.frozen_of_heap hb2 _
  have f2 : w2.cell? ⟨b, o + 1, none⟩ = (cs.setIfInBounds o (.pointer (some ⟨b, o, none⟩)))[o + 1]? := Lib.cell_of_heap hb2 _
  have HF : Hid ((v' = .slice none 0 0 ↔ v = .slice none 0 0 ∧ bs s = ByteArray.empty)) := hiff
  have HG : Hid (w1.grownBy w2 v.ownBlock) := hgrow
  have HB2 : Hid (w2.heap[b]? = some (.cells (cs.setIfInBounds o (.pointer (some ⟨b, o, none⟩))) T (0, 0))) := hb2
  clear hbk hnil hb1 hne hiff hgrow hb2
  have f3 : ∃ u, w2.cell? ⟨b, o + 1, none⟩ = some u := by
    rw [f2, Array.getElem?_eq_getElem (by simp; omega)]
    exact ⟨_, rfl⟩
  obtain ⟨u, f3⟩ := f3
  clear f2
  obtain ⟨ao, n', cap, rfl⟩ : ∃ ao n' cap, v' = .slice ao n' cap := by
    rcases hown'.2 with ⟨hv, _⟩ | ⟨g, cap, cur, hv, _⟩
    · exact ⟨_, _, _, hv⟩
    · exact ⟨_, _, _, hv⟩
  go_wp2
  go_ret2
  obtain ⟨hbk, hnil, hb1, hne⟩ := HB.out
  have hown2 : w2.ownsRow b 5 1 (.slice ao n' cap) (t ++ s).length (Lib.byteCells (t ++ s)) := by
    rw [Lib.byteCells_append, List.length_append, ← bs_size s]
    rw [Lib.strCells_eq, bs_data] at hown'
    exact hown'
  have hne2 := own_ne hown2 HB2.out HP.out.ne
  refine ⟨by rw [bs_size]; rfl, ⟨_, ⟨block_set HB2.out _ _, .inr ?_, _, ?_, own_set hown2 hne2 _ _, ?_⟩, ?_⟩, ?_, ?_⟩
  · rw [Array.getElem?_setIfInBounds_ne (by omega), Array.getElem?_setIfInBounds_self_of_lt (by omega)]
  · rw [Array.getElem?_setIfInBounds_self_of_lt (by simp; omega)]
  · intro he
    have h1 : t = [] ∧ s = [] := by simpa using he
    exact HF.out.2 ⟨hnil h1.1, by rw [h1.2]; rfl⟩
  · intro v9 hv9
    rw [HV.out] at hv9
    cases hv9
    have hz1 : w.heap.size ≤ w1.heap.size := hb1.size
    refine Wrote.setCell ⟨Nat.le_trans hz1 HG.out.size, fun g hg hgb hgv => ?_, fun u hu g hg => ?_⟩ _ _
    · exact (HG.out.block g (by omega) (fun e => hgv v (by simp) e.symm)).trans (HX.out g hg hgb)
    · simp only [List.mem_singleton] at hu
      subst hu
      rcases HAT.out g hg with e | e
      · exact .inl ⟨v, by simp, e⟩
      · exact .inr (by omega)
  · exact (hb1.grown HG.out (by omega) (fun k hk => (hown.lt k hk).1)).setCell (p := ⟨b, o + 1, none⟩) (Nat.le_refl _) _
  · refine Lib.OthersKept.setCell (b := b) (HK.out.grown HG.out ?_) ⟨b, o + 1, none⟩ rfl _
    intro g hg
    rcases hown.2 with ⟨rfl, _⟩ | ⟨g', cap, cur, rfl, _, hgg, _⟩
    · simp [Value.ownBlock] at hg
    · simp [Value.ownBlock] at hg
      subst hg
      exact ⟨cur, _, hgg⟩

theorem bldSlice {T : TypeId} {b o : Nat} {cs : Array Value} {t : List UInt8} {w : World} (h : BldAt T b o cs t w) :
    ∃ ao cap, cs[o + 1]? = some (.slice ao t.length cap) := by
  obtain ⟨v, hv, hown, _⟩ := h.buf
  rcases hown.2 with ⟨rfl, h0⟩ | ⟨g, cap, cur, rfl, _⟩
  · exact ⟨none, 0, by rw [h0]; exact hv⟩
  · exact ⟨_, _, hv⟩

set_option maxHeartbeats 1000000 in
theorem bLen_any {T : TypeId} {b o : Nat} {cs : Array Value} {t : List UInt8} {w : World} (h : BldAt T b o cs t w) :
    Calls Try.prog 54 #[.pointer (some ⟨b, o, none⟩)] w fun e w' => e = .returned (.int .i64 t.length) ∧ w' = w := by
  obtain ⟨ao, cap, hv⟩ := bldSlice h
  have c1 : w.cell? ⟨b, o + 1, none⟩ = some (.slice ao t.length cap) := by rw [Lib.cell_of_heap h.blk]; exact hv
  clear h hv
  go_enter Try.func54, Try.ntmps54
  go_wp2
  go_ret
  exact ⟨rfl, rfl⟩

set_option maxHeartbeats 1000000 in
theorem bReset_any {T : TypeId} {b o : Nat} {cs : Array Value} {w : World} (hb : w.heap[b]? = some (.cells cs T (0, 0))) (ho : o + 1 < cs.size) :
    Calls Try.prog 55 #[.pointer (some ⟨b, o, none⟩)] w fun e w' => e = .returned (.tuple #[]) ∧ w' = (w.setCell ⟨b, o, none⟩ (.pointer none)).setCell ⟨b, o + 1, none⟩ (.slice none 0 0) := by
  obtain ⟨u0, e0⟩ : ∃ u, w.cell? ⟨b, o, none⟩ = some u := ⟨_, by rw [Lib.cell_of_heap hb]; exact Array.getElem?_eq_getElem (by omega)⟩
  obtain ⟨u1, e1⟩ : ∃ u, w.cell? ⟨b, o + 1, none⟩ = some u := ⟨_, by rw [Lib.cell_of_heap hb]; exact Array.getElem?_eq_getElem (by omega)⟩
  have f0 : w.frozen? ⟨b, o, none⟩ = false := Lib.frozen_of_heap hb _
  have f1 : w.frozen? ⟨b, o + 1, none⟩ = false := Lib.frozen_of_heap hb _
  clear hb
  go_enter Try.func55, Try.ntmps55
  go_wp2
  go_end0
  exact ⟨rfl, rfl⟩

set_option maxHeartbeats 2000000 in
set_option maxRecDepth 100000 in
theorem bString_some {T : TypeId} {b o : Nat} {cs : Array Value} {t : List UInt8} {w : World} (h : BldAt T b o cs t w) (h0 : t ≠ []) (hT : T ≠ 5) :
    Calls Try.prog 42 #[.pointer (some ⟨b, o, none⟩)] w fun e w' => e = .returned (.string (bs t)) ∧ w'.heap[b]? = some (.cells cs T (0, 0)) ∧ Below b w w' ∧ Lib.OthersKept 5 (some b) w w' ∧ ∀ v, cs[o + 1]? = some v → Wrote b [v] [v] w w' := by
  obtain ⟨v, hv, hown, _⟩ := h.buf
  have hl0 : t.length ≠ 0 := by simpa using h0
  have hne := own_ne hown h.blk hT
  obtain ⟨g, cap, cur, rfl, hbg, hg, hnc, hcm, hcs, htake⟩ : ∃ g cap cur, v = .slice (some ⟨g, 0, none⟩) t.length cap ∧ b ≤ g ∧ w.heap[g]? = some (.cells cur 5 (0, 0)) ∧ t.length ≤ cap ∧ cap ≤ maxLen ∧ cur.size = cap * 1 ∧ cur.toList.take (t.length * 1) = Lib.byteCells t := by
    rcases hown.2 with ⟨_, hz⟩ | ⟨g, cap, cur, hv, r⟩
    · exact absurd hz hl0
    · exact ⟨g, cap, cur, hv, r⟩
  have hgb : g ≠ b := fun e => hne (by simp [Value.ownBlock, e])
  have c1 : w.drew.cell? ⟨b, o + 1, none⟩ = some (.slice (some ⟨g, 0, none⟩) t.length cap) := by
    have : w.drew.heap[b]? = some (.cells cs T (0, 0)) := h.blk
    rw [Lib.cell_of_heap this]; exact hv
  have hSD : (Builtin.unsafeSliceData_ #[59] 92 #[.slice (some ⟨g, 0, none⟩) t.length cap]).run Try.prog w.drew = .ok (.pointer (some ⟨g, 0, none⟩)) w.drew :=
    Lib.run_unsafeSliceData_row _ _ _ _ _ _ (by omega)
  have hUS : (Builtin.unsafeString_ #[92, 3] 9 #[.pointer (some ⟨g, 0, none⟩), .int .i64 t.length]).run Try.prog w.drew = .ok (.string (bs t)) (w.drew.freeze ⟨g, 0, none⟩ t.length) := by
    refine Lib.run_unsafeString_row w.drew 92 3 9 5 Try.underlying92 Try.cellsByte g cur.size (by have hg' : w.drew.heap[g]? = some (.cells cur 5 (0, 0)) := hg; simp [World.shape?, hg']) t h0 (by omega) (by unfold maxLen at hcm; omega) ?_
    intro j x hx
    have := hown.cells (g := g) rfl j (.int .u8 x.toNat) (by simp [Lib.byteCells, hx])
    exact this
  have HB : Hid (w.heap[b]? = some (.cells cs T (0, 0)) ∧ w.heap[g]? = some (.cells cur 5 (0, 0))) := ⟨h.blk, hg⟩
  have HV : Hid (cs[o + 1]? = some (.slice (some ⟨g, 0, none⟩) t.length cap)) := hv
  clear h hv hown hne hg
  go_enter Try.func42, Try.ntmps42
  go_wp2
  go_region
  all_goals
    go_wp2
    go_ret
    refine ⟨rfl, ?_, Lib.below_freeze (Below.drew (Below.refl b w)) (p := ⟨g, 0, none⟩) hbg _, (Lib.OthersKept.refl _ _ _).freeze (w := w.drew) ⟨g, 0, none⟩ _ ⟨cur, _, HB.out.2⟩, ?_⟩
    · unfold World.freeze
      split
      · exact HB.out.1
      · simp only [Array.getElem?_modify]
        rw [if_neg hgb]
        exact HB.out.1
    · intro v9 hv9
      rw [HV.out] at hv9
      cases hv9
      have hsz := (Lib.below_freeze (Below.drew (Below.refl b w)) (p := ⟨g, 0, none⟩) hbg t.length).size
      refine ⟨hsz, fun k hk hkb hkv => ?_, fun u hu k hk => .inl ⟨u, hu, hk⟩⟩
      have hgk : g ≠ k := fun e => hkv _ (List.mem_singleton.2 rfl) (by simp [Value.ownBlock, e])
      unfold World.freeze
      split
      · rfl
      · simp only [Array.getElem?_modify]
        rw [if_neg hgk]
        rfl

set_option maxHeartbeats 2000000 in
set_option maxRecDepth 100000 in
theorem bString_none {T : TypeId} {b o : Nat} {cs : Array Value} {w : World} (h : BldAt T b o cs [] w) :
    Calls Try.prog 42 #[.pointer (some ⟨b, o, none⟩)] w fun e w' => e = .returned (.string (bs [])) ∧ Below b w w' := by
  obtain ⟨v, hv, hown, hn⟩ := h.buf
  have hn := hn rfl
  subst hn
  have c1 : w.drew.cell? ⟨b, o + 1, none⟩ = some (.slice none 0 0) := by
    have : w.drew.heap[b]? = some (.cells cs T (0, 0)) := h.blk
    rw [Lib.cell_of_heap this]; exact hv
  have hUS : ∀ W q, (Builtin.unsafeString_ #[92, 3] 9 #[.pointer q, .int .i64 0]).run Try.prog W = .ok (.string .empty) W := fun W q => Lib.run_unsafeString_none W _ _ _ q
  have hSD : (Builtin.unsafeSliceData_ #[59] 92 #[.slice none 0 0]).run Try.prog w.drew = .ok (.pointer none) w.drew := rfl
  clear h hv hown
  go_enter Try.func42, Try.ntmps42
  go_wp2
  go_region
  all_goals (go_wp2; go_ret; exact ⟨rfl, Below.drew (Below.refl b w)⟩)

theorem bString_any {T : TypeId} {b o : Nat} {cs : Array Value} {t : List UInt8} {w : World} (h : BldAt T b o cs t w) (hT : T ≠ 5) :
    Calls Try.prog 42 #[.pointer (some ⟨b, o, none⟩)] w fun e w' => e = .returned (.string (bs t)) ∧ Below b w w' := by
  by_cases h0 : t = []
  · subst h0; exact bString_none h
  · refine (bString_some h h0 hT).mono ?_
    rintro e w' ⟨rfl, _, hb, _, _⟩
    exact ⟨rfl, hb⟩

end Go.Proofs.Ytgoaihpaajchaaa
