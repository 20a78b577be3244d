/-
  parts.cursor: next, more, whole, take, read.
-/
import Derived.Test.YtgoaihpaajchaaaWalks5
import Derived.Test.YtgoaihpaajchaaaUMath
namespace Go.Proofs.Ytgoaihpaajchaaa
open Go.RowKit

/-- the cells of a cursor at place o. -/
structure CurIn (cs : Array Value) (o : Nat) (kind n : Nat) (text : List UInt8) (v : Value) (fin : Bool) : Prop where
  room : o + 4 < cs.size
  c0 : cs[o]? = some (.int .i64 kind)
  c1 : cs[o + 1]? = some (.int .i64 n)
  c2 : cs[o + 2]? = some (.string (bs text))
  c3 : cs[o + 3]? = some v
  c4 : cs[o + 4]? = some (.bool fin)

/-- two arrays that differ at the places of a cursor alone. -/
structure SameBut (o : Nat) (cs cs' : Array Value) : Prop where
  size : cs'.size = cs.size
  same : ∀ j, (j < o ∨ o + 4 < j) → cs'[j]? = cs[j]?
theorem SameBut.refl (o : Nat) (cs : Array Value) : SameBut o cs cs := ⟨rfl, fun _ _ => rfl⟩
theorem SameBut.trans {o : Nat} {a b c : Array Value} (h : SameBut o a b) (k : SameBut o b c) : SameBut o a c := ⟨k.size.trans h.size, fun j hj => (k.same j hj).trans (h.same j hj)⟩
theorem SameBut.set {o : Nat} {a b : Array Value} (h : SameBut o a b) (j : Nat) (hj : o ≤ j ∧ j ≤ o + 4) (x : Value) : SameBut o a (b.setIfInBounds j x) :=
  ⟨by simp [h.size], fun k hk => by rw [Array.getElem?_setIfInBounds_ne (by omega)]; exact h.same k hk⟩
theorem SameBut.cur {o o' : Nat} {a b : Array Value} (h : SameBut o a b) (hd : o' + 4 < o ∨ o + 4 < o') {k n : Nat} {t : List UInt8} {v : Value} {f : Bool} (hc : CurIn a o' k n t v f) : CurIn b o' k n t v f :=
  ⟨by rw [h.size]; exact hc.room, (h.same _ (by omega)).trans hc.c0, (h.same _ (by omega)).trans hc.c1, (h.same _ (by omega)).trans hc.c2, (h.same _ (by omega)).trans hc.c3, (h.same _ (by omega)).trans hc.c4⟩

theorem keepX_set {b : Nat} {w w1 : World} (h : KeepX (fun g => g = b) w w1) (o : Nat) (x : Value) : KeepX (fun g => g = b) w (w1.setCell ⟨b, o, none⟩ x) := fun g hg hn => (Below.heap_setCell _ _ _ _ hn).trans (h g hg hn)
theorem keepX_refl (S : Nat → Prop) (w : World) : KeepX S w w := fun _ _ _ => rfl
theorem keepX_below {S : Nat → Prop} {w w1 w2 : World} {B : Nat} (h : KeepX S w w1) (hb : Below B w1 w2) (hB : w.heap.size ≤ B) : KeepX S w w2 := fun g hg hn => (hb.block g (by omega)).trans (h g hg hn)
theorem keepX_trans {S : Nat → Prop} {w w1 w2 : World} (h : KeepX S w w1) (k : KeepX S w1 w2) (hs : w.heap.size ≤ w1.heap.size) : KeepX S w w2 := fun g hg hn => (k g (by omega) hn).trans (h g hg hn)

theorem bs_nil : bs [] = { data := #[] } := rfl

set_option maxHeartbeats 1000000 in
theorem next_nil0 (T : TypeId) (b o : Nat) (cs : Array Value) (w : World) (kind n : Nat) (text : List UInt8) (ao : Option Addr) (cap : Nat) (fin : Bool) (hb : w.heap[b]? = some (.cells cs T (0, 0))) (hc : CurIn cs o kind n text (.slice ao 0 cap) fin) :
    Calls Try.prog 49 #[.pointer (some ⟨b, o, none⟩)] w fun e w' => e = .returned (.tuple #[]) ∧ (∃ cs', w'.heap[b]? = some (.cells cs' T (0, 0)) ∧ CurIn cs' o 1 9223372036854775807 [] (.slice ao 0 cap) true ∧ SameBut o cs cs') ∧ Below b w w' ∧ KeepX (fun g => g = b) w w' := by
  have HB : Hid (w.heap[b]? = some (.cells cs T (0, 0)) ∧ CurIn cs o kind n text (.slice ao 0 cap) fin) := ⟨hb, hc⟩
  have c0 : w.cell? ⟨b, o, none⟩ = some (.int .i64 kind) := by rw [Lib.cell_of_heap hb]; exact hc.c0
  have c1 : w.cell? ⟨b, o + 1, none⟩ = some (.int .i64 n) := by rw [Lib.cell_of_heap hb]; exact hc.c1
  have c2 : w.cell? ⟨b, o + 2, none⟩ = some (.string (bs text)) := by rw [Lib.cell_of_heap hb]; exact hc.c2
  have c3 : w.cell? ⟨b, o + 3, none⟩ = some (.slice ao 0 cap) := by rw [Lib.cell_of_heap hb]; exact hc.c3
  have c4 : w.cell? ⟨b, o + 4, none⟩ = some (.bool fin) := by rw [Lib.cell_of_heap hb]; exact hc.c4
  have f0 : ∀ j, w.frozen? ⟨b, j, none⟩ = false := fun j => Lib.frozen_of_heap hb _
  clear hb hc
  go_enter Try.func49, Try.ntmps49
  go_wp2
  refine bodyPost_ret (results_none rfl _ _ _) rfl ⟨rfl, ⟨_, block_set (block_set (block_set (block_set HB.out.1 _ _) _ _) _ _) _ _, ?_, ?_⟩, ?_, keepX_set (keepX_set (keepX_set (keepX_set (keepX_refl _ _) _ _) _ _) _ _) _ _⟩
  · have hr := HB.out.2.room
    have h3 := HB.out.2.c3
    refine ⟨by simp; omega, ?_, ?_, ?_, ?_, ?_⟩
    · rw [Array.getElem?_setIfInBounds_ne (by omega), Array.getElem?_setIfInBounds_ne (by omega), Array.getElem?_setIfInBounds_ne (by omega), Array.getElem?_setIfInBounds_self_of_lt (by omega)]; rfl
    · rw [Array.getElem?_setIfInBounds_ne (by omega), Array.getElem?_setIfInBounds_ne (by omega), Array.getElem?_setIfInBounds_self_of_lt (by simp; omega)]; rfl
    · rw [Array.getElem?_setIfInBounds_ne (by omega), Array.getElem?_setIfInBounds_self_of_lt (by simp; omega)]; rfl
    · rw [Array.getElem?_setIfInBounds_ne (by omega), Array.getElem?_setIfInBounds_ne (by omega), Array.getElem?_setIfInBounds_ne (by omega), Array.getElem?_setIfInBounds_ne (by omega)]; exact h3
    · rw [Array.getElem?_setIfInBounds_self_of_lt (by simp; omega)]
  · exact ((((SameBut.refl o cs).set _ (by omega) _).set _ (by omega) _).set _ (by omega) _).set _ (by omega) _
  · exact ((((Below.refl b w).setCell (p := ⟨b, _, none⟩) (Nat.le_refl _) _).setCell (p := ⟨b, _, none⟩) (Nat.le_refl _) _).setCell (p := ⟨b, _, none⟩) (Nat.le_refl _) _).setCell (p := ⟨b, _, none⟩) (Nat.le_refl _) _

/-- a world that was, but for the blocks of X. -/
structure Vw where
  w : World
  X : Nat → Prop
def Vw.plain (w : World) : Vw := ⟨w, fun _ => False⟩
structure Vw.Sees (V : Vw) (w : World) : Prop where
  size : V.w.heap.size ≤ w.heap.size
  same : ∀ k, k < V.w.heap.size → ¬ V.X k → w.heap[k]? = V.w.heap[k]?
theorem Vw.of {w wr : World} (h : Below w.heap.size w wr) : (Vw.plain w).Sees wr := ⟨h.size, fun k hk _ => h.block k hk⟩
theorem Vw.Sees.alloc {V : Vw} {w : World} (h : V.Sees w) (_ : V.w.heap.size ≤ w.heap.size) (o : Obj) : V.Sees (w.alloc o) :=
  ⟨by have := h.size; simp; omega, fun k hk hx => (Lib.alloc_old w o k (Nat.lt_of_lt_of_le hk h.size)).trans (h.same k hk hx)⟩
theorem Vw.Sees.drew {V : Vw} {w : World} (h : V.Sees w) : V.Sees w.drew := ⟨h.size, h.same⟩
theorem Vw.Sees.trans {V : Vw} {w w' : World} (h : V.Sees w) (k : Below V.w.heap.size w w') : V.Sees w' := ⟨Nat.le_trans h.size k.size, fun i hi hx => (k.block i hi).trans (h.same i hi hx)⟩
theorem Vw.Sees.cell {V : Vw} {w : World} (h : V.Sees w) {p : Addr} (hp : p.block < V.w.heap.size ∧ ¬ V.X p.block) : w.cell? p = V.w.cell? p := World.cell?_of_block (h.same _ hp.1 hp.2)

def PartsV (V : Vw) (v : Value) (L : List Pt) : Prop :=
  ∃ ao cap, v = .slice ao L.length cap ∧ (0 < L.length → ∃ b off, ao = some ⟨b, off, none⟩ ∧ (b < V.w.heap.size ∧ ¬ V.X b) ∧ ∀ k (h : k < L.length), PtAt V.w b (off + k * 3) L[k])
theorem PartsAt.plain {w : World} {v : Value} {L : List Pt} (h : PartsAt w v L) : PartsV (Vw.plain w) v L := by
  obtain ⟨ao, cap, rfl, hc⟩ := h
  refine ⟨ao, cap, rfl, fun hl => ?_⟩
  obtain ⟨b, off, e, hlt, hp⟩ := hc hl
  exact ⟨b, off, e, ⟨hlt, fun h => h⟩, hp⟩

def CapOk : Value → Prop
  | .slice _ n c => n ≤ c
  | _ => True

theorem next_close {T : TypeId} {b o : Nat} {cs : Array Value} {w : World} {kind n : Nat} {text : List UInt8} {v : Value} {fin : Bool} (hb : w.heap[b]? = some (.cells cs T (0, 0))) (hc : CurIn cs o kind n text v fin) (k' n' : Nat) (t' : List UInt8) (v' : Value) :
    ((((w.setCell ⟨b, o + 3, none⟩ v').setCell ⟨b, o, none⟩ (.int .i64 k')).setCell ⟨b, o + 1, none⟩ (.int .i64 n')).setCell ⟨b, o + 2, none⟩ (.string (bs t'))).heap[b]? = some (.cells ((((cs.setIfInBounds (o + 3) v').setIfInBounds o (.int .i64 k')).setIfInBounds (o + 1) (.int .i64 n')).setIfInBounds (o + 2) (.string (bs t'))) T (0, 0)) ∧
    CurIn ((((cs.setIfInBounds (o + 3) v').setIfInBounds o (.int .i64 k')).setIfInBounds (o + 1) (.int .i64 n')).setIfInBounds (o + 2) (.string (bs t'))) o k' n' t' v' fin ∧
    SameBut o cs ((((cs.setIfInBounds (o + 3) v').setIfInBounds o (.int .i64 k')).setIfInBounds (o + 1) (.int .i64 n')).setIfInBounds (o + 2) (.string (bs t'))) ∧
    Below b w ((((w.setCell ⟨b, o + 3, none⟩ v').setCell ⟨b, o, none⟩ (.int .i64 k')).setCell ⟨b, o + 1, none⟩ (.int .i64 n')).setCell ⟨b, o + 2, none⟩ (.string (bs t'))) ∧
    KeepX (fun g => g = b) w ((((w.setCell ⟨b, o + 3, none⟩ v').setCell ⟨b, o, none⟩ (.int .i64 k')).setCell ⟨b, o + 1, none⟩ (.int .i64 n')).setCell ⟨b, o + 2, none⟩ (.string (bs t'))) := by
  have hr := hc.room
  have h4 := hc.c4
  refine ⟨block_set (block_set (block_set (block_set hb _ _) _ _) _ _) _ _, ⟨by simp; omega, ?_, ?_, ?_, ?_, ?_⟩, ?_, ?_, keepX_set (keepX_set (keepX_set (keepX_set (keepX_refl _ _) _ _) _ _) _ _) _ _⟩
  · rw [Array.getElem?_setIfInBounds_ne (by omega), Array.getElem?_setIfInBounds_ne (by omega), Array.getElem?_setIfInBounds_self_of_lt (by simp; omega)]
  · rw [Array.getElem?_setIfInBounds_ne (by omega), Array.getElem?_setIfInBounds_self_of_lt (by simp; omega)]
  · rw [Array.getElem?_setIfInBounds_self_of_lt (by simp; omega)]
  · rw [Array.getElem?_setIfInBounds_ne (by omega), Array.getElem?_setIfInBounds_ne (by omega), Array.getElem?_setIfInBounds_ne (by omega), Array.getElem?_setIfInBounds_self_of_lt (by omega)]
  · rw [Array.getElem?_setIfInBounds_ne (by omega), Array.getElem?_setIfInBounds_ne (by omega), Array.getElem?_setIfInBounds_ne (by omega), Array.getElem?_setIfInBounds_ne (by omega)]; exact h4
  · exact ((((SameBut.refl o cs).set _ (by omega) _).set _ (by omega) _).set _ (by omega) _).set _ (by omega) _
  · exact ((((Below.refl b w).setCell (p := ⟨b, _, none⟩) (Nat.le_refl _) _).setCell (p := ⟨b, _, none⟩) (Nat.le_refl _) _).setCell (p := ⟨b, _, none⟩) (Nat.le_refl _) _).setCell (p := ⟨b, _, none⟩) (Nat.le_refl _) _

/-- what next leaves: the cursor at the next part. -/
def NextTo (T : TypeId) (b o : Nat) (cs : Array Value) (V : Vw) (kind n : Nat) (text : List UInt8) (R : List Pt) (fin : Bool) (w' : World) : Prop :=
  ∃ cs' v', w'.heap[b]? = some (.cells cs' T (0, 0)) ∧ CurIn cs' o kind n text v' fin ∧ (PartsV V v' R ∧ CapOk v') ∧ SameBut o cs cs'

theorem parts_tail {V : Vw} {b off cap : Nat} {p : Pt} {R : List Pt} (hbl : b < V.w.heap.size ∧ ¬ V.X b) (h : ∀ k (h : k < (p :: R).length), PtAt V.w b (off + k * 3) (p :: R)[k]) : PartsV V (.slice (some ⟨b, off + 3, none⟩) R.length cap) R := by
  refine ⟨_, _, rfl, fun _ => ⟨b, off + 3, rfl, hbl, fun k hk => ?_⟩⟩
  have := h (k + 1) (by simp; omega)
  simp only [List.getElem_cons_succ] at this
  rw [show off + 3 + k * 3 = off + (k + 1) * 3 by omega]
  exact this

theorem next_nil (T : TypeId) (b o : Nat) (cs : Array Value) (V : Vw) (w : World) (kind n : Nat) (text : List UInt8) (v : Value) (fin : Bool) (hb : w.heap[b]? = some (.cells cs T (0, 0))) (hc : CurIn cs o kind n text v fin) (hp : PartsV V v []) (hcap : CapOk v) :
    Calls Try.prog 49 #[.pointer (some ⟨b, o, none⟩)] w fun e w' => e = .returned (.tuple #[]) ∧ NextTo T b o cs V 1 9223372036854775807 [] [] true w' ∧ Below b w w' ∧ KeepX (fun g => g = b) w w' := by
  have hp' := hp
  obtain ⟨ao, cap, rfl, _⟩ := hp
  refine (next_nil0 T b o cs w kind n text ao cap fin hb hc).mono ?_
  rintro e w' ⟨rfl, ⟨cs', h1, h2, h3⟩, h4, h5⟩
  exact ⟨rfl, ⟨cs', _, h1, h2, ⟨hp', hcap⟩, h3⟩, h4, h5⟩

set_option maxHeartbeats 1000000 in
theorem next_cons (T : TypeId) (b o : Nat) (cs : Array Value) (V : Vw) (w : World) (kind n : Nat) (text : List UInt8) (v : Value) (fin : Bool) (p : Pt) (R : List Pt) (hb : w.heap[b]? = some (.cells cs T (0, 0))) (hc : CurIn cs o kind n text v fin)
    (hp : PartsV V v (p :: R)) (hcap : CapOk v) (hB : V.Sees w) (hbb : V.w.heap.size ≤ b) (hk : p.kind ≠ 2) (hR : R.length ≤ 1000) :
    Calls Try.prog 49 #[.pointer (some ⟨b, o, none⟩)] w fun e w' => e = .returned (.tuple #[]) ∧ NextTo T b o cs V p.kind p.num p.text R fin w' ∧ Below b w w' ∧ KeepX (fun g => g = b) w w' := by
  obtain ⟨ao, cap, rfl, hcc⟩ := hp
  obtain ⟨b', off, rfl, hbl, hat⟩ := hcc (by simp)
  have HAT : Hid (∀ k (h : k < (p :: R).length), PtAt V.w b' (off + k * 3) (p :: R)[k]) := hat
  have hcap2 : R.length + 1 ≤ cap := hcap
  obtain ⟨d0, d1, d2⟩ := hat 0 (by simp)
  have HB : Hid (w.heap[b]? = some (.cells cs T (0, 0)) ∧ CurIn cs o kind n text (.slice (some ⟨b', off, none⟩) (p :: R).length cap) fin) := ⟨hb, hc⟩
  have c0 : w.cell? ⟨b, o, none⟩ = some (.int .i64 kind) := by rw [Lib.cell_of_heap hb]; exact hc.c0
  have c1 : w.cell? ⟨b, o + 1, none⟩ = some (.int .i64 n) := by rw [Lib.cell_of_heap hb]; exact hc.c1
  have c2 : w.cell? ⟨b, o + 2, none⟩ = some (.string (bs text)) := by rw [Lib.cell_of_heap hb]; exact hc.c2
  have c3 : w.cell? ⟨b, o + 3, none⟩ = some (.slice (some ⟨b', off, none⟩) (p :: R).length cap) := by rw [Lib.cell_of_heap hb]; exact hc.c3
  have f0 : ∀ j, w.frozen? ⟨b, j, none⟩ = false := fun j => Lib.frozen_of_heap hb _
  rw [← hB.cell (p := ⟨b', _, none⟩) hbl] at d0 d1 d2
  simp only [Nat.zero_mul, Nat.add_zero, List.getElem_cons_zero] at d0 d1 d2
  simp only [List.length_cons] at c3
  have hlt := lt_of_blk hb
  have hbne : b' ≠ b := by have := hbl.1; omega
  have HBL : Hid (b' < V.w.heap.size ∧ ¬ V.X b') := hbl
  clear hb hc hat hcc hcap hbl
  have hk2 : ((p.kind : Int) == 2) = false := beq_eq_false_iff_ne.2 (by omega)
  go_enter Try.func49, Try.ntmps49
  go_wp2
  · have hR0 : R = [] := List.eq_nil_of_length_eq_zero (by omega)
    go_end0
    obtain ⟨q1, q2, q3, q4, q5⟩ := next_close HB.out.1 HB.out.2 p.kind p.num p.text (.slice (some ⟨b', off, none⟩) R.length 0)
    refine ⟨rfl, ⟨_, _, (Lib.alloc_old _ _ b (lt_of_blk q1)).trans q1, q2, ⟨⟨_, _, rfl, fun h => by rw [hR0] at h; simp at h⟩, by rw [hR0]; exact Nat.le_refl _⟩, q3⟩, q4.alloc (by have := q4.size; omega) _, keepX_below q5 ((Below.refl _ _).alloc (Nat.le_refl _) _) q4.size⟩
  · go_end0
    obtain ⟨q1, q2, q3, q4, q5⟩ := next_close HB.out.1 HB.out.2 p.kind p.num p.text (.slice (some ⟨b', off + 3, none⟩) R.length (cap - 1))
    refine ⟨rfl, ⟨_, _, (Lib.alloc_old _ _ b (lt_of_blk q1)).trans q1, q2, ⟨parts_tail HBL.out HAT.out, show R.length ≤ cap - 1 by omega⟩, q3⟩, q4.alloc (by have := q4.size; omega) _, keepX_below q5 ((Below.refl _ _).alloc (Nat.le_refl _) _) q4.size⟩

theorem CurIn.setN {cs : Array Value} {o kind n : Nat} {text : List UInt8} {v : Value} {fin : Bool} (h : CurIn cs o kind n text v fin) (m : Nat) : CurIn (cs.setIfInBounds (o + 1) (.int .i64 m)) o kind m text v fin := by
  have hr := h.room
  refine ⟨by simp; omega, ?_, ?_, ?_, ?_, ?_⟩
  · rw [Array.getElem?_setIfInBounds_ne (by omega)]; exact h.c0
  · rw [Array.getElem?_setIfInBounds_self_of_lt (by omega)]
  · rw [Array.getElem?_setIfInBounds_ne (by omega)]; exact h.c2
  · rw [Array.getElem?_setIfInBounds_ne (by omega)]; exact h.c3
  · rw [Array.getElem?_setIfInBounds_ne (by omega)]; exact h.c4

set_option maxHeartbeats 1000000 in
theorem next_ins (T : TypeId) (b o : Nat) (cs : Array Value) (V : Vw) (w : World) (kind n : Nat) (text : List UInt8) (v : Value) (fin : Bool) (p : Pt) (R : List Pt) (ch : List (List UInt8)) (hb : w.heap[b]? = some (.cells cs T (0, 0))) (hc : CurIn cs o kind n text v fin)
    (hp : PartsV V v (p :: R)) (hcap : CapOk v) (hB : V.Sees w) (hbb : V.w.heap.size ≤ b) (hk : p.kind = 2) (hR : R.length ≤ 1000) (ht : p.text = ch.flatten) (hch : ∀ c ∈ ch, IsCh c) (hl : p.text.length ≤ 1000000000) :
    Calls Try.prog 49 #[.pointer (some ⟨b, o, none⟩)] w fun e w' => e = .returned (.tuple #[]) ∧ NextTo T b o cs V p.kind ch.length p.text R fin w' ∧ Below b w w' ∧ KeepX (fun g => g = b) w w' := by
  obtain ⟨ao, cap, rfl, hcc⟩ := hp
  obtain ⟨b', off, rfl, hbl, hat⟩ := hcc (by simp)
  have HAT : Hid (∀ k (h : k < (p :: R).length), PtAt V.w b' (off + k * 3) (p :: R)[k]) := hat
  have hcap2 : R.length + 1 ≤ cap := hcap
  obtain ⟨d0, d1, d2⟩ := hat 0 (by simp)
  have HB : Hid (w.heap[b]? = some (.cells cs T (0, 0)) ∧ CurIn cs o kind n text (.slice (some ⟨b', off, none⟩) (p :: R).length cap) fin) := ⟨hb, hc⟩
  have c0 : w.cell? ⟨b, o, none⟩ = some (.int .i64 kind) := by rw [Lib.cell_of_heap hb]; exact hc.c0
  have c1 : w.cell? ⟨b, o + 1, none⟩ = some (.int .i64 n) := by rw [Lib.cell_of_heap hb]; exact hc.c1
  have c2 : w.cell? ⟨b, o + 2, none⟩ = some (.string (bs text)) := by rw [Lib.cell_of_heap hb]; exact hc.c2
  have c3 : w.cell? ⟨b, o + 3, none⟩ = some (.slice (some ⟨b', off, none⟩) (p :: R).length cap) := by rw [Lib.cell_of_heap hb]; exact hc.c3
  have f0 : ∀ j, w.frozen? ⟨b, j, none⟩ = false := fun j => Lib.frozen_of_heap hb _
  rw [← hB.cell (p := ⟨b', _, none⟩) hbl] at d0 d1 d2
  simp only [Nat.zero_mul, Nat.add_zero, List.getElem_cons_zero] at d0 d1 d2
  simp only [List.length_cons] at c3
  have hlt := lt_of_blk hb
  have hbne : b' ≠ b := by have := hbl.1; omega
  have hl2 : ch.length ≤ 1000000000 := by
    have h1 := leads_chars ch hch
    have h2 := leads_le ch.flatten
    rw [ht] at hl; omega
  have HC : Hid (p.text = ch.flatten ∧ ∀ c ∈ ch, IsCh c) := ⟨ht, hch⟩
  have HBL : Hid (b' < V.w.heap.size ∧ ¬ V.X b') := hbl
  clear hb hc hat hcc hcap ht hch hbl
  have hk2 : ((p.kind : Int) == 2) = true := beq_iff_eq.2 (by omega)
  have HK : Hid (p.kind = 2) := hk
  clear hk
  go_enter Try.func49, Try.ntmps49
  go_wp2_with fail
  · have hR0 : R = [] := List.eq_nil_of_length_eq_zero (by omega)
    have HR0 : Hid (R = []) := hR0
    clear hR0
    refine (count_ok (bs p.text) ch _ (by rw [bs_size]; omega) (by rw [bs_data]; exact HC.out.1) HC.out.2 (by omega)).mono ?_
    rintro e w1 ⟨rfl, hb1⟩
    obtain ⟨q1, q2, q3, q4, q5⟩ := next_close HB.out.1 HB.out.2 p.kind p.num p.text (.slice (some ⟨b', off, none⟩) R.length 0)
    have q6 := (hb1.block b (by have := q4.size; simp; omega)).trans ((Lib.alloc_old _ _ b (lt_of_blk q1)).trans q1)
    have q7 := (q4.alloc (by have := q4.size; omega) _).trans (hb1.mono (by have := q4.size; simp at this ⊢; omega))
    have q8 := keepX_below (keepX_below q5 ((Below.refl _ _).alloc (Nat.le_refl _) _) q4.size) hb1 (by have := q4.size; simp at this ⊢)
    have HQ : Hid (_ ∧ _ ∧ _ ∧ _ ∧ _) := ⟨q6, q2, q3, q7, q8⟩
    have g1 : w1.frozen? ⟨b, o + 1, none⟩ = false := Lib.frozen_of_heap q6 _
    have g2 : w1.cell? ⟨b, o + 1, none⟩ = some (.int .i64 p.num) := by rw [Lib.cell_of_heap q6]; exact q2.c1
    clear q1 q2 q3 q4 q5 q6 q7 q8 hb1
    go_wp2
    go_end0
    obtain ⟨q6, q2, q3, q7, q8⟩ := HQ.out
    refine ⟨rfl, ⟨_, _, block_set q6 _ _, q2.setN _, ⟨⟨_, _, rfl, fun h => by rw [HR0.out] at h; simp at h⟩, by rw [HR0.out]; exact Nat.le_refl _⟩, q3.set _ (by omega) _⟩, q7.setCell (p := ⟨b, _, none⟩) (Nat.le_refl _) _, keepX_set q8 _ _⟩
  · refine (count_ok (bs p.text) ch _ (by rw [bs_size]; omega) (by rw [bs_data]; exact HC.out.1) HC.out.2 (by omega)).mono ?_
    rintro e w1 ⟨rfl, hb1⟩
    obtain ⟨q1, q2, q3, q4, q5⟩ := next_close HB.out.1 HB.out.2 p.kind p.num p.text (.slice (some ⟨b', off + 3, none⟩) R.length (cap - 1))
    have q6 := (hb1.block b (by have := q4.size; simp; omega)).trans ((Lib.alloc_old _ _ b (lt_of_blk q1)).trans q1)
    have q7 := (q4.alloc (by have := q4.size; omega) _).trans (hb1.mono (by have := q4.size; simp at this ⊢; omega))
    have q8 := keepX_below (keepX_below q5 ((Below.refl _ _).alloc (Nat.le_refl _) _) q4.size) hb1 (by have := q4.size; simp at this ⊢)
    have HQ : Hid (_ ∧ _ ∧ _ ∧ _ ∧ _) := ⟨q6, q2, q3, q7, q8⟩
    have g1 : w1.frozen? ⟨b, o + 1, none⟩ = false := Lib.frozen_of_heap q6 _
    have g2 : w1.cell? ⟨b, o + 1, none⟩ = some (.int .i64 p.num) := by rw [Lib.cell_of_heap q6]; exact q2.c1
    clear q1 q2 q3 q4 q5 q6 q7 q8 hb1
    go_wp2
    go_end0
    obtain ⟨q6, q2, q3, q7, q8⟩ := HQ.out
    refine ⟨rfl, ⟨_, _, block_set q6 _ _, q2.setN _, ⟨parts_tail HBL.out HAT.out, show R.length ≤ cap - 1 by omega⟩, q3.set _ (by omega) _⟩, q7.setCell (p := ⟨b, _, none⟩) (Nat.le_refl _) _, keepX_set q8 _ _⟩

end Go.Proofs.Ytgoaihpaajchaaa
