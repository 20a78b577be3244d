/-
  parts.cursor, over the units that are left to read: next, more, whole, take, read.
-/
import Derived.Test.YtgoaihpaajchaaaCur1
import Derived.Test.YtgoaihpaajchaaaUMath2
namespace Go.Proofs.Ytgoaihpaajchaaa
open Go.RowKit

/-- a piece, and its units. -/
def Pc (kind n : Nat) (text : List UInt8) (us : List Un) : Prop :=
  (kind = 1 ∧ text = [] ∧ us = List.replicate n .k) ∨ (kind = 3 ∧ text = [] ∧ us = List.replicate n .d) ∨ (kind = 2 ∧ ∃ ch : List (List UInt8), (∀ c ∈ ch, IsCh c) ∧ n = ch.length ∧ text = ch.flatten ∧ us = ch.map .i)

theorem Pc.len {kind n : Nat} {text : List UInt8} {us : List Un} (h : Pc kind n text us) : us.length = n ∧ text.length = bytesU us := by
  rcases h with ⟨_, rfl, rfl⟩ | ⟨_, rfl, rfl⟩ | ⟨_, ch, _, rfl, rfl, rfl⟩
  · exact ⟨by simp, by rw [(repk_nums n).2.2]; rfl⟩
  · exact ⟨by simp, by rw [(repd_nums n).2.2]; rfl⟩
  · exact ⟨by simp, by rw [(is_nums ch).2.2]⟩

/-- what a cursor with these cells has left to read: us, of m parts. Behind the end it stands at a Keep of E at least. -/
def Rd (E kind n : Nat) (text : List UInt8) (R : List Pt) (fin : Bool) (us : List Un) (m : Nat) : Prop :=
  (fin = true ∧ us = [] ∧ kind = 1 ∧ text = [] ∧ R = [] ∧ E ≤ n ∧ n ≤ 9223372036854775807 ∧ m = 0) ∨ (fin = false ∧ ∃ pu ru, 1 ≤ n ∧ Pc kind n text pu ∧ Reads R ru ∧ us = pu ++ ru ∧ m = R.length + 1)

def CurAt (cs : Array Value) (o : Nat) (V : Vw) (us : List Un) (m E : Nat) : Prop :=
  ∃ kind n text v fin R, CurIn cs o kind n text v fin ∧ PartsV V v R ∧ CapOk v ∧ R.length ≤ 1000 ∧ bytesU us ≤ 1000000000 ∧ us.length ≤ 1000000000 ∧ Rd E kind n text R fin us m

def AtParts (T : TypeId) (b o : Nat) (cs : Array Value) (V : Vw) (us : List Un) (m E : Nat) (w' : World) : Prop :=
  ∃ cs', w'.heap[b]? = some (.cells cs' T (0, 0)) ∧ CurAt cs' o V us m E ∧ SameBut o cs cs'

def topE : Nat := 9223372036854775807

theorem next_any (T : TypeId) (b o : Nat) (cs : Array Value) (V : Vw) (w : World) (kind n : Nat) (text : List UInt8) (v : Value) (R : List Pt) (ru : List Un) (hb : w.heap[b]? = some (.cells cs T (0, 0))) (hc : CurIn cs o kind n text v false)
    (hp : PartsV V v R) (hcap : CapOk v) (hB : V.Sees w) (hbb : V.w.heap.size ≤ b) (hr : Reads R ru) (hR : R.length ≤ 1000) (hby : bytesU ru ≤ 1000000000) (hlen : ru.length ≤ 1000000000) :
    Calls Try.prog 49 #[.pointer (some ⟨b, o, none⟩)] w fun e w' => e = .returned (.tuple #[]) ∧ AtParts T b o cs V ru R.length topE w' ∧ Below b w w' ∧ KeepX (fun g => g = b) w w' := by
  cases hr with
  | nil =>
    refine (next_nil T b o cs V w kind n text v false hb hc hp hcap).mono ?_
    rintro e w' ⟨rfl, ⟨cs', v', h1, h2, ⟨h3, h4⟩, h5⟩, h6, h7⟩
    exact ⟨rfl, ⟨cs', h1, ⟨_, _, _, v', true, [], h2, h3, h4, by simp, hby, hlen, .inl ⟨rfl, rfl, rfl, rfl, rfl, Nat.le_refl _, Nat.le_refl _, rfl⟩⟩, h5⟩, h6, h7⟩
  | @k L us m hm hr =>
    refine (next_cons T b o cs V w kind n text v false (K m) L hb hc hp hcap hB hbb (by simp [K]) (by simp at hR; omega)).mono ?_
    rintro e w' ⟨rfl, ⟨cs', v', h1, h2, ⟨h3, h4⟩, h5⟩, h6, h7⟩
    exact ⟨rfl, ⟨cs', h1, ⟨_, _, _, v', false, L, h2, h3, h4, by simp at hR; omega, hby, hlen, .inr ⟨rfl, _, us, hm, .inl ⟨rfl, rfl, rfl⟩, hr, rfl, rfl⟩⟩, h5⟩, h6, h7⟩
  | @d L us m hm hr =>
    refine (next_cons T b o cs V w kind n text v false (D m) L hb hc hp hcap hB hbb (by simp [D]) (by simp at hR; omega)).mono ?_
    rintro e w' ⟨rfl, ⟨cs', v', h1, h2, ⟨h3, h4⟩, h5⟩, h6, h7⟩
    exact ⟨rfl, ⟨cs', h1, ⟨_, _, _, v', false, L, h2, h3, h4, by simp at hR; omega, hby, hlen, .inr ⟨rfl, _, us, hm, .inr (.inl ⟨rfl, rfl, rfl⟩), hr, rfl, rfl⟩⟩, h5⟩, h6, h7⟩
  | @i L us ch hch hne hr =>
    have hl : ch.flatten.length ≤ 1000000000 := by rw [bytesU_append, (is_nums ch).2.2] at hby; omega
    refine (next_ins T b o cs V w kind n text v false (I ch.flatten) L ch hb hc hp hcap hB hbb rfl (by simp at hR; omega) rfl hch hl).mono ?_
    rintro e w' ⟨rfl, ⟨cs', v', h1, h2, ⟨h3, h4⟩, h5⟩, h6, h7⟩
    have hpos : 1 ≤ ch.length := List.length_pos_iff.2 hne
    exact ⟨rfl, ⟨cs', h1, ⟨_, _, _, v', false, L, h2, h3, h4, by simp at hR; omega, hby, hlen, .inr ⟨rfl, _, us, hpos, .inr (.inr ⟨rfl, ch, hch, rfl, rfl, rfl⟩), hr, rfl, rfl⟩⟩, h5⟩, h6, h7⟩

set_option maxHeartbeats 400000 in
theorem more_any (b o : Nat) (w : World) (fin : Bool) (h : w.cell? ⟨b, o + 4, none⟩ = some (.bool fin)) :
    Calls Try.prog 33 #[.pointer (some ⟨b, o, none⟩)] w fun e w' => e = .returned (.bool (!fin)) ∧ w' = w := by
  go_enter Try.func33, Try.ntmps33
  go_wp2
  go_ret
  exact ⟨rfl, rfl⟩

theorem AtParts.other {T : TypeId} {b o : Nat} {cs : Array Value} {V : Vw} {us : List Un} {m E : Nat} {w1 w2 : World} (h : AtParts T b o cs V us m E w1) (he : w2.heap[b]? = w1.heap[b]?) : AtParts T b o cs V us m E w2 := by
  obtain ⟨cs', h1, h2, h3⟩ := h
  exact ⟨cs', he.trans h1, h2, h3⟩
theorem keepX_new {S : Nat → Prop} {w w1 : World} {g : Nat} (h : KeepX S w w1) (hg : w.heap.size ≤ g) (o : Nat) (x : Value) : KeepX S w (w1.setCell ⟨g, o, none⟩ x) := fun k hk hn => (Below.heap_setCell _ _ _ _ (fun e : k = g => by omega)).trans (h k hk hn)

theorem heap_two (w : World) (x y : Obj) : ((w.alloc x).alloc y).heap[w.heap.size]? = some x ∧ ((w.alloc x).alloc y).heap[w.heap.size + 1]? = some y := by
  refine ⟨(Lib.alloc_old _ _ w.heap.size (by simp)).trans (heap_alloc_new w _), ?_⟩
  have h := heap_alloc_new (w.alloc x) y
  have e : (w.alloc x).heap.size = w.heap.size + 1 := by simp
  rw [e] at h; exact h

def pieceV (kind n : Nat) (text : List UInt8) : Value := .agg #[.int .i64 kind, .int .i64 n, .string (bs text)]

set_option maxHeartbeats 1000000 in
theorem whole_any (T : TypeId) (b o : Nat) (cs : Array Value) (V : Vw) (w : World) (kind n : Nat) (text : List UInt8) (v : Value) (R : List Pt) (ru : List Un) (hb : w.heap[b]? = some (.cells cs T (0, 0))) (hc : CurIn cs o kind n text v false)
    (hp : PartsV V v R) (hcap : CapOk v) (hB : V.Sees w) (hbb : V.w.heap.size ≤ b) (hr : Reads R ru) (hR : R.length ≤ 1000) (hby : bytesU ru ≤ 1000000000) (hlen : ru.length ≤ 1000000000) :
    Calls Try.prog 34 #[.pointer (some ⟨b, o, none⟩)] w fun e w' => e = .returned (pieceV kind n text) ∧ AtParts T b o cs V ru R.length topE w' ∧ Below b w w' ∧ KeepX (fun g => g = b) w w' := by
  have c0 : w.cell? ⟨b, o, none⟩ = some (.int .i64 kind) := by rw [Lib.cell_of_heap hb]; exact hc.c0
  have c1 : w.cell? ⟨b, o + 1, none⟩ = some (.int .i64 n) := by rw [Lib.cell_of_heap hb]; exact hc.c1
  have c2 : w.cell? ⟨b, o + 2, none⟩ = some (.string (bs text)) := by rw [Lib.cell_of_heap hb]; exact hc.c2
  have hlt := lt_of_blk hb
  have hb' : ∀ x, (w.alloc x).heap[b]? = some (.cells cs T (0, 0)) := fun x => (Lib.alloc_old w x b hlt).trans hb
  have hb2 : ∀ x y, ((w.alloc x).alloc y).heap[b]? = some (.cells cs T (0, 0)) := fun x y => (Lib.alloc_old (w.alloc x) y b (by simp; omega)).trans (hb' x)
  have HA : Hid (∀ x y, Calls Try.prog 49 #[.pointer (some ⟨b, o, none⟩)] ((w.alloc x).alloc y) fun e w' => e = .returned (.tuple #[]) ∧ AtParts T b o cs V ru R.length topE w' ∧ Below b ((w.alloc x).alloc y) w' ∧ KeepX (fun g => g = b) ((w.alloc x).alloc y) w') :=
    fun x y => next_any T b o cs V ((w.alloc x).alloc y) kind n text v R ru (hb2 x y) hc hp hcap ((hB.alloc hB.size _).alloc (by have := hB.size; simp; omega) _) hbb hr hR hby hlen
  clear hb hc hp hcap hB hr hb' hb2 hR hby hlen
  go_enter Try.func34, Try.ntmps34
  go_wp2_with fail
  refine (HA.out _ _).mono ?_
  rintro e w1 ⟨rfl, hA, hb1, hk1⟩
  have e1 := (hk1 w.heap.size (by simp; omega) (by omega)).trans (heap_two w _ _).1
  have e2 := (hk1 (w.heap.size + 1) (by simp) (by omega)).trans (heap_two w _ _).2
  have HH : Hid (AtParts T b o cs V ru R.length topE w1 ∧ Below b w w1 ∧ KeepX (fun g => g = b) w w1) := ⟨hA, (((Below.refl b w).alloc (by omega) _).alloc (by simp; omega) _).trans hb1, fun g hg hn => (hk1 g (by simp; omega) hn).trans ((Lib.alloc_old _ _ g (by simp; omega)).trans (Lib.alloc_old _ _ g hg))⟩
  clear hA hb1 hk1
  have d0 : w1.cell? ⟨w.heap.size + 1, 0, none⟩ = some (.int .i64 kind) := Lib.cell_of_heap e2 0
  have d1 : w1.cell? ⟨w.heap.size + 1, 1, none⟩ = some (.int .i64 n) := Lib.cell_of_heap e2 1
  have d2 : w1.cell? ⟨w.heap.size + 1, 2, none⟩ = some (.string (bs text)) := Lib.cell_of_heap e2 2
  have g0 : w1.cell? ⟨w.heap.size, 0, none⟩ = some (.int .i64 0) := Lib.cell_of_heap e1 0
  have g1 : w1.cell? ⟨w.heap.size, 1, none⟩ = some (.int .i64 0) := Lib.cell_of_heap e1 1
  have g2 : w1.cell? ⟨w.heap.size, 2, none⟩ = some (.string ⟨#[]⟩) := Lib.cell_of_heap e1 2
  have f0 : ∀ j, w1.frozen? ⟨w.heap.size, j, none⟩ = false := fun j => Lib.frozen_of_heap e1 _
  have hz1 := lt_of_blk e1
  clear e1 e2
  go_wp2
  refine bodyPost_ret (v := pieceV kind n text) (by simp [results, Try.results34, go_sem, pieceV, g0, g1, g2]) rfl ⟨rfl, ?_, ?_, ?_⟩
  · have hne : b ≠ w.heap.size := by omega
    exact HH.out.1.other ((Below.heap_setCell _ _ _ _ hne).trans ((Below.heap_setCell _ _ _ _ hne).trans (Below.heap_setCell _ _ _ _ hne)))
  · have hle : b ≤ w.heap.size := by omega
    exact ((HH.out.2.1.setCell (p := ⟨w.heap.size, _, none⟩) hle _).setCell (p := ⟨w.heap.size, _, none⟩) hle _).setCell (p := ⟨w.heap.size, _, none⟩) hle _
  · exact keepX_new (keepX_new (keepX_new HH.out.2.2 (Nat.le_refl _) _ _) (Nat.le_refl _) _ _) (Nat.le_refl _) _ _

/-- the units of n characters: behind the end they stay. -/
def padk (us : List Un) (n : Nat) : List Un := us.take n ++ List.replicate (n - us.length) .k

theorem Pc.cut {kind n : Nat} {text : List UInt8} {us : List Un} (h : Pc kind n text us) (m : Nat) (_hm : m ≤ n) :
    ∃ ch : List (List UInt8), (∀ c ∈ ch, IsCh c) ∧ text = ch.flatten ∧ Pc kind m (ch.take m).flatten (us.take m) ∧ Pc kind (n - m) (ch.drop m).flatten (us.drop m) := by
  rcases h with ⟨rfl, rfl, rfl⟩ | ⟨rfl, rfl, rfl⟩ | ⟨rfl, ch, hch, rfl, rfl, rfl⟩
  · exact ⟨[], by simp, rfl, .inl ⟨rfl, by simp, by rw [List.take_replicate, Nat.min_eq_left _hm]⟩, .inl ⟨rfl, by simp, by rw [List.drop_replicate]⟩⟩
  · exact ⟨[], by simp, rfl, .inr (.inl ⟨rfl, by simp, by rw [List.take_replicate, Nat.min_eq_left _hm]⟩), .inr (.inl ⟨rfl, by simp, by rw [List.drop_replicate]⟩)⟩
  · refine ⟨ch, hch, rfl, .inr (.inr ⟨rfl, ch.take m, fun c hc => hch c (List.mem_of_mem_take hc), by simp; omega, rfl, by rw [List.map_take]⟩), .inr (.inr ⟨rfl, ch.drop m, fun c hc => hch c (List.mem_of_mem_drop hc), by simp, rfl, by rw [List.map_drop]⟩)⟩

set_option maxHeartbeats 1000000 in
theorem take_whole (T : TypeId) (b o : Nat) (cs : Array Value) (V : Vw) (w : World) (kind n : Nat) (text : List UInt8) (v : Value) (R : List Pt) (ru : List Un) (hb : w.heap[b]? = some (.cells cs T (0, 0))) (hc : CurIn cs o kind n text v false)
    (hp : PartsV V v R) (hcap : CapOk v) (hB : V.Sees w) (hbb : V.w.heap.size ≤ b) (hr : Reads R ru) (hR : R.length ≤ 1000) (hby : bytesU ru ≤ 1000000000) (hlen : ru.length ≤ 1000000000) :
    Calls Try.prog 53 #[.pointer (some ⟨b, o, none⟩), .int .i64 n] w fun e w' => e = .returned (pieceV kind n text) ∧ AtParts T b o cs V ru R.length topE w' ∧ Below b w w' ∧ KeepX (fun g => g = b) w w' := by
  have c1 : w.cell? ⟨b, o + 1, none⟩ = some (.int .i64 n) := by rw [Lib.cell_of_heap hb]; exact hc.c1
  have hlt := lt_of_blk hb
  have hb' : ∀ x, (w.alloc x).heap[b]? = some (.cells cs T (0, 0)) := fun x => (Lib.alloc_old w x b hlt).trans hb
  have HA : Hid (∀ x, Calls Try.prog 34 #[.pointer (some ⟨b, o, none⟩)] (w.alloc x) fun e w' => e = .returned (pieceV kind n text) ∧ AtParts T b o cs V ru R.length topE w' ∧ Below b (w.alloc x) w' ∧ KeepX (fun g => g = b) (w.alloc x) w') :=
    fun x => whole_any T b o cs V (w.alloc x) kind n text v R ru (hb' x) hc hp hcap (hB.alloc hB.size _) hbb hr hR hby hlen
  clear hb hc hp hcap hB hr hb' hR hby hlen
  go_enter Try.func53, Try.ntmps53
  go_wp2_with fail
  refine (HA.out _).mono ?_
  rintro e w1 ⟨rfl, hA, hb1, hk1⟩
  have e1 := (hk1 w.heap.size (by simp) (by omega)).trans (heap_alloc_new w _)
  have HH : Hid (AtParts T b o cs V ru R.length topE w1 ∧ Below b w w1 ∧ KeepX (fun g => g = b) w w1) := ⟨hA, ((Below.refl b w).alloc (by omega) _).trans hb1, fun g hg hn => (hk1 g (by simp; omega) hn).trans (Lib.alloc_old _ _ g hg)⟩
  clear hA hb1 hk1
  have g0 : w1.cell? ⟨w.heap.size, 0, none⟩ = some (.int .i64 0) := Lib.cell_of_heap e1 0
  have g1 : w1.cell? ⟨w.heap.size, 1, none⟩ = some (.int .i64 0) := Lib.cell_of_heap e1 1
  have g2 : w1.cell? ⟨w.heap.size, 2, none⟩ = some (.string ⟨#[]⟩) := Lib.cell_of_heap e1 2
  have f0 : ∀ j, w1.frozen? ⟨w.heap.size, j, none⟩ = false := fun j => Lib.frozen_of_heap e1 _
  clear e1
  unfold pieceV
  go_wp2
  refine bodyPost_ret (v := pieceV kind n text) (by simp [results, Try.results53, go_sem, pieceV, g0, g1, g2]) rfl ⟨rfl, ?_, ?_, ?_⟩
  · have hne : b ≠ w.heap.size := by omega
    exact HH.out.1.other ((Below.heap_setCell _ _ _ _ hne).trans ((Below.heap_setCell _ _ _ _ hne).trans (Below.heap_setCell _ _ _ _ hne)))
  · have hle : b ≤ w.heap.size := by omega
    exact ((HH.out.2.1.setCell (p := ⟨w.heap.size, _, none⟩) hle _).setCell (p := ⟨w.heap.size, _, none⟩) hle _).setCell (p := ⟨w.heap.size, _, none⟩) hle _
  · exact keepX_new (keepX_new (keepX_new HH.out.2.2 (Nat.le_refl _) _ _) (Nat.le_refl _) _ _) (Nat.le_refl _) _ _

theorem CurIn.setT {cs : Array Value} {o kind n : Nat} {text : List UInt8} {v : Value} {fin : Bool} (h : CurIn cs o kind n text v fin) (t : List UInt8) : CurIn (cs.setIfInBounds (o + 2) (.string (bs t))) o kind n t v fin := by
  have hr := h.room
  refine ⟨by simp; omega, ?_, ?_, ?_, ?_, ?_⟩
  · rw [Array.getElem?_setIfInBounds_ne (by omega)]; exact h.c0
  · rw [Array.getElem?_setIfInBounds_ne (by omega)]; exact h.c1
  · rw [Array.getElem?_setIfInBounds_self_of_lt (by omega)]
  · rw [Array.getElem?_setIfInBounds_ne (by omega)]; exact h.c3
  · rw [Array.getElem?_setIfInBounds_ne (by omega)]; exact h.c4

def CutTo (T : TypeId) (b o : Nat) (cs : Array Value) (kind n : Nat) (text : List UInt8) (v : Value) (fin : Bool) (w' : World) : Prop :=
  ∃ cs', w'.heap[b]? = some (.cells cs' T (0, 0)) ∧ CurIn cs' o kind n text v fin ∧ SameBut o cs cs'

set_option maxHeartbeats 2000000 in
theorem take_cut (T : TypeId) (b o : Nat) (cs : Array Value) (w : World) (kind n m : Nat) (text : List UInt8) (v : Value) (fin : Bool) (ch : List (List UInt8)) (hb : w.heap[b]? = some (.cells cs T (0, 0))) (hc : CurIn cs o kind n text v fin)
    (ht : text = ch.flatten) (hch : ∀ c ∈ ch, IsCh c) (hl : text.length ≤ 1000000000) (hm : m < n) (hn : n ≤ 9223372036854775807) (hm2 : m ≤ 1000000000) :
    Calls Try.prog 53 #[.pointer (some ⟨b, o, none⟩), .int .i64 m] w fun e w' => e = .returned (pieceV kind m (ch.take m).flatten) ∧ CutTo T b o cs kind (n - m) (ch.drop m).flatten v fin w' ∧ Below b w w' ∧ KeepX (fun g => g = b) w w' := by
  have HB : Hid (w.heap[b]? = some (.cells cs T (0, 0)) ∧ CurIn cs o kind n text v fin) := ⟨hb, hc⟩
  have c0 : w.cell? ⟨b, o, none⟩ = some (.int .i64 kind) := by rw [Lib.cell_of_heap hb]; exact hc.c0
  have c1 : w.cell? ⟨b, o + 1, none⟩ = some (.int .i64 n) := by rw [Lib.cell_of_heap hb]; exact hc.c1
  have c2 : w.cell? ⟨b, o + 2, none⟩ = some (.string (bs text)) := by rw [Lib.cell_of_heap hb]; exact hc.c2
  have hlt := lt_of_blk hb
  have hl2 : ch.length ≤ 1000000000 := by
    have h1 := leads_chars ch hch
    have h2 := leads_le ch.flatten
    rw [ht] at hl; omega
  have HC : Hid (text = ch.flatten ∧ ∀ c ∈ ch, IsCh c) := ⟨ht, hch⟩
  have hge : ¬ ((n : Int) ≤ (m : Int)) := by omega
  clear hb hc ht hch
  go_enter Try.func53, Try.ntmps53
  go_wp2_with fail
  refine (cut_ok (bs text) ch (m : Int) _ (by rw [bs_size]; omega) (by rw [bs_data]; exact HC.out.1) HC.out.2 (by omega) (by omega) (by omega)).mono ?_
  rintro e w1 ⟨rfl, hb1⟩
  rw [Int.toNat_natCast]
  have e0 := (hb1.block b (by simp; omega)).trans ((Lib.alloc_old _ _ b (by simp; omega)).trans ((Lib.alloc_old _ _ b hlt).trans HB.out.1))
  have e1 := (hb1.block w.heap.size (by simp; omega)).trans (heap_two w _ _).1
  have e2 := (hb1.block (w.heap.size + 1) (by simp)).trans (heap_two w _ _).2
  have h0 : w1.cell? ⟨b, o, none⟩ = some (.int .i64 kind) := by rw [Lib.cell_of_heap e0]; exact HB.out.2.c0
  have h1 : w1.cell? ⟨b, o + 1, none⟩ = some (.int .i64 n) := by rw [Lib.cell_of_heap e0]; exact HB.out.2.c1
  have h2 : w1.cell? ⟨b, o + 2, none⟩ = some (.string (bs text)) := by rw [Lib.cell_of_heap e0]; exact HB.out.2.c2
  have d0 : w1.cell? ⟨w.heap.size + 1, 0, none⟩ = some (.int .i64 kind) := Lib.cell_of_heap e2 0
  have d1 : w1.cell? ⟨w.heap.size + 1, 1, none⟩ = some (.int .i64 m) := Lib.cell_of_heap e2 1
  have d2 : w1.cell? ⟨w.heap.size + 1, 2, none⟩ = some (.string ⟨#[]⟩) := Lib.cell_of_heap e2 2
  have g0 : w1.cell? ⟨w.heap.size, 0, none⟩ = some (.int .i64 0) := Lib.cell_of_heap e1 0
  have g1 : w1.cell? ⟨w.heap.size, 1, none⟩ = some (.int .i64 0) := Lib.cell_of_heap e1 1
  have g2 : w1.cell? ⟨w.heap.size, 2, none⟩ = some (.string ⟨#[]⟩) := Lib.cell_of_heap e1 2
  have f0 : ∀ j, w1.frozen? ⟨b, j, none⟩ = false := fun j => Lib.frozen_of_heap e0 _
  have f1 : ∀ j, w1.frozen? ⟨w.heap.size, j, none⟩ = false := fun j => Lib.frozen_of_heap e1 _
  have f2 : ∀ j, w1.frozen? ⟨w.heap.size + 1, j, none⟩ = false := fun j => Lib.frozen_of_heap e2 _
  have HH : Hid (w1.heap[b]? = some (.cells cs T (0, 0)) ∧ Below b w w1 ∧ KeepX (fun g => g = b) w w1) := ⟨e0, (((Below.refl b w).alloc (by omega) _).alloc (by simp; omega) _).trans (hb1.mono (by simp; omega)), fun g hg hn => (hb1.block g (by simp; omega)).trans ((Lib.alloc_old _ _ g (by simp; omega)).trans (Lib.alloc_old _ _ g hg))⟩
  clear e0 e1 e2 hb1 c0 c1 c2
  have hne : b ≠ w.heap.size := by omega
  have hne2 : b ≠ w.heap.size + 1 := by omega
  go_wp2
  rw [show ((n : Int) - (m : Int)) = ((n - m : Nat) : Int) by omega]
  refine bodyPost_ret (v := pieceV kind m (ch.take m).flatten) (by simp [results, Try.results53, go_sem, pieceV, g0, g1, g2]) rfl ⟨rfl, ?_, ?_, ?_⟩
  · refine ⟨(cs.setIfInBounds (o + 2) (.string (bs (ch.drop m).flatten))).setIfInBounds (o + 1) (.int .i64 (n - m : Nat)), ?_, (HB.out.2.setT _).setN _, ((SameBut.refl o cs).set _ (by omega) _).set _ (by omega) _⟩
    refine (Below.heap_setCell _ _ _ _ hne).trans ((Below.heap_setCell _ _ _ _ hne).trans ((Below.heap_setCell _ _ _ _ hne).trans ?_))
    exact block_set (block_set ((Below.heap_setCell _ _ _ _ hne2).trans HH.out.1) _ _) _ _
  · have hle : b ≤ w.heap.size := by omega
    have hle2 : b ≤ w.heap.size + 1 := by omega
    exact (((((HH.out.2.1.setCell (p := ⟨w.heap.size + 1, _, none⟩) hle2 _).setCell (p := ⟨b, _, none⟩) (Nat.le_refl _) _).setCell (p := ⟨b, _, none⟩) (Nat.le_refl _) _).setCell (p := ⟨w.heap.size, _, none⟩) hle _).setCell (p := ⟨w.heap.size, _, none⟩) hle _).setCell (p := ⟨w.heap.size, _, none⟩) hle _
  · exact keepX_new (keepX_new (keepX_new (keepX_set (keepX_set (keepX_new HH.out.2.2 (by omega) _ _) _ _) _ _) (Nat.le_refl _) _ _) (Nat.le_refl _) _ _) (Nat.le_refl _) _ _

/-- WHAT take READS. -/
theorem take_any (T : TypeId) (b o : Nat) (cs : Array Value) (V : Vw) (w : World) (kind n m : Nat) (text : List UInt8) (v : Value) (fin : Bool) (R : List Pt) (us : List Un) (q E : Nat) (hb : w.heap[b]? = some (.cells cs T (0, 0))) (hc : CurIn cs o kind n text v fin)
    (hp : PartsV V v R) (hcap : CapOk v) (hB : V.Sees w) (hbb : V.w.heap.size ≤ b) (hR : R.length ≤ 1000) (hby : bytesU us ≤ 1000000000) (hlen : us.length ≤ 1000000000) (hrd : Rd E kind n text R fin us q)
    (hm1 : 1 ≤ m) (hmn : m ≤ n) (hm2 : m ≤ 1000000000) (hE : 1000000000 < E) (hE2 : E ≤ topE) :
    Calls Try.prog 53 #[.pointer (some ⟨b, o, none⟩), .int .i64 m] w fun e w' => (∃ t, e = .returned (pieceV kind m t) ∧ Pc kind m t (padk us m)) ∧ (∃ q', AtParts T b o cs V (us.drop m) q' (E - m) w' ∧ q' ≤ q ∧ (m = n → q' + 1 = q)) ∧ Below b w w' ∧ KeepX (fun g => g = b) w w' := by
  rcases hrd with ⟨rfl, rfl, rfl, rfl, rfl, hEn, hn, rfl⟩ | ⟨rfl, pu, ru, hn1, hpc, hr, rfl, rfl⟩
  · refine (take_cut T b o cs w 1 n m [] v true [] hb hc rfl (by simp) (by simp) (by omega) hn hm2).mono ?_
    rintro e w' ⟨rfl, ⟨cs', h1, h2, h3⟩, h4, h5⟩
    refine ⟨⟨_, rfl, .inl ⟨rfl, by simp, by simp [padk]⟩⟩, ⟨0, ⟨cs', h1, ?_, h3⟩, Nat.le_refl _, fun h => by omega⟩, h4, h5⟩
    exact ⟨1, n - m, [], v, true, [], by simpa using h2, hp, hcap, hR, by simp [bytesU], by simp, .inl ⟨rfl, by simp, rfl, rfl, rfl, by omega, by omega, rfl⟩⟩
  · have hl := hpc.len
    rw [bytesU_append] at hby
    rw [List.length_append] at hlen
    by_cases hmm : m = n
    · subst hmm
      refine (take_whole T b o cs V w kind m text v R ru hb hc hp hcap hB hbb hr hR (by omega) (by omega)).mono ?_
      rintro e w' ⟨rfl, ⟨cs', h1, ⟨k2, n2, t2, v2, f2, R2, a1, a2, a3, a4, a5, a6, a7⟩, h3⟩, h4, h5⟩
      have e1 : padk (pu ++ ru) m = pu := by
        rw [padk, List.length_append, Nat.sub_eq_zero_of_le (by omega), List.replicate_zero, List.append_nil, List.take_append_of_le_length (by omega), List.take_of_length_le (by omega)]
      have e2 : (pu ++ ru).drop m = ru := by rw [← hl.1, List.drop_left]
      refine ⟨⟨_, rfl, by rw [e1]; exact hpc⟩, ⟨R.length, ⟨cs', h1, ?_, h3⟩, by omega, fun _ => rfl⟩, h4, h5⟩
      rw [e2]
      refine ⟨k2, n2, t2, v2, f2, R2, a1, a2, a3, a4, a5, a6, ?_⟩
      rcases a7 with ⟨x1, x2, x3, x4, x5, x6, x7, x8⟩ | x
      · exact .inl ⟨x1, x2, x3, x4, x5, by omega, x7, x8⟩
      · exact .inr x
    · obtain ⟨ch, hch, ht, p1, p2⟩ := hpc.cut m hmn
      refine (take_cut T b o cs w kind n m text v false ch hb hc ht hch (by omega) (by omega) (by omega) hm2).mono ?_
      rintro e w' ⟨rfl, ⟨cs', h1, h2, h3⟩, h4, h5⟩
      have e1 : padk (pu ++ ru) m = pu.take m := by
        rw [padk, List.length_append, Nat.sub_eq_zero_of_le (by omega), List.replicate_zero, List.append_nil, List.take_append_of_le_length (by omega)]
      have e2 : (pu ++ ru).drop m = pu.drop m ++ ru := by rw [List.drop_append_of_le_length (by omega)]
      have hd : bytesU (pu.drop m) ≤ bytesU pu := by
        conv => rhs; rw [← List.take_append_drop m pu, bytesU_append]
        omega
      refine ⟨⟨_, rfl, by rw [e1]; exact p1⟩, ⟨R.length + 1, ⟨cs', h1, ?_, h3⟩, by omega, fun h => absurd h hmm⟩, h4, h5⟩
      rw [e2]
      exact ⟨kind, n - m, _, v, false, R, h2, hp, hcap, hR, by rw [bytesU_append]; omega, by simp only [List.length_append, List.length_drop]; omega, .inr ⟨rfl, _, ru, by omega, p2, hr, rfl, rfl⟩⟩

end Go.Proofs.Ytgoaihpaajchaaa
