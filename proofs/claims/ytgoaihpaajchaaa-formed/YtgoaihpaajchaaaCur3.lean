/-
  parts.read, parts.readBoth, pair.either, pair.step.
-/
import Derived.Test.YtgoaihpaajchaaaCur2
import Derived.Deep.RegionHeld3
import Derived.Deep.AppendLies
import Derived.Deep.DrawnRows
import Derived.Deep.RegionLaw
import Derived.Deep.DeepCutAuto
namespace Go.Proofs.Ytgoaihpaajchaaa
open Go.RowKit

/-- a cursor's data, wherever it lies. -/
def CD (V : Vw) (us : List Un) (m E kind n : Nat) (text : List UInt8) (v : Value) (fin : Bool) : Prop :=
  ∃ R, PartsV V v R ∧ CapOk v ∧ R.length ≤ 1000 ∧ bytesU us ≤ 1000000000 ∧ us.length ≤ 1000000000 ∧ Rd E kind n text R fin us m
theorem CurAt.cd {cs : Array Value} {o : Nat} {V : Vw} {us : List Un} {m E : Nat} (h : CurAt cs o V us m E) : ∃ kind n text v fin, CurIn cs o kind n text v fin ∧ CD V us m E kind n text v fin := by
  obtain ⟨kind, n, text, v, fin, R, h1, h2⟩ := h
  exact ⟨kind, n, text, v, fin, h1, R, h2⟩
theorem CD.cur {cs : Array Value} {o : Nat} {V : Vw} {us : List Un} {m E kind n : Nat} {text : List UInt8} {v : Value} {fin : Bool} (h : CD V us m E kind n text v fin) (hc : CurIn cs o kind n text v fin) : CurAt cs o V us m E := by
  obtain ⟨R, h1⟩ := h
  exact ⟨kind, n, text, v, fin, R, hc, h1⟩
theorem CD.form {V : Vw} {us : List Un} {m E kind n : Nat} {text : List UInt8} {v : Value} {fin : Bool} (h : CD V us m E kind n text v fin) : ∃ ao k cap, v = .slice ao k cap := by
  obtain ⟨R, ⟨ao, cap, rfl, _⟩, _⟩ := h
  exact ⟨_, _, _, rfl⟩
def curV (kind n : Nat) (text : List UInt8) (v : Value) (fin : Bool) : Value := .agg #[.int .i64 kind, .int .i64 n, .string (bs text), v, .bool fin]

/-- what read gives. -/
def ReadV (V : Vw) (us : List Un) (m : Nat) (val : Value) : Prop := ∃ kind n text ao k cap fin, val = curV kind n text (.slice ao k cap) fin ∧ CD V us m topE kind n text (.slice ao k cap) fin

set_option maxHeartbeats 1000000 in
theorem read_any (v : Value) (L : List Pt) (us : List Un) (V : Vw) (w : World) (hp : PartsV V v L) (hB : V.Sees w) (hcap : CapOk v) (hr : Reads L us) (hR : L.length ≤ 1000) (hby : bytesU us ≤ 1000000000) (hlen : us.length ≤ 1000000000) :
    Calls Try.prog 32 #[v] w fun e w' => (∃ val, e = .returned val ∧ ReadV V us L.length val) ∧ Below w.heap.size w w' := by
  have HN : Hid (∀ x, Calls Try.prog 49 #[.pointer (some ⟨w.heap.size + 1, 0, none⟩)] ((w.alloc x).alloc (.cells #[.int .i64 0, .int .i64 0, .string ⟨#[]⟩, v, .bool false] 67)) fun e w' => e = .returned (.tuple #[]) ∧ AtParts 67 (w.heap.size + 1) 0 #[.int .i64 0, .int .i64 0, .string ⟨#[]⟩, v, .bool false] V us L.length topE w' ∧ Below (w.heap.size + 1) ((w.alloc x).alloc (.cells #[.int .i64 0, .int .i64 0, .string ⟨#[]⟩, v, .bool false] 67)) w' ∧ KeepX (fun g => g = w.heap.size + 1) ((w.alloc x).alloc (.cells #[.int .i64 0, .int .i64 0, .string ⟨#[]⟩, v, .bool false] 67)) w') := by
    intro x
    exact next_any 67 (w.heap.size + 1) 0 _ V _ 0 0 [] v L us (heap_two w _ _).2 ⟨by simp, rfl, rfl, rfl, rfl, rfl⟩ hp hcap ((hB.alloc hB.size _).alloc (by have := hB.size; simp; omega) _) (by have := hB.size; omega) hr hR hby hlen
  obtain ⟨ao, cap, rfl, hc⟩ := hp
  clear hc hr hcap hR hby hlen hB
  go_enter Try.func32, Try.ntmps32
  go_wp2_with fail
  refine (HN.out _).mono ?_
  rintro e w1 ⟨rfl, ⟨cs', h1, h2, h3⟩, hb1, hk1⟩
  obtain ⟨kind, n, text, v', fin, hcur, hcd⟩ := h2.cd
  obtain ⟨ao', k', cap', rfl⟩ := hcd.form
  have e1 := (hk1 w.heap.size (by simp; omega) (by omega)).trans (heap_two w _ _).1
  have d0 : w1.cell? ⟨w.heap.size + 1, 0, none⟩ = some (.int .i64 kind) := (Lib.cell_of_heap h1 0).trans hcur.c0
  have d1 : w1.cell? ⟨w.heap.size + 1, 1, none⟩ = some (.int .i64 n) := (Lib.cell_of_heap h1 1).trans hcur.c1
  have d2 : w1.cell? ⟨w.heap.size + 1, 2, none⟩ = some (.string (bs text)) := (Lib.cell_of_heap h1 2).trans hcur.c2
  have d3 : w1.cell? ⟨w.heap.size + 1, 3, none⟩ = some (.slice ao' k' cap') := (Lib.cell_of_heap h1 3).trans hcur.c3
  have d4 : w1.cell? ⟨w.heap.size + 1, 4, none⟩ = some (.bool fin) := (Lib.cell_of_heap h1 4).trans hcur.c4
  have g0 : w1.cell? ⟨w.heap.size, 0, none⟩ = some (.int .i64 0) := Lib.cell_of_heap e1 0
  have g1 : w1.cell? ⟨w.heap.size, 1, none⟩ = some (.int .i64 0) := Lib.cell_of_heap e1 1
  have g2 : w1.cell? ⟨w.heap.size, 2, none⟩ = some (.string ⟨#[]⟩) := Lib.cell_of_heap e1 2
  have g3 : w1.cell? ⟨w.heap.size, 3, none⟩ = some (.slice none 0 0) := Lib.cell_of_heap e1 3
  have g4 : w1.cell? ⟨w.heap.size, 4, none⟩ = some (.bool false) := Lib.cell_of_heap e1 4
  have f0 : ∀ j, w1.frozen? ⟨w.heap.size, j, none⟩ = false := fun j => Lib.frozen_of_heap e1 _
  have HH : Hid (CD V us L.length topE kind n text (.slice ao' k' cap') fin ∧ Below w.heap.size w w1) := ⟨hcd, (((Below.refl _ _).alloc (Nat.le_refl _) _).alloc (by simp) _).trans (hb1.mono (by omega))⟩
  clear e1 h1 h2 h3 hb1 hk1 hcur hcd
  go_wp2
  refine bodyPost_ret (v := curV kind n text (.slice ao' k' cap') fin) (by simp [results, Try.results32, go_sem, curV, g0, g1, g2, g3, g4]) rfl ⟨⟨_, rfl, _, _, _, _, _, _, _, rfl, HH.out.1⟩, ?_⟩
  exact ((((HH.out.2.setCell (p := ⟨w.heap.size, _, none⟩) (Nat.le_refl _) _).setCell (p := ⟨w.heap.size, _, none⟩) (Nat.le_refl _) _).setCell (p := ⟨w.heap.size, _, none⟩) (Nat.le_refl _) _).setCell (p := ⟨w.heap.size, _, none⟩) (Nat.le_refl _) _).setCell (p := ⟨w.heap.size, _, none⟩) (Nat.le_refl _) _

def pairV (k1 n1 : Nat) (t1 : List UInt8) (v1 : Value) (f1 : Bool) (k2 n2 : Nat) (t2 : List UInt8) (v2 : Value) (f2 : Bool) : Value :=
  .agg #[.int .i64 k1, .int .i64 n1, .string (bs t1), v1, .bool f1, .int .i64 k2, .int .i64 n2, .string (bs t2), v2, .bool f2]
def BothV (V : Vw) (ua : List Un) (ma : Nat) (ub : List Un) (mb : Nat) (val : Value) : Prop :=
  ∃ k1 n1 t1 ao1 l1 c1 f1 k2 n2 t2 ao2 l2 c2 f2, val = pairV k1 n1 t1 (.slice ao1 l1 c1) f1 k2 n2 t2 (.slice ao2 l2 c2) f2 ∧ CD V ua ma topE k1 n1 t1 (.slice ao1 l1 c1) f1 ∧ CD V ub mb topE k2 n2 t2 (.slice ao2 l2 c2) f2

set_option maxHeartbeats 1000000 in
theorem readBoth_any (v v' : Value) (A B : List Pt) (ua ub : List Un) (V : Vw) (w : World) (hB : V.Sees w) (hp : PartsV V v A) (hcap : CapOk v) (hr : Reads A ua) (hR : A.length ≤ 1000) (hby : bytesU ua ≤ 1000000000) (hlen : ua.length ≤ 1000000000)
    (hp' : PartsV V v' B) (hcap' : CapOk v') (hr' : Reads B ub) (hR' : B.length ≤ 1000) (hby' : bytesU ub ≤ 1000000000) (hlen' : ub.length ≤ 1000000000) :
    Calls Try.prog 43 #[v, v'] w fun e w' => (∃ val, e = .returned val ∧ BothV V ua A.length ub B.length val) ∧ Below w.heap.size w w' := by
  have H1 : Hid (∀ w1, V.Sees w1 → Calls Try.prog 32 #[v] w1 fun e w' => (∃ val, e = .returned val ∧ ReadV V ua A.length val) ∧ Below w1.heap.size w1 w') := fun w1 h1 => read_any v A ua V w1 hp h1 hcap hr hR hby hlen
  have H2 : Hid (∀ w1, V.Sees w1 → Calls Try.prog 32 #[v'] w1 fun e w' => (∃ val, e = .returned val ∧ ReadV V ub B.length val) ∧ Below w1.heap.size w1 w') := fun w1 h1 => read_any v' B ub V w1 hp' h1 hcap' hr' hR' hby' hlen'
  obtain ⟨ao, cap, rfl, _⟩ := hp
  obtain ⟨ao', cap', rfl, _⟩ := hp'
  have HB : Hid (V.Sees w) := hB
  clear hcap hr hR hby hlen hcap' hr' hR' hby' hlen' hB
  go_enter Try.func43, Try.ntmps43
  go_wp2_with fail
  refine (H1.out _ (HB.out.alloc HB.out.size _)).mono ?_
  rintro e w1 ⟨⟨val, rfl, k1, n1, t1, ao1, l1, p1, f1, rfl, hd1⟩, hb1⟩
  have hbx := hb1.trans (Below.refl _ _)
  have e1 := (hb1.block w.heap.size (by simp)).trans (heap_alloc_new w _)
  have HW1 : Hid (Below w.heap.size w w1 ∧ CD V ua A.length topE k1 n1 t1 (.slice ao1 l1 p1) f1) := ⟨((Below.refl _ _).alloc (Nat.le_refl _) _).trans (hb1.mono (by simp)), hd1⟩
  have HB1 : Hid (V.Sees w1) := HB.out.trans (HW1.out.1.mono HB.out.size)
  have hz1 := lt_of_blk e1
  clear hb1 hbx hd1
  unfold curV
  go_wp2_with fail
  refine (H2.out _ HB1.out).mono ?_
  rintro e w2 ⟨⟨val, rfl, k2, n2, t2, ao2, l2, p2, f2, rfl, hd2⟩, hb2⟩
  have e2 := (hb2.block w.heap.size hz1).trans e1
  have HW2 : Hid (Below w.heap.size w w2 ∧ CD V ub B.length topE k2 n2 t2 (.slice ao2 l2 p2) f2) := ⟨HW1.out.1.trans (hb2.mono HW1.out.1.size), hd2⟩
  have g0 : w2.cell? ⟨w.heap.size, 0, none⟩ = some (.int .i64 0) := Lib.cell_of_heap e2 0
  have g1 : w2.cell? ⟨w.heap.size, 1, none⟩ = some (.int .i64 0) := Lib.cell_of_heap e2 1
  have g2 : w2.cell? ⟨w.heap.size, 2, none⟩ = some (.string ⟨#[]⟩) := Lib.cell_of_heap e2 2
  have g3 : w2.cell? ⟨w.heap.size, 3, none⟩ = some (.slice none 0 0) := Lib.cell_of_heap e2 3
  have g4 : w2.cell? ⟨w.heap.size, 4, none⟩ = some (.bool false) := Lib.cell_of_heap e2 4
  have g5 : w2.cell? ⟨w.heap.size, 5, none⟩ = some (.int .i64 0) := Lib.cell_of_heap e2 5
  have g6 : w2.cell? ⟨w.heap.size, 6, none⟩ = some (.int .i64 0) := Lib.cell_of_heap e2 6
  have g7 : w2.cell? ⟨w.heap.size, 7, none⟩ = some (.string ⟨#[]⟩) := Lib.cell_of_heap e2 7
  have g8 : w2.cell? ⟨w.heap.size, 8, none⟩ = some (.slice none 0 0) := Lib.cell_of_heap e2 8
  have g9 : w2.cell? ⟨w.heap.size, 9, none⟩ = some (.bool false) := Lib.cell_of_heap e2 9
  have f0 : ∀ j, w2.frozen? ⟨w.heap.size, j, none⟩ = false := fun j => Lib.frozen_of_heap e2 _
  clear e1 e2 hb2 hd2
  unfold curV
  go_wp2
  refine bodyPost_ret (v := pairV k1 n1 t1 (.slice ao1 l1 p1) f1 k2 n2 t2 (.slice ao2 l2 p2) f2) (by simp [results, Try.results43, go_sem, pairV, g0, g1, g2, g3, g4, g5, g6, g7, g8, g9]) rfl ⟨⟨_, rfl, _, _, _, _, _, _, _, _, _, _, _, _, _, _, rfl, HW1.out.2, HW2.out.2⟩, ?_⟩
  exact (((((((((HW2.out.1.setCell (p := ⟨w.heap.size, _, none⟩) (Nat.le_refl _) _).setCell (p := ⟨w.heap.size, _, none⟩) (Nat.le_refl _) _).setCell (p := ⟨w.heap.size, _, none⟩) (Nat.le_refl _) _).setCell (p := ⟨w.heap.size, _, none⟩) (Nat.le_refl _) _).setCell (p := ⟨w.heap.size, _, none⟩) (Nat.le_refl _) _).setCell (p := ⟨w.heap.size, _, none⟩) (Nat.le_refl _) _).setCell (p := ⟨w.heap.size, _, none⟩) (Nat.le_refl _) _).setCell (p := ⟨w.heap.size, _, none⟩) (Nat.le_refl _) _).setCell (p := ⟨w.heap.size, _, none⟩) (Nat.le_refl _) _).setCell (p := ⟨w.heap.size, _, none⟩) (Nat.le_refl _) _

set_option maxHeartbeats 400000 in
theorem either_any (b : Nat) (w : World) (f1 f2 : Bool) (h1 : w.cell? ⟨b, 4, none⟩ = some (.bool f1)) (h2 : w.cell? ⟨b, 9, none⟩ = some (.bool f2)) :
    Calls Try.prog 44 #[.pointer (some ⟨b, 0, none⟩)] w fun e w' => e = .returned (.bool (!f1 || !f2)) ∧ w' = w := by
  have M1 : Hid (Calls Try.prog 33 #[.pointer (some ⟨b, 0, none⟩)] w fun e w' => e = .returned (.bool (!f1)) ∧ w' = w) := more_any b 0 w f1 h1
  have M2 : Hid (Calls Try.prog 33 #[.pointer (some ⟨b, 5, none⟩)] w fun e w' => e = .returned (.bool (!f2)) ∧ w' = w) := more_any b 5 w f2 h2
  clear h1 h2
  go_enter Try.func44, Try.ntmps44
  go_wp2_with fail
  refine M1.out.mono ?_
  rintro e w' ⟨rfl, rfl⟩
  cases f1 with
  | false =>
    go_wp2
    go_ret
    exact ⟨rfl, rfl⟩
  | true =>
    go_wp2_with fail
    refine M2.out.mono ?_
    rintro e w' ⟨rfl, rfl⟩
    go_wp2
    go_ret
    exact ⟨rfl, rfl⟩

theorem CurAt.mono {cs : Array Value} {o : Nat} {V : Vw} {us : List Un} {m E E' : Nat} (h : CurAt cs o V us m E) (hE : E' ≤ E) : CurAt cs o V us m E' := by
  obtain ⟨kind, n, text, v, fin, R, a1, a2, a3, a4, a5, a6, a7⟩ := h
  refine ⟨kind, n, text, v, fin, R, a1, a2, a3, a4, a5, a6, ?_⟩
  rcases a7 with ⟨x1, x2, x3, x4, x5, x6, x7, x8⟩ | x
  · exact .inl ⟨x1, x2, x3, x4, x5, by omega, x7, x8⟩
  · exact .inr x

/-- both cursors of a pair. -/
structure PairAt (cs : Array Value) (V : Vw) (ua : List Un) (ma : Nat) (ub : List Un) (mb : Nat) (E : Nat) : Prop where
  size : cs.size = 10
  one : CurAt cs 0 V ua ma E
  two : CurAt cs 5 V ub mb E

def StepTo (b : Nat) (V : Vw) (ua ub : List Un) (m ma mb E : Nat) (w' : World) : Prop :=
  ∃ cs' ma' mb', w'.heap[b]? = some (.cells cs' 83 (0, 0)) ∧ PairAt cs' V (ua.drop m) ma' (ub.drop m) mb' (E - m) ∧ ma' + mb' + 1 ≤ ma + mb

/-- what one take leaves. -/
def TakeTo (b o : Nat) (cs : Array Value) (V : Vw) (us : List Un) (m n q E : Nat) (w' : World) : Prop :=
  ∃ q', AtParts 83 b o cs V (us.drop m) q' (E - m) w' ∧ q' ≤ q ∧ (m = n → q' + 1 = q)

theorem after_take {b : Nat} {cs : Array Value} {V : Vw} {w wa wx : World} {ua : List Un} {m n1 ma E k1 : Nat} {x1 : List UInt8} {X Y : Obj} (_hb : w.heap[b]? = some (.cells cs 83 (0, 0))) (hB : V.Sees w) (hbb : V.w.heap.size ≤ b) (hlt : b < w.heap.size)
    (hT1 : TakeTo b 0 cs V ua m n1 ma E wa) (hb1 : Below b wx wa) (hk1 : KeepX (fun g => g = b) wx wa) (hp1 : Pc k1 m x1 (padk ua m)) (hwx : wx.heap = ((w.alloc X).alloc Y).heap := by rfl) (hwo : wx.os = w.os ∧ wx.tape = w.tape ∧ wx.output = w.output := by exact ⟨rfl, rfl, rfl⟩) :
    (∃ cs1, wa.heap[b]? = some (.cells cs1 83 (0, 0)) ∧ SameBut 0 cs cs1) ∧ TakeTo b 0 cs V ua m n1 ma E wa ∧ Below b w wa ∧ KeepX (fun g => g = b) w wa ∧ Pc k1 m x1 (padk ua m) ∧ V.Sees wa := by
  have hz : wx.heap.size = w.heap.size + 1 + 1 := by rw [hwx]; simp
  have hold : ∀ g, g < w.heap.size → wx.heap[g]? = w.heap[g]? := fun g hg => by rw [hwx]; exact (Lib.alloc_old _ _ g (by simp; omega)).trans (Lib.alloc_old _ _ g hg)
  have hbw : Below b w wa := ⟨hb1.os.trans hwo.1, hb1.tape.trans hwo.2.1, hb1.output.trans hwo.2.2, by have := hb1.size; omega, fun k hk => (hb1.block k hk).trans (hold k (by omega))⟩
  refine ⟨?_, hT1, hbw, fun g hg hn => (hk1 g (by omega) hn).trans (hold g hg), hp1, hB.trans (hbw.mono hbb)⟩
  obtain ⟨q', ⟨cs', h1, _, h3⟩, _⟩ := hT1
  exact ⟨cs', h1, h3⟩

theorem TakeTo.other {b o : Nat} {cs : Array Value} {V : Vw} {us : List Un} {m n q E : Nat} {w1 w2 : World} (h : TakeTo b o cs V us m n q E w1) (he : w2.heap[b]? = w1.heap[b]?) : TakeTo b o cs V us m n q E w2 := by
  obtain ⟨q', h1, h2⟩ := h
  exact ⟨q', h1.other he, h2⟩

set_option maxHeartbeats 1000000 in
set_option maxRecDepth 100000 in
attribute [local go_sem ↓] Go.wp_at_zero Go.wp_at_succ in
theorem step_core (b : Nat) (cs : Array Value) (V : Vw) (w : World) (k1 n1 : Nat) (k2 n2 : Nat) (ua ub : List Un) (ma mb E : Nat) (hb : w.heap[b]? = some (.cells cs 83 (0, 0)))
    (c1 : cs[1]? = some (.int .i64 n1)) (c6 : cs[6]? = some (.int .i64 n2)) (m : Nat) (hm : (n1 ≤ n2 ∧ m = n1) ∨ (n2 < n1 ∧ m = n2)) (hB : V.Sees w)
    (HT1 : Hid (∀ x, x.heap[b]? = some (.cells cs 83 (0, 0)) → V.Sees x → Calls Try.prog 53 #[.pointer (some ⟨b, 0, none⟩), .int .i64 m] x fun e w' => (∃ t, e = .returned (.agg #[.int .i64 k1, .int .i64 m, .string (bs t)]) ∧ Pc k1 m t (padk ua m)) ∧ TakeTo b 0 cs V ua m n1 ma E w' ∧ Below b x w' ∧ KeepX (fun g => g = b) x w'))
    (HT2 : Hid (∀ x cs1, x.heap[b]? = some (.cells cs1 83 (0, 0)) → SameBut 0 cs cs1 → V.Sees x → Calls Try.prog 53 #[.pointer (some ⟨b, 5, none⟩), .int .i64 m] x fun e w' => (∃ t, e = .returned (.agg #[.int .i64 k2, .int .i64 m, .string (bs t)]) ∧ Pc k2 m t (padk ub m)) ∧ TakeTo b 5 cs1 V ub m n2 mb E w' ∧ Below b x w' ∧ KeepX (fun g => g = b) x w'))
    (hbb : V.w.heap.size ≤ b) :
    Calls Try.prog 45 #[.pointer (some ⟨b, 0, none⟩)] w fun e w' => ∃ x1 x2, e = .returned (.tuple #[pieceV k1 m x1, pieceV k2 m x2]) ∧ (Pc k1 m x1 (padk ua m) ∧ Pc k2 m x2 (padk ub m)) ∧ (∃ cs1 wa, wa.heap[b]? = some (.cells cs1 83 (0, 0)) ∧ TakeTo b 0 cs V ua m n1 ma E wa ∧ TakeTo b 5 cs1 V ub m n2 mb E w') ∧ Below b w w' ∧ KeepX (fun g => g = b) w w' := by
  have d1 : w.cell? ⟨b, 1, none⟩ = some (.int .i64 n1) := (Lib.cell_of_heap hb 1).trans c1
  have d6 : w.cell? ⟨b, 6, none⟩ = some (.int .i64 n2) := (Lib.cell_of_heap hb 6).trans c6
  have HB : Hid (w.heap[b]? = some (.cells cs 83 (0, 0)) ∧ V.Sees w) := ⟨hb, hB⟩
  have hlt := lt_of_blk hb
  clear hb c1 c6 hB
  have HW : Hid (∀ x y, ((w.alloc x).alloc y).heap[b]? = some (.cells cs 83 (0, 0)) ∧ V.Sees ((w.alloc x).alloc y)) := fun x y => ⟨(Lib.alloc_old _ _ b (by simp; omega)).trans ((Lib.alloc_old _ _ b hlt).trans HB.out.1), (HB.out.2.alloc HB.out.2.size _).alloc (by have := HB.out.2.size; simp; omega) _⟩
  rcases hm with ⟨h12, rfl⟩ | ⟨h21, rfl⟩
  · have hz : ((n2 : Int) < (m : Int)) = False := by simp; omega
    go_enter Try.func45, Try.ntmps45
    go_wp2_with fail
    go_region
    all_goals go_wp2_with fail
    go_region_held3 (fun _ => True) (trivial) (first
      | (go_at_call_of 53 (Value.pointer (some ⟨b, 0, none⟩)); refine (HT1.out _ ?_ ?_).mono ?_; exact (HW.out _ _).1; (first | exact (HW.out _ _).2.drew.drew | exact (HW.out _ _).2.drew); rintro e wa ⟨⟨x1, rfl, hp1⟩, hT1, hb1, hk1⟩; have HA : Hid ((∃ cs1, wa.heap[b]? = some (.cells cs1 83 (0, 0)) ∧ SameBut 0 cs cs1) ∧ TakeTo b 0 cs V ua m _ ma E wa ∧ Below b w wa ∧ KeepX (fun g => g = b) w wa ∧ Pc k1 m x1 (padk ua m) ∧ V.Sees wa) := after_take HB.out.1 HB.out.2 hbb hlt hT1 hb1 hk1 hp1; have HX : Hid (wa.heap[w.heap.size]? = some (.cells #[.int .i64 0, .int .i64 0, .string ⟨#[]⟩] 65 (0, 0)) ∧ wa.heap[w.heap.size + 1]? = some (.cells #[.int .i64 0, .int .i64 0, .string ⟨#[]⟩] 65 (0, 0))) := ⟨(hk1 w.heap.size (by simp; omega) (by omega)).trans (heap_two w _ _).1, (hk1 (w.heap.size + 1) (by simp) (by omega)).trans (heap_two w _ _).2⟩; clear hp1 hT1 hb1 hk1; obtain ⟨cs1, hcs1, hsb1⟩ := HA.out.1; have HC1 : Hid (wa.heap[b]? = some (.cells cs1 83 (0, 0)) ∧ SameBut 0 cs cs1) := ⟨hcs1, hsb1⟩; clear hcs1 hsb1)
      | (go_at_call_of 53 (Value.pointer (some ⟨b, 5, none⟩)); refine (HT2.out _ cs1 ?_ HC1.out.2 ?_).mono ?_; exact HC1.out.1; (first | exact HA.out.2.2.2.2.2 | exact HA.out.2.2.2.2.2.drew); rintro e wb ⟨⟨x2, rfl, hp2⟩, hT2, hb2, hk2⟩; have hza := lt_of_blk HX.out.1; have hza2 := lt_of_blk HX.out.2; have e1 := (hk2 w.heap.size hza (by omega)).trans HX.out.1; have e2 := (hk2 (w.heap.size + 1) hza2 (by omega)).trans HX.out.2; have HBb : Hid (TakeTo b 5 cs1 V ub m _ mb E wb ∧ Below b w wb ∧ KeepX (fun g => g = b) w wb ∧ Pc k2 m x2 (padk ub m)) := ⟨hT2, HA.out.2.2.1.trans hb2, keepX_trans HA.out.2.2.2.1 hk2 HA.out.2.2.1.size, hp2⟩; clear hp2 hT2 hb2 hk2; have g0 : wb.cell? ⟨w.heap.size, 0, none⟩ = some (.int .i64 0) := Lib.cell_of_heap e1 0; have g1 : wb.cell? ⟨w.heap.size, 1, none⟩ = some (.int .i64 0) := Lib.cell_of_heap e1 1; have g2 : wb.cell? ⟨w.heap.size, 2, none⟩ = some (.string ⟨#[]⟩) := Lib.cell_of_heap e1 2; have g3 : wb.cell? ⟨w.heap.size + 1, 0, none⟩ = some (.int .i64 0) := Lib.cell_of_heap e2 0; have g4 : wb.cell? ⟨w.heap.size + 1, 1, none⟩ = some (.int .i64 0) := Lib.cell_of_heap e2 1; have g5 : wb.cell? ⟨w.heap.size + 1, 2, none⟩ = some (.string ⟨#[]⟩) := Lib.cell_of_heap e2 2; have f0 : ∀ j, wb.frozen? ⟨w.heap.size, j, none⟩ = false := fun j => Lib.frozen_of_heap e1 _; have f1 : ∀ j, wb.frozen? ⟨w.heap.size + 1, j, none⟩ = false := fun j => Lib.frozen_of_heap e2 _; clear e1 e2))
    go_wp2
    have hne : b ≠ w.heap.size := by omega
    have hne2 : b ≠ w.heap.size + 1 := by omega
    have hle : b ≤ w.heap.size := by omega
    have hle2 : b ≤ w.heap.size + 1 := by omega
    refine bodyPost_ret (v := .tuple #[pieceV k1 m x1, pieceV k2 m x2]) (by simp [results, Try.results45, go_sem, pieceV, g0, g1, g2, g3, g4, g5]) rfl ⟨x1, x2, rfl, ⟨HA.out.2.2.2.2.1, HBb.out.2.2.2⟩, ⟨cs1, wa, HC1.out.1, HA.out.2.1, HBb.out.1.other ?_⟩, ?_, ?_⟩
    · exact (Below.heap_setCell _ _ _ _ hne2).trans ((Below.heap_setCell _ _ _ _ hne2).trans ((Below.heap_setCell _ _ _ _ hne2).trans ((Below.heap_setCell _ _ _ _ hne).trans ((Below.heap_setCell _ _ _ _ hne).trans (Below.heap_setCell _ _ _ _ hne)))))
    · exact (((((HBb.out.2.1.setCell (p := ⟨w.heap.size, _, none⟩) hle _).setCell (p := ⟨w.heap.size, _, none⟩) hle _).setCell (p := ⟨w.heap.size, _, none⟩) hle _).setCell (p := ⟨w.heap.size + 1, _, none⟩) hle2 _).setCell (p := ⟨w.heap.size + 1, _, none⟩) hle2 _).setCell (p := ⟨w.heap.size + 1, _, none⟩) hle2 _
    · exact keepX_new (keepX_new (keepX_new (keepX_new (keepX_new (keepX_new HBb.out.2.2.1 (Nat.le_refl _) _ _) (Nat.le_refl _) _ _) (Nat.le_refl _) _ _) (by omega) _ _) (by omega) _ _) (by omega) _ _
  · have hz : ((m : Int) < (n1 : Int)) = True := by simp; omega
    go_enter Try.func45, Try.ntmps45
    go_wp2_with fail
    go_region
    all_goals go_wp2_with fail
    go_region_held3 (fun _ => True) (trivial) (first
      | (go_at_call_of 53 (Value.pointer (some ⟨b, 0, none⟩)); refine (HT1.out _ ?_ ?_).mono ?_; exact (HW.out _ _).1; (first | exact (HW.out _ _).2.drew.drew | exact (HW.out _ _).2.drew); rintro e wa ⟨⟨x1, rfl, hp1⟩, hT1, hb1, hk1⟩; have HA : Hid ((∃ cs1, wa.heap[b]? = some (.cells cs1 83 (0, 0)) ∧ SameBut 0 cs cs1) ∧ TakeTo b 0 cs V ua m _ ma E wa ∧ Below b w wa ∧ KeepX (fun g => g = b) w wa ∧ Pc k1 m x1 (padk ua m) ∧ V.Sees wa) := after_take HB.out.1 HB.out.2 hbb hlt hT1 hb1 hk1 hp1; have HX : Hid (wa.heap[w.heap.size]? = some (.cells #[.int .i64 0, .int .i64 0, .string ⟨#[]⟩] 65 (0, 0)) ∧ wa.heap[w.heap.size + 1]? = some (.cells #[.int .i64 0, .int .i64 0, .string ⟨#[]⟩] 65 (0, 0))) := ⟨(hk1 w.heap.size (by simp; omega) (by omega)).trans (heap_two w _ _).1, (hk1 (w.heap.size + 1) (by simp) (by omega)).trans (heap_two w _ _).2⟩; clear hp1 hT1 hb1 hk1; obtain ⟨cs1, hcs1, hsb1⟩ := HA.out.1; have HC1 : Hid (wa.heap[b]? = some (.cells cs1 83 (0, 0)) ∧ SameBut 0 cs cs1) := ⟨hcs1, hsb1⟩; clear hcs1 hsb1)
      | (go_at_call_of 53 (Value.pointer (some ⟨b, 5, none⟩)); refine (HT2.out _ cs1 ?_ HC1.out.2 ?_).mono ?_; exact HC1.out.1; (first | exact HA.out.2.2.2.2.2 | exact HA.out.2.2.2.2.2.drew); rintro e wb ⟨⟨x2, rfl, hp2⟩, hT2, hb2, hk2⟩; have hza := lt_of_blk HX.out.1; have hza2 := lt_of_blk HX.out.2; have e1 := (hk2 w.heap.size hza (by omega)).trans HX.out.1; have e2 := (hk2 (w.heap.size + 1) hza2 (by omega)).trans HX.out.2; have HBb : Hid (TakeTo b 5 cs1 V ub m _ mb E wb ∧ Below b w wb ∧ KeepX (fun g => g = b) w wb ∧ Pc k2 m x2 (padk ub m)) := ⟨hT2, HA.out.2.2.1.trans hb2, keepX_trans HA.out.2.2.2.1 hk2 HA.out.2.2.1.size, hp2⟩; clear hp2 hT2 hb2 hk2; have g0 : wb.cell? ⟨w.heap.size, 0, none⟩ = some (.int .i64 0) := Lib.cell_of_heap e1 0; have g1 : wb.cell? ⟨w.heap.size, 1, none⟩ = some (.int .i64 0) := Lib.cell_of_heap e1 1; have g2 : wb.cell? ⟨w.heap.size, 2, none⟩ = some (.string ⟨#[]⟩) := Lib.cell_of_heap e1 2; have g3 : wb.cell? ⟨w.heap.size + 1, 0, none⟩ = some (.int .i64 0) := Lib.cell_of_heap e2 0; have g4 : wb.cell? ⟨w.heap.size + 1, 1, none⟩ = some (.int .i64 0) := Lib.cell_of_heap e2 1; have g5 : wb.cell? ⟨w.heap.size + 1, 2, none⟩ = some (.string ⟨#[]⟩) := Lib.cell_of_heap e2 2; have f0 : ∀ j, wb.frozen? ⟨w.heap.size, j, none⟩ = false := fun j => Lib.frozen_of_heap e1 _; have f1 : ∀ j, wb.frozen? ⟨w.heap.size + 1, j, none⟩ = false := fun j => Lib.frozen_of_heap e2 _; clear e1 e2))
    go_wp2
    have hne : b ≠ w.heap.size := by omega
    have hne2 : b ≠ w.heap.size + 1 := by omega
    have hle : b ≤ w.heap.size := by omega
    have hle2 : b ≤ w.heap.size + 1 := by omega
    refine bodyPost_ret (v := .tuple #[pieceV k1 m x1, pieceV k2 m x2]) (by simp [results, Try.results45, go_sem, pieceV, g0, g1, g2, g3, g4, g5]) rfl ⟨x1, x2, rfl, ⟨HA.out.2.2.2.2.1, HBb.out.2.2.2⟩, ⟨cs1, wa, HC1.out.1, HA.out.2.1, HBb.out.1.other ?_⟩, ?_, ?_⟩
    · exact (Below.heap_setCell _ _ _ _ hne2).trans ((Below.heap_setCell _ _ _ _ hne2).trans ((Below.heap_setCell _ _ _ _ hne2).trans ((Below.heap_setCell _ _ _ _ hne).trans ((Below.heap_setCell _ _ _ _ hne).trans (Below.heap_setCell _ _ _ _ hne)))))
    · exact (((((HBb.out.2.1.setCell (p := ⟨w.heap.size, _, none⟩) hle _).setCell (p := ⟨w.heap.size, _, none⟩) hle _).setCell (p := ⟨w.heap.size, _, none⟩) hle _).setCell (p := ⟨w.heap.size + 1, _, none⟩) hle2 _).setCell (p := ⟨w.heap.size + 1, _, none⟩) hle2 _).setCell (p := ⟨w.heap.size + 1, _, none⟩) hle2 _
    · exact keepX_new (keepX_new (keepX_new (keepX_new (keepX_new (keepX_new HBb.out.2.2.1 (Nat.le_refl _) _ _) (Nat.le_refl _) _ _) (Nat.le_refl _) _ _) (by omega) _ _) (by omega) _ _) (by omega) _ _

theorem CurIn.same {cs : Array Value} {o k n k' n' : Nat} {t t' : List UInt8} {v v' : Value} {f f' : Bool} (h : CurIn cs o k n t v f) (h' : CurIn cs o k' n' t' v' f') : k = k' ∧ n = n' := by
  have e0 := h.c0.symm.trans h'.c0
  have e1 := h.c1.symm.trans h'.c1
  simp only [Option.some.injEq, Value.int.injEq, true_and] at e0 e1
  omega

/-- WHAT step READS. -/
theorem step_any (b : Nat) (cs : Array Value) (V : Vw) (w : World) (k1 n1 : Nat) (t1 : List UInt8) (v1 : Value) (f1 : Bool) (k2 n2 : Nat) (t2 : List UInt8) (v2 : Value) (f2 : Bool) (ua ub : List Un) (ma mb E : Nat) (hb : w.heap[b]? = some (.cells cs 83 (0, 0))) (hz : cs.size = 10)
    (hc1 : CurIn cs 0 k1 n1 t1 v1 f1) (hd1 : CD V ua ma E k1 n1 t1 v1 f1) (hc2 : CurIn cs 5 k2 n2 t2 v2 f2) (hd2 : CD V ub mb E k2 n2 t2 v2 f2) (hB : V.Sees w) (hbb : V.w.heap.size ≤ b)
    (hE : 1000000000 < E) (hE2 : E ≤ topE) (m : Nat) (hm : (n1 ≤ n2 ∧ m = n1) ∨ (n2 < n1 ∧ m = n2)) (hm1 : 1 ≤ m) (hm2 : m ≤ 1000000000) :
    Calls Try.prog 45 #[.pointer (some ⟨b, 0, none⟩)] w fun e w' => ∃ x1 x2, e = .returned (.tuple #[pieceV k1 m x1, pieceV k2 m x2]) ∧ (Pc k1 m x1 (padk ua m) ∧ Pc k2 m x2 (padk ub m)) ∧ StepTo b V ua ub m ma mb E w' ∧ Below b w w' ∧ KeepX (fun g => g = b) w w' := by
  have hm3 : m ≤ n1 ∧ m ≤ n2 := by omega
  obtain ⟨R1, a1, a2, a3, a4, a5, a6⟩ := hd1
  obtain ⟨R2, c1, c2, c3, c4, c5, c6⟩ := hd2
  have T1 : Hid (∀ x, x.heap[b]? = some (.cells cs 83 (0, 0)) → V.Sees x → Calls Try.prog 53 #[.pointer (some ⟨b, 0, none⟩), .int .i64 m] x fun e w' => (∃ t, e = .returned (.agg #[.int .i64 k1, .int .i64 m, .string (bs t)]) ∧ Pc k1 m t (padk ua m)) ∧ TakeTo b 0 cs V ua m n1 ma E w' ∧ Below b x w' ∧ KeepX (fun g => g = b) x w') :=
    fun x hx hBx => take_any 83 b 0 cs V x k1 n1 m t1 v1 f1 R1 ua ma E hx hc1 a1 a2 hBx hbb a3 a4 a5 a6 hm1 hm3.1 hm2 hE hE2
  have T2 : Hid (∀ x cs1, x.heap[b]? = some (.cells cs1 83 (0, 0)) → SameBut 0 cs cs1 → V.Sees x → Calls Try.prog 53 #[.pointer (some ⟨b, 5, none⟩), .int .i64 m] x fun e w' => (∃ t, e = .returned (.agg #[.int .i64 k2, .int .i64 m, .string (bs t)]) ∧ Pc k2 m t (padk ub m)) ∧ TakeTo b 5 cs1 V ub m n2 mb E w' ∧ Below b x w' ∧ KeepX (fun g => g = b) x w') :=
    fun x cs1 hx hs hBx => take_any 83 b 5 cs1 V x k2 n2 m t2 v2 f2 R2 ub mb E hx (hs.cur (by omega) hc2) c1 c2 hBx hbb c3 c4 c5 c6 hm1 hm3.2 hm2 hE hE2
  refine (step_core b cs V w k1 n1 k2 n2 ua ub ma mb E hb hc1.c1 hc2.c1 m hm hB T1 T2 hbb).mono ?_
  rintro e w' ⟨x1, x2, rfl, hp, ⟨cs1, wa, h1, ⟨qa, ⟨csa, g1, g2, g3⟩, g4, g5⟩, ⟨qb, ⟨csb, e1, e2, e3⟩, e4, e5⟩⟩, hbe, hke⟩
  refine ⟨x1, x2, rfl, hp, ?_, hbe, hke⟩
  have : csa = cs1 := by rw [h1] at g1; simpa using g1.symm
  subst this
  refine ⟨csb, qa, qb, e1, ⟨by rw [e3.size, g3.size]; exact hz, ?_, e2⟩, ?_⟩
  · obtain ⟨kk, nn, tt, vv, ff, q1, q2⟩ := g2.cd
    exact q2.cur (e3.cur (by omega) q1)
  · rcases hm with ⟨_, hh⟩ | ⟨_, hh⟩
    · have := g5 hh; omega
    · have := e5 hh; omega

end Go.Proofs.Ytgoaihpaajchaaa
