/-
  What a pair reads; parts.composeStep.
-/
import Derived.Test.YtgoaihpaajchaaaAlg3
namespace Go.Proofs.Ytgoaihpaajchaaa
open Go.RowKit

theorem comp_dn (n : Nat) (A B : List Un) : compU (List.replicate n .d ++ A) B = List.replicate n .d ++ compU A B := by
  induction n with
  | zero => rfl
  | succ n ih => rw [List.replicate_succ, List.cons_append, compU, ih]; rfl
theorem comp_ins (ch : List (List UInt8)) (A B : List Un) (h : ∀ X, A ≠ .d :: X) : compU A (ch.map .i ++ B) = ch.map .i ++ compU A B := by
  induction ch with
  | nil => rfl
  | cons c ch ih =>
    rw [List.map_cons, List.cons_append, List.cons_append, ← ih]
    match A with
    | [] => rw [compU]
    | .k :: A => rw [compU]
    | .i e :: A => rw [compU]
    | .d :: A => exact absurd rfl (h A)
theorem comp_kk (n : Nat) (A B : List Un) : compU (List.replicate n .k ++ A) (List.replicate n .k ++ B) = List.replicate n .k ++ compU A B := by
  induction n with
  | zero => rfl
  | succ n ih => rw [List.replicate_succ, List.cons_append, List.cons_append, compU, ih]; rfl
theorem comp_0k (n : Nat) (B : List Un) : compU [] (List.replicate n .k ++ B) = List.replicate n .k ++ compU [] B := by
  induction n with
  | zero => rfl
  | succ n ih => rw [List.replicate_succ, List.cons_append, compU, ih]; rfl
theorem comp_k0 (n : Nat) (A : List Un) : compU (List.replicate n .k ++ A) [] = List.replicate n .k ++ compU A [] := by
  induction n with
  | zero => rfl
  | succ n ih => rw [List.replicate_succ, List.cons_append, compU, ih]; rfl
theorem comp_kd (n : Nat) (A B : List Un) : compU (List.replicate n .k ++ A) (List.replicate n .d ++ B) = List.replicate n .d ++ compU A B := by
  induction n with
  | zero => rfl
  | succ n ih => rw [List.replicate_succ, List.replicate_succ, List.cons_append, List.cons_append, compU, ih]; rfl
theorem comp_0d (n : Nat) (B : List Un) : compU [] (List.replicate n .d ++ B) = List.replicate n .d ++ compU [] B := by
  induction n with
  | zero => rfl
  | succ n ih => rw [List.replicate_succ, List.cons_append, compU, ih]; rfl
theorem comp_ik (ch : List (List UInt8)) (A B : List Un) : compU (ch.map .i ++ A) (List.replicate ch.length .k ++ B) = ch.map .i ++ compU A B := by
  induction ch with
  | nil => rfl
  | cons c ch ih => rw [List.map_cons, List.length_cons, List.replicate_succ, List.cons_append, List.cons_append, compU, ih]; rfl
theorem comp_i0 (ch : List (List UInt8)) (A : List Un) : compU (ch.map .i ++ A) [] = ch.map .i ++ compU A [] := by
  induction ch with
  | nil => rfl
  | cons c ch ih => rw [List.map_cons, List.cons_append, compU, ih]; rfl
theorem comp_id (ch : List (List UInt8)) (A B : List Un) : compU (ch.map .i ++ A) (List.replicate ch.length .d ++ B) = compU A B := by
  induction ch with
  | nil => rfl
  | cons c ch ih => rw [List.map_cons, List.length_cons, List.replicate_succ, List.cons_append, List.cons_append, compU, ih]

theorem padk_split {us : List Un} {m : Nat} (h : m ≤ us.length) : us = padk us m ++ us.drop m := by
  rw [padk, Nat.sub_eq_zero_of_le h, List.replicate_zero, List.append_nil, List.take_append_drop]
theorem padk_nil (m : Nat) : padk [] m = List.replicate m .k := by simp [padk]

/-- what composeStep writes. -/
def Wr.cmp (W : Wr) (ka kb m : Nat) (xa : List UInt8) : Wr := if kb = 1 then W.wrP ka m xa else if ka = 1 then { W with gone := W.gone + m } else W

theorem cmp_st {ka kb m : Nat} {xa xb : List UInt8} {ua ub : List Un} (ha : Pc ka m xa (padk ua m)) (hb : Pc kb m xb (padk ub m)) (hka : ka ≠ 3) (hkb : kb ≠ 2) (hua : ua = [] ∨ m ≤ ua.length) (hub : ub = [] ∨ m ≤ ub.length) (hnn : ¬ (ua = [] ∧ ub = [])) (W : Wr) (hm : 1 ≤ m) :
    stU W (compU ua ub) = stU (W.cmp ka kb m xa) (compU (ua.drop m) (ub.drop m)) := by
  rcases ha with ⟨rfl, rfl, ea⟩ | ⟨rfl, _⟩ | ⟨rfl, ch, _, em, rfl, ea⟩
  · rcases hb with ⟨rfl, rfl, eb⟩ | ⟨rfl, rfl, eb⟩ | ⟨rfl, _⟩
    · have hw : W.cmp 1 1 m [] = W.keep m := rfl
      rw [hw]
      rcases hua with rfl | hua
      · rcases hub with rfl | hub
        · exact absurd ⟨rfl, rfl⟩ hnn
        · conv => lhs; rw [padk_split hub, eb, comp_0k, stU_repk]
          simp
      · rcases hub with rfl | hub
        · conv => lhs; rw [padk_split hua, ea, comp_k0, stU_repk]
          simp
        · conv => lhs; rw [padk_split hua, padk_split hub, ea, eb, comp_kk, stU_repk]
    · have hw : W.cmp 1 3 m [] = { W with gone := W.gone + m } := rfl
      rw [hw]
      rcases hub with rfl | hub
      · rw [padk_nil] at eb
        obtain ⟨m, rfl⟩ : ∃ k, m = k + 1 := ⟨m - 1, by omega⟩
        simp [List.replicate_succ] at eb
      · rcases hua with rfl | hua
        · conv => lhs; rw [padk_split hub, eb, comp_0d, stU_repd]
          simp
        · conv => lhs; rw [padk_split hua, padk_split hub, ea, eb, comp_kd, stU_repd]
    · exact absurd rfl hkb
  · exact absurd rfl hka
  · rcases hua with rfl | hua
    · rw [padk_nil] at ea
      obtain ⟨m, rfl⟩ : ∃ k, m = k + 1 := ⟨m - 1, by omega⟩
      cases ch with
      | nil => simp at em
      | cons c ch => simp [List.replicate_succ] at ea
    · rcases hb with ⟨rfl, rfl, eb⟩ | ⟨rfl, rfl, eb⟩ | ⟨rfl, _⟩
      · have hw : W.cmp 2 1 m ch.flatten = { W with put := W.put ++ ch.flatten } := rfl
        rw [hw]
        rcases hub with rfl | hub
        · conv => lhs; rw [padk_split hua, ea, comp_i0, stU_is]
          simp
        · conv => lhs; rw [padk_split hua, padk_split hub, ea, eb, em, comp_ik, stU_is]
          rw [em]
      · have hw : W.cmp 2 3 m ch.flatten = W := rfl
        rw [hw]
        rcases hub with rfl | hub
        · rw [padk_nil] at eb
          obtain ⟨m, rfl⟩ : ∃ k, m = k + 1 := ⟨m - 1, by omega⟩
          simp [List.replicate_succ] at eb
        · conv => lhs; rw [padk_split hua, padk_split hub, ea, eb, em, comp_id]
          rw [em]
      · exact absurd rfl hkb

/-- the ten cells of a pair. -/
def ten (k1 n1 : Nat) (t1 : List UInt8) (v1 : Value) (f1 : Bool) (k2 n2 : Nat) (t2 : List UInt8) (v2 : Value) (f2 : Bool) : Array Value :=
  #[.int .i64 k1, .int .i64 n1, .string (bs t1), v1, .bool f1, .int .i64 k2, .int .i64 n2, .string (bs t2), v2, .bool f2]
theorem ten_of {cs : Array Value} (hz : cs.size = 10) {k1 n1 : Nat} {t1 : List UInt8} {v1 : Value} {f1 : Bool} {k2 n2 : Nat} {t2 : List UInt8} {v2 : Value} {f2 : Bool} (h1 : CurIn cs 0 k1 n1 t1 v1 f1) (h2 : CurIn cs 5 k2 n2 t2 v2 f2) : cs = ten k1 n1 t1 v1 f1 k2 n2 t2 v2 f2 := by
  apply Array.ext_getElem?
  intro i
  match i with
  | 0 => rw [h1.c0]; rfl
  | 1 => rw [h1.c1]; rfl
  | 2 => rw [h1.c2]; rfl
  | 3 => rw [h1.c3]; rfl
  | 4 => rw [h1.c4]; rfl
  | 5 => rw [h2.c0]; rfl
  | 6 => rw [h2.c1]; rfl
  | 7 => rw [h2.c2]; rfl
  | 8 => rw [h2.c3]; rfl
  | 9 => rw [h2.c4]; rfl
  | i + 10 => rw [Array.getElem?_eq_none (by omega), Array.getElem?_eq_none (by simp [ten])]
theorem ten_one (k1 n1 : Nat) (t1 : List UInt8) (v1 : Value) (f1 : Bool) (k2 n2 : Nat) (t2 : List UInt8) (v2 : Value) (f2 : Bool) : CurIn (ten k1 n1 t1 v1 f1 k2 n2 t2 v2 f2) 0 k1 n1 t1 v1 f1 := ⟨by simp [ten], rfl, rfl, rfl, rfl, rfl⟩
theorem ten_two (k1 n1 : Nat) (t1 : List UInt8) (v1 : Value) (f1 : Bool) (k2 n2 : Nat) (t2 : List UInt8) (v2 : Value) (f2 : Bool) : CurIn (ten k1 n1 t1 v1 f1 k2 n2 t2 v2 f2) 5 k2 n2 t2 v2 f2 := ⟨by simp [ten], rfl, rfl, rfl, rfl, rfl⟩

theorem CD.mono {V : Vw} {us : List Un} {m E E' kind n : Nat} {text : List UInt8} {v : Value} {fin : Bool} (h : CD V us m E kind n text v fin) (hE : E' ≤ E) : CD V us m E' kind n text v fin := by
  obtain ⟨R, a2, a3, a4, a5, a6, a7⟩ := h
  refine ⟨R, a2, a3, a4, a5, a6, ?_⟩
  rcases a7 with ⟨x1, x2, x3, x4, x5, x6, x7, x8⟩ | x
  · exact .inl ⟨x1, x2, x3, x4, x5, by omega, x7, x8⟩
  · exact .inr x

/-- a pair in block bc. -/
def PairIn (V : Vw) (bc : Nat) (ua ub : List Un) (ma mb E : Nat) (wr : World) : Prop :=
  ∃ (k1 n1 : Nat) (t1 : List UInt8) (ao1 : Option Addr) (l1 p1 : Nat) (f1 : Bool) (k2 n2 : Nat) (t2 : List UInt8) (ao2 : Option Addr) (l2 p2 : Nat) (f2 : Bool),
    wr.heap[bc]? = some (.cells (ten k1 n1 t1 (.slice ao1 l1 p1) f1 k2 n2 t2 (.slice ao2 l2 p2) f2) 83 (0, 0)) ∧ CD V ua ma E k1 n1 t1 (.slice ao1 l1 p1) f1 ∧ CD V ub mb E k2 n2 t2 (.slice ao2 l2 p2) f2

theorem pair_of {V : Vw} {wr : World} {bc : Nat} {cs : Array Value} {ua ub : List Un} {ma mb E : Nat} (hb : wr.heap[bc]? = some (.cells cs 83 (0, 0))) (h : PairAt cs V ua ma ub mb E) : PairIn V bc ua ub ma mb E wr := by
  obtain ⟨k1, n1, t1, v1, f1, h1, g1⟩ := h.one.cd
  obtain ⟨k2, n2, t2, v2, f2, h2, g2⟩ := h.two.cd
  obtain ⟨ao1, l1, p1, rfl⟩ := g1.form
  obtain ⟨ao2, l2, p2, rfl⟩ := g2.form
  have := ten_of h.size h1 h2
  subst this
  exact ⟨k1, n1, t1, ao1, l1, p1, f1, k2, n2, t2, ao2, l2, p2, f2, hb, g1, g2⟩

theorem whole_p1 {V : Vw} {wr : World} {bc k1 n1 : Nat} {t1 : List UInt8} {v1 : Value} {k2 n2 : Nat} {t2 : List UInt8} {v2 : Value} {f2 : Bool} {ua ub : List Un} {ma mb E : Nat} (hbc : wr.heap[bc]? = some (.cells (ten k1 n1 t1 v1 false k2 n2 t2 v2 f2) 83 (0, 0)))
    (hcd : CD V ua ma E k1 n1 t1 v1 false) (hcd2 : CD V ub mb E k2 n2 t2 v2 f2) (hB : V.Sees wr) (hbb : V.w.heap.size ≤ bc) (hE : E ≤ topE) :
    Calls Try.prog 34 #[.pointer (some ⟨bc, 0, none⟩)] wr fun e w' => e = .returned (.agg #[.int .i64 k1, .int .i64 n1, .string (bs t1)]) ∧
      (∃ pu ua', PairIn V bc ua' ub (ma - 1) mb E w' ∧ ua = pu ++ ua' ∧ Pc k1 n1 t1 pu ∧ 1 ≤ n1 ∧ 1 ≤ ma) ∧ Below bc wr w' ∧ KeepX (fun g => g = bc) wr w' := by
  obtain ⟨R, h1, h2, h3, h4, h5, h6⟩ := hcd
  rcases h6 with ⟨x, _⟩ | ⟨_, pu, ru', hn, hpc, hr, rfl, rfl⟩
  · cases x
  · rw [bytesU_append] at h4
    rw [List.length_append] at h5
    refine (whole_any 83 bc 0 _ V wr k1 n1 t1 v1 R ru' hbc (ten_one ..) h1 h2 hB hbb hr h3 (by omega) (by omega)).mono ?_
    rintro e w' ⟨rfl, ⟨cs', q1, q2, q3⟩, q4, q5⟩
    refine ⟨rfl, ⟨pu, ru', ?_, rfl, hpc, hn, by omega⟩, q4, q5⟩
    exact pair_of q1 ⟨q3.size, by simpa using q2.mono hE, hcd2.cur (q3.cur (by omega) (ten_two ..))⟩

theorem whole_p2 {V : Vw} {wr : World} {bc k1 n1 : Nat} {t1 : List UInt8} {v1 : Value} {k2 n2 : Nat} {t2 : List UInt8} {v2 : Value} {f1 : Bool} {ua ub : List Un} {ma mb E : Nat} (hbc : wr.heap[bc]? = some (.cells (ten k1 n1 t1 v1 f1 k2 n2 t2 v2 false) 83 (0, 0)))
    (hcd : CD V ua ma E k1 n1 t1 v1 f1) (hcd2 : CD V ub mb E k2 n2 t2 v2 false) (hB : V.Sees wr) (hbb : V.w.heap.size ≤ bc) (hE : E ≤ topE) :
    Calls Try.prog 34 #[.pointer (some ⟨bc, 5, none⟩)] wr fun e w' => e = .returned (.agg #[.int .i64 k2, .int .i64 n2, .string (bs t2)]) ∧
      (∃ pu ub', PairIn V bc ua ub' ma (mb - 1) E w' ∧ ub = pu ++ ub' ∧ Pc k2 n2 t2 pu ∧ 1 ≤ n2 ∧ 1 ≤ mb) ∧ Below bc wr w' ∧ KeepX (fun g => g = bc) wr w' := by
  obtain ⟨R, h1, h2, h3, h4, h5, h6⟩ := hcd2
  rcases h6 with ⟨x, _⟩ | ⟨_, pu, ru', hn, hpc, hr, rfl, rfl⟩
  · cases x
  · rw [bytesU_append] at h4
    rw [List.length_append] at h5
    refine (whole_any 83 bc 5 _ V wr k2 n2 t2 v2 R ru' hbc (ten_two ..) h1 h2 hB hbb hr h3 (by omega) (by omega)).mono ?_
    rintro e w' ⟨rfl, ⟨cs', q1, q2, q3⟩, q4, q5⟩
    refine ⟨rfl, ⟨pu, ru', ?_, rfl, hpc, hn, by omega⟩, q4, q5⟩
    exact pair_of q1 ⟨q3.size, hcd.cur (q3.cur (by omega) (ten_one ..)), by simpa using q2.mono hE⟩

/-- what is known of a cursor that has not ended, or has. -/
theorem CD.at {V : Vw} {us : List Un} {m E kind n : Nat} {text : List UInt8} {v : Value} {fin : Bool} (h : CD V us m E kind n text v fin) : (fin = true ∧ us = [] ∧ kind = 1 ∧ E ≤ n ∧ n ≤ topE ∧ m = 0) ∨ (fin = false ∧ 1 ≤ n ∧ n ≤ us.length ∧ 1 ≤ m ∧ ∃ pu ru, us = pu ++ ru ∧ Pc kind n text pu) := by
  obtain ⟨R, _, _, _, _, h5, h6⟩ := h
  rcases h6 with ⟨a, b, c, d, e, f, g, i⟩ | ⟨a, pu, ru, hn, hpc, hr, rfl, rfl⟩
  · exact .inl ⟨a, b, c, f, g, i⟩
  · refine .inr ⟨a, hn, ?_, by omega, pu, ru, rfl, hpc⟩
    rw [List.length_append, hpc.len.1]; omega

theorem step_p {V : Vw} {wr : World} {bc k1 n1 : Nat} {t1 : List UInt8} {v1 : Value} {k2 n2 : Nat} {t2 : List UInt8} {v2 : Value} {f1 f2 : Bool} {ua ub : List Un} {ma mb E : Nat} (hbc : wr.heap[bc]? = some (.cells (ten k1 n1 t1 v1 f1 k2 n2 t2 v2 f2) 83 (0, 0)))
    (hcd : CD V ua ma E k1 n1 t1 v1 f1) (hcd2 : CD V ub mb E k2 n2 t2 v2 f2) (hB : V.Sees wr) (hbb : V.w.heap.size ≤ bc) (hE : E ≤ topE) (hE2 : 1000000000 < E) (hne : ¬ (f1 = true ∧ f2 = true)) (hla : ua.length ≤ 1000000000) (hlb : ub.length ≤ 1000000000) :
    Calls Try.prog 45 #[.pointer (some ⟨bc, 0, none⟩)] wr fun e w' => ∃ (m : Nat) (x1 x2 : List UInt8), e = .returned (.tuple #[.agg #[.int .i64 k1, .int .i64 m, .string (bs x1)], .agg #[.int .i64 k2, .int .i64 m, .string (bs x2)]]) ∧
      (1 ≤ m ∧ m ≤ 1000000000 ∧ Pc k1 m x1 (padk ua m) ∧ Pc k2 m x2 (padk ub m) ∧ (ua = [] ∨ m ≤ ua.length) ∧ (ub = [] ∨ m ≤ ub.length) ∧ ¬ (ua = [] ∧ ub = [])) ∧ (∃ ma' mb', PairIn V bc (ua.drop m) (ub.drop m) ma' mb' (E - m) w' ∧ ma' + mb' + 1 ≤ ma + mb) ∧ Below bc wr w' ∧ KeepX (fun g => g = bc) wr w' := by
  have a1 := hcd.at
  have a2 := hcd2.at
  obtain ⟨m, hm⟩ : ∃ m, (n1 ≤ n2 ∧ m = n1) ∨ (n2 < n1 ∧ m = n2) := by
    by_cases h : n1 ≤ n2
    · exact ⟨n1, .inl ⟨h, rfl⟩⟩
    · exact ⟨n2, .inr ⟨by omega, rfl⟩⟩
  have hmm : 1 ≤ m ∧ m ≤ 1000000000 ∧ (ua = [] ∨ m ≤ ua.length) ∧ (ub = [] ∨ m ≤ ub.length) ∧ ¬ (ua = [] ∧ ub = []) := by
    unfold topE at *
    rcases a1 with ⟨x1, x2, x3, x4, x5, x6⟩ | ⟨x1, x2, x3, x4, x5⟩
    · rcases a2 with ⟨y1, _⟩ | ⟨y1, y2, y3, y4, y5⟩
      · exact absurd ⟨x1, y1⟩ hne
      · exact ⟨by omega, by omega, .inl x2, .inr (by omega), fun h => by rw [h.2] at y3; simp at y3; omega⟩
    · rcases a2 with ⟨y1, y2, y3, y4, y5, y6⟩ | ⟨y1, y2, y3, y4, y5⟩
      · exact ⟨by omega, by omega, .inr (by omega), .inl y2, fun h => by rw [h.1] at x3; simp at x3; omega⟩
      · exact ⟨by omega, by omega, .inr (by omega), .inr (by omega), fun h => by rw [h.1] at x3; simp at x3; omega⟩
  refine (step_any bc _ V wr k1 n1 t1 v1 f1 k2 n2 t2 v2 f2 ua ub ma mb E hbc rfl (ten_one ..) hcd (ten_two ..) hcd2 hB hbb hE2 hE m hm hmm.1 hmm.2.1).mono ?_
  rintro e w' ⟨x1, x2, rfl, ⟨p1, p2⟩, ⟨cs', ma', mb', q1, q2, q3⟩, q4, q5⟩
  exact ⟨m, x1, x2, rfl, ⟨hmm.1, hmm.2.1, p1, p2, hmm.2.2.1, hmm.2.2.2.1, hmm.2.2.2.2⟩, ⟨ma', mb', pair_of q1 q2, q3⟩, q4, q5⟩

set_option maxHeartbeats 1000000 in
theorem composeStep_any (b : Nat) (W : Wr) (w : World) (dv pa bv : Value) (ka kb m : Nat) (xa xb : List UInt8) (pua pub : List Un) (h : WrAt b W w dv pa bv) (hs : W.Small) (ha : Pc ka m xa pua) (hb : Pc kb m xb pub) (hka : ka ≠ 3) (hkb : kb ≠ 2) (hm : 1 ≤ m) (hm2 : m ≤ 1000000000) (hx : xa.length ≤ 1000000000) :
    Calls Try.prog 46 #[.pointer (some ⟨b, 0, none⟩), .agg #[.int .i64 ka, .int .i64 m, .string (bs xa)], .agg #[.int .i64 kb, .int .i64 m, .string (bs xb)]] w fun e w' => e = .returned (.tuple #[]) ∧ (∃ dv' pa' bv', WrAt b (W.cmp ka kb m xa) w' dv' pa' bv' ∧ Wrote b [dv, bv] [dv', bv'] w w') ∧ Below b w w' := by
  have hlt := lt_of_blk h.blk
  have H : Hid (∀ x y, WrAt b W ((w.alloc x).alloc y) dv pa bv) := fun x y => (h.alloc x).alloc y
  have HS : Hid W.Small := hs
  have HX : Hid (xa.length ≤ 1000000000) := hx
  have hB : ∀ x y w', Below b ((w.alloc x).alloc y) w' → Below b w w' := fun x y w' hb => (((Below.refl b w).alloc (by omega) _).alloc (by simp; omega) _).trans hb
  have hW : ∀ x y w' vs, Wrote b [dv, bv] vs ((w.alloc x).alloc y) w' → Wrote b [dv, bv] vs w w' := fun x y w' vs hb => (((Wrote.refl b [dv, bv] w).alloc _).alloc _).trans hb
  have HB : Hid (∀ x y w', Below b ((w.alloc x).alloc y) w' → Below b w w') := hB
  have HW : Hid (∀ x y w' vs, Wrote b [dv, bv] vs ((w.alloc x).alloc y) w' → Wrote b [dv, bv] vs w w') := hW
  have H0 : Hid (WrAt b W w dv pa bv) := h
  clear h hs hx hB hW
  have hka2 : ka = 1 ∨ ka = 2 := by rcases ha with ⟨e, _⟩ | ⟨e, _⟩ | ⟨e, _⟩ <;> omega
  have hkb2 : kb = 1 ∨ kb = 3 := by rcases hb with ⟨e, _⟩ | ⟨e, _⟩ | ⟨e, _⟩ <;> omega
  clear ha hb hka hkb
  rcases hka2 with rfl | rfl <;> rcases hkb2 with rfl | rfl
  · go_enter Try.func46, Try.ntmps46
    go_wp2_with fail
    refine (wKeep_any b W m _ _ _ _ (H.out _ _) HS.out hm hm2).mono ?_
    rintro e w' ⟨rfl, ⟨dv', pa', bv', h1, h2⟩, h3⟩
    go_wp2
    go_end0
    exact ⟨rfl, ⟨dv', pa', bv', h1, HW.out _ _ _ _ h2⟩, HB.out _ _ _ h3⟩
  · go_enter Try.func46, Try.ntmps46
    go_wp2_with fail
    refine (wDelete_any b W m _ _ _ _ (H.out _ _) HS.out hm2).mono ?_
    rintro e w' ⟨rfl, ⟨dv', pa', bv', h1, h2⟩, h3⟩
    go_wp2
    go_end0
    exact ⟨rfl, ⟨dv', pa', bv', h1, HW.out _ _ _ _ h2⟩, HB.out _ _ _ h3⟩
  · go_enter Try.func46, Try.ntmps46
    go_wp2_with fail
    refine (wInsert_any b W xa _ _ _ _ (H.out _ _) HS.out HX.out).mono ?_
    rintro e w' ⟨rfl, ⟨dv', pa', bv', h1, h2⟩, h3⟩
    go_wp2
    go_end0
    exact ⟨rfl, ⟨dv', pa', bv', h1, HW.out _ _ _ _ h2⟩, HB.out _ _ _ h3⟩
  · go_enter Try.func46, Try.ntmps46
    go_wp2_with fail
    go_end0
    exact ⟨rfl, ⟨dv, pa, bv, H.out _ _, ((Wrote.refl b [dv, bv] w).alloc _).alloc _⟩, HB.out _ _ _ (Below.refl _ _)⟩

end Go.Proofs.Ytgoaihpaajchaaa
