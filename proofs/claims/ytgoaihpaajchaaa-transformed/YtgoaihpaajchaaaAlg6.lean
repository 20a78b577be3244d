/-
  Two Writers beside one another; parts.transformStep.
-/
import Derived.Test.YtgoaihpaajchaaaAlg5
namespace Go.Proofs.Ytgoaihpaajchaaa
open Go.RowKit

theorem own_base {w : World} {base base' : Nat} {e : TypeId} {sz : Nat} {v : Value} {n : Nat} {xs : List Value} (h : w.ownsRow base' e sz v n xs) (hb : base ≤ base') : w.ownsRow base e sz v n xs := by
  refine ⟨h.1, ?_⟩
  rcases h.2 with hn | ⟨g, cap, cur, rfl, hbb, rest⟩
  · exact .inl hn
  · exact .inr ⟨g, cap, cur, rfl, Nat.le_trans hb hbb, rest⟩
theorem cap_row {w : World} {base : Nat} {v : Value} {L : List Pt} (h : w.ownsRow base 42 3 v L.length (rowOf L)) : CapOk v := by
  rcases h.2 with ⟨rfl, _⟩ | ⟨g, cap, cur, rfl, _, _, hle, _⟩
  · exact Nat.le_refl _
  · exact hle

structure Two (s b1 b2 : Nat) (W1 W2 : Wr) (dv1 pa1 bv1 dv2 pa2 bv2 : Value) (w : World) : Prop where
  one : WrAt b1 W1 w dv1 pa1 bv1
  two : WrAt b2 W2 w dv2 pa2 bv2
  fresh : ∀ v ∈ [dv1, bv1, dv2, bv2], ∀ g, v.ownBlock = some g → s ≤ g
  apart : ∀ v ∈ [dv1, bv1], ∀ u ∈ [dv2, bv2], ∀ g, v.ownBlock = some g → u.ownBlock ≠ some g

def TwoAt (s b1 b2 : Nat) (W1 W2 : Wr) (w : World) : Prop := ∃ dv1 pa1 bv1 dv2 pa2 bv2, Two s b1 b2 W1 W2 dv1 pa1 bv1 dv2 pa2 bv2 w

/-- what calls on the two Writers leave. -/
structure TF (s b1 b2 : Nat) (w w' : World) : Prop where
  bel : Below b1 w w'
  old : ∀ k, k < s → k ≠ b1 → k ≠ b2 → w'.heap[k]? = w.heap[k]?
  blk : ∀ k cs T, w.heap[k]? = some (.cells cs T (0, 0)) → T ≠ 42 → T ≠ 5 → k ≠ b1 → k ≠ b2 → w'.heap[k]? = some (.cells cs T (0, 0))

theorem own_lt {w : World} {base : Nat} {e : TypeId} {sz : Nat} {v : Value} {n : Nat} {xs : List Value} (h : w.ownsRow base e sz v n xs) {g : Nat} (hg : v.ownBlock = some g) : g < w.heap.size := (h.lt g hg).2

theorem row_kept {w w' : World} {base : Nat} {e : TypeId} {sz : Nat} {v : Value} {n : Nat} {xs : List Value} (h : w.ownsRow base e sz v n xs) (hk : ∀ g, v.ownBlock = some g → w'.heap[g]? = w.heap[g]?) : w'.ownsRow base e sz v n xs := by
  refine ⟨h.1, ?_⟩
  rcases h.2 with e | ⟨g, cap, cur, rfl, hbb, hgg, rest⟩
  · exact .inl e
  · exact .inr ⟨g, cap, cur, rfl, hbb, (hk g rfl).trans hgg, rest⟩

theorem WrAt.kept {b : Nat} {W : Wr} {w w' : World} {dv pa bv : Value} (h : WrAt b W w dv pa bv) (hb : w'.heap[b]? = w.heap[b]?) (h1 : ∀ v ∈ [dv, bv], ∀ g, v.ownBlock = some g → w'.heap[g]? = w.heap[g]?) : WrAt b W w' dv pa bv :=
  ⟨hb.trans h.blk, h.adr, row_kept h.row (h1 dv (by simp)), row_kept h.buf (h1 bv (by simp)), h.non⟩

theorem WrAt.own_lt {b : Nat} {W : Wr} {w : World} {dv pa bv : Value} (h : WrAt b W w dv pa bv) : ∀ v ∈ [dv, bv], ∀ g, v.ownBlock = some g → g < w.heap.size := by
  intro v hv g hg
  simp only [List.mem_cons, List.not_mem_nil, or_false] at hv
  rcases hv with rfl | rfl
  · exact Go.Proofs.Ytgoaihpaajchaaa.own_lt h.row hg
  · exact Go.Proofs.Ytgoaihpaajchaaa.own_lt h.buf hg

theorem Two.swap {s b1 b2 : Nat} {W1 W2 : Wr} {dv1 pa1 bv1 dv2 pa2 bv2 : Value} {w : World} (h : Two s b1 b2 W1 W2 dv1 pa1 bv1 dv2 pa2 bv2 w) : Two s b2 b1 W2 W1 dv2 pa2 bv2 dv1 pa1 bv1 w :=
  ⟨h.two, h.one, fun v hv => h.fresh v (by simp only [List.mem_cons, List.not_mem_nil, or_false] at *; rcases hv with e | e | e | e <;> simp [e]), fun v hv u hu g hg e => h.apart u hu v hv g e hg⟩

theorem Two.wrote {s b1 b2 : Nat} {W1 W1' W2 : Wr} {dv1 pa1 bv1 dv2 pa2 bv2 dv' pa' bv' : Value} {w w' : World} (h : Two s b1 b2 W1 W2 dv1 pa1 bv1 dv2 pa2 bv2 w) (hb1 : b1 < s) (hb2 : b2 < s) (hne : b1 ≠ b2) (hs : s ≤ w.heap.size)
    (h1 : WrAt b1 W1' w' dv' pa' bv') (hw : Wrote b1 [dv1, bv1] [dv', bv'] w w') : Two s b1 b2 W1' W2 dv' pa' bv' dv2 pa2 bv2 w' := by
  have hk : ∀ g, g < w.heap.size → g ≠ b1 → (∀ v ∈ [dv1, bv1], v.ownBlock ≠ some g) → w'.heap[g]? = w.heap[g]? := hw.keep
  refine ⟨h1, h.two.kept ?_ ?_, ?_, ?_⟩
  · refine hk b2 (by omega) (Ne.symm hne) (fun v hv e => ?_)
    have := h.fresh v (by simp only [List.mem_cons, List.not_mem_nil, or_false] at *; rcases hv with e | e <;> simp [e]) b2 e
    omega
  · intro v hv g hg
    refine hk g (h.two.own_lt v hv g hg) ?_ (fun u hu e => h.apart u hu v hv g e hg)
    have := h.fresh v (by simp only [List.mem_cons, List.not_mem_nil, or_false] at *; rcases hv with e | e <;> simp [e]) g hg
    omega
  · intro v hv g hg
    simp only [List.mem_cons, List.not_mem_nil, or_false] at hv
    have hnew : ∀ v ∈ [dv', bv'], ∀ g, v.ownBlock = some g → s ≤ g := by
      intro v hv g hg
      rcases hw.own v hv g hg with ⟨u, hu, hu2⟩ | hle
      · exact h.fresh u (by simp only [List.mem_cons, List.not_mem_nil, or_false] at *; rcases hu with e | e <;> simp [e]) g hu2
      · omega
    rcases hv with e | e | e | e
    · exact hnew v (by simp [e]) g hg
    · exact hnew v (by simp [e]) g hg
    · exact h.fresh v (by simp [e]) g hg
    · exact h.fresh v (by simp [e]) g hg
  · intro v hv u hu g hg e
    rcases hw.own v hv g hg with ⟨x, hx, hx2⟩ | hle
    · exact h.apart x hx u hu g hx2 e
    · have := h.two.own_lt u hu g e
      omega

theorem Two.tf {s b1 b2 : Nat} {W1 W2 : Wr} {dv1 pa1 bv1 dv2 pa2 bv2 : Value} {vs : List Value} {w w' : World} (h : Two s b1 b2 W1 W2 dv1 pa1 bv1 dv2 pa2 bv2 w) (hs : s ≤ w.heap.size) (hw : Wrote b1 [dv1, bv1] vs w w') :
    (∀ k, k < s → k ≠ b1 → w'.heap[k]? = w.heap[k]?) ∧ (∀ k cs T, w.heap[k]? = some (.cells cs T (0, 0)) → T ≠ 42 → T ≠ 5 → k ≠ b1 → w'.heap[k]? = some (.cells cs T (0, 0))) := by
  refine ⟨fun k hk hne => ?_, fun k cs T hc h1 h2 hne => hw.cur h.one hc h1 h2 (Ne.symm hne)⟩
  refine hw.keep k (by omega) hne (fun v hv e => ?_)
  have := h.fresh v (by simp only [List.mem_cons, List.not_mem_nil, or_false] at *; rcases hv with e | e <;> simp [e]) k e
  omega

theorem on_one {s b1 b2 : Nat} {W1 W1' W2 : Wr} {w : World} {f : FuncId} {args : Array Value} {R : Value} (h : TwoAt s b1 b2 W1 W2 w) (hb1 : b1 < s) (hb2 : b2 < s) (hne : b1 ≠ b2) (hs : s ≤ w.heap.size)
    (hc : ∀ dv pa bv, WrAt b1 W1 w dv pa bv → Calls Try.prog f args w fun e w' => e = .returned R ∧ (∃ dv' pa' bv', WrAt b1 W1' w' dv' pa' bv' ∧ Wrote b1 [dv, bv] [dv', bv'] w w') ∧ Below b1 w w') :
    Calls Try.prog f args w fun e w' => e = .returned R ∧ TwoAt s b1 b2 W1' W2 w' ∧ TF s b1 b2 w w' := by
  obtain ⟨dv1, pa1, bv1, dv2, pa2, bv2, h⟩ := h
  refine (hc _ _ _ h.one).mono ?_
  rintro e w' ⟨rfl, ⟨dv', pa', bv', h1, hw⟩, hb⟩
  have ht := h.tf hs hw
  exact ⟨rfl, ⟨dv', pa', bv', dv2, pa2, bv2, h.wrote hb1 hb2 hne hs h1 hw⟩, hb, fun k hk a _ => ht.1 k hk a, fun k cs T x y z a _ => ht.2 k cs T x y z a⟩

theorem on_two {s b1 b2 : Nat} {W1 W2 W2' : Wr} {w : World} {f : FuncId} {args : Array Value} {R : Value} (h : TwoAt s b1 b2 W1 W2 w) (hb2 : b2 < s) (hlt : b1 < b2) (hs : s ≤ w.heap.size)
    (hc : ∀ dv pa bv, WrAt b2 W2 w dv pa bv → Calls Try.prog f args w fun e w' => e = .returned R ∧ (∃ dv' pa' bv', WrAt b2 W2' w' dv' pa' bv' ∧ Wrote b2 [dv, bv] [dv', bv'] w w') ∧ Below b2 w w') :
    Calls Try.prog f args w fun e w' => e = .returned R ∧ TwoAt s b1 b2 W1 W2' w' ∧ TF s b1 b2 w w' := by
  obtain ⟨dv1, pa1, bv1, dv2, pa2, bv2, h⟩ := h
  refine (hc _ _ _ h.two).mono ?_
  rintro e w' ⟨rfl, ⟨dv', pa', bv', h1, hw⟩, hb⟩
  have ht := h.swap.tf hs hw
  exact ⟨rfl, ⟨dv1, pa1, bv1, dv', pa', bv', (h.swap.wrote hb2 (by omega) (by omega) hs h1 hw).swap⟩, hb.mono (by omega), fun k hk _ a => ht.1 k hk a, fun k cs T x y z _ a => ht.2 k cs T x y z a⟩

theorem TwoAt.alloc {s b1 b2 : Nat} {W1 W2 : Wr} {w : World} (h : TwoAt s b1 b2 W1 W2 w) (o : Obj) : TwoAt s b1 b2 W1 W2 (w.alloc o) := by
  obtain ⟨dv1, pa1, bv1, dv2, pa2, bv2, h⟩ := h
  exact ⟨dv1, pa1, bv1, dv2, pa2, bv2, h.one.alloc o, h.two.alloc o, h.fresh, h.apart⟩
theorem TwoAt.keepX {s b1 b2 bc : Nat} {W1 W2 : Wr} {w w' : World} {cs : Array Value} {T : TypeId} (h : TwoAt s b1 b2 W1 W2 w) (hk : KeepX (fun g => g = bc) w w') (hc : w.heap[bc]? = some (.cells cs T (0, 0))) (h1 : T ≠ 42) (h2 : T ≠ 5) (hn1 : b1 ≠ bc) (hn2 : b2 ≠ bc) : TwoAt s b1 b2 W1 W2 w' := by
  obtain ⟨dv1, pa1, bv1, dv2, pa2, bv2, h⟩ := h
  exact ⟨dv1, pa1, bv1, dv2, pa2, bv2, h.one.keepX hk hc h1 h2 hn1, h.two.keepX hk hc h1 h2 hn2, h.fresh, h.apart⟩

theorem TF.trans {s b1 b2 : Nat} {a b c : World} (h : TF s b1 b2 a b) (k : TF s b1 b2 b c) : TF s b1 b2 a c :=
  ⟨h.bel.trans k.bel, fun i hi x y => (k.old i hi x y).trans (h.old i hi x y), fun i cs T e x y z u => k.blk i cs T (h.blk i cs T e x y z u) x y z u⟩
theorem TF.alloc {s b1 b2 : Nat} {a b : World} (h : TF s b1 b2 a b) (hs : s ≤ b.heap.size) (hb : b1 ≤ b.heap.size) (o : Obj) : TF s b1 b2 a (b.alloc o) :=
  ⟨h.bel.alloc hb _, fun i hi x y => (Lib.alloc_old b o i (by omega)).trans (h.old i hi x y), fun i cs T e x y z u => (Lib.alloc_old b o i (lt_of_blk (h.blk i cs T e x y z u))).trans (h.blk i cs T e x y z u)⟩
theorem TF.refl (s b1 b2 : Nat) (w : World) : TF s b1 b2 w w := ⟨Below.refl _ _, fun _ _ _ _ => rfl, fun _ _ _ e _ _ _ _ => e⟩

/-- what transformStep writes. -/
def Wr.trs (W : Wr) (kx ky m : Nat) : Wr := if ky = 3 then W else if kx = 3 then { W with gone := W.gone + m } else W.keep m

set_option maxHeartbeats 1000000 in
theorem transformStep_any (b : Nat) (W : Wr) (w : World) (dv pa bv : Value) (kx ky m : Nat) (xa xb : List UInt8) (h : WrAt b W w dv pa bv) (hs : W.Small) (hka : kx = 1 ∨ kx = 3) (hkb : ky = 1 ∨ ky = 3) (hm : 1 ≤ m) (hm2 : m ≤ 1000000000) :
    Calls Try.prog 47 #[.pointer (some ⟨b, 0, none⟩), .agg #[.int .i64 kx, .int .i64 m, .string (bs xa)], .agg #[.int .i64 ky, .int .i64 m, .string (bs xb)]] w fun e w' => e = .returned (.tuple #[]) ∧ (∃ dv' pa' bv', WrAt b (W.trs kx ky m) w' dv' pa' bv' ∧ Wrote b [dv, bv] [dv', bv'] w w') ∧ Below b w w' := by
  have hlt := lt_of_blk h.blk
  have H : Hid (∀ x y, WrAt b W ((w.alloc x).alloc y) dv pa bv) := fun x y => (h.alloc x).alloc y
  have HS : Hid W.Small := hs
  have HB : Hid (∀ x y w', Below b ((w.alloc x).alloc y) w' → Below b w w') := fun x y w' hb => (((Below.refl b w).alloc (by omega) _).alloc (by simp; omega) _).trans hb
  have HW : Hid (∀ x y w' vs, Wrote b [dv, bv] vs ((w.alloc x).alloc y) w' → Wrote b [dv, bv] vs w w') := fun x y w' vs hb => (((Wrote.refl b [dv, bv] w).alloc _).alloc _).trans hb
  clear h hs
  rcases hkb with rfl | rfl
  · rcases hka with rfl | rfl
    · go_enter Try.func47, Try.ntmps47
      go_wp2_with fail
      refine (wKeep_any b W m _ _ _ _ (H.out _ _) HS.out hm hm2).mono ?_
      rintro e w' ⟨rfl, ⟨dv', pa', bv', h1, h2⟩, h3⟩
      go_wp2
      go_end0
      exact ⟨rfl, ⟨dv', pa', bv', h1, HW.out _ _ _ _ h2⟩, HB.out _ _ _ h3⟩
    · go_enter Try.func47, Try.ntmps47
      go_wp2_with fail
      refine (wDelete_any b W m _ _ _ _ (H.out _ _) HS.out hm2).mono ?_
      rintro e w' ⟨rfl, ⟨dv', pa', bv', h1, h2⟩, h3⟩
      go_wp2
      go_end0
      exact ⟨rfl, ⟨dv', pa', bv', h1, HW.out _ _ _ _ h2⟩, HB.out _ _ _ h3⟩
  · go_enter Try.func47, Try.ntmps47
    go_wp2_with fail
    go_end0
    exact ⟨rfl, ⟨dv, pa, bv, H.out _ _, ((Wrote.refl b [dv, bv] w).alloc _).alloc _⟩, HB.out _ _ _ (Below.refl _ _)⟩

/-- two at once, by runs. -/
theorem tra_is (ch : List (List UInt8)) (A B : List Un) : traU (ch.map .i ++ A) B = (ch.map .i ++ (traU A B).1, List.replicate ch.length .k ++ (traU A B).2) := by
  induction ch with
  | nil => rfl
  | cons c ch ih => rw [List.map_cons, List.cons_append, traU, ih]; rfl
theorem tra_ins (ch : List (List UInt8)) (A B : List Un) (h : ∀ c X, A ≠ .i c :: X) : traU A (ch.map .i ++ B) = (List.replicate ch.length .k ++ (traU A B).1, ch.map .i ++ (traU A B).2) := by
  induction ch with
  | nil => rfl
  | cons c ch ih =>
    rw [List.map_cons, List.cons_append]
    match A with
    | [] => rw [traU, ih]; rfl
    | .k :: A => rw [traU, ih]; rfl
    | .d :: A => rw [traU, ih]; rfl
    | .i e :: A => exact absurd rfl (h e A)
theorem tra_kk (n : Nat) (A B : List Un) : traU (List.replicate n .k ++ A) (List.replicate n .k ++ B) = (List.replicate n .k ++ (traU A B).1, List.replicate n .k ++ (traU A B).2) := by
  induction n with
  | zero => rfl
  | succ n ih => rw [List.replicate_succ, List.cons_append, List.cons_append, traU, ih]; rfl
theorem tra_0k (n : Nat) (B : List Un) : traU [] (List.replicate n .k ++ B) = (List.replicate n .k ++ (traU [] B).1, List.replicate n .k ++ (traU [] B).2) := by
  induction n with
  | zero => rfl
  | succ n ih => rw [List.replicate_succ, List.cons_append, traU, ih]; rfl
theorem tra_k0 (n : Nat) (A : List Un) : traU (List.replicate n .k ++ A) [] = (List.replicate n .k ++ (traU A []).1, List.replicate n .k ++ (traU A []).2) := by
  induction n with
  | zero => rfl
  | succ n ih => rw [List.replicate_succ, List.cons_append, traU, ih]; rfl
theorem tra_kd (n : Nat) (A B : List Un) : traU (List.replicate n .k ++ A) (List.replicate n .d ++ B) = ((traU A B).1, List.replicate n .d ++ (traU A B).2) := by
  induction n with
  | zero => rfl
  | succ n ih => rw [List.replicate_succ, List.replicate_succ, List.cons_append, List.cons_append, traU, ih]; rfl
theorem tra_0d (n : Nat) (B : List Un) : traU [] (List.replicate n .d ++ B) = ((traU [] B).1, List.replicate n .d ++ (traU [] B).2) := by
  induction n with
  | zero => rfl
  | succ n ih => rw [List.replicate_succ, List.cons_append, traU, ih]; rfl
theorem tra_dk (n : Nat) (A B : List Un) : traU (List.replicate n .d ++ A) (List.replicate n .k ++ B) = (List.replicate n .d ++ (traU A B).1, (traU A B).2) := by
  induction n with
  | zero => rfl
  | succ n ih => rw [List.replicate_succ, List.replicate_succ, List.cons_append, List.cons_append, traU, ih]; rfl
theorem tra_d0 (n : Nat) (A : List Un) : traU (List.replicate n .d ++ A) [] = (List.replicate n .d ++ (traU A []).1, (traU A []).2) := by
  induction n with
  | zero => rfl
  | succ n ih => rw [List.replicate_succ, List.cons_append, traU, ih]; rfl
theorem tra_dd (n : Nat) (A B : List Un) : traU (List.replicate n .d ++ A) (List.replicate n .d ++ B) = ((traU A B).1, (traU A B).2) := by
  induction n with
  | zero => rfl
  | succ n ih => rw [List.replicate_succ, List.cons_append, List.cons_append, traU, ih]

theorem trs_st {ka kb m : Nat} {xa xb : List UInt8} {ua ub : List Un} (ha : Pc ka m xa (padk ua m)) (hb : Pc kb m xb (padk ub m)) (hka : ka ≠ 2) (hkb : kb ≠ 2) (hua : ua = [] ∨ m ≤ ua.length) (hub : ub = [] ∨ m ≤ ub.length) (hnn : ¬ (ua = [] ∧ ub = [])) (W1 W2 : Wr) (hm : 1 ≤ m) :
    (ka = 1 ∨ ka = 3) ∧ (kb = 1 ∨ kb = 3) ∧ stU W1 (traU ua ub).1 = stU (W1.trs ka kb m) (traU (ua.drop m) (ub.drop m)).1 ∧ stU W2 (traU ua ub).2 = stU (W2.trs kb ka m) (traU (ua.drop m) (ub.drop m)).2 := by
  have nod : ∀ {us : List Un}, us = [] → padk us m ≠ List.replicate m .d := by
    intro us e h
    rw [e, padk_nil] at h
    obtain ⟨m, rfl⟩ : ∃ k, m = k + 1 := ⟨m - 1, by omega⟩
    simp [List.replicate_succ] at h
  rcases ha with ⟨rfl, rfl, ea⟩ | ⟨rfl, rfl, ea⟩ | ⟨rfl, _⟩
  · rcases hb with ⟨rfl, rfl, eb⟩ | ⟨rfl, rfl, eb⟩ | ⟨rfl, _⟩
    · refine ⟨.inl rfl, .inl rfl, ?_⟩
      have hw : ∀ W : Wr, W.trs 1 1 m = W.keep m := fun _ => rfl
      rw [hw, hw]
      have key : traU ua ub = (List.replicate m .k ++ (traU (ua.drop m) (ub.drop m)).1, List.replicate m .k ++ (traU (ua.drop m) (ub.drop m)).2) := by
        rcases hua with rfl | hua
        · rcases hub with rfl | hub
          · exact absurd ⟨rfl, rfl⟩ hnn
          · conv => lhs; rw [padk_split hub, eb, tra_0k]
            simp
        · rcases hub with rfl | hub
          · conv => lhs; rw [padk_split hua, ea, tra_k0]
            simp
          · conv => lhs; rw [padk_split hua, padk_split hub, ea, eb, tra_kk]
      rw [key]
      exact ⟨stU_repk _ _ _, stU_repk _ _ _⟩
    · refine ⟨.inl rfl, .inr rfl, ?_⟩
      have hw : ∀ W : Wr, W.trs 1 3 m = W := fun _ => rfl
      have hw2 : ∀ W : Wr, W.trs 3 1 m = { W with gone := W.gone + m } := fun _ => rfl
      rw [hw, hw2]
      have key : traU ua ub = ((traU (ua.drop m) (ub.drop m)).1, List.replicate m .d ++ (traU (ua.drop m) (ub.drop m)).2) := by
        rcases hub with e | hub
        · exact absurd eb (nod e)
        · rcases hua with rfl | hua
          · conv => lhs; rw [padk_split hub, eb, tra_0d]
            simp
          · conv => lhs; rw [padk_split hua, padk_split hub, ea, eb, tra_kd]
      rw [key]
      exact ⟨rfl, stU_repd _ _ _⟩
    · exact absurd rfl hkb
  · rcases hua with e | hua
    · exact absurd ea (nod e)
    · rcases hb with ⟨rfl, rfl, eb⟩ | ⟨rfl, rfl, eb⟩ | ⟨rfl, _⟩
      · refine ⟨.inr rfl, .inl rfl, ?_⟩
        have hw : ∀ W : Wr, W.trs 1 3 m = W := fun _ => rfl
        have hw2 : ∀ W : Wr, W.trs 3 1 m = { W with gone := W.gone + m } := fun _ => rfl
        rw [hw, hw2]
        have key : traU ua ub = (List.replicate m .d ++ (traU (ua.drop m) (ub.drop m)).1, (traU (ua.drop m) (ub.drop m)).2) := by
          rcases hub with rfl | hub
          · conv => lhs; rw [padk_split hua, ea, tra_d0]
            simp
          · conv => lhs; rw [padk_split hua, padk_split hub, ea, eb, tra_dk]
        rw [key]
        exact ⟨stU_repd _ _ _, rfl⟩
      · refine ⟨.inr rfl, .inr rfl, ?_⟩
        have hw : ∀ W : Wr, W.trs 3 3 m = W := fun _ => rfl
        rw [hw, hw]
        have key : traU ua ub = ((traU (ua.drop m) (ub.drop m)).1, (traU (ua.drop m) (ub.drop m)).2) := by
          rcases hub with e | hub
          · exact absurd eb (nod e)
          · conv => lhs; rw [padk_split hua, padk_split hub, ea, eb, tra_dd]
        rw [key]
        exact ⟨rfl, rfl⟩
      · exact absurd rfl hkb
  · exact absurd rfl hka

theorem WB.trs {N ma mb ma' mb' m : Nat} {ua ub : List Un} {W : Wr} (kx ky : Nat) (h : WB N W (ma + mb) (ua.length + ub.length) (bytesU ua + bytesU ub)) (hua : ua = [] ∨ m ≤ ua.length) (hub : ub = [] ∨ m ≤ ub.length) (hnn : ¬ (ua = [] ∧ ub = [])) (hm : 1 ≤ m) (hq : ma' + mb' + 1 ≤ ma + mb) :
    WB N (W.trs kx ky m) (ma' + mb') ((ua.drop m).length + (ub.drop m).length) (bytesU (ua.drop m) + bytesU (ub.drop m)) := by
  obtain ⟨h1, h2, h3⟩ := h
  have d := drop_lens hua hub hnn
  have ba := pad_bytes hua
  have bb := pad_bytes hub
  unfold Wr.trs
  split
  · exact ⟨by omega, by omega, by omega⟩
  · split
    · obtain ⟨q1, q2⟩ := gone_size W m
      exact ⟨by omega, by omega, by show W.put.length + _ ≤ _; omega⟩
    · obtain ⟨q1, q2, q3⟩ := keep_size W m hm
      exact ⟨by omega, by omega, by omega⟩

theorem noI {V : Vw} {us : List Un} {m E kind n : Nat} {text : List UInt8} {v : Value} {fin : Bool} (h : CD V us m E kind n text v fin) (hk : kind ≠ 2) : ∀ c X, us ≠ .i c :: X := by
  intro c X
  rcases h.at with ⟨_, e, _⟩ | ⟨_, hn, _, _, pu, ru, rfl, hpc⟩
  · rw [e]; simp
  · obtain ⟨n, rfl⟩ : ∃ k, n = k + 1 := ⟨n - 1, by omega⟩
    rcases hpc with ⟨_, _, rfl⟩ | ⟨_, _, rfl⟩ | ⟨e, _⟩
    · simp [List.replicate_succ]
    · simp [List.replicate_succ]
    · exact absurd e hk

end Go.Proofs.Ytgoaihpaajchaaa
