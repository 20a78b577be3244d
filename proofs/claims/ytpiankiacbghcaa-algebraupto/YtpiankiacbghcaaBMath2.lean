/-
  Plain: operations that do the same are told by their normal forms; two at once and what undoes ask only for that.
  Plain: what the document's answers to Compose, Transform and Invert come to, beside the program's.
  Plain: an operation that is laid from the left, unit by unit; how Compose, Transform and Invert go on.
  Plain: how Transform and Invert go on.
-/
import Derived.Test.YtpiankiacbghcaaUMath2
import Derived.Test.YtpiankiacbghcaaRMath
namespace Go.Proofs.Ytpiankiacbghcaa

/-- a text is characters in one way alone. -/
theorem chars_unique : ∀ (cs cs' : List (List UInt8)), (∀ c ∈ cs, IsCh c) → (∀ c ∈ cs', IsCh c) → cs.flatten = cs'.flatten → cs = cs' := by
  intro cs
  induction cs with
  | nil =>
    intro cs' _ h' e
    exact (chs_nil h' e.symm).symm
  | cons c cs ih =>
    intro cs' h h' e
    cases cs' with
    | nil => exact absurd (chs_nil h e) (by simp)
    | cons c' cs' =>
      have hc := h c (by simp)
      have hc' := h' c' (by simp)
      have hl : c.length = c'.length := by
        have h1 := hc.2.2 ⟨(c ++ cs.flatten).toArray⟩ 0 (by simp [ByteArray.size]) (by simp)
        have h2 := hc'.2.2 ⟨(c' ++ cs'.flatten).toArray⟩ 0 (by simp [ByteArray.size]) (by simp)
        rw [List.flatten_cons, List.flatten_cons] at e
        rw [e] at h1
        rw [← h1.1, h2.1]
      rw [List.flatten_cons, List.flatten_cons] at e
      obtain ⟨e1, e2⟩ := List.append_inj e hl
      rw [e1, ih cs' (fun x hx => h x (by simp [hx])) (fun x hx => h' x (by simp [hx])) e2]

theorem Reads.unique {L : List Pt} {a : List Un} (h : Reads L a) : ∀ {b : List Un}, Reads L b → a = b := by
  induction h with
  | nil => intro b hb; cases hb; rfl
  | @k L us n hn h ih =>
    intro b hb
    generalize hq : K n :: L = Q at hb
    cases hb with
    | nil => cases hq
    | @k L' us' n' _ h' => simp only [K, List.cons.injEq, Pt.mk.injEq, true_and, and_true] at hq; obtain ⟨rfl, rfl⟩ := hq; rw [ih h']
    | @d L' us' n' _ h' => simp [K, D] at hq
    | @i L' us' cs _ _ h' => simp [K, I] at hq
  | @d L us n hn h ih =>
    intro b hb
    generalize hq : D n :: L = Q at hb
    cases hb with
    | nil => cases hq
    | @k L' us' n' _ h' => simp [K, D] at hq
    | @d L' us' n' _ h' => simp only [D, List.cons.injEq, Pt.mk.injEq, true_and, and_true] at hq; obtain ⟨rfl, rfl⟩ := hq; rw [ih h']
    | @i L' us' cs _ _ h' => simp [D, I] at hq
  | @i L us cs hc hne h ih =>
    intro b hb
    generalize hq : I cs.flatten :: L = Q at hb
    cases hb with
    | nil => cases hq
    | @k L' us' n' _ h' => simp [K, I] at hq
    | @d L' us' n' _ h' => simp [D, I] at hq
    | @i L' us' cs' hc' _ h' =>
      simp only [I, List.cons.injEq, Pt.mk.injEq, true_and] at hq
      obtain ⟨e, rfl⟩ := hq
      rw [ih h', chars_unique cs cs' hc hc' e]

/-- ONE NORMAL FORM: THEY DO THE SAME. -/
theorem eqv_of_norm {a b : List Un} (ha : OkU a) (hb : OkU b) (h : normU a = normU b) : Eqv a b := by
  obtain ⟨x, hx, ex⟩ := reads_norm a ha
  obtain ⟨y, hy, ey⟩ := reads_norm b hb
  rw [h] at hx
  rw [hx.unique hy] at ex
  exact ex.symm.trans ey

/-- units in which nothing is put in behind characters that go. -/
def Settled : Bool → List Un → Prop
  | _, [] => True
  | _, .k :: A => Settled false A
  | _, .d :: A => Settled true A
  | g, .i _ :: A => g = false ∧ Settled false A

theorem RdW.exact (us : List Un) : ∀ (w : Wr) (a : List Un), OkU us → RdW w a → Settled (decide (w.gone ≠ 0)) us → RdW (stU w us) (a ++ us) := by
  induction us with
  | nil => intro w a _ h _; rw [List.append_nil]; exact h
  | cons u us ih =>
    intro w a hu h hs
    cases u with
    | k =>
      rw [stU_k]
      have hs2 := h.settle
      obtain ⟨e1, e2⟩ := settle_kept w
      have hk : w.keep 1 = { w.settle with kept := w.settle.kept + 1 } := by simp [Wr.keep]
      obtain ⟨du, cs, h1, h2, h3, h4⟩ := hs2
      rw [e1] at h3
      have hc := chs_nil h2 h3.symm
      subst hc
      rw [e2] at h4
      have hn : RdW (w.keep 1) (a ++ [.k]) := by
        rw [hk]
        refine ⟨du, [], h1, by simp, by simp [e1], ?_⟩
        simp only [h4, e2, List.map_nil, List.replicate_zero, List.append_nil, List.append_assoc]
        rw [List.replicate_succ']
      have := ih _ _ hu.tail hn (by simp only [Settled] at hs; rw [hk]; simpa [e2] using hs)
      simpa using this
    | d =>
      rw [stU_d]
      obtain ⟨du, cs, h1, h2, h3, h4⟩ := h
      have hn : RdW { w with gone := w.gone + 1 } (a ++ [.d]) := by
        refine ⟨du, cs, h1, h2, h3, ?_⟩
        simp only [h4, List.append_assoc]
        rw [List.replicate_succ']
      have := ih _ _ hu.tail hn (by simp only [Settled] at hs; simpa using hs)
      simpa using this
    | i c =>
      rw [stU_i]
      simp only [Settled] at hs
      have hg : w.gone = 0 := by simpa using hs.1
      obtain ⟨du, cs, h1, h2, h3, h4⟩ := h
      have hn : RdW { w with put := w.put ++ c } (a ++ [.i c]) := by
        refine ⟨du, cs ++ [c], h1, ?_, by simp [h3], ?_⟩
        · intro x hx
          rcases List.mem_append.1 hx with e | e
          · exact h2 x e
          · simp at e; subst e; exact hu (.i x) (by simp)
        · simp [h4, hg]
      have := ih _ _ hu.tail hn (by simpa [hg] using hs.2)
      simpa using this

/-- what is settled is its normal form's units, and Keeps behind them. -/
theorem settled_reads {us : List Un} (hu : OkU us) (hs : Settled false us) : ∃ xs j, Reads (normU us) xs ∧ us = xs ++ List.replicate j .k := by
  have hb := RdW.exact us Wr.new [] hu ⟨[], [], .nil, by simp, rfl, rfl⟩ hs
  obtain ⟨du, cs, h1, h2, h3, h4⟩ := hb.settle
  obtain ⟨e1, e2⟩ := settle_kept (stU Wr.new us)
  rw [e1] at h3
  have hc := chs_nil h2 h3.symm
  subst hc
  rw [e2] at h4
  simp only [List.map_nil, List.replicate_zero, List.append_nil, List.nil_append] at h4
  exact ⟨du, _, by rw [normU_eq]; exact h1, h4⟩

/-- Keeps at the end are nothing to two at once. -/
theorem tra_tail1 : ∀ a b : List Un, Eqv (traU (a ++ [.k]) b).1 (traU a b).1 ∧ Eqv (traU (a ++ [.k]) b).2 (traU a b).2 := by
  refine two_ind ?_ ?_ ?_ ?_ ?_ ?_ ?_ ?_ ?_ ?_ ?_ ?_ ?_
  · intro c A B ih; simp only [List.cons_append, traU]; exact ⟨ih.1.cons _, ih.2.cons _⟩
  · simp only [List.nil_append, traU]; exact ⟨.tail [], .tail []⟩
  · intro c B ih; simp only [List.nil_append, traU] at *; exact ⟨ih.1.cons _, ih.2.cons _⟩
  · intro B _; simp only [List.nil_append, traU]; exact ⟨.refl _, .refl _⟩
  · intro B _; simp only [List.nil_append, traU]; exact ⟨.refl _, .refl _⟩
  · intro A ih; simp only [List.cons_append, traU]; exact ⟨ih.1.cons _, ih.2.cons _⟩
  · intro A c B ih; simp only [List.cons_append, traU] at *; exact ⟨ih.1.cons _, ih.2.cons _⟩
  · intro A B ih; simp only [List.cons_append, traU]; exact ⟨ih.1.cons _, ih.2.cons _⟩
  · intro A B ih; simp only [List.cons_append, traU]; exact ⟨ih.1, ih.2.cons _⟩
  · intro A ih; simp only [List.cons_append, traU]; exact ⟨ih.1.cons _, ih.2⟩
  · intro A c B ih; simp only [List.cons_append, traU] at *; exact ⟨ih.1.cons _, ih.2.cons _⟩
  · intro A B ih; simp only [List.cons_append, traU]; exact ⟨ih.1.cons _, ih.2⟩
  · intro A B ih; simp only [List.cons_append, traU]; exact ih
theorem tra_tail2 : ∀ a b : List Un, Eqv (traU a (b ++ [.k])).1 (traU a b).1 ∧ Eqv (traU a (b ++ [.k])).2 (traU a b).2 := by
  refine two_ind ?_ ?_ ?_ ?_ ?_ ?_ ?_ ?_ ?_ ?_ ?_ ?_ ?_
  · intro c A B ih; simp only [traU]; exact ⟨ih.1.cons _, ih.2.cons _⟩
  · simp only [List.nil_append, traU]; exact ⟨.tail [], .tail []⟩
  · intro c B ih; simp only [List.cons_append, traU]; exact ⟨ih.1.cons _, ih.2.cons _⟩
  · intro B ih; simp only [List.cons_append, traU]; exact ⟨ih.1.cons _, ih.2.cons _⟩
  · intro B ih; simp only [List.cons_append, traU]; exact ⟨ih.1, ih.2.cons _⟩
  · intro A _; simp only [List.nil_append, traU]; exact ⟨.refl _, .refl _⟩
  · intro A c B ih; simp only [List.cons_append, traU]; exact ⟨ih.1.cons _, ih.2.cons _⟩
  · intro A B ih; simp only [List.cons_append, traU]; exact ⟨ih.1.cons _, ih.2.cons _⟩
  · intro A B ih; simp only [List.cons_append, traU]; exact ⟨ih.1, ih.2.cons _⟩
  · intro A _; simp only [List.nil_append, traU]; exact ⟨.refl _, .refl _⟩
  · intro A c B ih; simp only [List.cons_append, traU]; exact ⟨ih.1.cons _, ih.2.cons _⟩
  · intro A B ih; simp only [List.cons_append, traU]; exact ⟨ih.1.cons _, ih.2⟩
  · intro A B ih; simp only [List.cons_append, traU]; exact ih
theorem tra_pad (a b : List Un) (i j : Nat) : Eqv (traU (a ++ List.replicate i .k) (b ++ List.replicate j .k)).1 (traU a b).1 ∧ Eqv (traU (a ++ List.replicate i .k) (b ++ List.replicate j .k)).2 (traU a b).2 := by
  induction i with
  | zero =>
    induction j with
    | zero => simp; exact ⟨.refl _, .refl _⟩
    | succ j ih =>
      rw [List.replicate_succ', ← List.append_assoc]
      have h := tra_tail2 (a ++ List.replicate 0 .k) (b ++ List.replicate j .k)
      exact ⟨h.1.trans ih.1, h.2.trans ih.2⟩
  | succ i ih =>
    rw [List.replicate_succ', ← List.append_assoc]
    have h := tra_tail1 (a ++ List.replicate i .k) (b ++ List.replicate j .k)
    exact ⟨h.1.trans ih.1, h.2.trans ih.2⟩

/-- what undoes asks only for what was done. -/
theorem inv_pre (x : List Un) : ∀ cs, ∃ P cs', ∀ y, invU (x ++ y) cs = P ++ invU y cs' := by
  induction x with
  | nil => intro cs; exact ⟨[], cs, fun y => rfl⟩
  | cons u x ih =>
    intro cs
    cases u with
    | k => obtain ⟨P, c, h⟩ := ih (cs.drop 1); exact ⟨.k :: P, c, fun y => by rw [List.cons_append, invU, h]; rfl⟩
    | i e => obtain ⟨P, c, h⟩ := ih cs; exact ⟨.d :: P, c, fun y => by rw [List.cons_append, invU, h]; rfl⟩
    | d =>
      cases cs with
      | nil => obtain ⟨P, c, h⟩ := ih []; exact ⟨P, c, fun y => by rw [List.cons_append, invU, h]⟩
      | cons e cs => obtain ⟨P, c, h⟩ := ih cs; exact ⟨.i e :: P, c, fun y => by rw [List.cons_append, invU, h]; rfl⟩
theorem Eqv.inv {a b : List Un} (h : Eqv a b) (cs : List (List UInt8)) : Eqv (invU a cs) (invU b cs) := by
  induction h with
  | refl a => exact .refl _
  | symm _ ih => exact ih.symm
  | trans _ _ ih1 ih2 => exact ih1.trans ih2
  | swap x c y =>
    obtain ⟨P, c', h⟩ := inv_pre x cs
    rw [h, h]
    refine Eqv.pre P ?_
    cases c' with
    | nil => simp only [invU]; exact .refl _
    | cons e c' => simp only [invU]; exact (Eqv.swap [] e _).symm
  | tail x =>
    obtain ⟨P, c', h⟩ := inv_pre x cs
    have h2 := h []
    rw [List.append_nil] at h2
    rw [h, h2]
    simp only [invU]
    rw [List.append_nil]
    exact .tail P

def uN (b : Bool) : Un := if b then .d else .k
/-- what an operation does, as units. -/
def unitsN : List Bool → List (List (List UInt8)) → List Un
  | b :: G, x :: r => x.map .i ++ (uN b :: unitsN G r)
  | [], x :: _ => x.map .i
  | _, [] => []

theorem map_i_pt (x : List (List UInt8)) : (x.map Un.i).map Un.pt = x.map I := by simp [Un.pt, Function.comp_def]
theorem unitsN_pt : ∀ (G : List Bool) (X : List (List (List UInt8))), (unitsN G X).map Un.pt = units G X
  | [], [] => rfl
  | b :: G, [] => rfl
  | [], x :: r => by rw [unitsN, units, map_i_pt]
  | b :: G, x :: r => by
    rw [unitsN, units, List.map_append, List.map_cons, map_i_pt, unitsN_pt G r]
    cases b <;> rfl
theorem normU_units (G : List Bool) (X : List (List (List UInt8))) : normU (unitsN G X) = norm (units G X) := by rw [normU, unitsN_pt]

def ChX (X : List (List (List UInt8))) : Prop := ∀ x ∈ X, ∀ c ∈ x, IsCh c
theorem unitsN_ok : ∀ (G : List Bool) (X : List (List (List UInt8))), ChX X → OkU (unitsN G X)
  | [], [], _ => .nil
  | b :: G, [], _ => .nil
  | [], x :: r, h => fun u hu => by
    obtain ⟨c, hc, rfl⟩ := List.mem_map.1 hu
    exact h x (by simp) c hc
  | b :: G, x :: r, h => by
    refine .append (fun u hu => ?_) (.cons (by cases b <;> trivial) (unitsN_ok G r (fun y hy => h y (by simp [hy]))))
    obtain ⟨c, hc, rfl⟩ := List.mem_map.1 hu
    exact h x (by simp) c hc

theorem settled_is (x : List (List UInt8)) (g : Bool) (A : List Un) (hg : g = true → x = []) (h : Settled (if x = [] then g else false) A) : Settled g (x.map .i ++ A) := by
  induction x generalizing g with
  | nil => simpa using h
  | cons c x ih =>
    have hgf : g = false := by cases g with | false => rfl | true => exact absurd (hg rfl) (by simp)
    refine ⟨hgf, ih false (fun e => by cases e) ?_⟩
    simp only [List.cons_ne_nil, if_false] at h
    split <;> exact h

theorem settled_units : ∀ (G : List Bool) (X : List (List (List UInt8))) (g : Bool), X.length = G.length + 1 → SetOK G X → (g = true → X.headD [] = []) → Settled g (unitsN G X)
  | [], [], _, h, _, _ => by simp at h
  | b :: G, [], _, h, _, _ => by simp at h
  | [], x :: r, g, _, _, hg => by
    have := settled_is x g [] hg (by split <;> trivial)
    simpa [unitsN] using this
  | b :: G, x :: r, g, hl, hs, hg => by
    refine settled_is x g _ hg ?_
    have ih := settled_units G r b (by simpa using hl) hs.2 hs.1
    cases b with
    | false => exact ih
    | true => exact ih

/-- COMPOSE. -/
theorem comp_doc {Ga Gb Gt : List Bool} {Xa Xb Xt : List (List (List UInt8))} {us vs : List Un} (ca : ChX Xa) (cb : ChX Xb) (hu : OkU us) (hv : OkU vs) (hA : normU (unitsN Ga Xa) = normU us) (hB : normU (unitsN Gb Xb) = normU vs)
    (ht : unitsN Gt Xt = compU (unitsN Ga Xa) (unitsN Gb Xb)) : normU (unitsN Gt Xt) = normU (compU us vs) := by
  rw [ht]
  have e1 := eqv_of_norm (unitsN_ok Ga Xa ca) hu hA
  have e2 := eqv_of_norm (unitsN_ok Gb Xb cb) hv hB
  exact ((e1.comp1 _).trans (e2.comp2 us)).norm

/-- TRANSFORM. -/
theorem tra_doc {Ga Gb : List Bool} {Xa Xb : List (List (List UInt8))} {us vs xs ys : List Un} (ca : ChX Xa) (cb : ChX Xb) (la : Xa.length = Ga.length + 1) (lb : Xb.length = Gb.length + 1) (sa : SetOK Ga Xa) (sb : SetOK Gb Xb)
    (hA : normU (unitsN Ga Xa) = normU us) (hB : normU (unitsN Gb Xb) = normU vs) (hx : Reads (normU us) xs) (hy : Reads (normU vs) ys) :
    normU (traU (unitsN Ga Xa) (unitsN Gb Xb)).1 = normU (traU xs ys).1 ∧ normU (traU (unitsN Ga Xa) (unitsN Gb Xb)).2 = normU (traU xs ys).2 := by
  obtain ⟨x, i, rx, ex⟩ := settled_reads (unitsN_ok Ga Xa ca) (settled_units Ga Xa false la sa (fun e => by cases e))
  obtain ⟨y, j, ry, ey⟩ := settled_reads (unitsN_ok Gb Xb cb) (settled_units Gb Xb false lb sb (fun e => by cases e))
  rw [hA] at rx
  rw [hB] at ry
  have e1 := rx.unique hx
  have e2 := ry.unique hy
  subst e1 e2
  rw [ex, ey]
  have h := tra_pad x y i j
  exact ⟨h.1.norm, h.2.norm⟩

/-- INVERT. -/
theorem inv_doc {G Gt : List Bool} {X Xt : List (List (List UInt8))} {us : List Un} {cs : List (List UInt8)} (ca : ChX X) (hu : OkU us) (hA : normU (unitsN G X) = normU us) (ht : unitsN Gt Xt = invU (unitsN G X) cs) : normU (unitsN Gt Xt) = normU (invU us cs) := by
  rw [ht]
  exact ((eqv_of_norm (unitsN_ok G X ca) hu hA).inv cs).norm

/-- how many characters are left. -/
theorem outU_units : ∀ (G : List Bool) (X : List (List (List UInt8))), X.length = G.length + 1 → outU (unitsN G X) = (G.filter (fun b => !b)).length + (X.map List.length).sum ∧ inU (unitsN G X) = G.length
  | [], [], h => by simp at h
  | b :: G, [], h => by simp at h
  | [], x :: r, h => by
    have hr : r = [] := List.length_eq_zero_iff.1 (by simpa using h)
    subst hr
    have := is_nums x
    simp only [unitsN, List.filter_nil, List.length_nil, List.map_cons, List.map_nil, List.sum_cons, List.sum_nil]
    omega
  | b :: G, x :: r, h => by
    have ih := outU_units G r (by simpa using h)
    have := is_nums x
    rw [unitsN, outU_append, inU_append]
    cases b
    · rw [show uN false = Un.k from rfl, show outU (Un.k :: unitsN G r) = outU (unitsN G r) + 1 from rfl, show inU (Un.k :: unitsN G r) = inU (unitsN G r) + 1 from rfl]
      simp
      omega
    · rw [show uN true = Un.d from rfl, show outU (Un.d :: unitsN G r) = outU (unitsN G r) from rfl, show inU (Un.d :: unitsN G r) = inU (unitsN G r) + 1 from rfl]
      simp
      omega

/-- the units up to a place. -/
def upN (G : List Bool) (Y : List (List (List UInt8))) : Nat → List Un
  | 0 => []
  | g + 1 => upN G Y g ++ ((Y.getD g []).map Un.i ++ [uN (G.getD g false)])

theorem upN_cons (b : Bool) (G : List Bool) (x : List (List UInt8)) (Y : List (List (List UInt8))) : ∀ g, upN (b :: G) (x :: Y) (g + 1) = x.map Un.i ++ (uN b :: upN G Y g)
  | 0 => by simp [upN]
  | g + 1 => by
    rw [upN, upN_cons b G x Y g, upN]
    simp

theorem unitsN_up : ∀ (G : List Bool) (Y : List (List (List UInt8))), Y.length = G.length + 1 → unitsN G Y = upN G Y G.length ++ (Y.getD G.length []).map Un.i
  | [], [], h => by simp at h
  | b :: G, [], h => by simp at h
  | [], x :: Y, _ => by simp [unitsN, upN]
  | b :: G, x :: Y, h => by
    have ih := unitsN_up G Y (by simpa using h)
    rw [unitsN, ih, List.length_cons, upN_cons]
    simp

theorem upN_congr {G G' : List Bool} {Y Y' : List (List (List UInt8))} : ∀ g, (∀ j, j < g → G.getD j false = G'.getD j false) → (∀ j, j < g → Y.getD j [] = Y'.getD j []) → upN G Y g = upN G' Y' g
  | 0, _, _ => rfl
  | g + 1, h1, h2 => by
    rw [upN, upN, upN_congr g (fun j hj => h1 j (by omega)) (fun j hj => h2 j (by omega)), h1 g (by omega), h2 g (by omega)]

theorem setD_self {α : Type} (l : List α) (k : Nat) (x d : α) (hk : k < l.length) : (l.set k x).getD k d = x := by
  rw [List.getD_eq_getElem?_getD, List.getElem?_set]
  simp [hk]
theorem setD_ne {α : Type} (l : List α) (k j : Nat) (x d : α) (h : k ≠ j) : (l.set k x).getD j d = l.getD j d := by
  rw [List.getD_eq_getElem?_getD, List.getD_eq_getElem?_getD, List.getElem?_set_ne h]

/-- what is laid so far, and what is still to come, are the whole. -/
structure LaidC (W R : List Un) (m g : Nat) (Gd : List Bool) (G : List Bool) (X : List (List (List UInt8))) : Prop where
  gl : G.length = m
  xl : X.length = m + 1
  le : g ≤ m
  un : upN G X g ++ ((X.getD g []).map Un.i ++ R) = W
  gf : ∀ j, g ≤ j → G.getD j false = Gd.getD j false
  xe : ∀ j, g < j → X.getD j [] = []

theorem repD {α : Type} (n j : Nat) (x : α) : (List.replicate n x).getD j x = x := by
  rw [List.getD_eq_getElem?_getD, List.getElem?_replicate]
  split <;> rfl

theorem laidC_new (W : List Un) (Gd : List Bool) (m : Nat) (hm : Gd.length = m) : LaidC W W m 0 Gd Gd (List.replicate (m + 1) []) :=
  ⟨hm, by simp, Nat.zero_le _, by rw [repD]; rfl, fun _ _ => rfl, fun j _ => repD _ _ _⟩

theorem LaidC.put {W R : List Un} {m g : Nat} {Gd G : List Bool} {X : List (List (List UInt8))} (cs : List (List UInt8)) (h : LaidC W (cs.map Un.i ++ R) m g Gd G X) (hg : g < X.length) : LaidC W R m g Gd G (X.set g (X[g] ++ cs)) := by
  have hx : X.getD g [] = X[g] := by rw [List.getD_eq_getElem?_getD, List.getElem?_eq_getElem hg]; rfl
  refine ⟨h.gl, by simpa using h.xl, h.le, ?_, h.gf, fun j hj => ?_⟩
  · rw [setD_self _ _ _ _ hg, ← h.un, hx, upN_congr (Y' := X) g (fun _ _ => rfl) (fun j hj => setD_ne _ _ _ _ _ (by omega))]
    simp
  · rw [setD_ne _ _ _ _ _ (by omega)]
    exact h.xe j hj

theorem LaidC.mark {W R : List Un} {m g : Nat} {Gd G : List Bool} {X : List (List (List UInt8))} (b : Bool) (h : LaidC W (uN b :: R) m g Gd G X) (hg : g < m) : LaidC W R m (g + 1) Gd (G.set g b) X := by
  refine ⟨by simpa using h.gl, h.xl, hg, ?_, fun j hj => ?_, fun j hj => h.xe j (by omega)⟩
  · rw [h.xe (g + 1) (by omega), upN, setD_self _ _ _ _ (by rw [h.gl]; exact hg), upN_congr (G' := G) g (fun j hj => setD_ne _ _ _ _ _ (by omega)) (fun _ _ => rfl), ← h.un]
    simp
  · rw [setD_ne _ _ _ _ _ (by omega)]
    exact h.gf j (by omega)

theorem LaidC.stay {W R : List Un} {m g : Nat} {Gd G : List Bool} {X : List (List (List UInt8))} (b : Bool) (h : LaidC W (uN b :: R) m g Gd G X) (hg : g < m) (hb : Gd.getD g false = b) : LaidC W R m (g + 1) Gd G X := by
  refine ⟨h.gl, h.xl, hg, ?_, fun j hj => h.gf j (by omega), fun j hj => h.xe j (by omega)⟩
  rw [h.xe (g + 1) (by omega), upN, h.gf g (Nat.le_refl _), hb, ← h.un]
  simp

theorem LaidC.skip {W R : List Un} {m : Nat} {Gd G : List Bool} {X : List (List (List UInt8))} (hf : ∀ j, Gd.getD j false = false) : ∀ (n g : Nat), LaidC W (List.replicate n Un.k ++ R) m g Gd G X → g + n ≤ m → LaidC W R m (g + n) Gd G X
  | 0, g, h, _ => by simpa using h
  | n + 1, g, h, hg => by
    rw [List.replicate_succ, List.cons_append] at h
    have := LaidC.skip hf n (g + 1) (h.stay false (by omega) (hf g)) (by omega)
    rw [show g + (n + 1) = g + 1 + n by omega]
    exact this

theorem LaidC.done {W : List Un} {m : Nat} {Gd G : List Bool} {X : List (List (List UInt8))} (h : LaidC W [] m m Gd G X) : unitsN G X = W := by
  rw [unitsN_up G X (by rw [h.xl, h.gl]), h.gl, ← h.un, List.append_nil]

theorem bytesU_is (x : List (List UInt8)) : bytesU (x.map Un.i) = x.flatten.length := by
  have := (is_nums x).2.2
  simpa using this

/-- sizes, out of the whole's. -/
theorem LaidC.gap {W R : List Un} {m g : Nat} {Gd G : List Bool} {X : List (List (List UInt8))} (h : LaidC W R m g Gd G X) (ho : OkU W) : (X.getD g []).length ≤ bytesU W := by
  rw [← h.un] at ho
  rw [← h.un, bytesU_append, bytesU_append, bytesU_is]
  have hc : ∀ c ∈ X.getD g [], IsCh c := fun c hc => ho (.i c) (List.mem_append_right _ (List.mem_append_left _ (List.mem_map_of_mem hc)))
  have : (X.getD g []).length ≤ (X.getD g []).flatten.length := by
    generalize X.getD g [] = x at hc
    induction x with
    | nil => simp
    | cons c x ih =>
      have h1 := ih fun d hd => hc d (by simp [hd])
      have h2 := (hc c (by simp)).1
      simp only [List.length_cons, List.flatten_cons, List.length_append]
      omega
  omega

theorem chX_of_units : ∀ (G : List Bool) (X : List (List (List UInt8))), X.length = G.length + 1 → OkU (unitsN G X) → ChX X
  | [], [], h, _ => by simp at h
  | b :: G, [], h, _ => by simp at h
  | [], x :: r, h, ho => by
    have hr : r = [] := List.length_eq_zero_iff.1 (by simpa using h)
    subst hr
    intro y hy c hc
    simp only [List.mem_cons, List.not_mem_nil, or_false] at hy
    subst hy
    exact ho (.i c) (List.mem_map_of_mem hc)
  | b :: G, x :: r, h, ho => by
    have ih := chX_of_units G r (by simpa using h) fun u hu => ho u (List.mem_append_right _ (List.mem_cons_of_mem _ hu))
    intro y hy c hc
    rcases List.mem_cons.1 hy with rfl | hy
    · exact ho (.i c) (List.mem_append_left _ (List.mem_map_of_mem hc))
    · exact ih y hy c hc

theorem bytes_units : ∀ (G : List Bool) (X : List (List (List UInt8))), X.length = G.length + 1 → bytesU (unitsN G X) = (X.map fun x => x.flatten.length).sum
  | [], [], h => by simp at h
  | b :: G, [], h => by simp at h
  | [], x :: r, h => by
    have hr : r = [] := List.length_eq_zero_iff.1 (by simpa using h)
    subst hr
    rw [unitsN, bytesU_is]
    simp
  | b :: G, x :: r, h => by
    have ih := bytes_units G r (by simpa using h)
    rw [unitsN, bytesU_append, bytesU_is, List.map_cons, List.sum_cons, ← ih]
    cases b <;> rfl

theorem compU_ins_i (c : List UInt8) (A : List Un) (B : List Un) : ∀ xb : List (List UInt8), compU (.i c :: A) (xb.map Un.i ++ B) = xb.map Un.i ++ compU (.i c :: A) B
  | [] => rfl
  | e :: xb => by rw [List.map_cons, List.cons_append, compU, compU_ins_i c A B xb]; rfl
theorem compU_ins_k (A : List Un) (B : List Un) : ∀ xb : List (List UInt8), compU (.k :: A) (xb.map Un.i ++ B) = xb.map Un.i ++ compU (.k :: A) B
  | [] => rfl
  | e :: xb => by rw [List.map_cons, List.cons_append, compU, compU_ins_k A B xb]; rfl
theorem compU_ins_0 : ∀ xb : List (List UInt8), compU [] (xb.map Un.i) = xb.map Un.i
  | [] => by simp [compU]
  | e :: xb => by rw [List.map_cons, compU, compU_ins_0 xb]

theorem unitsN_drop (G : List Bool) (X : List (List (List UInt8))) (k : Nat) (hk : k < G.length) (hx : X.length = G.length + 1) : unitsN (G.drop k) (X.drop k) = (X[k]).map Un.i ++ (uN G[k] :: unitsN (G.drop (k + 1)) (X.drop (k + 1))) := by
  rw [List.drop_eq_getElem_cons hk, List.drop_eq_getElem_cons (show k < X.length by omega), unitsN]
theorem unitsN_last (G : List Bool) (X : List (List (List UInt8))) (hx : X.length = G.length + 1) : unitsN (G.drop G.length) (X.drop G.length) = (X[G.length]).map Un.i := by
  rw [List.drop_length, List.drop_eq_getElem_cons (show G.length < X.length by omega), unitsN]

theorem then_i (c : List UInt8) (A : List Un) (G : List Bool) (X : List (List (List UInt8))) (k : Nat) (hk : k < G.length) (hx : X.length = G.length + 1) :
    compU (.i c :: A) (unitsN (G.drop k) (X.drop k)) = (X[k]).map Un.i ++ ((if G[k] then [] else [Un.i c]) ++ compU A (unitsN (G.drop (k + 1)) (X.drop (k + 1)))) := by
  rw [unitsN_drop G X k hk hx, compU_ins_i]
  cases G[k] <;> simp [uN, compU]
theorem then_k (A : List Un) (G : List Bool) (X : List (List (List UInt8))) (k : Nat) (hk : k < G.length) (hx : X.length = G.length + 1) :
    compU (.k :: A) (unitsN (G.drop k) (X.drop k)) = (X[k]).map Un.i ++ (uN G[k] :: compU A (unitsN (G.drop (k + 1)) (X.drop (k + 1)))) := by
  rw [unitsN_drop G X k hk hx, compU_ins_k]
  cases G[k] <;> simp [uN, compU]
theorem then_end (G : List Bool) (X : List (List (List UInt8))) (hx : X.length = G.length + 1) : compU [] (unitsN (G.drop G.length) (X.drop G.length)) = (X[G.length]).map Un.i := by
  rw [unitsN_last G X hx, compU_ins_0]

theorem trb_is (A B : List Un) : ∀ x : List (List UInt8), traU (x.map Un.i ++ A) B = (x.map Un.i ++ (traU A B).1, List.replicate x.length Un.k ++ (traU A B).2)
  | [] => rfl
  | c :: x => by
    rw [List.map_cons, List.cons_append, traU, trb_is A B x]
    rfl

/-- where a has nothing more to put in here. -/
def NoI : List Un → Prop
  | .i _ :: _ => False
  | _ => True

theorem trb_other (A : List Un) (hA : NoI A) (B : List Un) : ∀ y : List (List UInt8), traU A (y.map Un.i ++ B) = (List.replicate y.length Un.k ++ (traU A B).1, y.map Un.i ++ (traU A B).2)
  | [] => rfl
  | c :: y => by
    have ih := trb_other A hA B y
    cases A with
    | nil => rw [List.map_cons, List.cons_append, traU, ih]; rfl
    | cons u A =>
      cases u with
      | i c => exact absurd hA (by simp [NoI])
      | k => rw [List.map_cons, List.cons_append, traU, ih]; rfl
      | d => rw [List.map_cons, List.cons_append, traU, ih]; rfl

theorem trb_mark (a b : Bool) (A B : List Un) : traU (uN a :: A) (uN b :: B) = ((if b then [] else [uN a]) ++ (traU A B).1, (if a then [] else [uN b]) ++ (traU A B).2) := by
  cases a <;> cases b <;> simp [uN, traU]

/-- one gap and one character. -/
theorem trb_step (Ga Gb : List Bool) (Xa Xb : List (List (List UInt8))) (g : Nat) (ha : g < Ga.length) (hb : g < Gb.length) (la : Xa.length = Ga.length + 1) (lb : Xb.length = Gb.length + 1) :
    traU (unitsN (Ga.drop g) (Xa.drop g)) (unitsN (Gb.drop g) (Xb.drop g)) =
      ((Xa[g]).map Un.i ++ (List.replicate (Xb[g]).length Un.k ++ ((if Gb[g] then [] else [uN Ga[g]]) ++ (traU (unitsN (Ga.drop (g + 1)) (Xa.drop (g + 1))) (unitsN (Gb.drop (g + 1)) (Xb.drop (g + 1)))).1)),
       List.replicate (Xa[g]).length Un.k ++ ((Xb[g]).map Un.i ++ ((if Ga[g] then [] else [uN Gb[g]]) ++ (traU (unitsN (Ga.drop (g + 1)) (Xa.drop (g + 1))) (unitsN (Gb.drop (g + 1)) (Xb.drop (g + 1)))).2))) := by
  rw [unitsN_drop Ga Xa g ha la, unitsN_drop Gb Xb g hb lb, trb_is, trb_other _ (by cases Ga[g] <;> simp [uN, NoI]), trb_mark]

theorem unitsN_at (G : List Bool) (X : List (List (List UInt8))) (g : Nat) (hg : g = G.length) (hx : X.length = G.length + 1) : unitsN (G.drop g) (X.drop g) = (X[g]'(by omega)).map Un.i := by
  subst hg
  exact unitsN_last G X hx

theorem trb_end (Ga Gb : List Bool) (Xa Xb : List (List (List UInt8))) (g : Nat) (ha : g = Ga.length) (hb : g = Gb.length) (la : Xa.length = Ga.length + 1) (lb : Xb.length = Gb.length + 1) :
    traU (unitsN (Ga.drop g) (Xa.drop g)) (unitsN (Gb.drop g) (Xb.drop g)) =
      ((Xa[g]'(by omega)).map Un.i ++ (List.replicate (Xb[g]'(by omega)).length Un.k ++ []), List.replicate (Xa[g]'(by omega)).length Un.k ++ ((Xb[g]'(by omega)).map Un.i ++ [])) := by
  rw [unitsN_at Ga Xa g ha la, unitsN_at Gb Xb g hb lb]
  have h1 := trb_is [] ((Xb[g]'(by omega)).map Un.i) (Xa[g]'(by omega))
  rw [List.append_nil] at h1
  have h2 := trb_other [] trivial [] (Xb[g]'(by omega))
  rw [List.append_nil] at h2
  rw [h1, h2]
  simp [traU]

theorem outU_drop (G : List Bool) (X : List (List (List UInt8))) (g : Nat) (hg : g < G.length) (hx : X.length = G.length + 1) : outU (unitsN (G.drop g) (X.drop g)) = (X[g]).length + ((if G[g] then 0 else 1) + outU (unitsN (G.drop (g + 1)) (X.drop (g + 1)))) := by
  rw [unitsN_drop G X g hg hx, outU_append, (is_nums _).2.1]
  cases G[g] <;> simp [uN, outU] <;> omega
theorem outU_at (G : List Bool) (X : List (List (List UInt8))) (g : Nat) (hg : g = G.length) (hx : X.length = G.length + 1) : outU (unitsN (G.drop g) (X.drop g)) = (X[g]'(by omega)).length := by
  rw [unitsN_at G X g hg hx, (is_nums _).2.1]

theorem inw_is (A : List Un) (cs : List (List UInt8)) : ∀ x : List (List UInt8), invU (x.map Un.i ++ A) cs = List.replicate x.length Un.d ++ invU A cs
  | [] => rfl
  | c :: x => by rw [List.map_cons, List.cons_append, invU, inw_is A cs x]; rfl
theorem inw_mark (b : Bool) (A : List Un) (cs : List (List UInt8)) (k : Nat) (hk : k < cs.length) : invU (uN b :: A) (cs.drop k) = (if b then Un.i cs[k] else Un.k) :: invU A (cs.drop (k + 1)) := by
  rw [List.drop_eq_getElem_cons hk]
  cases b
  · show invU (.k :: A) (cs[k] :: cs.drop (k + 1)) = _
    rw [invU]
    rfl
  · show invU (.d :: A) (cs[k] :: cs.drop (k + 1)) = _
    rw [invU]
    rfl

end Go.Proofs.Ytpiankiacbghcaa
