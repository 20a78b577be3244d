/-
  Plain: operations as units (one character at a time): what comes of two, one behind the other.
-/
import Derived.Test.YtgoaihpaajchaaaPure
namespace Go.Proofs.Ytgoaihpaajchaaa

inductive Un where
  | k
  | d
  | i (c : List UInt8)

def Un.pt : Un → Pt
  | .k => K 1
  | .d => D 1
  | .i c => I c
def Un.ok : Un → Prop
  | .i c => IsCh c
  | _ => True
def OkU (us : List Un) : Prop := ∀ u ∈ us, u.ok
theorem OkU.tail {u : Un} {us : List Un} (h : OkU (u :: us)) : OkU us := fun v hv => h v (by simp [hv])
theorem OkU.cons {u : Un} {us : List Un} (h : u.ok) (hs : OkU us) : OkU (u :: us) := fun v hv => by
  rcases List.mem_cons.1 hv with e | e
  · exact e ▸ h
  · exact hs v e
theorem OkU.append {a b : List Un} (ha : OkU a) (hb : OkU b) : OkU (a ++ b) := fun v hv => by
  rcases List.mem_append.1 hv with e | e
  · exact ha v e
  · exact hb v e
theorem OkU.nil : OkU [] := fun v hv => by cases hv

def stU (w : Wr) (us : List Un) : Wr := steps w (us.map Un.pt)
def normU (us : List Un) : List Pt := norm (us.map Un.pt)
theorem normU_eq (us : List Un) : normU us = (stU Wr.new us).settle.done := rfl
theorem stU_nil (w : Wr) : stU w [] = w := rfl
theorem stU_k (w : Wr) (us : List Un) : stU w (.k :: us) = stU (w.keep 1) us := by simp [stU, steps, Un.pt, Wr.step, K]
theorem stU_d (w : Wr) (us : List Un) : stU w (.d :: us) = stU { w with gone := w.gone + 1 } us := by simp [stU, steps, Un.pt, Wr.step, D]
theorem stU_i (w : Wr) (c : List UInt8) (us : List Un) : stU w (.i c :: us) = stU { w with put := w.put ++ c } us := by simp [stU, steps, Un.pt, Wr.step, I]
theorem stU_append (w : Wr) (a b : List Un) : stU w (a ++ b) = stU (stU w a) b := by simp [stU, steps]

theorem ukeep_keep (w : Wr) (a b : Nat) : (w.keep a).keep b = w.keep (a + b) := by
  unfold Wr.keep
  by_cases ha : a = 0
  · simp [ha]
  · by_cases hb : b = 0
    · simp [ha, hb]
    · have h1 := settle_kept w
      have h2 : ¬ (a + b = 0) := by omega
      simp only [ha, hb, h2, if_false]
      have hs : ({ w.settle with kept := w.settle.kept + a } : Wr).settle = { w.settle with kept := w.settle.kept + a } := by
        rw [Wr.settle]
        simp [h1.1, h1.2]
      rw [hs]
      simp [Nat.add_assoc]
theorem stU_repk (n : Nat) : ∀ (w : Wr) (us : List Un), stU w (List.replicate n .k ++ us) = stU (w.keep n) us := by
  induction n with
  | zero => intro w us; simp [Wr.keep]
  | succ n ih => intro w us; rw [List.replicate_succ, List.cons_append, stU_k, ih, ukeep_keep, Nat.add_comm]
theorem stU_repd (n : Nat) : ∀ (w : Wr) (us : List Un), stU w (List.replicate n .d ++ us) = stU { w with gone := w.gone + n } us := by
  induction n with
  | zero => intro w us; simp
  | succ n ih => intro w us; rw [List.replicate_succ, List.cons_append, stU_d, ih]; simp [Nat.add_assoc, Nat.add_comm 1 n]
theorem stU_is (cs : List (List UInt8)) : ∀ (w : Wr) (us : List Un), stU w (cs.map .i ++ us) = stU { w with put := w.put ++ cs.flatten } us := by
  induction cs with
  | nil => intro w us; simp
  | cons c cs ih => intro w us; rw [List.map_cons, List.cons_append, stU_i, ih]; simp

/-- operations that do the same, as their units tell. -/
inductive Eqv : List Un → List Un → Prop
  | refl (a) : Eqv a a
  | symm {a b} : Eqv a b → Eqv b a
  | trans {a b c} : Eqv a b → Eqv b c → Eqv a c
  | swap (x) (c) (y) : Eqv (x ++ .d :: .i c :: y) (x ++ .i c :: .d :: y)
  | tail (x) : Eqv (x ++ [.k]) x

theorem Eqv.pre (p : List Un) {a b : List Un} (h : Eqv a b) : Eqv (p ++ a) (p ++ b) := by
  induction h with
  | refl a => exact .refl _
  | symm _ ih => exact ih.symm
  | trans _ _ ih1 ih2 => exact ih1.trans ih2
  | swap x c y => rw [← List.append_assoc, ← List.append_assoc]; exact .swap _ _ _
  | tail x => rw [← List.append_assoc]; exact .tail _
theorem Eqv.cons (u : Un) {a b : List Un} (h : Eqv a b) : Eqv (u :: a) (u :: b) := h.pre [u]

theorem Eqv.norm {a b : List Un} (h : Eqv a b) : normU a = normU b := by
  induction h with
  | refl a => rfl
  | symm _ ih => exact ih.symm
  | trans _ _ ih1 ih2 => exact ih1.trans ih2
  | swap x c y => rw [normU_eq, normU_eq, stU_append, stU_append, stU_d, stU_i, stU_i, stU_d]
  | tail x =>
    rw [normU_eq, normU_eq, stU_append, stU_k, stU_nil]
    generalize stU Wr.new x = w
    have h1 := settle_kept w
    have hk : w.keep 1 = { w.settle with kept := w.settle.kept + 1 } := by simp [Wr.keep]
    rw [hk]
    have hs : ({ w.settle with kept := w.settle.kept + 1 } : Wr).settle = { w.settle with kept := w.settle.kept + 1 } := by
      rw [Wr.settle]; simp [h1.1, h1.2]
    rw [hs]

def applyU : List Un → List (List UInt8) → List (List UInt8)
  | [], cs => cs
  | .k :: A, cs => cs.take 1 ++ applyU A (cs.drop 1)
  | .d :: A, cs => applyU A (cs.drop 1)
  | .i c :: A, cs => c :: applyU A cs

theorem applyU_pt (us : List Un) : ∀ cs, applyP (us.map Un.pt) cs = (applyU us cs).flatten := by
  induction us with
  | nil => intro cs; rfl
  | cons u us ih =>
    intro cs
    cases u with
    | k => simp [applyP, applyU, Un.pt, K, ih]
    | d => simp [applyP, applyU, Un.pt, D, ih]
    | i c => simp [applyP, applyU, Un.pt, I, ih]

theorem applyU_pre (x : List Un) : ∀ cs, ∃ l r, ∀ y, applyU (x ++ y) cs = l ++ applyU y r := by
  induction x with
  | nil => intro cs; exact ⟨[], cs, fun y => rfl⟩
  | cons u x ih =>
    intro cs
    cases u with
    | k => obtain ⟨l, r, h⟩ := ih (cs.drop 1); exact ⟨cs.take 1 ++ l, r, fun y => by simp only [List.cons_append, applyU, h y, List.append_assoc]⟩
    | d => obtain ⟨l, r, h⟩ := ih (cs.drop 1); exact ⟨l, r, fun y => by simp only [List.cons_append, applyU, h y]⟩
    | i c => obtain ⟨l, r, h⟩ := ih cs; exact ⟨c :: l, r, fun y => by simp [applyU, h y]⟩

theorem Eqv.apply {a b : List Un} (h : Eqv a b) (cs : List (List UInt8)) : applyU a cs = applyU b cs := by
  induction h with
  | refl a => rfl
  | symm _ ih => exact ih.symm
  | trans _ _ ih1 ih2 => exact ih1.trans ih2
  | swap x c y =>
    obtain ⟨l, r, h⟩ := applyU_pre x cs
    rw [h, h]; simp [applyU]
  | tail x =>
    obtain ⟨l, r, h⟩ := applyU_pre x cs
    have h2 := h []
    rw [List.append_nil] at h2
    rw [h, h2]; simp only [applyU, List.take_append_drop]

/-- characters that come in, and that go out. -/
def inU : List Un → Nat
  | [] => 0
  | .i _ :: A => inU A
  | _ :: A => inU A + 1
def outU : List Un → Nat
  | [] => 0
  | .d :: A => outU A
  | _ :: A => outU A + 1
def bytesU : List Un → Nat
  | [] => 0
  | .i c :: A => c.length + bytesU A
  | _ :: A => bytesU A

theorem applyU_length (us : List Un) : ∀ cs : List (List UInt8), inU us ≤ cs.length → (applyU us cs).length + inU us = cs.length + outU us := by
  induction us with
  | nil => intro cs _; simp [applyU, inU, outU]
  | cons u us ih =>
    intro cs h
    cases u with
    | k =>
      simp only [inU] at h
      have := ih (cs.drop 1) (by simp; omega)
      simp only [List.length_drop] at this
      simp only [applyU, inU, outU, List.length_append, List.length_take]
      omega
    | d =>
      simp only [inU] at h
      have := ih (cs.drop 1) (by simp; omega)
      simp only [List.length_drop] at this
      simp only [applyU, inU, outU]
      omega
    | i c =>
      have := ih cs h
      simp only [applyU, inU, outU, List.length_cons]
      omega

theorem applyU_ok (us : List Un) : ∀ cs : List (List UInt8), OkU us → (∀ c ∈ cs, IsCh c) → ∀ c ∈ applyU us cs, IsCh c := by
  induction us with
  | nil => intro cs _ h; exact h
  | cons u us ih =>
    intro cs hu h
    have hd : ∀ c ∈ cs.drop 1, IsCh c := fun c hc => h c (List.mem_of_mem_drop hc)
    cases u with
    | k =>
      intro c hc
      rcases List.mem_append.1 hc with e | e
      · exact h c (List.mem_of_mem_take e)
      · exact ih _ hu.tail hd c e
    | d => exact ih _ hu.tail hd
    | i c =>
      intro x hx
      rcases List.mem_cons.1 hx with e | e
      · exact e ▸ hu (.i c) (by simp)
      · exact ih _ hu.tail h x e

/-- ONE BEHIND THE OTHER. -/
def compU : List Un → List Un → List Un
  | .d :: A, B => .d :: compU A B
  | [], [] => []
  | [], .k :: B => .k :: compU [] B
  | [], .d :: B => .d :: compU [] B
  | [], .i c :: B => .i c :: compU [] B
  | .k :: A, [] => .k :: compU A []
  | .k :: A, .k :: B => .k :: compU A B
  | .k :: A, .d :: B => .d :: compU A B
  | .k :: A, .i c :: B => .i c :: compU (.k :: A) B
  | .i c :: A, [] => .i c :: compU A []
  | .i c :: A, .k :: B => .i c :: compU A B
  | .i _ :: A, .d :: B => compU A B
  | .i c :: A, .i e :: B => .i e :: compU (.i c :: A) B
  termination_by a b => a.length + b.length

theorem comp_d (A B : List Un) : compU (.d :: A) B = .d :: compU A B := by rw [compU]

/-- a and b by cases, for inductions over both. -/
theorem both_ind {M : List Un → List Un → Prop} (hd : ∀ A B, M A B → M (.d :: A) B) (h00 : M [] []) (h0k : ∀ B, M [] B → M [] (.k :: B)) (h0d : ∀ B, M [] B → M [] (.d :: B)) (h0i : ∀ c B, M [] B → M [] (.i c :: B))
    (hk0 : ∀ A, M A [] → M (.k :: A) []) (hkk : ∀ A B, M A B → M (.k :: A) (.k :: B)) (hkd : ∀ A B, M A B → M (.k :: A) (.d :: B)) (hki : ∀ A c B, M (.k :: A) B → M (.k :: A) (.i c :: B))
    (hi0 : ∀ c A, M A [] → M (.i c :: A) []) (hik : ∀ c A B, M A B → M (.i c :: A) (.k :: B)) (hid : ∀ c A B, M A B → M (.i c :: A) (.d :: B)) (hii : ∀ c A e B, M (.i c :: A) B → M (.i c :: A) (.i e :: B)) : ∀ A B, M A B := by
  have key : ∀ n A B, A.length + B.length ≤ n → M A B := by
    intro n
    induction n with
    | zero =>
      intro A B h
      have ha : A = [] := List.eq_nil_of_length_eq_zero (by omega)
      have hb : B = [] := List.eq_nil_of_length_eq_zero (by omega)
      subst ha hb; exact h00
    | succ n ih =>
      intro A B h
      match A, B with
      | .d :: A, B => exact hd _ _ (ih _ _ (by simp at h; omega))
      | [], [] => exact h00
      | [], .k :: B => exact h0k _ (ih _ _ (by simp at h ⊢; omega))
      | [], .d :: B => exact h0d _ (ih _ _ (by simp at h ⊢; omega))
      | [], .i c :: B => exact h0i _ _ (ih _ _ (by simp at h ⊢; omega))
      | .k :: A, [] => exact hk0 _ (ih _ _ (by simp at h ⊢; omega))
      | .k :: A, .k :: B => exact hkk _ _ (ih _ _ (by simp at h; omega))
      | .k :: A, .d :: B => exact hkd _ _ (ih _ _ (by simp at h; omega))
      | .k :: A, .i c :: B => exact hki _ _ _ (ih _ _ (by simp at h ⊢; omega))
      | .i c :: A, [] => exact hi0 _ _ (ih _ _ (by simp at h ⊢; omega))
      | .i c :: A, .k :: B => exact hik _ _ _ (ih _ _ (by simp at h; omega))
      | .i c :: A, .d :: B => exact hid _ _ _ (ih _ _ (by simp at h; omega))
      | .i c :: A, .i e :: B => exact hii _ _ _ _ (ih _ _ (by simp at h ⊢; omega))
  exact fun A B => key _ A B (Nat.le_refl _)

theorem compU_apply : ∀ (a b : List Un) (cs : List (List UInt8)), inU a ≤ cs.length → applyU (compU a b) cs = applyU b (applyU a cs) := by
  refine both_ind ?_ ?_ ?_ ?_ ?_ ?_ ?_ ?_ ?_ ?_ ?_ ?_ ?_
  · intro A B ih cs h
    simp only [inU] at h
    simp only [compU, applyU]
    exact ih _ (by simp; omega)
  · intro cs _; simp [compU, applyU]
  · intro B ih cs _; simp only [compU, applyU]; rw [ih _ (by simp [inU])]; simp [applyU]
  · intro B ih cs _; simp only [compU, applyU]; rw [ih _ (by simp [inU])]; simp [applyU]
  · intro c B ih cs _; simp only [compU, applyU]; rw [ih _ (by simp [inU])]; simp [applyU]
  · intro A ih cs h
    simp only [inU] at h
    simp only [compU, applyU]; rw [ih _ (by simp; omega)]; simp [applyU]
  · intro A B ih cs h
    simp only [inU] at h
    obtain ⟨c, cs', rfl⟩ : ∃ c cs', cs = c :: cs' := by cases cs with | nil => simp at h | cons c cs' => exact ⟨c, cs', rfl⟩
    simp only [compU, applyU]; rw [ih _ (by simp at h ⊢; omega)]; simp
  · intro A B ih cs h
    simp only [inU] at h
    obtain ⟨c, cs', rfl⟩ : ∃ c cs', cs = c :: cs' := by cases cs with | nil => simp at h | cons c cs' => exact ⟨c, cs', rfl⟩
    simp only [compU, applyU]; rw [ih _ (by simp at h ⊢; omega)]; simp
  · intro A c B ih cs h
    have := ih cs h
    simp only [compU, applyU] at *; rw [this]
  · intro c A ih cs h
    simp only [inU] at h
    simp only [compU, applyU]; rw [ih _ h]; simp [applyU]
  · intro c A B ih cs h
    simp only [inU] at h
    simp only [compU, applyU]; rw [ih _ h]; simp
  · intro c A B ih cs h
    simp only [inU] at h
    simp only [compU, applyU]; rw [ih _ h]; simp
  · intro c A e B ih cs h
    have := ih cs h
    simp only [compU, applyU] at *; rw [this]

theorem compU_in : ∀ (a b : List Un) (n : Nat), inU a ≤ n → inU b + inU a ≤ n + outU a → inU (compU a b) ≤ n := by
  refine both_ind ?_ ?_ ?_ ?_ ?_ ?_ ?_ ?_ ?_ ?_ ?_ ?_ ?_
  · intro A B ih n h1 h2; simp only [compU, inU, outU] at *; have := ih (n - 1) (by omega) (by omega); omega
  · intro n _ _; simp [compU, inU]
  · intro B ih n h1 h2; simp only [compU, inU, outU] at *; have := ih (n - 1) (by omega) (by omega); omega
  · intro B ih n h1 h2; simp only [compU, inU, outU] at *; have := ih (n - 1) (by omega) (by omega); omega
  · intro c B ih n h1 h2; simp only [compU, inU, outU] at *; exact ih n h1 h2
  · intro A ih n h1 h2; simp only [compU, inU, outU] at *; have := ih (n - 1) (by omega) (by omega); omega
  · intro A B ih n h1 h2; simp only [compU, inU, outU] at *; have := ih (n - 1) (by omega) (by omega); omega
  · intro A B ih n h1 h2; simp only [compU, inU, outU] at *; have := ih (n - 1) (by omega) (by omega); omega
  · intro A c B ih n h1 h2; have := ih n h1 (by simp only [inU, outU] at *; omega); simp only [compU, inU] at *; exact this
  · intro c A ih n h1 h2; simp only [compU, inU, outU] at *; exact ih n h1 (by omega)
  · intro c A B ih n h1 h2; simp only [compU, inU, outU] at *; exact ih n h1 (by omega)
  · intro c A B ih n h1 h2; simp only [compU, inU, outU] at *; exact ih n h1 (by omega)
  · intro c A e B ih n h1 h2; have := ih n h1 (by simp only [inU, outU] at *; omega); simp only [compU, inU] at *; exact this

theorem compU_bytes : ∀ (a b : List Un), bytesU (compU a b) ≤ bytesU a + bytesU b := by
  refine both_ind ?_ ?_ ?_ ?_ ?_ ?_ ?_ ?_ ?_ ?_ ?_ ?_ ?_ <;> intros <;> simp only [compU, bytesU] at * <;> omega

theorem compU_ok : ∀ (a b : List Un), OkU a → OkU b → OkU (compU a b) := by
  refine both_ind ?_ ?_ ?_ ?_ ?_ ?_ ?_ ?_ ?_ ?_ ?_ ?_ ?_
  · intro A B ih ha hb; rw [compU]; exact .cons trivial (ih ha.tail hb)
  · intro _ _; rw [compU]; exact .nil
  · intro B ih ha hb; rw [compU]; exact .cons trivial (ih ha hb.tail)
  · intro B ih ha hb; rw [compU]; exact .cons trivial (ih ha hb.tail)
  · intro c B ih ha hb; rw [compU]; exact .cons (hb _ (by simp)) (ih ha hb.tail)
  · intro A ih ha hb; rw [compU]; exact .cons trivial (ih ha.tail hb)
  · intro A B ih ha hb; rw [compU]; exact .cons trivial (ih ha.tail hb.tail)
  · intro A B ih ha hb; rw [compU]; exact .cons trivial (ih ha.tail hb.tail)
  · intro A c B ih ha hb; rw [compU]; exact .cons (hb _ (by simp)) (ih ha hb.tail)
  · intro c A ih ha hb; rw [compU]; exact .cons (ha _ (by simp)) (ih ha.tail hb)
  · intro c A B ih ha hb; rw [compU]; exact .cons (ha _ (by simp)) (ih ha.tail hb.tail)
  · intro c A B ih ha hb; rw [compU]; exact ih ha.tail hb.tail
  · intro c A e B ih ha hb; rw [compU]; exact .cons (hb _ (by simp)) (ih ha hb.tail)

/-- IT DOES NOT MATTER WHICH TWO OF THREE. -/
theorem compU_assoc : ∀ (a b c : List Un), compU (compU a b) c = compU a (compU b c) := by
  have key : ∀ n (a b c : List Un), a.length + b.length + c.length ≤ n → compU (compU a b) c = compU a (compU b c) := by
    intro n
    induction n with
    | zero =>
      intro a b c h
      have ha : a = [] := List.eq_nil_of_length_eq_zero (by omega)
      have hb : b = [] := List.eq_nil_of_length_eq_zero (by omega)
      have hc : c = [] := List.eq_nil_of_length_eq_zero (by omega)
      subst ha hb hc
      simp [compU]
    | succ n ih =>
      intro a b c h
      match a, b, c with
      | .d :: A, B, C => simp only [compU]; rw [ih _ _ _ (by simp at h; omega)]
      | [], [], [] => simp [compU]
      | [], [], .k :: C => simp only [compU]; have := ih [] [] C (by simp at h ⊢; omega); simp only [compU] at this; rw [← this]
      | [], [], .d :: C => simp only [compU]; have := ih [] [] C (by simp at h ⊢; omega); simp only [compU] at this; rw [← this]
      | [], [], .i e :: C => simp only [compU]; have := ih [] [] C (by simp at h ⊢; omega); simp only [compU] at this; rw [← this]
      | [], .d :: B, C => simp only [compU]; rw [ih _ _ _ (by simp at h ⊢; omega)]
      | .k :: A, .d :: B, C => simp only [compU]; rw [ih _ _ _ (by simp at h ⊢; omega)]
      | .i x :: A, .d :: B, C => simp only [compU]; rw [ih _ _ _ (by simp at h ⊢; omega)]
      | [], .k :: B, [] => simp only [compU]; rw [ih _ _ _ (by simp at h ⊢; omega)]
      | [], .k :: B, .k :: C => simp only [compU]; rw [ih _ _ _ (by simp at h ⊢; omega)]
      | [], .k :: B, .d :: C => simp only [compU]; rw [ih _ _ _ (by simp at h ⊢; omega)]
      | [], .k :: B, .i e :: C => simp only [compU]; have := ih [] (.k :: B) C (by simp at h ⊢; omega); simp only [compU] at this; rw [this]
      | [], .i x :: B, [] => simp only [compU]; rw [ih _ _ _ (by simp at h ⊢; omega)]
      | [], .i x :: B, .k :: C => simp only [compU]; rw [ih _ _ _ (by simp at h ⊢; omega)]
      | [], .i x :: B, .d :: C => simp only [compU]; rw [ih _ _ _ (by simp at h ⊢; omega)]
      | [], .i x :: B, .i e :: C => simp only [compU]; have := ih [] (.i x :: B) C (by simp at h ⊢; omega); simp only [compU] at this; rw [this]
      | .k :: A, [], [] => simp only [compU]; have := ih A [] [] (by simp at h ⊢; omega); simp only [compU] at this; rw [this]
      | .k :: A, [], .k :: C => simp only [compU]; have := ih A [] C (by simp at h ⊢; omega); rw [this]
      | .k :: A, [], .d :: C => simp only [compU]; have := ih A [] C (by simp at h ⊢; omega); rw [this]
      | .k :: A, [], .i e :: C => simp only [compU]; have := ih (.k :: A) [] C (by simp at h ⊢; omega); simp only [compU] at this; rw [this]
      | .i x :: A, [], [] => simp only [compU]; have := ih A [] [] (by simp at h ⊢; omega); simp only [compU] at this; rw [this]
      | .i x :: A, [], .k :: C => simp only [compU]; have := ih A [] C (by simp at h ⊢; omega); rw [this]
      | .i x :: A, [], .d :: C => simp only [compU]; have := ih A [] C (by simp at h ⊢; omega); rw [this]
      | .i x :: A, [], .i e :: C => simp only [compU]; have := ih (.i x :: A) [] C (by simp at h ⊢; omega); simp only [compU] at this; rw [this]
      | .k :: A, .k :: B, [] => simp only [compU]; rw [ih _ _ _ (by simp at h ⊢; omega)]
      | .k :: A, .k :: B, .k :: C => simp only [compU]; rw [ih _ _ _ (by simp at h ⊢; omega)]
      | .k :: A, .k :: B, .d :: C => simp only [compU]; rw [ih _ _ _ (by simp at h ⊢; omega)]
      | .k :: A, .k :: B, .i e :: C => simp only [compU]; have := ih (.k :: A) (.k :: B) C (by simp at h ⊢; omega); simp only [compU] at this; rw [this]
      | .i x :: A, .k :: B, [] => simp only [compU]; rw [ih _ _ _ (by simp at h ⊢; omega)]
      | .i x :: A, .k :: B, .k :: C => simp only [compU]; rw [ih _ _ _ (by simp at h ⊢; omega)]
      | .i x :: A, .k :: B, .d :: C => simp only [compU]; rw [ih _ _ _ (by simp at h ⊢; omega)]
      | .i x :: A, .k :: B, .i e :: C => simp only [compU]; have := ih (.i x :: A) (.k :: B) C (by simp at h ⊢; omega); simp only [compU] at this; rw [this]
      | .k :: A, .i y :: B, [] => simp only [compU]; rw [ih _ _ _ (by simp at h ⊢; omega)]
      | .k :: A, .i y :: B, .k :: C => simp only [compU]; rw [ih _ _ _ (by simp at h ⊢; omega)]
      | .k :: A, .i y :: B, .d :: C => simp only [compU]; rw [ih _ _ _ (by simp at h ⊢; omega)]
      | .k :: A, .i y :: B, .i e :: C => simp only [compU]; have := ih (.k :: A) (.i y :: B) C (by simp at h ⊢; omega); simp only [compU] at this; rw [this]
      | .i x :: A, .i y :: B, [] => simp only [compU]; rw [ih _ _ _ (by simp at h ⊢; omega)]
      | .i x :: A, .i y :: B, .k :: C => simp only [compU]; rw [ih _ _ _ (by simp at h ⊢; omega)]
      | .i x :: A, .i y :: B, .d :: C => simp only [compU]; rw [ih _ _ _ (by simp at h ⊢; omega)]
      | .i x :: A, .i y :: B, .i e :: C => simp only [compU]; have := ih (.i x :: A) (.i y :: B) C (by simp at h ⊢; omega); simp only [compU] at this; rw [this]
  exact fun a b c => key _ a b c (Nat.le_refl _)

/-- what is put in ahead of characters that go, or behind them. -/
theorem comp_i (c : List UInt8) (X : List Un) : ∀ B : List Un, Eqv (compU B (.i c :: X)) (.i c :: compU B X) := by
  intro B
  induction B with
  | nil => rw [compU]; exact .refl _
  | cons u B ih =>
    cases u with
    | d =>
      rw [compU, compU]
      exact (ih.cons .d).trans (.swap [] c _)
    | k => rw [compU]; exact .refl _
    | i e => rw [compU]; exact .refl _

theorem comp_pre1 (X : List Un) : ∀ B, ∃ P B', ∀ Z, compU (X ++ Z) B = P ++ compU Z B' := by
  induction X with
  | nil => intro B; exact ⟨[], B, fun Z => rfl⟩
  | cons u X ih =>
    intro B
    cases u with
    | d => obtain ⟨P, B', h⟩ := ih B; exact ⟨.d :: P, B', fun Z => by rw [List.cons_append, compU, h]; rfl⟩
    | k =>
      induction B with
      | nil => obtain ⟨P, B', h⟩ := ih []; exact ⟨.k :: P, B', fun Z => by rw [List.cons_append, compU, h]; rfl⟩
      | cons v B ihB =>
        cases v with
        | k => obtain ⟨P, B', h⟩ := ih B; exact ⟨.k :: P, B', fun Z => by rw [List.cons_append, compU, h]; rfl⟩
        | d => obtain ⟨P, B', h⟩ := ih B; exact ⟨.d :: P, B', fun Z => by rw [List.cons_append, compU, h]; rfl⟩
        | i e => obtain ⟨P, B', h⟩ := ihB; exact ⟨.i e :: P, B', fun Z => by have := h Z; rw [List.cons_append] at this ⊢; rw [compU, this]; rfl⟩
    | i c =>
      induction B with
      | nil => obtain ⟨P, B', h⟩ := ih []; exact ⟨.i c :: P, B', fun Z => by rw [List.cons_append, compU, h]; rfl⟩
      | cons v B ihB =>
        cases v with
        | k => obtain ⟨P, B', h⟩ := ih B; exact ⟨.i c :: P, B', fun Z => by rw [List.cons_append, compU, h]; rfl⟩
        | d => obtain ⟨P, B', h⟩ := ih B; exact ⟨P, B', fun Z => by rw [List.cons_append, compU, h]⟩
        | i e => obtain ⟨P, B', h⟩ := ihB; exact ⟨.i e :: P, B', fun Z => by have := h Z; rw [List.cons_append] at this ⊢; rw [compU, this]; rfl⟩

theorem comp_pre2 (Y : List Un) : ∀ A, ∃ P A', ∀ Z, compU A (Y ++ Z) = P ++ compU A' Z := by
  induction Y with
  | nil => intro A; exact ⟨[], A, fun Z => rfl⟩
  | cons v Y ih =>
    intro A
    induction A with
    | nil =>
      cases v with
      | k => obtain ⟨P, A', h⟩ := ih []; exact ⟨.k :: P, A', fun Z => by rw [List.cons_append, compU, h]; rfl⟩
      | d => obtain ⟨P, A', h⟩ := ih []; exact ⟨.d :: P, A', fun Z => by rw [List.cons_append, compU, h]; rfl⟩
      | i e => obtain ⟨P, A', h⟩ := ih []; exact ⟨.i e :: P, A', fun Z => by rw [List.cons_append, compU, h]; rfl⟩
    | cons u A ihA =>
      cases u with
      | d => obtain ⟨P, A', h⟩ := ihA; exact ⟨.d :: P, A', fun Z => by rw [compU, h]; rfl⟩
      | k =>
        cases v with
        | k => obtain ⟨P, A', h⟩ := ih A; exact ⟨.k :: P, A', fun Z => by rw [List.cons_append, compU, h]; rfl⟩
        | d => obtain ⟨P, A', h⟩ := ih A; exact ⟨.d :: P, A', fun Z => by rw [List.cons_append, compU, h]; rfl⟩
        | i e => obtain ⟨P, A', h⟩ := ih (.k :: A); exact ⟨.i e :: P, A', fun Z => by rw [List.cons_append, compU, h]; rfl⟩
      | i c =>
        cases v with
        | k => obtain ⟨P, A', h⟩ := ih A; exact ⟨.i c :: P, A', fun Z => by rw [List.cons_append, compU, h]; rfl⟩
        | d => obtain ⟨P, A', h⟩ := ih A; exact ⟨P, A', fun Z => by rw [List.cons_append, compU, h]⟩
        | i e => obtain ⟨P, A', h⟩ := ih (.i c :: A); exact ⟨.i e :: P, A', fun Z => by rw [List.cons_append, compU, h]; rfl⟩

/-- IT ASKS ONLY FOR WHAT THE FIRST DOES. -/
theorem Eqv.comp1 {a a' : List Un} (h : Eqv a a') (b : List Un) : Eqv (compU a b) (compU a' b) := by
  induction h with
  | refl a => exact .refl _
  | symm _ ih => exact ih.symm
  | trans _ _ ih1 ih2 => exact ih1.trans ih2
  | swap x c y =>
    obtain ⟨P, B', h⟩ := comp_pre1 x b
    rw [h, h]
    refine Eqv.pre P ?_
    rw [compU]
    clear h
    induction B' with
    | nil => rw [compU, compU, compU]; exact .swap [] c _
    | cons v B ih =>
      cases v with
      | k => rw [compU, compU, compU]; exact .swap [] c _
      | d => rw [compU, compU, compU]; exact .refl _
      | i e => rw [compU, compU]; exact (Eqv.swap [] e _).trans (ih.cons (.i e))
  | tail x =>
    obtain ⟨P, B', h⟩ := comp_pre1 x b
    have h2 := h []
    rw [List.append_nil] at h2
    rw [h, h2]
    refine Eqv.pre P ?_
    clear h h2
    induction B' with
    | nil => rw [compU]; simp only [compU]; exact .tail []
    | cons v B ih =>
      cases v with
      | k => rw [compU, compU]; exact .refl _
      | d => rw [compU, compU]; exact .refl _
      | i e => rw [compU, compU]; exact ih.cons (.i e)

/-- IT ASKS ONLY FOR WHAT THE SECOND DOES. -/
theorem Eqv.comp2 {b b' : List Un} (h : Eqv b b') (a : List Un) : Eqv (compU a b) (compU a b') := by
  induction h with
  | refl a => exact .refl _
  | symm _ ih => exact ih.symm
  | trans _ _ ih1 ih2 => exact ih1.trans ih2
  | swap x c y =>
    obtain ⟨P, A', h⟩ := comp_pre2 x a
    rw [h, h]
    refine Eqv.pre P ?_
    clear h
    induction A' with
    | nil => simp only [compU]; exact .swap [] c _
    | cons u A ih =>
      cases u with
      | d => rw [compU, compU]; exact ih.cons .d
      | k =>
        rw [compU, compU, compU]
        exact ((comp_i c y A).cons .d).trans (.swap [] c _)
      | i e =>
        rw [compU, compU, compU]
        exact comp_i c y A
  | tail x =>
    obtain ⟨P, A', h⟩ := comp_pre2 x a
    have h2 := h []
    rw [List.append_nil] at h2
    rw [h, h2]
    refine Eqv.pre P ?_
    clear h h2
    induction A' with
    | nil => simp only [compU]; exact .tail []
    | cons u A ih =>
      cases u with
      | d => rw [compU, compU]; exact ih.cons .d
      | k => rw [compU, compU]; exact .refl _
      | i e => rw [compU, compU]; exact .refl _

end Go.Proofs.Ytgoaihpaajchaaa
