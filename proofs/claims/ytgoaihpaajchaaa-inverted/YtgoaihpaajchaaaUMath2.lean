/-
  Plain: parts read as units; what is in normal form reads as what it came of; two at once; what undoes.
-/
import Derived.Test.YtgoaihpaajchaaaUMath
namespace Go.Proofs.Ytgoaihpaajchaaa

/-- parts, and their units. -/
inductive Reads : List Pt → List Un → Prop
  | nil : Reads [] []
  | k {L : List Pt} {us : List Un} (n : Nat) (hn : 1 ≤ n) : Reads L us → Reads (K n :: L) (List.replicate n .k ++ us)
  | d {L : List Pt} {us : List Un} (n : Nat) (hn : 1 ≤ n) : Reads L us → Reads (D n :: L) (List.replicate n .d ++ us)
  | i {L : List Pt} {us : List Un} (cs : List (List UInt8)) (hc : ∀ c ∈ cs, IsCh c) (hne : cs ≠ []) : Reads L us → Reads (I cs.flatten :: L) (cs.map .i ++ us)

theorem reads_of (L : List Pt) : (∀ p ∈ L, Right p) → (∀ p ∈ L, ValidT p.text) → ∃ us, Reads L us := by
  induction L with
  | nil => intro _ _; exact ⟨[], .nil⟩
  | cons p L ih =>
    intro hr hv
    obtain ⟨us, h⟩ := ih (fun q hq => hr q (by simp [hq])) (fun q hq => hv q (by simp [hq]))
    have hp : p = ⟨p.kind, p.num, p.text⟩ := rfl
    rcases hr p (by simp) with ⟨a, b, _, d⟩ | ⟨a, b, c⟩ | ⟨a, b, _, d⟩
    · have e : K p.num = p := by rw [hp, a, d]; rfl
      have := Reads.k p.num b h
      rw [e] at this; exact ⟨_, this⟩
    · obtain ⟨cs, hcs, ht⟩ := hv p (by simp)
      have e : I cs.flatten = p := by rw [hp, a, b, ht]; rfl
      have := Reads.i cs hcs (fun e => c (by rw [ht, e]; rfl)) h
      rw [e] at this; exact ⟨_, this⟩
    · have e : D p.num = p := by rw [hp, a, d]; rfl
      have := Reads.d p.num b h
      rw [e] at this; exact ⟨_, this⟩

theorem Reads.steps {L : List Pt} {us : List Un} (h : Reads L us) : ∀ w : Wr, Go.Proofs.Ytgoaihpaajchaaa.steps w L = stU w us := by
  induction h with
  | nil => intro w; rfl
  | k n hn _ ih => intro w; rw [stU_repk, ← ih]; simp [Go.Proofs.Ytgoaihpaajchaaa.steps, Wr.step, K]
  | d n hn _ ih => intro w; rw [stU_repd, ← ih]; simp [Go.Proofs.Ytgoaihpaajchaaa.steps, Wr.step, D]
  | i cs hc hne _ ih => intro w; rw [stU_is, ← ih]; simp [Go.Proofs.Ytgoaihpaajchaaa.steps, Wr.step, I]
theorem Reads.norm {L : List Pt} {us : List Un} (h : Reads L us) : Go.Proofs.Ytgoaihpaajchaaa.norm L = normU us := by
  rw [normU_eq, Go.Proofs.Ytgoaihpaajchaaa.norm, h.steps]
theorem Reads.ok {L : List Pt} {us : List Un} (h : Reads L us) : OkU us := by
  induction h with
  | nil => exact .nil
  | k n hn _ ih => exact .append (fun u hu => by rw [List.eq_of_mem_replicate hu]; trivial) ih
  | d n hn _ ih => exact .append (fun u hu => by rw [List.eq_of_mem_replicate hu]; trivial) ih
  | i cs hc hne _ ih =>
    refine .append (fun u hu => ?_) ih
    obtain ⟨c, hcc, rfl⟩ := List.mem_map.1 hu
    exact hc c hcc

theorem inU_append (a b : List Un) : inU (a ++ b) = inU a + inU b := by
  induction a with
  | nil => simp [inU]
  | cons u a ih => cases u <;> simp only [List.cons_append, inU, ih] <;> omega
theorem outU_append (a b : List Un) : outU (a ++ b) = outU a + outU b := by
  induction a with
  | nil => simp [outU]
  | cons u a ih => cases u <;> simp only [List.cons_append, outU, ih] <;> omega
theorem bytesU_append (a b : List Un) : bytesU (a ++ b) = bytesU a + bytesU b := by
  induction a with
  | nil => simp [bytesU]
  | cons u a ih => cases u <;> simp only [List.cons_append, bytesU, ih] <;> omega
theorem repk_nums (n : Nat) : inU (List.replicate n .k) = n ∧ outU (List.replicate n .k) = n ∧ bytesU (List.replicate n .k) = 0 := by
  induction n with
  | zero => simp [inU, outU, bytesU]
  | succ n ih => simp only [List.replicate_succ, inU, outU, bytesU]; omega
theorem repd_nums (n : Nat) : inU (List.replicate n .d) = n ∧ outU (List.replicate n .d) = 0 ∧ bytesU (List.replicate n .d) = 0 := by
  induction n with
  | zero => simp [inU, outU, bytesU]
  | succ n ih => simp only [List.replicate_succ, inU, outU, bytesU]; omega
theorem is_nums (cs : List (List UInt8)) : inU (cs.map .i) = 0 ∧ outU (cs.map .i) = cs.length ∧ bytesU (cs.map .i) = cs.flatten.length := by
  induction cs with
  | nil => simp [inU, outU, bytesU]
  | cons c cs ih => simp only [List.map_cons, inU, outU, bytesU, List.length_cons, List.flatten_cons, List.length_append]; omega

theorem Reads.nums {L : List Pt} {us : List Un} (h : Reads L us) : Go.Proofs.Ytgoaihpaajchaaa.nums L = inU us ∧ (L.map (fun p => p.text.length)).sum = bytesU us := by
  induction h with
  | nil => simp [Go.Proofs.Ytgoaihpaajchaaa.nums, inU, bytesU]
  | k n hn _ ih => have := repk_nums n; simp only [Go.Proofs.Ytgoaihpaajchaaa.nums, inU_append, bytesU_append, List.map_cons, List.sum_cons, K, List.length_nil] at *; omega
  | d n hn _ ih => have := repd_nums n; simp only [Go.Proofs.Ytgoaihpaajchaaa.nums, inU_append, bytesU_append, List.map_cons, List.sum_cons, D, List.length_nil] at *; omega
  | i cs hc hne _ ih => have := is_nums cs; simp only [Go.Proofs.Ytgoaihpaajchaaa.nums, inU_append, bytesU_append, List.map_cons, List.sum_cons, I] at *; omega
theorem Reads.append {A B : List Pt} {a b : List Un} (h : Reads A a) (k : Reads B b) : Reads (A ++ B) (a ++ b) := by
  induction h with
  | nil => exact k
  | k n hn _ ih => rw [List.append_assoc]; exact .k n hn ih
  | d n hn _ ih => rw [List.append_assoc]; exact .d n hn ih
  | i cs hc hne _ ih => rw [List.append_assoc]; exact .i cs hc hne ih

theorem applyU_repk (n : Nat) : ∀ (us : List Un) (cs : List (List UInt8)), applyU (List.replicate n .k ++ us) cs = cs.take n ++ applyU us (cs.drop n) := by
  induction n with
  | zero => intro us cs; simp
  | succ n ih =>
    intro us cs
    rw [List.replicate_succ, List.cons_append, applyU, ih]
    cases cs <;> simp
theorem applyU_repd (n : Nat) : ∀ (us : List Un) (cs : List (List UInt8)), applyU (List.replicate n .d ++ us) cs = applyU us (cs.drop n) := by
  induction n with
  | zero => intro us cs; simp
  | succ n ih =>
    intro us cs
    rw [List.replicate_succ, List.cons_append, applyU, ih]
    cases cs <;> simp
theorem applyU_is (x : List (List UInt8)) : ∀ (us : List Un) (cs : List (List UInt8)), applyU (x.map .i ++ us) cs = x ++ applyU us cs := by
  induction x with
  | nil => intro us cs; simp
  | cons c x ih => intro us cs; rw [List.map_cons, List.cons_append, applyU, ih]; simp

theorem Reads.apply {L : List Pt} {us : List Un} (h : Reads L us) : ∀ cs, applyP L cs = (applyU us cs).flatten := by
  induction h with
  | nil => intro cs; rfl
  | k n hn _ ih => intro cs; rw [applyU_repk, applyP]; simp only [K, if_true, List.flatten_append, ih]
  | d n hn _ ih => intro cs; rw [applyU_repd, applyP]; simp only [D, ih]; simp
  | i x hc hne _ ih => intro cs; rw [applyU_is, applyP]; simp only [I, List.flatten_append, ih]; simp

/-- what is put in behind characters that go. -/
theorem eqv_di (n : Nat) (c : List UInt8) (Z : List Un) : Eqv (List.replicate n .d ++ .i c :: Z) (.i c :: (List.replicate n .d ++ Z)) := by
  induction n with
  | zero => exact .refl _
  | succ n ih =>
    rw [List.replicate_succ, List.cons_append, List.cons_append]
    exact (ih.cons .d).trans (.swap [] c _)

/-- the Writer, read. -/
def RdW (w : Wr) (us : List Un) : Prop :=
  ∃ (du : List Un) (cs : List (List UInt8)), Reads w.done du ∧ (∀ c ∈ cs, IsCh c) ∧ w.put = cs.flatten ∧ us = du ++ (List.replicate w.kept .k ++ (cs.map .i ++ List.replicate w.gone .d))

theorem chs_nil {cs : List (List UInt8)} (h : ∀ c ∈ cs, IsCh c) (e : cs.flatten = []) : cs = [] := by
  cases cs with
  | nil => rfl
  | cons c cs =>
    have := (h c (by simp)).1
    rw [List.flatten_cons] at e
    have := congrArg List.length e
    simp only [List.length_append, List.length_nil] at this
    omega

theorem reads_kp (n : Nat) : Reads (kp n) (List.replicate n .k) := by
  unfold kp
  split
  · next h => subst h; exact .nil
  · next h => have := Reads.k n (by omega) .nil; simpa using this
theorem reads_dp (n : Nat) : Reads (dp n) (List.replicate n .d) := by
  unfold dp
  split
  · next h => subst h; exact .nil
  · next h => have := Reads.d n (by omega) .nil; simpa using this
theorem reads_ip (cs : List (List UInt8)) (h : ∀ c ∈ cs, IsCh c) : Reads (ip cs.flatten) (cs.map .i) := by
  unfold ip
  split
  · next e => rw [chs_nil h e]; exact .nil
  · next e => have := Reads.i cs h (fun e2 => e (by rw [e2]; rfl)) .nil; simpa using this

theorem RdW.settle {w : Wr} {us : List Un} (h : RdW w us) : RdW w.settle us := by
  obtain ⟨du, cs, h1, h2, h3, h4⟩ := h
  unfold Wr.settle
  split
  · exact ⟨du, cs, h1, h2, h3, h4⟩
  · refine ⟨us, [], ?_, by simp, rfl, by simp⟩
    rw [h4, h3]
    simp only [List.append_assoc]
    exact h1.append ((reads_kp _).append ((reads_ip cs h2).append (reads_dp _)))

theorem RdW.st (us : List Un) : ∀ (w : Wr) (a : List Un), OkU us → RdW w a → ∃ b, RdW (stU w us) b ∧ Eqv b (a ++ us) := by
  induction us with
  | nil => intro w a _ h; exact ⟨a, h, by rw [List.append_nil]; exact .refl _⟩
  | cons u us ih =>
    intro w a hu h
    cases u with
    | k =>
      rw [stU_k]
      have hs := h.settle
      obtain ⟨e1, e2⟩ := settle_kept w
      have hk : w.keep 1 = { w.settle with kept := w.settle.kept + 1 } := by simp [Wr.keep]
      obtain ⟨du, cs, h1, h2, h3, h4⟩ := hs
      rw [e1] at h3
      have hc := chs_nil h2 h3.symm
      subst hc
      rw [e2] at h4
      have : RdW (w.keep 1) (a ++ [.k]) := by
        rw [hk]
        refine ⟨du, [], h1, by simp, by simp [e1], ?_⟩
        simp only [h4, e2, List.map_nil, List.replicate_zero, List.append_nil, List.append_assoc]
        rw [List.replicate_succ']
      obtain ⟨b, hb, he⟩ := ih _ _ hu.tail this
      exact ⟨b, hb, by simpa using he⟩
    | d =>
      rw [stU_d]
      obtain ⟨du, cs, h1, h2, h3, h4⟩ := h
      have : RdW { w with gone := w.gone + 1 } (a ++ [.d]) := by
        refine ⟨du, cs, h1, h2, h3, ?_⟩
        simp only [h4, List.append_assoc]
        rw [List.replicate_succ']
      obtain ⟨b, hb, he⟩ := ih _ _ hu.tail this
      exact ⟨b, hb, by simpa using he⟩
    | i c =>
      rw [stU_i]
      obtain ⟨du, cs, h1, h2, h3, h4⟩ := h
      have : RdW { w with put := w.put ++ c } (du ++ (List.replicate w.kept .k ++ ((cs ++ [c]).map .i ++ List.replicate w.gone .d))) := by
        refine ⟨du, cs ++ [c], h1, ?_, by simp [h3], rfl⟩
        intro x hx
        rcases List.mem_append.1 hx with e | e
        · exact h2 x e
        · simp at e; subst e; exact hu (.i x) (by simp)
      obtain ⟨b, hb, he⟩ := ih _ _ hu.tail this
      refine ⟨b, hb, he.trans ?_⟩
      subst h4
      simp only [List.append_assoc, List.map_append, List.map_cons, List.map_nil, List.cons_append, List.nil_append]
      exact Eqv.pre _ (Eqv.pre _ (Eqv.pre _ (eqv_di _ _ _).symm))

/-- A NORMAL FORM READS AS WHAT IT CAME OF. -/
theorem reads_norm (us : List Un) (h : OkU us) : ∃ us', Reads (normU us) us' ∧ Eqv us' us := by
  obtain ⟨b, hb, he⟩ := RdW.st us Wr.new [] h ⟨[], [], .nil, by simp, rfl, rfl⟩
  obtain ⟨du, cs, h1, h2, h3, h4⟩ := hb.settle
  obtain ⟨e1, e2⟩ := settle_kept (stU Wr.new us)
  rw [e1] at h3
  have hc := chs_nil h2 h3.symm
  subst hc
  rw [e2] at h4
  simp only [List.map_nil, List.replicate_zero, List.append_nil] at h4
  refine ⟨du, by rw [normU_eq]; exact h1, ?_⟩
  have key : ∀ n, Eqv du (du ++ List.replicate n .k) := by
    intro n
    induction n with
    | zero => simp; exact .refl _
    | succ n ih => rw [List.replicate_succ', ← List.append_assoc]; exact ih.trans (Eqv.tail _).symm
  have := key (stU Wr.new us).settle.kept
  rw [← h4] at this
  exact this.trans (by simpa using he)

theorem rightU (us : List Un) (h : OkU us) : ∀ p ∈ us.map Un.pt, Right p := by
  intro p hp
  obtain ⟨u, hu, rfl⟩ := List.mem_map.1 hp
  cases u with
  | k => exact .inl ⟨rfl, Nat.le_refl _, by decide, rfl⟩
  | d => exact .inr (.inr ⟨rfl, Nat.le_refl _, by decide, rfl⟩)
  | i c =>
    have := (h _ hu : IsCh c).1
    exact .inr (.inl ⟨rfl, rfl, fun e => by simp only [Un.pt, I] at e; rw [e] at this; simp at this⟩)
theorem numsU (us : List Un) : nums (us.map Un.pt) = inU us := by
  induction us with
  | nil => rfl
  | cons u us ih => cases u <;> simp only [nums, List.map_cons, List.sum_cons, inU, Un.pt, K, D, I] at * <;> omega
theorem normU_nums (us : List Un) (h : OkU us) : nums (normU us) ≤ inU us := by
  have := (norm_size _ (rightU us h)).1
  rw [numsU] at this
  exact this

/-- TWO AT ONCE. -/
def traU : List Un → List Un → List Un × List Un
  | .i c :: A, B => (.i c :: (traU A B).1, .k :: (traU A B).2)
  | [], [] => ([], [])
  | [], .i c :: B => (.k :: (traU [] B).1, .i c :: (traU [] B).2)
  | [], .k :: B => (.k :: (traU [] B).1, .k :: (traU [] B).2)
  | [], .d :: B => ((traU [] B).1, .d :: (traU [] B).2)
  | .k :: A, [] => (.k :: (traU A []).1, .k :: (traU A []).2)
  | .k :: A, .i c :: B => (.k :: (traU (.k :: A) B).1, .i c :: (traU (.k :: A) B).2)
  | .k :: A, .k :: B => (.k :: (traU A B).1, .k :: (traU A B).2)
  | .k :: A, .d :: B => ((traU A B).1, .d :: (traU A B).2)
  | .d :: A, [] => (.d :: (traU A []).1, (traU A []).2)
  | .d :: A, .i c :: B => (.k :: (traU (.d :: A) B).1, .i c :: (traU (.d :: A) B).2)
  | .d :: A, .k :: B => (.d :: (traU A B).1, (traU A B).2)
  | .d :: A, .d :: B => ((traU A B).1, (traU A B).2)
  termination_by a b => a.length + b.length

theorem two_ind {M : List Un → List Un → Prop} (hi : ∀ c A B, M A B → M (.i c :: A) B) (h00 : M [] []) (h0i : ∀ c B, M [] B → M [] (.i c :: B)) (h0k : ∀ B, M [] B → M [] (.k :: B)) (h0d : ∀ B, M [] B → M [] (.d :: B))
    (hk0 : ∀ A, M A [] → M (.k :: A) []) (hki : ∀ A c B, M (.k :: A) B → M (.k :: A) (.i c :: B)) (hkk : ∀ A B, M A B → M (.k :: A) (.k :: B)) (hkd : ∀ A B, M A B → M (.k :: A) (.d :: B))
    (hd0 : ∀ A, M A [] → M (.d :: A) []) (hdi : ∀ A c B, M (.d :: A) B → M (.d :: A) (.i c :: B)) (hdk : ∀ A B, M A B → M (.d :: A) (.k :: B)) (hdd : ∀ A B, M A B → M (.d :: A) (.d :: B)) : ∀ A B, M A B := by
  have key : ∀ n A B, A.length + B.length ≤ n → M A B := by
    intro n
    induction n with
    | zero =>
      intro A B h
      have ha : A = [] := List.eq_nil_of_length_eq_zero (by omega)
      have hb : B = [] := List.eq_nil_of_length_eq_zero (by omega)
      subst ha hb; exact h00
    | succ n ih =>
      intro A B h
      match A, B with
      | .i c :: A, B => exact hi _ _ _ (ih _ _ (by simp at h; omega))
      | [], [] => exact h00
      | [], .i c :: B => exact h0i _ _ (ih _ _ (by simp at h ⊢; omega))
      | [], .k :: B => exact h0k _ (ih _ _ (by simp at h ⊢; omega))
      | [], .d :: B => exact h0d _ (ih _ _ (by simp at h ⊢; omega))
      | .k :: A, [] => exact hk0 _ (ih _ _ (by simp at h ⊢; omega))
      | .k :: A, .i c :: B => exact hki _ _ _ (ih _ _ (by simp at h ⊢; omega))
      | .k :: A, .k :: B => exact hkk _ _ (ih _ _ (by simp at h; omega))
      | .k :: A, .d :: B => exact hkd _ _ (ih _ _ (by simp at h; omega))
      | .d :: A, [] => exact hd0 _ (ih _ _ (by simp at h ⊢; omega))
      | .d :: A, .i c :: B => exact hdi _ _ _ (ih _ _ (by simp at h ⊢; omega))
      | .d :: A, .k :: B => exact hdk _ _ (ih _ _ (by simp at h; omega))
      | .d :: A, .d :: B => exact hdd _ _ (ih _ _ (by simp at h; omega))
  exact fun A B => key _ A B (Nat.le_refl _)

/-- b' BEHIND a IS a' BEHIND b. -/
theorem traU_meet : ∀ a b : List Un, Eqv (compU a (traU a b).2) (compU b (traU a b).1) := by
  refine two_ind ?_ ?_ ?_ ?_ ?_ ?_ ?_ ?_ ?_ ?_ ?_ ?_ ?_
  · intro c A B ih; simp only [traU, compU]; exact (ih.cons (.i c)).trans (comp_i c _ B).symm
  · simp [traU, compU]; exact .refl _
  · intro c B ih; simp only [traU, compU]; exact ih.cons (.i c)
  · intro B ih; simp only [traU, compU]; exact ih.cons .k
  · intro B ih; simp only [traU, compU]; exact ih.cons .d
  · intro A ih; simp only [traU, compU]; exact ih.cons .k
  · intro A c B ih; simp only [traU]; rw [compU, compU]; exact ih.cons (.i c)
  · intro A B ih; simp only [traU, compU]; exact ih.cons .k
  · intro A B ih; simp only [traU, compU]; exact ih.cons .d
  · intro A ih; simp only [traU, compU]; exact ih.cons .d
  · intro A c B ih; simp only [traU]; refine (comp_i c _ _).trans ?_; have h := ih.cons (.i c); simp only [compU] at h ⊢; exact h
  · intro A B ih; simp only [traU, compU]; exact ih.cons .d
  · intro A B ih; simp only [traU, compU]; exact ih.cons .d

theorem traU_ok : ∀ a b : List Un, OkU a → OkU b → OkU (traU a b).1 ∧ OkU (traU a b).2 := by
  refine two_ind ?_ ?_ ?_ ?_ ?_ ?_ ?_ ?_ ?_ ?_ ?_ ?_ ?_
  · intro c A B ih ha hb; simp only [traU]; have := ih ha.tail hb; exact ⟨.cons (ha _ (by simp)) this.1, .cons trivial this.2⟩
  · intro _ _; simp only [traU]; exact ⟨.nil, .nil⟩
  · intro c B ih ha hb; simp only [traU]; have := ih ha hb.tail; exact ⟨.cons trivial this.1, .cons (hb _ (by simp)) this.2⟩
  · intro B ih ha hb; simp only [traU]; have := ih ha hb.tail; exact ⟨.cons trivial this.1, .cons trivial this.2⟩
  · intro B ih ha hb; simp only [traU]; have := ih ha hb.tail; exact ⟨this.1, .cons trivial this.2⟩
  · intro A ih ha hb; simp only [traU]; have := ih ha.tail hb; exact ⟨.cons trivial this.1, .cons trivial this.2⟩
  · intro A c B ih ha hb; simp only [traU]; have := ih ha hb.tail; exact ⟨.cons trivial this.1, .cons (hb _ (by simp)) this.2⟩
  · intro A B ih ha hb; simp only [traU]; have := ih ha.tail hb.tail; exact ⟨.cons trivial this.1, .cons trivial this.2⟩
  · intro A B ih ha hb; simp only [traU]; have := ih ha.tail hb.tail; exact ⟨this.1, .cons trivial this.2⟩
  · intro A ih ha hb; simp only [traU]; have := ih ha.tail hb; exact ⟨.cons trivial this.1, this.2⟩
  · intro A c B ih ha hb; simp only [traU]; have := ih ha hb.tail; exact ⟨.cons trivial this.1, .cons (hb _ (by simp)) this.2⟩
  · intro A B ih ha hb; simp only [traU]; have := ih ha.tail hb.tail; exact ⟨.cons trivial this.1, this.2⟩
  · intro A B ih ha hb; simp only [traU]; exact ih ha.tail hb.tail

theorem traU_in : ∀ (a b : List Un) (n : Nat), inU a ≤ n → inU b ≤ n → inU (traU a b).2 + inU a ≤ n + outU a ∧ inU (traU a b).1 + inU b ≤ n + outU b := by
  refine two_ind ?_ ?_ ?_ ?_ ?_ ?_ ?_ ?_ ?_ ?_ ?_ ?_ ?_
  · intro c A B ih n ha hb; have := ih n (by simpa only [inU] using ha) hb; simp only [traU, inU, outU] at *; omega
  · intro n _ _; simp [traU, inU]
  · intro c B ih n ha hb; have := ih n ha (by simpa only [inU] using hb); simp only [traU, inU, outU] at *; omega
  · intro B ih n ha hb; simp only [inU] at hb; have := ih (n - 1) (by simp [inU]) (by omega); simp only [traU, inU, outU] at *; omega
  · intro B ih n ha hb; simp only [inU] at hb; have := ih (n - 1) (by simp [inU]) (by omega); simp only [traU, inU, outU] at *; omega
  · intro A ih n ha hb; simp only [inU] at ha; have := ih (n - 1) (by omega) (by simp [inU]); simp only [traU, inU, outU] at *; omega
  · intro A c B ih n ha hb; have := ih n ha (by simpa only [inU] using hb); simp only [traU, inU, outU] at *; omega
  · intro A B ih n ha hb; simp only [inU] at ha hb; have := ih (n - 1) (by omega) (by omega); simp only [traU, inU, outU] at *; omega
  · intro A B ih n ha hb; simp only [inU] at ha hb; have := ih (n - 1) (by omega) (by omega); simp only [traU, inU, outU] at *; omega
  · intro A ih n ha hb; simp only [inU] at ha; have := ih (n - 1) (by omega) (by simp [inU]); simp only [traU, inU, outU] at *; omega
  · intro A c B ih n ha hb; have := ih n ha (by simpa only [inU] using hb); simp only [traU, inU, outU] at *; omega
  · intro A B ih n ha hb; simp only [inU] at ha hb; have := ih (n - 1) (by omega) (by omega); simp only [traU, inU, outU] at *; omega
  · intro A B ih n ha hb; simp only [inU] at ha hb; have := ih (n - 1) (by omega) (by omega); simp only [traU, inU, outU] at *; omega

theorem traU_bytes : ∀ (a b : List Un), bytesU (traU a b).1 ≤ bytesU a ∧ bytesU (traU a b).2 ≤ bytesU b := by
  refine two_ind ?_ ?_ ?_ ?_ ?_ ?_ ?_ ?_ ?_ ?_ ?_ ?_ ?_ <;> intros <;> simp only [traU, bytesU] at * <;> omega

/-- WHAT UNDOES. -/
def invU : List Un → List (List UInt8) → List Un
  | [], _ => []
  | .k :: A, cs => .k :: invU A (cs.drop 1)
  | .i _ :: A, cs => .d :: invU A cs
  | .d :: A, [] => invU A []
  | .d :: A, c :: cs => .i c :: invU A cs

theorem invU_back (a : List Un) : ∀ cs : List (List UInt8), inU a ≤ cs.length → applyU (invU a cs) (applyU a cs) = cs := by
  induction a with
  | nil => intro cs _; simp [invU, applyU]
  | cons u a ih =>
    intro cs h
    cases u with
    | k =>
      simp only [inU] at h
      obtain ⟨c, cs', rfl⟩ : ∃ c cs', cs = c :: cs' := by cases cs with | nil => simp at h | cons c cs' => exact ⟨c, cs', rfl⟩
      simp only [List.length_cons] at h
      simp [invU, applyU, ih cs' (by omega)]
    | d =>
      simp only [inU] at h
      obtain ⟨c, cs', rfl⟩ : ∃ c cs', cs = c :: cs' := by cases cs with | nil => simp at h | cons c cs' => exact ⟨c, cs', rfl⟩
      simp only [List.length_cons] at h
      simp [invU, applyU, ih cs' (by omega)]
    | i c =>
      simp only [inU] at h
      simp [invU, applyU, ih cs h]

theorem invU_in (a : List Un) : ∀ cs : List (List UInt8), inU (invU a cs) ≤ outU a := by
  induction a with
  | nil => intro cs; simp [invU, inU]
  | cons u a ih =>
    intro cs
    cases u with
    | k => have := ih (cs.drop 1); simp only [invU, inU, outU]; omega
    | i c => have := ih cs; simp only [invU, inU, outU]; omega
    | d =>
      cases cs with
      | nil => have := ih []; simp only [invU, outU]; omega
      | cons c cs => have := ih cs; simp only [invU, inU, outU]; omega

theorem invU_ok (a : List Un) : ∀ cs : List (List UInt8), (∀ c ∈ cs, IsCh c) → OkU (invU a cs) := by
  induction a with
  | nil => intro cs _; exact .nil
  | cons u a ih =>
    intro cs h
    cases u with
    | k => exact .cons trivial (ih _ (fun c hc => h c (List.mem_of_mem_drop hc)))
    | i c => exact .cons trivial (ih _ h)
    | d =>
      cases cs with
      | nil => exact ih [] h
      | cons c cs => exact .cons (h c (by simp)) (ih _ (fun x hx => h x (by simp [hx])))

theorem invU_bytes (a : List Un) : ∀ cs : List (List UInt8), bytesU (invU a cs) ≤ cs.flatten.length := by
  induction a with
  | nil => intro cs; simp [invU, bytesU]
  | cons u a ih =>
    intro cs
    cases u with
    | k => have := ih (cs.drop 1); have h2 : (cs.drop 1).flatten.length ≤ cs.flatten.length := by rw [flatten_split cs 1, List.length_append]; omega
           simp only [invU, bytesU]; omega
    | i c => have := ih cs; simp only [invU, bytesU]; omega
    | d =>
      cases cs with
      | nil => have := ih []; simp only [invU]; omega
      | cons c cs => have := ih cs; simp only [invU, bytesU, List.flatten_cons, List.length_append]; omega

end Go.Proofs.Ytgoaihpaajchaaa
