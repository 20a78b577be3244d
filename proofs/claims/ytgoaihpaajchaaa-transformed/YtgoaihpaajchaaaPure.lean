/-
  Plain: operations as lists of parts, done to a text, and in normal form.
-/
import Derived.Test.YtgoaihpaajchaaaText
namespace Go.Proofs.Ytgoaihpaajchaaa

structure Pt where
  kind : Nat
  num : Nat
  text : List UInt8

def K (n : Nat) : Pt := ⟨1, n, []⟩
def I (t : List UInt8) : Pt := ⟨2, 0, t⟩
def D (n : Nat) : Pt := ⟨3, n, []⟩

/-- what an operation leaves of a text. -/
def applyP : List Pt → List (List UInt8) → List UInt8
  | [], cs => cs.flatten
  | p :: L, cs => if p.kind = 1 then (cs.take p.num).flatten ++ applyP L (cs.drop p.num) else if p.kind = 2 then p.text ++ applyP L cs else applyP L (cs.drop p.num)

structure Wr where
  done : List Pt
  kept : Nat
  put : List UInt8
  gone : Nat

def kp (n : Nat) : List Pt := if n = 0 then [] else [K n]
def ip (t : List UInt8) : List Pt := if t = [] then [] else [I t]
def dp (n : Nat) : List Pt := if n = 0 then [] else [D n]

def Wr.settle (w : Wr) : Wr := if w.put = [] ∧ w.gone = 0 then w else ⟨w.done ++ kp w.kept ++ ip w.put ++ dp w.gone, 0, [], 0⟩
def Wr.keep (w : Wr) (n : Nat) : Wr := if n = 0 then w else { w.settle with kept := w.settle.kept + n }
def Wr.step (w : Wr) (p : Pt) : Wr :=
  if p.kind = 1 then w.keep p.num else if p.kind = 2 then { w with put := w.put ++ p.text } else if p.kind = 3 then { w with gone := w.gone + p.num } else w
def Wr.new : Wr := ⟨[], 0, [], 0⟩
def steps (w : Wr) (L : List Pt) : Wr := L.foldl Wr.step w
def norm (L : List Pt) : List Pt := (steps Wr.new L).settle.done

/-- right parts. -/
def Right (p : Pt) : Prop := (p.kind = 1 ∧ 1 ≤ p.num ∧ p.num ≤ 1000000 ∧ p.text = []) ∨ (p.kind = 2 ∧ p.num = 0 ∧ p.text ≠ []) ∨ (p.kind = 3 ∧ 1 ≤ p.num ∧ p.num ≤ 1000000 ∧ p.text = [])

/-- what the Writer stands for. -/
def Wr.fl (w : Wr) : List Pt := w.done ++ kp w.kept ++ ip w.put ++ dp w.gone

theorem applyP_append (A B : List Pt) : ∀ (cs : List (List UInt8)), ∃ l r, (∀ B', applyP (A ++ B') cs = l ++ applyP B' r) ∧ applyP (A ++ B) cs = l ++ applyP B r := by
  induction A with
  | nil => intro cs; exact ⟨[], cs, fun _ => by simp, by simp⟩
  | cons p A ih =>
    intro cs
    simp only [List.cons_append, applyP]
    by_cases h1 : p.kind = 1
    · obtain ⟨l, r, h, h'⟩ := ih (cs.drop p.num)
      exact ⟨(cs.take p.num).flatten ++ l, r, fun B' => by simp [h1, h B'], by simp [h1, h']⟩
    · by_cases h2 : p.kind = 2
      · obtain ⟨l, r, h, h'⟩ := ih cs
        exact ⟨p.text ++ l, r, fun B' => by simp [h2, h B'], by simp [h2, h']⟩
      · obtain ⟨l, r, h, h'⟩ := ih (cs.drop p.num)
        exact ⟨l, r, fun B' => by simp [h1, h2, h B'], by simp [h1, h2, h']⟩

/-- two tails that leave the same, behind the same. -/
theorem applyP_congr (A : List Pt) {B C : List Pt} (h : ∀ cs, applyP B cs = applyP C cs) (cs : List (List UInt8)) : applyP (A ++ B) cs = applyP (A ++ C) cs := by
  obtain ⟨l, r, hl, _⟩ := applyP_append A B cs
  rw [hl B, hl C, h]

theorem kp_noop (n : Nat) (B : List Pt) (cs : List (List UInt8)) : applyP (kp n ++ B) cs = applyP (K n :: B) cs := by
  unfold kp; split
  · next h => subst h; simp [applyP, K]
  · rfl
theorem ip_noop (t : List UInt8) (B : List Pt) (cs : List (List UInt8)) : applyP (ip t ++ B) cs = applyP (I t :: B) cs := by
  unfold ip; split
  · next h => subst h; simp [applyP, I]
  · rfl
theorem dp_noop (n : Nat) (B : List Pt) (cs : List (List UInt8)) : applyP (dp n ++ B) cs = applyP (D n :: B) cs := by
  unfold dp; split
  · next h => subst h; simp [applyP, D]
  · rfl

/-- the Writer's parts, and then others. -/
theorem fl_apply (w : Wr) (B : List Pt) (cs : List (List UInt8)) : applyP (w.fl ++ B) cs = applyP (w.done ++ (K w.kept :: I w.put :: D w.gone :: B)) cs := by
  unfold Wr.fl
  simp only [List.append_assoc]
  refine applyP_congr _ (fun cs => ?_) cs
  rw [kp_noop]
  refine applyP_congr [K w.kept] (fun cs => ?_) cs
  exact (ip_noop _ _ _).trans (applyP_congr [I w.put] (fun cs => dp_noop _ _ _) cs)

theorem settle_fl (w : Wr) : w.settle.fl = w.fl := by
  unfold Wr.settle
  split
  · rfl
  · simp [Wr.fl, kp, ip, dp]

theorem settle_kept (w : Wr) : w.settle.put = [] ∧ w.settle.gone = 0 := by
  unfold Wr.settle
  split
  · assumption
  · exact ⟨rfl, rfl⟩

theorem keep_apply (w : Wr) (n : Nat) (B : List Pt) (cs : List (List UInt8)) : applyP ((w.keep n).fl ++ B) cs = applyP (w.fl ++ K n :: B) cs := by
  unfold Wr.keep
  split
  · next h =>
    subst h
    refine applyP_congr _ (fun cs => ?_) cs
    simp [applyP, K]
  · obtain ⟨hp, hg⟩ := settle_kept w
    rw [← settle_fl w, fl_apply, fl_apply]
    simp only [hp, hg]
    refine applyP_congr _ (fun cs => ?_) cs
    simp [applyP, K, I, D, List.take_add, List.drop_drop]

theorem step_apply (w : Wr) (p : Pt) (hp : Right p) (B : List Pt) (cs : List (List UInt8)) : applyP ((w.step p).fl ++ B) cs = applyP (w.fl ++ p :: B) cs := by
  unfold Wr.step
  rcases hp with ⟨h, _, _, ht⟩ | ⟨h, _, _⟩ | ⟨h, _, _, ht⟩
  · rw [if_pos h, keep_apply]
    have : K p.num = p := by cases p; simp_all [K]
    rw [this]
  · rw [if_neg (by omega), if_pos h, fl_apply, fl_apply]
    refine applyP_congr _ (fun cs => ?_) cs
    simp [applyP, K, I, D, h]
  · rw [if_neg (by omega), if_neg (by omega), if_pos h, fl_apply, fl_apply]
    refine applyP_congr _ (fun cs => ?_) cs
    simp [applyP, K, I, D, h, List.drop_drop, Nat.add_assoc]

theorem steps_apply (L : List Pt) : ∀ (w : Wr), (∀ p ∈ L, Right p) → ∀ cs, applyP ((steps w L).fl) cs = applyP (w.fl ++ L) cs := by
  induction L with
  | nil => intro w _ cs; simp [steps]
  | cons p L ih =>
    intro w h cs
    have := ih (w.step p) (fun q hq => h q (by simp [hq])) cs
    rw [show steps w (p :: L) = steps (w.step p) L from rfl, this, step_apply w p (h p (by simp))]

theorem settled_done (w : Wr) : w.settle.fl = w.settle.done ++ kp w.settle.kept := by
  obtain ⟨hp, hg⟩ := settle_kept w
  simp [Wr.fl, hp, hg, ip, dp]

/-- THE NORMAL FORM LEAVES WHAT THE OPERATION LEAVES. -/
theorem norm_apply (L : List Pt) (h : ∀ p ∈ L, Right p) (cs : List (List UInt8)) : applyP (norm L) cs = applyP L cs := by
  have h1 := steps_apply L Wr.new h cs
  rw [← settle_fl, settled_done] at h1
  have h2 : applyP ((steps Wr.new L).settle.done ++ kp (steps Wr.new L).settle.kept) cs = applyP ((steps Wr.new L).settle.done ++ []) cs := by
    refine applyP_congr _ (fun cs => ?_) cs
    have := kp_noop (steps Wr.new L).settle.kept [] cs
    rw [List.append_nil] at this
    rw [this]
    simp [applyP, K, ← List.flatten_append]
  rw [h2, List.append_nil] at h1
  rw [norm, h1]
  rfl

/-- the form: what may stand behind a part of a kind; the last is no Keep. -/
def okOne (p : Pt) : Prop := (p.kind = 2 ∧ p.num = 0 ∧ p.text ≠ []) ∨ ((p.kind = 1 ∨ p.kind = 3) ∧ 1 ≤ p.num ∧ p.text = [])
def okPrev (prev : Option Nat) (k : Nat) : Prop := prev ≠ some k ∧ ¬ (prev = some 3 ∧ k = 2)
def NFc : Option Nat → List Pt → Prop
  | prev, [] => prev ≠ some 1
  | prev, p :: L => okOne p ∧ okPrev prev p.kind ∧ NFc (some p.kind) L

theorem right_one {p : Pt} (h : Right p) : okOne p := by
  rcases h with ⟨a, b, _, d⟩ | ⟨a, b, c⟩ | ⟨a, b, _, d⟩
  · exact .inr ⟨.inl a, b, d⟩
  · exact .inl ⟨a, b, c⟩
  · exact .inr ⟨.inr a, b, d⟩

theorem nfc_flush (c : Nat) (t : List UInt8) (g : Nat) (h : t ≠ [] ∨ g ≠ 0) : ∀ (A : List Pt) (prev : Option Nat), NFc prev A → ((prev = none ∧ A = []) ∨ 0 < c) → NFc prev (A ++ (kp c ++ (ip t ++ dp g))) := by
  intro A
  induction A with
  | nil =>
    intro prev hn hc
    simp only [NFc] at hn
    have hc' : 0 < c ∨ c = 0 := by omega
    rcases hc' with hc' | hc'
    · by_cases ht : t = [] <;> by_cases hg : g = 0
      · simp_all
      all_goals simp [kp, ip, dp, NFc, okOne, okPrev, K, I, D, ht, hg, hn, Nat.pos_iff_ne_zero.1 hc']
      all_goals omega
    · have hp : prev = none := by rcases hc with ⟨h, _⟩ | h <;> first | exact h | omega
      subst hp
      by_cases ht : t = [] <;> by_cases hg : g = 0
      · simp_all
      all_goals simp [kp, ip, dp, NFc, okOne, okPrev, I, D, ht, hg, hc']
      all_goals omega
  | cons p A ih =>
    intro prev hn hc
    obtain ⟨h1, h2, h3⟩ := hn
    refine ⟨h1, h2, ih _ h3 (.inr ?_)⟩
    rcases hc with ⟨_, hc⟩ | hc
    · cases hc
    · exact hc

structure Wr.Good (w : Wr) : Prop where
  nf : NFc none w.done
  gap : w.done = [] ∨ 0 < w.kept

theorem Wr.Good.settled {w : Wr} (h : w.Good) : NFc none w.settle.done := by
  unfold Wr.settle
  split
  · exact h.nf
  · next hh =>
    have : NFc none (w.done ++ (kp w.kept ++ (ip w.put ++ dp w.gone))) := by
      refine nfc_flush _ _ _ ?_ _ _ h.nf ?_
      · by_cases hp : w.put = []
        · exact .inr fun hg => hh ⟨hp, hg⟩
        · exact .inl hp
      · rcases h.gap with e | e
        · exact .inl ⟨rfl, e⟩
        · exact .inr e
    simpa [List.append_assoc] using this

theorem Wr.Good.step {w : Wr} (h : w.Good) (p : Pt) : (w.step p).Good := by
  unfold Wr.step
  split
  · unfold Wr.keep
    split
    · exact h
    · exact ⟨h.settled, .inr (by simp only; omega)⟩
  · split
    · exact ⟨h.nf, h.gap⟩
    · split
      · exact ⟨h.nf, h.gap⟩
      · exact h

theorem steps_good (L : List Pt) : ∀ w : Wr, w.Good → (steps w L).Good := by
  induction L with
  | nil => exact fun _ h => h
  | cons p L ih => exact fun w h => ih _ (h.step p)

/-- THE NORMAL FORM IS ONE. -/
theorem norm_nf (L : List Pt) : NFc none (norm L) := (steps_good L Wr.new ⟨by simp [Wr.new, NFc], .inl rfl⟩).settled

def Wr.lk (w : Wr) : Option Nat := if w.gone ≠ 0 then some 3 else if w.put ≠ [] then some 2 else if w.kept ≠ 0 then some 1 else none

theorem steps_nf (L : List Pt) : ∀ w : Wr, (w.done = [] ∨ 0 < w.kept) → NFc w.lk L → (steps w L).settle.done = w.fl ++ L := by
  induction L with
  | nil =>
    intro w hg hn
    simp only [NFc, Wr.lk] at hn
    show w.settle.done = w.fl ++ []
    rw [List.append_nil]
    unfold Wr.settle
    by_cases hh : w.put = [] ∧ w.gone = 0
    · rw [if_pos hh]
      simp [hh.1, hh.2] at hn
      have hd : w.done = [] := by rcases hg with e | e <;> first | exact e | omega
      simp [Wr.fl, hd, hn, hh.1, hh.2, kp, ip, dp]
    · rw [if_neg hh]; rfl
  | cons p L ih =>
    intro w hg hn
    obtain ⟨h1, h2, h3⟩ := hn
    have hp : p = ⟨p.kind, p.num, p.text⟩ := rfl
    have key : ((w.step p).done = [] ∨ 0 < (w.step p).kept) ∧ (w.step p).lk = some p.kind ∧ (w.step p).fl = w.fl ++ [p] := by
      rcases h1 with ⟨a, b, c⟩ | ⟨a | a, b, c⟩
      · have hgo : w.gone = 0 := by
          by_cases e : w.gone = 0
          · exact e
          · simp [okPrev, Wr.lk, e, a] at h2
        have hpu : w.put = [] := by
          by_cases e : w.put = []
          · exact e
          · simp [okPrev, Wr.lk, e, a, hgo] at h2
        have e : I p.text = p := by rw [hp, a, b]; rfl
        refine ⟨by simp [Wr.step, a, hg], by simp [Wr.step, a, Wr.lk, hgo, hpu, c], ?_⟩
        simp [Wr.step, a, Wr.fl, hgo, hpu, ip, dp, c, e]
      · have e : K p.num = p := by rw [hp, a, c]; rfl
        have hn0 : p.num ≠ 0 := by omega
        by_cases hh : w.put = [] ∧ w.gone = 0
        · have hk : w.kept = 0 := by
            by_cases e : w.kept = 0
            · exact e
            · simp [okPrev, Wr.lk, e, a, hh.1, hh.2] at h2
          have hd : w.done = [] := by rcases hg with e | e <;> first | exact e | omega
          refine ⟨by simp [Wr.step, a, Wr.keep, hn0, Wr.settle, hh, hd], by simp [Wr.step, a, Wr.keep, hn0, Wr.settle, hh, hk, Wr.lk], ?_⟩
          simp [Wr.step, a, Wr.keep, hn0, Wr.settle, hh, hk, hd, Wr.fl, kp, ip, dp, e]
        · refine ⟨.inr (by simp [Wr.step, a, Wr.keep, hn0, Wr.settle, hh]; omega), by simp [Wr.step, a, Wr.keep, hn0, Wr.settle, hh, Wr.lk], ?_⟩
          simp [Wr.step, a, Wr.keep, hn0, Wr.settle, hh, Wr.fl, kp, ip, dp, e]
      · have hgo : w.gone = 0 := by
          by_cases e : w.gone = 0
          · exact e
          · simp [okPrev, Wr.lk, e, a] at h2
        have e : D p.num = p := by rw [hp, a, c]; rfl
        have hn0 : p.num ≠ 0 := by omega
        refine ⟨by simp [Wr.step, a, hg], by simp [Wr.step, a, Wr.lk, hgo, hn0], ?_⟩
        simp [Wr.step, a, Wr.fl, hgo, dp, hn0, e]
    obtain ⟨k1, k2, k3⟩ := key
    have := ih (w.step p) k1 (by rw [k2]; exact h3)
    rw [show steps w (p :: L) = steps (w.step p) L from rfl, this, k3]
    simp

/-- A NORMAL FORM IS ITS OWN. -/
theorem norm_self (L : List Pt) (h : NFc none L) : norm L = L := by
  have := steps_nf L Wr.new (.inl rfl) h
  simpa [norm, Wr.new, Wr.fl, kp, ip, dp] using this

theorem norm_norm (L : List Pt) : norm (norm L) = norm L := norm_self _ (norm_nf L)

/-- sums, lengths, texts. -/
def nums (L : List Pt) : Nat := (L.map (·.num)).sum
theorem nums_append (A B : List Pt) : nums (A ++ B) = nums A + nums B := by simp [nums]
theorem nums_kp (n : Nat) : nums (kp n) = n := by unfold kp; split <;> simp_all [nums, K]
theorem nums_ip (t : List UInt8) : nums (ip t) = 0 := by unfold ip; split <;> simp_all [nums, I]
theorem nums_dp (n : Nat) : nums (dp n) = n := by unfold dp; split <;> simp_all [nums, D]
theorem nums_fl (w : Wr) : nums w.fl = nums w.done + w.kept + w.gone := by simp [Wr.fl, nums_append, nums_kp, nums_ip, nums_dp, Nat.add_assoc]
theorem len_kp (n : Nat) : (kp n).length ≤ 1 := by unfold kp; split <;> simp
theorem len_ip (t : List UInt8) : (ip t).length ≤ 1 := by unfold ip; split <;> simp
theorem len_dp (n : Nat) : (dp n).length ≤ 1 := by unfold dp; split <;> simp

theorem step_size (w : Wr) (p : Pt) (hp : Right p) : nums (w.step p).fl = nums w.fl + p.num ∧ (w.step p).fl.length ≤ w.fl.length + 1 := by
  rcases hp with ⟨a, b, _, d⟩ | ⟨a, b, c⟩ | ⟨a, b, _, d⟩
  · have hn0 : p.num ≠ 0 := by omega
    have hs := settle_fl w
    obtain ⟨e1, e2⟩ := settle_kept w
    have hst : w.step p = { w.settle with kept := w.settle.kept + p.num } := by simp [Wr.step, a, Wr.keep, hn0]
    rw [hst]
    constructor
    · rw [← hs, nums_fl, nums_fl, e2]; simp only; omega
    · rw [← hs]
      simp only [Wr.fl, e1, e2, List.length_append]
      have := len_kp (w.settle.kept + p.num)
      omega
  · have hst : w.step p = { w with put := w.put ++ p.text } := by simp [Wr.step, a]
    rw [hst]
    refine ⟨by rw [nums_fl, nums_fl, b]; rfl, ?_⟩
    simp only [Wr.fl, List.length_append]
    by_cases e : w.put = []
    · have := len_ip (w.put ++ p.text)
      omega
    · have h1 : (ip (w.put ++ p.text)).length = 1 := by simp [ip, e]
      have h2 : (ip w.put).length = 1 := by simp [ip, e]
      omega
  · have hst : w.step p = { w with gone := w.gone + p.num } := by simp [Wr.step, a]
    rw [hst]
    refine ⟨by rw [nums_fl, nums_fl]; simp only; omega, ?_⟩
    simp only [Wr.fl, List.length_append]
    by_cases e : w.gone = 0
    · have := len_dp (w.gone + p.num)
      omega
    · have h1 : (dp (w.gone + p.num)).length = 1 := by simp [dp, e]
      have h2 : (dp w.gone).length = 1 := by simp [dp, e]
      omega

theorem steps_size (L : List Pt) : ∀ w : Wr, (∀ p ∈ L, Right p) → nums (steps w L).fl = nums w.fl + nums L ∧ (steps w L).fl.length ≤ w.fl.length + L.length := by
  induction L with
  | nil => intro w _; exact ⟨by simp [steps, nums], by simp [steps]⟩
  | cons p L ih =>
    intro w h
    obtain ⟨a, b⟩ := ih (w.step p) (fun q hq => h q (by simp [hq]))
    obtain ⟨c, d⟩ := step_size w p (h p (by simp))
    rw [show steps w (p :: L) = steps (w.step p) L from rfl]
    simp only [nums, List.map_cons, List.sum_cons, List.length_cons] at *
    omega

theorem norm_size (L : List Pt) (h : ∀ p ∈ L, Right p) : nums (norm L) ≤ nums L ∧ (norm L).length ≤ L.length := by
  obtain ⟨a, b⟩ := steps_size L Wr.new h
  rw [← settle_fl, settled_done] at a b
  have e : Wr.new.fl = [] := by simp [Wr.new, Wr.fl, kp, ip, dp]
  rw [e] at a b
  simp only [nums_append, List.length_append, norm] at *
  simp [nums] at a b ⊢
  omega

def ValidT (t : List UInt8) : Prop := ∃ cs : List (List UInt8), (∀ c ∈ cs, IsCh c) ∧ t = cs.flatten
theorem ValidT.nil : ValidT [] := ⟨[], by simp, rfl⟩
theorem ValidT.append {a b : List UInt8} (ha : ValidT a) (hb : ValidT b) : ValidT (a ++ b) := by
  obtain ⟨x, hx, rfl⟩ := ha
  obtain ⟨y, hy, rfl⟩ := hb
  refine ⟨x ++ y, fun c hc => ?_, by simp⟩
  rcases List.mem_append.1 hc with h | h
  · exact hx c h
  · exact hy c h

structure Wr.Texts (w : Wr) : Prop where
  done : ∀ p ∈ w.done, ValidT p.text
  put : ValidT w.put

theorem Wr.Texts.settle {w : Wr} (h : w.Texts) : w.settle.Texts := by
  unfold Wr.settle
  split
  · exact h
  · refine ⟨?_, ValidT.nil⟩
    intro p hp
    simp only [List.mem_append] at hp
    rcases hp with ((hp | hp) | hp) | hp
    · exact h.done p hp
    · unfold kp at hp; split at hp <;> simp at hp; subst hp; exact ValidT.nil
    · unfold ip at hp; split at hp <;> simp at hp; subst hp; exact h.put
    · unfold dp at hp; split at hp <;> simp at hp; subst hp; exact ValidT.nil

theorem Wr.Texts.step {w : Wr} (h : w.Texts) (p : Pt) (hp : ValidT p.text) : (w.step p).Texts := by
  unfold Wr.step
  split
  · unfold Wr.keep
    split
    · exact h
    · exact ⟨h.settle.done, h.settle.put⟩
  · split
    · exact ⟨h.done, h.put.append hp⟩
    · split
      · exact ⟨h.done, h.put⟩
      · exact h

theorem steps_texts (L : List Pt) : ∀ w : Wr, w.Texts → (∀ p ∈ L, ValidT p.text) → (steps w L).Texts := by
  induction L with
  | nil => exact fun _ h _ => h
  | cons p L ih => exact fun w h hl => ih _ (h.step p (hl p (by simp))) (fun q hq => hl q (by simp [hq]))

theorem norm_texts (L : List Pt) (h : ∀ p ∈ L, ValidT p.text) : ∀ p ∈ norm L, ValidT p.text :=
  (steps_texts L Wr.new ⟨by simp [Wr.new], ValidT.nil⟩ h).settle.done

theorem nfc_one {prev : Option Nat} {L : List Pt} (h : NFc prev L) : ∀ p ∈ L, okOne p := by
  induction L generalizing prev with
  | nil => simp
  | cons p L ih =>
    intro q hq
    obtain ⟨a, _, c⟩ := h
    rcases List.mem_cons.1 hq with e | e
    · exact e ▸ a
    · exact ih c q e

theorem le_nums {L : List Pt} {p : Pt} (h : p ∈ L) : p.num ≤ nums L := by
  induction L with
  | nil => cases h
  | cons q L ih =>
    simp only [nums, List.map_cons, List.sum_cons] at *
    rcases List.mem_cons.1 h with e | e
    · subst e; omega
    · have := ih e; omega

theorem norm_right (L : List Pt) (h : ∀ p ∈ L, Right p) (hn : nums L ≤ 1000000) : ∀ p ∈ norm L, Right p := by
  intro p hp
  have h1 := nfc_one (norm_nf L) p hp
  have h2 := le_nums hp
  have h3 := (norm_size L h).1
  rcases h1 with ⟨a, b, c⟩ | ⟨a | a, b, c⟩
  · exact .inr (.inl ⟨a, b, c⟩)
  · exact .inl ⟨a, b, by omega, c⟩
  · exact .inr (.inr ⟨a, b, by omega, c⟩)

end Go.Proofs.Ytgoaihpaajchaaa
