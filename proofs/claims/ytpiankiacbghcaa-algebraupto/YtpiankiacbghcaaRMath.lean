/-
  Plain: an operation as what it does to each character and gap, against runs of parts.
-/
import Derived.Test.YtpiankiacbghcaaPure
namespace Go.Proofs.Ytpiankiacbghcaa

def uB (b : Bool) : Pt := if b then D 1 else K 1
/-- character by character. -/
def units : List Bool → List (List (List UInt8)) → List Pt
  | b :: G, x :: r => x.map I ++ (uB b :: units G r)
  | [], x :: _ => x.map I
  | _, [] => []

theorem steps_append (w : Wr) (A B : List Pt) : steps w (A ++ B) = steps (steps w A) B := by simp [steps]
theorem steps_cons (w : Wr) (p : Pt) (B : List Pt) : steps w (p :: B) = steps (w.step p) B := rfl
theorem steps_I (l : List (List UInt8)) : ∀ w : Wr, steps w (l.map I) = { w with put := w.put ++ l.flatten } := by
  induction l with
  | nil => intro w; simp [steps]
  | cons c l ih => intro w; rw [List.map_cons, steps_cons, ih]; simp [Wr.step, I]
theorem step_D (w : Wr) (n : Nat) : w.step (D n) = { w with gone := w.gone + n } := by simp [Wr.step, D]
theorem step_K (w : Wr) (n : Nat) : w.step (K n) = w.keep n := by simp [Wr.step, K]

/-- what is put in behind characters that go is put in ahead of them. -/
def settR : List Bool → List (List (List UInt8)) → List (List (List UInt8))
  | b :: G, x :: r => if b then (match settR G r with | y :: r' => (x ++ y) :: [] :: r' | [] => [x]) else x :: settR G r
  | _, l => l

theorem settR_length : ∀ (G : List Bool) (l : List (List (List UInt8))), l.length = G.length + 1 → (settR G l).length = G.length + 1
  | [], l, h => by simpa [settR] using h
  | b :: G, [], h => by simp at h
  | b :: G, x :: r, h => by
    have ih := settR_length G r (by simpa using h)
    simp only [settR]
    split
    · cases hs : settR G r with
      | nil => rw [hs] at ih; simp at ih
      | cons y r' => rw [hs] at ih; simp at ih ⊢; omega
    · simp [ih]

theorem settR_steps : ∀ (G : List Bool) (l : List (List (List UInt8))), l.length = G.length + 1 → ∀ w : Wr, steps w (units G (settR G l)) = steps w (units G l)
  | [], l, h, w => by simp [settR]
  | b :: G, [], h, w => by simp at h
  | b :: G, x :: r, h, w => by
    have hl : r.length = G.length + 1 := by simpa using h
    have ih := settR_steps G r hl
    have hlen := settR_length G r hl
    simp only [settR]
    cases b
    · simp only [Bool.false_eq_true, if_false, units, steps_append, steps_cons]
      rw [ih]
    · simp only [if_true]
      cases hs : settR G r with
      | nil => rw [hs] at hlen; simp at hlen
      | cons y r' =>
        rw [hs] at ih
        have ht : ∃ T, ∀ z, units G (z :: r') = z.map I ++ T := by
          cases G with
          | nil => exact ⟨[], fun z => by simp [units]⟩
          | cons c G => cases r' with
            | nil => rw [hs] at hlen; simp at hlen
            | cons a b => exact ⟨uB c :: units G (a :: b), fun z => by simp [units]⟩
        obtain ⟨T, hT⟩ := ht
        have e1 : units (true :: G) ((x ++ y) :: [] :: r') = (x ++ y).map I ++ (D 1 :: T) := by
          simp only [units, uB, if_true]; rw [hT []]; simp
        have e2 : units (true :: G) (x :: r) = x.map I ++ (D 1 :: units G r) := by simp [units, uB]
        rw [e1, e2, steps_append, steps_append, steps_cons, steps_cons, ← ih, hT y, steps_append, steps_I, steps_I, steps_I, step_D, step_D]
        simp [List.append_assoc]

/-- a part, character by character. -/
def uP (cs : List (List UInt8)) (p : Pt) : List Pt := if p.kind = 1 then List.replicate p.num (K 1) else if p.kind = 2 then cs.map I else List.replicate p.num (D 1)

theorem steps_repD (n : Nat) : ∀ w : Wr, steps w (List.replicate n (D 1)) = { w with gone := w.gone + n } := by
  induction n with
  | zero => intro w; simp [steps]
  | succ n ih => intro w; rw [List.replicate_succ, steps_cons, ih, step_D]; simp; omega

theorem keep_keep (w : Wr) (a b : Nat) : (w.keep a).keep b = w.keep (a + b) := by
  by_cases ha : a = 0
  · subst ha; simp [Wr.keep]
  · by_cases hb : b = 0
    · subst hb; simp [Wr.keep]
    · have h1 : w.keep a = { w.settle with kept := w.settle.kept + a } := by rw [Wr.keep, if_neg ha]
      have h2 : w.keep (a + b) = { w.settle with kept := w.settle.kept + (a + b) } := by rw [Wr.keep, if_neg (by omega)]
      obtain ⟨e1, e2⟩ := settle_kept w
      rw [h1, h2, Wr.keep, if_neg hb]
      have h3 : Wr.settle { w.settle with kept := w.settle.kept + a } = { w.settle with kept := w.settle.kept + a } := by
        rw [Wr.settle, if_pos ⟨e1, e2⟩]
      rw [h3]
      simp [Nat.add_assoc]

theorem steps_repK (n : Nat) : ∀ w : Wr, steps w (List.replicate n (K 1)) = w.keep n := by
  induction n with
  | zero => intro w; simp [steps, Wr.keep]
  | succ n ih => intro w; rw [List.replicate_succ, steps_cons, ih, step_K, keep_keep, Nat.add_comm]

theorem steps_uP (cs : List (List UInt8)) (p : Pt) (hp : Right p) (ht : p.kind = 2 → p.text = cs.flatten) (w : Wr) : steps w (uP cs p) = w.step p := by
  unfold uP
  rcases hp with ⟨a, _, _, _⟩ | ⟨a, _, _⟩ | ⟨a, _, _, _⟩
  · rw [if_pos a, steps_repK]; simp [Wr.step, a]
  · rw [if_neg (by omega), if_pos a, steps_I, ← ht a]; simp [Wr.step, a]
  · rw [if_neg (by omega), if_neg (by omega), steps_repD]; simp [Wr.step, a]

/-- a last Keep does nothing. -/
theorem norm_keep (X : List Pt) (n : Nat) : norm (X ++ List.replicate n (K 1)) = norm X := by
  unfold norm
  rw [steps_append, steps_repK]
  by_cases hn : n = 0
  · subst hn; simp [Wr.keep]
  · obtain ⟨e1, e2⟩ := settle_kept (steps Wr.new X)
    rw [Wr.keep, if_neg hn, Wr.settle, if_pos ⟨e1, e2⟩]

/-- one part more, as the document's answer lays them. -/
def withP (l : List Pt) (u : Pt) : List Pt :=
  match l.getLast? with
  | some p => if p.kind = u.kind then l.dropLast ++ [⟨u.kind, p.num + u.num, p.text ++ u.text⟩] else l ++ [u]
  | none => [u]

def dropKeep (l : List Pt) : List Pt := match l.getLast? with | some p => if p.kind = 1 then l.dropLast else l | none => l

theorem withP_snoc (l : List Pt) (p u : Pt) : withP (l ++ [p]) u = if p.kind = u.kind then l ++ [⟨u.kind, p.num + u.num, p.text ++ u.text⟩] else l ++ [p] ++ [u] := by
  simp [withP]

/-- units that may come. -/
def okU (w : Wr) (u : Pt) : Prop := (u = K 1 ∨ u = D 1 ∨ ∃ c, u = I c ∧ c ≠ []) ∧ ¬ (u.kind = 2 ∧ w.gone ≠ 0)

theorem fl_kept {w : Wr} (h : w.put = [] ∧ w.gone = 0) : w.fl = w.done ++ kp w.kept := by simp [Wr.fl, h.1, h.2, ip, dp]

theorem step_with (w : Wr) (hg : w.done = [] ∨ 0 < w.kept) (u : Pt) (hu : okU w u) : (w.step u).fl = withP w.fl u ∧ ((w.step u).done = [] ∨ 0 < (w.step u).kept) := by
  obtain ⟨hk, hn⟩ := hu
  rcases hk with rfl | rfl | ⟨c, rfl, hc⟩
  · rw [step_K]
    by_cases hs : w.put = [] ∧ w.gone = 0
    · have e : w.keep 1 = { w with kept := w.kept + 1 } := by rw [Wr.keep, if_neg (by omega), Wr.settle, if_pos hs]
      rw [e]
      refine ⟨?_, .inr (by simp)⟩
      rw [fl_kept hs, fl_kept (by exact hs)]
      by_cases hk0 : w.kept = 0
      · have hd : w.done = [] := by rcases hg with h | h; exact h; omega
        simp [kp, hk0, hd, withP]
      · have e1 : kp w.kept = [K w.kept] := by rw [kp, if_neg hk0]
        rw [e1, withP_snoc]
        simp [kp, K]
    · have e : w.keep 1 = ⟨w.fl, 1, [], 0⟩ := by rw [Wr.keep, if_neg (by omega), Wr.settle, if_neg hs]; rfl
      rw [e]
      refine ⟨?_, .inr (by simp)⟩
      have e2 : (⟨w.fl, 1, [], 0⟩ : Wr).fl = w.fl ++ [K 1] := by simp [Wr.fl, kp, ip, dp]
      rw [e2]
      have hlast : ∃ X p, w.fl = X ++ [p] ∧ p.kind ≠ 1 := by
        by_cases hg0 : w.gone = 0
        · have hp : w.put ≠ [] := fun e => hs ⟨e, hg0⟩
          exact ⟨w.done ++ kp w.kept, I w.put, by simp [Wr.fl, ip, dp, hp, hg0], by simp [I]⟩
        · exact ⟨w.done ++ kp w.kept ++ ip w.put, D w.gone, by simp [Wr.fl, dp, hg0], by simp [D]⟩
      obtain ⟨X, p, hX, hp⟩ := hlast
      rw [hX, withP_snoc, if_neg (by simpa [K] using hp)]
  · rw [step_D]
    refine ⟨?_, hg⟩
    by_cases hg0 : w.gone = 0
    · have e2 : w.fl = w.done ++ kp w.kept ++ ip w.put := by simp [Wr.fl, dp, hg0]
      have e3 : ({ w with gone := w.gone + 1 } : Wr).fl = w.fl ++ [D 1] := by rw [e2]; simp [Wr.fl, dp, hg0]
      rw [e3]
      by_cases hp : w.put = []
      · by_cases hk0 : w.kept = 0
        · have hd : w.done = [] := by rcases hg with h | h; exact h; omega
          simp [e2, hp, hk0, hd, kp, ip, withP]
        · rw [e2]
          simp only [hp, ip, if_true, List.append_nil, kp, if_neg hk0]
          rw [withP_snoc, if_neg (by simp [K, D])]
      · rw [e2]
        simp only [ip, if_neg hp]
        rw [withP_snoc, if_neg (by simp [I, D])]
    · have e2 : w.fl = w.done ++ kp w.kept ++ ip w.put ++ [D w.gone] := by simp [Wr.fl, dp, hg0]
      rw [e2, withP_snoc]
      simp [Wr.fl, dp, D]
  · have hg0 : w.gone = 0 := by
      by_cases e : w.gone = 0
      · exact e
      · exact absurd ⟨rfl, e⟩ hn
    have e1 : w.step (I c) = { w with put := w.put ++ c } := by simp [Wr.step, I]
    rw [e1]
    refine ⟨?_, hg⟩
    by_cases hp : w.put = []
    · have e2 : w.fl = w.done ++ kp w.kept := fl_kept ⟨hp, hg0⟩
      have e3 : ({ w with put := w.put ++ c } : Wr).fl = w.fl ++ [I c] := by rw [e2]; simp [Wr.fl, ip, dp, hp, hg0, hc]
      rw [e3, e2]
      by_cases hk0 : w.kept = 0
      · have hd : w.done = [] := by rcases hg with h | h; exact h; omega
        simp [hk0, hd, kp, withP]
      · rw [show kp w.kept = [K w.kept] from by rw [kp, if_neg hk0], withP_snoc, if_neg (by simp [K, I])]
    · have e2 : w.fl = w.done ++ kp w.kept ++ [I w.put] := by simp [Wr.fl, ip, dp, hp, hg0]
      rw [e2, withP_snoc]
      simp [Wr.fl, ip, dp, hg0, I, hp]

/-- nothing is put in right behind a character that goes. -/
def SetOK : List Bool → List (List (List UInt8)) → Prop
  | b :: G, _ :: r => (b = true → r.headD [] = []) ∧ SetOK G r
  | _, _ => True

theorem SetOK.head {G : List Bool} {y z : List (List UInt8)} {r : List (List (List UInt8))} (h : SetOK G (y :: r)) : SetOK G (z :: r) := by
  cases G with
  | nil => trivial
  | cons b G => exact h

theorem settR_ok : ∀ (G : List Bool) (l : List (List (List UInt8))), l.length = G.length + 1 → SetOK G (settR G l)
  | [], l, h => by cases l <;> trivial
  | b :: G, [], h => by simp at h
  | b :: G, x :: r, h => by
    have hl : r.length = G.length + 1 := by simpa using h
    have ih := settR_ok G r hl
    have hlen := settR_length G r hl
    simp only [settR]
    cases b
    · simp only [Bool.false_eq_true, if_false]
      exact ⟨fun e => by simp at e, ih⟩
    · simp only [if_true]
      cases hs : settR G r with
      | nil => rw [hs] at hlen; simp at hlen
      | cons y r' =>
        rw [hs] at ih
        exact ⟨fun _ => rfl, ih.head⟩

def NE (l : List (List (List UInt8))) : Prop := ∀ x ∈ l, ∀ c ∈ x, c ≠ []

theorem fold_I (x : List (List UInt8)) (hx : ∀ c ∈ x, c ≠ []) : ∀ w : Wr, (x = [] ∨ w.gone = 0) → (w.done = [] ∨ 0 < w.kept) →
    (steps w (x.map I)).fl = (x.map I).foldl withP w.fl ∧ ((steps w (x.map I)).done = [] ∨ 0 < (steps w (x.map I)).kept) := by
  induction x with
  | nil => intro w _ hg; exact ⟨rfl, hg⟩
  | cons c x ih =>
    intro w hw hg
    have hw0 : w.gone = 0 := by rcases hw with e | e; cases e; exact e
    obtain ⟨a, b⟩ := step_with w hg (I c) ⟨.inr (.inr ⟨c, rfl, hx c (by simp)⟩), fun h => h.2 hw0⟩
    have e1 : (w.step (I c)).gone = 0 := by simp [Wr.step, I, hw0]
    obtain ⟨p, q⟩ := ih (fun d hd => hx d (by simp [hd])) (w.step (I c)) (.inr e1) b
    rw [List.map_cons, steps_cons, List.foldl_cons, ← a]
    exact ⟨p, q⟩

theorem fold_units : ∀ (G : List Bool) (l : List (List (List UInt8))), SetOK G l → NE l → ∀ w : Wr, (l.headD [] = [] ∨ w.gone = 0) → (w.done = [] ∨ 0 < w.kept) →
    (steps w (units G l)).fl = (units G l).foldl withP w.fl ∧ ((steps w (units G l)).done = [] ∨ 0 < (steps w (units G l)).kept)
  | [], [], _, _, w, _, hg => ⟨rfl, hg⟩
  | b :: G, [], _, _, w, _, hg => ⟨rfl, hg⟩
  | [], x :: r, _, hne, w, hw, hg => by
    have := fold_I x (hne x (by simp)) w (by simpa using hw) hg
    simpa [units] using this
  | b :: G, x :: r, hs, hne, w, hw, hg => by
    obtain ⟨p, q⟩ := fold_I x (hne x (by simp)) w (by simpa using hw) hg
    have hu : okU (steps w (x.map I)) (uB b) := by
      refine ⟨by cases b <;> simp [uB], fun h => ?_⟩
      cases b <;> simp [uB, K, D] at h
    obtain ⟨a, c⟩ := step_with (steps w (x.map I)) q (uB b) hu
    have hw2 : r.headD [] = [] ∨ ((steps w (x.map I)).step (uB b)).gone = 0 := by
      cases b
      · right
        have : uB false = K 1 := rfl
        rw [this, step_K, Wr.keep, if_neg (by omega)]
        exact (settle_kept _).2
      · exact .inl (hs.1 rfl)
    obtain ⟨y, z⟩ := fold_units G r hs.2 (fun m hm => hne m (by simp [hm])) _ hw2 c
    simp only [units, steps_append, steps_cons, List.foldl_append, List.foldl_cons]
    rw [← p, ← a]
    exact ⟨y, z⟩

theorem nfc_getLast {L : List Pt} : ∀ {prev : Option Nat}, NFc prev L → ∀ p, L.getLast? = some p → p.kind ≠ 1 := by
  induction L with
  | nil => intro _ _ p h; simp at h
  | cons q L ih =>
    intro prev hn p hp
    obtain ⟨_, _, c⟩ := hn
    cases L with
    | nil =>
      simp at hp
      subst hp
      simpa [NFc] using c
    | cons r L => exact ih c p (by simpa using hp)

/-- THE DOCUMENT's PARTS ARE THE NORMAL FORM. -/
theorem parts_units (G : List Bool) (l : List (List (List UInt8))) (hs : SetOK G l) (hne : NE l) : dropKeep ((units G l).foldl withP []) = norm (units G l) := by
  obtain ⟨a, _⟩ := fold_units G l hs hne Wr.new (.inr rfl) (.inl rfl)
  have e0 : Wr.new.fl = [] := by simp [Wr.new, Wr.fl, kp, ip, dp]
  rw [e0] at a
  rw [← a, ← settle_fl, settled_done]
  have hn := norm_nf (units G l)
  unfold norm at hn ⊢
  by_cases hk : (steps Wr.new (units G l)).settle.kept = 0
  · rw [hk, show kp 0 = [] from rfl, List.append_nil, dropKeep]
    cases hl : (steps Wr.new (units G l)).settle.done.getLast? with
    | none => rfl
    | some p => simp [nfc_getLast hn p hl]
  · rw [show kp (steps Wr.new (units G l)).settle.kept = [K (steps Wr.new (units G l)).settle.kept] from by rw [kp, if_neg hk]]
    simp [dropKeep, K]

def allUnits (L : List Pt) (C : List (List (List UInt8))) : List Pt := ((L.zip C).map (fun x => uP x.2 x.1)).flatten

theorem steps_all : ∀ (L : List Pt) (C : List (List (List UInt8))), C.length = L.length → (∀ p ∈ L, Right p) → (∀ x ∈ L.zip C, x.1.kind = 2 → x.1.text = x.2.flatten) → ∀ w : Wr, steps w (allUnits L C) = steps w L
  | [], _, _, _, _, w => by simp [allUnits]
  | p :: L, [], h, _, _, w => by simp at h
  | p :: L, c :: C, h, hr, ht, w => by
    have ih := steps_all L C (by simpa using h) (fun q hq => hr q (by simp [hq])) (fun x hx => ht x (by simp [hx]))
    have e : allUnits (p :: L) (c :: C) = uP c p ++ allUnits L C := by simp [allUnits]
    rw [e, steps_append, steps_uP c p (hr p (by simp)) (fun hk => ht (p, c) (by simp) hk), ih, steps_cons]

theorem norm_of_steps {A B : List Pt} (h : ∀ w : Wr, steps w A = steps w B) : norm A = norm B := by unfold norm; rw [h]

theorem units_norm {L : List Pt} {C : List (List (List UInt8))} {G : List Bool} {l : List (List (List UInt8))} {m : Nat} (hC : C.length = L.length) (hr : ∀ p ∈ L, Right p) (ht : ∀ x ∈ L.zip C, x.1.kind = 2 → x.1.text = x.2.flatten)
    (hu : units G l = allUnits L C ++ List.replicate m (K 1)) : norm (units G l) = norm L := by
  rw [hu, norm_keep]
  exact norm_of_steps (steps_all L C hC hr ht)

/-- characters that are left. -/
def ofF : List Bool → List (List (List UInt8)) → List (List UInt8) → List (List UInt8)
  | b :: G, x :: r, c :: cs => x ++ ((if b then [] else [c]) ++ ofF G r cs)
  | _, x :: _, _ => x
  | _, [], _ => []

theorem applyP_I (x : List (List UInt8)) (B : List Pt) (cs : List (List UInt8)) : applyP (x.map I ++ B) cs = x.flatten ++ applyP B cs := by
  induction x with
  | nil => simp
  | cons c x ih => simp only [List.map_cons, List.cons_append, List.flatten_cons, List.append_assoc]; rw [applyP]; simp [I, ih]

theorem apply_units : ∀ (G : List Bool) (l : List (List (List UInt8))) (cs : List (List UInt8)), l.length = G.length + 1 → cs.length = G.length → applyP (units G l) cs = (ofF G l cs).flatten
  | [], [], cs, h, _ => by simp at h
  | b :: G, [], cs, h, _ => by simp at h
  | [], x :: r, cs, _, hc => by
    have : cs = [] := List.length_eq_zero_iff.1 (by simpa using hc)
    subst this
    have := applyP_I x [] []
    simp only [List.append_nil] at this
    simp [units, ofF, this, applyP]
  | b :: G, x :: r, [], _, hc => by simp at hc
  | b :: G, x :: r, c :: cs, h, hc => by
    have ih := apply_units G r cs (by simpa using h) (by simpa using hc)
    simp only [units, ofF]
    rw [applyP_I]
    cases b
    · simp [uB, applyP, K, ih]
    · simp [uB, applyP, D, ih]

theorem right_units : ∀ (G : List Bool) (l : List (List (List UInt8))), NE l → ∀ p ∈ units G l, Right p
  | [], [], _, p, h => by simp [units] at h
  | b :: G, [], _, p, h => by simp [units] at h
  | [], x :: r, hne, p, h => by
    simp only [units, List.mem_map] at h
    obtain ⟨c, hc, rfl⟩ := h
    exact .inr (.inl ⟨rfl, rfl, hne x (by simp) c hc⟩)
  | b :: G, x :: r, hne, p, h => by
    simp only [units, List.mem_append, List.mem_map, List.mem_cons] at h
    rcases h with ⟨c, hc, rfl⟩ | rfl | h
    · exact .inr (.inl ⟨rfl, rfl, hne x (by simp) c hc⟩)
    · cases b
      · exact .inl ⟨rfl, by simp [uB, K], by simp [uB, K], rfl⟩
      · exact .inr (.inr ⟨rfl, by simp [uB, D], by simp [uB, D], rfl⟩)
    · exact right_units G r (fun m hm => hne m (by simp [hm])) p h

theorem settR_ne : ∀ (G : List Bool) (l : List (List (List UInt8))), NE l → NE (settR G l)
  | [], l, h => by simpa [settR] using h
  | b :: G, [], h => by simpa [settR] using h
  | b :: G, x :: r, h => by
    have ih := settR_ne G r (fun m hm => h m (by simp [hm]))
    simp only [settR]
    cases b
    · simp only [Bool.false_eq_true, if_false]
      intro m hm
      rcases List.mem_cons.1 hm with e | e
      · rw [e]; exact h x (by simp)
      · exact ih m e
    · simp only [if_true]
      cases hs : settR G r with
      | nil => intro m hm; simp at hm; subst hm; exact h m (by simp)
      | cons y r' =>
        rw [hs] at ih
        intro m hm c hc
        simp only [List.mem_cons] at hm
        rcases hm with e | e | e
        · subst e
          rcases List.mem_append.1 hc with k | k
          · exact h x (by simp) c k
          · exact ih y (by simp) c k
        · subst e; simp at hc
        · exact ih m (by simp [e]) c hc

theorem settR_empty : ∀ (G : List Bool) (l : List (List (List UInt8))), l.length = G.length + 1 → (∀ x ∈ l, x = []) → settR G l = l
  | [], l, _, _ => by simp [settR]
  | b :: G, [], h, _ => by simp at h
  | b :: G, x :: r, h, he => by
    have ih := settR_empty G r (by simpa using h) (fun m hm => he m (by simp [hm]))
    simp only [settR]
    cases b
    · simp [ih]
    · simp only [if_true, ih]
      cases r with
      | nil => simp at h
      | cons y r' =>
        have hy : y = [] := he y (by simp)
        have hx : x = [] := he x (by simp)
        simp [hx, hy]

/-- where what is put in at a gap comes to stand. -/
structure Tgt (G : List Bool) (g to : Nat) : Prop where
  le : to ≤ g
  run : ∀ j, to ≤ j → j < g → G[j]? = some true
  stop : to = 0 ∨ G[to - 1]? = some false

theorem settR_add : ∀ (G : List Bool) (A : List (List (List UInt8))) (g to : Nat) (x : List (List UInt8)), A.length = G.length + 1 → g ≤ G.length → (∀ i, g ≤ i → A.getD i [] = []) → Tgt G g to →
    settR G (A.set g x) = (settR G A).set to ((settR G A).getD to [] ++ x)
  | G, [], g, to, x, h, _, _, _ => by simp at h
  | [], a :: A, g, to, x, h, hg, he, ht => by
    have hA : A = [] := by simpa using h
    have hg0 : g = 0 := by simpa using hg
    subst hA hg0
    have : to = 0 := by have := ht.le; omega
    subst this
    have ha : a = [] := by simpa using he 0 (Nat.le_refl _)
    simp [settR, ha]
  | b :: G, a :: A, 0, to, x, h, hg, he, ht => by
    have : to = 0 := by have := ht.le; omega
    subst this
    have ha : a = [] := by simpa using he 0 (Nat.le_refl _)
    have hA : ∀ m ∈ A, m = [] := by
      intro m hm
      obtain ⟨i, hi, rfl⟩ := List.mem_iff_getElem.1 hm
      have := he (i + 1) (Nat.zero_le _)
      simpa [List.getD_cons_succ, List.getD_eq_getElem?_getD, hi] using this
    have hs := settR_empty G A (by simpa using h) hA
    simp only [List.set_cons_zero, settR, hs]
    cases b
    · simp [ha]
    · cases A with
      | nil => simp at h
      | cons y r' =>
        have hy : y = [] := hA y (by simp)
        simp [ha, hy]
  | b :: G, a :: A, g + 1, to, x, h, hg, he, ht => by
    have hl : A.length = G.length + 1 := by simpa using h
    have he' : ∀ i, g ≤ i → A.getD i [] = [] := fun i hi => by simpa using he (i + 1) (by omega)
    have hlen := settR_length G A hl
    cases b
    · have h1 : 1 ≤ to := by
        rcases Nat.eq_zero_or_pos to with e | e
        · have := ht.run 0 (by omega) (by omega); simp at this
        · exact e
      obtain ⟨t, rfl⟩ : ∃ t, to = t + 1 := ⟨to - 1, by omega⟩
      have ht' : Tgt G g t := by
        refine ⟨by have := ht.le; omega, fun j h1 h2 => by simpa using ht.run (j + 1) (by omega) (by omega), ?_⟩
        rcases Nat.eq_zero_or_pos t with e | e
        · exact .inl e
        · right
          rcases ht.stop with k | k
          · omega
          · obtain ⟨u, rfl⟩ : ∃ u, t = u + 1 := ⟨t - 1, by omega⟩
            simpa using k
      have ih := settR_add G A g t x hl (by simpa using hg) he' ht'
      simp only [List.set_cons_succ, settR, Bool.false_eq_true, if_false, ih, List.getD_cons_succ]
    · have h2 : to = 0 ∨ 2 ≤ to := by
        rcases ht.stop with k | k
        · exact .inl k
        · right
          rcases Nat.lt_or_ge to 2 with e | e
          · have : to - 1 = 0 := by omega
            rw [this] at k; simp at k
          · exact e
      cases hs : settR G A with
      | nil => rw [hs] at hlen; simp at hlen
      | cons y r' =>
        rcases h2 with rfl | h2
        · have ht' : Tgt G g 0 := ⟨Nat.zero_le _, fun j _ h2 => by simpa using ht.run (j + 1) (by omega) (by omega), .inl rfl⟩
          have ih := settR_add G A g 0 x hl (by simpa using hg) he' ht'
          rw [hs] at ih
          simp only [List.set_cons_succ, settR, if_true, ih, hs]
          simp
        · obtain ⟨t, rfl⟩ : ∃ t, to = t + 2 := ⟨to - 2, by omega⟩
          have ht' : Tgt G g (t + 1) := by
            refine ⟨by have := ht.le; omega, fun j h1 h2 => by simpa using ht.run (j + 1) (by omega) (by omega), .inr ?_⟩
            rcases ht.stop with k | k
            · omega
            · simpa using k
          have ih := settR_add G A g (t + 1) x hl (by simpa using hg) he' ht'
          rw [hs] at ih
          simp only [List.set_cons_succ, settR, if_true, ih, hs]
          simp

end Go.Proofs.Ytpiankiacbghcaa
