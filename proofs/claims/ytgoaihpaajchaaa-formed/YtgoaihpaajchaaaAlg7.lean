/-
  parts.Transform.
-/
import Derived.Test.YtgoaihpaajchaaaAlg6
namespace Go.Proofs.Ytgoaihpaajchaaa
open Go.RowKit

/-- the lists that Normal made, behind the two Writers. -/
theorem row_view {w2 : World} {base : Nat} {v : Value} {L : List Pt} (h : w2.ownsRow base 42 3 v L.length (rowOf L)) (X : Nat → Prop) (hX : ∀ k, X k → k < base) : PartsV ⟨w2, X⟩ v L := by
  obtain ⟨ao, cap, rfl, hc⟩ := parts_of_row h
  refine ⟨ao, cap, rfl, fun hl => ?_⟩
  obtain ⟨b, off, rfl, hlt, hp⟩ := hc hl
  refine ⟨b, off, rfl, ⟨hlt, fun hx => ?_⟩, hp⟩
  have h1 := hX b hx
  rcases h.2 with ⟨e, h0⟩ | ⟨g, cap', cur, e, hbb, _⟩
  · omega
  · simp only [Value.slice.injEq, Option.some.injEq, Addr.mk.injEq] at e
    omega

def TrV (w2 : World) (b1 b2 : Nat) : Vw := ⟨w2, fun k => k = b1 ∨ k = b2⟩

def TransRel (w w2 : World) (b1 b2 : Nat) (xs ys : List Un) (N g : Nat) (c : Value) (wr : World) : Prop :=
  ∃ (bc : Nat) (ua ub : List Un) (ma mb E : Nat) (W1 W2 : Wr), c = .pointer (some ⟨bc, 0, none⟩) ∧ w2.heap.size ≤ bc ∧ PairIn (TrV w2 b1 b2) bc ua ub ma mb E wr ∧ ma + mb = g ∧ E + (xs.length + ys.length) = topE + (ua.length + ub.length) ∧ ua.length + ub.length ≤ xs.length + ys.length ∧
    TwoAt w2.heap.size b1 b2 W1 W2 wr ∧ (stU W1 (traU ua ub).1 = stU Wr.new (traU xs ys).1 ∧ stU W2 (traU ua ub).2 = stU Wr.new (traU xs ys).2) ∧
    (WB N W1 (ma + mb) (ua.length + ub.length) (bytesU ua + bytesU ub) ∧ WB N W2 (ma + mb) (ua.length + ub.length) (bytesU ua + bytesU ub)) ∧ (TrV w2 b1 b2).Sees wr ∧ Below w.heap.size w wr

theorem done_len {N : Nat} {W : Wr} {m len b : Nat} (h : WB N W m len b) : W.settle.done.length ≤ N := by
  have h1 := h.fl
  have h2 := settled_done W
  have h3 := congrArg List.length (settle_fl W)
  rw [h2, List.length_append] at h3
  omega

/-- the first Writer's parts are out; the second Writer still stands. -/
def HalfParts (b1 b2 : Nat) (W1 W2 : Wr) (v : Value) (w w' : World) : Prop :=
  w'.ownsRow b1 42 3 v W1.settle.done.length (rowOf W1.settle.done) ∧ (∃ dv pa bv, WrAt b2 W2 w' dv pa bv ∧ ∀ g, v.ownBlock = some g → g ≠ b2 ∧ ∀ u ∈ [dv, bv], u.ownBlock ≠ some g) ∧ Below b1 w w'

theorem two_parts1 {s b1 b2 : Nat} {W1 W2 : Wr} {w : World} (h : TwoAt s b1 b2 W1 W2 w) (hb1 : b1 < s) (hb2 : b2 < s) (hne : b1 ≠ b2) (hs : s ≤ w.heap.size) (hsm : W1.Small) :
    Calls Try.prog 38 #[.pointer (some ⟨b1, 0, none⟩)] w fun e w' => ∃ v, e = .returned v ∧ HalfParts b1 b2 W1 W2 v w w' := by
  obtain ⟨dv1, pa1, bv1, dv2, pa2, bv2, h⟩ := h
  refine (wParts_any b1 W1 w dv1 pa1 bv1 h.one hsm).mono ?_
  rintro e w' ⟨v, rfl, hv, hw, hb⟩
  refine ⟨v, rfl, hv, ⟨dv2, pa2, bv2, h.two.kept ?_ ?_, ?_⟩, hb⟩
  · refine hw.keep b2 (by omega) (Ne.symm hne) (fun u hu e => ?_)
    have := h.fresh u (by simp only [List.mem_cons, List.not_mem_nil, or_false] at *; rcases hu with e | e <;> simp [e]) b2 e
    omega
  · intro u hu g hg
    refine hw.keep g (h.two.own_lt u hu g hg) ?_ (fun x hx e => h.apart x hx u hu g e hg)
    have := h.fresh u (by simp only [List.mem_cons, List.not_mem_nil, or_false] at *; rcases hu with e | e <;> simp [e]) g hg
    omega
  · intro g hg
    rcases hw.own v (by simp) g hg with ⟨x, hx, hx2⟩ | hle
    · refine ⟨?_, fun u hu e => h.apart x hx u hu g hx2 e⟩
      have := h.fresh x (by simp only [List.mem_cons, List.not_mem_nil, or_false] at *; rcases hx with e | e <;> simp [e]) g hx2
      omega
    · refine ⟨by omega, fun u hu e => ?_⟩
      have := h.two.own_lt u hu g e
      omega

theorem two_parts2 {b1 b2 : Nat} {W1 W2 : Wr} {v : Value} {w0 w : World} (h : HalfParts b1 b2 W1 W2 v w0 w) (hsm : W2.Small) :
    Calls Try.prog 38 #[.pointer (some ⟨b2, 0, none⟩)] w fun e w' => ∃ v2, e = .returned v2 ∧ w'.ownsRow b1 42 3 v W1.settle.done.length (rowOf W1.settle.done) ∧ w'.ownsRow b2 42 3 v2 W2.settle.done.length (rowOf W2.settle.done) ∧ Below b2 w w' ∧ ∀ g, v.ownBlock = some g → v2.ownBlock ≠ some g := by
  obtain ⟨h1, ⟨dv, pa, bv, h2, h3⟩, _⟩ := h
  refine (wParts_any b2 W2 w dv pa bv h2 hsm).mono ?_
  rintro e w' ⟨v2, rfl, hv, hw, hb⟩
  refine ⟨v2, rfl, row_kept h1 (fun g hg => hw.keep g (h1.lt g hg).2 (h3 g hg).1 (h3 g hg).2), hv, hb, fun g hg hg2 => ?_⟩
  rcases hw.own v2 (by simp) g hg2 with ⟨u, hu, hu2⟩ | hle
  · exact (h3 g hg).2 u hu hu2
  · have := (h1.lt g hg).2
    omega

/-- two lists that came out, apart. -/
def TwoNew (w w' : World) (v1 v2 : Value) (N1 N2 : List Pt) : Prop :=
  w'.ownsRow w.heap.size 42 3 v1 N1.length (rowOf N1) ∧ w'.ownsRow w.heap.size 42 3 v2 N2.length (rowOf N2) ∧ ∀ g, v1.ownBlock = some g → v2.ownBlock ≠ some g

theorem wb_new {N m len b : Nat} (h1 : m ≤ N) (h2 : len ≤ 1000000000) (h3 : b ≤ 1000000000) : WB N Wr.new m len b := ⟨by simpa [Wr.new, Wr.fl, kp, ip, dp] using h1, by simpa [Wr.new, Wr.fl, kp, ip, dp, nums] using h2, by simpa [Wr.new] using h3⟩
theorem TwoAt.below2 {s b1 b2 : Nat} {W1 W2 : Wr} {w w' : World} (h : TwoAt s b1 b2 W1 W2 w) (hb : Below w.heap.size w w') : TwoAt s b1 b2 W1 W2 w' := by
  obtain ⟨dv1, pa1, bv1, dv2, pa2, bv2, h⟩ := h
  exact ⟨dv1, pa1, bv1, dv2, pa2, bv2, h.one.below2 hb, h.two.below2 hb, h.fresh, h.apart⟩
theorem sees_tf {w2 w w' : World} {b1 b2 : Nat} (h : (TrV w2 b1 b2).Sees w) (ht : TF w2.heap.size b1 b2 w w') : (TrV w2 b1 b2).Sees w' :=
  ⟨Nat.le_trans h.size ht.bel.size, fun k hk hx => (ht.old k hk (fun e => hx (.inl e)) (fun e => hx (.inr e))).trans (h.same k hk hx)⟩
theorem PairIn.tf {V : Vw} {wr wr' : World} {s b1 b2 bc : Nat} {ua ub : List Un} {ma mb E : Nat} (h : PairIn V bc ua ub ma mb E wr) (ht : TF s b1 b2 wr wr') (h1 : bc ≠ b1) (h2 : bc ≠ b2) : PairIn V bc ua ub ma mb E wr' := by
  obtain ⟨a1, a2, a3, a4, a5, a6, a7, c1, c2, c3, c4, c5, c6, c7, e1, e2⟩ := h
  exact ⟨a1, a2, a3, a4, a5, a6, a7, c1, c2, c3, c4, c5, c6, c7, ht.blk bc _ 83 e1 (by decide) (by decide) h1 h2, e2⟩

set_option maxHeartbeats 2000000 in
set_option maxRecDepth 100000 in
theorem pTransform_two (v v' : Value) (A B : List Pt) (us vs xs ys : List Un) (w : World) (hp : PartsAt w v A) (hcap : CapOk v) (hr : Reads A us) (hp' : PartsAt w v' B) (hcap' : CapOk v') (hr' : Reads B vs) (hN : A.length + B.length ≤ 1000)
    (hby : bytesU us + bytesU vs ≤ 1000000000) (hlen : us.length + vs.length ≤ 1000000000) (hx : Reads (normU us) xs) (hy : Reads (normU vs) ys) (hby2 : bytesU xs + bytesU ys ≤ 1000000000) (hlen2 : xs.length + ys.length ≤ 1000000000) :
    Calls Try.prog 27 #[v, v'] w fun e w' => ∃ v1 v2, e = .returned (.tuple #[v1, v2]) ∧ TwoNew w w' v1 v2 (normU (traU xs ys).1) (normU (traU xs ys).2) ∧ (normU (traU xs ys).1).length ≤ A.length + B.length ∧ (normU (traU xs ys).2).length ≤ A.length + B.length ∧ Below w.heap.size w w' := by
  have HN1 : Hid (∀ x, Below w.heap.size w x → Calls Try.prog 22 #[v] x fun e w' => ∃ v', e = .returned v' ∧ (w'.ownsRow x.heap.size 42 3 v' (normU us).length (rowOf (normU us)) ∧ (normU us).length ≤ A.length) ∧ Below x.heap.size x w') := fun x hx => pNormal_any v A us x (hp.below hx (Nat.le_refl _)) hcap hr (by omega) (by omega) (by omega)
  have HN2 : Hid (∀ x, Below w.heap.size w x → Calls Try.prog 22 #[v'] x fun e w' => ∃ v', e = .returned v' ∧ (w'.ownsRow x.heap.size 42 3 v' (normU vs).length (rowOf (normU vs)) ∧ (normU vs).length ≤ B.length) ∧ Below x.heap.size x w') := fun x hx => pNormal_any v' B vs x (hp'.below hx (Nat.le_refl _)) hcap' hr' (by omega) (by omega) (by omega)
  obtain ⟨ao, cap, rfl, _⟩ := hp
  obtain ⟨ao', cap', rfl, _⟩ := hp'
  have HXY : Hid (Reads (normU us) xs ∧ Reads (normU vs) ys) := ⟨hx, hy⟩
  clear hcap hcap' hr hr' hx hy
  go_enter Try.func27, Try.ntmps27
  go_wp2_with fail
  refine (HN1.out _ (((Below.refl _ _).alloc (Nat.le_refl _) _).alloc (by simp) _)).mono ?_
  rintro e w1 ⟨vA, rfl, ⟨hra, hla⟩, hb1⟩
  have hz1 := hb1.size
  have hwa := (hb1.block w.heap.size (by simp; omega)).trans (heap_two w _ _).1
  have hwb := (hb1.block (w.heap.size + 1) (by simp)).trans (heap_two w _ _).2
  have HW1 : Hid (Below w.heap.size w w1 ∧ w1.ownsRow (w.heap.size + 2) 42 3 vA (normU us).length (rowOf (normU us)) ∧ w1.heap[w.heap.size]? = some (.cells #[.slice none 0 0, .int .i64 0, .pointer none, .slice none 0 0, .int .i64 0] 63 (0, 0)) ∧ w1.heap[w.heap.size + 1]? = some (.cells #[.slice none 0 0, .int .i64 0, .pointer none, .slice none 0 0, .int .i64 0] 63 (0, 0)) ∧ w.heap.size + 2 ≤ w1.heap.size ∧ (normU us).length ≤ A.length) := ⟨(((Below.refl _ _).alloc (Nat.le_refl _) _).alloc (by simp) _).trans (hb1.mono (by simp; omega)), by simpa using hra, hwa, hwb, by simpa using hz1, hla⟩
  obtain ⟨aoA, capA, rfl, _⟩ := parts_of_row hra
  clear hra hb1 hwa hwb hla hz1
  go_wp2_with fail
  refine (HN2.out _ HW1.out.1).mono ?_
  rintro e w2 ⟨vB, rfl, ⟨hrb, hlb⟩, hb2⟩
  have HW2 : Hid (Below w.heap.size w w2 ∧ w2.ownsRow (w.heap.size + 2) 42 3 (.slice aoA (normU us).length capA) (normU us).length (rowOf (normU us)) ∧ w2.ownsRow (w.heap.size + 2) 42 3 vB (normU vs).length (rowOf (normU vs)) ∧ TwoAt w2.heap.size w.heap.size (w.heap.size + 1) Wr.new Wr.new w2 ∧ w.heap.size + 2 ≤ w2.heap.size ∧ (normU vs).length ≤ B.length) := by
    obtain ⟨q1, q2, q3, q4, q5, q6⟩ := HW1.out
    have hz := hb2.size
    refine ⟨q1.trans (hb2.mono q1.size), row_kept q2 (fun g hg => hb2.block g (q2.lt g hg).2), own_base hrb (by omega), ?_, by omega, hlb⟩
    refine ⟨.slice none 0 0, .pointer none, .slice none 0 0, .slice none 0 0, .pointer none, .slice none 0 0, ⟨(hb2.block _ (by omega)).trans q3, .inl rfl, World.ownsRow_nil _ _ _ _, World.ownsRow_nil _ _ _ _, fun _ => rfl⟩, ⟨(hb2.block _ (by omega)).trans q4, .inl rfl, World.ownsRow_nil _ _ _ _, World.ownsRow_nil _ _ _ _, fun _ => rfl⟩, ?_, ?_⟩
    · intro v hv g hg
      simp only [List.mem_cons, List.not_mem_nil, or_false, or_self] at hv
      subst hv
      simp [Value.ownBlock] at hg
    · intro v hv u hu g hg
      simp only [List.mem_cons, List.not_mem_nil, or_false, or_self] at hv
      subst hv
      simp [Value.ownBlock] at hg
  obtain ⟨aoB, capB, rfl, _⟩ := parts_of_row hrb
  have hA1 := HW1.out.2.2.2.2.2
  have hB1 := hlb
  clear hrb hb2 hlb
  go_wp2_with fail
  refine (readBoth_any _ _ (normU us) (normU vs) xs ys (TrV w2 w.heap.size (w.heap.size + 1)) w2 ⟨Nat.le_refl _, fun _ _ _ => rfl⟩ (row_view HW2.out.2.1 _ (fun k hk => by rcases hk with e | e <;> omega)) (cap_row HW2.out.2.1) HXY.out.1 (by omega) (by omega) (by omega) (row_view HW2.out.2.2.1 _ (fun k hk => by rcases hk with e | e <;> omega)) (cap_row HW2.out.2.2.1) HXY.out.2 (by omega) (by omega) (by omega)).mono ?_
  rintro e w3 ⟨⟨val, rfl, k1, n1, t1, ao1, l1, p1, f1, k2, n2, t2, ao2, l2, p2, f2, rfl, hd1, hd2⟩, hb3⟩
  have hs3 := hb3.size
  have HS : Hid (CD (TrV w2 w.heap.size (w.heap.size + 1)) xs (normU us).length topE k1 n1 t1 (.slice ao1 l1 p1) f1 ∧ CD (TrV w2 w.heap.size (w.heap.size + 1)) ys (normU vs).length topE k2 n2 t2 (.slice ao2 l2 p2) f2 ∧ Below w.heap.size w w3 ∧ TwoAt w2.heap.size w.heap.size (w.heap.size + 1) Wr.new Wr.new w3 ∧ (TrV w2 w.heap.size (w.heap.size + 1)).Sees w3 ∧ w2.heap.size ≤ w3.heap.size ∧ w.heap.size + 2 ≤ w2.heap.size) := ⟨hd1, hd2, HW2.out.1.trans (hb3.mono HW2.out.1.size), HW2.out.2.2.2.1.below2 hb3, ⟨hs3, fun k hk _ => hb3.block k hk⟩, hs3, HW2.out.2.2.2.2.1⟩
  have hNN : (normU us).length + (normU vs).length ≤ A.length + B.length := by omega
  clear hd1 hd2 hb3 hs3
  unfold pairV
  go_wp2_with fail
  go_loopg [8] ((normU us).length + (normU vs).length) (fun g c wr => TransRel w w2 w.heap.size (w.heap.size + 1) xs ys (A.length + B.length) g c wr)
  case atStart =>
    obtain ⟨q1, q2, q3, q4, q5, q6, q7⟩ := HS.out
    exact ⟨w3.heap.size, xs, ys, (normU us).length, (normU vs).length, topE, Wr.new, Wr.new, rfl, q6, ⟨_, _, _, _, _, _, _, _, _, _, _, _, _, _, heap_alloc_new w3 _, q1, q2⟩, rfl, rfl, Nat.le_refl _, q4.alloc _, ⟨rfl, rfl⟩, ⟨wb_new hNN hlen2 hby2, wb_new hNN hlen2 hby2⟩, q5.alloc q6 _, q3.alloc q3.size _⟩
  case round =>
    obtain ⟨bc, ua, ub, ma, mb, E, W1, W2, rfl, hbc, ⟨x1, y1, z1, o1, i1, j1, g1, x2, y2, z2, o2, i2, j2, g2, hblk, hca, hcb⟩, hg, hE, hle, htwo, hst, hwb, hsee, hB⟩ := hrel
    have c0 : wr.cell? ⟨bc, 0, none⟩ = some (.int .i64 x1) := Lib.cell_of_heap hblk 0
    have c5 : wr.cell? ⟨bc, 5, none⟩ = some (.int .i64 x2) := Lib.cell_of_heap hblk 5
    have c4 : wr.cell? ⟨bc, 4, none⟩ = some (.bool g1) := Lib.cell_of_heap hblk 4
    have c9 : wr.cell? ⟨bc, 9, none⟩ = some (.bool g2) := Lib.cell_of_heap hblk 9
    have HM : Hid (Calls Try.prog 44 #[.pointer (some ⟨bc, 0, none⟩)] wr fun e w' => e = .returned (.bool (!g1 || !g2)) ∧ w' = wr) := either_any bc wr g1 g2 c4 c9
    have HR : Hid (wr.heap[bc]? = some (.cells (ten x1 y1 z1 (.slice o1 i1 j1) g1 x2 y2 z2 (.slice o2 i2 j2) g2) 83 (0, 0)) ∧ CD (TrV w2 w.heap.size (w.heap.size + 1)) ua ma E x1 y1 z1 (.slice o1 i1 j1) g1 ∧ CD (TrV w2 w.heap.size (w.heap.size + 1)) ub mb E x2 y2 z2 (.slice o2 i2 j2) g2 ∧ TwoAt w2.heap.size w.heap.size (w.heap.size + 1) W1 W2 wr ∧ (TrV w2 w.heap.size (w.heap.size + 1)).Sees wr ∧ Below w.heap.size w wr) := ⟨hblk, hca, hcb, htwo, hsee, hB⟩
    have HQ : Hid ((stU W1 (traU ua ub).1 = stU Wr.new (traU xs ys).1 ∧ stU W2 (traU ua ub).2 = stU Wr.new (traU xs ys).2) ∧ WB (A.length + B.length) W1 (ma + mb) (ua.length + ub.length) (bytesU ua + bytesU ub) ∧ WB (A.length + B.length) W2 (ma + mb) (ua.length + ub.length) (bytesU ua + bytesU ub) ∧ W1.Small ∧ W2.Small) := ⟨hst, hwb.1, hwb.2, hwb.1.small hN, hwb.2.small hN⟩
    have hEt : E ≤ topE := by omega
    have hEb : 1000000000 < E := by unfold topE at *; omega
    have HE : Hid (E + (xs.length + ys.length) = topE + (ua.length + ub.length)) := hE
    have hall : ua.length ≤ 1000000000 ∧ ub.length ≤ 1000000000 ∧ bytesU ua + bytesU ub ≤ 1000000000 := by have := hwb.1.pu; omega
    have hss : w.heap.size + 2 ≤ w2.heap.size := HS.out.2.2.2.2.2.2
    have hsw : w2.heap.size ≤ wr.heap.size := hsee.size
    clear hblk hca hcb htwo hst hwb hB c4 c9 hE hsee
    go_wp2_with fail
    refine HM.out.mono ?_
    rintro e w4 ⟨rfl, rfl⟩
    by_cases hfin : g1 = true ∧ g2 = true
    · obtain ⟨rfl, rfl⟩ := hfin
      go_wp2_with fail
      refine (two_parts1 HR.out.2.2.2.1 (by omega) (by omega) (by omega) hsw HQ.out.2.2.2.1).mono ?_
      rintro e w5 ⟨v1, rfl, hp5⟩
      have HP5 : Hid (HalfParts w.heap.size (w.heap.size + 1) W1 W2 v1 w4 w5) := hp5
      obtain ⟨ao5, cap5, rfl, _⟩ := parts_of_row hp5.1
      clear hp5
      go_wp2_with fail
      refine (two_parts2 HP5.out HQ.out.2.2.2.2).mono ?_
      rintro e w6 ⟨v2, rfl, hr1, hr2, hb6, hap6⟩
      have HP6 : Hid (w6.ownsRow w.heap.size 42 3 (.slice ao5 W1.settle.done.length cap5) W1.settle.done.length (rowOf W1.settle.done) ∧ w6.ownsRow (w.heap.size + 1) 42 3 v2 W2.settle.done.length (rowOf W2.settle.done) ∧ Below w.heap.size w w6 ∧ ∀ g, (Value.slice ao5 W1.settle.done.length cap5).ownBlock = some g → v2.ownBlock ≠ some g) := ⟨hr1, hr2, HR.out.2.2.2.2.2.trans (HP5.out.2.2.trans (hb6.mono (by omega))), hap6⟩
      obtain ⟨ao6, cap6, rfl, _⟩ := parts_of_row hr2
      clear hr1 hr2 hb6 hap6
      go_wp2
      go_ret2
      have he := HR.out.2.1.ended
      have he2 := HR.out.2.2.1.ended
      have hst := HQ.out.1
      rw [he.1, he2.1] at hst
      have hn1 : normU (traU xs ys).1 = W1.settle.done := by rw [normU_eq, ← hst.1]; simp [traU, stU_nil]
      have hn2 : normU (traU xs ys).2 = W2.settle.done := by rw [normU_eq, ← hst.2]; simp [traU, stU_nil]
      have l1 := done_len HQ.out.2.1
      have l2 := done_len HQ.out.2.2.1
      refine ⟨_, _, rfl, ⟨?_, ?_, ?_⟩, by rw [hn1]; exact l1, by rw [hn2]; exact l2, HP6.out.2.2.1⟩
      · rw [hn1]; exact HP6.out.1
      · rw [hn2]; exact own_base HP6.out.2.1 (by omega)
      · exact HP6.out.2.2.2
    · have hor : (!g1 || !g2) = true := by cases g1 <;> cases g2 <;> simp_all
      rw [hor]
      have HF : Hid (¬ (g1 = true ∧ g2 = true)) := hfin
      clear hfin hor
      by_cases hk1 : x1 = 2
      · subst hk1
        have hg1 : g1 = false := by
          rcases HR.out.2.1.at with ⟨_, _, h, _⟩ | ⟨h, _⟩
          · omega
          · exact h
        subst hg1
        go_wp2_with fail
        refine (whole_p1 HR.out.1 HR.out.2.1 HR.out.2.2.1 HR.out.2.2.2.2.1 hbc hEt).mono ?_
        rintro e w5 ⟨rfl, ⟨pu, ua', hpair, hru, hpc, hn, hm⟩, hb5, hk5⟩
        have hz5 := hb5.size
        have HX : Hid (PairIn (TrV w2 w.heap.size (w.heap.size + 1)) bc ua' ub (ma - 1) mb E w5 ∧ Below w.heap.size w w5 ∧ TwoAt w2.heap.size w.heap.size (w.heap.size + 1) W1 W2 w5 ∧ ua = pu ++ ua' ∧ Pc 2 y1 z1 pu ∧ (TrV w2 w.heap.size (w.heap.size + 1)).Sees w5) := ⟨hpair, HR.out.2.2.2.2.2.trans (hb5.mono (by omega)), HR.out.2.2.2.1.keepX hk5 HR.out.1 (by decide) (by decide) (by omega) (by omega), hru, hpc, HR.out.2.2.2.2.1.trans (hb5.mono hbc)⟩
        have hl := hpc.len
        have hual : ua.length = y1 + ua'.length := by rw [hru, List.length_append, hl.1]
        have huab : bytesU ua = z1.length + bytesU ua' := by rw [hru, bytesU_append, hl.2]
        have hz1 : z1.length ≤ 1000000000 := by omega
        have HUA : Hid (bytesU ua = z1.length + bytesU ua') := huab
        clear hpair hru hpc hb5 hk5 hl huab
        go_wp2_with fail
        refine (on_one (R := .tuple #[]) (HX.out.2.2.1.alloc _) (by omega) (by omega) (by omega) (by simp; omega) (fun dv pa bv h => wInsert_any _ W1 z1 _ _ _ _ h HQ.out.2.2.2.1 hz1)).mono ?_
        rintro e w6 ⟨rfl, ht6, hf6⟩
        have e6 := hf6.blk w5.heap.size _ 65 (heap_alloc_new w5 _) (by decide) (by decide) (by omega) (by omega)
        have p6 : w6.cell? ⟨w5.heap.size, 1, none⟩ = some (.int .i64 y1) := Lib.cell_of_heap e6 1
        have HT6 : Hid (TwoAt w2.heap.size w.heap.size (w.heap.size + 1) { W1 with put := W1.put ++ z1 } W2 w6 ∧ TF w2.heap.size w.heap.size (w.heap.size + 1) w5 w6) := ⟨ht6, ((TF.refl _ _ _ _).alloc (by omega) (by omega) _).trans hf6⟩
        have hz6 := hf6.bel.size
        have hz6' : w5.heap.size + 1 ≤ w6.heap.size := by simpa using hz6
        clear ht6 hf6 e6 hz6
        go_wp2_with fail
        refine (on_two (R := .tuple #[]) HT6.out.1 (by omega) (by omega) (by omega) (fun dv pa bv h => wKeep_any _ W2 y1 _ _ _ _ h HQ.out.2.2.2.2 hn (by omega))).mono ?_
        rintro e w7 ⟨rfl, ht7, hf7⟩
        have htf := HT6.out.2.trans hf7
        have hpair9 := HX.out.1.tf htf (by omega) (by omega)
        clear hf7
        have hsee9 : (TrV w2 w.heap.size (w.heap.size + 1)).Sees w7 := sees_tf HX.out.2.2.2.2.2 htf
        have hbel9 : Below w.heap.size w w7 := HX.out.2.1.trans htf.bel
        obtain ⟨a1, a2, a3, a4, a5, a6, a7, c1, c2, c3, c4, c5, c6, c7, hblk9, hca9, hcb9⟩ := hpair9
        have d0 : w7.cell? ⟨bc, 0, none⟩ = some (.int .i64 a1) := Lib.cell_of_heap hblk9 0
        have d1 : w7.cell? ⟨bc, 1, none⟩ = some (.int .i64 a2) := Lib.cell_of_heap hblk9 1
        have d2 : w7.cell? ⟨bc, 2, none⟩ = some (.string (bs a3)) := Lib.cell_of_heap hblk9 2
        have d3 : w7.cell? ⟨bc, 3, none⟩ = some (.slice a4 a5 a6) := Lib.cell_of_heap hblk9 3
        have d4 : w7.cell? ⟨bc, 4, none⟩ = some (.bool a7) := Lib.cell_of_heap hblk9 4
        have d5 : w7.cell? ⟨bc, 5, none⟩ = some (.int .i64 c1) := Lib.cell_of_heap hblk9 5
        have d6 : w7.cell? ⟨bc, 6, none⟩ = some (.int .i64 c2) := Lib.cell_of_heap hblk9 6
        have d7 : w7.cell? ⟨bc, 7, none⟩ = some (.string (bs c3)) := Lib.cell_of_heap hblk9 7
        have d8 : w7.cell? ⟨bc, 8, none⟩ = some (.slice c4 c5 c6) := Lib.cell_of_heap hblk9 8
        have d9 : w7.cell? ⟨bc, 9, none⟩ = some (.bool c7) := Lib.cell_of_heap hblk9 9
        have HY : Hid (TwoAt w2.heap.size w.heap.size (w.heap.size + 1) ({ W1 with put := W1.put ++ z1 }) (W2.keep y1) w7 ∧ (TrV w2 w.heap.size (w.heap.size + 1)).Sees w7 ∧ Below w.heap.size w w7 ∧ CD (TrV w2 w.heap.size (w.heap.size + 1)) (ua') (ma - 1) ((E - y1)) a1 a2 a3 (.slice a4 a5 a6) a7 ∧ CD (TrV w2 w.heap.size (w.heap.size + 1)) (ub) mb ((E - y1)) c1 c2 c3 (.slice c4 c5 c6) c7) := ⟨ht7, hsee9, hbel9, hca9.mono (by omega), hcb9.mono (by omega)⟩
        clear hblk9 hca9 hcb9 hsee9 hbel9
        go_wp2
        go_roundg ((ma - 1) + mb)
        case measure => omega
        case rel =>
          have hz9 := HY.out.2.1.size
          refine ⟨w7.heap.size, ua', ub, (ma - 1), mb, (E - y1), { W1 with put := W1.put ++ z1 }, W2.keep y1, rfl, hz9, ⟨a1, a2, a3, a4, a5, a6, a7, c1, c2, c3, c4, c5, c6, c7, heap_alloc_new w7 _, HY.out.2.2.2.1, HY.out.2.2.2.2⟩, rfl, ?_, ?_, HY.out.1.alloc _, ⟨?_, ?_⟩, ⟨?_, ?_⟩, HY.out.2.1.alloc hz9 _, HY.out.2.2.1.alloc HY.out.2.2.1.size _⟩
          · have := HE.out; unfold topE at *; omega
          · omega
          · obtain ⟨e, _⟩ | ⟨e, _⟩ | ⟨_, ch, _, e0, e1, e2⟩ := HX.out.2.2.2.2.1
            · omega
            · omega
            · rw [← HQ.out.1.1, HX.out.2.2.2.1, e2, tra_is, stU_is, e1]
          · obtain ⟨e, _⟩ | ⟨e, _⟩ | ⟨_, ch, _, e0, e1, e2⟩ := HX.out.2.2.2.2.1
            · omega
            · omega
            · rw [← HQ.out.1.2, HX.out.2.2.2.1, e2, tra_is, e0, stU_repk]
          · have q := put_size W1 z1
            obtain ⟨r1, r2, r3⟩ := HQ.out.2.1
            have := HUA.out
            exact ⟨by omega, by omega, by show (W1.put ++ z1).length + _ ≤ _; rw [List.length_append]; omega⟩
          · have q := keep_size W2 y1 hn
            obtain ⟨r1, r2, r3⟩ := HQ.out.2.2.1
            have := HUA.out
            exact ⟨by omega, by omega, by omega⟩
      · by_cases hk2 : x2 = 2
        · subst hk2
          have hg2 : g2 = false := by
            rcases HR.out.2.2.1.at with ⟨_, _, h, _⟩ | ⟨h, _⟩
            · omega
            · exact h
          subst hg2
          have hx12 : ((x1 : Int) == 2) = false := beq_eq_false_iff_ne.2 (by omega)
          go_wp2_with fail
          refine (whole_p2 HR.out.1 HR.out.2.1 HR.out.2.2.1 HR.out.2.2.2.2.1 hbc hEt).mono ?_
          rintro e w5 ⟨rfl, ⟨pu, ub', hpair, hru, hpc, hn, hm⟩, hb5, hk5⟩
          have hz5 := hb5.size
          have HX : Hid (PairIn (TrV w2 w.heap.size (w.heap.size + 1)) bc ua ub' ma (mb - 1) E w5 ∧ Below w.heap.size w w5 ∧ TwoAt w2.heap.size w.heap.size (w.heap.size + 1) W1 W2 w5 ∧ ub = pu ++ ub' ∧ Pc 2 y2 z2 pu ∧ (TrV w2 w.heap.size (w.heap.size + 1)).Sees w5) := ⟨hpair, HR.out.2.2.2.2.2.trans (hb5.mono (by omega)), HR.out.2.2.2.1.keepX hk5 HR.out.1 (by decide) (by decide) (by omega) (by omega), hru, hpc, HR.out.2.2.2.2.1.trans (hb5.mono hbc)⟩
          have hl := hpc.len
          have hubl : ub.length = y2 + ub'.length := by rw [hru, List.length_append, hl.1]
          have hubb : bytesU ub = z2.length + bytesU ub' := by rw [hru, bytesU_append, hl.2]
          have hz2 : z2.length ≤ 1000000000 := by omega
          have HUB : Hid (bytesU ub = z2.length + bytesU ub') := hubb
          clear hpair hru hpc hb5 hk5 hl hubb
          go_wp2_with fail
          refine (on_one (R := .tuple #[]) (HX.out.2.2.1.alloc _) (by omega) (by omega) (by omega) (by simp; omega) (fun dv pa bv h => wKeep_any _ W1 y2 _ _ _ _ h HQ.out.2.2.2.1 hn (by omega))).mono ?_
          rintro e w6 ⟨rfl, ht6, hf6⟩
          have e6 := hf6.blk w5.heap.size _ 65 (heap_alloc_new w5 _) (by decide) (by decide) (by omega) (by omega)
          have p6 : w6.cell? ⟨w5.heap.size, 2, none⟩ = some (.string (bs z2)) := Lib.cell_of_heap e6 2
          have HT6 : Hid (TwoAt w2.heap.size w.heap.size (w.heap.size + 1) (W1.keep y2) W2 w6 ∧ TF w2.heap.size w.heap.size (w.heap.size + 1) w5 w6) := ⟨ht6, ((TF.refl _ _ _ _).alloc (by omega) (by omega) _).trans hf6⟩
          have hz6 := hf6.bel.size
          have hz6' : w5.heap.size + 1 ≤ w6.heap.size := by simpa using hz6
          clear ht6 hf6 e6 hz6
          go_wp2_with fail
          refine (on_two (R := .tuple #[]) HT6.out.1 (by omega) (by omega) (by omega) (fun dv pa bv h => wInsert_any _ W2 z2 _ _ _ _ h HQ.out.2.2.2.2 hz2)).mono ?_
          rintro e w7 ⟨rfl, ht7, hf7⟩
          have htf := HT6.out.2.trans hf7
          have hpair9 := HX.out.1.tf htf (by omega) (by omega)
          clear hf7
          have hsee9 : (TrV w2 w.heap.size (w.heap.size + 1)).Sees w7 := sees_tf HX.out.2.2.2.2.2 htf
          have hbel9 : Below w.heap.size w w7 := HX.out.2.1.trans htf.bel
          obtain ⟨a1, a2, a3, a4, a5, a6, a7, c1, c2, c3, c4, c5, c6, c7, hblk9, hca9, hcb9⟩ := hpair9
          have d0 : w7.cell? ⟨bc, 0, none⟩ = some (.int .i64 a1) := Lib.cell_of_heap hblk9 0
          have d1 : w7.cell? ⟨bc, 1, none⟩ = some (.int .i64 a2) := Lib.cell_of_heap hblk9 1
          have d2 : w7.cell? ⟨bc, 2, none⟩ = some (.string (bs a3)) := Lib.cell_of_heap hblk9 2
          have d3 : w7.cell? ⟨bc, 3, none⟩ = some (.slice a4 a5 a6) := Lib.cell_of_heap hblk9 3
          have d4 : w7.cell? ⟨bc, 4, none⟩ = some (.bool a7) := Lib.cell_of_heap hblk9 4
          have d5 : w7.cell? ⟨bc, 5, none⟩ = some (.int .i64 c1) := Lib.cell_of_heap hblk9 5
          have d6 : w7.cell? ⟨bc, 6, none⟩ = some (.int .i64 c2) := Lib.cell_of_heap hblk9 6
          have d7 : w7.cell? ⟨bc, 7, none⟩ = some (.string (bs c3)) := Lib.cell_of_heap hblk9 7
          have d8 : w7.cell? ⟨bc, 8, none⟩ = some (.slice c4 c5 c6) := Lib.cell_of_heap hblk9 8
          have d9 : w7.cell? ⟨bc, 9, none⟩ = some (.bool c7) := Lib.cell_of_heap hblk9 9
          have HY : Hid (TwoAt w2.heap.size w.heap.size (w.heap.size + 1) (W1.keep y2) ({ W2 with put := W2.put ++ z2 }) w7 ∧ (TrV w2 w.heap.size (w.heap.size + 1)).Sees w7 ∧ Below w.heap.size w w7 ∧ CD (TrV w2 w.heap.size (w.heap.size + 1)) (ua) ma ((E - y2)) a1 a2 a3 (.slice a4 a5 a6) a7 ∧ CD (TrV w2 w.heap.size (w.heap.size + 1)) (ub') (mb - 1) ((E - y2)) c1 c2 c3 (.slice c4 c5 c6) c7) := ⟨ht7, hsee9, hbel9, hca9.mono (by omega), hcb9.mono (by omega)⟩
          clear hblk9 hca9 hcb9 hsee9 hbel9
          go_wp2
          go_roundg (ma + (mb - 1))
          case measure => omega
          case rel =>
            have hz9 := HY.out.2.1.size
            refine ⟨w7.heap.size, ua, ub', ma, (mb - 1), (E - y2), W1.keep y2, { W2 with put := W2.put ++ z2 }, rfl, hz9, ⟨a1, a2, a3, a4, a5, a6, a7, c1, c2, c3, c4, c5, c6, c7, heap_alloc_new w7 _, HY.out.2.2.2.1, HY.out.2.2.2.2⟩, rfl, ?_, ?_, HY.out.1.alloc _, ⟨?_, ?_⟩, ⟨?_, ?_⟩, HY.out.2.1.alloc hz9 _, HY.out.2.2.1.alloc HY.out.2.2.1.size _⟩
            · have := HE.out; unfold topE at *; omega
            · omega
            · obtain ⟨e, _⟩ | ⟨e, _⟩ | ⟨_, ch, _, e0, e1, e2⟩ := HX.out.2.2.2.2.1
              · omega
              · omega
              · rw [← HQ.out.1.1, HX.out.2.2.2.1, e2, tra_ins ch ua ub' (noI HR.out.2.1 hk1), e0, stU_repk]
            · obtain ⟨e, _⟩ | ⟨e, _⟩ | ⟨_, ch, _, e0, e1, e2⟩ := HX.out.2.2.2.2.1
              · omega
              · omega
              · rw [← HQ.out.1.2, HX.out.2.2.2.1, e2, tra_ins ch ua ub' (noI HR.out.2.1 hk1), stU_is, e1]
            · have q := keep_size W1 y2 hn
              obtain ⟨r1, r2, r3⟩ := HQ.out.2.1
              have := HUB.out
              exact ⟨by omega, by omega, by omega⟩
            · have q := put_size W2 z2
              obtain ⟨r1, r2, r3⟩ := HQ.out.2.2.1
              have := HUB.out
              exact ⟨by omega, by omega, by show (W2.put ++ z2).length + _ ≤ _; rw [List.length_append]; omega⟩
        · have hx12 : ((x1 : Int) == 2) = false := beq_eq_false_iff_ne.2 (by omega)
          have hx22 : ((x2 : Int) == 2) = false := beq_eq_false_iff_ne.2 (by omega)
          go_wp2_with fail
          refine (step_p HR.out.1 HR.out.2.1 HR.out.2.2.1 HR.out.2.2.2.2.1 hbc hEt hEb HF.out hall.1 hall.2.1).mono ?_
          rintro e w5 ⟨m, xa, xb, rfl, ⟨hm1, hm2, hpa, hpb, hua, hub, hnn⟩, ⟨ma', mb', hpair, hdec⟩, hb5, hk5⟩
          have hz5 := hb5.size
          have hts := trs_st hpa hpb hk1 hk2 hua hub hnn W1 W2 hm1
          have HX : Hid (PairIn (TrV w2 w.heap.size (w.heap.size + 1)) bc (ua.drop m) (ub.drop m) ma' mb' (E - m) w5 ∧ Below w.heap.size w w5 ∧ TwoAt w2.heap.size w.heap.size (w.heap.size + 1) W1 W2 w5 ∧ (TrV w2 w.heap.size (w.heap.size + 1)).Sees w5 ∧ ((ua = [] ∨ m ≤ ua.length) ∧ (ub = [] ∨ m ≤ ub.length) ∧ ¬ (ua = [] ∧ ub = [])) ∧ ((x1 = 1 ∨ x1 = 3) ∧ (x2 = 1 ∨ x2 = 3) ∧ stU W1 (traU ua ub).1 = stU (W1.trs x1 x2 m) (traU (ua.drop m) (ub.drop m)).1 ∧ stU W2 (traU ua ub).2 = stU (W2.trs x2 x1 m) (traU (ua.drop m) (ub.drop m)).2)) := ⟨hpair, HR.out.2.2.2.2.2.trans (hb5.mono (by omega)), HR.out.2.2.2.1.keepX hk5 HR.out.1 (by decide) (by decide) (by omega) (by omega), HR.out.2.2.2.2.1.trans (hb5.mono hbc), ⟨hua, hub, hnn⟩, hts⟩
          have HDL : Hid ((ua.drop m).length + (ub.drop m).length + m ≤ ua.length + ub.length) := drop_lens hua hub hnn
          clear hpair hpa hpb hua hub hnn hb5 hk5 hts
          go_wp2_with fail
          refine (on_one (R := .tuple #[]) ((HX.out.2.2.1.alloc _).alloc _) (by omega) (by omega) (by omega) (by simp; omega) (fun dv pa bv h => transformStep_any _ W1 _ _ _ _ x1 x2 m xa xb h HQ.out.2.2.2.1 HX.out.2.2.2.2.2.1 HX.out.2.2.2.2.2.2.1 hm1 hm2)).mono ?_
          rintro e w6 ⟨rfl, ht6, hf6⟩
          have e6 := hf6.blk w5.heap.size _ 65 (heap_two w5 _ _).1 (by decide) (by decide) (by omega) (by omega)
          have e7 := hf6.blk (w5.heap.size + 1) _ 65 (heap_two w5 _ _).2 (by decide) (by decide) (by omega) (by omega)
          have p0 : w6.cell? ⟨w5.heap.size, 0, none⟩ = some (.int .i64 x1) := Lib.cell_of_heap e6 0
          have p1 : w6.cell? ⟨w5.heap.size, 1, none⟩ = some (.int .i64 m) := Lib.cell_of_heap e6 1
          have p2 : w6.cell? ⟨w5.heap.size, 2, none⟩ = some (.string (bs xa)) := Lib.cell_of_heap e6 2
          have p3 : w6.cell? ⟨w5.heap.size + 1, 0, none⟩ = some (.int .i64 x2) := Lib.cell_of_heap e7 0
          have p4 : w6.cell? ⟨w5.heap.size + 1, 1, none⟩ = some (.int .i64 m) := Lib.cell_of_heap e7 1
          have p5 : w6.cell? ⟨w5.heap.size + 1, 2, none⟩ = some (.string (bs xb)) := Lib.cell_of_heap e7 2
          have HT6 : Hid (TwoAt w2.heap.size w.heap.size (w.heap.size + 1) (W1.trs x1 x2 m) W2 w6 ∧ TF w2.heap.size w.heap.size (w.heap.size + 1) w5 w6) := ⟨ht6, (((TF.refl _ _ _ _).alloc (by omega) (by omega) _).alloc (by simp; omega) (by simp; omega) _).trans hf6⟩
          have hz6 := hf6.bel.size
          have hz6' : w5.heap.size + 2 ≤ w6.heap.size := by simpa using hz6
          clear ht6 hf6 e6 e7 hz6
          go_wp2_with fail
          refine (on_two (R := .tuple #[]) HT6.out.1 (by omega) (by omega) (by omega) (fun dv pa bv h => transformStep_any _ W2 _ _ _ _ x2 x1 m xb xa h HQ.out.2.2.2.2 HX.out.2.2.2.2.2.2.1 HX.out.2.2.2.2.2.1 hm1 hm2)).mono ?_
          rintro e w7 ⟨rfl, ht7, hf7⟩
          have htf := HT6.out.2.trans hf7
          have hpair9 := HX.out.1.tf htf (by omega) (by omega)
          have hEE : topE + ((ua.drop m).length + (ub.drop m).length) - (xs.length + ys.length) ≤ E - m := by have h1 := HDL.out; have h2 := HE.out; omega
          have HEE : Hid (topE + ((ua.drop m).length + (ub.drop m).length) - (xs.length + ys.length) ≤ E - m) := hEE
          clear hf7 hEE
          have hsee9 : (TrV w2 w.heap.size (w.heap.size + 1)).Sees w7 := sees_tf HX.out.2.2.2.1 htf
          have hbel9 : Below w.heap.size w w7 := HX.out.2.1.trans htf.bel
          obtain ⟨a1, a2, a3, a4, a5, a6, a7, c1, c2, c3, c4, c5, c6, c7, hblk9, hca9, hcb9⟩ := hpair9
          have d0 : w7.cell? ⟨bc, 0, none⟩ = some (.int .i64 a1) := Lib.cell_of_heap hblk9 0
          have d1 : w7.cell? ⟨bc, 1, none⟩ = some (.int .i64 a2) := Lib.cell_of_heap hblk9 1
          have d2 : w7.cell? ⟨bc, 2, none⟩ = some (.string (bs a3)) := Lib.cell_of_heap hblk9 2
          have d3 : w7.cell? ⟨bc, 3, none⟩ = some (.slice a4 a5 a6) := Lib.cell_of_heap hblk9 3
          have d4 : w7.cell? ⟨bc, 4, none⟩ = some (.bool a7) := Lib.cell_of_heap hblk9 4
          have d5 : w7.cell? ⟨bc, 5, none⟩ = some (.int .i64 c1) := Lib.cell_of_heap hblk9 5
          have d6 : w7.cell? ⟨bc, 6, none⟩ = some (.int .i64 c2) := Lib.cell_of_heap hblk9 6
          have d7 : w7.cell? ⟨bc, 7, none⟩ = some (.string (bs c3)) := Lib.cell_of_heap hblk9 7
          have d8 : w7.cell? ⟨bc, 8, none⟩ = some (.slice c4 c5 c6) := Lib.cell_of_heap hblk9 8
          have d9 : w7.cell? ⟨bc, 9, none⟩ = some (.bool c7) := Lib.cell_of_heap hblk9 9
          have HY : Hid (TwoAt w2.heap.size w.heap.size (w.heap.size + 1) (W1.trs x1 x2 m) (W2.trs x2 x1 m) w7 ∧ (TrV w2 w.heap.size (w.heap.size + 1)).Sees w7 ∧ Below w.heap.size w w7 ∧ CD (TrV w2 w.heap.size (w.heap.size + 1)) (ua.drop m) ma' (topE + ((ua.drop m).length + (ub.drop m).length) - (xs.length + ys.length)) a1 a2 a3 (.slice a4 a5 a6) a7 ∧ CD (TrV w2 w.heap.size (w.heap.size + 1)) (ub.drop m) mb' (topE + ((ua.drop m).length + (ub.drop m).length) - (xs.length + ys.length)) c1 c2 c3 (.slice c4 c5 c6) c7) := ⟨ht7, hsee9, hbel9, hca9.mono HEE.out, hcb9.mono HEE.out⟩
          clear hblk9 hca9 hcb9 hsee9 hbel9
          go_wp2
          go_roundg (ma' + mb')
          case measure => omega
          case rel =>
            have hz9 := HY.out.2.1.size
            refine ⟨w7.heap.size, ua.drop m, ub.drop m, ma', mb', topE + ((ua.drop m).length + (ub.drop m).length) - (xs.length + ys.length), W1.trs x1 x2 m, W2.trs x2 x1 m, rfl, hz9, ⟨a1, a2, a3, a4, a5, a6, a7, c1, c2, c3, c4, c5, c6, c7, heap_alloc_new w7 _, HY.out.2.2.2.1, HY.out.2.2.2.2⟩, rfl, ?_, ?_, HY.out.1.alloc _, ⟨?_, ?_⟩, ⟨?_, ?_⟩, HY.out.2.1.alloc hz9 _, HY.out.2.2.1.alloc HY.out.2.2.1.size _⟩
            · have h1 := HDL.out; unfold topE at *; omega
            · have h1 := HDL.out; omega
            · rw [← HQ.out.1.1, HX.out.2.2.2.2.2.2.2.1]
            · rw [← HQ.out.1.2, HX.out.2.2.2.2.2.2.2.2]
            · obtain ⟨q1, q2, q3⟩ := HX.out.2.2.2.2.1
              exact HQ.out.2.1.trs x1 x2 q1 q2 q3 hm1 hdec
            · obtain ⟨q1, q2, q3⟩ := HX.out.2.2.2.2.1
              exact HQ.out.2.2.1.trs x2 x1 q1 q2 q3 hm1 hdec

theorem pTransform_any (v v' : Value) (A B : List Pt) (us vs xs ys : List Un) (w : World) (hp : PartsAt w v A) (hcap : CapOk v) (hr : Reads A us) (hp' : PartsAt w v' B) (hcap' : CapOk v') (hr' : Reads B vs) (hN : A.length + B.length ≤ 1000)
    (hby : bytesU us + bytesU vs ≤ 1000000000) (hlen : us.length + vs.length ≤ 1000000000) (hx : Reads (normU us) xs) (hy : Reads (normU vs) ys) (hby2 : bytesU xs + bytesU ys ≤ 1000000000) (hlen2 : xs.length + ys.length ≤ 1000000000) :
    Calls Try.prog 27 #[v, v'] w fun e w' => ∃ v1 v2, e = .returned (.tuple #[v1, v2]) ∧ (PartsAt w' v1 (normU (traU xs ys).1) ∧ CapOk v1 ∧ (normU (traU xs ys).1).length ≤ A.length + B.length) ∧ (PartsAt w' v2 (normU (traU xs ys).2) ∧ CapOk v2 ∧ (normU (traU xs ys).2).length ≤ A.length + B.length) ∧ Below w.heap.size w w' := by
  refine (pTransform_two v v' A B us vs xs ys w hp hcap hr hp' hcap' hr' hN hby hlen hx hy hby2 hlen2).mono ?_
  rintro e w' ⟨v1, v2, rfl, ⟨h1, h2, _⟩, l1, l2, hb⟩
  exact ⟨v1, v2, rfl, ⟨parts_of_row h1, cap_row h1, l1⟩, ⟨parts_of_row h2, cap_row h2, l2⟩, hb⟩

end Go.Proofs.Ytgoaihpaajchaaa
