/-
  The document's answer: Normal.
  The document's answer: joined, of, on, Apply.
  The document's answer: of.
  The document's answer: on, Apply.
  The document's answer: Apply.
-/
import Derived.Test.YtpiankiacbghcaaRRef9
namespace Go.Proofs.Ytpiankiacbghcaa
open Go.RowKit

theorem settR_bytes : ∀ (G : List Bool) (l : List (List (List UInt8))), bytesOf (settR G l) ≤ bytesOf l
  | [], l => by simp [settR]
  | b :: G, [] => by simp [settR]
  | b :: G, x :: r => by
    have ih := settR_bytes G r
    rw [settR]
    split
    · split
      · next y r' h =>
        rw [h] at ih
        simp only [bytesOf, List.map_cons, List.sum_cons, List.flatten_append, List.length_append, List.flatten_nil, List.length_nil] at *
        omega
      · simp only [bytesOf, List.map_cons, List.sum_cons, List.map_nil, List.sum_nil] at *
        omega
    · simp only [bytesOf, List.map_cons, List.sum_cons] at *
      omega

theorem Laid.sizes {U : List Pt} {m a T : Nat} {G : List Bool} {X : List (List (List UInt8))} (h : Laid U m a T G X) (hm : m ≤ 1000000) (hT : T ≤ 2000000) : Sizes G (settR G X) ∧ Sizes G (settR G (settR G X)) := by
  have h1 := ne_total h.ne
  have h2 := h.byt
  have h3 := settR_bytes G X
  have h4 := settR_bytes G (settR G X)
  have h5 := settR_total G X
  have h6 := settR_total G (settR G X)
  have hl : X.length = G.length + 1 := by rw [h.xl, h.gl]
  have hl2 := settR_length G X hl
  have hl3 := settR_length G _ hl2
  have hg := h.gl
  exact ⟨⟨hl2, by omega, by omega, by omega⟩, ⟨hl3, by omega, by omega, by omega⟩⟩

theorem Laid.norm {L : List Pt} {m T : Nat} {G : List Bool} {X : List (List (List UInt8))} (h : Laid (unitsOf L) m (nums L) T G X) (hr : ∀ p ∈ L, Right p) (ht : ∀ p ∈ L, isText p.text = true) :
    dropKeep ((units G (settR G (settR G X))).foldl withP []) = norm L := by
  have hl : X.length = G.length + 1 := by rw [h.xl, h.gl]
  have hl2 := settR_length G X hl
  have hu := h.all
  rw [unitsOf_all] at hu
  rw [parts_units G _ (settR_ok G _ hl2) (settR_ne G _ (settR_ne G _ h.ne)), norm_of_steps (settR_steps G _ hl2), norm_of_steps (settR_steps G X hl)]
  refine units_norm (by simp) hr ?_ hu
  intro x hx hk
  obtain ⟨i, hi, rfl⟩ := List.getElem_of_mem hx
  simp only [List.getElem_zip, List.getElem_map]
  exact text_eq (ht _ (List.getElem_mem _))

set_option maxHeartbeats 1000000 in
set_option maxRecDepth 100000 in
theorem rNormal_err (v : Value) (Q : List Qt) (n : Int) (w : World) (hp : QsAt w v Q) (hL : Q.length ≤ 9223372036854775806) (hr : ∀ q ∈ Q, q.text.length ≤ 1000000000) (hn1 : -9223372036854775808 ≤ n) (hn2 : n ≤ 9223372036854775807) (he : errQ Q n ≠ 0) :
    Calls Try.prog 62 #[v, .int .i64 n] w fun e w' => e = .returned (.tuple #[.slice none 0 0, .int .i64 (errQ Q n)]) ∧ Below w.heap.size w w' := by
  have HP : Hid (QsAt w v Q ∧ ∀ q ∈ Q, q.text.length ≤ 1000000000) := ⟨hp, hr⟩
  obtain ⟨ao, cap, rfl, hc⟩ := hp
  have hb : (errQ Q n != 0) = true := by rw [bne_iff_ne]; exact he
  obtain ⟨E, hE⟩ : ∃ E, E = errQ Q n := ⟨_, rfl⟩
  have HE : Hid (E = errQ Q n ∧ errQ Q n ≠ 0) := ⟨hE, he⟩
  rw [← hE] at hb ⊢
  clear hc hr he hE
  go_enter Try.func62, Try.ntmps62
  go_wp2_with (go_at_call 91; refine (Read_err _ Q n _ HP.out.1 hL HP.out.2 hn1 hn2 HE.out.2).mono ?_; rintro e w1 ⟨rfl, hb1⟩; rw [← HE.out.1])
  go_ret2
  exact ⟨rfl, hb1.alloc hb1.size _⟩

set_option maxHeartbeats 1000000 in
set_option maxRecDepth 100000 in
theorem rNormal_ok (v : Value) (L : List Pt) (m : Nat) (w : World) (hp : QsAt w v (L.map Pt.q)) (hok : OkOp L m) (hf : tlen L ≤ 2000000) (he : errQ (L.map Pt.q) m = 0) (ht : ∀ p ∈ L, isText p.text = true) (hr : ∀ q ∈ L.map Pt.q, q.text.length ≤ 1000000000) :
    Calls Try.prog 62 #[v, .int .i64 m] w fun e w' => ∃ r, e = .returned (.tuple #[r, .int .i64 0]) ∧ w'.ownsRow w.heap.size 45 3 r (norm L).length (rowOf (norm L)) ∧ Below w.heap.size w w' := by
  have HP : Hid (QsAt w v (L.map Pt.q) ∧ OkOp L m ∧ tlen L ≤ 2000000 ∧ errQ (L.map Pt.q) m = 0 ∧ (∀ q ∈ L.map Pt.q, q.text.length ≤ 1000000000) ∧ ∀ p ∈ L, isText p.text = true) := ⟨hp, hok, hf, he, hr, ht⟩
  obtain ⟨ao, cap, rfl, hc⟩ := hp
  have hm : m ≤ 1000000 := hok.small
  rw [List.length_map] at HP ⊢
  clear hc hr he hok hf ht
  go_enter Try.func62, Try.ntmps62
  go_wp2_with fail
  refine (Read_ok _ L m _ HP.out.1 HP.out.2.1 HP.out.2.2.1 HP.out.2.2.2.1 HP.out.2.2.2.2.1).mono ?_
  rintro e w1 ⟨gv, iv, G, X, rfl, hd, hld, hb1⟩
  have HD : Hid (DoesAt w.heap.size w1 gv iv G (settR G X) ∧ Laid (unitsOf L) m (nums L) (tlen L) G X ∧ Below w.heap.size w w1) := ⟨hd, hld, hb1⟩
  obtain ⟨ag, cg, rfl, _⟩ := gone_form hd.gone
  obtain ⟨Vs, hI⟩ := hd.ins
  obtain ⟨gi, ci, _, rfl, _⟩ := hI.form (by rw [settR_length G X (by rw [hld.xl, hld.gl])]; omega)
  clear hd hld hb1 hI
  go_wp2_with fail
  have hz := HD.out.2.1.sizes hm HP.out.2.2.1
  refine (rParts_any w.heap.size _ _ G (settR G X) _ (HD.out.1.below ((Below.refl _ _).alloc (Nat.le_refl _) _) (Nat.le_refl _)) hz.1 hz.2).mono ?_
  rintro e w3 ⟨r, rfl, hrow, hb3⟩
  rw [HD.out.2.1.norm HP.out.2.1.right HP.out.2.2.2.2.2] at hrow
  have hsz := HD.out.2.2.size
  have HF : Hid (w3.ownsRow w.heap.size 45 3 r (norm L).length (rowOf (norm L)) ∧ Below w.heap.size w w3) := ⟨own_base hrow (by simp; omega), (HD.out.2.2.alloc hsz _).trans (hb3.mono (by simp; omega))⟩
  clear hrow hb3 hz hsz
  go_wp2
  go_ret2
  exact ⟨_, rfl, HF.out.1, HF.out.2⟩

theorem flatten_take_succ (l : List (List UInt8)) (k : Nat) (h : k < l.length) : (l.take (k + 1)).flatten = (l.take k).flatten ++ l[k] := by
  rw [List.take_succ_eq_append_getElem h, List.flatten_append, List.flatten_singleton]

theorem flatten_take_le (l : List (List UInt8)) (k : Nat) : (l.take k).flatten.length ≤ l.flatten.length := by
  conv => rhs; rw [flatten_split l k]
  simp

set_option maxHeartbeats 1000000 in
set_option maxRecDepth 100000 in
theorem joined_any (base : Nat) (v : Value) (l : List (List UInt8)) (w : World) (h : w.ownsRow base 9 1 v l.length (strV l)) (hl : l.length ≤ 1000000000) (hf : l.flatten.length ≤ 1000000000) :
    Calls Try.prog 94 #[v] w fun e w' => e = .returned (.string (bs l.flatten)) ∧ w' = w := by
  obtain ⟨ao, cap, rfl, hc⟩ : ∃ ao cap, v = .slice ao l.length cap ∧ (0 < l.length → ∃ gs, ao = some ⟨gs, 0, none⟩ ∧ ∀ i (hi : i < l.length), w.cell? ⟨gs, i, none⟩ = some (.string (bs l[i]))) := by
    rcases h.2 with ⟨e, h0⟩ | ⟨gs, cap, cur, e, _⟩
    · exact ⟨none, 0, by rw [e, h0], fun hp => by omega⟩
    · refine ⟨_, _, e, fun _ => ⟨gs, rfl, fun i hi => ?_⟩⟩
      have hcc := h.cells (g := gs) (by rw [e]; rfl) i (.string (bs l[i])) (by rw [strV, List.getElem?_map, List.getElem?_eq_getElem hi]; rfl)
      have hadd : (⟨gs, 0, none⟩ : Addr).add i = ⟨gs, i, none⟩ := by unfold Addr.add; split <;> simp_all
      rw [hadd] at hcc
      exact hcc
  clear h
  go_enter Try.func94, Try.ntmps94
  go_wp2
  go_loopw [3, 4] (fun s ix wr => ∃ i : Nat, i ≤ l.length ∧ ix = .int .i64 i ∧ s = .string (bs (l.take i).flatten) ∧ wr = w) (fun _ ix _ => l.length - (intOf ix).toNat)
  case atStart => exact ⟨0, Nat.zero_le _, rfl, rfl, rfl⟩
  case round =>
    obtain ⟨i, hi, rfl, rfl, rfl⟩ := hrel
    by_cases hlt : i < l.length
    · obtain ⟨gs, rfl, hcc⟩ := hc (by omega)
      have c0 := hcc i hlt
      have hs1 : (bs (l.take i).flatten).size ≤ 1000000000 := by rw [bs_size]; have := flatten_take_le l i; omega
      have hs2 : (bs l[i]).size ≤ 1000000000 := by
        rw [bs_size]
        have h1 := flatten_take_le l (i + 1)
        rw [flatten_take_succ l i hlt, List.length_append] at h1
        omega
      clear hc hcc
      go_wp2
      go_roundw
      case rel => exact ⟨i + 1, by omega, by go_num, by rw [bs_append, ← flatten_take_succ l i hlt], by first | trivial | rfl⟩
      case measure => simp [intOf]; omega
    · have hii : i = l.length := by omega
      subst hii
      rw [List.take_length]
      go_wp2
      go_ret
      exact ⟨rfl, by first | trivial | rfl⟩

/-- what is left of the characters below a gap. -/
def ofU (G : List Bool) (X : List (List (List UInt8))) (cs : List (List UInt8)) : Nat → List (List UInt8)
  | 0 => []
  | g + 1 => ofU G X cs g ++ (X.getD g [] ++ if g < cs.length then (if G.getD g false then [] else [cs.getD g []]) else [])

theorem ofU_cons (b : Bool) (G : List Bool) (x : List (List UInt8)) (X : List (List (List UInt8))) (c : List UInt8) (cs : List (List UInt8)) : ∀ g, ofU (b :: G) (x :: X) (c :: cs) (g + 1) = x ++ ((if b then [] else [c]) ++ ofU G X cs g)
  | 0 => by simp [ofU]
  | g + 1 => by
    rw [ofU, ofU_cons b G x X c cs g]
    simp [ofU]

theorem ofU_all : ∀ (G : List Bool) (X : List (List (List UInt8))) (cs : List (List UInt8)), X.length = G.length + 1 → cs.length = G.length → ofU G X cs X.length = ofF G X cs
  | [], [], cs, h, _ => by simp at h
  | b :: G, [], cs, h, _ => by simp at h
  | [], x :: X, cs, h, hc => by
    have hX : X = [] := by simpa using h
    have hcs : cs = [] := List.length_eq_zero_iff.1 (by simpa using hc)
    subst hX hcs
    simp [ofU, ofF]
  | b :: G, x :: X, [], _, hc => by simp at hc
  | b :: G, x :: X, c :: cs, h, hc => by
    have ih := ofU_all G X cs (by simpa using h) (by simpa using hc)
    rw [List.length_cons, ofU_cons, ofF, ih]

theorem wpList_append_none {P : Program} {w : World} {ops : Array Oper} {rest : List Oper} {o : Oper} {a : Act} {Q : Exit → Act → World → Prop} (hgd : o.guard = none) (s x : Operand) (t : TypeId)
    (ho : o.op = .call { callee := .builtin .append, args := #[s, x], argTypes := #[t, t] })
    (base : Nat) (e : TypeId) (i : TypeInfo) (size : Nat) (ht : P.underlying t = some (.slice e)) (hi : P.info? e = some i)
    (v : Value) (n : Nat) (xs : List Value) (hs : a.eval s = v) (hown : w.ownsRow base e size v n xs) (hx : a.eval x = .slice none 0 0)
    (h : wpList P ops Q rest (a.put o.dst v) w) : wpList P ops Q (o :: rest) a w := by
  refine wpList_plain hgd fun K hK => ?_
  have hrun := run_append_owned_none (P := P) (w := w) base t o.type e i size ht hi v n xs hown
  unfold Oper.wp execOp
  simp [ho, resolve, invoke, builtin, hs, hx, hrun, Result.andThen]
  exact hK _ _ h

/-- where of stands. -/
structure OfSt (w : World) (gv iv out : Value) (L : List (List UInt8)) (wr : World) : Prop where
  box : wr.heap[w.heap.size]? = some (.cells #[gv, iv] 129 (0, 0))
  row : wr.ownsRow w.heap.size 9 1 out L.length (strV L)
  below : Below w.heap.size w wr

theorem OfSt.more {w wr w' : World} {gv iv out out' : Value} {L L' : List (List UInt8)} (h : OfSt w gv iv out L wr) (h1 : w'.ownsRow w.heap.size 9 1 out' L'.length (strV L')) (h2 : wr.grownBy w' out.ownBlock) : OfSt w gv iv out' L' w' := by
  have hlt := lt_of_blk h.box
  refine ⟨?_, h1, h.below.grown h2 (by omega) (fun k hk => (h.row.lt k hk).1)⟩
  rw [h2.block _ hlt (fun e => own_ne h.row h.box (by decide) e.symm)]
  exact h.box

theorem OfSt.alloc {w wr : World} {gv iv out : Value} {L : List (List UInt8)} (h : OfSt w gv iv out L wr) (o : Obj) : OfSt w gv iv out L (wr.alloc o) := by
  have hlt := lt_of_blk h.box
  have hb : Below wr.heap.size wr (wr.alloc o) := (Below.refl _ _).alloc (Nat.le_refl _) _
  exact ⟨by rw [hb.block _ hlt]; exact h.box, h.row.alloc _, h.below.alloc (by omega) _⟩

theorem ofU_len {G : List Bool} {X : List (List (List UInt8))} {cs : List (List UInt8)} (h1 : X.length = G.length + 1) (h2 : G.length ≤ 5000000) (h3 : total X ≤ 100000000) (g : Nat) (hg : g ≤ X.length) : (ofU G X cs g).length ≤ 200000000 := by
  have key : ∀ g, g ≤ X.length → (ofU G X cs g).length ≤ total (X.take g) + g := by
    intro g
    induction g with
    | zero => intro _; simp [ofU]
    | succ g ih =>
      intro hg
      have := ih (by omega)
      have hgd : X.getD g [] = X[g]'(by omega) := by rw [List.getD_eq_getElem?_getD, List.getElem?_eq_getElem (by omega)]; rfl
      have ht : total (X.take (g + 1)) = total (X.take g) + (X[g]'(by omega)).length := by
        rw [List.take_succ_eq_append_getElem (by omega)]; simp only [total, List.map_append, List.map_cons, List.map_nil, List.sum_append, List.sum_cons, List.sum_nil]; omega
      rw [ofU, hgd, ht, List.length_append, List.length_append]
      have : (if g < cs.length then (if G.getD g false then [] else [cs.getD g []]) else []).length ≤ 1 := by
        by_cases h1 : g < cs.length
        · rw [if_pos h1]
          by_cases h2 : G.getD g false = true
          · rw [if_pos h2]; simp
          · rw [if_neg h2]; simp
        · rw [if_neg h1]; simp
      omega
  have h4 := key g hg
  have h5 : total (X.take g) ≤ total X := take_sum_le _ _ _
  omega

set_option maxHeartbeats 4000000 in
set_option maxRecDepth 100000 in
theorem of_any (base : Nat) (gv iv lv : Value) (G : List Bool) (X : List (List (List UInt8))) (cs : List (List UInt8)) (w : World) (h : DoesAt base w gv iv G X) (hs : Sizes G X) (hl : w.ownsRow base 9 1 lv cs.length (strV cs)) (hc : cs.length = G.length) :
    Calls Try.prog 95 #[.agg #[gv, iv], lv] w fun e w' => ∃ v, e = .returned v ∧ w'.ownsRow w.heap.size 9 1 v (ofF G X cs).length (strV (ofF G X cs)) ∧ Below w.heap.size w w' := by
  have HD : Hid (DoesAt base w gv iv G X ∧ w.ownsRow base 9 1 lv cs.length (strV cs)) := ⟨h, hl⟩
  obtain ⟨ao, cg, rfl, _⟩ := gone_form h.gone
  obtain ⟨Vs, hI⟩ := h.ins
  obtain ⟨gi, ci, _, rfl, _⟩ := hI.form (by have := hs.len; omega)
  obtain ⟨lo, lcap, rfl⟩ : ∃ lo lcap, lv = .slice lo cs.length lcap := by
    rcases hl.2 with ⟨e, h0⟩ | ⟨g2, cap2, cur2, e, _⟩
    · exact ⟨none, 0, by rw [e, h0]⟩
    · exact ⟨_, _, e⟩
  clear h hl hI
  obtain ⟨i0, hi0, hz0, hz1, hz2⟩ := info_parts Try.infoStr
  have HXL : Hid (X.length = G.length + 1 ∧ cs.length = G.length) := ⟨hs.len, hc⟩
  have hx1 : X.length ≤ G.length + 1 := by have := hs.len; omega
  have hx2 : G.length + 1 ≤ X.length := by have := hs.len; omega
  have hc1 : cs.length ≤ G.length := by omega
  have hc2 : G.length ≤ cs.length := by omega
  have hgn := hs.n
  have hxt := hs.tot
  clear hs hc
  go_enter Try.func95, Try.ntmps95
  go_wp2
  go_loopw [5, 6] (fun out gx wr => ∃ g : Nat, g ≤ X.length ∧ gx = .int .i64 g ∧ OfSt w (.slice ao G.length cg) (.slice (some ⟨gi, 0, none⟩) X.length ci) out (ofU G X cs g) wr) (fun _ gx _ => X.length - (intOf gx).toNat)
  case atStart => exact ⟨0, Nat.zero_le _, rfl, heap_new_at _ _ _ rfl, World.ownsRow_nil _ _ _ _, (Below.refl _ _).alloc (Nat.le_refl _) _⟩
  case round =>
    obtain ⟨g, hg, rfl, hS⟩ := hrel
    have HS : Hid (OfSt w (.slice ao G.length cg) (.slice (some ⟨gi, 0, none⟩) X.length ci) u5 (ofU G X cs g) wr) := hS
    have b1 : wr.cell? ⟨w.heap.size, 1, none⟩ = some (.slice (some ⟨gi, 0, none⟩) X.length ci) := Lib.cell_of_heap hS.box 1
    have hbz := hS.below.size
    clear hS
    by_cases hlt : g < X.length
    · obtain ⟨Vs9, hI9⟩ := HD.out.1.ins
      obtain ⟨gi9, ci9, cur9, e9, hb9, hgi9, hcell9⟩ := hI9.form (by omega)
      simp only [Value.slice.injEq, Option.some.injEq, Addr.mk.injEq] at e9
      obtain ⟨⟨rfl, _⟩, _, rfl⟩ := e9
      have hrow := own_below (hI9.each g hlt) HS.out.below (Nat.le_refl _)
      have k1 : wr.cell? ⟨gi, g, none⟩ = some (Vs9.getD g undef) := (HS.out.below.cell (p := ⟨gi, g, none⟩) (lt_of_blk hgi9)).trans (hcell9 g hlt)
      have hgi1 : (g : Int) < (X.length : Int) := by omega
      have HNON : Hid (X[g] = [] → Vs9.getD g undef = .slice none 0 0) := hI9.non g hlt
      have hgd : X.getD g [] = X[g] := by rw [List.getD_eq_getElem?_getD, List.getElem?_eq_getElem hlt]; rfl
      have hul : (ofU G X cs g).length ≤ 200000000 := ofU_len HXL.out.1 hgn hxt g hg
      have hxgl : (X[g]).length ≤ 100000000 := by have := le_total g hlt; omega
      have HLEN : Hid ((ofU G X cs g ++ X[g]).length ≤ 300000000) := by_hid (by rw [List.length_append]; omega)
      clear hI9 hcell9 hgi9
      by_cases hgG : g < G.length
      · obtain ⟨ag2, cg2, eg, hgc⟩ := gone_form HD.out.1.gone
        simp only [Value.slice.injEq, true_and] at eg
        obtain ⟨rfl, rfl⟩ := eg
        obtain ⟨gg, cur, rfl, hgb, hgg, hcells⟩ := hgc (by omega)
        have hggl := lt_of_blk hgg
        have hg1 := hcells g hgG
        have hgl1 : (g : Int) < (G.length : Int) := by omega
        have hgcs : g < cs.length := by omega
        have hgcs1 : (g : Int) < (cs.length : Int) := by omega
        obtain ⟨lg, rfl, hlgl, hl1⟩ : ∃ lg, lo = some ⟨lg, 0, none⟩ ∧ lg < w.heap.size ∧ w.cell? ⟨lg, g, none⟩ = some (.string (bs cs[g])) := by
          rcases HD.out.2.2 with ⟨e, h0⟩ | ⟨gs, cap, cur, e, hb, hgs, _⟩
          · omega
          · simp only [Value.slice.injEq] at e
            obtain ⟨rfl, _, rfl⟩ := e
            have hcc := HD.out.2.cells (g := gs) rfl g (.string (bs cs[g])) (by rw [strV, List.getElem?_map, List.getElem?_eq_getElem hgcs]; rfl)
            have hadd : (⟨gs, 0, none⟩ : Addr).add g = ⟨gs, g, none⟩ := by unfold Addr.add; split <;> simp_all
            rw [hadd] at hcc
            exact ⟨gs, rfl, lt_of_blk hgs, hcc⟩
        have HL1 : Hid (w.cell? ⟨lg, g, none⟩ = some (.string (bs cs[g]))) := hl1
        clear hcells hgc hgg hl1
        cases hGg : G[g] with
        | true =>
          rw [hGg] at hg1
          have HG1 : Hid (w.cell? ⟨gg, g, none⟩ = some (.bool true)) := hg1
          have HEQ : Hid (ofU G X cs (g + 1) = ofU G X cs g ++ X[g]) := by_hid (by
            have h1 : G.getD g false = true := by rw [List.getD_eq_getElem?_getD, List.getElem?_eq_getElem hgG, hGg]; rfl
            rw [ofU, hgd, h1]; simp)
          clear hg1 hgd hGg
          by_cases hxe : X[g] = []
          · rw [HNON.out hxe] at k1
            have HO : Hid (OfSt w (.slice (some ⟨gg, 0, none⟩) G.length cg) (.slice (some ⟨gi, 0, none⟩) X.length ci) u5 (ofU G X cs g ++ X[g]) wr) := by_hid (by rw [hxe, List.append_nil]; exact HS.out)
            clear hrow hxe
            have b0 : wr.cell? ⟨w.heap.size, 0, none⟩ = some (.slice (some ⟨gg, 0, none⟩) G.length cg) := Lib.cell_of_heap HO.out.box 0
            have g1 : wr.cell? ⟨gg, g, none⟩ = some (.bool true) := (HO.out.below.cell (p := ⟨gg, g, none⟩) hggl).trans HG1.out
            go_wp2_with ((at_builtin; refine wpList_append_none rfl _ _ 61 rfl w.heap.size 9 i0 1 Try.underlying61 hi0 _ _ _ rfl HS.out.row rfl ?_))
            go_roundw
            case rel => exact ⟨g + 1, by omega, by go_num, by rw [HEQ.out]; exact HO.out⟩
            case measure => simp [intOf]; omega
          · obtain ⟨gs, scap, hsf⟩ : ∃ gs scap, Vs9.getD g undef = .slice (some ⟨gs, 0, none⟩) (X[g]).length scap := by
              rcases hrow.2 with ⟨e, h0⟩ | ⟨g2, cap2, cur2, e, _⟩
              · exact absurd (List.length_eq_zero_iff.1 h0) hxe
              · exact ⟨_, _, e⟩
            have HNEW : Hid (∀ j u, (strV X[g])[j]? = some u → wr.cell? ((⟨gs, 0, none⟩ : Addr).add j) = some u) := hrow.cells (g := gs) (by rw [hsf]; rfl)
            rw [hsf] at k1
            clear hrow hxe
            go_wp2_with ((at_builtin; refine wpList_append_own _ rfl _ _ 61 rfl w.heap.size 9 i0 _ 1 16 Try.underlying61 hi0 hz0 hz1 hz2 rfl (by decide) _ _ _ rfl HS.out.row ⟨gs, 0, none⟩ (X[g]).length scap (strV X[g]) rfl (by simp [strV_length]) HNEW.out (strV_one _) (by unfold maxLen; omega) (by omega) (by omega) ?_; intro v4 w4 hown4 hgrow4 _; have HO : Hid (OfSt w (.slice (some ⟨gg, 0, none⟩) G.length cg) (.slice (some ⟨gi, 0, none⟩) X.length ci) v4 (ofU G X cs g ++ X[g]) w4) := HS.out.more (by rw [List.length_append, strV_append]; exact hown4) hgrow4; clear hown4 hgrow4; have b0 : w4.cell? ⟨w.heap.size, 0, none⟩ = some (.slice (some ⟨gg, 0, none⟩) G.length cg) := Lib.cell_of_heap HO.out.box 0; have g1 : w4.cell? ⟨gg, g, none⟩ = some (.bool true) := (HO.out.below.cell (p := ⟨gg, g, none⟩) hggl).trans HG1.out))
            go_roundw
            case rel => exact ⟨g + 1, by omega, by go_num, by rw [HEQ.out]; exact HO.out⟩
            case measure => simp [intOf]; omega
        | false =>
          rw [hGg] at hg1
          have HG1 : Hid (w.cell? ⟨gg, g, none⟩ = some (.bool false)) := hg1
          have HEQ : Hid (ofU G X cs (g + 1) = ofU G X cs g ++ X[g] ++ [cs[g]]) := by_hid (by
            have h1 : G.getD g false = false := by rw [List.getD_eq_getElem?_getD, List.getElem?_eq_getElem hgG, hGg]; rfl
            have h2 : cs.getD g [] = cs[g] := by rw [List.getD_eq_getElem?_getD, List.getElem?_eq_getElem hgcs]; rfl
            rw [ofU, hgd, h1, h2, if_pos hgcs]; simp)
          clear hg1 hgd hGg
          by_cases hxe : X[g] = []
          · rw [HNON.out hxe] at k1
            have HO : Hid (OfSt w (.slice (some ⟨gg, 0, none⟩) G.length cg) (.slice (some ⟨gi, 0, none⟩) X.length ci) u5 (ofU G X cs g ++ X[g]) wr) := by_hid (by rw [hxe, List.append_nil]; exact HS.out)
            clear hrow hxe
            have b0 : wr.cell? ⟨w.heap.size, 0, none⟩ = some (.slice (some ⟨gg, 0, none⟩) G.length cg) := Lib.cell_of_heap HO.out.box 0
            have g1 : wr.cell? ⟨gg, g, none⟩ = some (.bool false) := (HO.out.below.cell (p := ⟨gg, g, none⟩) hggl).trans HG1.out
            have l1 : wr.cell? ⟨lg, g, none⟩ = some (.string (bs cs[g])) := (HO.out.below.cell (p := ⟨lg, g, none⟩) hlgl).trans HL1.out
            go_wp2_with (first | (at_builtin; refine wpList_append_none rfl _ _ 61 rfl w.heap.size 9 i0 1 Try.underlying61 hi0 _ _ _ rfl HS.out.row rfl ?_) | (at_builtin; refine wpList_append_own _ rfl _ _ 61 rfl w.heap.size 9 i0 _ 1 16 Try.underlying61 hi0 hz0 hz1 hz2 rfl (by decide) _ _ _ rfl (HO.out.row.alloc _) ⟨wr.heap.size, 0, none⟩ 1 1 [.string (bs cs[g])] rfl rfl (cell_one_new _ _ _) (fun x hx => by simp at hx; subst hx; rfl) (by have := HLEN.out; unfold maxLen; omega) (by have := HLEN.out; omega) (by have := HO.out.below.size; simp; omega) ?_; intro v5 w5 hown5 hgrow5 _; have HO2 : Hid (OfSt w (.slice (some ⟨gg, 0, none⟩) G.length cg) (.slice (some ⟨gi, 0, none⟩) X.length ci) v5 (ofU G X cs g ++ X[g] ++ [cs[g]]) w5) := (HO.out.alloc _).more (by rw [List.length_append, strV_append]; exact hown5) hgrow5; clear hown5 hgrow5))
            go_roundw
            case rel => exact ⟨g + 1, by omega, by go_num, by rw [HEQ.out]; exact HO2.out⟩
            case measure => simp [intOf]; omega
          · obtain ⟨gs, scap, hsf⟩ : ∃ gs scap, Vs9.getD g undef = .slice (some ⟨gs, 0, none⟩) (X[g]).length scap := by
              rcases hrow.2 with ⟨e, h0⟩ | ⟨g2, cap2, cur2, e, _⟩
              · exact absurd (List.length_eq_zero_iff.1 h0) hxe
              · exact ⟨_, _, e⟩
            have HNEW : Hid (∀ j u, (strV X[g])[j]? = some u → wr.cell? ((⟨gs, 0, none⟩ : Addr).add j) = some u) := hrow.cells (g := gs) (by rw [hsf]; rfl)
            rw [hsf] at k1
            clear hrow hxe
            go_wp2_with (first | (at_builtin; refine wpList_append_own _ rfl _ _ 61 rfl w.heap.size 9 i0 _ 1 16 Try.underlying61 hi0 hz0 hz1 hz2 rfl (by decide) _ _ _ rfl HS.out.row ⟨gs, 0, none⟩ (X[g]).length scap (strV X[g]) rfl (by simp [strV_length]) HNEW.out (strV_one _) (by unfold maxLen; omega) (by omega) (by omega) ?_; intro v4 w4 hown4 hgrow4 _; have HO : Hid (OfSt w (.slice (some ⟨gg, 0, none⟩) G.length cg) (.slice (some ⟨gi, 0, none⟩) X.length ci) v4 (ofU G X cs g ++ X[g]) w4) := HS.out.more (by rw [List.length_append, strV_append]; exact hown4) hgrow4; clear hown4 hgrow4; have b0 : w4.cell? ⟨w.heap.size, 0, none⟩ = some (.slice (some ⟨gg, 0, none⟩) G.length cg) := Lib.cell_of_heap HO.out.box 0; have g1 : w4.cell? ⟨gg, g, none⟩ = some (.bool false) := (HO.out.below.cell (p := ⟨gg, g, none⟩) hggl).trans HG1.out; have l1 : w4.cell? ⟨lg, g, none⟩ = some (.string (bs cs[g])) := (HO.out.below.cell (p := ⟨lg, g, none⟩) hlgl).trans HL1.out) | (at_builtin; refine wpList_append_own _ rfl _ _ 61 rfl w.heap.size 9 i0 _ 1 16 Try.underlying61 hi0 hz0 hz1 hz2 rfl (by decide) _ _ _ rfl (HO.out.row.alloc _) ⟨w4.heap.size, 0, none⟩ 1 1 [.string (bs cs[g])] rfl rfl (cell_one_new _ _ _) (fun x hx => by simp at hx; subst hx; rfl) (by have := HLEN.out; unfold maxLen; omega) (by have := HLEN.out; omega) (by have := HO.out.below.size; simp; omega) ?_; intro v5 w5 hown5 hgrow5 _; have HO2 : Hid (OfSt w (.slice (some ⟨gg, 0, none⟩) G.length cg) (.slice (some ⟨gi, 0, none⟩) X.length ci) v5 (ofU G X cs g ++ X[g] ++ [cs[g]]) w5) := (HO.out.alloc _).more (by rw [List.length_append, strV_append]; exact hown5) hgrow5; clear hown5 hgrow5))
            go_roundw
            case rel => exact ⟨g + 1, by omega, by go_num, by rw [HEQ.out]; exact HO2.out⟩
            case measure => simp [intOf]; omega
      · have hgcs1 : ¬ (g : Int) < (cs.length : Int) := by omega
        have HEQ : Hid (ofU G X cs (g + 1) = ofU G X cs g ++ X[g]) := by_hid (by
          rw [ofU, hgd, if_neg (by omega)]; simp)
        clear hgd
        by_cases hxe : X[g] = []
        · rw [HNON.out hxe] at k1
          have HO : Hid (OfSt w (.slice ao G.length cg) (.slice (some ⟨gi, 0, none⟩) X.length ci) u5 (ofU G X cs g ++ X[g]) wr) := by_hid (by rw [hxe, List.append_nil]; exact HS.out)
          clear hrow hxe
          go_wp2_with ((at_builtin; refine wpList_append_none rfl _ _ 61 rfl w.heap.size 9 i0 1 Try.underlying61 hi0 _ _ _ rfl HS.out.row rfl ?_))
          go_roundw
          case rel => exact ⟨g + 1, by omega, by go_num, by rw [HEQ.out]; exact HO.out⟩
          case measure => simp [intOf]; omega
        · obtain ⟨gs, scap, hsf⟩ : ∃ gs scap, Vs9.getD g undef = .slice (some ⟨gs, 0, none⟩) (X[g]).length scap := by
            rcases hrow.2 with ⟨e, h0⟩ | ⟨g2, cap2, cur2, e, _⟩
            · exact absurd (List.length_eq_zero_iff.1 h0) hxe
            · exact ⟨_, _, e⟩
          have HNEW : Hid (∀ j u, (strV X[g])[j]? = some u → wr.cell? ((⟨gs, 0, none⟩ : Addr).add j) = some u) := hrow.cells (g := gs) (by rw [hsf]; rfl)
          rw [hsf] at k1
          clear hrow hxe
          go_wp2_with ((at_builtin; refine wpList_append_own _ rfl _ _ 61 rfl w.heap.size 9 i0 _ 1 16 Try.underlying61 hi0 hz0 hz1 hz2 rfl (by decide) _ _ _ rfl HS.out.row ⟨gs, 0, none⟩ (X[g]).length scap (strV X[g]) rfl (by simp [strV_length]) HNEW.out (strV_one _) (by unfold maxLen; omega) (by omega) (by omega) ?_; intro v4 w4 hown4 hgrow4 _; have HO : Hid (OfSt w (.slice ao G.length cg) (.slice (some ⟨gi, 0, none⟩) X.length ci) v4 (ofU G X cs g ++ X[g]) w4) := HS.out.more (by rw [List.length_append, strV_append]; exact hown4) hgrow4; clear hown4 hgrow4))
          go_roundw
          case rel => exact ⟨g + 1, by omega, by go_num, by rw [HEQ.out]; exact HO.out⟩
          case measure => simp [intOf]; omega
    · have hgg : g = X.length := by omega
      subst hgg
      have HF : Hid (ofU G X cs X.length = ofF G X cs) := ofU_all G X cs HXL.out.1 HXL.out.2
      go_wp2
      go_ret
      refine ⟨_, rfl, ?_, HS.out.below⟩
      rw [← HF.out]
      exact HS.out.row

set_option maxHeartbeats 1000000 in
set_option maxRecDepth 100000 in
theorem on_bad (v : Value) (Q : List Qt) (t : List UInt8) (w : World) (hp : QsAt w v Q) (ht : t.length ≤ 1000000000) (he : isText t = false) :
    Calls Try.prog 93 #[.string (bs t), v] w fun e w' => e = .returned (.tuple #[.slice none 0 0, .agg #[.slice none 0 0, .slice none 0 0], .int .i64 2]) ∧ Below w.heap.size w w' := by
  obtain ⟨ao, cap, rfl, hc⟩ := hp
  have HE : Hid (isText t = false) := he
  clear hc he
  go_enter Try.func93, Try.ntmps93
  go_wp2_with fail
  refine (Characters_any t _ ht).mono ?_
  rintro e w1 ⟨hres, hb1⟩
  rcases hres with ⟨h1, _⟩ | ⟨_, rfl⟩
  · exact absurd HE.out (by rw [h1]; decide)
  have k1 := read_box hb1
  have c0 : w1.cell? ⟨w.heap.size, 0, none⟩ = some (.slice none 0 0) := Lib.cell_of_heap k1 0
  have c1 : w1.cell? ⟨w.heap.size, 1, none⟩ = some (.slice none 0 0) := Lib.cell_of_heap k1 1
  have f0 : w1.frozen? ⟨w.heap.size, 0, none⟩ = false := Lib.frozen_of_heap k1 0
  have f1 : w1.frozen? ⟨w.heap.size, 1, none⟩ = false := Lib.frozen_of_heap k1 1
  have HB1 : Hid (Below w.heap.size w w1) := by_hid (((Below.refl _ _).alloc (Nat.le_refl _) _).trans (hb1.mono (by simp)))
  clear hb1 k1
  go_wp2
  refine bodyPost_ret (v := .tuple #[.slice none 0 0, .agg #[.slice none 0 0, .slice none 0 0], .int .i64 2]) (by simp [results, Try.results93, go_sem, c0, c1]) rfl ⟨rfl, ?_⟩
  first | exact HB1.out | exact (HB1.out.setCell (p := ⟨w.heap.size, 0, none⟩) (Nat.le_refl _) _).setCell (p := ⟨w.heap.size, 1, none⟩) (Nat.le_refl _) _

set_option maxHeartbeats 1000000 in
set_option maxRecDepth 100000 in
theorem on_err (v : Value) (Q : List Qt) (t : List UInt8) (w : World) (hp : QsAt w v Q) (hL : Q.length ≤ 9223372036854775806) (hr : ∀ q ∈ Q, q.text.length ≤ 1000000000) (ht : t.length ≤ 1000000000) (htx : isText t = true) (he : errQ Q (charsL t).length ≠ 0) :
    Calls Try.prog 93 #[.string (bs t), v] w fun e w' => (∃ lv, e = .returned (.tuple #[lv, .agg #[.slice none 0 0, .slice none 0 0], .int .i64 (errQ Q (charsL t).length)])) ∧ Below w.heap.size w w' := by
  have HP : Hid (QsAt w v Q ∧ ∀ q ∈ Q, q.text.length ≤ 1000000000) := ⟨hp, hr⟩
  obtain ⟨ao, cap, rfl, hc⟩ := hp
  obtain ⟨E, hE⟩ : ∃ E, E = errQ Q (charsL t).length := ⟨_, rfl⟩
  have HE : Hid (isText t = true ∧ E = errQ Q (charsL t).length ∧ errQ Q (charsL t).length ≠ 0) := ⟨htx, hE, he⟩
  have hcl : (charsL t).length ≤ 1000000000 := by
    have := chars_len (text_chars t)
    rw [← text_eq htx] at this
    omega
  rw [← hE]
  clear hc hr he hE htx
  go_enter Try.func93, Try.ntmps93
  go_wp2_with fail
  refine (Characters_any t _ ht).mono ?_
  rintro e w1 ⟨hres, hb1⟩
  rcases hres with ⟨_, lv, rfl, hlv⟩ | ⟨h1, _⟩
  case inr => exact absurd HE.out.1 (by rw [h1]; decide)
  obtain ⟨lo, lcap, rfl⟩ : ∃ lo lcap, lv = .slice lo (charsL t).length lcap := by
    rcases hlv.2 with ⟨e, h0⟩ | ⟨g2, cap2, cur2, e, _⟩
    · exact ⟨none, 0, by rw [e, h0]⟩
    · exact ⟨_, _, e⟩
  have K1 : Hid (w1.heap[w.heap.size]? = some (.cells #[.slice none 0 0, .slice none 0 0] 129 (0, 0))) := by_hid (read_box hb1)
  have HB1 : Hid (Below w.heap.size w w1) := by_hid (((Below.refl _ _).alloc (Nat.le_refl _) _).trans (hb1.mono (by simp)))
  clear hb1 hlv
  go_wp2_with fail
  refine (Read_err _ Q (charsL t).length _ (HP.out.1.below HB1.out (Nat.le_refl _)) hL HP.out.2 (by omega) (by omega) HE.out.2.2).mono ?_
  rintro e w2 ⟨rfl, hb2⟩
  rw [← HE.out.2.1]
  have k2 : w2.heap[w.heap.size]? = some (.cells #[.slice none 0 0, .slice none 0 0] 129 (0, 0)) := by rw [hb2.block _ (lt_of_blk K1.out)]; exact K1.out
  have c0 : w2.cell? ⟨w.heap.size, 0, none⟩ = some (.slice none 0 0) := Lib.cell_of_heap k2 0
  have c1 : w2.cell? ⟨w.heap.size, 1, none⟩ = some (.slice none 0 0) := Lib.cell_of_heap k2 1
  have f0 : w2.frozen? ⟨w.heap.size, 0, none⟩ = false := Lib.frozen_of_heap k2 0
  have f1 : w2.frozen? ⟨w.heap.size, 1, none⟩ = false := Lib.frozen_of_heap k2 1
  have HB2 : Hid (Below w.heap.size w w2) := by_hid (HB1.out.trans (hb2.mono HB1.out.size))
  have hl2 := lt_of_blk k2
  clear hb2 k2
  go_wp2
  go_region
  all_goals
    go_wp2
    refine bodyPost_ret (v := .tuple #[.slice lo (charsL t).length lcap, .agg #[.slice none 0 0, .slice none 0 0], .int .i64 E]) (by simp [results, Try.results93, go_sem, c0, c1, hl2]) rfl ⟨⟨_, rfl⟩, ?_⟩
    have hB := (HB2.out.setCell (p := ⟨w.heap.size, 0, none⟩) (Nat.le_refl _) (.slice none 0 0)).setCell (p := ⟨w.heap.size, 1, none⟩) (Nat.le_refl _) (.slice none 0 0)
    exact (hB.alloc hB.size _).drew

set_option maxHeartbeats 1000000 in
set_option maxRecDepth 100000 in
theorem on_ok (v : Value) (L : List Pt) (t : List UInt8) (w : World) (hp : QsAt w v (L.map Pt.q)) (hok : OkOp L (charsL t).length) (hf : tlen L ≤ 2000000) (hr : ∀ q ∈ L.map Pt.q, q.text.length ≤ 1000000000) (ht : t.length ≤ 1000000000) (htx : isText t = true) (he : errQ (L.map Pt.q) (charsL t).length = 0) :
    Calls Try.prog 93 #[.string (bs t), v] w fun e w' => ∃ lv gv iv G X, e = .returned (.tuple #[lv, .agg #[gv, iv], .int .i64 0]) ∧ w'.ownsRow w.heap.size 9 1 lv (charsL t).length (strV (charsL t)) ∧ DoesAt w.heap.size w' gv iv G (settR G X) ∧ Laid (unitsOf L) (charsL t).length (nums L) (tlen L) G X ∧ Below w.heap.size w w' := by
  have HP : Hid (QsAt w v (L.map Pt.q) ∧ (∀ q ∈ L.map Pt.q, q.text.length ≤ 1000000000) ∧ OkOp L (charsL t).length ∧ tlen L ≤ 2000000 ∧ errQ (L.map Pt.q) (charsL t).length = 0 ∧ isText t = true) := ⟨hp, hr, hok, hf, he, htx⟩
  obtain ⟨ao, cap, rfl, hc⟩ := hp
  rw [List.length_map] at HP ⊢
  have hcl : (charsL t).length ≤ 1000000 := hok.small
  clear hc hr he htx hok hf
  go_enter Try.func93, Try.ntmps93
  go_wp2_with fail
  refine (Characters_any t _ ht).mono ?_
  rintro e w1 ⟨hres, hb1⟩
  rcases hres with ⟨_, lv, rfl, hlv⟩ | ⟨h1, _⟩
  case inr => exact absurd HP.out.2.2.2.2.2 (by rw [h1]; decide)
  have HLV : Hid (w1.ownsRow (w.heap.size + 1) 9 1 lv (charsL t).length (strV (charsL t))) := by_hid (by simpa using hlv)
  obtain ⟨lo, lcap, rfl⟩ : ∃ lo lcap, lv = .slice lo (charsL t).length lcap := by
    rcases hlv.2 with ⟨e, h0⟩ | ⟨g2, cap2, cur2, e, _⟩
    · exact ⟨none, 0, by rw [e, h0]⟩
    · exact ⟨_, _, e⟩
  have K1 : Hid (w1.heap[w.heap.size]? = some (.cells #[.slice none 0 0, .slice none 0 0] 129 (0, 0))) := by_hid (read_box hb1)
  have HB1 : Hid (Below w.heap.size w w1) := by_hid (((Below.refl _ _).alloc (Nat.le_refl _) _).trans (hb1.mono (by simp)))
  clear hb1 hlv
  go_wp2_with fail
  refine (Read_ok _ L (charsL t).length _ (HP.out.1.below HB1.out (Nat.le_refl _)) HP.out.2.2.1 HP.out.2.2.2.1 HP.out.2.2.2.2.1 HP.out.2.1).mono ?_
  rintro e w2 ⟨gv, iv, G, X, rfl, hd, hld, hb2⟩
  have HLD : Hid (Laid (unitsOf L) (charsL t).length (nums L) (tlen L) G X) := hld
  have k2 : w2.heap[w.heap.size]? = some (.cells #[.slice none 0 0, .slice none 0 0] 129 (0, 0)) := by rw [hb2.block _ (lt_of_blk K1.out)]; exact K1.out
  have c0 : w2.cell? ⟨w.heap.size, 0, none⟩ = some (.slice none 0 0) := Lib.cell_of_heap k2 0
  have c1 : w2.cell? ⟨w.heap.size, 1, none⟩ = some (.slice none 0 0) := Lib.cell_of_heap k2 1
  have f0 : w2.frozen? ⟨w.heap.size, 0, none⟩ = false := Lib.frozen_of_heap k2 0
  have f1 : w2.frozen? ⟨w.heap.size, 1, none⟩ = false := Lib.frozen_of_heap k2 1
  have HB2 : Hid (Below w.heap.size w w2) := by_hid (HB1.out.trans (hb2.mono HB1.out.size))
  have hl2 := lt_of_blk k2
  have hl1 := lt_of_blk K1.out
  have HLV2 : Hid (w2.ownsRow (w.heap.size + 1) 9 1 (.slice lo (charsL t).length lcap) (charsL t).length (strV (charsL t))) := by_hid (own_below HLV.out hb2 (Nat.le_refl _))
  obtain ⟨Vs', hI'⟩ := hd.ins
  have HF : Hid (∀ (o : Obj), DoesAt w.heap.size (((w2.setCell ⟨w.heap.size, 0, none⟩ gv).setCell ⟨w.heap.size, 1, none⟩ iv).alloc o).drew gv iv G (settR G X) ∧ Below w.heap.size w (((w2.setCell ⟨w.heap.size, 0, none⟩ gv).setCell ⟨w.heap.size, 1, none⟩ iv).alloc o).drew ∧ (((w2.setCell ⟨w.heap.size, 0, none⟩ gv).setCell ⟨w.heap.size, 1, none⟩ iv).alloc o).drew.ownsRow w.heap.size 9 1 (.slice lo (charsL t).length lcap) (charsL t).length (strV (charsL t))) := by_hid (fun o => by
    have n0 := own_ne hd.gone k2 (by decide)
    have n1 := own_ne hI'.row k2 (by decide)
    have n3 := own_ne HLV2.out k2 (by decide)
    have hbb : Below ((w2.setCell ⟨w.heap.size, 0, none⟩ gv).setCell ⟨w.heap.size, 1, none⟩ iv).heap.size ((w2.setCell ⟨w.heap.size, 0, none⟩ gv).setCell ⟨w.heap.size, 1, none⟩ iv) (((w2.setCell ⟨w.heap.size, 0, none⟩ gv).setCell ⟨w.heap.size, 1, none⟩ iv).alloc o).drew := ((Below.refl _ _).alloc (Nat.le_refl _) _).drew
    have hB := (HB2.out.setCell (p := ⟨w.heap.size, 0, none⟩) (Nat.le_refl _) gv).setCell (p := ⟨w.heap.size, 1, none⟩) (Nat.le_refl _) iv
    refine ⟨DoesAt.below (w := ((w2.setCell ⟨w.heap.size, 0, none⟩ gv).setCell ⟨w.heap.size, 1, none⟩ iv)) ?_ hbb (Nat.le_refl _), (hB.alloc hB.size _).drew, own_below (own_base (own_set (own_set HLV2.out n3 _ _) n3 _ _) (by omega)) hbb (Nat.le_refl _)⟩
    refine ⟨own_base (own_set (own_set hd.gone n0 _ _) n0 _ _) (by omega), Vs', own_base (own_set (own_set hI'.row n1 _ _) n1 _ _) (by omega), fun j hj => ?_, hI'.non, hI'.apart⟩
    have n2 := own_ne (hI'.each j hj) k2 (by decide)
    exact own_base (own_set (own_set (hI'.each j hj) n2 _ _) n2 _ _) (by omega))
  obtain ⟨ag, cg, rfl, _⟩ := gone_form hd.gone
  obtain ⟨gi, ci, _, rfl, _⟩ := hI'.form (by rw [settR_length G X (by rw [hld.xl, hld.gl])]; omega)
  clear hb2 k2 hd hI' hld
  go_wp2
  go_region
  all_goals
    go_wp2
    refine bodyPost_ret (v := .tuple #[.slice lo (charsL t).length lcap, .agg #[.slice ag G.length cg, .slice (some ⟨gi, 0, none⟩) (settR G X).length ci], .int .i64 0]) (by simp [results, Try.results93, go_sem, c0, c1, hl2]) rfl ⟨_, _, _, G, X, rfl, ?_, ?_, HLD.out, ?_⟩
    · exact (HF.out _).2.2
    · exact (HF.out _).1
    · exact (HF.out _).2.1

theorem Laid.units {L : List Pt} {m T : Nat} {G : List Bool} {X : List (List (List UInt8))} (h : Laid (unitsOf L) m (nums L) T G X) (hr : ∀ p ∈ L, Right p) (ht : ∀ p ∈ L, isText p.text = true) :
    Go.Proofs.Ytpiankiacbghcaa.norm (Go.Proofs.Ytpiankiacbghcaa.units G (settR G X)) = Go.Proofs.Ytpiankiacbghcaa.norm L := by
  have hl : X.length = G.length + 1 := by rw [h.xl, h.gl]
  have hu := h.all
  rw [unitsOf_all] at hu
  rw [norm_of_steps (settR_steps G X hl)]
  refine units_norm (by simp) hr ?_ hu
  intro x hx hk
  obtain ⟨i, hi, rfl⟩ := List.getElem_of_mem hx
  simp only [List.getElem_zip, List.getElem_map]
  exact text_eq (ht _ (List.getElem_mem _))

theorem Laid.apply {L : List Pt} {T : Nat} {G : List Bool} {X : List (List (List UInt8))} {cs : List (List UInt8)} (h : Laid (unitsOf L) cs.length (nums L) T G X) (hr : ∀ p ∈ L, Right p) (ht : ∀ p ∈ L, isText p.text = true) :
    (ofF G (settR G X) cs).flatten = applyP L cs := by
  have hl : X.length = G.length + 1 := by rw [h.xl, h.gl]
  rw [← apply_units G _ cs (settR_length G X hl) h.gl.symm, ← norm_apply _ (right_units G _ (settR_ne G X h.ne)), h.units hr ht, norm_apply L hr]

set_option maxHeartbeats 1000000 in
set_option maxRecDepth 100000 in
theorem rApply_bad (v : Value) (Q : List Qt) (t : List UInt8) (w : World) (hp : QsAt w v Q) (ht : t.length ≤ 1000000000) (he : isText t = false) :
    Calls Try.prog 64 #[.string (bs t), v] w fun e w' => e = .returned (.tuple #[.string ⟨#[]⟩, .int .i64 2]) ∧ Below w.heap.size w w' := by
  have HP : Hid (QsAt w v Q) := hp
  obtain ⟨ao, cap, rfl, hc⟩ := hp
  have HE : Hid (isText t = false) := he
  clear hc he
  go_enter Try.func64, Try.ntmps64
  go_wp2_with (go_at_call 93; refine (on_bad _ Q t _ HP.out ht HE.out).mono ?_; rintro e w1 ⟨rfl, hb1⟩)
  go_ret2
  exact ⟨rfl, hb1.alloc hb1.size _⟩

set_option maxHeartbeats 1000000 in
set_option maxRecDepth 100000 in
theorem rApply_err (v : Value) (Q : List Qt) (t : List UInt8) (w : World) (hp : QsAt w v Q) (hL : Q.length ≤ 9223372036854775806) (hr : ∀ q ∈ Q, q.text.length ≤ 1000000000) (ht : t.length ≤ 1000000000) (htx : isText t = true) (he : errQ Q (charsL t).length ≠ 0) :
    Calls Try.prog 64 #[.string (bs t), v] w fun e w' => e = .returned (.tuple #[.string ⟨#[]⟩, .int .i64 (errQ Q (charsL t).length)]) ∧ Below w.heap.size w w' := by
  have HP : Hid (QsAt w v Q ∧ (∀ q ∈ Q, q.text.length ≤ 1000000000) ∧ isText t = true) := ⟨hp, hr, htx⟩
  obtain ⟨ao, cap, rfl, hc⟩ := hp
  have hb : (errQ Q (charsL t).length != 0) = true := by rw [bne_iff_ne]; exact he
  obtain ⟨E, hE⟩ : ∃ E, E = errQ Q (charsL t).length := ⟨_, rfl⟩
  have HE : Hid (E = errQ Q (charsL t).length ∧ errQ Q (charsL t).length ≠ 0) := ⟨hE, he⟩
  rw [← hE] at hb ⊢
  clear hc hr he hE htx
  go_enter Try.func64, Try.ntmps64
  go_wp2_with (go_at_call 93; refine (on_err _ Q t _ HP.out.1 hL HP.out.2.1 ht HP.out.2.2 HE.out.2).mono ?_; rintro e w1 ⟨⟨lv, rfl⟩, hb1⟩; rw [← HE.out.1])
  go_ret2
  exact ⟨rfl, hb1.alloc hb1.size _⟩

set_option maxHeartbeats 1000000 in
set_option maxRecDepth 100000 in
theorem rApply_ok (v : Value) (L : List Pt) (t : List UInt8) (w : World) (hp : QsAt w v (L.map Pt.q)) (hok : OkOp L (charsL t).length) (hf : tlen L ≤ 2000000) (hr : ∀ q ∈ L.map Pt.q, q.text.length ≤ 1000000000) (htL : ∀ p ∈ L, isText p.text = true) (ht : t.length ≤ 100000000) (htx : isText t = true) (he : errQ (L.map Pt.q) (charsL t).length = 0) :
    Calls Try.prog 64 #[.string (bs t), v] w fun e w' => e = .returned (.tuple #[.string (bs (applyP L (charsL t))), .int .i64 0]) ∧ Below w.heap.size w w' := by
  have HP : Hid (QsAt w v (L.map Pt.q) ∧ (∀ q ∈ L.map Pt.q, q.text.length ≤ 1000000000) ∧ OkOp L (charsL t).length ∧ tlen L ≤ 2000000 ∧ errQ (L.map Pt.q) (charsL t).length = 0 ∧ isText t = true ∧ ∀ p ∈ L, isText p.text = true) := ⟨hp, hr, hok, hf, he, htx, htL⟩
  obtain ⟨ao, cap, rfl, hc⟩ := hp
  rw [List.length_map] at HP ⊢
  have hcl : (charsL t).length ≤ 1000000 := hok.small
  clear hc hr he htx hok hf htL
  go_enter Try.func64, Try.ntmps64
  go_wp2_with fail
  refine (on_ok _ L t _ HP.out.1 HP.out.2.2.1 HP.out.2.2.2.1 HP.out.2.1 (by omega) HP.out.2.2.2.2.2.1 HP.out.2.2.2.2.1).mono ?_
  rintro e w1 ⟨lv, gv, iv, G, X, rfl, hlv, hd, hld, hb1⟩
  have HD : Hid (w1.ownsRow w.heap.size 9 1 lv (charsL t).length (strV (charsL t)) ∧ DoesAt w.heap.size w1 gv iv G (settR G X) ∧ Laid (unitsOf L) (charsL t).length (nums L) (tlen L) G X ∧ Below w.heap.size w w1) := ⟨hlv, hd, hld, hb1⟩
  obtain ⟨lo, lcap, rfl⟩ : ∃ lo lcap, lv = .slice lo (charsL t).length lcap := by
    rcases hlv.2 with ⟨e, h0⟩ | ⟨g2, cap2, cur2, e, _⟩
    · exact ⟨none, 0, by rw [e, h0]⟩
    · exact ⟨_, _, e⟩
  obtain ⟨ag, cg, rfl, _⟩ := gone_form hd.gone
  obtain ⟨Vs, hI⟩ := hd.ins
  obtain ⟨gi, ci, _, rfl, _⟩ := hI.form (by rw [settR_length G X (by rw [hld.xl, hld.gl])]; omega)
  clear hd hld hb1 hI hlv
  have hz := HD.out.2.2.1.sizes hcl HP.out.2.2.2.1
  have HZ : Hid (Sizes G (settR G X)) := hz.1
  have hag := HD.out.2.2.1.apply HP.out.2.2.1.right HP.out.2.2.2.2.2.2
  have HAP : Hid ((ofF G (settR G X) (charsL t)).flatten = applyP L (charsL t)) := hag
  have HLN : Hid ((ofF G (settR G X) (charsL t)).length ≤ 1000000000 ∧ (ofF G (settR G X) (charsL t)).flatten.length ≤ 1000000000) := by_hid (by
    constructor
    · have := ofU_len (cs := charsL t) HZ.out.len HZ.out.n HZ.out.tot _ (Nat.le_refl _)
      rw [ofU_all G _ _ HZ.out.len HD.out.2.2.1.gl.symm] at this
      omega
    · rw [hag]
      have h1 := applyP_len L (charsL t)
      rw [← text_eq HP.out.2.2.2.2.2.1] at h1
      have := HP.out.2.2.2.1
      omega)
  clear hz hag
  go_wp2_with fail
  refine (of_any w.heap.size _ _ _ G (settR G X) (charsL t) _ (HD.out.2.1.below ((Below.refl _ _).alloc (Nat.le_refl _) _) (Nat.le_refl _)) HZ.out (own_below HD.out.1 ((Below.refl _ _).alloc (Nat.le_refl _) _) (Nat.le_refl _)) HD.out.2.2.1.gl.symm).mono ?_
  rintro e w3 ⟨v3, rfl, hr3, hb3⟩
  have HR3 : Hid (w3.ownsRow (w1.heap.size + 1) 9 1 v3 (ofF G (settR G X) (charsL t)).length (strV (ofF G (settR G X) (charsL t)))) := by_hid (by simpa using hr3)
  have HB3 : Hid (Below w.heap.size w w3) := by_hid ((HD.out.2.2.2.alloc HD.out.2.2.2.size _).trans (hb3.mono (by have := HD.out.2.2.2.size; simp; omega)))
  clear hr3 hb3
  go_wp2_with fail
  refine (joined_any _ _ (ofF G (settR G X) (charsL t)) _ HR3.out HLN.out.1 HLN.out.2).mono ?_
  rintro e w4 ⟨rfl, rfl⟩
  rw [HAP.out]
  go_wp2
  go_ret2
  exact ⟨rfl, HB3.out⟩

end Go.Proofs.Ytpiankiacbghcaa
