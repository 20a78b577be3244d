/-
  The document's answer: on, Apply.
  The document's answer: Apply.
-/
import Derived.Test.YtpiankiacbghcaaRRef12
namespace Go.Proofs.Ytpiankiacbghcaa
open Go.RowKit

set_option maxHeartbeats 1000000 in
set_option maxRecDepth 100000 in
theorem on_bad (v : Value) (Q : List Qt) (t : List UInt8) (w : World) (hp : QsAt w v Q) (ht : t.length ≤ 1000000000) (he : isText t = false) :
    Calls Try.prog 93 #[.string (bs t), v] w fun e w' => e = .returned (.tuple #[.slice none 0 0, .agg #[.slice none 0 0, .slice none 0 0], .int .i64 2]) ∧ Below w.heap.size w w' := by
  obtain ⟨ao, cap, rfl, hc⟩ := hp
  have HE : Hid (isText t = false) := he
  clear hc he
  go_enter Try.func93, Try.ntmps93
  go_wp2_with fail
  refine (Characters_any t _ ht).mono ?_
  rintro e w1 ⟨hres, hb1⟩
  rcases hres with ⟨h1, _⟩ | ⟨_, rfl⟩
  · exact absurd HE.out (by rw [h1]; decide)
  have k1 := read_box hb1
  have c0 : w1.cell? ⟨w.heap.size, 0, none⟩ = some (.slice none 0 0) := Lib.cell_of_heap k1 0
  have c1 : w1.cell? ⟨w.heap.size, 1, none⟩ = some (.slice none 0 0) := Lib.cell_of_heap k1 1
  have f0 : w1.frozen? ⟨w.heap.size, 0, none⟩ = false := Lib.frozen_of_heap k1 0
  have f1 : w1.frozen? ⟨w.heap.size, 1, none⟩ = false := Lib.frozen_of_heap k1 1
  have HB1 : Hid (Below w.heap.size w w1) := by_hid (((Below.refl _ _).alloc (Nat.le_refl _) _).trans (hb1.mono (by simp)))
  clear hb1 k1
  go_wp2
  refine bodyPost_ret (v := .tuple #[.slice none 0 0, .agg #[.slice none 0 0, .slice none 0 0], .int .i64 2]) (by simp [results, Try.results93, go_sem, c0, c1]) rfl ⟨rfl, ?_⟩
  first | exact HB1.out | exact (HB1.out.setCell (p := ⟨w.heap.size, 0, none⟩) (Nat.le_refl _) _).setCell (p := ⟨w.heap.size, 1, none⟩) (Nat.le_refl _) _

set_option maxHeartbeats 1000000 in
set_option maxRecDepth 100000 in
theorem on_err (v : Value) (Q : List Qt) (t : List UInt8) (w : World) (hp : QsAt w v Q) (hL : Q.length ≤ 9223372036854775806) (hr : ∀ q ∈ Q, q.text.length ≤ 1000000000) (ht : t.length ≤ 1000000000) (htx : isText t = true) (he : errQ Q (charsL t).length ≠ 0) :
    Calls Try.prog 93 #[.string (bs t), v] w fun e w' => (∃ lv, e = .returned (.tuple #[lv, .agg #[.slice none 0 0, .slice none 0 0], .int .i64 (errQ Q (charsL t).length)])) ∧ Below w.heap.size w w' := by
  have HP : Hid (QsAt w v Q ∧ ∀ q ∈ Q, q.text.length ≤ 1000000000) := ⟨hp, hr⟩
  obtain ⟨ao, cap, rfl, hc⟩ := hp
  obtain ⟨E, hE⟩ : ∃ E, E = errQ Q (charsL t).length := ⟨_, rfl⟩
  have HE : Hid (isText t = true ∧ E = errQ Q (charsL t).length ∧ errQ Q (charsL t).length ≠ 0) := ⟨htx, hE, he⟩
  have hcl : (charsL t).length ≤ 1000000000 := by
    have := chars_len (text_chars t)
    rw [← text_eq htx] at this
    omega
  rw [← hE]
  clear hc hr he hE htx
  go_enter Try.func93, Try.ntmps93
  go_wp2_with fail
  refine (Characters_any t _ ht).mono ?_
  rintro e w1 ⟨hres, hb1⟩
  rcases hres with ⟨_, lv, rfl, hlv⟩ | ⟨h1, _⟩
  case inr => exact absurd HE.out.1 (by rw [h1]; decide)
  obtain ⟨lo, lcap, rfl⟩ : ∃ lo lcap, lv = .slice lo (charsL t).length lcap := by
    rcases hlv.2 with ⟨e, h0⟩ | ⟨g2, cap2, cur2, e, _⟩
    · exact ⟨none, 0, by rw [e, h0]⟩
    · exact ⟨_, _, e⟩
  have K1 : Hid (w1.heap[w.heap.size]? = some (.cells #[.slice none 0 0, .slice none 0 0] 129 (0, 0))) := by_hid (read_box hb1)
  have HB1 : Hid (Below w.heap.size w w1) := by_hid (((Below.refl _ _).alloc (Nat.le_refl _) _).trans (hb1.mono (by simp)))
  clear hb1 hlv
  go_wp2_with fail
  refine (Read_err _ Q (charsL t).length _ (HP.out.1.below HB1.out (Nat.le_refl _)) hL HP.out.2 (by omega) (by omega) HE.out.2.2).mono ?_
  rintro e w2 ⟨rfl, hb2⟩
  rw [← HE.out.2.1]
  have k2 : w2.heap[w.heap.size]? = some (.cells #[.slice none 0 0, .slice none 0 0] 129 (0, 0)) := by rw [hb2.block _ (lt_of_blk K1.out)]; exact K1.out
  have c0 : w2.cell? ⟨w.heap.size, 0, none⟩ = some (.slice none 0 0) := Lib.cell_of_heap k2 0
  have c1 : w2.cell? ⟨w.heap.size, 1, none⟩ = some (.slice none 0 0) := Lib.cell_of_heap k2 1
  have f0 : w2.frozen? ⟨w.heap.size, 0, none⟩ = false := Lib.frozen_of_heap k2 0
  have f1 : w2.frozen? ⟨w.heap.size, 1, none⟩ = false := Lib.frozen_of_heap k2 1
  have HB2 : Hid (Below w.heap.size w w2) := by_hid (HB1.out.trans (hb2.mono HB1.out.size))
  have hl2 := lt_of_blk k2
  clear hb2 k2
  go_wp2
  go_region
  all_goals
    go_wp2
    refine bodyPost_ret (v := .tuple #[.slice lo (charsL t).length lcap, .agg #[.slice none 0 0, .slice none 0 0], .int .i64 E]) (by simp [results, Try.results93, go_sem, c0, c1, hl2]) rfl ⟨⟨_, rfl⟩, ?_⟩
    have hB := (HB2.out.setCell (p := ⟨w.heap.size, 0, none⟩) (Nat.le_refl _) (.slice none 0 0)).setCell (p := ⟨w.heap.size, 1, none⟩) (Nat.le_refl _) (.slice none 0 0)
    exact (hB.alloc hB.size _).drew

set_option maxHeartbeats 1000000 in
set_option maxRecDepth 100000 in
theorem on_ok (v : Value) (L : List Pt) (t : List UInt8) (w : World) (hp : QsAt w v (L.map Pt.q)) (hok : OkOp L (charsL t).length) (hf : tlen L ≤ 2000000) (hr : ∀ q ∈ L.map Pt.q, q.text.length ≤ 1000000000) (ht : t.length ≤ 1000000000) (htx : isText t = true) (he : errQ (L.map Pt.q) (charsL t).length = 0) :
    Calls Try.prog 93 #[.string (bs t), v] w fun e w' => ∃ lv gv iv G X, e = .returned (.tuple #[lv, .agg #[gv, iv], .int .i64 0]) ∧ w'.ownsRow w.heap.size 9 1 lv (charsL t).length (strV (charsL t)) ∧ DoesAt w.heap.size w' gv iv G (settR G X) ∧ Laid (unitsOf L) (charsL t).length (nums L) (tlen L) G X ∧ Below w.heap.size w w' := by
  have HP : Hid (QsAt w v (L.map Pt.q) ∧ (∀ q ∈ L.map Pt.q, q.text.length ≤ 1000000000) ∧ OkOp L (charsL t).length ∧ tlen L ≤ 2000000 ∧ errQ (L.map Pt.q) (charsL t).length = 0 ∧ isText t = true) := ⟨hp, hr, hok, hf, he, htx⟩
  obtain ⟨ao, cap, rfl, hc⟩ := hp
  rw [List.length_map] at HP ⊢
  have hcl : (charsL t).length ≤ 1000000 := hok.small
  clear hc hr he htx hok hf
  go_enter Try.func93, Try.ntmps93
  go_wp2_with fail
  refine (Characters_any t _ ht).mono ?_
  rintro e w1 ⟨hres, hb1⟩
  rcases hres with ⟨_, lv, rfl, hlv⟩ | ⟨h1, _⟩
  case inr => exact absurd HP.out.2.2.2.2.2 (by rw [h1]; decide)
  have HLV : Hid (w1.ownsRow (w.heap.size + 1) 9 1 lv (charsL t).length (strV (charsL t))) := by_hid (by simpa using hlv)
  obtain ⟨lo, lcap, rfl⟩ : ∃ lo lcap, lv = .slice lo (charsL t).length lcap := by
    rcases hlv.2 with ⟨e, h0⟩ | ⟨g2, cap2, cur2, e, _⟩
    · exact ⟨none, 0, by rw [e, h0]⟩
    · exact ⟨_, _, e⟩
  have K1 : Hid (w1.heap[w.heap.size]? = some (.cells #[.slice none 0 0, .slice none 0 0] 129 (0, 0))) := by_hid (read_box hb1)
  have HB1 : Hid (Below w.heap.size w w1) := by_hid (((Below.refl _ _).alloc (Nat.le_refl _) _).trans (hb1.mono (by simp)))
  clear hb1 hlv
  go_wp2_with fail
  refine (Read_ok _ L (charsL t).length _ (HP.out.1.below HB1.out (Nat.le_refl _)) HP.out.2.2.1 HP.out.2.2.2.1 HP.out.2.2.2.2.1 HP.out.2.1).mono ?_
  rintro e w2 ⟨gv, iv, G, X, rfl, hd, hld, hb2⟩
  have HLD : Hid (Laid (unitsOf L) (charsL t).length (nums L) (tlen L) G X) := hld
  have k2 : w2.heap[w.heap.size]? = some (.cells #[.slice none 0 0, .slice none 0 0] 129 (0, 0)) := by rw [hb2.block _ (lt_of_blk K1.out)]; exact K1.out
  have c0 : w2.cell? ⟨w.heap.size, 0, none⟩ = some (.slice none 0 0) := Lib.cell_of_heap k2 0
  have c1 : w2.cell? ⟨w.heap.size, 1, none⟩ = some (.slice none 0 0) := Lib.cell_of_heap k2 1
  have f0 : w2.frozen? ⟨w.heap.size, 0, none⟩ = false := Lib.frozen_of_heap k2 0
  have f1 : w2.frozen? ⟨w.heap.size, 1, none⟩ = false := Lib.frozen_of_heap k2 1
  have HB2 : Hid (Below w.heap.size w w2) := by_hid (HB1.out.trans (hb2.mono HB1.out.size))
  have hl2 := lt_of_blk k2
  have hl1 := lt_of_blk K1.out
  have HLV2 : Hid (w2.ownsRow (w.heap.size + 1) 9 1 (.slice lo (charsL t).length lcap) (charsL t).length (strV (charsL t))) := by_hid (own_below HLV.out hb2 (Nat.le_refl _))
  obtain ⟨Vs', hI'⟩ := hd.ins
  have HF : Hid (∀ (o : Obj), DoesAt w.heap.size (((w2.setCell ⟨w.heap.size, 0, none⟩ gv).setCell ⟨w.heap.size, 1, none⟩ iv).alloc o).drew gv iv G (settR G X) ∧ Below w.heap.size w (((w2.setCell ⟨w.heap.size, 0, none⟩ gv).setCell ⟨w.heap.size, 1, none⟩ iv).alloc o).drew ∧ (((w2.setCell ⟨w.heap.size, 0, none⟩ gv).setCell ⟨w.heap.size, 1, none⟩ iv).alloc o).drew.ownsRow w.heap.size 9 1 (.slice lo (charsL t).length lcap) (charsL t).length (strV (charsL t))) := by_hid (fun o => by
    have n0 := own_ne hd.gone k2 (by decide)
    have n1 := own_ne hI'.row k2 (by decide)
    have n3 := own_ne HLV2.out k2 (by decide)
    have hbb : Below ((w2.setCell ⟨w.heap.size, 0, none⟩ gv).setCell ⟨w.heap.size, 1, none⟩ iv).heap.size ((w2.setCell ⟨w.heap.size, 0, none⟩ gv).setCell ⟨w.heap.size, 1, none⟩ iv) (((w2.setCell ⟨w.heap.size, 0, none⟩ gv).setCell ⟨w.heap.size, 1, none⟩ iv).alloc o).drew := ((Below.refl _ _).alloc (Nat.le_refl _) _).drew
    have hB := (HB2.out.setCell (p := ⟨w.heap.size, 0, none⟩) (Nat.le_refl _) gv).setCell (p := ⟨w.heap.size, 1, none⟩) (Nat.le_refl _) iv
    refine ⟨DoesAt.below (w := ((w2.setCell ⟨w.heap.size, 0, none⟩ gv).setCell ⟨w.heap.size, 1, none⟩ iv)) ?_ hbb (Nat.le_refl _), (hB.alloc hB.size _).drew, own_below (own_base (own_set (own_set HLV2.out n3 _ _) n3 _ _) (by omega)) hbb (Nat.le_refl _)⟩
    refine ⟨own_base (own_set (own_set hd.gone n0 _ _) n0 _ _) (by omega), Vs', own_base (own_set (own_set hI'.row n1 _ _) n1 _ _) (by omega), fun j hj => ?_, hI'.non, hI'.apart⟩
    have n2 := own_ne (hI'.each j hj) k2 (by decide)
    exact own_base (own_set (own_set (hI'.each j hj) n2 _ _) n2 _ _) (by omega))
  obtain ⟨ag, cg, rfl, _⟩ := gone_form hd.gone
  obtain ⟨gi, ci, _, rfl, _⟩ := hI'.form (by rw [settR_length G X (by rw [hld.xl, hld.gl])]; omega)
  clear hb2 k2 hd hI' hld
  go_wp2
  go_region
  all_goals
    go_wp2
    refine bodyPost_ret (v := .tuple #[.slice lo (charsL t).length lcap, .agg #[.slice ag G.length cg, .slice (some ⟨gi, 0, none⟩) (settR G X).length ci], .int .i64 0]) (by simp [results, Try.results93, go_sem, c0, c1, hl2]) rfl ⟨_, _, _, G, X, rfl, ?_, ?_, HLD.out, ?_⟩
    · exact (HF.out _).2.2
    · exact (HF.out _).1
    · exact (HF.out _).2.1

theorem Laid.units {L : List Pt} {m T : Nat} {G : List Bool} {X : List (List (List UInt8))} (h : Laid (unitsOf L) m (nums L) T G X) (hr : ∀ p ∈ L, Right p) (ht : ∀ p ∈ L, isText p.text = true) :
    Go.Proofs.Ytpiankiacbghcaa.norm (Go.Proofs.Ytpiankiacbghcaa.units G (settR G X)) = Go.Proofs.Ytpiankiacbghcaa.norm L := by
  have hl : X.length = G.length + 1 := by rw [h.xl, h.gl]
  have hu := h.all
  rw [unitsOf_all] at hu
  rw [norm_of_steps (settR_steps G X hl)]
  refine units_norm (by simp) hr ?_ hu
  intro x hx hk
  obtain ⟨i, hi, rfl⟩ := List.getElem_of_mem hx
  simp only [List.getElem_zip, List.getElem_map]
  exact text_eq (ht _ (List.getElem_mem _))

theorem Laid.apply {L : List Pt} {T : Nat} {G : List Bool} {X : List (List (List UInt8))} {cs : List (List UInt8)} (h : Laid (unitsOf L) cs.length (nums L) T G X) (hr : ∀ p ∈ L, Right p) (ht : ∀ p ∈ L, isText p.text = true) :
    (ofF G (settR G X) cs).flatten = applyP L cs := by
  have hl : X.length = G.length + 1 := by rw [h.xl, h.gl]
  rw [← apply_units G _ cs (settR_length G X hl) h.gl.symm, ← norm_apply _ (right_units G _ (settR_ne G X h.ne)), h.units hr ht, norm_apply L hr]

set_option maxHeartbeats 1000000 in
set_option maxRecDepth 100000 in
theorem rApply_bad (v : Value) (Q : List Qt) (t : List UInt8) (w : World) (hp : QsAt w v Q) (ht : t.length ≤ 1000000000) (he : isText t = false) :
    Calls Try.prog 64 #[.string (bs t), v] w fun e w' => e = .returned (.tuple #[.string ⟨#[]⟩, .int .i64 2]) ∧ Below w.heap.size w w' := by
  have HP : Hid (QsAt w v Q) := hp
  obtain ⟨ao, cap, rfl, hc⟩ := hp
  have HE : Hid (isText t = false) := he
  clear hc he
  go_enter Try.func64, Try.ntmps64
  go_wp2_with (go_at_call 93; refine (on_bad _ Q t _ HP.out ht HE.out).mono ?_; rintro e w1 ⟨rfl, hb1⟩)
  go_ret2
  exact ⟨rfl, hb1.alloc hb1.size _⟩

set_option maxHeartbeats 1000000 in
set_option maxRecDepth 100000 in
theorem rApply_err (v : Value) (Q : List Qt) (t : List UInt8) (w : World) (hp : QsAt w v Q) (hL : Q.length ≤ 9223372036854775806) (hr : ∀ q ∈ Q, q.text.length ≤ 1000000000) (ht : t.length ≤ 1000000000) (htx : isText t = true) (he : errQ Q (charsL t).length ≠ 0) :
    Calls Try.prog 64 #[.string (bs t), v] w fun e w' => e = .returned (.tuple #[.string ⟨#[]⟩, .int .i64 (errQ Q (charsL t).length)]) ∧ Below w.heap.size w w' := by
  have HP : Hid (QsAt w v Q ∧ (∀ q ∈ Q, q.text.length ≤ 1000000000) ∧ isText t = true) := ⟨hp, hr, htx⟩
  obtain ⟨ao, cap, rfl, hc⟩ := hp
  have hb : (errQ Q (charsL t).length != 0) = true := by rw [bne_iff_ne]; exact he
  obtain ⟨E, hE⟩ : ∃ E, E = errQ Q (charsL t).length := ⟨_, rfl⟩
  have HE : Hid (E = errQ Q (charsL t).length ∧ errQ Q (charsL t).length ≠ 0) := ⟨hE, he⟩
  rw [← hE] at hb ⊢
  clear hc hr he hE htx
  go_enter Try.func64, Try.ntmps64
  go_wp2_with (go_at_call 93; refine (on_err _ Q t _ HP.out.1 hL HP.out.2.1 ht HP.out.2.2 HE.out.2).mono ?_; rintro e w1 ⟨⟨lv, rfl⟩, hb1⟩; rw [← HE.out.1])
  go_ret2
  exact ⟨rfl, hb1.alloc hb1.size _⟩

set_option maxHeartbeats 1000000 in
set_option maxRecDepth 100000 in
theorem rApply_ok (v : Value) (L : List Pt) (t : List UInt8) (w : World) (hp : QsAt w v (L.map Pt.q)) (hok : OkOp L (charsL t).length) (hf : tlen L ≤ 2000000) (hr : ∀ q ∈ L.map Pt.q, q.text.length ≤ 1000000000) (htL : ∀ p ∈ L, isText p.text = true) (ht : t.length ≤ 100000000) (htx : isText t = true) (he : errQ (L.map Pt.q) (charsL t).length = 0) :
    Calls Try.prog 64 #[.string (bs t), v] w fun e w' => e = .returned (.tuple #[.string (bs (applyP L (charsL t))), .int .i64 0]) ∧ Below w.heap.size w w' := by
  have HP : Hid (QsAt w v (L.map Pt.q) ∧ (∀ q ∈ L.map Pt.q, q.text.length ≤ 1000000000) ∧ OkOp L (charsL t).length ∧ tlen L ≤ 2000000 ∧ errQ (L.map Pt.q) (charsL t).length = 0 ∧ isText t = true ∧ ∀ p ∈ L, isText p.text = true) := ⟨hp, hr, hok, hf, he, htx, htL⟩
  obtain ⟨ao, cap, rfl, hc⟩ := hp
  rw [List.length_map] at HP ⊢
  have hcl : (charsL t).length ≤ 1000000 := hok.small
  clear hc hr he htx hok hf htL
  go_enter Try.func64, Try.ntmps64
  go_wp2_with fail
  refine (on_ok _ L t _ HP.out.1 HP.out.2.2.1 HP.out.2.2.2.1 HP.out.2.1 (by omega) HP.out.2.2.2.2.2.1 HP.out.2.2.2.2.1).mono ?_
  rintro e w1 ⟨lv, gv, iv, G, X, rfl, hlv, hd, hld, hb1⟩
  have HD : Hid (w1.ownsRow w.heap.size 9 1 lv (charsL t).length (strV (charsL t)) ∧ DoesAt w.heap.size w1 gv iv G (settR G X) ∧ Laid (unitsOf L) (charsL t).length (nums L) (tlen L) G X ∧ Below w.heap.size w w1) := ⟨hlv, hd, hld, hb1⟩
  obtain ⟨lo, lcap, rfl⟩ : ∃ lo lcap, lv = .slice lo (charsL t).length lcap := by
    rcases hlv.2 with ⟨e, h0⟩ | ⟨g2, cap2, cur2, e, _⟩
    · exact ⟨none, 0, by rw [e, h0]⟩
    · exact ⟨_, _, e⟩
  obtain ⟨ag, cg, rfl, _⟩ := gone_form hd.gone
  obtain ⟨Vs, hI⟩ := hd.ins
  obtain ⟨gi, ci, _, rfl, _⟩ := hI.form (by rw [settR_length G X (by rw [hld.xl, hld.gl])]; omega)
  clear hd hld hb1 hI hlv
  have hz := HD.out.2.2.1.sizes hcl HP.out.2.2.2.1
  have HZ : Hid (Sizes G (settR G X)) := hz.1
  have hag := HD.out.2.2.1.apply HP.out.2.2.1.right HP.out.2.2.2.2.2.2
  have HAP : Hid ((ofF G (settR G X) (charsL t)).flatten = applyP L (charsL t)) := hag
  have HLN : Hid ((ofF G (settR G X) (charsL t)).length ≤ 1000000000 ∧ (ofF G (settR G X) (charsL t)).flatten.length ≤ 1000000000) := by_hid (by
    constructor
    · have := ofU_len (cs := charsL t) HZ.out.len HZ.out.n HZ.out.tot _ (Nat.le_refl _)
      rw [ofU_all G _ _ HZ.out.len HD.out.2.2.1.gl.symm] at this
      omega
    · rw [hag]
      have h1 := applyP_len L (charsL t)
      rw [← text_eq HP.out.2.2.2.2.2.1] at h1
      have := HP.out.2.2.2.1
      omega)
  clear hz hag
  go_wp2_with fail
  refine (of_any w.heap.size _ _ _ G (settR G X) (charsL t) _ (HD.out.2.1.below ((Below.refl _ _).alloc (Nat.le_refl _) _) (Nat.le_refl _)) HZ.out (own_below HD.out.1 ((Below.refl _ _).alloc (Nat.le_refl _) _) (Nat.le_refl _)) HD.out.2.2.1.gl.symm).mono ?_
  rintro e w3 ⟨v3, rfl, hr3, hb3⟩
  have HR3 : Hid (w3.ownsRow (w1.heap.size + 1) 9 1 v3 (ofF G (settR G X) (charsL t)).length (strV (ofF G (settR G X) (charsL t)))) := by_hid (by simpa using hr3)
  have HB3 : Hid (Below w.heap.size w w3) := by_hid ((HD.out.2.2.2.alloc HD.out.2.2.2.size _).trans (hb3.mono (by have := HD.out.2.2.2.size; simp; omega)))
  clear hr3 hb3
  go_wp2_with fail
  refine (joined_any _ _ (ofF G (settR G X) (charsL t)) _ HR3.out HLN.out.1 HLN.out.2).mono ?_
  rintro e w4 ⟨rfl, rfl⟩
  rw [HAP.out]
  go_wp2
  go_ret2
  exact ⟨rfl, HB3.out⟩

end Go.Proofs.Ytpiankiacbghcaa
