/-
  Where a list of parts lies in memory, and small words for the walks.
-/
import Derived.Test.YtgoaihpaajchaaaRows
import Derived.Test.YtgoaihpaajchaaaPure
import Derived.WalkKit
import Derived.WalkSpells
import Derived.WalkLawsBesides
import Derived.Deep.QuietTactic
import Derived.BigQuiet
namespace Go.Proofs.Ytgoaihpaajchaaa
open Go.RowKit

theorem ret_int {k : IntKind} {a b : Int} (h : a = b) : Ending.returned (.int k a) = .returned (.int k b) := by rw [h]
theorem ret_bool {a b : Bool} (h : a = b) : Ending.returned (.bool a) = .returned (.bool b) := by rw [h]

/-- a text's bytes as the model holds them. -/
def bs (t : List UInt8) : ByteArray := ⟨t.toArray⟩
theorem bs_data (t : List UInt8) : (bs t).data.toList = t := by simp [bs]
theorem bs_size (t : List UInt8) : (bs t).size = t.length := by simp [bs, ByteArray.size]
theorem ba_ext {a b : ByteArray} (h : a.data.toList = b.data.toList) : a = b := by
  cases a; cases b; simp at h; simp [h]
theorem bs_of {a : ByteArray} {t : List UInt8} (h : a.data.toList = t) : a = bs t := ba_ext (by rw [h, bs_data])

def PtAt (w : World) (b o : Nat) (p : Pt) : Prop :=
  w.cell? ⟨b, o, none⟩ = some (.int .i64 p.kind) ∧ w.cell? ⟨b, o + 1, none⟩ = some (.int .i64 p.num) ∧ w.cell? ⟨b, o + 2, none⟩ = some (.string (bs p.text))

def PartsAt (w : World) (v : Value) (L : List Pt) : Prop :=
  ∃ ao cap, v = .slice ao L.length cap ∧ (0 < L.length → ∃ b off, ao = some ⟨b, off, none⟩ ∧ b < w.heap.size ∧ ∀ k (h : k < L.length), PtAt w b (off + k * 3) L[k])

theorem PartsAt.below {w w' : World} {v : Value} {L : List Pt} (h : PartsAt w v L) {B : Nat} (hb : Below B w w') (hB : w.heap.size ≤ B) : PartsAt w' v L := by
  obtain ⟨ao, cap, rfl, hc⟩ := h
  refine ⟨ao, cap, rfl, fun hl => ?_⟩
  obtain ⟨b, off, e, hlt, hp⟩ := hc hl
  refine ⟨b, off, e, Nat.lt_of_lt_of_le hlt hb.size, fun k hk => ?_⟩
  obtain ⟨c0, c1, c2⟩ := hp k hk
  have hlt' : b < B := by omega
  exact ⟨(hb.cell (p := ⟨b, _, none⟩) hlt').trans c0, (hb.cell (p := ⟨b, _, none⟩) hlt').trans c1, (hb.cell (p := ⟨b, _, none⟩) hlt').trans c2⟩

end Go.Proofs.Ytgoaihpaajchaaa
