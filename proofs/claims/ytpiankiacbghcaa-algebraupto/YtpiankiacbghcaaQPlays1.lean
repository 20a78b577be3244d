/-
  quilllaw.first, quilllaw.World.step at an operation's step.
-/
import Derived.Test.YtpiankiacbghcaaQDone2
namespace Go.Proofs.Ytpiankiacbghcaa
open Go.RowKit

/-- a step of a script, as it lies in memory; what its lists of parts read as. -/
structure Stp where
  K : Int
  A : Int
  B : Int
  C : Int
  D : Int
  S : List UInt8
  L : Value
  M : Value
  QL : List Qt
  QM : List Qt

def stpCells (o : Stp) : List Value := [.int .i64 o.K, .int .i64 o.A, .int .i64 o.B, .int .i64 o.C, .int .i64 o.D, .string (bs o.S), o.L, o.M]
def rowS (l : List Stp) : List Value := l.flatMap stpCells

def firstA : List Qt := [⟨1, 1, []⟩, ⟨2, 0, [195, 169]⟩]
def firstB : List Qt := [⟨3, 1, []⟩, ⟨2, 0, [98]⟩]

/-- the steps that are asked in any case, where a and b lie in blocks n and n + 1. -/
def firstS (n : Nat) : List Stp :=
  let a : Value := .slice (some ⟨n, 0, none⟩) 2 2
  let b : Value := .slice (some ⟨n + 1, 0, none⟩) 2 2
  let z : Value := .slice none 0 0
  [⟨1, 2, 0, 0, 0, [], b, z, firstB, []⟩, ⟨2, 0, 0, 0, 0, [120, 121], a, z, firstA, []⟩, ⟨3, 2, 0, 0, 0, [], a, b, firstA, firstB⟩, ⟨4, 2, 0, 0, 0, [], a, b, firstA, firstB⟩, ⟨5, 0, 0, 0, 0, [120, 121], b, z, firstB, []⟩, ⟨10, 2, 0, 0, 0, [97, 98], z, z, [], []⟩, ⟨11, 0, 0, 0, 0, [], z, z, [], []⟩, ⟨12, 0, 0, 1, 0, [88], z, z, [], []⟩, ⟨15, 0, 0, 0, 0, [], z, z, [], []⟩, ⟨13, 0, 0, 0, 0, [], z, z, [], []⟩, ⟨16, 0, 0, 0, 0, [], z, z, [], []⟩, ⟨14, 0, 0, 0, 0, [], z, z, [], []⟩, ⟨15, 0, 0, 0, 0, [], z, z, [], []⟩]

theorem alloc_at {w : World} {n : Nat} (o : Obj) (h : n = w.heap.size) : (w.alloc o).heap[n]? = some o := by
  rw [h]
  exact heap_alloc_new w o

set_option maxHeartbeats 2000000 in
set_option maxRecDepth 100000 in
theorem first_any (w : World) :
    Calls Try.prog 22 #[] w fun e w' => e = .returned (.slice (some ⟨w.heap.size + 2, 0, none⟩) 13 13) ∧ w'.heap[w.heap.size]? = some (.cells (rowQ firstA).toArray 45 (0, 0)) ∧ w'.heap[w.heap.size + 1]? = some (.cells (rowQ firstB).toArray 45 (0, 0)) ∧ w'.heap[w.heap.size + 2]? = some (.cells (rowS (firstS w.heap.size)).toArray 58 (0, 0)) ∧ w'.heap.size = w.heap.size + 3 ∧ Below w.heap.size w w' := by
  go_enter Try.func22, Try.ntmps22
  go_wp2
  go_ret
  refine ⟨rfl, ?_, ?_, ?_, by simp, (((Below.refl _ _).alloc (Nat.le_refl _) _).alloc (by simp) _).alloc (by simp; omega) _⟩
  · exact (Lib.alloc_old _ _ _ (by simp; omega)).trans ((Lib.alloc_old _ _ _ (by simp)).trans (heap_alloc_new w _))
  · refine (Lib.alloc_old _ _ _ (by simp)).trans (alloc_at _ (by simp))
  · exact alloc_at _ (by simp)

/-- a step with an operation goes to done. -/
theorem step_done (base : Nat) (K A B C D : Int) (s : ByteArray) (vL vM : Value) (w : World) (R : World → Prop) (h1 : 1 ≤ K) (h5 : K ≤ 5)
    (HD : Calls Try.prog 36 #[.pointer (some ⟨base, 0, none⟩), .agg #[.int .i64 K, .int .i64 A, .int .i64 B, .int .i64 C, .int .i64 D, .string s, vL, vM]] (w.alloc (.cells #[.int .i64 K, .int .i64 A, .int .i64 B, .int .i64 C, .int .i64 D, .string s, vL, vM] 58)) fun e w' => e = .returned (.bool true) ∧ R w') :
    Calls Try.prog 24 #[.pointer (some ⟨base, 0, none⟩), .agg #[.int .i64 K, .int .i64 A, .int .i64 B, .int .i64 C, .int .i64 D, .string s, vL, vM]] w fun e w' => e = .returned (.bool true) ∧ R w' := by
  have H : Hid (Calls Try.prog 36 #[.pointer (some ⟨base, 0, none⟩), .agg #[.int .i64 K, .int .i64 A, .int .i64 B, .int .i64 C, .int .i64 D, .string s, vL, vM]] (w.alloc (.cells #[.int .i64 K, .int .i64 A, .int .i64 B, .int .i64 C, .int .i64 D, .string s, vL, vM] 58)) fun e w' => e = .returned (.bool true) ∧ R w') := HD
  clear HD
  go_enter Try.func24, Try.ntmps24
  go_wp2_with fail
  refine H.out.mono ?_
  rintro e w1 ⟨rfl, hR⟩
  go_wp2
  go_ret
  exact ⟨rfl, hR⟩

end Go.Proofs.Ytpiankiacbghcaa
