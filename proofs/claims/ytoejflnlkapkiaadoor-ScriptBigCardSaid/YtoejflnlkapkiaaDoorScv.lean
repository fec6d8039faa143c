/- ScriptBig: its numbers. -/
import Derived.Test.YtoejflnlkapkiaaDoorScr
import Derived.Laws.BytesArg
namespace Go.Proofs.YtoejflnlkapkiaaDoor
open Go.ChangeShapes Go.WideShapes Go.ChangeAt Go.RowKit
set_option linter.unusedVariables false
set_option linter.unusedSimpArgs false
theorem idx_zero : ∀ n : Nat, Lib.index (List.replicate n (0 : UInt8)) [10] = -1
  | 0 => rfl
  | n + 1 => by
    rw [List.replicate_succ, Lib.index, idx_zero n]
    simp [List.isPrefixOf]
theorem info_u8z : (Tryd.prog.info? 5).map (fun i => (i.zero, i.size, i.bytes)) = some (some (.int .u8 0), 1, 1) := by kernel_rfl
theorem make_u8 (n : Nat) (hn : n ≤ 35184372088832) (w : World) :
    (Instr.makeSlice 53 (.int .i64 (n : Int)) (.int .i64 (n : Int))).run Tryd.prog w = .ok (.slice (some ⟨w.heap.size, 0, none⟩) n n) (w.alloc (.cells (Array.replicate n (.int .u8 0)) 5)) := by
  obtain ⟨i, hi, hz, hs, hb⟩ := info_parts info_u8z
  rw [run_make w 53 5 i (.int .u8 0) Tryd.underlying53 hi hz .i64 .i64 (n : Int) (n : Int) (by omega) (by omega) (by rw [hb]; omega) (by omega), hs, Int.toNat_natCast, Nat.mul_one]
  rw [show (Value.int .u8 0).cells = #[.int .u8 0] from rfl, made_cells_i]
def zeroT (n : Nat) : ByteArray := strOfNums (List.replicate n 0)
theorem zeroT_size (n : Nat) : (zeroT n).size = n := by unfold zeroT; rw [strOfNums_size, List.length_replicate]
theorem zeroT_idx (n : Nat) : Lib.index (zeroT n).data.toList [10] = -1 := by
  unfold zeroT
  rw [strOfNums_data, List.map_replicate]
  exact idx_zero n
theorem conv_zero (w : World) (b n : Nat) (hb : w.heap[b]? = some (.cells (Array.replicate n (.int .u8 0)) 5 (0, 0))) : (convert 53 9 (.slice (some ⟨b, 0, none⟩) n n)).run Tryd.prog w = .ok (.string (zeroT n)) w :=
  run_convert_bytes_arg (P := Tryd.prog) w 53 5 Tryd.underlying53 Tryd.underlying5 b 0 n n (List.replicate n 0) (by simp) (fun i hi => by
    rw [Nat.zero_add, cell_of_row _ _ _ _ _ _ hb]
    simp [hi]) 9 Tryd.underlying9
theorem joinTail_len (r : List (List UInt8)) (h : ∀ x ∈ r, x.length = 1) : (Lib.joinTail [32] r).length = 2 * r.length := by
  induction r with
  | nil => rfl
  | cons x r ih =>
    have h1 := ih (fun y hy => h y (List.mem_cons_of_mem _ hy))
    have h2 := h x (List.mem_cons_self ..)
    unfold Lib.joinTail at h1 ⊢
    simp only [List.map_cons, List.flatten_cons, List.length_append, List.length_cons, List.length_nil] at h1 ⊢
    omega
theorem line_zero (f : ByteArray) (n : Nat) : (lineB (wsL f (List.replicate n 0))).length = f.data.toList.length + 2 * n + 1 := by
  unfold lineB wsL
  rw [List.map_cons, Lib.join_cons, List.length_append, List.length_append, joinTail_len]
  · simp
  · intro x hx
    simp only [List.map_replicate] at hx
    rw [List.eq_of_mem_replicate hx]
    decide +kernel
theorem scT_zero (n : Nat) : (scT 0 0 (List.replicate n 0) [] []).length = 2 * n + 21 := by
  unfold scT headT
  simp only [List.length_append]
  rw [line_zero]
  have h1 : (lineB (wsL ⟨#[112, 108, 97, 121]⟩ [0, 0])).length = 9 := by decide +kernel
  have h2 : (lineB (wsL ⟨#[116, 105, 99, 107, 115]⟩ [])).length = 6 := by decide +kernel
  rw [h1, h2]
  simp
  omega
end Go.Proofs.YtoejflnlkapkiaaDoor
