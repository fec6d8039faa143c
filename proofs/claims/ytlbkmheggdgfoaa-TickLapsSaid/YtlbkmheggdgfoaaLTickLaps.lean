/- TickLaps: how long something takes by any clock. -/
import Derived.Test.YtlbkmheggdgfoaaTick5
import Derived.Test.YtlbkmheggdgfoaaTick2
namespace Go.Proofs.Ytlbkmheggdgfoaa
open Go.ChangeShapes Go.WideShapes Go.ChangeAt Go.RowKit
set_option linter.unusedVariables false
namespace tickLaps
def W5 (W : World) (a b : Int) : World := ((((W.alloc (Obj.cells #[Value.int IntKind.i64 a, Value.int IntKind.i64 b] 3)).alloc (Obj.cells #[Value.slice (some { block := W.heap.size, off := 0 }) 2 2, Value.int IntKind.i64 0] 31)).alloc (Obj.cells #[Value.pointer (some { block := W.heap.size + 1, off := 0 })] 29)).alloc (Obj.cells #[Value.int IntKind.i64 0] 3)).alloc (Obj.cells #[Value.int IntKind.i64 (-1)] 3)
theorem heap_at (W : World) (o : Obj) (k : Nat) (h : k < W.heap.size) : (W.alloc o).heap[k]? = W.heap[k]? := Below.heap_alloc W o k h
theorem heap_new (W : World) (o : Obj) (k : Nat) (h : k = W.heap.size) (cs : Array Value) (T : TypeId) (ho : o = .cells cs T) : (W.alloc o).heap[k]? = some (.cells cs T (0, 0)) := by subst h; subst ho; exact heap_alloc_new _ _
theorem start (W : World) (a b : Int) : Cl (W5 W a b) (W.heap.size + 1 + 1 + 1) (W.heap.size + 1 + 1) (W.heap.size + 1 + 1 + 1 + 1) (W.heap.size + 1) W.heap.size a b 0 (-1) 0 := by
  unfold W5
  refine ⟨?_, ?_, ?_, ⟨?_, ?_⟩⟩
  · unfold Bx
    rw [heap_at _ _ _ (by simp)]
    exact heap_new _ _ _ (by simp) _ _ rfl
  · unfold Bx
    rw [heap_at _ _ _ (by first | omega | (simp; done) | (simp; omega)), heap_at _ _ _ (by simp)]
    exact heap_new _ _ _ (by simp) _ _ rfl
  · exact heap_new _ _ _ (by simp) _ _ rfl
  · rw [heap_at _ _ _ (by first | omega | (simp; done) | (simp; omega)), heap_at _ _ _ (by first | omega | (simp; done) | (simp; omega)), heap_at _ _ _ (by simp)]
    exact heap_new _ _ _ (by simp) _ _ rfl
  · rw [heap_at _ _ _ (by first | omega | (simp; done) | (simp; omega)), heap_at _ _ _ (by first | omega | (simp; done) | (simp; omega)), heap_at _ _ _ (by first | omega | (simp; done) | (simp; omega)), heap_at _ _ _ (by simp)]
    exact heap_new _ _ _ (by simp) _ _ rfl
theorem startB (W : World) (a b : Int) : Below W.heap.size W (W5 W a b) := by
  unfold W5
  exact (((((Below.refl _ _).alloc (Nat.le_refl _) _).alloc (by simp) _).alloc (by first | omega | (simp; done) | (simp; omega)) _).alloc (by first | omega | (simp; done) | (simp; omega)) _).alloc (by first | omega | (simp; done) | (simp; omega)) _
set_option maxRecDepth 100000 in
set_option maxHeartbeats 4000000 in
theorem mainF (W : World) (a : Int) (w0 : -9223372036854775808 ≤ a ∧ a ≤ 9223372036854775807) (b : Int) (w1 : -9223372036854775808 ≤ b ∧ b ≤ 9223372036854775807) (v : Int)
   (hc : (b ≤ a ∧ v = 0) ∨ (a < b ∧ 0 ≤ a ∧ b - a < 1152921504606846976 ∧ v = b - a) ∨ (a < b ∧ 0 ≤ a ∧ 1152921504606846976 ≤ b - a ∧ v = 1152921504606846976) ∨ (a < b ∧ a < 0 ∧ b < 1152921504606846976 + a ∧ v = b - a) ∨ (a < b ∧ a < 0 ∧ 1152921504606846976 + a ≤ b ∧ v = 1152921504606846976)) :
    Calls Try.prog 4 #[.int .i64 a, .int .i64 b, .bool false] W fun e W' => e = .returned (.bool true) ∧ Below W.heap.size W W' := by
  have hv : gone a b = v := by
    unfold gone
    split
    · split <;> omega
    · omega
  have SB := Lib.hid (startB W a b)
  have S0 := Lib.hid (start W a b)
  have CL := Lib.hid (fun w h => clo_lap (W.heap.size + 1 + 1 + 1) (W.heap.size + 1 + 1) (W.heap.size + 1 + 1 + 1 + 1) (W.heap.size + 1) W.heap.size a b 0 (-1) w w0 w1 (by omega) (by omega) (by omega) (by omega) h)
  have NL := Lib.hid (fun w h => nil_lap (W.heap.size + 1) W.heap.size a b w w0 w1 (by omega) h)
  have IC := Lib.hid (fun w h => iface_nil_call (W.heap.size + 1 + 1 + 1) (W.heap.size + 1 + 1) (W.heap.size + 1 + 1 + 1 + 1) (W.heap.size + 1) W.heap.size a b 0 (-1) 2 w (by omega) (by omega) (by omega) h)
  have KP := Lib.hid (fun w' (s : Str w' (W.heap.size + 1) W.heap.size a b 2) (k : Kept (W5 W a b) w' [W.heap.size + 1]) => show Cl w' (W.heap.size + 1 + 1 + 1) (W.heap.size + 1 + 1) (W.heap.size + 1 + 1 + 1 + 1) (W.heap.size + 1) W.heap.size a b 0 (-1) 2 from ⟨(start W a b).hn.kept k (by simp; try omega), (start W a b).hp.kept k (by simp; try omega), (start W a b).ha.kept k (by simp; try omega), s⟩)
  rw [hv] at CL NL
  clear hv
  obtain ⟨a0, a1⟩ := w0
  obtain ⟨b0, b1⟩ := w1
  have hw : W5 W a b = ((((W.alloc (Obj.cells #[Value.int IntKind.i64 a, Value.int IntKind.i64 b] 3)).alloc (Obj.cells #[Value.slice (some { block := W.heap.size, off := 0 }) 2 2, Value.int IntKind.i64 0] 31)).alloc (Obj.cells #[Value.pointer (some { block := W.heap.size + 1, off := 0 })] 29)).alloc (Obj.cells #[Value.int IntKind.i64 0] 3)).alloc (Obj.cells #[Value.int IntKind.i64 (-1)] 3) := rfl
  have HW := Lib.hid hw
  clear hw
  rcases hc with ⟨h, rfl⟩ | ⟨h, h2, h3, rfl⟩ | ⟨h, h2, h3, rfl⟩ | ⟨h, h2, h3, rfl⟩ | ⟨h, h2, h3, rfl⟩
  all_goals
    go_enter Try.func4, Try.ntmps4
    go_wp2_with fail
    rw [← HW.out]
    refine (CL.out _ S0.out).mono ?_
    rintro e w1 ⟨rfl, cl, k1⟩
    have K1 := Lib.hid k1
    have cN := cl.hn.cell
    have cP := cl.hp.cell
    have cA := cl.ha.cell
    have cC : w1.cell? ⟨W.heap.size + 1, 1, none⟩ = some (.int .i64 2) := by rw [cell_of_row w1 (W.heap.size + 1) 1 _ _ _ cl.hs.h]; rfl
    clear k1 cl
    go_wp2_with fail
    refine (live20 _).mono ?_
    rintro e w2 ⟨rfl, b2⟩
    go_wp2_with fail
    go_ret
    have hB := SB.out.trans (K1.out.b W.heap.size (by first | omega | (simp; done) | (simp; omega)))
    exact ⟨rfl, hB.trans (b2.mono hB.size)⟩
set_option maxRecDepth 100000 in
set_option maxHeartbeats 4000000 in
theorem mainT (W : World) (a : Int) (w0 : -9223372036854775808 ≤ a ∧ a ≤ 9223372036854775807) (b : Int) (w1 : -9223372036854775808 ≤ b ∧ b ≤ 9223372036854775807) (v : Int)
   (hc : (b ≤ a ∧ v = 0) ∨ (a < b ∧ 0 ≤ a ∧ b - a < 1152921504606846976 ∧ v = b - a) ∨ (a < b ∧ 0 ≤ a ∧ 1152921504606846976 ≤ b - a ∧ v = 1152921504606846976) ∨ (a < b ∧ a < 0 ∧ b < 1152921504606846976 + a ∧ v = b - a) ∨ (a < b ∧ a < 0 ∧ 1152921504606846976 + a ≤ b ∧ v = 1152921504606846976)) :
    Calls Try.prog 4 #[.int .i64 a, .int .i64 b, .bool true] W fun e W' => e = .returned (.bool true) ∧ Below W.heap.size W W' := by
  have hv : gone a b = v := by
    unfold gone
    split
    · split <;> omega
    · omega
  have SB := Lib.hid (startB W a b)
  have S0 := Lib.hid (start W a b)
  have CL := Lib.hid (fun w h => clo_lap (W.heap.size + 1 + 1 + 1) (W.heap.size + 1 + 1) (W.heap.size + 1 + 1 + 1 + 1) (W.heap.size + 1) W.heap.size a b 0 (-1) w w0 w1 (by omega) (by omega) (by omega) (by omega) h)
  have NL := Lib.hid (fun w h => nil_lap (W.heap.size + 1) W.heap.size a b w w0 w1 (by omega) h)
  have IC := Lib.hid (fun w h => iface_nil_call (W.heap.size + 1 + 1 + 1) (W.heap.size + 1 + 1) (W.heap.size + 1 + 1 + 1 + 1) (W.heap.size + 1) W.heap.size a b 0 (-1) 2 w (by omega) (by omega) (by omega) h)
  have KP := Lib.hid (fun w' (s : Str w' (W.heap.size + 1) W.heap.size a b 2) (k : Kept (W5 W a b) w' [W.heap.size + 1]) => show Cl w' (W.heap.size + 1 + 1 + 1) (W.heap.size + 1 + 1) (W.heap.size + 1 + 1 + 1 + 1) (W.heap.size + 1) W.heap.size a b 0 (-1) 2 from ⟨(start W a b).hn.kept k (by simp; try omega), (start W a b).hp.kept k (by simp; try omega), (start W a b).ha.kept k (by simp; try omega), s⟩)
  rw [hv] at CL NL
  clear hv
  obtain ⟨a0, a1⟩ := w0
  obtain ⟨b0, b1⟩ := w1
  have hw : W5 W a b = ((((W.alloc (Obj.cells #[Value.int IntKind.i64 a, Value.int IntKind.i64 b] 3)).alloc (Obj.cells #[Value.slice (some { block := W.heap.size, off := 0 }) 2 2, Value.int IntKind.i64 0] 31)).alloc (Obj.cells #[Value.pointer (some { block := W.heap.size + 1, off := 0 })] 29)).alloc (Obj.cells #[Value.int IntKind.i64 0] 3)).alloc (Obj.cells #[Value.int IntKind.i64 (-1)] 3) := rfl
  have HW := Lib.hid hw
  clear hw
  rcases hc with ⟨h, rfl⟩ | ⟨h, h2, h3, rfl⟩ | ⟨h, h2, h3, rfl⟩ | ⟨h, h2, h3, rfl⟩ | ⟨h, h2, h3, rfl⟩
  all_goals
    go_enter Try.func4, Try.ntmps4
    go_wp2_with fail
    rw [← HW.out]
    refine (NL.out _ S0.out.hs).mono ?_
    rintro e w1 ⟨rfl, s1, k1⟩
    have K1 := Lib.hid k1
    have C1 := Lib.hid (KP.out _ s1 k1)
    have cP := C1.out.hp.cell
    have cC : w1.cell? ⟨W.heap.size + 1, 1, none⟩ = some (.int .i64 2) := by rw [cell_of_row w1 (W.heap.size + 1) 1 _ _ _ s1.h]; rfl
    clear k1 s1
    go_wp2_with fail
    refine (IC.out _ C1.out).mono ?_
    rintro e w2 ⟨rfl, cl, k2⟩
    have K2 := Lib.hid k2
    have cN := cl.hn.cell
    clear cl k2 cP cC
    go_wp2_with fail
    refine (nil_nil _).mono ?_
    rintro e w3 ⟨rfl, rfl⟩
    go_wp2_with fail
    refine (live20 _).mono ?_
    rintro e w3 ⟨rfl, b2⟩
    go_wp2_with fail
    go_ret
    have hB := (SB.out.trans (K1.out.b W.heap.size (by simp))).trans (K2.out.b W.heap.size (by first | omega | (simp; done) | (simp; omega)))
    exact ⟨rfl, hB.trans (b2.mono hB.size)⟩
theorem walk (W : World) (a0 : Int) (w0 : -9223372036854775808 ≤ a0 ∧ a0 ≤ 9223372036854775807) (a1 : Int) (w1 : -9223372036854775808 ≤ a1 ∧ a1 ≤ 9223372036854775807) (a2 : Bool) :
    Calls Try.prog 4 #[.int .i64 a0, .int .i64 a1, .bool a2] W fun e W' => e = .returned (.bool true) ∧ Below W.heap.size W W' := by
  have hg : (a1 ≤ a0 ∧ gone a0 a1 = 0) ∨ (a0 < a1 ∧ 0 ≤ a0 ∧ a1 - a0 < 1152921504606846976 ∧ gone a0 a1 = a1 - a0) ∨ (a0 < a1 ∧ 0 ≤ a0 ∧ 1152921504606846976 ≤ a1 - a0 ∧ gone a0 a1 = 1152921504606846976) ∨ (a0 < a1 ∧ a0 < 0 ∧ a1 < 1152921504606846976 + a0 ∧ gone a0 a1 = a1 - a0) ∨ (a0 < a1 ∧ a0 < 0 ∧ 1152921504606846976 + a0 ≤ a1 ∧ gone a0 a1 = 1152921504606846976) := by
    unfold gone
    split
    · split <;> omega
    · omega
  cases a2
  · exact mainF W a0 w0 a1 w1 _ hg
  · exact mainT W a0 w0 a1 w1 _ hg
end tickLaps
end Go.Proofs.Ytlbkmheggdgfoaa
