/- Put together by program (merge.py): Node. -/
import Derived.Test.YtofgkhoemgimeaaD4
import Derived.Test.YtofgkhoemgimeaaD5
import Derived.Test.YtofgkhoemgimeaaD6
/- Is a node right by itself? package valid's Node. -/
namespace Go.Proofs.Ytofgkhoemgimeaa
open Go.ChangeShapes Go.WideShapes Go.ChangeAt Go.RowKit
set_option linter.unusedVariables false
/-- n is the product of two numbers, both 2 at least. -/
def prodb (n a b : Int) : Bool := decide (2 ≤ a) && decide (2 ≤ b) && decide (n % a = 0) && decide (n / a = b)
theorem tmod_zero (n a : Int) (h : 2 ≤ a) : (n.tmod a == 0) = decide (n % a = 0) := by
  rw [Bool.eq_iff_iff]
  simp only [beq_iff_eq, decide_eq_true_iff]
  constructor
  · intro e; exact Int.emod_eq_zero_of_dvd (Int.dvd_of_tmod_eq_zero e)
  · intro e; exact Int.tmod_eq_zero_of_dvd (Int.dvd_of_emod_eq_zero e)
theorem tdiv_dvd (n a : Int) (h : n % a = 0) : n.tdiv a = n / a := Int.tdiv_eq_ediv_of_dvd (Int.dvd_of_emod_eq_zero h)
/-- Is a node right, of kind k and size n, with m kids, the first two of them of sizes a and b? -/
def nodeB (k n : Int) (m : Nat) (a b : Int) : Bool :=
  if k = 1 then decide (m = 0) && decide (n ≤ 64) && hasb n
  else if k = 2 then decide (m = 0) && decide (2 ≤ n) && few n
  else if k = 3 then decide (m = 0) && decide (2 ≤ n) && hasp n
  else if k = 4 then decide (m = 2) && hasb n && prodb n a b
  else if k = 5 then decide (m = 2) && hasb n && prodb n a b && decide (gcdz a b = 1)
  else if k = 6 then decide (m = 1) && decide (3 ≤ n) && hasb n && prb n && decide (a = n - 1)
  else if k = 7 then decide (m = 1) && decide (2 ≤ n) && hasb n && hasp a && decide (2 * n - 1 ≤ a)
  else false
theorem node_m {k n : Int} {m : Nat} {a b : Int} (h : 3 ≤ m) : nodeB k n m a b = false := by
  unfold nodeB
  rw [decide_eq_false (show ¬ m = 0 by omega), decide_eq_false (show ¬ m = 1 by omega), decide_eq_false (show ¬ m = 2 by omega)]
  simp
/-- The first kid's size. -/
theorem Kids.size {w : World} {lim m c : Nat} {a : Option Addr} {f : Fo} (h : Kids w lim (.slice a m c) f) {i : Nat} (hi : i < m) : ∃ b o, a = some ⟨b, o, none⟩ ∧ b < lim ∧ w.cell? ⟨b, o + i * 3 + 1, none⟩ = some (.int .i64 (f.n i)) := by
  obtain ⟨b, o, v, h1, h2, _, h3, _⟩ := h.get hi
  exact ⟨b, o, h1, h2, h3⟩
theorem quiet_l {P : Program} {f : FuncId} {args : Array Value} {w : World} {n : Nat} {v : Value}
    (h : Calls P f args (w.drewN n) fun e w' => e = .returned v ∧ w.drewN n = w') : Calls P f args (w.drewN n) fun e w' => e = .returned v ∧ ∃ m, w' = w.drewN m :=
  h.mono fun _ _ ⟨he, hm⟩ => ⟨he, n, hm.symm⟩
theorem quiet_al {P : Program} {f : FuncId} {args : Array Value} {w : World} {a n : Nat} {v : Value}
    (h : Calls P f args (w.drewN (a + n)) fun e w' => e = .returned v ∧ w.drewN (a + n) = w') : Calls P f args (w.drewN (a + n)) fun e w' => e = .returned v ∧ ∃ m, w' = w.drewN (a + m) :=
  h.mono fun _ _ ⟨he, hm⟩ => ⟨he, n, hm.symm⟩
theorem quiet_aq {P : Program} {f : FuncId} {args : Array Value} {w : World} {a n : Nat} {v : Value}
    (h : Calls P f args (w.drewN (a + n)) fun e w' => e = .returned v ∧ ∃ q, w' = (w.drewN (a + n)).drewN q) : Calls P f args (w.drewN (a + n)) fun e w' => e = .returned v ∧ ∃ m, w' = w.drewN (a + m) :=
  h.mono fun _ _ ⟨he, q, hm⟩ => ⟨he, n + q, by rw [hm, World.drewN_drewN, Nat.add_assoc]⟩
end Go.Proofs.Ytofgkhoemgimeaa
