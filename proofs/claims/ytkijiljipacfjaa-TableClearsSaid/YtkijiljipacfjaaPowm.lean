/- Powers modulo P, reckoned by squares; the powers of 7 that matter. Plain numbers. -/
import Derived.Test.YtkijiljipacfjaaPrime
namespace Go.Proofs.Ytkijiljipacfjaa.Fld

/-- b to the e modulo P, e below 2^f. -/
def pm (P : Nat) : Nat → Nat → Nat → Nat
  | 0, _, _ => 1 % P
  | f + 1, b, e => if e % 2 = 1 then pm P f (b * b % P) (e / 2) * b % P else pm P f (b * b % P) (e / 2)
theorem pm_eq (P : Nat) : ∀ (f b e : Nat), e < 2 ^ f → pm P f b e = b ^ e % P
  | 0, b, e, h => by
    have : e = 0 := by simp at h; exact h
    subst this; simp [pm]
  | f + 1, b, e, h => by
    have hh : e / 2 < 2 ^ f := by rw [Nat.pow_succ] at h; omega
    have ih := pm_eq P f (b * b % P) (e / 2) hh
    have e2 : (b * b % P) ^ (e / 2) % P = b ^ (2 * (e / 2)) % P := by
      rw [← Nat.pow_mod, ← Nat.pow_two, ← Nat.pow_mul]
    unfold pm
    rw [ih, e2]
    split
    · rename_i ho
      have he : 2 * (e / 2) + 1 = e := by omega
      have := Nat.pow_succ (n := b) (m := 2 * (e / 2))
      rw [Nat.succ_eq_add_one, he] at this
      rw [this, Nat.mod_mul_mod]
    · have he : 2 * (e / 2) = e := by omega
      rw [he]

theorem fm_natpow (b e v : Nat) (f : Nat) (h : e < 2 ^ f) (hv : pm Pn f b e = v) : fm ((b : Int) ^ e) = (v : Int) := by
  rw [← Int.natCast_pow, fm_cast, ← pm_eq Pn f b e h, hv]

end Go.Proofs.Ytkijiljipacfjaa.Fld
