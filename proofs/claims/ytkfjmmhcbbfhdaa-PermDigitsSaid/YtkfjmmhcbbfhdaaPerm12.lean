/- Package perm: Digits. -/
import Derived.Test.YtkfjmmhcbbfhdaaPerm9
import Derived.Test.YtkfjmmhcbbfhdaaPerm11
namespace Go.Proofs.Ytkfjmmhcbbfhdaa
open Go.ChangeShapes Go.WideShapes Go.ChangeAt Go.RowKit
set_option linter.unusedVariables false
def dgl (rs : List Nat) : List Int := tab (prd rs) fun k => ((dg rs k : Nat) : Int)
theorem dgl_len (rs : List Nat) : (dgl rs).length = prd rs := tab_len _ _
theorem dgl_at (rs : List Nat) (k : Nat) (h : k < prd rs) : (dgl rs).getD k 0 = ((dg rs k : Nat) : Int) := tab_at (prd rs) (fun k => ((dg rs k : Nat) : Int)) k h
def nats (xs : List Int) : List Nat := xs.map Int.toNat
theorem nats_at (xs : List Int) (k : Nat) : (nats xs).getD k 0 = (xs.getD k 0).toNat := by
  unfold nats
  simp only [List.getD, List.getElem?_map]
  cases xs[k]? <;> rfl
theorem take_more (rs : List Nat) (k : Nat) (h : k < rs.length) : rs.take (k + 1) = rs.take k ++ [rs.getD k 0] := by
  rw [List.take_succ_eq_append_getElem h]; simp [List.getD, h]
theorem prd_one (r : Nat) : prd [r] = r := by simp [prd]
/-- What the first k make, in numbers. -/
theorem pz_prd {xs : List Int} : ∀ {k N : Nat}, k ≤ xs.length → pz xs k = some N → prd ((nats xs).take k) = N ∧ (∀ i, i < k → 2 ≤ xs.getD i 0) ∧ 1 ≤ N ∧ N ≤ 16777216
  | 0, N, _, h => by
    obtain rfl : 1 = N := by simpa [pz] using h
    exact ⟨by simp [prd], fun i hi => by omega, by omega, by omega⟩
  | k + 1, N, hk, h => by
    rw [pz] at h
    cases hp : pz xs k with
    | none => rw [hp] at h; cases h
    | some M =>
      rw [hp] at h
      obtain ⟨e1, e2, e3, e4⟩ := pz_prd (by omega) hp
      by_cases c : 2 ≤ xs.getD k 0 ∧ xs.getD k 0 * (M : Int) ≤ 16777216
      · have h : (if 2 ≤ xs.getD k 0 ∧ xs.getD k 0 * (M : Int) ≤ 16777216 then some (M * (xs.getD k 0).toNat) else none) = some N := h
        rw [if_pos c] at h
        obtain rfl : M * (xs.getD k 0).toNat = N := by simpa using h
        refine ⟨?_, ?_, Nat.mul_pos (by omega) (by omega), ?_⟩
        · rw [take_more _ _ (by unfold nats; rw [List.length_map]; omega), prd_app, e1, prd_one, nats_at]
        · intro i hi
          by_cases e : i = k
          · rw [e]; exact c.1
          · exact e2 i (by omega)
        · have := c.2
          obtain ⟨v, hv⟩ : ∃ v : Nat, xs.getD k 0 = v := ⟨(xs.getD k 0).toNat, by omega⟩
          rw [hv, mul_cast, Nat.mul_comm] at this
          rw [hv, Int.toNat_natCast]; omega
      · have h : (if 2 ≤ xs.getD k 0 ∧ xs.getD k 0 * (M : Int) ≤ 16777216 then some (M * (xs.getD k 0).toNat) else none) = some N := h
        rw [if_neg c] at h; cases h
theorem dig_step {rs : List Nat} {k L r : Nat} (hp : ∀ i, i < rs.length → 2 ≤ rs.getD i 0) (hk : k < rs.length) (hL : prd (rs.take k) = L) (hr : rs.getD k 0 = r) :
    ∃ s, prd rs / r / L = s ∧ 0 < L ∧ prd (rs.take (k + 1)) = r * L ∧ r * L ≤ prd rs ∧ ∀ d i, d < r → i < L → (dgl rs).getD (d * L + i) 0 = (dgl rs).getD i 0 + ((d * s : Nat) : Int) ∧ 0 ≤ (dgl rs).getD i 0 ∧ (dgl rs).getD i 0 + ((d * s : Nat) : Int) < ((prd rs : Nat) : Int) ∧ d * L + i < r * L := by
  have hall : ∀ x ∈ rs, 0 < x := by
    intro x hx
    obtain ⟨i, hi, rfl⟩ := List.getElem_of_mem hx
    have := hp i hi
    simp [List.getD, hi] at this
    omega
  have e : rs = rs.take k ++ r :: rs.drop (k + 1) := by
    rw [← hr]
    conv => lhs; rw [← List.take_append_drop k rs]
    congr 1
    rw [List.drop_eq_getElem_cons hk]; simp [List.getD, hk]
  have hN : prd rs = L * (r * prd (rs.drop (k + 1))) := by
    conv => lhs; rw [e]
    rw [prd_app, hL, prd]
  have hr2 := hp k hk
  rw [hr] at hr2
  have hp1 : ∀ x ∈ rs.take k, 0 < x := fun x hx => hall x (List.mem_of_mem_take hx)
  have h0 : 0 < L := by rw [← hL]; exact prd_pos _ hp1
  have hP : 0 < prd (rs.drop (k + 1)) := prd_pos _ (fun x hx => hall x (List.mem_of_mem_drop hx))
  have ST := fun d i hd hi => dg_step (rs.take k) r (rs.drop (k + 1)) d i hp1 hd (by rw [hL]; exact hi)
  rw [← e, hL] at ST
  have LT := dg_lt rs hall
  obtain ⟨s, hs⟩ : ∃ s, prd (rs.drop (k + 1)) = s := ⟨_, rfl⟩
  rw [hs] at hN ST hP
  have hN2 : prd rs = r * L * s := by rw [hN, ← Nat.mul_assoc, Nat.mul_comm L r]
  have hle : r * L ≤ prd rs := by rw [hN2]; exact Nat.le_mul_of_pos_right _ hP
  refine ⟨s, ?_, h0, ?_, hle, ?_⟩
  · rw [hN2, Nat.mul_assoc, Nat.mul_div_cancel_left _ (by omega), Nat.mul_div_cancel_left _ h0]
  · rw [take_more rs k hk, prd_app, hL, hr, prd_one, Nat.mul_comm]
  · intro d i hd hi
    have hlt : d * L + i < r * L := by
      have := Nat.mul_le_mul_right L (show d + 1 ≤ r from hd)
      rw [Nat.succ_mul] at this; omega
    have h1 : L ≤ r * L := Nat.le_mul_of_pos_left _ (by omega)
    rw [dgl_at rs _ (by omega), dgl_at rs i (by omega), ST d i hd hi]
    have := LT (d * L + i)
    rw [ST d i hd hi] at this
    exact ⟨by omega, by omega, by omega, hlt⟩
theorem dgl_wf (rs : List Nat) (hall : ∀ r ∈ rs, 0 < r) (h : prd rs ≤ 16777216) : ∀ z ∈ dgl rs, (Lit.int .i64 z).wf = true := by
  intro z hz
  unfold dgl tab at hz
  obtain ⟨k, hk, rfl⟩ := List.mem_map.1 hz
  have := dg_lt rs hall k
  exact WalkArith.wf_i64 ⟨by omega, by omega⟩
end Go.Proofs.Ytkfjmmhcbbfhdaa
