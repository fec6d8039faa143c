/- The law PermTells' two readers: follows, applies; the inverse in numbers. -/
import Derived.Test.YtkfjmmhcbbfhdaaPerm7
import Derived.Test.YtkfjmmhcbbfhdaaPerm5
namespace Go.Proofs.Ytkfjmmhcbbfhdaa
open Go.ChangeShapes Go.WideShapes Go.ChangeAt Go.RowKit
set_option linter.unusedVariables false
theorem cnt_ex {ps : List Int} {v : Int} : ∀ {k : Nat}, cnt ps v k ≠ 0 → ∃ j, j < k ∧ ps.getD j 0 = v
  | k + 1, h => by
    by_cases e : ps.getD k 0 = v
    · exact ⟨k, by omega, e⟩
    · rw [cnt, if_neg e] at h
      obtain ⟨j, hj, e2⟩ := cnt_ex h
      exact ⟨j, by omega, e2⟩
theorem inv_back {ps : List Int} {n k : Nat} (hg : rgt ps n n = true) (hk : k < n) : invl ps (ps.getD k 0) n = k :=
  invl_at rfl n hk (fun j h1 h2 e => rgt_apart hg k j h1 h2 e.symm)
theorem inv_ex {ps : List Int} {n v : Nat} (hg : rgt ps n n = true) (hv : v < n) : ∃ k, k < n ∧ ps.getD k 0 = v ∧ invl ps v n = k := by
  obtain ⟨k, hk, e⟩ := cnt_ex (ps := ps) (v := (v : Int)) (k := n) (by rw [(rgt_cnt ps n).1 hg v hv]; omega)
  exact ⟨k, hk, e, by rw [← e]; exact inv_back hg hk⟩
theorem inverl_at (ps : List Int) (n v : Nat) (hv : v < n) : (inverl ps n).getD v 0 = ((invl ps v n : Nat) : Int) := tab_at n (fun v => ((invl ps v n : Nat) : Int)) v hv
theorem inverl_right {ps : List Int} {n : Nat} (hg : rgt ps n n = true) : rgt (inverl ps n) n n = true := by
  apply rgt_of
  · intro j hj
    rw [inverl_at ps n j hj]
    obtain ⟨k, hk, _, e⟩ := inv_ex hg hj
    rw [e]; omega
  · intro i j hij hj e
    rw [inverl_at ps n j hj, inverl_at ps n i (by omega)] at e
    obtain ⟨k, hk, e1, e2⟩ := inv_ex hg hj
    obtain ⟨k2, hk2, e3, e4⟩ := inv_ex (v := i) hg (by omega)
    rw [e2, e4] at e
    have : k = k2 := by omega
    subst this
    rw [e1] at e3
    omega
theorem c_follows (p q a : Option Addr) (n m l c d f : Nat) (z : Int) (ps qs : List Int) (W : World) (hp : RowI W p n ps) (hq : RowI W q m qs) (h : AftOk W a l z n m ps qs) :
    Calls Try.prog 44 #[.slice p n c, .slice q m d, .slice a l f, .int .i64 z] W fun e w' => e = .returned (.bool true) ∧ Below W.heap.size W w' := by
  have RQ := r8_right q m d qs W hq
  have hs1 := hp.small
  have hs2 := hq.small
  rcases h with ⟨hh, rfl, rfl⟩ | ⟨hh, hne, rfl, rfl⟩ | ⟨hh, rfl, e2, rfl, hr⟩
  · rw [hh] at RQ
    have RQ := Lib.hid RQ
    clear hp hq hh
    go_enter Try.func44, Try.ntmps44
    go_wp2_with fail
    refine RQ.out.mono ?_
    rintro e w1 ⟨rfl, rfl⟩
    go_wp2_with fail
    go_ret
    exact ⟨rfl, Below.refl _ _⟩
  · rw [hh] at RQ
    have RQ := Lib.hid RQ
    have hd : ((n : Int) != (m : Int)) = true := by simp; omega
    have hd2 : (n != m) = true := by simp; omega
    clear hp hq hh
    go_enter Try.func44, Try.ntmps44
    go_wp2_with fail
    refine RQ.out.mono ?_
    rintro e w1 ⟨rfl, rfl⟩
    go_wp2_with fail
    go_ret
    exact ⟨rfl, Below.refl _ _⟩
  · obtain rfl := e2.symm
    rw [hh] at RQ
    have RQ := Lib.hid RQ
    have HIN := Lib.hid (rgt_in hh)
    have HX := Lib.hid hp
    have HY := Lib.hid hq
    have HR := Lib.hid hr
    have MA := Lib.hid (fun k hk => movel_at qs ps n k hk)
    clear hp hq hh hr
    generalize movel qs ps n = ys at *
    go_enter Try.func44, Try.ntmps44
    go_wp2_with fail
    refine RQ.out.mono ?_
    rintro e w1 ⟨rfl, rfl⟩
    go_wp2_with fail
    go_loopw [9] (fun i wr => ∃ k : Nat, k ≤ n ∧ i = .int .i64 k ∧ Below W.heap.size W wr) (fun i _ => n - (intOf i).toNat)
    case atStart => exact ⟨0, Nat.zero_le _, rfl, Below.refl _ _⟩
    case round =>
      obtain ⟨k, hk, rfl, hB⟩ := hrel
      by_cases hlt : k < n
      · obtain ⟨b, off, rfl, hb, hc0, x0, x1⟩ := HY.out.cell hlt
        have hc : wr.cell? ⟨b, off + k, none⟩ = some (.int .i64 (qs.getD k 0)) := (hB.cell (p := ⟨b, off + k, none⟩) hb).trans hc0
        obtain ⟨g0, g1⟩ := HIN.out k hlt
        have MA1 := MA.out k hlt
        obtain ⟨b3, off3, rfl, hb3, he0, u0, u1⟩ := HR.out.cell hlt
        have he : wr.cell? ⟨b3, off3 + k, none⟩ = some (.int .i64 (ys.getD k 0)) := (hB.cell (p := ⟨b3, off3 + k, none⟩) hb3).trans he0
        clear hc0 he0
        obtain ⟨x, hx⟩ : ∃ x, qs.getD k 0 = x := ⟨_, rfl⟩
        rw [hx] at hc x0 x1 g0 g1 MA1
        obtain ⟨v, rfl⟩ : ∃ v : Nat, x = v := ⟨x.toNat, by omega⟩
        rw [Int.toNat_natCast] at MA1
        rw [MA1] at he u0 u1
        have hv : v < n := by omega
        obtain ⟨b2, off2, rfl, hb2, hd0, y0, y1⟩ := HX.out.cell hv
        have hd : wr.cell? ⟨b2, off2 + v, none⟩ = some (.int .i64 (ps.getD v 0)) := (hB.cell (p := ⟨b2, off2 + v, none⟩) hb2).trans hd0
        have dd : decide ((k : Int) < (n : Int)) = true := decide_eq_true (by omega)
        have hv0 : (0 : Int) ≤ (v : Int) := by omega
        have hv1 : (v : Int) < (n : Int) := by omega
        clear hx hd0 MA1
        generalize ps.getD v 0 = y at *
        have hyy : (y != y) = false := by simp
        go_wp2_with fail
        go_quiet (fail)
        go_wp2_with fail
        go_roundw
        case rel => exact ⟨k + 1, by omega, by go_num, below_drewN hB _⟩
        case measure => (first | (simp [intOf]; done) | (simp [intOf]; omega) | (simp only [intOf]; omega))
      · obtain rfl : k = n := by omega
        have dd : decide ((k : Int) < (k : Int)) = false := decide_eq_false (by omega)
        go_wp2_with fail
        go_ret
        exact ⟨rfl, hB⟩
theorem c_applies (p q a : Option Addr) (n m l c d f : Nat) (z : Int) (ps xs : List Int) (W : World) (hp : RowI W p n ps) (hq : Row W q m xs) (hg : rgt ps n n = true) (h : AppOk W a l z n m ps xs) :
    Calls Try.prog 45 #[.slice p n c, .slice q m d, .slice a l f, .int .i64 z] W fun e w' => e = .returned (.bool true) ∧ Below W.heap.size W w' := by
  have hs1 := hp.small
  have hs2 := hq.small
  rcases h with ⟨hne, rfl, rfl⟩ | ⟨rfl, e2, rfl, hr⟩
  · have hd : ((m : Int) != (n : Int)) = true := by simp; omega
    have hd2 : (m != n) = true := by simp; omega
    clear hp hq hg
    go_enter Try.func45, Try.ntmps45
    go_wp2_with fail
    go_ret
    exact ⟨rfl, Below.refl _ _⟩
  · obtain rfl := e2.symm
    have HIN := Lib.hid (rgt_in hg)
    have HX := Lib.hid hp
    have HY := Lib.hid hq
    have HR := Lib.hid hr
    have MA := Lib.hid (fun k hk => movel_at ps xs n k hk)
    clear hp hq hg hr
    generalize movel ps xs n = ys at *
    go_enter Try.func45, Try.ntmps45
    go_wp2_with fail
    go_loopw [9] (fun i wr => ∃ k : Nat, k ≤ n ∧ i = .int .i64 k ∧ Below W.heap.size W wr) (fun i _ => n - (intOf i).toNat)
    case atStart => exact ⟨0, Nat.zero_le _, rfl, Below.refl _ _⟩
    case round =>
      obtain ⟨k, hk, rfl, hB⟩ := hrel
      by_cases hlt : k < n
      · obtain ⟨b, off, rfl, hb, hc0, x0, x1⟩ := HX.out.cell hlt
        have hc : wr.cell? ⟨b, off + k, none⟩ = some (.int .i64 (ps.getD k 0)) := (hB.cell (p := ⟨b, off + k, none⟩) hb).trans hc0
        obtain ⟨g0, g1⟩ := HIN.out k hlt
        have MA1 := MA.out k hlt
        obtain ⟨b3, off3, rfl, hb3, he0, u0, u1⟩ := HR.out.cell hlt
        have he : wr.cell? ⟨b3, off3 + k, none⟩ = some (.int .u64 (ys.getD k 0)) := (hB.cell (p := ⟨b3, off3 + k, none⟩) hb3).trans he0
        clear hc0 he0
        obtain ⟨x, hx⟩ : ∃ x, ps.getD k 0 = x := ⟨_, rfl⟩
        rw [hx] at hc x0 x1 g0 g1 MA1
        obtain ⟨v, rfl⟩ : ∃ v : Nat, x = v := ⟨x.toNat, by omega⟩
        rw [Int.toNat_natCast] at MA1
        rw [MA1] at he u0 u1
        have hv : v < n := by omega
        obtain ⟨b2, off2, rfl, hb2, hd0, y0, y1⟩ := HY.out.cell hv
        have hd : wr.cell? ⟨b2, off2 + v, none⟩ = some (.int .u64 (xs.getD v 0)) := (hB.cell (p := ⟨b2, off2 + v, none⟩) hb2).trans hd0
        have dd : decide ((k : Int) < (n : Int)) = true := decide_eq_true (by omega)
        have hv0 : (0 : Int) ≤ (v : Int) := by omega
        have hv1 : (v : Int) < (n : Int) := by omega
        clear hx hd0 MA1
        generalize xs.getD v 0 = y at *
        have hyy : (y != y) = false := by simp
        go_wp2_with fail
        go_quiet (fail)
        go_wp2_with fail
        go_roundw
        case rel => exact ⟨k + 1, by omega, by go_num, below_drewN hB _⟩
        case measure => (first | (simp [intOf]; done) | (simp [intOf]; omega) | (simp only [intOf]; omega))
      · obtain rfl : k = n := by omega
        have dd : decide ((k : Int) < (k : Int)) = false := decide_eq_false (by omega)
        go_wp2_with fail
        go_ret
        exact ⟨rfl, hB⟩
end Go.Proofs.Ytkfjmmhcbbfhdaa
