/- Reference 8's Digits. -/
import Derived.Test.YtkfjmmhcbbfhdaaPerm13
import Derived.Test.YtkfjmmhcbbfhdaaOwnm
namespace Go.Proofs.Ytkfjmmhcbbfhdaa
open Go.ChangeShapes Go.WideShapes Go.ChangeAt Go.RowKit
set_option linter.unusedVariables false
theorem RowI.drop1 {w : World} {b off n : Nat} {x : Int} {xs : List Int} (h : RowI w (some ⟨b, off, none⟩) (n + 1) (x :: xs)) : RowI w (some ⟨b, off + 1, none⟩) n xs := by
  have hl := h.len
  rw [List.length_cons] at hl
  refine ⟨by omega, ?_, fun z hz => h.wf z (List.mem_cons_of_mem _ hz), by have := h.small; omega⟩
  rcases h.reads with hn | ⟨b', off', e, hb, hc⟩
  · cases hn
  · cases e
    refine .inr ⟨b, off + 1, rfl, hb, fun i hi => ?_⟩
    rw [Nat.add_assoc, hc (1 + i) (by rw [List.length_cons]; omega), Nat.add_comm 1 i]
    simp [List.getD]
theorem dig_ref {r : Nat} {rs : List Nat} {i d : Nat} (hi : i < prd rs) (hd : d < r) (hp : ∀ x ∈ rs, 0 < x) :
    (dgl (r :: rs)).getD (i * r + d) 0 = ((d * prd rs : Nat) : Int) + (dgl rs).getD i 0 ∧ i * r + d < prd (r :: rs) ∧ 0 ≤ (dgl rs).getD i 0 ∧ (dgl rs).getD i 0 < (prd rs : Nat) ∧ d * prd rs ≤ prd (r :: rs) ∧ ((d * prd rs : Nat) : Int) + (dgl rs).getD i 0 < (prd (r :: rs) : Nat) := by
  have hlt : i * r + d < prd (r :: rs) := by
    have := Nat.mul_le_mul_right r (show i + 1 ≤ prd rs from hi)
    rw [Nat.succ_mul, Nat.mul_comm (prd rs)] at this
    rw [prd]; omega
  obtain ⟨h1, h2⟩ := flat_parts (a := r) (i := d) (j := i) hd
  have hl := dg_lt rs hp i
  have hm : d * prd rs + prd rs ≤ prd (r :: rs) := by
    have := Nat.mul_le_mul_right (prd rs) (show d + 1 ≤ r from hd)
    rw [Nat.succ_mul] at this
    rw [prd]; exact this
  rw [dgl_at _ _ hlt, dgl_at _ _ hi, dg, h1, h2]
  refine ⟨by omega, hlt, by omega, by omega, by omega, by omega⟩
set_option maxRecDepth 100000 in
theorem r8_digits0 (p : Option Addr) (c : Nat) (W : World) :
    Calls Try.prog 60 #[.slice p 0 c] W (GivesI W 1 (dgl [])) := by
  have R0 : RowI (W.alloc (.cells #[.int .i64 0] 3)) (some ⟨W.heap.size, 0, none⟩) 1 (dgl []) :=
    RowI.of_at (T := 3) (by unfold RowAtI; rw [heap_alloc_new]; rfl) (dgl_wf [] (fun r hr => by cases hr) (by decide)) rfl (by omega)
  have R0 := Lib.hid R0
  have hB0 := (Below.refl W.heap.size W).alloc (Nat.le_refl _) (.cells #[.int .i64 0] 3)
  generalize dgl [] = ys at *
  go_enter Try.func60, Try.ntmps60
  go_wp2_with fail
  go_ret
  exact ⟨_, _, rfl, R0.out, hB0⟩
set_option maxRecDepth 100000 in
theorem r8_digits1 (r : Nat) (rs : List Nat) (b off n c : Nat) (W : World) (hr2 : 2 ≤ r) (hp : ∀ x ∈ rs, 2 ≤ x) (hN : prd (r :: rs) ≤ 16777216) (hn : n = rs.length) (hc : n + 1 ≤ c)
    (hr : RowI W (some ⟨b, off, none⟩) (n + 1) ((r :: rs).map fun (x : Nat) => (x : Int)))
    (ih : ∀ W' p c', n ≤ c' → RowI W' p n (rs.map fun (x : Nat) => (x : Int)) → Calls Try.prog 60 #[.slice p n c'] W' (GivesI W' (prd rs) (dgl rs))) :
    Calls Try.prog 60 #[.slice (some ⟨b, off, none⟩) (n + 1) c] W (GivesI W (prd (r :: rs)) (dgl (r :: rs))) := by
  have hs := hr.small
  have HIH : Hid (Calls Try.prog 60 #[.slice (some ⟨b, if c = 1 then off else off + 1, none⟩) n (c - 1)] W (GivesI W (prd rs) (dgl rs))) := by
    refine Lib.hid (ih W _ _ (by omega) ?_)
    by_cases h : c = 1
    · obtain rfl : n = 0 := by omega
      have : rs = [] := List.length_eq_zero_iff.1 hn.symm
      subst this
      exact ⟨rfl, .inl rfl, fun x hx => (by cases hx), by omega⟩
    · rw [if_neg h]; exact hr.drop1
  obtain ⟨b', off', e, hb, hc0, _⟩ := hr.cell (k := 0) (by omega)
  cases e
  have hc0 : W.cell? ⟨b, off, none⟩ = some (.int .i64 (r : Int)) := hc0
  have hp0 : ∀ x ∈ rs, 0 < x := fun x hx => by have := hp x hx; omega
  have HD := Lib.hid (fun i d hi hd => dig_ref (r := r) (rs := rs) (i := i) (d := d) hi hd hp0)
  have hrN : r ≤ prd (r :: rs) := by rw [prd]; exact Nat.le_mul_of_pos_right _ (prd_pos rs hp0)
  have hLN : prd rs ≤ prd (r :: rs) := by rw [prd]; exact Nat.le_mul_of_pos_left _ (by omega)
  have YL := Lib.hid (dgl_len (r :: rs))
  have YW := Lib.hid (dgl_wf (r :: rs) (fun x hx => by rcases List.mem_cons.1 hx with h | h; omega; exact hp0 x h) hN)
  have HE := Lib.hid (show prd rs * r = prd (r :: rs) by rw [prd, Nat.mul_comm])
  have MS := Lib.hid (fun i => (show i * r + r = (i + 1) * r by rw [Nat.succ_mul]))
  have ML := Lib.hid (fun i (hi : i < prd rs) => (show i * r + r ≤ prd (r :: rs) by
    have := Nat.mul_le_mul_right r (show i + 1 ≤ prd rs from hi)
    rw [Nat.succ_mul, Nat.mul_comm (prd rs)] at this
    exact this))
  have hN0 := hN
  clear ih hr hp hp0
  generalize dgl (r :: rs) = ys at *
  generalize prd (r :: rs) = N at *
  generalize dgl rs = zs at *
  generalize prd rs = L at *
  clear hn
  have e0 : (((n + 1 : Nat) : Int) == 0) = false := by simp; omega
  have e0' : ((n : Int) + 1 == 0) = false := by simp; omega
  have d0 : decide (1 ≤ n + 1) = true := decide_eq_true (by omega)
  by_cases hc1 : c = 1
  · subst hc1
    obtain rfl : n = 0 := by omega
    rw [if_pos rfl] at HIH
    go_enter Try.func60, Try.ntmps60
    go_wp2_with fail
    refine (HIH.out).mono ?_
    rintro e w1 ⟨q, kk, rfl, RQ, b1⟩
    have RQ := Lib.hid RQ
    have hc1 : w1.cell? ⟨b, off, none⟩ = some (.int .i64 (r : Int)) := (b1.cell (p := ⟨b, off, none⟩) hb).trans hc0
    have hb1 : b < w1.heap.size := by have := b1.size; omega
    clear HIH
    go_wp2_with fail
    go_loopw [4, 5] (fun v x wr => ∃ i : Nat, i ≤ L ∧ x = .int .i64 i ∧ Hid (Owns wr w1.heap.size 3 .i64 v (upto ys (i * r))) ∧ Below w1.heap.size w1 wr) (fun _ x _ => L - (intOf x).toNat)
    case atStart => exact ⟨0, Nat.zero_le _, rfl, Lib.hid (by rw [Nat.zero_mul]; exact Owns.nil _ _ _ _), Below.refl _ _⟩
    case round =>
      obtain ⟨i, hi, rfl, HO, hB⟩ := hrel
      by_cases hlt : i < L
      · have dd : decide ((i : Int) < (L : Int)) = true := decide_eq_true (by omega)
        have HD1 := Lib.hid (fun d hd => HD.out i d hlt hd)
        have MS1 := Lib.hid (MS.out i)
        have ML1 := ML.out i hlt
        obtain ⟨b2, off2, rfl, hb2, hz0, z1, z2⟩ := RQ.out.cell hlt
        obtain ⟨D, hD⟩ : ∃ D, i * r = D := ⟨_, rfl⟩
        rw [hD] at HD1 MS1 ML1 HO
        clear hD
        go_wp2_with fail
        go_loopw [4, 6] (fun v x wr => ∃ d : Nat, d ≤ r ∧ x = .int .i64 d ∧ Hid (Owns wr w1.heap.size 3 .i64 v (upto ys (D + d))) ∧ Below w1.heap.size w1 wr) (fun _ x _ => r - (intOf x).toNat)
        case atStart => exact ⟨0, Nat.zero_le _, rfl, HO, hB⟩
        case round =>
          clear HO hB
          obtain ⟨d, hd, rfl, HO, hB⟩ := hrel
          have hcr : wr.cell? ⟨b, off, none⟩ = some (.int .i64 (r : Int)) := (hB.cell (p := ⟨b, off, none⟩) hb1).trans hc1
          have hcz : wr.cell? ⟨b2, off2 + i, none⟩ = some (.int .i64 (zs.getD i 0)) := (hB.cell (p := ⟨b2, off2 + i, none⟩) hb2).trans hz0
          by_cases hlt2 : d < r
          · obtain ⟨e1, e2, e3, e4, e5, e6⟩ := HD1.out d hlt2
            have dd2 : decide ((d : Int) < (r : Int)) = true := decide_eq_true (by omega)
            obtain ⟨E, hE⟩ : ∃ E, d * L = E := ⟨_, rfl⟩
            rw [hE] at e1 e5 e6
            have we : IntKind.i64.wrap ((d : Int) * (L : Int)) = ((E : Nat) : Int) := by rw [mul_cast, hE]; exact IntWalk.i64_in _ (by omega)
            generalize zs.getD i 0 = z at *
            have hw : IntKind.i64.wrap ((E : Int) + z) = (E : Int) + z := IntWalk.i64_in _ (by omega)
            have HP := Lib.hid (upto_snoc ys (D + d) _ (by rw [YL.out]; omega) e1)
            have HK := Lib.hid (upto_len ys (D + d) (by rw [YL.out]; omega))
            clear e1 hE
            go_wp2_with (at_builtin; refine append_one Try.underlying28 info_i64 rfl _ _ rfl rfl HO.out rfl hB.size (by rw [HK.out]; omega) ?_; intro v' w' hO hb')
            have HO2 := Lib.hid (by have := hO; rw [HP.out] at this; exact this)
            clear hO
            go_wp2_with fail
            go_roundw
            case rel => exact ⟨d + 1, by omega, by go_num, HO2, hB.trans hb'⟩
            case measure => (first | (simp [intOf]; done) | (simp [intOf]; omega) | (simp only [intOf]; omega))
          · obtain rfl : d = r := by omega
            have dd2 : decide ((d : Int) < (d : Int)) = false := decide_eq_false (by omega)
            go_wp2_with fail
            go_roundw
            case rel => exact ⟨i + 1, by omega, by go_num, by rw [← MS1.out]; exact HO, hB⟩
            case measure => (first | (simp [intOf]; done) | (simp [intOf]; omega) | (simp only [intOf]; omega))
      · obtain rfl : i = L := by omega
        have dd : decide ((i : Int) < (i : Int)) = false := decide_eq_false (by omega)
        have HO3 := HO.out
        rw [HE.out, upto_full ys N YL.out] at HO3
        have HO3 := Lib.hid HO3
        go_wp2_with fail
        go_ret
        exact givesI_own rfl HO3.out (b1.trans (hB.mono b1.size)) YW.out YL.out (by omega)
  · rw [if_neg hc1] at HIH
    have hc2 : ¬ (c - 1 = 0) := by omega
    have hc3 : ((c - 1) == 0) = false := by simp; omega
    go_enter Try.func60, Try.ntmps60
    go_wp2_with fail
    refine (HIH.out).mono ?_
    rintro e w1 ⟨q, kk, rfl, RQ, b1⟩
    have RQ := Lib.hid RQ
    have hc1 : w1.cell? ⟨b, off, none⟩ = some (.int .i64 (r : Int)) := (b1.cell (p := ⟨b, off, none⟩) hb).trans hc0
    have hb1 : b < w1.heap.size := by have := b1.size; omega
    clear HIH
    go_wp2_with fail
    go_loopw [4, 5] (fun v x wr => ∃ i : Nat, i ≤ L ∧ x = .int .i64 i ∧ Hid (Owns wr w1.heap.size 3 .i64 v (upto ys (i * r))) ∧ Below w1.heap.size w1 wr) (fun _ x _ => L - (intOf x).toNat)
    case atStart => exact ⟨0, Nat.zero_le _, rfl, Lib.hid (by rw [Nat.zero_mul]; exact Owns.nil _ _ _ _), Below.refl _ _⟩
    case round =>
      obtain ⟨i, hi, rfl, HO, hB⟩ := hrel
      by_cases hlt : i < L
      · have dd : decide ((i : Int) < (L : Int)) = true := decide_eq_true (by omega)
        have HD1 := Lib.hid (fun d hd => HD.out i d hlt hd)
        have MS1 := Lib.hid (MS.out i)
        have ML1 := ML.out i hlt
        obtain ⟨b2, off2, rfl, hb2, hz0, z1, z2⟩ := RQ.out.cell hlt
        obtain ⟨D, hD⟩ : ∃ D, i * r = D := ⟨_, rfl⟩
        rw [hD] at HD1 MS1 ML1 HO
        clear hD
        go_wp2_with fail
        go_loopw [4, 6] (fun v x wr => ∃ d : Nat, d ≤ r ∧ x = .int .i64 d ∧ Hid (Owns wr w1.heap.size 3 .i64 v (upto ys (D + d))) ∧ Below w1.heap.size w1 wr) (fun _ x _ => r - (intOf x).toNat)
        case atStart => exact ⟨0, Nat.zero_le _, rfl, HO, hB⟩
        case round =>
          clear HO hB
          obtain ⟨d, hd, rfl, HO, hB⟩ := hrel
          have hcr : wr.cell? ⟨b, off, none⟩ = some (.int .i64 (r : Int)) := (hB.cell (p := ⟨b, off, none⟩) hb1).trans hc1
          have hcz : wr.cell? ⟨b2, off2 + i, none⟩ = some (.int .i64 (zs.getD i 0)) := (hB.cell (p := ⟨b2, off2 + i, none⟩) hb2).trans hz0
          by_cases hlt2 : d < r
          · obtain ⟨e1, e2, e3, e4, e5, e6⟩ := HD1.out d hlt2
            have dd2 : decide ((d : Int) < (r : Int)) = true := decide_eq_true (by omega)
            obtain ⟨E, hE⟩ : ∃ E, d * L = E := ⟨_, rfl⟩
            rw [hE] at e1 e5 e6
            have we : IntKind.i64.wrap ((d : Int) * (L : Int)) = ((E : Nat) : Int) := by rw [mul_cast, hE]; exact IntWalk.i64_in _ (by omega)
            generalize zs.getD i 0 = z at *
            have hw : IntKind.i64.wrap ((E : Int) + z) = (E : Int) + z := IntWalk.i64_in _ (by omega)
            have HP := Lib.hid (upto_snoc ys (D + d) _ (by rw [YL.out]; omega) e1)
            have HK := Lib.hid (upto_len ys (D + d) (by rw [YL.out]; omega))
            clear e1 hE
            go_wp2_with (at_builtin; refine append_one Try.underlying28 info_i64 rfl _ _ rfl rfl HO.out rfl hB.size (by rw [HK.out]; omega) ?_; intro v' w' hO hb')
            have HO2 := Lib.hid (by have := hO; rw [HP.out] at this; exact this)
            clear hO
            go_wp2_with fail
            go_roundw
            case rel => exact ⟨d + 1, by omega, by go_num, HO2, hB.trans hb'⟩
            case measure => (first | (simp [intOf]; done) | (simp [intOf]; omega) | (simp only [intOf]; omega))
          · obtain rfl : d = r := by omega
            have dd2 : decide ((d : Int) < (d : Int)) = false := decide_eq_false (by omega)
            go_wp2_with fail
            go_roundw
            case rel => exact ⟨i + 1, by omega, by go_num, by rw [← MS1.out]; exact HO, hB⟩
            case measure => (first | (simp [intOf]; done) | (simp [intOf]; omega) | (simp only [intOf]; omega))
      · obtain rfl : i = L := by omega
        have dd : decide ((i : Int) < (i : Int)) = false := decide_eq_false (by omega)
        have HO3 := HO.out
        rw [HE.out, upto_full ys N YL.out] at HO3
        have HO3 := Lib.hid HO3
        go_wp2_with fail
        go_ret
        exact givesI_own rfl HO3.out (b1.trans (hB.mono b1.size)) YW.out YL.out (by omega)
end Go.Proofs.Ytkfjmmhcbbfhdaa
