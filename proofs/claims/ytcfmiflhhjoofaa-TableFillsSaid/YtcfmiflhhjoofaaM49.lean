/- Put together by program (merge.py): Tab9. -/
import Derived.Test.YtcfmiflhhjoofaaM33
import Derived.Test.YtcfmiflhhjoofaaM48
/- Tables of small names: their numbers are not all noughts; reference 16's Make and Small whole. -/
namespace Go.Proofs.Ytcfmiflhhjoofaa
open Go.ChangeShapes Go.WideShapes Go.ChangeAt Go.RowKit
set_option linter.unusedVariables false
open rootTells
theorem allz_scl {ys : List Int} (h : allz ys = true) : scl 0 ys = ys := by
  unfold scl
  conv => rhs; rw [← List.map_id ys]
  refine List.map_congr_left fun x hx => ?_
  have := (List.all_eq_true.1 h) x hx
  have e : x = 0 := by simpa using this
  rw [e]; rfl
theorem horl_nz {n : Nat} (hh : hasb n = true) (h1 : 1 ≤ n) (xs : List Int) (hl : xs.length = n) (h : fm (n * xs.getD 0 0) ≠ 0) : allz (horl (rdir n 0) xs n) = false := by
  have I := dftBack.inv2_rt n hh
  have hr : rdir n 0 = rt n := by unfold rdir; rw [if_neg (by decide)]
  rw [hr]
  cases hz : allz (horl (rt n) xs n) with
  | false => rfl
  | true =>
    exfalso
    have a := I.at xs hl 0 (by omega)
    rw [← allz_scl hz, horl_scl, scl_at _ _ _ (by rw [horl_len]; omega), Int.zero_mul] at a
    exact h (by rw [← a]; rfl)
theorem fm_nat {n : Nat} (h : n ≤ 140) : fm (n : Int) = n := fm_small _ (by omega) (by omega)
theorem TabOf.nz {k : Int} {N : Nat} {m d : Int} {R : Nat} {ys : List Int} (hm : Nm k N m d) (hh : hasb N = true) (hd : d = 0 ∨ d = 1) (h1 : 1 ≤ N) (hN : N ≤ 140) (ht : TabOf k N m.toNat d R ys) : allz ys = false ∧ ys.length = R ∧ R ≤ 140 := by
  rcases ht with ⟨rfl, rfl, rfl⟩ | ⟨rfl, rfl, rfl⟩ | ⟨rfl, rfl, g, hg, rfl⟩ | ⟨rfl, rfl, rfl⟩
  · refine ⟨allz_no (k := 0) (by rw [powl_len]; omega) ?_, powl_len _ _, hN⟩
    rw [powl_at _ _ _ (by omega), Int.pow_zero]; decide
  · refine ⟨allz_no (k := 0) (by rw [rowc_len]; omega) ?_, rowc_len _ _ _, hN⟩
    rw [rowc_at _ _ _ _ (by omega), trin_zero, Int.pow_zero]; decide
  · rcases hm with ⟨e, _⟩ | ⟨e, _⟩ | ⟨_, _, hq, a, hM, hM2⟩ | ⟨e, _⟩
    · omega
    · omega
    · refine ⟨?_, horl_len _ _ _, by omega⟩
      have q2 := hq.1
      have hc := chk_pow hM hM2 (dir := 0) (.inl rfl)
      obtain ⟨_, hh2, _⟩ := chk_ok hc
      refine horl_nz hh2 (by omega) _ (rdl_len _ _ _) ?_
      rw [rdl_at _ _ _ _ (by omega), Nat.sub_zero, Nat.mod_self, Nat.pow_zero, Nat.mod_eq_of_lt (by omega), Int.pow_succ, Int.pow_zero, Int.one_mul]
      intro hz
      have ho : fm (rdir N d ^ N) = 1 := by
        have h1 := rt_one_pow hh
        rw [Int.toNat_natCast] at h1
        rcases hd with rfl | rfl
        · exact h1
        · have := pow_one_of (rt_inv hh) N
          rw [Int.mul_pow, ← fm_mul_l, h1, Int.one_mul] at this
          exact this
      have e : fm (fm ((N - 1 : Nat) * fm (rdir N d)) * rdir N d ^ (N - 1)) = fm ((N - 1 : Nat) : Int) := by
        rw [fm_mul_l, Int.mul_assoc, ← fm_mul_r, fm_mul_l, ← Int.pow_succ', Nat.sub_add_cancel h1, ho, Int.mul_one]
      rw [hz, Int.zero_mul, fm_nat (by omega)] at e
      have : fm 0 = 0 := rfl
      omega
    · omega
  · rcases hm with ⟨e, _⟩ | ⟨e, _⟩ | ⟨e, _⟩ | ⟨_, M, a, e, h2, hM, hM2, hl⟩
    · omega
    · omega
    · omega
    · obtain rfl : m.toNat = M := by omega
      refine ⟨?_, horl_len _ _ _, by omega⟩
      obtain ⟨_, hh2, _⟩ := chk_ok (chk_pow hM hM2 (dir := 0) (.inl rfl))
      refine horl_nz hh2 (by omega) _ (by rw [List.length_append, rowc_len, List.length_replicate]; omega) ?_
      have e0 : (rowc (rdir N d) N (2 * N - 1) ++ List.replicate (m.toNat - (2 * N - 1)) 0).getD 0 0 = 1 := by
        rw [List.getD_eq_getElem?_getD, List.getElem?_append_left (by rw [rowc_len]; omega), ← List.getD_eq_getElem?_getD, rowc_at _ _ _ _ (by omega), trin_zero, Int.pow_zero]; decide
      rw [e0, Int.mul_one, fm_nat (by omega)]
      omega
/-- What reference 16 makes of a small right name. -/
theorem r16_make (k m d : Int) (N : Nat) (W : World) (hh : hasb N = true) (hd : d = 0 ∨ d = 1) (hN : N ≤ 140) (hm : Nm k N m d) :
    Calls Try.prog 11 #[.agg #[.int .i64 k, .int .i64 N, .int .i64 m, .int .i64 d]] W fun e w' => ∃ R ys, TabOf k N m.toNat d R ys ∧ Gives W R ys e w' := by
  rcases hm with ⟨rfl, rfl⟩ | ⟨rfl, rfl⟩ | ⟨rfl, rfl, hq, a, hM, hM2⟩ | ⟨rfl, M, a, rfl, h2', hM, hM2, hl⟩
  · exact (r16_pows 0 d N W hh hd).mono fun e w' g => ⟨_, _, .inl ⟨rfl, rfl, rfl⟩, g⟩
  · exact (r16_chirp 0 d N W hh hd hN).mono fun e w' g => ⟨_, _, .inr (.inl ⟨rfl, rfl, rfl⟩), g⟩
  · exact (r16_rader 0 d N a W hq hh hd hM hM2).mono fun e w' ⟨g, hg, hx⟩ => ⟨_, _, .inr (.inr (.inl ⟨rfl, rfl, g, hg, rfl⟩)), hx⟩
  · exact (r16_blue d N M a W hh hd hM hM2 hl h2').mono fun e w' g => ⟨_, _, .inr (.inr (.inr ⟨rfl, rfl, rfl⟩)), g⟩
/-- Is it the name of a few numbers? -/
def smallb (k n m d : Int) : Bool := decide ((if rightb k n m d then roomi k n m else 0) ≤ 140) && decide (n ≤ 140)
set_option maxRecDepth 100000 in
theorem r16_small (k n m d : Int) (W : World) (wn : -9223372036854775808 ≤ n ∧ n ≤ 9223372036854775807) (wm : m ≤ 9223372036854775807) :
    Calls Try.prog 9 #[.agg #[.int .i64 k, .int .i64 n, .int .i64 m, .int .i64 d]] W fun e w' => e = .returned (.bool (smallb k n m d)) ∧ Below W.heap.size W w' := by
  have RR := Lib.hid (fun w => r15_room k n m d w wn wm)
  have SB := Lib.hid (show smallb k n m d = (decide ((if rightb k n m d then roomi k n m else 0) ≤ 140) && decide (n ≤ 140)) from rfl)
  generalize smallb k n m d = s at *
  generalize (if rightb k n m d then roomi k n m else 0) = z at *
  obtain ⟨w0, hw0, c0, c1, c2, c3, hB, hlt⟩ := box4 W k n m d 23
  go_enter Try.func9, Try.ntmps9
  go_wp2_with fail
  rw [← hw0]
  clear hw0
  refine (RR.out _).mono ?_
  rintro e w1 ⟨rfl, b1⟩
  have e1 : w1.cell? ⟨W.heap.size, 1, none⟩ = some (.int .i64 n) := (b1.cell (p := ⟨W.heap.size, 1, none⟩) hlt).trans c1
  have hB2 := hB.trans (b1.mono hB.size)
  clear b1 hB
  cases hz : decide (z ≤ 140)
  all_goals
    rw [hz] at SB
    go_wp2_with fail
    go_ret
    exact ⟨by rw [SB.out]; rfl, hB2⟩
end Go.Proofs.Ytcfmiflhhjoofaa
