/- Put together by program (merge.py): Tab4 Tab5. -/
import Derived.Test.YtcfmiflhhjoofaaM23
import Derived.Test.YtcfmiflhhjoofaaM34
import Derived.Test.YtcfmiflhhjoofaaM38
import Derived.Test.YtcfmiflhhjoofaaM44
/- Package table: the makers. -/
namespace Go.Proofs.Ytcfmiflhhjoofaa
open Go.ChangeShapes Go.WideShapes Go.ChangeAt Go.RowKit
set_option linter.unusedVariables false
open rootTells
set_option maxRecDepth 100000 in
theorem tab_root (k m d : Int) (N : Nat) (W : World) (hh : hasb N = true) (hd : d = 0 ∨ d = 1) :
    Calls Try.prog 60 #[.agg #[.int .i64 k, .int .i64 N, .int .i64 m, .int .i64 d]] W fun e w' => e = .returned (.tuple #[.int .u64 (rdir N d), .int .i64 0]) ∧ Below W.heap.size W w' := by
  have hB := (Below.refl W.heap.size W).alloc (Nat.le_refl _) (.cells #[.int .i64 k, .int .i64 N, .int .i64 m, .int .i64 d] 41)
  obtain ⟨n1, n2, _⟩ := hasb_dvd hh
  rcases hd with rfl | rfl
  · have R := Lib.hid (fun w => (show Calls Try.prog 68 #[.int .i64 N] w fun e w' => e = .returned (.tuple #[.int .u64 (rdir N 0), .int .i64 0]) ∧ Below w.heap.size w w' from root_root N w (by omega) (by omega) hh))
    generalize rdir N 0 = z at *
    go_enter Try.func60, Try.ntmps60
    go_wp2_with fail
    refine (R.out _).mono ?_
    rintro e w1 ⟨rfl, b1⟩
    go_wp2_with fail
    go_ret2
    exact ⟨rfl, hB.trans (b1.mono hB.size)⟩
  · have R := Lib.hid (fun w => (show Calls Try.prog 71 #[.int .i64 N] w fun e w' => e = .returned (.tuple #[.int .u64 (rdir N 1), .int .i64 0]) ∧ Below w.heap.size w w' from root_back N w (by omega) (by omega) hh))
    generalize rdir N 1 = z at *
    go_enter Try.func60, Try.ntmps60
    go_wp2_with fail
    refine (R.out _).mono ?_
    rintro e w1 ⟨rfl, b1⟩
    go_wp2_with fail
    go_ret2
    exact ⟨rfl, hB.trans (b1.mono hB.size)⟩
theorem cells4 {W w1 : World} {k n m d : Int} {T : TypeId} (b1 : Below (W.alloc (.cells #[.int .i64 k, .int .i64 n, .int .i64 m, .int .i64 d] T)).heap.size (W.alloc (.cells #[.int .i64 k, .int .i64 n, .int .i64 m, .int .i64 d] T)) w1) :
    w1.cell? ⟨W.heap.size, 0, none⟩ = some (.int .i64 k) ∧ w1.cell? ⟨W.heap.size, 1, none⟩ = some (.int .i64 n) ∧ w1.cell? ⟨W.heap.size, 2, none⟩ = some (.int .i64 m) ∧ w1.cell? ⟨W.heap.size, 3, none⟩ = some (.int .i64 d) := by
  have hc := fun j (hj : j < 4) => b1.cell (p := ⟨W.heap.size, j, none⟩) (by simp)
  have hn := heap_alloc_new W (.cells #[.int .i64 k, .int .i64 n, .int .i64 m, .int .i64 d] T)
  refine ⟨(hc 0 (by omega)).trans ?_, (hc 1 (by omega)).trans ?_, (hc 2 (by omega)).trans ?_, (hc 3 (by omega)).trans ?_⟩ <;> (rw [cell_of_row _ _ _ _ _ _ hn]; rfl)
set_option maxRecDepth 100000 in
theorem tab_powers (k m d : Int) (N : Nat) (W : World) (hh : hasb N = true) (hd : d = 0 ∨ d = 1) :
    Calls Try.prog 43 #[.agg #[.int .i64 k, .int .i64 N, .int .i64 m, .int .i64 d]] W (GivesOk W N (powl (rdir N d) N)) := by
  have hB := (Below.refl W.heap.size W).alloc (Nat.le_refl _) (.cells #[.int .i64 k, .int .i64 N, .int .i64 m, .int .i64 d] 41)
  obtain ⟨n1, n2, _⟩ := hasb_dvd hh
  have RT := Lib.hid (fun w => tab_root k m d N w hh hd)
  have PW := Lib.hid (fun w => root_powers (rdir N d) N w (rdir_lo N d) (by have := rdir_hi N d; omega) (by omega))
  have YL := Lib.hid (powl_len (rdir N d) N)
  have YW := Lib.hid (powl_wf (rdir N d) N)
  generalize powl (rdir N d) N = ys at *
  generalize rdir N d = r at *
  go_enter Try.func43, Try.ntmps43
  go_wp2_with fail
  refine (RT.out _).mono ?_
  rintro e w1 ⟨rfl, b1⟩
  obtain ⟨c0, c1, c2, c3⟩ := cells4 b1
  have b3 := hB.trans (b1.mono hB.size)
  clear b1 hB
  go_wp2_with fail
  refine (PW.out _).mono ?_
  rintro e w2 ⟨rfl, hq, b2⟩
  have HQ := Lib.hid hq
  have b4 := b3.trans (b2.mono b3.size)
  clear hq b2
  go_wp2_with fail
  go_ret2
  exact ⟨_, _, rfl, Row.of_at HQ.out YW.out YL.out (by omega), b4⟩
set_option maxRecDepth 100000 in
theorem tab_chirp (k m d : Int) (N : Nat) (W : World) (hh : hasb N = true) (hd : d = 0 ∨ d = 1) :
    Calls Try.prog 40 #[.agg #[.int .i64 k, .int .i64 N, .int .i64 m, .int .i64 d]] W (GivesOk W N (rowc (rdir N (1 - d)) N N)) := by
  have hB := (Below.refl W.heap.size W).alloc (Nat.le_refl _) (.cells #[.int .i64 k, .int .i64 N, .int .i64 m, .int .i64 d] 41)
  obtain ⟨n1, n2, _⟩ := hasb_dvd hh
  have CR := Lib.hid (fun w => c_crow N N (1 - d) w hh (by omega) (by omega))
  have hw : IntKind.i64.wrap (1 - d) = 1 - d := IntWalk.i64_in _ (by omega)
  generalize rowc (rdir N (1 - d)) N N = ys at *
  go_enter Try.func40, Try.ntmps40
  go_wp2_with fail
  refine (CR.out _).mono ?_
  rintro e w1 ⟨p, c, rfl, hr, b1⟩
  have HR := Lib.hid hr
  have b3 := hB.trans (b1.mono hB.size)
  clear b1 hB hr
  go_wp2_with fail
  go_ret2
  exact ⟨_, _, rfl, HR.out, b3⟩
set_option maxRecDepth 100000 in
theorem tab_blue (k d : Int) (N M a : Nat) (W : World) (hh : hasb N = true) (hd : d = 0 ∨ d = 1) (hM : M = 2 ^ a) (hM2 : M ≤ 130) (h : 2 * N - 1 ≤ M) :
    Calls Try.prog 42 #[.agg #[.int .i64 k, .int .i64 N, .int .i64 M, .int .i64 d]] W (GivesOk W M (horl (rdir M 0) (rowc (rdir N d) N (2 * N - 1) ++ List.replicate (M - (2 * N - 1)) 0) M)) := by
  have hB := (Below.refl W.heap.size W).alloc (Nat.le_refl _) (.cells #[.int .i64 k, .int .i64 N, .int .i64 M, .int .i64 d] 41)
  have KE := Lib.hid (fun w => chirp_kernel N M d w hh hd h (hasb_pow hM hM2))
  have SD := Lib.hid (fun p c w h => stock_do M a p c 0 (rowc (rdir N d) N (2 * N - 1) ++ List.replicate (M - (2 * N - 1)) 0) w h hM hM2 (.inl rfl))
  generalize rowc (rdir N d) N (2 * N - 1) ++ List.replicate (M - (2 * N - 1)) 0 = xs at *
  generalize horl (rdir M 0) xs M = ys at *
  clear hM h
  go_enter Try.func42, Try.ntmps42
  go_wp2_with fail
  refine (KE.out _).mono ?_
  rintro e w1 ⟨p, c, rfl, hr, b1⟩
  have HR := Lib.hid hr
  have b3 := hB.trans (b1.mono hB.size)
  clear b1 hB hr
  go_wp2_with fail
  refine (SD.out _ _ _ HR.out).mono ?_
  rintro e w2 ⟨p2, c2, rfl, hr, b1⟩
  have HR2 := Lib.hid hr
  have b4 := b3.trans (b1.mono b3.size)
  clear b1 b3 hr
  go_wp2_with fail
  go_ret2
  exact ⟨_, _, rfl, HR2.out, b4⟩
end Go.Proofs.Ytcfmiflhhjoofaa
/- Package table: the maker of Rader's tables. -/
namespace Go.Proofs.Ytcfmiflhhjoofaa
open Go.ChangeShapes Go.WideShapes Go.ChangeAt Go.RowKit
set_option linter.unusedVariables false
open rootTells
/-- What Rader's way multiplies by, before its transform. -/
def rdl (q : Nat) (d : Int) (g : Nat) : List Int := tab (q - 1) fun i => fm (rdir q d ^ (g ^ ((q - 1 - i) % (q - 1)) % q))
theorem rdl_len (q : Nat) (d : Int) (g : Nat) : (rdl q d g).length = q - 1 := tab_len _ _
theorem rdl_at (q : Nat) (d : Int) (g k : Nat) (h : k < q - 1) : (rdl q d g).getD k 0 = fm (rdir q d ^ (g ^ ((q - 1 - k) % (q - 1)) % q)) := tab_at (q - 1) (fun i => fm (rdir q d ^ (g ^ ((q - 1 - i) % (q - 1)) % q))) k h
theorem rdl_wf (q : Nat) (d : Int) (g : Nat) : ∀ z ∈ rdl q d g, (Lit.int .u64 z).wf = true := by
  intro z hz
  unfold rdl tab at hz
  obtain ⟨k, _, rfl⟩ := List.mem_map.1 hz
  exact WalkArith.wf_u64 ⟨fm_lo _, fm_hi' _⟩
set_option maxRecDepth 100000 in
set_option maxHeartbeats 4000000 in
theorem tab_rader (k m d : Int) (q a : Nat) (W : World) (hq : isP q) (hh : hasb q = true) (hd : d = 0 ∨ d = 1) (hM : q - 1 = 2 ^ a) (hM2 : q - 1 ≤ 130) :
    Calls Try.prog 41 #[.agg #[.int .i64 k, .int .i64 q, .int .i64 m, .int .i64 d]] W fun e w' => ∃ g, IsMk q g ∧ GivesOk W (q - 1) (horl (rdir (q - 1 : Nat) 0) (rdl q d g) (q - 1)) e w' := by
  have hB := (Below.refl W.heap.size W).alloc (Nat.le_refl _) (.cells #[.int .i64 k, .int .i64 q, .int .i64 m, .int .i64 d] 41)
  have q0 := hq.1
  have PW := Lib.hid (fun w => tab_powers k m d q w hh hd)
  have GP := Lib.hid (fun w => gen_powers q w hq (by omega))
  have SD := Lib.hid (fun p c g w h => stock_do (q - 1) a p c 0 (rdl q d g) w h hM hM2 (.inl rfl))
  obtain ⟨n, hn⟩ : ∃ n, q - 1 = n := ⟨_, rfl⟩
  have HN := Lib.hid hn
  have RL := Lib.hid (fun g => (show (rdl q d g).length = n by rw [rdl_len, hn]))
  have RA := Lib.hid (fun g k (h : k < n) => (show (rdl q d g).getD k 0 = fm (rdir q d ^ (g ^ ((n - k) % n) % q)) by rw [rdl_at q d g k (by omega), hn]))
  have RW := Lib.hid (fun g => rdl_wf q d g)
  have PA := Lib.hid (fun j (h : j < q) => powl_at (rdir q d) q j h)
  have GA := Lib.hid (fun g j (h : j < n) => gpl_at q g j (by omega))
  rw [hn] at SD hM2
  have hmk := make_u64 n (by omega)
  clear hM hn
  have hnq : q = n + 1 := by have := HN.out; omega
  have QF := Lib.hid (fun g e w' (hg : IsMk q g) (h : GivesOk W n (horl (rdir n 0) (rdl q d g) n) e w') => (show ∃ g, IsMk q g ∧ GivesOk W (q - 1) (horl (rdir (q - 1 : Nat) 0) (rdl q d g) (q - 1)) e w' from ⟨g, hg, by rw [HN.out]; exact h⟩))
  have n0 : 0 < n := by omega
  have n1 : ((n : Int) == 0) = false := by simp; omega
  have n2 : ¬ ((n : Int) = 0) := by omega
  have n3 : ¬ (n = 0) := by omega
  have hq131 : q ≤ 131 := by omega
  clear hnq
  generalize powl (rdir q d) q = ws at *
  go_enter Try.func41, Try.ntmps41
  go_wp2_with fail
  refine (PW.out _).mono ?_
  rintro e w1 ⟨p1, k1, rfl, hr, b1⟩
  obtain ⟨c0, c1, c2, c3⟩ := cells4 b1
  have HW := Lib.hid hr
  have hB := hB.trans (b1.mono hB.size)
  clear b1 hr
  go_wp2_with fail
  refine (GP.out _).mono ?_
  rintro e w2 ⟨g, hg, p2, k2, rfl, hr, b1⟩
  rw [HN.out] at hr ⊢
  have HG := Lib.hid hg
  have HP := Lib.hid hr
  have HW := Lib.hid (HW.out.below b1)
  have hB := hB.trans (b1.mono hB.size)
  clear b1 hr hg c0 c1 c2 c3 GP PW
  have RL := Lib.hid (RL.out g)
  have RA := Lib.hid (fun k h => RA.out g k h)
  have RW := Lib.hid (RW.out g)
  have SD := Lib.hid (fun p c w h => SD.out p c g w h)
  have GA := Lib.hid (fun j h => GA.out g j h)
  have QF := Lib.hid (fun e w' h => QF.out g e w' HG.out h)
  have GL := Lib.hid (fun j => (show g ^ j % q < q from Nat.mod_lt _ (by omega)))
  generalize rdl q d g = ys at *
  generalize gpl q g = gs at *
  have F0 := Lib.hid (Filling.start w2 43 ys n)
  have hB0 := (Below.refl w2.heap.size w2).alloc (Nat.le_refl _) (.cells (Array.replicate n (.int .u64 0)) 43)
  have hBW := Lib.hid hB
  clear hB HG
  go_wp2_with fail
  obtain ⟨wo, rfl⟩ : ∃ wo : World, wo = w2 := ⟨_, rfl⟩
  generalize wo.alloc (.cells (Array.replicate n (.int .u64 0)) 43) = w3 at *
  go_loopw [34] (fun x wr => ∃ i : Nat, i ≤ n ∧ x = .int .i64 i ∧ Hid (Filling wr wo.heap.size 43 ys i n) ∧ Below wo.heap.size wo wr) (fun x _ => n - (intOf x).toNat)
  case atStart => exact ⟨0, Nat.zero_le _, rfl, F0, hB0⟩
  case round =>
    clear F0 hB0
    obtain ⟨i, hi, rfl, HF, hB⟩ := hrel
    have hsz := HF.out.lt
    by_cases hlt : i < n
    · have hm1 : (n - i) % n < n := Nat.mod_lt _ n0
      have RA1 := RA.out i hlt
      have w4 : IntKind.i64.wrap ((n : Int) - (i : Int)) = ((n - i : Nat) : Int) := by
        rw [show (n : Int) - (i : Int) = ((n - i : Nat) : Int) by omega]; exact IntWalk.i64_in _ (by omega)
      have m1 := natmod (n - i) n
      have m1' := natmod' (n - i) n
      have hsub : (n : Int) - (i : Int) = ((n - i : Nat) : Int) := by omega
      have GA1 := GA.out ((n - i) % n) hm1
      have GL1 := GL.out ((n - i) % n)
      obtain ⟨b2, o2, rfl, hb2, hc0, x0, x1⟩ := HP.out.cell hm1
      generalize g ^ ((n - i) % n) % q = v at *
      rw [GA1] at hc0 x0 x1
      generalize n - i = u at *
      generalize u % n = t at *
      have hc : wr.cell? ⟨b2, o2 + t, none⟩ = some (.int .i64 (v : Int)) := (hB.cell (p := ⟨b2, o2 + t, none⟩) hb2).trans hc0
      obtain ⟨b3, o3, rfl, hb3, hd0, y0, y1⟩ := HW.out.cell GL1
      rw [PA.out v GL1] at hd0 y0 y1
      have hd' : wr.cell? ⟨b3, o3 + v, none⟩ = some (.int .u64 (fm (rdir q d ^ v))) := (hB.cell (p := ⟨b3, o3 + v, none⟩) hb3).trans hd0
      have hst := Lib.hid (HF.out.step hlt RL.out RA1)
      obtain ⟨uu, hu⟩ := HF.out.cell hlt RL.out
      have hfr := HF.out.free i
      have hv0 : (0 : Int) ≤ (v : Int) := by omega
      have hv1 : (v : Int) < (q : Int) := by omega
      have ht0 : (0 : Int) ≤ (t : Int) := by omega
      have ht1 : (t : Int) < (n : Int) := by omega
      clear hc0 hd0 RA1 GA1
      generalize fm (rdir q d ^ v) = y at *
      go_wp2_with fail
      go_roundw
      case rel => exact ⟨i + 1, by omega, by go_num, hst, hB.setCell (Nat.le_refl _) _⟩
      case measure => (first | (simp [intOf]; done) | (simp [intOf]; omega) | (simp only [intOf]; omega))
    · obtain rfl : i = n := by omega
      have HR := Lib.hid (Row.of_at (HF.out.done RL.out) RW.out RL.out (by omega))
      clear HF
      go_wp2_with fail
      refine (SD.out _ _ _ HR.out).mono ?_
      rintro e w5 ⟨p5, k5, rfl, hr, b1⟩
      have HR5 := Lib.hid hr
      have hB := hB.trans (b1.mono hB.size)
      clear b1 hr HR
      go_wp2_with fail
      go_ret2
      exact QF.out _ _ ⟨_, _, rfl, HR5.out, hBW.out.trans (hB.mono hBW.out.size)⟩
end Go.Proofs.Ytcfmiflhhjoofaa
