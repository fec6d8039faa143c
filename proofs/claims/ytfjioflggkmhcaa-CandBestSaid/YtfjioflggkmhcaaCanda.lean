/- Plans of a size, as plain data; package cand's of and primes, reference 19's leaf and one. -/
import Derived.Test.YtfjioflggkmhcaaOwnt
import Derived.Test.YtfjioflggkmhcaaGated
import Derived.Test.YtfjioflggkmhcaaFacsd
import Derived.Test.YtfjioflggkmhcaaAbvd
import Derived.Test.YtfjioflggkmhcaaClonel
import Derived.BigRegion
import Derived.Deep.DeepCutAuto
namespace Go.Proofs.Ytfjioflggkmhcaa
open Go.ChangeShapes Go.WideShapes Go.ChangeAt Go.RowKit
set_option linter.unusedVariables false
set_option linter.unusedSimpArgs false
/-- A tree, ahead of a row. -/
def Nd.fo (d : Nd) (r : Fo) : Fo := .cons d.k d.n d.ks r
/-- The greatest prime of a number. -/
def lastP (n : Nat) : Nat := ((fa n).getD ((fa n).length - 1) (0, 0)).1
/-- The plan without a choice. -/
def plT : Nat → Nat → Nd
  | 0, n => ⟨0, n, .nil⟩
  | f + 1, n => if 2 ≤ n ∧ n ≤ 5 then ⟨2, n, .nil⟩ else if n = 1 ∨ (n ≤ 64 ∧ pwb n = false) then ⟨1, n, .nil⟩ else if pwb n = true then ⟨3, n, .nil⟩ else if prb n = true then ⟨6, n, (plT f (n - 1)).fo .nil⟩ else ⟨4, n, (plT f (lastP n)).fo ((plT f (n / lastP n)).fo .nil)⟩
/-- A tree in new memory. -/
def GivesD (W : World) (d : Nd) (e : Ending) (w' : World) : Prop := ∃ v, e = .returned (.agg #[.int .i64 d.k, .int .i64 d.n, v]) ∧ KidsS w' (fun b => b < w'.heap.size ∧ W.heap.size ≤ b) v d.ks ∧ Below W.heap.size W w'
theorem KidsS.form {w : World} {S : Nat → Prop} {v : Value} {f : Fo} (h : KidsS w S v f) : ∃ a n c, v = .slice a n c := by
  obtain ⟨a, c, rfl, _⟩ := h
  exact ⟨a, _, c, rfl⟩
theorem KidsS.nought (w : World) (S : Nat → Prop) : KidsS w S (.slice none 0 0) .nil := ⟨none, 0, rfl, Nat.le_refl _, by unfold maxLen; omega, .inl rfl⟩
theorem kidsS_one {w : World} {S : Nat → Prop} {g c : Nat} {k n : Int} {v : Value} {ks : Fo} {T : TypeId} (h : w.heap[g]? = some (.cells #[.int .i64 k, .int .i64 n, v] T (0, 0))) (hg : S g) (hk : KidsS w S v ks) (h1 : 1 ≤ c) (h2 : c ≤ maxLen) : KidsS w S (.slice (some ⟨g, 0, none⟩) 1 c) (.cons k n ks .nil) := by
  obtain ⟨x0, x1, x2, _, _, _⟩ := row_cells3 h
  obtain ⟨a, c', rfl, g1, g2, g3⟩ := hk
  exact ⟨_, c, rfl, h1, h2, .inr ⟨g, 0, rfl, hg, x0, x1, ⟨a, c', x2, g1, g2, g3⟩, trivial⟩⟩
theorem kidsS_two {w : World} {S : Nat → Prop} {g c : Nat} {k n k' n' : Int} {v v' : Value} {ks ks' : Fo} {T : TypeId} (h : w.heap[g]? = some (.cells #[.int .i64 k, .int .i64 n, v, .int .i64 k', .int .i64 n', v'] T (0, 0))) (hg : S g) (hk : KidsS w S v ks) (hk' : KidsS w S v' ks') (h1 : 2 ≤ c) (h2 : c ≤ maxLen) : KidsS w S (.slice (some ⟨g, 0, none⟩) 2 c) (.cons k n ks (.cons k' n' ks' .nil)) := by
  have cc := fun j => cell_of_row w g j _ _ _ h
  obtain ⟨a, c1, rfl, g1, g2, g3⟩ := hk
  obtain ⟨a', c2, rfl, g1', g2', g3'⟩ := hk'
  exact ⟨_, c, rfl, h1, h2, .inr ⟨g, 0, rfl, hg, by rw [cc 0]; rfl, by rw [cc 1]; rfl, ⟨a, c1, by rw [cc 2]; rfl, g1, g2, g3⟩, hg, by rw [cc 3]; rfl, by rw [cc 4]; rfl, ⟨a', c2, by rw [cc 5]; rfl, g1', g2', g3'⟩, trivial⟩⟩
set_option maxRecDepth 100000 in
theorem cand_of (k n : Int) (p : Option Addr) (m c : Nat) (W : World) : Calls Try.prog 66 #[.int .i64 k, .int .i64 n, .slice p m c] W fun e w' => e = .returned (.agg #[.int .i64 k, .int .i64 n, .slice p m c]) ∧ Below W.heap.size W w' := by
  have HR := Lib.hid (heap_alloc_new W (.cells #[.int .i64 k, .int .i64 n, .slice p m c] 24))
  have HB := Lib.hid ((Below.refl W.heap.size W).alloc (Nat.le_refl _) (.cells #[.int .i64 k, .int .i64 n, .slice p m c] 24))
  go_enter Try.func66, Try.ntmps66
  go_wp2_with fail
  refine bodyPost_ret (results_cell_row (p := 6) (ty := 24) rfl _ _ _ 24 #[.int .i64 k, .int .i64 n, .slice p m c] (0, 0) _ rfl HR.out Try.underlying24 rfl (by kernel_rfl)) rfl ?_
  exact ⟨rfl, HB.out⟩
set_option maxRecDepth 100000 in
theorem r19_leaf (k n : Int) (W : World) : Calls Try.prog 74 #[.int .i64 k, .int .i64 n] W fun e w' => e = .returned (.agg #[.int .i64 k, .int .i64 n, .slice none 0 0]) ∧ Below W.heap.size W w' := by
  have HR := Lib.hid (heap_alloc_new W (.cells #[.int .i64 k, .int .i64 n, .slice none 0 0] 24))
  have HB := Lib.hid ((Below.refl W.heap.size W).alloc (Nat.le_refl _) (.cells #[.int .i64 k, .int .i64 n, .slice none 0 0] 24))
  go_enter Try.func74, Try.ntmps74
  go_wp2_with fail
  refine bodyPost_ret (results_cell_row (p := 4) (ty := 24) rfl _ _ _ 24 #[.int .i64 k, .int .i64 n, .slice none 0 0] (0, 0) _ rfl HR.out Try.underlying24 rfl (by kernel_rfl)) rfl ?_
  exact ⟨rfl, HB.out⟩
set_option maxRecDepth 100000 in
set_option maxHeartbeats 4000000 in
theorem cand_primes (N : Nat) (W : World) (h1 : 1 ≤ N) (h2 : N ≤ 16777216) :
    Calls Try.prog 70 #[.int .i64 (N : Int)] W (GivesI W (fa N).length (fsts (fa N))) := by
  have FF := Lib.hid (fun w => fact_factors N w h1 h2)
  have FL := fa_len h1 h2
  have WF := Lib.hid (fsts_wf h1 h2)
  have hB : Below W.heap.size W W := Below.refl _ _
  generalize fa N = L at *
  obtain ⟨n, hn⟩ : ∃ n, L.length = n := ⟨_, rfl⟩
  rw [hn] at FL
  have GP := Lib.hid (fun w e w' (h : GivesP w L e w') => (show ∃ a c, e = .returned (.tuple #[.slice a n c, .int .i64 0]) ∧ RowP w' a n L ∧ Below w.heap.size w w' by unfold GivesP at h; rw [hn] at h; exact h))
  have FSL := Lib.hid (show (fsts L).length = n by rw [fsts_len]; exact hn)
  have FT := Lib.hid (fun i (hi : i < n) => (show (fsts L).take (i + 1) = (fsts L).take i ++ [((L.getD i (0, 0)).1 : Int)] by
    have e := List.take_succ_eq_append_getElem (l := fsts L) (i := i) (by rw [fsts_len]; omega)
    rw [e, ← fsts_at, List.getD, List.getElem?_eq_getElem (by rw [fsts_len]; omega)]; rfl))
  have FA := Lib.hid (show (fsts L).take n = fsts L by rw [← FSL.out]; exact List.take_length)
  rw [hn]
  clear hn
  generalize fsts L = ys at *
  go_enter Try.func70, Try.ntmps70
  go_wp2_with fail
  refine (FF.out _).mono ?_
  intro e w1 h
  obtain ⟨p1, k1, rfl, hr, b1⟩ := GP.out _ _ _ h
  have R1 := Lib.hid hr; clear hr h
  have hB := hB.trans (b1.mono hB.size); clear b1
  clear FF GP
  go_wp2_with fail
  go_loopw [5, 15] (fun x y wr => ∃ (i : Nat) (s : Value), s = x ∧ i ≤ n ∧ y = .int .i64 i ∧ Hid (Owns wr w1.heap.size 3 .i64 s (ys.take i)) ∧ Below w1.heap.size w1 wr) (fun _ y _ => n - (intOf y).toNat)
  case atStart => exact ⟨0, _, rfl, Nat.zero_le _, rfl, Lib.hid (by rw [List.take_zero]; exact Owns.nil _ _ _ _), Below.refl _ _⟩
  case round =>
    obtain ⟨i, s, rfl, hi, rfl, HO, hB3⟩ := hrel
    by_cases hlt : i < n
    · obtain ⟨b1, o1, rfl, hb1, hc1, hd1⟩ := (R1.out.below hB3).cell i hlt
      have TT := Lib.hid (FT.out i hlt)
      have TL : (ys.take i).length < 100 := by rw [List.length_take]; omega
      generalize ys.take i = zs at *
      generalize (L.getD i (0, 0)).1 = p at *
      generalize (L.getD i (0, 0)).2 = ex at *
      have dd : decide ((i : Int) < (n : Int)) = true := decide_eq_true (by omega)
      obtain ⟨w3, hw3⟩ : ∃ w3, wr.alloc (.cells #[.int .i64 (p : Int), .int .i64 (ex : Int)] 97) = w3 := ⟨_, rfl⟩
      have c0 : w3.cell? ⟨wr.heap.size, 0, none⟩ = some (.int .i64 (p : Int)) := by
        rw [← hw3, cell_of_row _ _ 0 _ _ _ (heap_alloc_new wr (.cells #[.int .i64 (p : Int), .int .i64 (ex : Int)] 97))]; rfl
      have bw : Below wr.heap.size wr w3 := by rw [← hw3]; exact (Below.refl _ _).alloc (Nat.le_refl _) _
      have hB2 := hB3.trans (bw.mono hB3.size)
      have HO2 := Lib.hid (HO.out.below bw)
      clear hB3 HO bw
      go_upto_region 6 with fail
      (try rw [hw3])
      clear hw3
      go_wp2_with (at_builtin; refine append_one Try.underlying37 info_i64 rfl _ _ rfl rfl HO2.out rfl hB2.size (by omega) ?_; intro v' w' hO hb')
      have HO3 := Lib.hid (show Owns w' w1.heap.size 3 .i64 v' (ys.take (i + 1)) by rw [TT.out]; exact hO)
      have hB4 := hB2.trans hb'
      clear hO hb' hB2 HO2
      go_wp2_with fail
      go_roundw
      case rel => exact ⟨i + 1, _, rfl, by omega, by go_num, HO3, hB4⟩
      case measure => (first | (simp [intOf]; done) | (simp [intOf]; omega) | (simp only [intOf]; omega))
    · obtain rfl : i = n := by omega
      have dd : decide ((i : Int) < (i : Int)) = false := decide_eq_false (by omega)
      go_wp2_with fail
      go_ret
      exact givesI_own rfl (by rw [← FA.out]; exact HO.out) (hB.trans (hB3.mono hB.size)) WF.out FSL.out (by omega)
end Go.Proofs.Ytfjioflggkmhcaa
