/- Package stock: into, Pass; the document's pass. -/
import Derived.Test.YtjiedfncamdojaaStock3
import Derived.Test.YtjiedfncamdojaaPw2
import Derived.Test.YtjiedfncamdojaaRefe2
import Derived.Test.YtjiedfncamdojaaRturn
import Derived.Deep.DrawnRows
import Derived.Outline
namespace Go.Proofs.Ytjiedfncamdojaa
open Go.ChangeShapes Go.WideShapes Go.ChangeAt Go.RowKit
set_option linter.unusedVariables false
attribute [local go_sem ↓] Go.wp_at_zero Go.wp_at_succ
def Into (W : World) (BL : Nat) (zs : List Int) (e : Ending) (W' : World) : Prop := e = .returned (.tuple #[]) ∧ RowAt W' BL 24 zs ∧ But W W' BL
set_option maxRecDepth 100000 in
theorem stock_into (BL s h n : Nat) (ax aw : Option Addr) (cl cx cw : Nat) (xs ws zs : List Int) (W : World) (hn : 2 * s * h = n) (hs : 0 < s) (hh : 0 < h) (hsm : n ≤ 16777216) (hx : Row W ax n xs) (hw : Row W aw n ws) (hr : RowAt W BL 24 zs) (hz : zs.length = n) (nx : ∀ x, ax = some x → x.block ≠ BL) (nw : ∀ x, aw = some x → x.block ≠ BL) :
    Calls Try.prog 72 #[.slice (some ⟨BL, 0, none⟩) n cl, .slice ax n cx, .int .i64 s, .slice aw n cw] W (Into W BL (passl xs ws s n)) := by
  have BZ := hr.lt
  have W3 : ∀ W3, W3 = ((W.alloc (.cells #[.slice (some ⟨BL, 0, none⟩) n cl] 22)).alloc (.cells #[.slice ax n cx] 22)).alloc (.cells #[.slice aw n cw] 22) → St W3 (W.heap.size + 1) W.heap.size (W.heap.size + 1 + 1) BL n ax aw cx cw cl xs ws zs ∧ But W W3 BL := by
    rintro _ rfl
    have b1 := Below.refl W.heap.size W
    have hb : Below W.heap.size W (((W.alloc (.cells #[.slice (some ⟨BL, 0, none⟩) n cl] 22)).alloc (.cells #[.slice ax n cx] 22)).alloc (.cells #[.slice aw n cw] 22)) := ((b1.alloc (Nat.le_refl _) _).alloc (by simp) _).alloc (by simp; omega) _
    refine ⟨⟨?_, ?_, ?_, hx.below hb, hw.below hb, hr.below hb, hz, nx, nw, by omega⟩, But.of_below _ hb⟩
    · have := Bx.new (W.alloc (.cells #[.slice (some ⟨BL, 0, none⟩) n cl] 22)) 22 (.slice ax n cx) _ rfl
      rw [show (W.alloc (.cells #[.slice (some ⟨BL, 0, none⟩) n cl] 22)).heap.size = W.heap.size + 1 by simp] at this
      exact this.alloc _
    · exact ((Bx.new W 22 (.slice (some ⟨BL, 0, none⟩) n cl) _ rfl).alloc _).alloc _
    · have := Bx.new ((W.alloc (.cells #[.slice (some ⟨BL, 0, none⟩) n cl] 22)).alloc (.cells #[.slice ax n cx] 22)) 22 (.slice aw n cw) _ rfl
      rw [show ((W.alloc (.cells #[.slice (some ⟨BL, 0, none⟩) n cl] 22)).alloc (.cells #[.slice ax n cx] 22)).heap.size = W.heap.size + 1 + 1 by simp] at this
      exact this
  have W3h := Lib.hid W3
  have R := Lib.hid (fun w h' => pass_run (W.heap.size + 1) W.heap.size (W.heap.size + 1 + 1) BL s h n ax aw cx cw cl xs ws zs w hn hs hh hsm h')
  clear hx hw hr hz nx nw W3 hn
  go_enter Try.func72, Try.ntmps72
  go_wp2_with fail
  obtain ⟨W4, hW4⟩ : ∃ W4, W4 = ((W.alloc (.cells #[.slice (some ⟨BL, 0, none⟩) n cl] 22)).alloc (.cells #[.slice ax n cx] 22)).alloc (.cells #[.slice aw n cw] 22) := ⟨_, rfl⟩
  obtain ⟨s4, b4⟩ := W3h.out _ hW4
  have B4 := Lib.hid b4
  rw [← hW4]
  clear hW4 W3h b4
  refine (R.out _ s4).mono ?_
  rintro e w1 ⟨rfl, s1, b1⟩
  have E1 := Lib.hid s1.rl
  have E2 := Lib.hid (B4.out.trans b1)
  clear s1 b1 s4 R
  go_wp2_with fail
  go_end0
  exact ⟨rfl, E1.out, E2.out⟩
theorem row_away {W : World} {ax : Option Addr} {n : Nat} {xs : List Int} (h : Row W ax n xs) (hn : 0 < n) {B : Nat} (hB : W.heap.size ≤ B) : ∀ x, ax = some x → x.block ≠ B := by
  obtain ⟨b, o, rfl, hb, _⟩ := h.cell hn
  intro x hx
  cases hx
  show b ≠ B
  omega
def c11 (n s m : Int) : Int := if hasp n = false then 4 else if s < 1 ∨ n / 2 < s ∨ pwb s = false then 2 else if m = n then 0 else 5
theorem keep1 {w0 w w' : World} {B : Nat} {p : Addr} {u : Value} (hp : p.block < B) (hS : w.cell? p = some u ∧ Below B w0 w) (hb : Below B w w') : w'.cell? p = some u ∧ Below B w0 w' := ⟨(hb.cell hp).trans hS.1, hS.2.trans hb⟩
set_option maxRecDepth 100000 in
theorem pass_ok (s h n : Nat) (ax aw : Option Addr) (cx cw : Nat) (xs ws : List Int) (W : World) (hn : 2 * s * h = n) (hs : 0 < s) (hh : 0 < h) (hsm : n ≤ 16777216) (pn : hasp n = true) (ps : hasp s = true) (hx : Row W ax n xs) (hw : Row W aw n ws) :
    Calls Try.prog 50 #[.slice ax n cx, .int .i64 s, .slice aw n cw] W (GivesOk W n (passl xs ws s n)) := by
  have hpos : 0 < n := by rw [← hn]; exact Nat.mul_pos (by omega) hh
  have hle : s ≤ n / 2 := by rw [← hn, half_n]; exact Nat.le_mul_of_pos_right s hh
  have hmk := make_u64 n (by omega)
  have HH1 := fun w => stock_has (n : Int) w
  have HH2 := fun w => stock_has (s : Int) w
  rw [pn] at HH1
  rw [ps] at HH2
  have H1 := Lib.hid HH1
  have H2 := Lib.hid HH2
  have b1 : Below W.heap.size W (W.alloc (.cells (Array.replicate n (.int .u64 0)) 24)) := (Below.refl _ _).alloc (Nat.le_refl _) _
  have I := Lib.hid (stock_into W.heap.size s h n ax aw n cx cw xs ws (List.replicate n 0) (W.alloc (.cells (Array.replicate n (.int .u64 0)) 24)) hn hs hh hsm (hx.below b1) (hw.below b1) (RowAt.made W _ n) (by simp) (row_away hx hpos (Nat.le_refl _)) (row_away hw hpos (Nat.le_refl _)))
  have hd : decide ((n : Int) / 2 < (s : Int)) = false := decide_eq_false (by omega)
  have B1 := Lib.hid b1
  have HX := Lib.hid hx.small
  clear HH1 HH2 hx hw b1 hn pn ps
  go_enter Try.func50, Try.ntmps50
  go_wp2_with fail
  refine (H1.out _).mono ?_
  rintro e w1 ⟨rfl, rfl⟩
  go_wp2_with fail
  refine (H2.out _).mono ?_
  rintro e w1 ⟨rfl, rfl⟩
  go_wp2_with fail
  refine I.out.mono ?_
  rintro e w1 ⟨rfl, r1, bt⟩
  have R1 := Lib.hid r1
  have BT := Lib.hid (bt.b W.heap.size (Nat.le_refl _) (by simp))
  clear r1 bt
  go_wp2_with fail
  go_ret2
  exact ⟨_, _, rfl, Row.of_at R1.out (passl_wf _ _ _ _) (passl_len _ _ _ _) HX.out, B1.out.trans BT.out⟩
set_option maxRecDepth 100000 in
set_option maxHeartbeats 4000000 in
theorem r11_pass (s h n : Nat) (ax aw : Option Addr) (cx cw : Nat) (xs ws : List Int) (W : World) (hn : 2 * s * h = n) (hs : 0 < s) (hh : 0 < h) (hsm : n ≤ 16777216) (hx : Row W ax n xs) (hw : Row W aw n ws) :
    Calls Try.prog 54 #[.slice ax n cx, .int .i64 s, .slice aw n cw] W (Gives W n (passl xs ws s n)) := by
  have HL := Lib.hid (passl_len xs ws s n)
  have HA := Lib.hid (passl_at xs ws s n)
  have HN := Lib.hid hn
  have HX := Lib.hid hx
  have HY := Lib.hid hw
  have hsn : s ≤ n := by rw [← hn, Nat.mul_comm 2 s, Nat.mul_assoc]; exact Nat.le_mul_of_pos_right s (by omega)
  have hn2 : n / 2 = s * h := by rw [← hn, half_n]
  have hhn : h ≤ n := by rw [← hn]; exact Nat.le_mul_of_pos_left h (by omega)
  have HN2 := Lib.hid hn2
  have hnz : ((s : Int) == 0) = false := by simp; omega
  have hnz2 : ¬ ((s : Int) = 0) := by omega
  have hnz3 : ¬ (s = 0) := by omega
  clear hx hw hn hn2
  go_enter Try.func54, Try.ntmps54
  go_wp2_with fail
  go_loopw [7, 9, 10, 11, 12, 13, 14] (fun v i _ _ _ _ _ wr => ∃ k : Nat, k ≤ n ∧ i = .int .i64 k ∧ Hid (Owns wr W.heap.size 24 .u64 v (upto (passl xs ws s n) k)) ∧ Below W.heap.size W wr) (fun _ i _ _ _ _ _ _ => n - (intOf i).toNat)
  case atStart => exact ⟨0, Nat.zero_le _, rfl, Lib.hid (Owns.nil _ _ _ _), Below.refl _ _⟩
  case round =>
    obtain ⟨k, hk, rfl, HO, hB⟩ := hrel
    by_cases hlt : k < n
    · have HS := Lib.hid (upto_snoc (passl xs ws s n) k _ (by rw [HL.out]; exact hlt) (HA.out k hlt))
      have HK := Lib.hid (upto_len (passl xs ws s n) k (by rw [HL.out]; exact hk))
      obtain ⟨q, hq⟩ : ∃ q, k % s = q := ⟨_, rfl⟩
      obtain ⟨t, ht⟩ : ∃ t, k / s = t := ⟨_, rfl⟩
      have hqs : q < s := by rw [← hq]; exact Nat.mod_lt _ hs
      have hth : t < 2 * h := by
        rw [← ht, Nat.div_lt_iff_lt_mul hs]
        have : 2 * h * s = 2 * s * h := by rw [Nat.mul_assoc, Nat.mul_comm h s, ← Nat.mul_assoc]
        rw [this, HN.out]; exact hlt
      obtain ⟨f1, f2, f3, f4, f5, f6, f7, f8, f9⟩ := prod_facts s h (t / 2) q n HN.out (by omega) hqs
      rw [Nat.mul_add, ← HN2.out, ← Nat.add_assoc] at f2
      have e1 : (k : Int) % (s : Int) = (q : Int) := by rw [← hq]; rfl
      have e2 : (k : Int) / (s : Int) = (t : Int) := by rw [← ht]; rfl
      have e3 : ((k : Int)).tmod (s : Int) = (q : Int) := by rw [← hq]; rfl
      have e4 : ((k : Int)).tdiv (s : Int) = (t : Int) := by rw [← ht]; rfl
      have hpk : pk xs ws s n k = if t % 2 = 0 then fm (xs.getD (q + s * (t / 2)) 0 + xs.getD (q + s * (t / 2) + n / 2) 0) else fm ((xs.getD (q + s * (t / 2)) 0 - xs.getD (q + s * (t / 2) + n / 2) 0) * ws.getD (t / 2 * s) 0) := by
        unfold pk
        rw [hq, ht, fm_mul_l]
      have HPK := Lib.hid hpk
      clear hpk
      obtain ⟨p, hp⟩ : ∃ p, t / 2 = p := ⟨_, rfl⟩
      have e5 : (t : Int) / 2 = (p : Int) := by rw [← hp]; rfl
      have e6 : ((t : Int)).tdiv 2 = (p : Int) := by rw [← hp]; rfl
      rw [hp] at f1 f2 f3 f4 f5 f6 f7 f8 f9 HPK
      have m1 : ((s * p : Nat) : Int) = (s : Int) * (p : Int) := by push_cast; rfl
      have m2 : ((p * s : Nat) : Int) = (p : Int) * (s : Int) := by push_cast; rfl
      obtain ⟨b1, o1, rfl, hb1, hc1, x0, x1⟩ := HX.out.cell f1
      obtain ⟨b1', o1', ee, _, hc2, y0, y1⟩ := HX.out.cell f2
      cases ee
      obtain ⟨b2, o2, rfl, hb2, hc3, v0, v1⟩ := HY.out.cell f5
      generalize xs.getD (q + s * p) 0 = x at *
      generalize xs.getD (q + s * p + n / 2) 0 = y at *
      generalize ws.getD (p * s) 0 = v at *
      have hc1' : wr.cell? ⟨b1, o1 + (q + s * p), none⟩ = some (.int .u64 x) := (hB.cell (p := ⟨b1, _, none⟩) hb1).trans hc1
      have hc2' : wr.cell? ⟨b1, o1 + (q + s * p + n / 2), none⟩ = some (.int .u64 y) := (hB.cell (p := ⟨b1, _, none⟩) hb1).trans hc2
      have hc3' : wr.cell? ⟨b2, o2 + p * s, none⟩ = some (.int .u64 v) := (hB.cell (p := ⟨b2, _, none⟩) hb2).trans hc3
      have m3 : ((q + s * p : Nat) : Int) = (q : Int) + (s : Int) * (p : Int) := by push_cast; rfl
      have m4 : ((q + s * p + n / 2 : Nat) : Int) = (q : Int) + (s : Int) * (p : Int) + (n : Int) / 2 := by push_cast; rfl
      have g1 : 0 ≤ (s : Int) * (p : Int) := by omega
      have g2 : (s : Int) * (p : Int) ≤ 16777216 := by omega
      have g3 : (q : Int) + (s : Int) * (p : Int) < (n : Int) := by omega
      have g4 : (q : Int) + (s : Int) * (p : Int) + (n : Int) / 2 < (n : Int) := by omega
      have g5 : 0 ≤ (p : Int) * (s : Int) := by omega
      have g6 : (p : Int) * (s : Int) < (n : Int) := by omega
      have t1 : ((q : Int) + (s : Int) * (p : Int)).toNat = q + s * p := by omega
      have t2 : ((q : Int) + (s : Int) * (p : Int) + (n : Int) / 2).toNat = q + s * p + n / 2 := by omega
      have t3 : ((p : Int) * (s : Int)).toNat = p * s := by omega
      have E1 := Lib.hid e1
      have E2 := Lib.hid e2
      have E5 := Lib.hid e5
      have hd : decide ((k : Int) < (n : Int)) = true := decide_eq_true (by omega)
      have hbz2 : b2 < wr.heap.size := by have := hB.size; omega
      have htn : t ≤ 33554432 := by omega
      have hpt : p ≤ t := by omega
      clear hc1 hc2 hc3 m1 m2 m3 m4 hq ht hp
      have HOq := Lib.hid (fun r => HO.out.below (below_drewN (Below.refl wr.heap.size wr) r))
      have HBq := Lib.hid (fun r => below_drewN hB r)
      have hc3q : ∀ r, (wr.drewN r).cell? ⟨b2, o2 + p * s, none⟩ = some (.int .u64 v) := fun r => hc3'
      have HCq := Lib.hid hc3q
      clear hc3q
      by_cases hev : t % 2 = 0
      · have e7 : (t : Int) % 2 = 0 := by omega
        have e8 : ((t : Int)).tmod 2 = 0 := by rw [show ((t : Int)).tmod 2 = ((t % 2 : Nat) : Int) from rfl, hev]; rfl
        have hfin := HPK.out.trans (if_pos hev)
        rw [hfin] at HS
        clear hfin hev HPK
        go_wp2_with fail
        go_quiet (fail)
        go_wp2_with fail
        refine (r2_red x _ x0 x1).mono ?_
        rintro e w1 ⟨rfl, rfl⟩
        go_wp2_with fail
        refine (r2_red y _ y0 y1).mono ?_
        rintro e w1 ⟨rfl, rfl⟩
        have HO2 := Lib.hid (HOq.out nq)
        have HB2 := Lib.hid (HBq.out nq)
        clear hc1' hc2' hc3' HOq HBq HCq HO hB
        have hsz : W.heap.size ≤ (wr.drewN nq).heap.size := HB2.out.size
        generalize wr.drewN nq = wd at *
        go_wp2_with (first | (go_at_call 64; (with_reducible refine (r2_addf _ _ _).mono ?_); rintro e w' ⟨rfl, rfl⟩) | (at_builtin; refine append_one Try.underlying22 info_u64 rfl _ _ rfl rfl HO2.out rfl hsz (by rw [HK.out]; omega) ?_; intro v' w' hO hb'))
        have HO3 := Lib.hid hO
        clear hO
        go_wp2_with fail
        go_roundw
        case rel => exact ⟨k + 1, by omega, by go_num, by rw [← HS.out]; exact HO3, HB2.out.trans hb'⟩
        case measure => (first | (simp [intOf]; done) | (simp [intOf]; omega) | (simp only [intOf]; omega))
      · have e7 : (t : Int) % 2 = 1 := by omega
        have e8 : ((t : Int)).tmod 2 = 1 := by rw [show ((t : Int)).tmod 2 = ((t % 2 : Nat) : Int) from rfl]; omega
        have hfin := HPK.out.trans (if_neg hev)
        rw [hfin] at HS
        clear hfin hev HPK
        go_wp2_with fail
        go_quiet (fail)
        go_wp2_with fail
        refine (r2_red x _ x0 x1).mono ?_
        rintro e w1 ⟨rfl, rfl⟩
        go_wp2_with fail
        refine (r2_red y _ y0 y1).mono ?_
        rintro e w1 ⟨rfl, rfl⟩
        have HO2 := Lib.hid (HOq.out nq)
        have HB2 := Lib.hid (HBq.out nq)
        have hc := HCq.out nq
        clear hc1' hc2' hc3' HOq HBq HCq HO hB
        have hsz : W.heap.size ≤ (wr.drewN nq).heap.size := HB2.out.size
        replace hbz2 : b2 < (wr.drewN nq).heap.size := hbz2
        generalize wr.drewN nq = wd at *
        have hB := HB2.out
        have hw1 : IntKind.i64.wrap ((p : Int) * (s : Int)) = (p : Int) * (s : Int) := IntWalk.i64_in _ (by omega)
        go_wp2_with fail
        go_region_held3 (fun w' => w'.cell? ⟨b2, o2 + p * s, none⟩ = some (.int .u64 v) ∧ Below W.heap.size W w') (first | exact ⟨hc, hB.drew⟩ | assumption | exact keep1 (p := ⟨b2, o2 + p * s, none⟩) hb2 ⟨hc, hB⟩ (((Below.refl _ _).alloc hB.size _).drew) | (refine keep1 (p := ⟨b2, o2 + p * s, none⟩) hb2 ?_ hb3; assumption)) (first | (go_at_call 46; (with_reducible refine (r2_red _ _ v0 v1).mono ?_); rintro e w' ⟨rfl, rfl⟩) | (go_at_call 74; (with_reducible refine (r2_subf _ _ _).mono ?_); rintro e w' ⟨rfl, rfl⟩) | (go_at_call 28; (with_reducible refine (r2_mulf _ _ _).mono ?_); rintro e w' ⟨rfl, rfl⟩) | (refine step_plain ?_ ?_; rfl; apply wp_append_one (y := fm ((x - y) * v)) (ys := upto (passl xs ws s n) k) (H := wd.heap.size) Try.underlying22 info_u64; rfl; rfl; (refine Owns.below HO2.out ?_); (focus (go_grown)); rfl; (focus (simp [go_sem]; done)); (focus (have := hB.size; simp; omega)); (focus (rw [HK.out]; omega)); intro v' w' hO hb3))
        have HO3 := Lib.hid (by assumption : Owns _ _ _ _ _ (upto (passl xs ws s n) k ++ _))
        have hS3 := Lib.hid (by assumption : _ ∧ Below W.heap.size W _)
        go_wp2_with fail
        go_roundw
        case rel => exact ⟨k + 1, by omega, by go_num, by rw [← HS.out]; exact HO3, hS3.out.2⟩
        case measure => (first | (simp [intOf]; done) | (simp [intOf]; omega) | (simp only [intOf]; omega))
    · obtain rfl : k = n := by omega
      have hd : decide ((k : Int) < (k : Int)) = false := decide_eq_false (by omega)
      go_wp2_with fail
      go_ret
      exact gives_own rfl (by rw [← upto_full (passl xs ws s k) k HL.out]; exact HO.out) hB (passl_wf _ _ _ _) HL.out HX.out.small
end Go.Proofs.Ytjiedfncamdojaa
