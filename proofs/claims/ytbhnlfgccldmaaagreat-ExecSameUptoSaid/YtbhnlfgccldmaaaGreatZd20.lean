/- Put together by program (merge2.py): Small4 Small5 Small6 Small7 Small8 Exb. -/
import Derived.BigQuiet
import Derived.Test.YtbhnlfgccldmaaaGreatZd14
import Derived.Test.YtbhnlfgccldmaaaGreatZd19
/- Package small: three, five. MADE BY wip/bin/gensum.py -/
namespace Go.Proofs.YtbhnlfgccldmaaaGreat
open Go.ChangeShapes Go.WideShapes Go.ChangeAt Go.RowKit
set_option linter.unusedVariables false
theorem rowat5 (w : World) (a b c d e : Int) : RowAt (w.alloc (.cells #[.int .u64 a, .int .u64 b, .int .u64 c, .int .u64 d, .int .u64 e] 62)) w.heap.size 62 [a, b, c, d, e] := by
  unfold RowAt; rw [heap_alloc_new]; rfl
theorem wf_all {l : List Int} (h : ∀ z ∈ l, 0 ≤ z ∧ z ≤ 18446744073709551615) : ∀ z ∈ l, (Lit.int .u64 z).wf = true := fun z hz => WalkArith.wf_u64 ⟨(h z hz).1, (h z hz).2⟩
theorem c_sumrow {w : World} {p : Option Addr} {n c : Nat} {xs : List Int} (h : Row w p n xs) : Calls Tryz.prog 180 #[.slice p n c] w fun e w' => e = .returned (.int .u64 (fm xs.sum)) ∧ w = w' := by
  have := gold_sum p c xs w h.reads h.wf (by have := h.len; have := h.small; omega)
  unfold fsum at this
  rw [h.len] at this
  rw [List.take_of_length_le (by rw [h.len]; exact Nat.le_refl _)] at this
  exact this
theorem c_sum3 {w : World} {p : Option Addr} {n c : Nat} {x y z : Int} (h : Row w p n [x, y, z]) : Calls Tryz.prog 180 #[.slice p n c] w fun e w' => e = .returned (.int .u64 (fm (x + (y + z)))) ∧ w = w' := by
  have := c_sumrow (c := c) h
  simp only [List.sum_cons, List.sum_nil, Int.add_zero] at this
  exact this
theorem c_sum5 {w : World} {p : Option Addr} {n c : Nat} {x y z u v : Int} (h : Row w p n [x, y, z, u, v]) : Calls Tryz.prog 180 #[.slice p n c] w fun e w' => e = .returned (.int .u64 (fm (x + (y + (z + (u + v)))))) ∧ w = w' := by
  have := c_sumrow (c := c) h
  simp only [List.sum_cons, List.sum_nil, Int.add_zero] at this
  exact this
set_option maxRecDepth 100000 in
set_option maxHeartbeats 1000000 in
theorem small_three (B o cp : Nat) (r : Int) (r0 : 0 ≤ r) (r1 : r ≤ 18446744073709551615) (zs : List Int) (xa xb xc : Int) (W w0 : World) (hI : InRow W w0 B zs) (ho : o + 3 ≤ zs.length) (hxa : zs.getD o 0 = xa) (xa0 : 0 ≤ xa) (xa1 : xa ≤ 18446744073709551615) (hxb : zs.getD (o + 1) 0 = xb) (xb0 : 0 ≤ xb) (xb1 : xb ≤ 18446744073709551615) (hxc : zs.getD (o + 2) 0 = xc) (xc0 : 0 ≤ xc) (xc1 : xc ≤ 18446744073709551615) :
    Calls Tryz.prog 205 #[.slice (some ⟨B, o, none⟩) 3 cp, .int .u64 r] w0 fun e w' => e = .returned (.tuple #[]) ∧ InRow W w' B (((zs.set o (fm (xa + (xb + xc)))).set (o + 1) (fm (xa + (fm (xb * r) + fm (xc * (fm (r * r))))))).set (o + 2) (fm (xa + (fm (xb * (fm (r * r))) + fm (xc * r))))) := by
  have cq0 : w0.cell? ⟨B, o, none⟩ = some (.int .u64 xa) := by rw [hI.r.cell (by omega), hxa]
  have cq1 : w0.cell? ⟨B, o + 1, none⟩ = some (.int .u64 xb) := by rw [hI.r.cell (by omega), hxb]
  have cq2 : w0.cell? ⟨B, o + 2, none⟩ = some (.int .u64 xc) := by rw [hI.r.cell (by omega), hxc]
  have HIq := Lib.hid (fun q => hI.below (below_drewN (Below.refl w0.heap.size w0) q))
  have HO := Lib.hid ho
  clear hI hxa hxb hxc
  go_enter Tryz.func205, Tryz.ntmps205
  go_wp2_with fail
  go_quiet (fail)
  go_wp2_with fail
  have HI := Lib.hid (HIq.out nq)
  clear HIq cq0 cq1 cq2
  generalize w0.drewN nq = wd at *
  refine (gold_mul r r _ r0 r1 r0 r1).mono ?_
  rintro e w1 ⟨rfl, hb⟩
  have HI2 := Lib.hid (HI.out.below hb)
  clear HI hb
  have HI := HI2
  clear HI2
  go_wp2_with fail
  have HR := Lib.hid (Row.of_at (rowat3 _ (xa) (xb) (xc) : RowAt (World.alloc w1 (.cells #[.int .u64 xa, .int .u64 xb, .int .u64 xc] 62)) w1.heap.size 62 _) (wf_all (by intro z hz; simp only [List.mem_cons, List.not_mem_nil, or_false] at hz; rcases hz with rfl | rfl | rfl <;> first | exact ⟨by assumption, by assumption⟩ | exact ⟨fm_lo _, fm_hi' _⟩)) (n := 3) rfl (by omega))
  have HI2 := Lib.hid (HI.out.below ((Below.refl w1.heap.size w1).alloc (Nat.le_refl _) (.cells #[.int .u64 xa, .int .u64 xb, .int .u64 xc] 62)))
  clear HI; have HI := HI2; clear HI2
  obtain ⟨w2, hw2⟩ : ∃ w2, w2 = w1.alloc (.cells #[.int .u64 xa, .int .u64 xb, .int .u64 xc] 62) := ⟨_, rfl⟩
  rw [← hw2] at HR HI ⊢
  clear hw2
  refine (c_sum3 HR.out).mono ?_
  rintro e w3 ⟨rfl, rfl⟩
  clear HR
  have f0 := HI.out.r.free o
  have cc0 := HI.out.r.cell (k := o) (by simpa using (show o < zs.length by omega))
  have hlt := HI.out.r.lt
  have HI2 := Lib.hid (HI.out.set o (fm (xa + (xb + xc))))
  clear HI; have HI := HI2; clear HI2
  go_wp2_with fail
  clear f0 cc0 hlt
  generalize hw3 : w2.setCell ⟨B, o, none⟩ (.int .u64 (fm (xa + (xb + xc)))) = w1 at *
  clear hw3
  refine (gold_mul xb r _ xb0 xb1 r0 r1).mono ?_
  rintro e w1 ⟨rfl, hb⟩
  have HI2 := Lib.hid (HI.out.below hb)
  clear HI hb
  have HI := HI2
  clear HI2
  go_wp2_with fail
  refine (gold_mul xc (fm (r * r)) _ xc0 xc1 (fm_lo _) (fm_hi' _)).mono ?_
  rintro e w1 ⟨rfl, hb⟩
  have HI2 := Lib.hid (HI.out.below hb)
  clear HI hb
  have HI := HI2
  clear HI2
  go_wp2_with fail
  have HR := Lib.hid (Row.of_at (rowat3 _ (xa) (fm (xb * r)) (fm (xc * (fm (r * r)))) : RowAt (World.alloc w1 (.cells #[.int .u64 xa, .int .u64 (fm (xb * r)), .int .u64 (fm (xc * (fm (r * r))))] 62)) w1.heap.size 62 _) (wf_all (by intro z hz; simp only [List.mem_cons, List.not_mem_nil, or_false] at hz; rcases hz with rfl | rfl | rfl <;> first | exact ⟨by assumption, by assumption⟩ | exact ⟨fm_lo _, fm_hi' _⟩)) (n := 3) rfl (by omega))
  have HI2 := Lib.hid (HI.out.below ((Below.refl w1.heap.size w1).alloc (Nat.le_refl _) (.cells #[.int .u64 xa, .int .u64 (fm (xb * r)), .int .u64 (fm (xc * (fm (r * r))))] 62)))
  clear HI; have HI := HI2; clear HI2
  obtain ⟨w2, hw2⟩ : ∃ w2, w2 = w1.alloc (.cells #[.int .u64 xa, .int .u64 (fm (xb * r)), .int .u64 (fm (xc * (fm (r * r))))] 62) := ⟨_, rfl⟩
  rw [← hw2] at HR HI ⊢
  clear hw2
  refine (c_sum3 HR.out).mono ?_
  rintro e w3 ⟨rfl, rfl⟩
  clear HR
  have f0 := HI.out.r.free (o + 1)
  have cc0 := HI.out.r.cell (k := (o + 1)) (by simpa using (show (o + 1) < zs.length by omega))
  have hlt := HI.out.r.lt
  have HI2 := Lib.hid (HI.out.set (o + 1) (fm (xa + (fm (xb * r) + fm (xc * (fm (r * r)))))))
  clear HI; have HI := HI2; clear HI2
  go_wp2_with fail
  clear f0 cc0 hlt
  generalize hw3 : w2.setCell ⟨B, o + 1, none⟩ (.int .u64 (fm (xa + (fm (xb * r) + fm (xc * (fm (r * r))))))) = w1 at *
  clear hw3
  refine (gold_mul xb (fm (r * r)) _ xb0 xb1 (fm_lo _) (fm_hi' _)).mono ?_
  rintro e w1 ⟨rfl, hb⟩
  have HI2 := Lib.hid (HI.out.below hb)
  clear HI hb
  have HI := HI2
  clear HI2
  go_wp2_with fail
  refine (gold_mul xc r _ xc0 xc1 r0 r1).mono ?_
  rintro e w1 ⟨rfl, hb⟩
  have HI2 := Lib.hid (HI.out.below hb)
  clear HI hb
  have HI := HI2
  clear HI2
  go_wp2_with fail
  have HR := Lib.hid (Row.of_at (rowat3 _ (xa) (fm (xb * (fm (r * r)))) (fm (xc * r)) : RowAt (World.alloc w1 (.cells #[.int .u64 xa, .int .u64 (fm (xb * (fm (r * r)))), .int .u64 (fm (xc * r))] 62)) w1.heap.size 62 _) (wf_all (by intro z hz; simp only [List.mem_cons, List.not_mem_nil, or_false] at hz; rcases hz with rfl | rfl | rfl <;> first | exact ⟨by assumption, by assumption⟩ | exact ⟨fm_lo _, fm_hi' _⟩)) (n := 3) rfl (by omega))
  have HI2 := Lib.hid (HI.out.below ((Below.refl w1.heap.size w1).alloc (Nat.le_refl _) (.cells #[.int .u64 xa, .int .u64 (fm (xb * (fm (r * r)))), .int .u64 (fm (xc * r))] 62)))
  clear HI; have HI := HI2; clear HI2
  obtain ⟨w2, hw2⟩ : ∃ w2, w2 = w1.alloc (.cells #[.int .u64 xa, .int .u64 (fm (xb * (fm (r * r)))), .int .u64 (fm (xc * r))] 62) := ⟨_, rfl⟩
  rw [← hw2] at HR HI ⊢
  clear hw2
  refine (c_sum3 HR.out).mono ?_
  rintro e w3 ⟨rfl, rfl⟩
  clear HR
  have f0 := HI.out.r.free (o + 2)
  have cc0 := HI.out.r.cell (k := (o + 2)) (by simpa using (show (o + 2) < zs.length by omega))
  have hlt := HI.out.r.lt
  have HI2 := Lib.hid (HI.out.set (o + 2) (fm (xa + (fm (xb * (fm (r * r))) + fm (xc * r)))))
  clear HI; have HI := HI2; clear HI2
  go_wp2_with fail
  clear f0 cc0 hlt
  go_end0
  exact ⟨rfl, HI.out⟩
set_option maxRecDepth 100000 in
set_option maxHeartbeats 1000000 in
theorem small_five (B o cp : Nat) (r : Int) (r0 : 0 ≤ r) (r1 : r ≤ 18446744073709551615) (zs : List Int) (xa xb xc xd xe : Int) (W w0 : World) (hI : InRow W w0 B zs) (ho : o + 5 ≤ zs.length) (hxa : zs.getD o 0 = xa) (xa0 : 0 ≤ xa) (xa1 : xa ≤ 18446744073709551615) (hxb : zs.getD (o + 1) 0 = xb) (xb0 : 0 ≤ xb) (xb1 : xb ≤ 18446744073709551615) (hxc : zs.getD (o + 2) 0 = xc) (xc0 : 0 ≤ xc) (xc1 : xc ≤ 18446744073709551615) (hxd : zs.getD (o + 3) 0 = xd) (xd0 : 0 ≤ xd) (xd1 : xd ≤ 18446744073709551615) (hxe : zs.getD (o + 4) 0 = xe) (xe0 : 0 ≤ xe) (xe1 : xe ≤ 18446744073709551615) :
    Calls Tryz.prog 207 #[.slice (some ⟨B, o, none⟩) 5 cp, .int .u64 r] w0 fun e w' => e = .returned (.tuple #[]) ∧ InRow W w' B (((((zs.set o (fm (xa + (xb + (xc + (xd + xe)))))).set (o + 1) (fm (xa + (fm (xb * r) + (fm (xc * (fm (r * r))) + (fm (xd * (fm (fm (r * r) * r))) + fm (xe * (fm (fm (r * r) * fm (r * r)))))))))).set (o + 2) (fm (xa + (fm (xb * (fm (r * r))) + (fm (xc * (fm (fm (r * r) * fm (r * r)))) + (fm (xd * r) + fm (xe * (fm (fm (r * r) * r))))))))).set (o + 3) (fm (xa + (fm (xb * (fm (fm (r * r) * r))) + (fm (xc * r) + (fm (xd * (fm (fm (r * r) * fm (r * r)))) + fm (xe * (fm (r * r))))))))).set (o + 4) (fm (xa + (fm (xb * (fm (fm (r * r) * fm (r * r)))) + (fm (xc * (fm (fm (r * r) * r))) + (fm (xd * (fm (r * r))) + fm (xe * r))))))) := by
  have cq0 : w0.cell? ⟨B, o, none⟩ = some (.int .u64 xa) := by rw [hI.r.cell (by omega), hxa]
  have cq1 : w0.cell? ⟨B, o + 1, none⟩ = some (.int .u64 xb) := by rw [hI.r.cell (by omega), hxb]
  have cq2 : w0.cell? ⟨B, o + 2, none⟩ = some (.int .u64 xc) := by rw [hI.r.cell (by omega), hxc]
  have cq3 : w0.cell? ⟨B, o + 3, none⟩ = some (.int .u64 xd) := by rw [hI.r.cell (by omega), hxd]
  have cq4 : w0.cell? ⟨B, o + 4, none⟩ = some (.int .u64 xe) := by rw [hI.r.cell (by omega), hxe]
  have HIq := Lib.hid (fun q => hI.below (below_drewN (Below.refl w0.heap.size w0) q))
  have HO := Lib.hid ho
  clear hI hxa hxb hxc hxd hxe
  go_enter Tryz.func207, Tryz.ntmps207
  go_wp2_with fail
  go_quiet (fail)
  go_wp2_with fail
  have HI := Lib.hid (HIq.out nq)
  clear HIq cq0 cq1 cq2 cq3 cq4
  generalize w0.drewN nq = wd at *
  refine (gold_mul r r _ r0 r1 r0 r1).mono ?_
  rintro e w1 ⟨rfl, hb⟩
  have HI2 := Lib.hid (HI.out.below hb)
  clear HI hb
  have HI := HI2
  clear HI2
  go_wp2_with fail
  refine (gold_mul (fm (r * r)) r _ (fm_lo _) (fm_hi' _) r0 r1).mono ?_
  rintro e w1 ⟨rfl, hb⟩
  have HI2 := Lib.hid (HI.out.below hb)
  clear HI hb
  have HI := HI2
  clear HI2
  go_wp2_with fail
  refine (gold_mul (fm (r * r)) (fm (r * r)) _ (fm_lo _) (fm_hi' _) (fm_lo _) (fm_hi' _)).mono ?_
  rintro e w1 ⟨rfl, hb⟩
  have HI2 := Lib.hid (HI.out.below hb)
  clear HI hb
  have HI := HI2
  clear HI2
  go_wp2_with fail
  have HR := Lib.hid (Row.of_at (rowat5 _ (xa) (xb) (xc) (xd) (xe) : RowAt (World.alloc w1 (.cells #[.int .u64 xa, .int .u64 xb, .int .u64 xc, .int .u64 xd, .int .u64 xe] 62)) w1.heap.size 62 _) (wf_all (by intro z hz; simp only [List.mem_cons, List.not_mem_nil, or_false] at hz; rcases hz with rfl | rfl | rfl | rfl | rfl <;> first | exact ⟨by assumption, by assumption⟩ | exact ⟨fm_lo _, fm_hi' _⟩)) (n := 5) rfl (by omega))
  have HI2 := Lib.hid (HI.out.below ((Below.refl w1.heap.size w1).alloc (Nat.le_refl _) (.cells #[.int .u64 xa, .int .u64 xb, .int .u64 xc, .int .u64 xd, .int .u64 xe] 62)))
  clear HI; have HI := HI2; clear HI2
  obtain ⟨w2, hw2⟩ : ∃ w2, w2 = w1.alloc (.cells #[.int .u64 xa, .int .u64 xb, .int .u64 xc, .int .u64 xd, .int .u64 xe] 62) := ⟨_, rfl⟩
  rw [← hw2] at HR HI ⊢
  clear hw2
  refine (c_sum5 HR.out).mono ?_
  rintro e w3 ⟨rfl, rfl⟩
  clear HR
  have f0 := HI.out.r.free o
  have cc0 := HI.out.r.cell (k := o) (by simpa using (show o < zs.length by omega))
  have hlt := HI.out.r.lt
  have HI2 := Lib.hid (HI.out.set o (fm (xa + (xb + (xc + (xd + xe))))))
  clear HI; have HI := HI2; clear HI2
  go_wp2_with fail
  clear f0 cc0 hlt
  generalize hw3 : w2.setCell ⟨B, o, none⟩ (.int .u64 (fm (xa + (xb + (xc + (xd + xe)))))) = w1 at *
  clear hw3
  refine (gold_mul xb r _ xb0 xb1 r0 r1).mono ?_
  rintro e w1 ⟨rfl, hb⟩
  have HI2 := Lib.hid (HI.out.below hb)
  clear HI hb
  have HI := HI2
  clear HI2
  go_wp2_with fail
  refine (gold_mul xc (fm (r * r)) _ xc0 xc1 (fm_lo _) (fm_hi' _)).mono ?_
  rintro e w1 ⟨rfl, hb⟩
  have HI2 := Lib.hid (HI.out.below hb)
  clear HI hb
  have HI := HI2
  clear HI2
  go_wp2_with fail
  refine (gold_mul xd (fm (fm (r * r) * r)) _ xd0 xd1 (fm_lo _) (fm_hi' _)).mono ?_
  rintro e w1 ⟨rfl, hb⟩
  have HI2 := Lib.hid (HI.out.below hb)
  clear HI hb
  have HI := HI2
  clear HI2
  go_wp2_with fail
  refine (gold_mul xe (fm (fm (r * r) * fm (r * r))) _ xe0 xe1 (fm_lo _) (fm_hi' _)).mono ?_
  rintro e w1 ⟨rfl, hb⟩
  have HI2 := Lib.hid (HI.out.below hb)
  clear HI hb
  have HI := HI2
  clear HI2
  go_wp2_with fail
  have HR := Lib.hid (Row.of_at (rowat5 _ (xa) (fm (xb * r)) (fm (xc * (fm (r * r)))) (fm (xd * (fm (fm (r * r) * r)))) (fm (xe * (fm (fm (r * r) * fm (r * r))))) : RowAt (World.alloc w1 (.cells #[.int .u64 xa, .int .u64 (fm (xb * r)), .int .u64 (fm (xc * (fm (r * r)))), .int .u64 (fm (xd * (fm (fm (r * r) * r)))), .int .u64 (fm (xe * (fm (fm (r * r) * fm (r * r)))))] 62)) w1.heap.size 62 _) (wf_all (by intro z hz; simp only [List.mem_cons, List.not_mem_nil, or_false] at hz; rcases hz with rfl | rfl | rfl | rfl | rfl <;> first | exact ⟨by assumption, by assumption⟩ | exact ⟨fm_lo _, fm_hi' _⟩)) (n := 5) rfl (by omega))
  have HI2 := Lib.hid (HI.out.below ((Below.refl w1.heap.size w1).alloc (Nat.le_refl _) (.cells #[.int .u64 xa, .int .u64 (fm (xb * r)), .int .u64 (fm (xc * (fm (r * r)))), .int .u64 (fm (xd * (fm (fm (r * r) * r)))), .int .u64 (fm (xe * (fm (fm (r * r) * fm (r * r)))))] 62)))
  clear HI; have HI := HI2; clear HI2
  obtain ⟨w2, hw2⟩ : ∃ w2, w2 = w1.alloc (.cells #[.int .u64 xa, .int .u64 (fm (xb * r)), .int .u64 (fm (xc * (fm (r * r)))), .int .u64 (fm (xd * (fm (fm (r * r) * r)))), .int .u64 (fm (xe * (fm (fm (r * r) * fm (r * r)))))] 62) := ⟨_, rfl⟩
  rw [← hw2] at HR HI ⊢
  clear hw2
  refine (c_sum5 HR.out).mono ?_
  rintro e w3 ⟨rfl, rfl⟩
  clear HR
  have f0 := HI.out.r.free (o + 1)
  have cc0 := HI.out.r.cell (k := (o + 1)) (by simpa using (show (o + 1) < zs.length by omega))
  have hlt := HI.out.r.lt
  have HI2 := Lib.hid (HI.out.set (o + 1) (fm (xa + (fm (xb * r) + (fm (xc * (fm (r * r))) + (fm (xd * (fm (fm (r * r) * r))) + fm (xe * (fm (fm (r * r) * fm (r * r))))))))))
  clear HI; have HI := HI2; clear HI2
  go_wp2_with fail
  clear f0 cc0 hlt
  generalize hw3 : w2.setCell ⟨B, o + 1, none⟩ (.int .u64 (fm (xa + (fm (xb * r) + (fm (xc * (fm (r * r))) + (fm (xd * (fm (fm (r * r) * r))) + fm (xe * (fm (fm (r * r) * fm (r * r)))))))))) = w1 at *
  clear hw3
  refine (gold_mul xb (fm (r * r)) _ xb0 xb1 (fm_lo _) (fm_hi' _)).mono ?_
  rintro e w1 ⟨rfl, hb⟩
  have HI2 := Lib.hid (HI.out.below hb)
  clear HI hb
  have HI := HI2
  clear HI2
  go_wp2_with fail
  refine (gold_mul xc (fm (fm (r * r) * fm (r * r))) _ xc0 xc1 (fm_lo _) (fm_hi' _)).mono ?_
  rintro e w1 ⟨rfl, hb⟩
  have HI2 := Lib.hid (HI.out.below hb)
  clear HI hb
  have HI := HI2
  clear HI2
  go_wp2_with fail
  refine (gold_mul xd r _ xd0 xd1 r0 r1).mono ?_
  rintro e w1 ⟨rfl, hb⟩
  have HI2 := Lib.hid (HI.out.below hb)
  clear HI hb
  have HI := HI2
  clear HI2
  go_wp2_with fail
  refine (gold_mul xe (fm (fm (r * r) * r)) _ xe0 xe1 (fm_lo _) (fm_hi' _)).mono ?_
  rintro e w1 ⟨rfl, hb⟩
  have HI2 := Lib.hid (HI.out.below hb)
  clear HI hb
  have HI := HI2
  clear HI2
  go_wp2_with fail
  have HR := Lib.hid (Row.of_at (rowat5 _ (xa) (fm (xb * (fm (r * r)))) (fm (xc * (fm (fm (r * r) * fm (r * r))))) (fm (xd * r)) (fm (xe * (fm (fm (r * r) * r)))) : RowAt (World.alloc w1 (.cells #[.int .u64 xa, .int .u64 (fm (xb * (fm (r * r)))), .int .u64 (fm (xc * (fm (fm (r * r) * fm (r * r))))), .int .u64 (fm (xd * r)), .int .u64 (fm (xe * (fm (fm (r * r) * r))))] 62)) w1.heap.size 62 _) (wf_all (by intro z hz; simp only [List.mem_cons, List.not_mem_nil, or_false] at hz; rcases hz with rfl | rfl | rfl | rfl | rfl <;> first | exact ⟨by assumption, by assumption⟩ | exact ⟨fm_lo _, fm_hi' _⟩)) (n := 5) rfl (by omega))
  have HI2 := Lib.hid (HI.out.below ((Below.refl w1.heap.size w1).alloc (Nat.le_refl _) (.cells #[.int .u64 xa, .int .u64 (fm (xb * (fm (r * r)))), .int .u64 (fm (xc * (fm (fm (r * r) * fm (r * r))))), .int .u64 (fm (xd * r)), .int .u64 (fm (xe * (fm (fm (r * r) * r))))] 62)))
  clear HI; have HI := HI2; clear HI2
  obtain ⟨w2, hw2⟩ : ∃ w2, w2 = w1.alloc (.cells #[.int .u64 xa, .int .u64 (fm (xb * (fm (r * r)))), .int .u64 (fm (xc * (fm (fm (r * r) * fm (r * r))))), .int .u64 (fm (xd * r)), .int .u64 (fm (xe * (fm (fm (r * r) * r))))] 62) := ⟨_, rfl⟩
  rw [← hw2] at HR HI ⊢
  clear hw2
  refine (c_sum5 HR.out).mono ?_
  rintro e w3 ⟨rfl, rfl⟩
  clear HR
  have f0 := HI.out.r.free (o + 2)
  have cc0 := HI.out.r.cell (k := (o + 2)) (by simpa using (show (o + 2) < zs.length by omega))
  have hlt := HI.out.r.lt
  have HI2 := Lib.hid (HI.out.set (o + 2) (fm (xa + (fm (xb * (fm (r * r))) + (fm (xc * (fm (fm (r * r) * fm (r * r)))) + (fm (xd * r) + fm (xe * (fm (fm (r * r) * r)))))))))
  clear HI; have HI := HI2; clear HI2
  go_wp2_with fail
  clear f0 cc0 hlt
  generalize hw3 : w2.setCell ⟨B, o + 2, none⟩ (.int .u64 (fm (xa + (fm (xb * (fm (r * r))) + (fm (xc * (fm (fm (r * r) * fm (r * r)))) + (fm (xd * r) + fm (xe * (fm (fm (r * r) * r))))))))) = w1 at *
  clear hw3
  refine (gold_mul xb (fm (fm (r * r) * r)) _ xb0 xb1 (fm_lo _) (fm_hi' _)).mono ?_
  rintro e w1 ⟨rfl, hb⟩
  have HI2 := Lib.hid (HI.out.below hb)
  clear HI hb
  have HI := HI2
  clear HI2
  go_wp2_with fail
  refine (gold_mul xc r _ xc0 xc1 r0 r1).mono ?_
  rintro e w1 ⟨rfl, hb⟩
  have HI2 := Lib.hid (HI.out.below hb)
  clear HI hb
  have HI := HI2
  clear HI2
  go_wp2_with fail
  refine (gold_mul xd (fm (fm (r * r) * fm (r * r))) _ xd0 xd1 (fm_lo _) (fm_hi' _)).mono ?_
  rintro e w1 ⟨rfl, hb⟩
  have HI2 := Lib.hid (HI.out.below hb)
  clear HI hb
  have HI := HI2
  clear HI2
  go_wp2_with fail
  refine (gold_mul xe (fm (r * r)) _ xe0 xe1 (fm_lo _) (fm_hi' _)).mono ?_
  rintro e w1 ⟨rfl, hb⟩
  have HI2 := Lib.hid (HI.out.below hb)
  clear HI hb
  have HI := HI2
  clear HI2
  go_wp2_with fail
  have HR := Lib.hid (Row.of_at (rowat5 _ (xa) (fm (xb * (fm (fm (r * r) * r)))) (fm (xc * r)) (fm (xd * (fm (fm (r * r) * fm (r * r))))) (fm (xe * (fm (r * r)))) : RowAt (World.alloc w1 (.cells #[.int .u64 xa, .int .u64 (fm (xb * (fm (fm (r * r) * r)))), .int .u64 (fm (xc * r)), .int .u64 (fm (xd * (fm (fm (r * r) * fm (r * r))))), .int .u64 (fm (xe * (fm (r * r))))] 62)) w1.heap.size 62 _) (wf_all (by intro z hz; simp only [List.mem_cons, List.not_mem_nil, or_false] at hz; rcases hz with rfl | rfl | rfl | rfl | rfl <;> first | exact ⟨by assumption, by assumption⟩ | exact ⟨fm_lo _, fm_hi' _⟩)) (n := 5) rfl (by omega))
  have HI2 := Lib.hid (HI.out.below ((Below.refl w1.heap.size w1).alloc (Nat.le_refl _) (.cells #[.int .u64 xa, .int .u64 (fm (xb * (fm (fm (r * r) * r)))), .int .u64 (fm (xc * r)), .int .u64 (fm (xd * (fm (fm (r * r) * fm (r * r))))), .int .u64 (fm (xe * (fm (r * r))))] 62)))
  clear HI; have HI := HI2; clear HI2
  obtain ⟨w2, hw2⟩ : ∃ w2, w2 = w1.alloc (.cells #[.int .u64 xa, .int .u64 (fm (xb * (fm (fm (r * r) * r)))), .int .u64 (fm (xc * r)), .int .u64 (fm (xd * (fm (fm (r * r) * fm (r * r))))), .int .u64 (fm (xe * (fm (r * r))))] 62) := ⟨_, rfl⟩
  rw [← hw2] at HR HI ⊢
  clear hw2
  refine (c_sum5 HR.out).mono ?_
  rintro e w3 ⟨rfl, rfl⟩
  clear HR
  have f0 := HI.out.r.free (o + 3)
  have cc0 := HI.out.r.cell (k := (o + 3)) (by simpa using (show (o + 3) < zs.length by omega))
  have hlt := HI.out.r.lt
  have HI2 := Lib.hid (HI.out.set (o + 3) (fm (xa + (fm (xb * (fm (fm (r * r) * r))) + (fm (xc * r) + (fm (xd * (fm (fm (r * r) * fm (r * r)))) + fm (xe * (fm (r * r)))))))))
  clear HI; have HI := HI2; clear HI2
  go_wp2_with fail
  clear f0 cc0 hlt
  generalize hw3 : w2.setCell ⟨B, o + 3, none⟩ (.int .u64 (fm (xa + (fm (xb * (fm (fm (r * r) * r))) + (fm (xc * r) + (fm (xd * (fm (fm (r * r) * fm (r * r)))) + fm (xe * (fm (r * r))))))))) = w1 at *
  clear hw3
  refine (gold_mul xb (fm (fm (r * r) * fm (r * r))) _ xb0 xb1 (fm_lo _) (fm_hi' _)).mono ?_
  rintro e w1 ⟨rfl, hb⟩
  have HI2 := Lib.hid (HI.out.below hb)
  clear HI hb
  have HI := HI2
  clear HI2
  go_wp2_with fail
  refine (gold_mul xc (fm (fm (r * r) * r)) _ xc0 xc1 (fm_lo _) (fm_hi' _)).mono ?_
  rintro e w1 ⟨rfl, hb⟩
  have HI2 := Lib.hid (HI.out.below hb)
  clear HI hb
  have HI := HI2
  clear HI2
  go_wp2_with fail
  refine (gold_mul xd (fm (r * r)) _ xd0 xd1 (fm_lo _) (fm_hi' _)).mono ?_
  rintro e w1 ⟨rfl, hb⟩
  have HI2 := Lib.hid (HI.out.below hb)
  clear HI hb
  have HI := HI2
  clear HI2
  go_wp2_with fail
  refine (gold_mul xe r _ xe0 xe1 r0 r1).mono ?_
  rintro e w1 ⟨rfl, hb⟩
  have HI2 := Lib.hid (HI.out.below hb)
  clear HI hb
  have HI := HI2
  clear HI2
  go_wp2_with fail
  have HR := Lib.hid (Row.of_at (rowat5 _ (xa) (fm (xb * (fm (fm (r * r) * fm (r * r))))) (fm (xc * (fm (fm (r * r) * r)))) (fm (xd * (fm (r * r)))) (fm (xe * r)) : RowAt (World.alloc w1 (.cells #[.int .u64 xa, .int .u64 (fm (xb * (fm (fm (r * r) * fm (r * r))))), .int .u64 (fm (xc * (fm (fm (r * r) * r)))), .int .u64 (fm (xd * (fm (r * r)))), .int .u64 (fm (xe * r))] 62)) w1.heap.size 62 _) (wf_all (by intro z hz; simp only [List.mem_cons, List.not_mem_nil, or_false] at hz; rcases hz with rfl | rfl | rfl | rfl | rfl <;> first | exact ⟨by assumption, by assumption⟩ | exact ⟨fm_lo _, fm_hi' _⟩)) (n := 5) rfl (by omega))
  have HI2 := Lib.hid (HI.out.below ((Below.refl w1.heap.size w1).alloc (Nat.le_refl _) (.cells #[.int .u64 xa, .int .u64 (fm (xb * (fm (fm (r * r) * fm (r * r))))), .int .u64 (fm (xc * (fm (fm (r * r) * r)))), .int .u64 (fm (xd * (fm (r * r)))), .int .u64 (fm (xe * r))] 62)))
  clear HI; have HI := HI2; clear HI2
  obtain ⟨w2, hw2⟩ : ∃ w2, w2 = w1.alloc (.cells #[.int .u64 xa, .int .u64 (fm (xb * (fm (fm (r * r) * fm (r * r))))), .int .u64 (fm (xc * (fm (fm (r * r) * r)))), .int .u64 (fm (xd * (fm (r * r)))), .int .u64 (fm (xe * r))] 62) := ⟨_, rfl⟩
  rw [← hw2] at HR HI ⊢
  clear hw2
  refine (c_sum5 HR.out).mono ?_
  rintro e w3 ⟨rfl, rfl⟩
  clear HR
  have f0 := HI.out.r.free (o + 4)
  have cc0 := HI.out.r.cell (k := (o + 4)) (by simpa using (show (o + 4) < zs.length by omega))
  have hlt := HI.out.r.lt
  have HI2 := Lib.hid (HI.out.set (o + 4) (fm (xa + (fm (xb * (fm (fm (r * r) * fm (r * r)))) + (fm (xc * (fm (fm (r * r) * r))) + (fm (xd * (fm (r * r))) + fm (xe * r)))))))
  clear HI; have HI := HI2; clear HI2
  go_wp2_with fail
  clear f0 cc0 hlt
  go_end0
  exact ⟨rfl, HI.out⟩
end Go.Proofs.YtbhnlfgccldmaaaGreat
/- Package small: transform of one, three, five. -/
namespace Go.Proofs.YtbhnlfgccldmaaaGreat
open Go.ChangeShapes Go.WideShapes Go.ChangeAt Go.RowKit
set_option linter.unusedVariables false
set_option maxRecDepth 100000 in
theorem small_one (B o c : Nat) (dir : Int) (zs : List Int) (W : World) (hr : RowAt W B 62 zs) (hd : dir = 0 ∨ dir = 1) :
    Calls Tryz.prog 192 #[.slice (some ⟨B, o, none⟩) 1 c, .int .i64 dir] W fun e w' => e = .returned (.tuple #[]) ∧ InRow W w' B zs := by
  have R := Lib.hid (show ∀ w, Calls Tryz.prog 204 #[.int .i64 1, .int .i64 dir] w fun e w' => e = .returned (.int .u64 (rdir (1 : Nat) dir)) ∧ Below w.heap.size w w' from fun w => small_base 1 dir w (by omega) (by omega) hd)
  have I0 := Lib.hid (show InRow W W B zs from ⟨hr, But.refl _ _⟩)
  generalize rdir (1 : Nat) dir = r at *
  clear hd hr
  go_enter Tryz.func192, Tryz.ntmps192
  refine scope_two rfl rfl ?_
  go_wp2_with fail
  refine (R.out _).mono ?_
  rintro e w1 ⟨rfl, b1⟩
  have I1 := Lib.hid (I0.out.below b1)
  clear I0 b1
  go_wp2_with fail
  apply wp_goto
  go_wp2_with fail
  refine jumps_zero1 ?_
  go_wp2_with fail
  refine jumps_normal ?_
  go_wp2_with fail
  go_end0
  exact ⟨rfl, I1.out⟩
set_option maxRecDepth 100000 in
theorem via_three (B o c : Nat) (dir r : Int) (hrr : r = rdir (3 : Nat) dir) (zs : List Int) (W : World) (Z : List Int) (hr : RowAt W B 62 zs) (hd : dir = 0 ∨ dir = 1) (h3 : ∀ w, InRow W w B zs → Calls Tryz.prog 205 #[.slice (some ⟨B, o, none⟩) 3 c, .int .u64 r] w fun e w' => e = .returned (.tuple #[]) ∧ InRow W w' B Z) :
    Calls Tryz.prog 192 #[.slice (some ⟨B, o, none⟩) 3 c, .int .i64 dir] W fun e w' => e = .returned (.tuple #[]) ∧ InRow W w' B Z := by
  have R := Lib.hid (show ∀ w, Calls Tryz.prog 204 #[.int .i64 3, .int .i64 dir] w fun e w' => e = .returned (.int .u64 r) ∧ Below w.heap.size w w' from fun w => by rw [hrr]; exact small_base 3 dir w (by omega) (by omega) hd)
  have I0 := Lib.hid (show InRow W W B zs from ⟨hr, But.refl _ _⟩)
  have H3 := Lib.hid h3
  clear hd hr hrr h3
  go_enter Tryz.func192, Tryz.ntmps192
  refine scope_two rfl rfl ?_
  go_wp2_with fail
  refine (R.out _).mono ?_
  rintro e w1 ⟨rfl, b1⟩
  have I1 := Lib.hid (I0.out.below b1)
  clear I0 b1
  go_wp2_with fail
  refine (H3.out _ I1.out).mono ?_
  rintro e w2 ⟨rfl, i2⟩
  have I2 := Lib.hid i2
  clear i2
  go_wp2_with fail
  apply wp_goto
  go_wp2_with fail
  refine jumps_zero1 ?_
  go_wp2_with fail
  refine jumps_normal ?_
  go_wp2_with fail
  go_end0
  exact ⟨rfl, I2.out⟩
set_option maxRecDepth 100000 in
theorem via_five (B o c : Nat) (dir r : Int) (hrr : r = rdir (5 : Nat) dir) (zs : List Int) (W : World) (Z : List Int) (hr : RowAt W B 62 zs) (hd : dir = 0 ∨ dir = 1) (h3 : ∀ w, InRow W w B zs → Calls Tryz.prog 207 #[.slice (some ⟨B, o, none⟩) 5 c, .int .u64 r] w fun e w' => e = .returned (.tuple #[]) ∧ InRow W w' B Z) :
    Calls Tryz.prog 192 #[.slice (some ⟨B, o, none⟩) 5 c, .int .i64 dir] W fun e w' => e = .returned (.tuple #[]) ∧ InRow W w' B Z := by
  have R := Lib.hid (show ∀ w, Calls Tryz.prog 204 #[.int .i64 5, .int .i64 dir] w fun e w' => e = .returned (.int .u64 r) ∧ Below w.heap.size w w' from fun w => by rw [hrr]; exact small_base 5 dir w (by omega) (by omega) hd)
  have I0 := Lib.hid (show InRow W W B zs from ⟨hr, But.refl _ _⟩)
  have H3 := Lib.hid h3
  clear hd hr hrr h3
  go_enter Tryz.func192, Tryz.ntmps192
  refine scope_two rfl rfl ?_
  go_wp2_with fail
  refine (R.out _).mono ?_
  rintro e w1 ⟨rfl, b1⟩
  have I1 := Lib.hid (I0.out.below b1)
  clear I0 b1
  go_wp2_with fail
  refine (H3.out _ I1.out).mono ?_
  rintro e w2 ⟨rfl, i2⟩
  have I2 := Lib.hid i2
  clear i2
  go_wp2_with fail
  apply wp_goto
  go_wp2_with fail
  refine jumps_zero1 ?_
  go_wp2_with fail
  refine jumps_normal ?_
  go_wp2_with fail
  go_end0
  exact ⟨rfl, I2.out⟩
end Go.Proofs.YtbhnlfgccldmaaaGreat
/- Package small: four. MADE BY wip/bin/genfour.py -/
namespace Go.Proofs.YtbhnlfgccldmaaaGreat
open Go.ChangeShapes Go.WideShapes Go.ChangeAt Go.RowKit
set_option linter.unusedVariables false
theorem abs_world {Q : Act → World → Prop} {a : Act} {w : World} {I : World → Prop} (h : I w) (k : ∀ w, I w → Q a w) : Q a w := k w h
set_option maxRecDepth 100000 in
set_option maxHeartbeats 4000000 in
theorem small_four (B o cp : Nat) (dir : Int) (r : Int) (hrr : r = rdir (4 : Nat) dir) (zs : List Int) (xa xb xc xd : Int) (W : World) (hr : RowAt W B 62 zs) (ho : o + 4 ≤ zs.length) (hxa : zs.getD (o) 0 = xa) (xa0 : 0 ≤ xa) (xa1 : xa ≤ 18446744073709551615) (hxb : zs.getD (o + 1) 0 = xb) (xb0 : 0 ≤ xb) (xb1 : xb ≤ 18446744073709551615) (hxc : zs.getD (o + 2) 0 = xc) (xc0 : 0 ≤ xc) (xc1 : xc ≤ 18446744073709551615) (hxd : zs.getD (o + 3) 0 = xd) (xd0 : 0 ≤ xd) (xd1 : xd ≤ 18446744073709551615) (hd : dir = 0 ∨ dir = 1) :
    Calls Tryz.prog 192 #[.slice (some ⟨B, o, none⟩) 4 cp, .int .i64 dir] W fun e w' => e = .returned (.tuple #[]) ∧ InRow W w' B ((((((((((zs.set o (fm (xa + xc))).set (o + 2) (fm (xa - xc))).set (o + 1) (fm (xb + xd))).set (o + 3) (fm (fm (xb - xd) * r))).set (o + 2) (fm ((fm (xa - xc)) + (fm (fm (xb - xd) * r))))).set (o + 3) (fm ((fm (xa - xc)) - (fm (fm (xb - xd) * r))))).set o (fm ((fm (xa + xc)) + (fm (xb + xd))))).set (o + 1) (fm ((fm (xa + xc)) - (fm (xb + xd))))).set (o + 1) (fm ((fm (xa - xc)) + (fm (fm (xb - xd) * r))))).set (o + 2) (fm ((fm (xa + xc)) - (fm (xb + xd))))) := by
  have R := Lib.hid (show ∀ w, Calls Tryz.prog 204 #[.int .i64 4, .int .i64 dir] w fun e w' => e = .returned (.int .u64 r) ∧ Below w.heap.size w w' from fun w => by rw [hrr]; exact small_base 4 dir w (by omega) (by omega) hd)
  have r0 : 0 ≤ r := by rw [hrr]; exact rdir_lo _ _
  have r1 : r ≤ 18446744073709551615 := by rw [hrr]; have := rdir_hi (4 : Nat) dir; omega
  clear hrr
  have Gzs0 := Lib.hid hxa
  have Gzs1 := Lib.hid hxb
  have Gzs2 := Lib.hid hxc
  have Gzs3 := Lib.hid hxd
  have Lzs := ho
  obtain ⟨z1, hz1⟩ : ∃ z, z = (zs.set (o) (fm (xa + xc))).set (o + 2) (fm (xa - xc)) := ⟨_, rfl⟩
  have Lz1 : o + 4 ≤ z1.length := by rw [hz1, List.length_set, List.length_set]; exact Lzs
  have Gz10 := Lib.hid (show z1.getD (o) 0 = (fm (xa + xc)) from by rw [hz1, getD_set_ne (by omega)]; exact getD_set_same (by omega))
  have Gz11 := Lib.hid (show z1.getD (o + 1) 0 = xb from by rw [hz1, getD_set_ne (by omega), getD_set_ne (by omega)]; exact Gzs1.out)
  have Gz12 := Lib.hid (show z1.getD (o + 2) 0 = (fm (xa - xc)) from by rw [hz1]; exact getD_set_same (by rw [List.length_set]; omega))
  have Gz13 := Lib.hid (show z1.getD (o + 3) 0 = xd from by rw [hz1, getD_set_ne (by omega), getD_set_ne (by omega)]; exact Gzs3.out)
  have Hz1 := Lib.hid hz1
  obtain ⟨z2, hz2⟩ : ∃ z, z = (z1.set (o + 1) (fm (xb + xd))).set (o + 3) (fm (fm (xb - xd) * r)) := ⟨_, rfl⟩
  have Lz2 : o + 4 ≤ z2.length := by rw [hz2, List.length_set, List.length_set]; exact Lz1
  have Gz20 := Lib.hid (show z2.getD (o) 0 = (fm (xa + xc)) from by rw [hz2, getD_set_ne (by omega), getD_set_ne (by omega)]; exact Gz10.out)
  have Gz21 := Lib.hid (show z2.getD (o + 1) 0 = (fm (xb + xd)) from by rw [hz2, getD_set_ne (by omega)]; exact getD_set_same (by omega))
  have Gz22 := Lib.hid (show z2.getD (o + 2) 0 = (fm (xa - xc)) from by rw [hz2, getD_set_ne (by omega), getD_set_ne (by omega)]; exact Gz12.out)
  have Gz23 := Lib.hid (show z2.getD (o + 3) 0 = (fm (fm (xb - xd) * r)) from by rw [hz2]; exact getD_set_same (by rw [List.length_set]; omega))
  have Hz2 := Lib.hid hz2
  obtain ⟨z3, hz3⟩ : ∃ z, z = (z2.set (o + 2) (fm ((fm (xa - xc)) + (fm (fm (xb - xd) * r))))).set (o + 3) (fm ((fm (xa - xc)) - (fm (fm (xb - xd) * r)))) := ⟨_, rfl⟩
  have Lz3 : o + 4 ≤ z3.length := by rw [hz3, List.length_set, List.length_set]; exact Lz2
  have Gz30 := Lib.hid (show z3.getD (o) 0 = (fm (xa + xc)) from by rw [hz3, getD_set_ne (by omega), getD_set_ne (by omega)]; exact Gz20.out)
  have Gz31 := Lib.hid (show z3.getD (o + 1) 0 = (fm (xb + xd)) from by rw [hz3, getD_set_ne (by omega), getD_set_ne (by omega)]; exact Gz21.out)
  have Gz32 := Lib.hid (show z3.getD (o + 2) 0 = (fm ((fm (xa - xc)) + (fm (fm (xb - xd) * r)))) from by rw [hz3, getD_set_ne (by omega)]; exact getD_set_same (by omega))
  have Gz33 := Lib.hid (show z3.getD (o + 3) 0 = (fm ((fm (xa - xc)) - (fm (fm (xb - xd) * r)))) from by rw [hz3]; exact getD_set_same (by rw [List.length_set]; omega))
  have Hz3 := Lib.hid hz3
  obtain ⟨z4, hz4⟩ : ∃ z, z = (z3.set (o) (fm ((fm (xa + xc)) + (fm (xb + xd))))).set (o + 1) (fm ((fm (xa + xc)) - (fm (xb + xd)))) := ⟨_, rfl⟩
  have Lz4 : o + 4 ≤ z4.length := by rw [hz4, List.length_set, List.length_set]; exact Lz3
  have Gz40 := Lib.hid (show z4.getD (o) 0 = (fm ((fm (xa + xc)) + (fm (xb + xd)))) from by rw [hz4, getD_set_ne (by omega)]; exact getD_set_same (by omega))
  have Gz41 := Lib.hid (show z4.getD (o + 1) 0 = (fm ((fm (xa + xc)) - (fm (xb + xd)))) from by rw [hz4]; exact getD_set_same (by rw [List.length_set]; omega))
  have Gz42 := Lib.hid (show z4.getD (o + 2) 0 = (fm ((fm (xa - xc)) + (fm (fm (xb - xd) * r)))) from by rw [hz4, getD_set_ne (by omega), getD_set_ne (by omega)]; exact Gz32.out)
  have Gz43 := Lib.hid (show z4.getD (o + 3) 0 = (fm ((fm (xa - xc)) - (fm (fm (xb - xd) * r)))) from by rw [hz4, getD_set_ne (by omega), getD_set_ne (by omega)]; exact Gz33.out)
  have Hz4 := Lib.hid hz4
  obtain ⟨z5, hz5⟩ : ∃ z, z = (z4.set (o + 1) (fm ((fm (xa - xc)) + (fm (fm (xb - xd) * r))))).set (o + 2) (fm ((fm (xa + xc)) - (fm (xb + xd)))) := ⟨_, rfl⟩
  have Lz5 : o + 4 ≤ z5.length := by rw [hz5, List.length_set, List.length_set]; exact Lz4
  have Gz50 := Lib.hid (show z5.getD (o) 0 = (fm ((fm (xa + xc)) + (fm (xb + xd)))) from by rw [hz5, getD_set_ne (by omega), getD_set_ne (by omega)]; exact Gz40.out)
  have Gz51 := Lib.hid (show z5.getD (o + 1) 0 = (fm ((fm (xa - xc)) + (fm (fm (xb - xd) * r)))) from by rw [hz5, getD_set_ne (by omega)]; exact getD_set_same (by omega))
  have Gz52 := Lib.hid (show z5.getD (o + 2) 0 = (fm ((fm (xa + xc)) - (fm (xb + xd)))) from by rw [hz5]; exact getD_set_same (by rw [List.length_set]; omega))
  have Gz53 := Lib.hid (show z5.getD (o + 3) 0 = (fm ((fm (xa - xc)) - (fm (fm (xb - xd) * r)))) from by rw [hz5, getD_set_ne (by omega), getD_set_ne (by omega)]; exact Gz43.out)
  have Hz5 := Lib.hid hz5
  rw [← hz1, ← hz2, ← hz3, ← hz4, ← hz5]
  clear hz1 hz2 hz3 hz4 hz5 hxa hxb hxc hxd hd
  have I0 := Lib.hid (show InRow W W B zs from ⟨hr, But.refl _ _⟩)
  clear hr
  go_enter Tryz.func192, Tryz.ntmps192
  refine scope_two rfl rfl ?_
  go_wp2_with fail
  refine (R.out _).mono ?_
  rintro e w1 ⟨rfl, b1⟩
  have HI := Lib.hid (I0.out.below b1)
  clear I0 b1
  go_wp2_with fail
  have CX1 := Lib.hid (fun w (h : InRow W w B zs) => show w.cell? ⟨B, o, none⟩ = some (.int .u64 xa) by rw [h.r.cell (by omega), Gzs0.out])
  have CY1 := Lib.hid (fun w (h : InRow W w B zs) => show w.cell? ⟨B, o + 2, none⟩ = some (.int .u64 xc) by rw [h.r.cell (by omega), Gzs2.out])
  refine region_gate (fun w' => InRow W w' B zs) 17 (by kernel_rfl) HI.out.drew (fun hHeld => ?_)
  refine gate_takeF (i := 0) (v := ?v1) rfl (by kernel_rfl) (by kernel_rfl) (by kernel_rfl) (by kernel_rfl) (fun _ _ _ h => h) (Or.inl ⟨by rfl, ?hy1⟩) (by assumption) ?rest1
  case hy1 => intro w hSw; clear hSw; go_simp; with_reducible rfl
  simp only [Act.put, List.setIfInBounds_toArray]
  refine gate_takeF (i := 1) (v := ?v2) rfl (by kernel_rfl) (by kernel_rfl) (by kernel_rfl) (by kernel_rfl) (fun _ _ _ h => h) (Or.inl ⟨by rfl, ?hy2⟩) (by assumption) ?rest2
  case hy2 => intro w hSw; clear hSw; go_simp; with_reducible rfl
  simp only [Act.put]
  refine gate_takeF (i := 2) (v := ?v3) rfl (by kernel_rfl) (by kernel_rfl) (by kernel_rfl) (by kernel_rfl) (fun _ _ _ h => h) (Or.inl ⟨by rfl, ?hy3⟩) (by assumption) ?rest3
  case hy3 => intro w hSw; clear hSw; go_simp; with_reducible rfl
  simp only [Act.put]
  refine gate_takeF (i := 3) (v := ?v4) rfl (by kernel_rfl) (by kernel_rfl) (by kernel_rfl) (by kernel_rfl) (fun _ _ _ h => h) (Or.inl ⟨by rfl, ?hy4⟩) (by assumption) ?rest4
  case hy4 => intro w hSw; clear hSw; go_simp; with_reducible rfl
  simp only [Act.put]
  refine gate_take (i := 4) (v := ?v5) rfl (by kernel_rfl) (by kernel_rfl) (by kernel_rfl) (by kernel_rfl) (by kernel_rfl) (fun _ _ _ h => h) (Or.inl ⟨by rfl, ?hy5⟩) (by assumption) ?rest5
  case hy5 => intro w hSw; have hcl := CX1.out w hSw; go_simp; with_reducible rfl
  simp only [Act.put]
  refine gate_takeF (i := 5) (v := ?v6) rfl (by kernel_rfl) (by kernel_rfl) (by kernel_rfl) (by kernel_rfl) (fun _ _ _ h => h) (Or.inl ⟨by rfl, ?hy6⟩) (by assumption) ?rest6
  case hy6 => intro w hSw; clear hSw; go_simp; with_reducible rfl
  simp only [Act.put]
  refine gate_takeF (i := 6) (v := ?v7) rfl (by kernel_rfl) (by kernel_rfl) (by kernel_rfl) (by kernel_rfl) (fun _ _ _ h => h) (Or.inl ⟨by rfl, ?hy7⟩) (by assumption) ?rest7
  case hy7 => intro w hSw; clear hSw; go_simp; with_reducible rfl
  simp only [Act.put]
  refine gate_take (i := 7) (v := ?v8) rfl (by kernel_rfl) (by kernel_rfl) (by kernel_rfl) (by kernel_rfl) (by kernel_rfl) (fun _ _ _ h => h) (Or.inl ⟨by rfl, ?hy8⟩) (by assumption) ?rest8
  case hy8 => intro w hSw; have hcl := CY1.out w hSw; go_simp; with_reducible rfl
  simp only [Act.put]
  refine gate_takeF (i := 9) (v := ?v9) rfl (by kernel_rfl) (by kernel_rfl) (by kernel_rfl) (by kernel_rfl) (fun _ _ _ h => h) (Or.inl ⟨by rfl, ?hy9⟩) (by assumption) ?rest9
  case hy9 => intro w hSw; clear hSw; go_simp; with_reducible rfl
  simp only [Act.put]
  refine gate_takeF (i := 10) (v := ?v10) rfl (by kernel_rfl) (by kernel_rfl) (by kernel_rfl) (by kernel_rfl) (fun _ _ _ h => h) (Or.inl ⟨by rfl, ?hy10⟩) (by assumption) ?rest10
  case hy10 => intro w hSw; clear hSw; go_simp; with_reducible rfl
  simp only [Act.put]
  refine gate_take (i := 11) (v := ?v11) rfl (by kernel_rfl) (by kernel_rfl) (by kernel_rfl) (by kernel_rfl) (by kernel_rfl) (fun _ _ _ h => h) (Or.inl ⟨by rfl, ?hy11⟩) (by assumption) ?rest11
  case hy11 => intro w hSw; have hcl := CX1.out w hSw; go_simp; with_reducible rfl
  simp only [Act.put]
  refine gate_takeF (i := 12) (v := ?v12) rfl (by kernel_rfl) (by kernel_rfl) (by kernel_rfl) (by kernel_rfl) (fun _ _ _ h => h) (Or.inl ⟨by rfl, ?hy12⟩) (by assumption) ?rest12
  case hy12 => intro w hSw; clear hSw; go_simp; with_reducible rfl
  simp only [Act.put]
  refine gate_takeF (i := 13) (v := ?v13) rfl (by kernel_rfl) (by kernel_rfl) (by kernel_rfl) (by kernel_rfl) (fun _ _ _ h => h) (Or.inl ⟨by rfl, ?hy13⟩) (by assumption) ?rest13
  case hy13 => intro w hSw; clear hSw; go_simp; with_reducible rfl
  simp only [Act.put]
  refine gate_take (i := 14) (v := ?v14) rfl (by kernel_rfl) (by kernel_rfl) (by kernel_rfl) (by kernel_rfl) (by kernel_rfl) (fun _ _ _ h => h) (Or.inl ⟨by rfl, ?hy14⟩) (by assumption) ?rest14
  case hy14 => intro w hSw; have hcl := CY1.out w hSw; go_simp; with_reducible rfl
  simp only [Act.put]
  refine gate_one (i := 8) rfl (by kernel_rfl) (fun K hK => ?_)
  go_simp
  refine (gold_add xa xc _ xa0 xa1 xc0 xc1).mono ?_
  rintro e w' ⟨rfl, rfl⟩
  go_wp2_with fail
  refine hK.out _ _ (by assumption) (fun hHeld2 => ?_)
  clear hK K
  try simp only [Act.put]
  refine gate_one (i := 15) rfl (by kernel_rfl) (fun K hK => ?_)
  go_simp
  refine (gold_sub xa xc _ xa0 xa1 xc0 xc1).mono ?_
  rintro e w' ⟨rfl, rfl⟩
  go_wp2_with fail
  refine hK.out _ _ (by assumption) (fun hHeld2 => ?_)
  clear hK K
  try simp only [Act.put]
  refine gate_takeF (i := 16) (v := ?v15) rfl (by kernel_rfl) (by kernel_rfl) (by kernel_rfl) (by kernel_rfl) (fun _ _ _ h => h) (Or.inl ⟨by rfl, ?hy15⟩) (by assumption) ?rest15
  case hy15 => intro w hSw; clear hSw; go_simp; with_reducible rfl
  simp only [Act.put]
  have f0 := hHeld.r.free (o)
  have cc0 := CX1.out _ hHeld
  have hlt := hHeld.r.lt
  refine gate_past (i := 17) rfl (by kernel_rfl) (by kernel_rfl) (fun K hK => ?_)
  go_simp
  refine hK.out _ _ ?_
  clear hK K
  try simp only [Act.put]
  have h1 : InRow W (w1.setCell ⟨B, o, none⟩ (.int .u64 (fm (xa + xc)))).drew B (zs.set (o) (fm (xa + xc))) := hHeld.set (o) (fm (xa + xc))
  have hlt1 := h1.r.lt
  have f1 := h1.r.free (o + 2)
  have cc2 : (w1.setCell ⟨B, o, none⟩ (.int .u64 (fm (xa + xc)))).drew.cell? ⟨B, o + 2, none⟩ = some (.int .u64 ((zs.set (o) (fm (xa + xc))).getD (o + 2) 0)) := h1.r.cell (by rw [List.length_set]; omega)
  refine gate_past (i := 18) rfl (by kernel_rfl) (by kernel_rfl) (fun K hK => ?_)
  go_simp
  refine hK.out _ _ ?_
  clear hK K
  try simp only [Act.put]
  refine gate_past (i := 19) rfl (by kernel_rfl) (by kernel_rfl) (fun K hK => ?_)
  go_simp
  refine hK.out _ _ ?_
  clear hK K
  try simp only [Act.put]
  have E := h1.set (o + 2) (fm (xa - xc))
  rw [← Hz1.out] at E
  clear h1 hHeld hHeld2 cc0 f0 hlt hlt1 f1 cc2 HI CX1 CY1
  refine gate_done (by kernel_rfl) ?_ _
  refine abs_world (I := fun w => InRow W w B z1) E ?_
  clear E; intro w2 E
  have HI := Lib.hid E
  clear E
  go_wp2_with fail
  have CX2 := Lib.hid (fun w (h : InRow W w B z1) => show w.cell? ⟨B, o + 1, none⟩ = some (.int .u64 xb) by rw [h.r.cell (by omega), Gz11.out])
  have CY2 := Lib.hid (fun w (h : InRow W w B z1) => show w.cell? ⟨B, o + 3, none⟩ = some (.int .u64 xd) by rw [h.r.cell (by omega), Gz13.out])
  refine region_gate (fun w' => InRow W w' B z1) 19 (by kernel_rfl) HI.out.drew (fun hHeld => ?_)
  refine gate_takeF (i := 0) (v := ?v16) rfl (by kernel_rfl) (by kernel_rfl) (by kernel_rfl) (by kernel_rfl) (fun _ _ _ h => h) (Or.inl ⟨by rfl, ?hy16⟩) (by assumption) ?rest16
  case hy16 => intro w hSw; clear hSw; go_simp; with_reducible rfl
  simp only [Act.put, List.setIfInBounds_toArray]
  refine gate_takeF (i := 1) (v := ?v17) rfl (by kernel_rfl) (by kernel_rfl) (by kernel_rfl) (by kernel_rfl) (fun _ _ _ h => h) (Or.inl ⟨by rfl, ?hy17⟩) (by assumption) ?rest17
  case hy17 => intro w hSw; clear hSw; go_simp; with_reducible rfl
  simp only [Act.put]
  refine gate_takeF (i := 2) (v := ?v18) rfl (by kernel_rfl) (by kernel_rfl) (by kernel_rfl) (by kernel_rfl) (fun _ _ _ h => h) (Or.inl ⟨by rfl, ?hy18⟩) (by assumption) ?rest18
  case hy18 => intro w hSw; clear hSw; go_simp; with_reducible rfl
  simp only [Act.put]
  refine gate_takeF (i := 3) (v := ?v19) rfl (by kernel_rfl) (by kernel_rfl) (by kernel_rfl) (by kernel_rfl) (fun _ _ _ h => h) (Or.inl ⟨by rfl, ?hy19⟩) (by assumption) ?rest19
  case hy19 => intro w hSw; clear hSw; go_simp; with_reducible rfl
  simp only [Act.put]
  refine gate_take (i := 4) (v := ?v20) rfl (by kernel_rfl) (by kernel_rfl) (by kernel_rfl) (by kernel_rfl) (by kernel_rfl) (fun _ _ _ h => h) (Or.inl ⟨by rfl, ?hy20⟩) (by assumption) ?rest20
  case hy20 => intro w hSw; have hcl := CX2.out w hSw; go_simp; with_reducible rfl
  simp only [Act.put]
  refine gate_takeF (i := 5) (v := ?v21) rfl (by kernel_rfl) (by kernel_rfl) (by kernel_rfl) (by kernel_rfl) (fun _ _ _ h => h) (Or.inl ⟨by rfl, ?hy21⟩) (by assumption) ?rest21
  case hy21 => intro w hSw; clear hSw; go_simp; with_reducible rfl
  simp only [Act.put]
  refine gate_takeF (i := 6) (v := ?v22) rfl (by kernel_rfl) (by kernel_rfl) (by kernel_rfl) (by kernel_rfl) (fun _ _ _ h => h) (Or.inl ⟨by rfl, ?hy22⟩) (by assumption) ?rest22
  case hy22 => intro w hSw; clear hSw; go_simp; with_reducible rfl
  simp only [Act.put]
  refine gate_take (i := 7) (v := ?v23) rfl (by kernel_rfl) (by kernel_rfl) (by kernel_rfl) (by kernel_rfl) (by kernel_rfl) (fun _ _ _ h => h) (Or.inl ⟨by rfl, ?hy23⟩) (by assumption) ?rest23
  case hy23 => intro w hSw; have hcl := CY2.out w hSw; go_simp; with_reducible rfl
  simp only [Act.put]
  refine gate_takeF (i := 9) (v := ?v24) rfl (by kernel_rfl) (by kernel_rfl) (by kernel_rfl) (by kernel_rfl) (fun _ _ _ h => h) (Or.inl ⟨by rfl, ?hy24⟩) (by assumption) ?rest24
  case hy24 => intro w hSw; clear hSw; go_simp; with_reducible rfl
  simp only [Act.put]
  refine gate_takeF (i := 10) (v := ?v25) rfl (by kernel_rfl) (by kernel_rfl) (by kernel_rfl) (by kernel_rfl) (fun _ _ _ h => h) (Or.inl ⟨by rfl, ?hy25⟩) (by assumption) ?rest25
  case hy25 => intro w hSw; clear hSw; go_simp; with_reducible rfl
  simp only [Act.put]
  refine gate_take (i := 11) (v := ?v26) rfl (by kernel_rfl) (by kernel_rfl) (by kernel_rfl) (by kernel_rfl) (by kernel_rfl) (fun _ _ _ h => h) (Or.inl ⟨by rfl, ?hy26⟩) (by assumption) ?rest26
  case hy26 => intro w hSw; have hcl := CX2.out w hSw; go_simp; with_reducible rfl
  simp only [Act.put]
  refine gate_takeF (i := 12) (v := ?v27) rfl (by kernel_rfl) (by kernel_rfl) (by kernel_rfl) (by kernel_rfl) (fun _ _ _ h => h) (Or.inl ⟨by rfl, ?hy27⟩) (by assumption) ?rest27
  case hy27 => intro w hSw; clear hSw; go_simp; with_reducible rfl
  simp only [Act.put]
  refine gate_takeF (i := 13) (v := ?v28) rfl (by kernel_rfl) (by kernel_rfl) (by kernel_rfl) (by kernel_rfl) (fun _ _ _ h => h) (Or.inl ⟨by rfl, ?hy28⟩) (by assumption) ?rest28
  case hy28 => intro w hSw; clear hSw; go_simp; with_reducible rfl
  simp only [Act.put]
  refine gate_take (i := 14) (v := ?v29) rfl (by kernel_rfl) (by kernel_rfl) (by kernel_rfl) (by kernel_rfl) (by kernel_rfl) (fun _ _ _ h => h) (Or.inl ⟨by rfl, ?hy29⟩) (by assumption) ?rest29
  case hy29 => intro w hSw; have hcl := CY2.out w hSw; go_simp; with_reducible rfl
  simp only [Act.put]
  refine gate_takeF (i := 16) (v := ?v30) rfl (by kernel_rfl) (by kernel_rfl) (by kernel_rfl) (by kernel_rfl) (fun _ _ _ h => h) (Or.inl ⟨by rfl, ?hy30⟩) (by assumption) ?rest30
  case hy30 => intro w hSw; clear hSw; go_simp; with_reducible rfl
  simp only [Act.put]
  refine gate_one (i := 8) rfl (by kernel_rfl) (fun K hK => ?_)
  go_simp
  refine (gold_add xb xd _ xb0 xb1 xd0 xd1).mono ?_
  rintro e w' ⟨rfl, rfl⟩
  go_wp2_with fail
  refine hK.out _ _ (by assumption) (fun hHeld2 => ?_)
  clear hK K
  try simp only [Act.put]
  refine gate_one (i := 15) rfl (by kernel_rfl) (fun K hK => ?_)
  go_simp
  refine (gold_sub xb xd _ xb0 xb1 xd0 xd1).mono ?_
  rintro e w' ⟨rfl, rfl⟩
  go_wp2_with fail
  refine hK.out _ _ (by assumption) (fun hHeld2 => ?_)
  clear hK K
  try simp only [Act.put]
  refine gate_one (i := 17) rfl (by kernel_rfl) (fun K hK => ?_)
  go_simp
  refine (gold_mul (fm (xb - xd)) r _ (fm_lo _) (fm_hi' _) r0 r1).mono ?_
  rintro e wm ⟨rfl, hb⟩
  have hM := hHeld.below hb
  clear hHeld hHeld2 hb
  have hHeld := hM
  clear hM
  go_wp2_with fail
  refine hK.out _ _ hHeld (fun hHeld2 => ?_)
  clear hK K
  try simp only [Act.put]
  refine gate_takeF (i := 18) (v := ?v31) rfl (by kernel_rfl) (by kernel_rfl) (by kernel_rfl) (by kernel_rfl) (fun _ _ _ h => h) (Or.inl ⟨by rfl, ?hy31⟩) (by assumption) ?rest31
  case hy31 => intro w hSw; clear hSw; go_simp; with_reducible rfl
  simp only [Act.put]
  have f0 := hHeld.r.free (o + 1)
  have cc0 := CX2.out _ hHeld
  have hlt := hHeld.r.lt
  refine gate_past (i := 19) rfl (by kernel_rfl) (by kernel_rfl) (fun K hK => ?_)
  go_simp
  refine hK.out _ _ ?_
  clear hK K
  try simp only [Act.put]
  have h1 : InRow W (wm.setCell ⟨B, o + 1, none⟩ (.int .u64 (fm (xb + xd)))) B (z1.set (o + 1) (fm (xb + xd))) := hHeld.set (o + 1) (fm (xb + xd))
  have hlt1 := h1.r.lt
  have f1 := h1.r.free (o + 3)
  have cc2 : (wm.setCell ⟨B, o + 1, none⟩ (.int .u64 (fm (xb + xd)))).cell? ⟨B, o + 3, none⟩ = some (.int .u64 ((z1.set (o + 1) (fm (xb + xd))).getD (o + 3) 0)) := h1.r.cell (by rw [List.length_set]; omega)
  refine gate_past (i := 20) rfl (by kernel_rfl) (by kernel_rfl) (fun K hK => ?_)
  go_simp
  refine hK.out _ _ ?_
  clear hK K
  try simp only [Act.put]
  refine gate_past (i := 21) rfl (by kernel_rfl) (by kernel_rfl) (fun K hK => ?_)
  go_simp
  refine hK.out _ _ ?_
  clear hK K
  try simp only [Act.put]
  have E := h1.set (o + 3) (fm (fm (xb - xd) * r))
  rw [← Hz2.out] at E
  clear h1 hHeld hHeld2 cc0 f0 hlt hlt1 f1 cc2 HI CX2 CY2
  refine gate_done (by kernel_rfl) ?_ _
  refine abs_world (I := fun w => InRow W w B z2) E ?_
  clear E; intro w3 E
  have HI := Lib.hid E
  clear E
  go_wp2_with fail
  have CX3 := Lib.hid (fun w (h : InRow W w B z2) => show w.cell? ⟨B, o + 2, none⟩ = some (.int .u64 (fm (xa - xc))) by rw [h.r.cell (by omega), Gz22.out])
  have CY3 := Lib.hid (fun w (h : InRow W w B z2) => show w.cell? ⟨B, o + 3, none⟩ = some (.int .u64 (fm (fm (xb - xd) * r))) by rw [h.r.cell (by omega), Gz23.out])
  refine region_gate (fun w' => InRow W w' B z2) 17 (by kernel_rfl) HI.out.drew (fun hHeld => ?_)
  refine gate_takeF (i := 0) (v := ?v32) rfl (by kernel_rfl) (by kernel_rfl) (by kernel_rfl) (by kernel_rfl) (fun _ _ _ h => h) (Or.inl ⟨by rfl, ?hy32⟩) (by assumption) ?rest32
  case hy32 => intro w hSw; clear hSw; go_simp; with_reducible rfl
  simp only [Act.put, List.setIfInBounds_toArray]
  refine gate_takeF (i := 1) (v := ?v33) rfl (by kernel_rfl) (by kernel_rfl) (by kernel_rfl) (by kernel_rfl) (fun _ _ _ h => h) (Or.inl ⟨by rfl, ?hy33⟩) (by assumption) ?rest33
  case hy33 => intro w hSw; clear hSw; go_simp; with_reducible rfl
  simp only [Act.put]
  refine gate_takeF (i := 2) (v := ?v34) rfl (by kernel_rfl) (by kernel_rfl) (by kernel_rfl) (by kernel_rfl) (fun _ _ _ h => h) (Or.inl ⟨by rfl, ?hy34⟩) (by assumption) ?rest34
  case hy34 => intro w hSw; clear hSw; go_simp; with_reducible rfl
  simp only [Act.put]
  refine gate_takeF (i := 3) (v := ?v35) rfl (by kernel_rfl) (by kernel_rfl) (by kernel_rfl) (by kernel_rfl) (fun _ _ _ h => h) (Or.inl ⟨by rfl, ?hy35⟩) (by assumption) ?rest35
  case hy35 => intro w hSw; clear hSw; go_simp; with_reducible rfl
  simp only [Act.put]
  refine gate_take (i := 4) (v := ?v36) rfl (by kernel_rfl) (by kernel_rfl) (by kernel_rfl) (by kernel_rfl) (by kernel_rfl) (fun _ _ _ h => h) (Or.inl ⟨by rfl, ?hy36⟩) (by assumption) ?rest36
  case hy36 => intro w hSw; have hcl := CX3.out w hSw; go_simp; with_reducible rfl
  simp only [Act.put]
  refine gate_takeF (i := 5) (v := ?v37) rfl (by kernel_rfl) (by kernel_rfl) (by kernel_rfl) (by kernel_rfl) (fun _ _ _ h => h) (Or.inl ⟨by rfl, ?hy37⟩) (by assumption) ?rest37
  case hy37 => intro w hSw; clear hSw; go_simp; with_reducible rfl
  simp only [Act.put]
  refine gate_takeF (i := 6) (v := ?v38) rfl (by kernel_rfl) (by kernel_rfl) (by kernel_rfl) (by kernel_rfl) (fun _ _ _ h => h) (Or.inl ⟨by rfl, ?hy38⟩) (by assumption) ?rest38
  case hy38 => intro w hSw; clear hSw; go_simp; with_reducible rfl
  simp only [Act.put]
  refine gate_take (i := 7) (v := ?v39) rfl (by kernel_rfl) (by kernel_rfl) (by kernel_rfl) (by kernel_rfl) (by kernel_rfl) (fun _ _ _ h => h) (Or.inl ⟨by rfl, ?hy39⟩) (by assumption) ?rest39
  case hy39 => intro w hSw; have hcl := CY3.out w hSw; go_simp; with_reducible rfl
  simp only [Act.put]
  refine gate_takeF (i := 9) (v := ?v40) rfl (by kernel_rfl) (by kernel_rfl) (by kernel_rfl) (by kernel_rfl) (fun _ _ _ h => h) (Or.inl ⟨by rfl, ?hy40⟩) (by assumption) ?rest40
  case hy40 => intro w hSw; clear hSw; go_simp; with_reducible rfl
  simp only [Act.put]
  refine gate_takeF (i := 10) (v := ?v41) rfl (by kernel_rfl) (by kernel_rfl) (by kernel_rfl) (by kernel_rfl) (fun _ _ _ h => h) (Or.inl ⟨by rfl, ?hy41⟩) (by assumption) ?rest41
  case hy41 => intro w hSw; clear hSw; go_simp; with_reducible rfl
  simp only [Act.put]
  refine gate_take (i := 11) (v := ?v42) rfl (by kernel_rfl) (by kernel_rfl) (by kernel_rfl) (by kernel_rfl) (by kernel_rfl) (fun _ _ _ h => h) (Or.inl ⟨by rfl, ?hy42⟩) (by assumption) ?rest42
  case hy42 => intro w hSw; have hcl := CX3.out w hSw; go_simp; with_reducible rfl
  simp only [Act.put]
  refine gate_takeF (i := 12) (v := ?v43) rfl (by kernel_rfl) (by kernel_rfl) (by kernel_rfl) (by kernel_rfl) (fun _ _ _ h => h) (Or.inl ⟨by rfl, ?hy43⟩) (by assumption) ?rest43
  case hy43 => intro w hSw; clear hSw; go_simp; with_reducible rfl
  simp only [Act.put]
  refine gate_takeF (i := 13) (v := ?v44) rfl (by kernel_rfl) (by kernel_rfl) (by kernel_rfl) (by kernel_rfl) (fun _ _ _ h => h) (Or.inl ⟨by rfl, ?hy44⟩) (by assumption) ?rest44
  case hy44 => intro w hSw; clear hSw; go_simp; with_reducible rfl
  simp only [Act.put]
  refine gate_take (i := 14) (v := ?v45) rfl (by kernel_rfl) (by kernel_rfl) (by kernel_rfl) (by kernel_rfl) (by kernel_rfl) (fun _ _ _ h => h) (Or.inl ⟨by rfl, ?hy45⟩) (by assumption) ?rest45
  case hy45 => intro w hSw; have hcl := CY3.out w hSw; go_simp; with_reducible rfl
  simp only [Act.put]
  refine gate_one (i := 8) rfl (by kernel_rfl) (fun K hK => ?_)
  go_simp
  refine (gold_add (fm (xa - xc)) (fm (fm (xb - xd) * r)) _ (fm_lo _) (fm_hi' _) (fm_lo _) (fm_hi' _)).mono ?_
  rintro e w' ⟨rfl, rfl⟩
  go_wp2_with fail
  refine hK.out _ _ (by assumption) (fun hHeld2 => ?_)
  clear hK K
  try simp only [Act.put]
  refine gate_one (i := 15) rfl (by kernel_rfl) (fun K hK => ?_)
  go_simp
  refine (gold_sub (fm (xa - xc)) (fm (fm (xb - xd) * r)) _ (fm_lo _) (fm_hi' _) (fm_lo _) (fm_hi' _)).mono ?_
  rintro e w' ⟨rfl, rfl⟩
  go_wp2_with fail
  refine hK.out _ _ (by assumption) (fun hHeld2 => ?_)
  clear hK K
  try simp only [Act.put]
  refine gate_takeF (i := 16) (v := ?v46) rfl (by kernel_rfl) (by kernel_rfl) (by kernel_rfl) (by kernel_rfl) (fun _ _ _ h => h) (Or.inl ⟨by rfl, ?hy46⟩) (by assumption) ?rest46
  case hy46 => intro w hSw; clear hSw; go_simp; with_reducible rfl
  simp only [Act.put]
  have f0 := hHeld.r.free (o + 2)
  have cc0 := CX3.out _ hHeld
  have hlt := hHeld.r.lt
  refine gate_past (i := 17) rfl (by kernel_rfl) (by kernel_rfl) (fun K hK => ?_)
  go_simp
  refine hK.out _ _ ?_
  clear hK K
  try simp only [Act.put]
  have h1 : InRow W (w3.setCell ⟨B, o + 2, none⟩ (.int .u64 (fm ((fm (xa - xc)) + (fm (fm (xb - xd) * r)))))).drew B (z2.set (o + 2) (fm ((fm (xa - xc)) + (fm (fm (xb - xd) * r))))) := hHeld.set (o + 2) (fm ((fm (xa - xc)) + (fm (fm (xb - xd) * r))))
  have hlt1 := h1.r.lt
  have f1 := h1.r.free (o + 3)
  have cc2 : (w3.setCell ⟨B, o + 2, none⟩ (.int .u64 (fm ((fm (xa - xc)) + (fm (fm (xb - xd) * r)))))).drew.cell? ⟨B, o + 3, none⟩ = some (.int .u64 ((z2.set (o + 2) (fm ((fm (xa - xc)) + (fm (fm (xb - xd) * r))))).getD (o + 3) 0)) := h1.r.cell (by rw [List.length_set]; omega)
  refine gate_past (i := 18) rfl (by kernel_rfl) (by kernel_rfl) (fun K hK => ?_)
  go_simp
  refine hK.out _ _ ?_
  clear hK K
  try simp only [Act.put]
  refine gate_past (i := 19) rfl (by kernel_rfl) (by kernel_rfl) (fun K hK => ?_)
  go_simp
  refine hK.out _ _ ?_
  clear hK K
  try simp only [Act.put]
  have E := h1.set (o + 3) (fm ((fm (xa - xc)) - (fm (fm (xb - xd) * r))))
  rw [← Hz3.out] at E
  clear h1 hHeld hHeld2 cc0 f0 hlt hlt1 f1 cc2 HI CX3 CY3
  refine gate_done (by kernel_rfl) ?_ _
  refine abs_world (I := fun w => InRow W w B z3) E ?_
  clear E; intro w4 E
  have HI := Lib.hid E
  clear E
  go_wp2_with fail
  apply wp_goto
  go_wp2_with fail
  refine jumps_one ?_
  go_wp2_with fail
  have CX4 := Lib.hid (fun w (h : InRow W w B z3) => show w.cell? ⟨B, o, none⟩ = some (.int .u64 (fm (xa + xc))) by rw [h.r.cell (by omega), Gz30.out])
  have CY4 := Lib.hid (fun w (h : InRow W w B z3) => show w.cell? ⟨B, o + 1, none⟩ = some (.int .u64 (fm (xb + xd))) by rw [h.r.cell (by omega), Gz31.out])
  refine region_gate (fun w' => InRow W w' B z3) 17 (by kernel_rfl) HI.out.drew (fun hHeld => ?_)
  refine gate_takeF (i := 0) (v := ?v47) rfl (by kernel_rfl) (by kernel_rfl) (by kernel_rfl) (by kernel_rfl) (fun _ _ _ h => h) (Or.inl ⟨by rfl, ?hy47⟩) (by assumption) ?rest47
  case hy47 => intro w hSw; clear hSw; go_simp; with_reducible rfl
  simp only [Act.put, List.setIfInBounds_toArray]
  refine gate_takeF (i := 1) (v := ?v48) rfl (by kernel_rfl) (by kernel_rfl) (by kernel_rfl) (by kernel_rfl) (fun _ _ _ h => h) (Or.inl ⟨by rfl, ?hy48⟩) (by assumption) ?rest48
  case hy48 => intro w hSw; clear hSw; go_simp; with_reducible rfl
  simp only [Act.put]
  refine gate_takeF (i := 2) (v := ?v49) rfl (by kernel_rfl) (by kernel_rfl) (by kernel_rfl) (by kernel_rfl) (fun _ _ _ h => h) (Or.inl ⟨by rfl, ?hy49⟩) (by assumption) ?rest49
  case hy49 => intro w hSw; clear hSw; go_simp; with_reducible rfl
  simp only [Act.put]
  refine gate_takeF (i := 3) (v := ?v50) rfl (by kernel_rfl) (by kernel_rfl) (by kernel_rfl) (by kernel_rfl) (fun _ _ _ h => h) (Or.inl ⟨by rfl, ?hy50⟩) (by assumption) ?rest50
  case hy50 => intro w hSw; clear hSw; go_simp; with_reducible rfl
  simp only [Act.put]
  refine gate_take (i := 4) (v := ?v51) rfl (by kernel_rfl) (by kernel_rfl) (by kernel_rfl) (by kernel_rfl) (by kernel_rfl) (fun _ _ _ h => h) (Or.inl ⟨by rfl, ?hy51⟩) (by assumption) ?rest51
  case hy51 => intro w hSw; have hcl := CX4.out w hSw; go_simp; with_reducible rfl
  simp only [Act.put]
  refine gate_takeF (i := 5) (v := ?v52) rfl (by kernel_rfl) (by kernel_rfl) (by kernel_rfl) (by kernel_rfl) (fun _ _ _ h => h) (Or.inl ⟨by rfl, ?hy52⟩) (by assumption) ?rest52
  case hy52 => intro w hSw; clear hSw; go_simp; with_reducible rfl
  simp only [Act.put]
  refine gate_takeF (i := 6) (v := ?v53) rfl (by kernel_rfl) (by kernel_rfl) (by kernel_rfl) (by kernel_rfl) (fun _ _ _ h => h) (Or.inl ⟨by rfl, ?hy53⟩) (by assumption) ?rest53
  case hy53 => intro w hSw; clear hSw; go_simp; with_reducible rfl
  simp only [Act.put]
  refine gate_take (i := 7) (v := ?v54) rfl (by kernel_rfl) (by kernel_rfl) (by kernel_rfl) (by kernel_rfl) (by kernel_rfl) (fun _ _ _ h => h) (Or.inl ⟨by rfl, ?hy54⟩) (by assumption) ?rest54
  case hy54 => intro w hSw; have hcl := CY4.out w hSw; go_simp; with_reducible rfl
  simp only [Act.put]
  refine gate_takeF (i := 9) (v := ?v55) rfl (by kernel_rfl) (by kernel_rfl) (by kernel_rfl) (by kernel_rfl) (fun _ _ _ h => h) (Or.inl ⟨by rfl, ?hy55⟩) (by assumption) ?rest55
  case hy55 => intro w hSw; clear hSw; go_simp; with_reducible rfl
  simp only [Act.put]
  refine gate_takeF (i := 10) (v := ?v56) rfl (by kernel_rfl) (by kernel_rfl) (by kernel_rfl) (by kernel_rfl) (fun _ _ _ h => h) (Or.inl ⟨by rfl, ?hy56⟩) (by assumption) ?rest56
  case hy56 => intro w hSw; clear hSw; go_simp; with_reducible rfl
  simp only [Act.put]
  refine gate_take (i := 11) (v := ?v57) rfl (by kernel_rfl) (by kernel_rfl) (by kernel_rfl) (by kernel_rfl) (by kernel_rfl) (fun _ _ _ h => h) (Or.inl ⟨by rfl, ?hy57⟩) (by assumption) ?rest57
  case hy57 => intro w hSw; have hcl := CX4.out w hSw; go_simp; with_reducible rfl
  simp only [Act.put]
  refine gate_takeF (i := 12) (v := ?v58) rfl (by kernel_rfl) (by kernel_rfl) (by kernel_rfl) (by kernel_rfl) (fun _ _ _ h => h) (Or.inl ⟨by rfl, ?hy58⟩) (by assumption) ?rest58
  case hy58 => intro w hSw; clear hSw; go_simp; with_reducible rfl
  simp only [Act.put]
  refine gate_takeF (i := 13) (v := ?v59) rfl (by kernel_rfl) (by kernel_rfl) (by kernel_rfl) (by kernel_rfl) (fun _ _ _ h => h) (Or.inl ⟨by rfl, ?hy59⟩) (by assumption) ?rest59
  case hy59 => intro w hSw; clear hSw; go_simp; with_reducible rfl
  simp only [Act.put]
  refine gate_take (i := 14) (v := ?v60) rfl (by kernel_rfl) (by kernel_rfl) (by kernel_rfl) (by kernel_rfl) (by kernel_rfl) (fun _ _ _ h => h) (Or.inl ⟨by rfl, ?hy60⟩) (by assumption) ?rest60
  case hy60 => intro w hSw; have hcl := CY4.out w hSw; go_simp; with_reducible rfl
  simp only [Act.put]
  refine gate_one (i := 8) rfl (by kernel_rfl) (fun K hK => ?_)
  go_simp
  refine (gold_add (fm (xa + xc)) (fm (xb + xd)) _ (fm_lo _) (fm_hi' _) (fm_lo _) (fm_hi' _)).mono ?_
  rintro e w' ⟨rfl, rfl⟩
  go_wp2_with fail
  refine hK.out _ _ (by assumption) (fun hHeld2 => ?_)
  clear hK K
  try simp only [Act.put]
  refine gate_one (i := 15) rfl (by kernel_rfl) (fun K hK => ?_)
  go_simp
  refine (gold_sub (fm (xa + xc)) (fm (xb + xd)) _ (fm_lo _) (fm_hi' _) (fm_lo _) (fm_hi' _)).mono ?_
  rintro e w' ⟨rfl, rfl⟩
  go_wp2_with fail
  refine hK.out _ _ (by assumption) (fun hHeld2 => ?_)
  clear hK K
  try simp only [Act.put]
  refine gate_takeF (i := 16) (v := ?v61) rfl (by kernel_rfl) (by kernel_rfl) (by kernel_rfl) (by kernel_rfl) (fun _ _ _ h => h) (Or.inl ⟨by rfl, ?hy61⟩) (by assumption) ?rest61
  case hy61 => intro w hSw; clear hSw; go_simp; with_reducible rfl
  simp only [Act.put]
  have f0 := hHeld.r.free (o)
  have cc0 := CX4.out _ hHeld
  have hlt := hHeld.r.lt
  refine gate_past (i := 17) rfl (by kernel_rfl) (by kernel_rfl) (fun K hK => ?_)
  go_simp
  refine hK.out _ _ ?_
  clear hK K
  try simp only [Act.put]
  have h1 : InRow W (w4.setCell ⟨B, o, none⟩ (.int .u64 (fm ((fm (xa + xc)) + (fm (xb + xd)))))).drew B (z3.set (o) (fm ((fm (xa + xc)) + (fm (xb + xd))))) := hHeld.set (o) (fm ((fm (xa + xc)) + (fm (xb + xd))))
  have hlt1 := h1.r.lt
  have f1 := h1.r.free (o + 1)
  have cc2 : (w4.setCell ⟨B, o, none⟩ (.int .u64 (fm ((fm (xa + xc)) + (fm (xb + xd)))))).drew.cell? ⟨B, o + 1, none⟩ = some (.int .u64 ((z3.set (o) (fm ((fm (xa + xc)) + (fm (xb + xd))))).getD (o + 1) 0)) := h1.r.cell (by rw [List.length_set]; omega)
  refine gate_past (i := 18) rfl (by kernel_rfl) (by kernel_rfl) (fun K hK => ?_)
  go_simp
  refine hK.out _ _ ?_
  clear hK K
  try simp only [Act.put]
  refine gate_past (i := 19) rfl (by kernel_rfl) (by kernel_rfl) (fun K hK => ?_)
  go_simp
  refine hK.out _ _ ?_
  clear hK K
  try simp only [Act.put]
  have E := h1.set (o + 1) (fm ((fm (xa + xc)) - (fm (xb + xd))))
  rw [← Hz4.out] at E
  clear h1 hHeld hHeld2 cc0 f0 hlt hlt1 f1 cc2 HI CX4 CY4
  refine gate_done (by kernel_rfl) ?_ _
  refine abs_world (I := fun w => InRow W w B z4) E ?_
  clear E; intro w5 E
  have HI := Lib.hid E
  clear E
  go_wp2_with fail
  have CX9 := Lib.hid (fun w (h : InRow W w B z4) => show w.cell? ⟨B, o + 1, none⟩ = some (.int .u64 (fm ((fm (xa + xc)) - (fm (xb + xd))))) by rw [h.r.cell (by omega), Gz41.out])
  have CY9 := Lib.hid (fun w (h : InRow W w B z4) => show w.cell? ⟨B, o + 2, none⟩ = some (.int .u64 (fm ((fm (xa - xc)) + (fm (fm (xb - xd) * r))))) by rw [h.r.cell (by omega), Gz42.out])
  refine region_gate (fun w' => InRow W w' B z4) 9 (by kernel_rfl) HI.out.drew (fun hHeld => ?_)
  refine gate_takeF (i := 0) (v := ?v62) rfl (by kernel_rfl) (by kernel_rfl) (by kernel_rfl) (by kernel_rfl) (fun _ _ _ h => h) (Or.inl ⟨by rfl, ?hy62⟩) (by assumption) ?rest62
  case hy62 => intro w hSw; clear hSw; go_simp; with_reducible rfl
  simp only [Act.put, List.setIfInBounds_toArray]
  refine gate_takeF (i := 1) (v := ?v63) rfl (by kernel_rfl) (by kernel_rfl) (by kernel_rfl) (by kernel_rfl) (fun _ _ _ h => h) (Or.inl ⟨by rfl, ?hy63⟩) (by assumption) ?rest63
  case hy63 => intro w hSw; clear hSw; go_simp; with_reducible rfl
  simp only [Act.put]
  refine gate_takeF (i := 2) (v := ?v64) rfl (by kernel_rfl) (by kernel_rfl) (by kernel_rfl) (by kernel_rfl) (fun _ _ _ h => h) (Or.inl ⟨by rfl, ?hy64⟩) (by assumption) ?rest64
  case hy64 => intro w hSw; clear hSw; go_simp; with_reducible rfl
  simp only [Act.put]
  refine gate_takeF (i := 3) (v := ?v65) rfl (by kernel_rfl) (by kernel_rfl) (by kernel_rfl) (by kernel_rfl) (fun _ _ _ h => h) (Or.inl ⟨by rfl, ?hy65⟩) (by assumption) ?rest65
  case hy65 => intro w hSw; clear hSw; go_simp; with_reducible rfl
  simp only [Act.put]
  refine gate_take (i := 4) (v := ?v66) rfl (by kernel_rfl) (by kernel_rfl) (by kernel_rfl) (by kernel_rfl) (by kernel_rfl) (fun _ _ _ h => h) (Or.inl ⟨by rfl, ?hy66⟩) (by assumption) ?rest66
  case hy66 => intro w hSw; have hcl := CY9.out w hSw; go_simp; with_reducible rfl
  simp only [Act.put]
  refine gate_takeF (i := 5) (v := ?v67) rfl (by kernel_rfl) (by kernel_rfl) (by kernel_rfl) (by kernel_rfl) (fun _ _ _ h => h) (Or.inl ⟨by rfl, ?hy67⟩) (by assumption) ?rest67
  case hy67 => intro w hSw; clear hSw; go_simp; with_reducible rfl
  simp only [Act.put]
  refine gate_takeF (i := 6) (v := ?v68) rfl (by kernel_rfl) (by kernel_rfl) (by kernel_rfl) (by kernel_rfl) (fun _ _ _ h => h) (Or.inl ⟨by rfl, ?hy68⟩) (by assumption) ?rest68
  case hy68 => intro w hSw; clear hSw; go_simp; with_reducible rfl
  simp only [Act.put]
  refine gate_take (i := 7) (v := ?v69) rfl (by kernel_rfl) (by kernel_rfl) (by kernel_rfl) (by kernel_rfl) (by kernel_rfl) (fun _ _ _ h => h) (Or.inl ⟨by rfl, ?hy69⟩) (by assumption) ?rest69
  case hy69 => intro w hSw; have hcl := CX9.out w hSw; go_simp; with_reducible rfl
  simp only [Act.put]
  refine gate_takeF (i := 8) (v := ?v70) rfl (by kernel_rfl) (by kernel_rfl) (by kernel_rfl) (by kernel_rfl) (fun _ _ _ h => h) (Or.inl ⟨by rfl, ?hy70⟩) (by assumption) ?rest70
  case hy70 => intro w hSw; clear hSw; go_simp; with_reducible rfl
  simp only [Act.put]
  have f0 := hHeld.r.free (o + 1)
  have cc0 := CX9.out _ hHeld
  have hlt := hHeld.r.lt
  refine gate_past (i := 9) rfl (by kernel_rfl) (by kernel_rfl) (fun K hK => ?_)
  go_simp
  refine hK.out _ _ ?_
  clear hK K
  try simp only [Act.put]
  have h1 : InRow W (w5.setCell ⟨B, o + 1, none⟩ (.int .u64 (fm ((fm (xa - xc)) + (fm (fm (xb - xd) * r)))))).drew B (z4.set (o + 1) (fm ((fm (xa - xc)) + (fm (fm (xb - xd) * r))))) := hHeld.set (o + 1) (fm ((fm (xa - xc)) + (fm (fm (xb - xd) * r))))
  have hlt1 := h1.r.lt
  have f1 := h1.r.free (o + 2)
  have cc2 : (w5.setCell ⟨B, o + 1, none⟩ (.int .u64 (fm ((fm (xa - xc)) + (fm (fm (xb - xd) * r)))))).drew.cell? ⟨B, o + 2, none⟩ = some (.int .u64 ((z4.set (o + 1) (fm ((fm (xa - xc)) + (fm (fm (xb - xd) * r))))).getD (o + 2) 0)) := h1.r.cell (by rw [List.length_set]; omega)
  refine gate_past (i := 10) rfl (by kernel_rfl) (by kernel_rfl) (fun K hK => ?_)
  go_simp
  refine hK.out _ _ ?_
  clear hK K
  try simp only [Act.put]
  refine gate_past (i := 11) rfl (by kernel_rfl) (by kernel_rfl) (fun K hK => ?_)
  go_simp
  refine hK.out _ _ ?_
  clear hK K
  try simp only [Act.put]
  have E := h1.set (o + 2) (fm ((fm (xa + xc)) - (fm (xb + xd))))
  rw [← Hz5.out] at E
  clear h1 hHeld cc0 f0 hlt hlt1 f1 cc2 HI CX9 CY9
  refine gate_done (by kernel_rfl) ?_ _
  refine abs_world (I := fun w => InRow W w B z5) E ?_
  clear E; intro w9 E
  have HI := Lib.hid E
  clear E
  go_wp2_with fail
  apply wp_label
  go_wp2_with fail
  refine jumps_normal ?_
  go_wp2_with fail
  go_end0
  exact ⟨rfl, HI.out⟩
end Go.Proofs.YtbhnlfgccldmaaaGreat
/- Package small: what transform makes of one to five numbers is the transform; Do. -/
namespace Go.Proofs.YtbhnlfgccldmaaaGreat
open Go.ChangeShapes Go.WideShapes Go.ChangeAt Go.RowKit
set_option linter.unusedVariables false
open rootTells
/-- A number's share: at the power k j, looked up modulo the length. -/
theorem share {r : Int} {n : Nat} (h1 : fm (r ^ n) = 1) (x : Int) (k j m : Nat) (hm : k * j % n = m) : fm (x * fm (r ^ m)) = fm (x * (r ^ k) ^ j) := by
  subst hm
  rw [pow_mod h1, fm_mul_r, ← Int.pow_mul]
theorem sum3_fm {a b c b' c' : Int} (hb : fm b = fm b') (hc : fm c = fm c') : fm (a + (fm b + fm c)) = fm (a + (b' + c')) := by
  rw [hb, hc]; unfold fm; omega
theorem sum5_fm {a b c d e b' c' d' e' : Int} (hb : fm b = fm b') (hc : fm c = fm c') (hd : fm d = fm d') (he : fm e = fm e') : fm (a + (fm b + (fm c + (fm d + fm e)))) = fm (a + (b' + (c' + (d' + e')))) := by
  rw [hb, hc, hd, he]; unfold fm; omega
theorem chk_five {n : Nat} {dir : Int} (h : 1 ≤ n) (h5 : n ≤ 5) (hd : dir = 0 ∨ dir = 1) : chk n dir = 0 := by
  rw [chk_dir _ _ hd, if_neg (by rw [hasb_five h h5]; decide), if_neg (by omega)]
theorem rdir_fm (n : Nat) (dir : Int) : fm (rdir n dir) = rdir n dir := fm_small _ (rdir_lo _ _) (rdir_hi _ _)
theorem w2 (r : Int) : fm (r * r) = fm (r ^ 2) := by congr 1; grind
theorem w3 (r : Int) : fm (fm (r * r) * r) = fm (r ^ 3) := by rw [fm_mul_l]; congr 1; grind
theorem w4 (r : Int) : fm (fm (r * r) * fm (r * r)) = fm (r ^ 4) := by rw [fm_mul_fm]; congr 1; grind
theorem hor2 (st a b : Int) : hor st [a, b] = fm (a + b * st ^ 1) := by
  rw [hor_ps]; congr 1; simp only [ps]; grind
theorem hor3 (st a b c : Int) : hor st [a, b, c] = fm (a + (b * st ^ 1 + c * st ^ 2)) := by
  rw [hor_ps]; congr 1; simp only [ps]; grind
theorem hor4 (st a b c d : Int) : hor st [a, b, c, d] = fm (a + (b * st ^ 1 + (c * st ^ 2 + d * st ^ 3))) := by
  rw [hor_ps]; congr 1; simp only [ps]; grind
theorem hor5 (st a b c d e : Int) : hor st [a, b, c, d, e] = fm (a + (b * st ^ 1 + (c * st ^ 2 + (d * st ^ 3 + e * st ^ 4)))) := by
  rw [hor_ps]; congr 1; simp only [ps]; grind
theorem t3 {r v1 v2 : Int} (h1 : fm (r ^ 3) = 1) (e1 : v1 = fm (r ^ 1)) (e2 : v2 = fm (r ^ 2)) (a b c : Int) :
    [fm (a + (b + c)), fm (a + (fm (b * v1) + fm (c * v2))), fm (a + (fm (b * v2) + fm (c * v1)))] = horl r [a, b, c] 3 := by
  subst e1 e2
  apply getD_ext (by rw [horl_len]; rfl)
  intro k hk
  have hk : k < 3 := hk
  rw [horl_at _ _ _ _ hk, hor_fm, hor3]
  have : k = 0 ∨ k = 1 ∨ k = 2 := by omega
  rcases this with rfl | rfl | rfl
  · show fm (a + (b + c)) = _
    congr 1; simp
  · exact sum3_fm (share h1 b 1 1 1 rfl) (share h1 c 1 2 2 rfl)
  · exact sum3_fm (share h1 b 2 1 2 rfl) (share h1 c 2 2 1 rfl)
theorem t5 {r v1 v2 v3 v4 : Int} (h1 : fm (r ^ 5) = 1) (e1 : v1 = fm (r ^ 1)) (e2 : v2 = fm (r ^ 2)) (e3 : v3 = fm (r ^ 3)) (e4 : v4 = fm (r ^ 4)) (a b c d e : Int) :
    [fm (a + (b + (c + (d + e)))), fm (a + (fm (b * v1) + (fm (c * v2) + (fm (d * v3) + fm (e * v4))))), fm (a + (fm (b * v2) + (fm (c * v4) + (fm (d * v1) + fm (e * v3))))), fm (a + (fm (b * v3) + (fm (c * v1) + (fm (d * v4) + fm (e * v2))))), fm (a + (fm (b * v4) + (fm (c * v3) + (fm (d * v2) + fm (e * v1)))))] = horl r [a, b, c, d, e] 5 := by
  subst e1 e2 e3 e4
  apply getD_ext (by rw [horl_len]; rfl)
  intro k hk
  have hk : k < 5 := hk
  rw [horl_at _ _ _ _ hk, hor_fm, hor5]
  have : k = 0 ∨ k = 1 ∨ k = 2 ∨ k = 3 ∨ k = 4 := by omega
  rcases this with rfl | rfl | rfl | rfl | rfl
  · show fm (a + (b + (c + (d + e)))) = _
    congr 1; simp
  · exact sum5_fm (share h1 b 1 1 1 rfl) (share h1 c 1 2 2 rfl) (share h1 d 1 3 3 rfl) (share h1 e 1 4 4 rfl)
  · exact sum5_fm (share h1 b 2 1 2 rfl) (share h1 c 2 2 4 rfl) (share h1 d 2 3 1 rfl) (share h1 e 2 4 3 rfl)
  · exact sum5_fm (share h1 b 3 1 3 rfl) (share h1 c 3 2 1 rfl) (share h1 d 3 3 4 rfl) (share h1 e 3 4 2 rfl)
  · exact sum5_fm (share h1 b 4 1 4 rfl) (share h1 c 4 2 3 rfl) (share h1 d 4 3 2 rfl) (share h1 e 4 4 1 rfl)
theorem t2 {r : Int} (h2 : fm (r ^ 1) = fm (-1)) (a b : Int) : [fm (a + b), fm (a - b)] = horl r [a, b] 2 := by
  apply getD_ext (by rw [horl_len]; rfl)
  intro k hk
  have hk : k < 2 := hk
  rw [horl_at _ _ _ _ hk, hor_fm, hor2]
  have : k = 0 ∨ k = 1 := by omega
  rcases this with rfl | rfl
  · show fm (a + b) = _
    congr 1; simp
  · show fm (a - b) = fm (a + b * (r ^ 1) ^ 1)
    rw [Int.pow_one (r ^ 1), ← fm_add_r, ← fm_mul_r, h2, fm_mul_r, fm_add_r]
    congr 1; omega
theorem sh4 {r : Int} (h2 : fm (r ^ 2) = fm (-1)) (x : Int) (k j q i : Nat) (h : k * j = 2 * q + i) : fm (x * (r ^ k) ^ j) = fm (x * ((-1) ^ q * r ^ i)) := by
  rw [← Int.pow_mul, h, Int.pow_add, Int.pow_mul, ← fm_mul_r x, ← fm_mul_l ((r ^ 2) ^ q), ← Fld.fm_pow1 (r ^ 2), h2, Fld.fm_pow1, fm_mul_l, fm_mul_r]
theorem sum4_fm {a x y z x' y' z' : Int} (hx : fm x = fm x') (hy : fm y = fm y') (hz : fm z = fm z') : fm (a + (x + (y + z))) = fm (a + (x' + (y' + z'))) := by
  unfold fm at *; omega
theorem t4 {r : Int} (h2 : fm (r ^ 2) = fm (-1)) (a b c d : Int) :
    [fm (fm (a + c) + fm (b + d)), fm (fm (a - c) + fm (fm (b - d) * r)), fm (fm (a + c) - fm (b + d)), fm (fm (a - c) - fm (fm (b - d) * r))] = horl r [a, b, c, d] 4 := by
  apply getD_ext (by rw [horl_len]; rfl)
  intro k hk
  have hk : k < 4 := hk
  rw [horl_at _ _ _ _ hk, hor_fm, hor4]
  have : k = 0 ∨ k = 1 ∨ k = 2 ∨ k = 3 := by omega
  rcases this with rfl | rfl | rfl | rfl
  · show fm (fm (a + c) + fm (b + d)) = _
    rw [fm_add_fm]; congr 1; simp; omega
  · show fm (fm (a - c) + fm (fm (b - d) * r)) = _
    rw [sum4_fm (sh4 h2 b 1 1 0 1 rfl) (sh4 h2 c 1 2 1 0 rfl) (sh4 h2 d 1 3 1 1 rfl), fm_add_fm, ← fm_add_r, fm_mul_l, fm_add_r]
    congr 1; grind
  · show fm (fm (a + c) - fm (b + d)) = _
    rw [sum4_fm (sh4 h2 b 2 1 1 0 rfl) (sh4 h2 c 2 2 2 0 rfl) (sh4 h2 d 2 3 3 0 rfl), fm_sub_fm]
    congr 1; grind
  · show fm (fm (a - c) - fm (fm (b - d) * r)) = _
    rw [sum4_fm (sh4 h2 b 3 1 1 1 rfl) (sh4 h2 c 3 2 3 0 rfl) (sh4 h2 d 3 3 4 1 rfl), fm_sub_fm, ← fm_sub_r, fm_mul_l, fm_sub_r]
    congr 1; grind
theorem t1 (r a : Int) : [fm a] = horl r [a] 1 := by
  apply getD_ext (by rw [horl_len]; rfl)
  intro k hk
  have hk : k < 1 := hk
  obtain rfl : k = 0 := by omega
  rw [horl_at _ _ _ _ hk, hor_fm, hor_ps]
  show fm a = fm (a + _ * 0)
  rw [Int.mul_zero, Int.add_zero]
theorem horl_red (r : Int) (xs : List Int) (n : Nat) : horl r (redl xs) n = horl r xs n := by
  apply getD_ext (by rw [horl_len, horl_len])
  intro k hk
  rw [horl_len] at hk
  rw [horl_at _ _ _ _ hk, horl_at _ _ _ _ hk, hor_fm, hor_fm, hor_ps, hor_ps, ps_red]
theorem rdir_half {n : Nat} {dir : Int} (h : 1 ≤ n) (h5 : n ≤ 5) (he : n % 2 = 0) (hd : dir = 0 ∨ dir = 1) : fm (rdir n dir ^ (n / 2)) = fm (-1) := by
  have I := dftBack.inv2_dir n dir (chk_five h h5 hd)
  exact half_rt I.rn I.ro he (by omega)
theorem rdir_n {n : Nat} {dir : Int} (h : 1 ≤ n) (h5 : n ≤ 5) (hd : dir = 0 ∨ dir = 1) : fm (rdir n dir ^ n) = 1 := (dftBack.inv2_dir n dir (chk_five h h5 hd)).rn
theorem rdir_1 (n : Nat) (dir : Int) : rdir n dir = fm (rdir n dir ^ 1) := by rw [Int.pow_one, rdir_fm]
/-- What was told of a row is told of its equal. -/
theorem InRow.eq {W w : World} {B : Nat} {zs ys : List Int} (h : InRow W w B zs) (e : zs = ys) : InRow W w B ys := e ▸ h
theorem small_tr (n B c : Nat) (dir : Int) (xs : List Int) (W : World) (hl : xs.length = n) (h : 1 ≤ n) (h5 : n ≤ 5) (hd : dir = 0 ∨ dir = 1) (hr : RowAt W B 62 (redl xs)) :
    Calls Tryz.prog 192 #[.slice (some ⟨B, 0, none⟩) n c, .int .i64 dir] W fun e w' => e = .returned (.tuple #[]) ∧ InRow W w' B (horl (rdir n dir) xs n) := by
  rw [← horl_red]
  match n, xs, hl, h, h5, hr with
  | 1, [a], _, _, _, hr =>
    exact (small_one B 0 c dir _ W hr hd).mono fun e w' ⟨he, hi⟩ => ⟨he, hi.eq (by have := t1 (rdir 1 dir) (fm a); rw [fm_fm] at this; exact this)⟩
  | 2, [a, b], _, _, _, hr =>
    exact (small_two B 0 c dir _ (fm a) (fm b) W hr (by show 2 ≤ 2; omega) rfl rfl (fm_lo _) (fm_hi' _) (fm_lo _) (fm_hi' _) hd).mono fun e w' ⟨he, hi⟩ => ⟨he, hi.eq (t2 (rdir_half (n := 2) (by omega) (by omega) rfl hd) (fm a) (fm b))⟩
  | 3, [a, b, d], _, _, _, hr =>
    refine (via_three B 0 c dir (rdir 3 dir) rfl _ W _ hr hd (fun w hI => small_three B 0 c (rdir 3 dir) (rdir_lo _ _) (by have := rdir_hi 3 dir; omega) _ (fm a) (fm b) (fm d) W w hI (by show 3 ≤ 3; omega) rfl (fm_lo _) (fm_hi' _) rfl (fm_lo _) (fm_hi' _) rfl (fm_lo _) (fm_hi' _))).mono fun e w' ⟨he, hi⟩ => ⟨he, hi.eq ?_⟩
    exact t3 (rdir_n (n := 3) (by omega) (by omega) hd) (rdir_1 3 dir) (w2 _) (fm a) (fm b) (fm d)
  | 4, [a, b, d, f], _, _, _, hr =>
    refine (small_four B 0 c dir (rdir 4 dir) rfl _ (fm a) (fm b) (fm d) (fm f) W hr (by show 4 ≤ 4; omega) rfl (fm_lo _) (fm_hi' _) rfl (fm_lo _) (fm_hi' _) rfl (fm_lo _) (fm_hi' _) rfl (fm_lo _) (fm_hi' _) hd).mono fun e w' ⟨he, hi⟩ => ⟨he, hi.eq ?_⟩
    exact t4 (rdir_half (n := 4) (by omega) (by omega) rfl hd) (fm a) (fm b) (fm d) (fm f)
  | 5, [a, b, d, f, g], _, _, _, hr =>
    refine (via_five B 0 c dir (rdir 5 dir) rfl _ W _ hr hd (fun w hI => small_five B 0 c (rdir 5 dir) (rdir_lo _ _) (by have := rdir_hi 5 dir; omega) _ (fm a) (fm b) (fm d) (fm f) (fm g) W w hI (by show 5 ≤ 5; omega) rfl (fm_lo _) (fm_hi' _) rfl (fm_lo _) (fm_hi' _) rfl (fm_lo _) (fm_hi' _) rfl (fm_lo _) (fm_hi' _) rfl (fm_lo _) (fm_hi' _))).mono fun e w' ⟨he, hi⟩ => ⟨he, hi.eq ?_⟩
    exact t5 (rdir_n (n := 5) (by omega) (by omega) hd) (rdir_1 5 dir) (w2 _) (w3 _) (w4 _) (fm a) (fm b) (fm d) (fm f) (fm g)
end Go.Proofs.YtbhnlfgccldmaaaGreat
/- Package small: Do. -/
namespace Go.Proofs.YtbhnlfgccldmaaaGreat
open Go.ChangeShapes Go.WideShapes Go.ChangeAt Go.RowKit
set_option linter.unusedVariables false
theorem few_ok {n : Nat} (h : few n = true) : 1 ≤ n ∧ n ≤ 5 := by
  have := of_decide_eq_true h
  omega
set_option maxRecDepth 100000 in
theorem small_doW (n : Nat) (p : Option Addr) (c : Nat) (dir : Int) (xs : List Int) (W : World) (hr : Row W p n xs) (hf : few n = true) (hd : dir = 0 ∨ dir = 1) :
    Calls Tryz.prog 171 #[.slice p n c, .int .i64 dir] W (GivesOkNw W n (horl (rdir n dir) xs n)) := by
  obtain ⟨h1, h5⟩ := few_ok hf
  have RD := Lib.hid (c_redown p n c xs W hr)
  have T := Lib.hid (fun (w : World) (B : Nat) (h : RowAt w B 62 (redl xs)) => small_tr n B n dir xs w hr.len h1 h5 hd h)
  have H2 := fun w => small_has n w
  rw [hf] at H2
  have H2 := Lib.hid H2
  have HW := Lib.hid (horl_wf (rdir n dir) xs n)
  have HL := Lib.hid (horl_len (rdir n dir) xs n)
  generalize horl (rdir n dir) xs n = ys at *
  clear hr hf
  rcases hd with rfl | rfl
  all_goals
    go_enter Tryz.func171, Tryz.ntmps171
    go_wp2_with fail
    refine (H2.out _).mono ?_
    rintro e w1 ⟨rfl, rfl⟩
    go_wp2_with fail
    refine RD.out.mono ?_
    rintro e w1 ⟨rfl, hq, b1⟩
    have HQ := Lib.hid hq
    have HB := Lib.hid b1
    clear hq b1
    go_wp2_with fail
    refine (T.out _ _ HQ.out).mono ?_
    rintro e w2 ⟨rfl, i2⟩
    have HI := Lib.hid i2
    clear i2
    go_wp2_with fail
    go_ret2
    exact ⟨_, _, rfl, Row.of_at HI.out.r HW.out HL.out (by omega), fun x hx => by (cases hx; exact Nat.le_refl _), HB.out.trans (HI.out.b.b _ (Nat.le_refl _) HB.out.size)⟩
end Go.Proofs.YtbhnlfgccldmaaaGreat
/- Package exec: the worker's boxes; small, stock, columns. By program (genexb.py). -/
namespace Go.Proofs.YtbhnlfgccldmaaaGreat
open Go.ChangeShapes Go.WideShapes Go.ChangeAt Go.RowKit
set_option linter.unusedVariables false
set_option linter.unusedSimpArgs false
/-- A worker and a plan in boxes. -/
structure WB (w : World) (A B G : Nat) (k n : Int) (v : Value) : Prop where
  c : w.heap[A]? = some (.cells #[.map (some G)] 116 (0, 0))
  d : w.heap[B]? = some (.cells #[.int .i64 k, .int .i64 n, v] 24 (0, 0))
theorem WB.below {w w' : World} {A B G : Nat} {k n : Int} {v : Value} (h : WB w A B G k n v) (hb : Below w.heap.size w w') : WB w' A B G k n v :=
  ⟨(hb.block A (g_lt h.c)).trans h.c, (hb.block B (g_lt h.d)).trans h.d⟩
theorem WB.belowY {w w' : World} {A B G Y : Nat} {k n : Int} {v : Value} (h : WB w A B G k n v) (hb : Below Y w w') (hA : A < Y) (hB : B < Y) : WB w' A B G k n v :=
  ⟨(hb.block A hA).trans h.c, (hb.block B hB).trans h.d⟩
theorem WB.cells {w : World} {A B G : Nat} {k n : Int} {v : Value} (h : WB w A B G k n v) : w.cell? ⟨A, 0, none⟩ = some (.map (some G)) ∧ w.cell? ⟨B, 0, none⟩ = some (.int .i64 k) ∧ w.cell? ⟨B, 1, none⟩ = some (.int .i64 n) ∧ w.cell? ⟨B, 2, none⟩ = some v :=
  ⟨by rw [cell_of_row _ _ _ _ _ _ h.c]; rfl, by rw [cell_of_row _ _ _ _ _ _ h.d]; rfl, by rw [cell_of_row _ _ _ _ _ _ h.d]; rfl, by rw [cell_of_row _ _ _ _ _ _ h.d]; rfl⟩
theorem wb_start (W : World) (G : Nat) (k n : Int) (v : Value) : ∃ w0 w1, W.alloc (.cells #[.map (some G)] 116) = w0 ∧ w0.alloc (.cells #[.int .i64 k, .int .i64 n, v] 24) = w1 ∧ WB w1 W.heap.size w0.heap.size G k n v ∧ Below W.heap.size W w1 ∧ w0.heap.size < w1.heap.size ∧ W.heap.size < w1.heap.size := by
  obtain ⟨w0, hw0⟩ : ∃ w0, W.alloc (.cells #[.map (some G)] 116) = w0 := ⟨_, rfl⟩
  obtain ⟨w1, hw1⟩ : ∃ w1, w0.alloc (.cells #[.int .i64 k, .int .i64 n, v] 24) = w1 := ⟨_, rfl⟩
  have b0 : Below W.heap.size W w0 := hw0 ▸ (Below.refl _ _).alloc (Nat.le_refl _) _
  have b1 : Below w0.heap.size w0 w1 := hw1 ▸ (Below.refl _ _).alloc (Nat.le_refl _) _
  have r0 := heap_alloc_new W (.cells #[.map (some G)] 116)
  rw [hw0] at r0
  have r1 := heap_alloc_new w0 (.cells #[.int .i64 k, .int .i64 n, v] 24)
  rw [hw1] at r1
  have r0' := (b1.block _ (g_lt r0)).trans r0
  exact ⟨w0, w1, hw0, hw1, ⟨r0', r1⟩, b0.trans (b1.mono b0.size), g_lt r1, g_lt r0'⟩
/-- What a kid's run does, from a world on. -/
def RunK (w0 : World) (G : Nat) (k : Int) (m : Nat) (v : Value) (d : Int) (r : Int) : Prop := ∀ w : World, Below w0.heap.size w0 w → ∀ (p : Option Addr) (c : Nat) (xs : List Int), Row w p m xs →
  Calls Tryz.prog 90 #[.agg #[.map (some G)], .agg #[.int .i64 k, .int .i64 m, v], .int .i64 d, .slice p m c] w (GivesNw w m (horl r xs m))
theorem RunK.below {w0 w1 : World} {G : Nat} {k : Int} {m : Nat} {v : Value} {d r : Int} (h : RunK w0 G k m v d r) (hb : Below w0.heap.size w0 w1) : RunK w1 G k m v d r :=
  fun w hw => h w (hb.trans (hw.mono hb.size))
set_option maxRecDepth 100000 in
theorem exec_small (G n : Nat) (k d : Int) (v : Value) (p : Option Addr) (c : Nat) (xs : List Int) (W : World) (hx : Row W p n xs) (hf : few n = true) (hd : d = 0 ∨ d = 1) :
    Calls Tryz.prog 152 #[.agg #[.map (some G)], .agg #[.int .i64 k, .int .i64 n, v], .int .i64 d, .slice p n c] W (GivesNw W n (horl (rdir n d) xs n)) := by
  obtain ⟨w0, w1, hw0, hw1, hWB, hB, l0, l1⟩ := wb_start W G k n v
  have HB := Lib.hid hB
  have SD := Lib.hid (small_doW n p c d xs w1 (hx.below hB) hf hd)
  clear hWB hB hx hf hd l0 l1
  go_enter Tryz.func152, Tryz.ntmps152
  go_wp2_with fail
  refine SD.out.mono ?_
  rintro e w2 ⟨a, q, rfl, hr, hn, hb⟩
  have HR := Lib.hid (And.intro hr (And.intro hn (HB.out.trans (hb.mono HB.out.size))))
  clear hr hn hb
  go_wp2_with fail
  go_ret
  exact ⟨_, _, rfl, HR.out.1, fun x hx => Nat.le_trans HB.out.size (HR.out.2.1 x hx), HR.out.2.2⟩
set_option maxRecDepth 100000 in
theorem exec_stock (G n a : Nat) (k d : Int) (v : Value) (p q : Option Addr) (c e0 : Nat) (xs : List Int) (W : World) (hx : Row W p n xs) (hn : n = 2 ^ a) (hs : n ≤ 16777216) (hd : d = 0 ∨ d = 1) (hw : Row W q n (powl (rdir n d) n)) (hl : Looks W G ⟨1, n, 0, d⟩ (.slice q n e0)) :
    Calls Tryz.prog 153 #[.agg #[.map (some G)], .agg #[.int .i64 k, .int .i64 n, v], .int .i64 d, .slice p n c] W (GivesNw W n (horl (rdir n d) xs n)) := by
  obtain ⟨w0, w1, hw0, hw1, hWB, hB, l0, l1⟩ := wb_start W G k n v
  have HB := Lib.hid hB
  obtain ⟨c0, -, c1, -⟩ := hWB.cells
  have EP := Lib.hid (exec_powers G n d (.slice q n e0) w1 (hl.below hB))
  have ST := Lib.hid (fun (w : World) (h : Below w1.heap.size w1 w) => stock_withW a n p q c e0 xs (powl (rdir n d) n) w hn hs (hx.below (hB.trans (h.mono hB.size))) (hw.below (hB.trans (h.mono hB.size))))
  have E := stock_horl xs hx.len hn hs hd
  rw [← E]
  clear E hWB hB hx hn hs hd hw hl l0 l1
  go_enter Tryz.func153, Tryz.ntmps153
  go_wp2_with fail
  refine EP.out.mono ?_
  rintro e w2 ⟨rfl, hb⟩
  have SW := Lib.hid (ST.out w2 hb)
  have HB2 := Lib.hid (HB.out.trans (hb.mono HB.out.size))
  clear hb c0 c1 ST
  generalize passes xs (powl (rdir n d) n) n a = ys at *
  go_wp2_with fail
  refine SW.out.mono ?_
  rintro e w3 ⟨a1, q1, rfl, hr, hn, hb⟩
  have HR := Lib.hid (And.intro hr (And.intro hn (HB2.out.trans (hb.mono HB2.out.size))))
  clear hr hn hb
  go_wp2_with fail
  go_ret
  exact ⟨_, _, rfl, HR.out.1, fun x hx => Nat.le_trans HB2.out.size (HR.out.2.1 x hx), HR.out.2.2⟩
/-- Columns that are done. -/
def cvt (cs : List Int) (b j i t : Nat) : Int := if t % b < j ∨ (t % b = j ∧ t / b < i) then cs.getD t 0 else 0
theorem flat_eq {b i j t : Nat} (hj : j < b) : t = i * b + j ↔ t / b = i ∧ t % b = j := by
  constructor
  · rintro rfl
    exact ⟨by rw [Nat.mul_comm, Nat.mul_add_div (by omega)]; simp [Nat.div_eq_of_lt hj], by rw [Nat.mul_comm, Nat.mul_add_mod]; exact Nat.mod_eq_of_lt hj⟩
  · rintro ⟨h1, h2⟩
    have := Nat.div_add_mod t b
    rw [h1, h2, Nat.mul_comm] at this
    exact this.symm
theorem cvt_start (cs : List Int) (n b : Nat) : List.replicate n 0 = tab n (cvt cs b 0 0) := by
  rw [tab_rep]
  unfold tab
  refine List.map_congr_left fun t ht => ?_
  unfold cvt
  rw [if_neg (by rintro (h | ⟨_, h⟩) <;> exact absurd h (Nat.not_lt_zero _))]
theorem cvt_step (cs : List Int) (n b j i : Nat) (hj : j < b) : (tab n (cvt cs b j i)).set (i * b + j) (cs.getD (i * b + j) 0) = tab n (cvt cs b j (i + 1)) := by
  refine tab_set _ _ _ _ _ fun t ht => ?_
  unfold cvt
  by_cases h : t = i * b + j
  · obtain ⟨h1, h2⟩ := (flat_eq hj).1 h
    rw [if_pos h, if_pos (.inr ⟨h2, by omega⟩), h]
  · rw [if_neg h]
    have hne : ¬ (t / b = i ∧ t % b = j) := fun g => h ((flat_eq hj).2 g)
    by_cases h3 : t % b < j ∨ (t % b = j ∧ t / b < i)
    · rw [if_pos h3, if_pos (by omega)]
    · rw [if_neg h3, if_neg (by omega)]
theorem cvt_row (cs : List Int) (a b j : Nat) : tab (a * b) (cvt cs b j a) = tab (a * b) (cvt cs b (j + 1) 0) := by
  unfold tab
  refine List.map_congr_left fun t ht => ?_
  have htl : t < a * b := by simpa using ht
  have hd : t / b < a := Nat.div_lt_of_lt_mul (by rw [Nat.mul_comm]; exact htl)
  unfold cvt
  generalize t / b = u at *
  generalize t % b = s at *
  have h0 : ¬ u < 0 := Nat.not_lt_zero _
  by_cases h : s < j ∨ (s = j ∧ u < a)
  · rw [if_pos h, if_pos (by omega)]
  · rw [if_neg h, if_neg (by omega)]
theorem cvt_end (cs : List Int) (n b : Nat) (hb : 0 < b) (hl : cs.length = n) : tab n (cvt cs b b 0) = cs := by
  apply getD_ext (by rw [tab_len, hl])
  intro t ht
  rw [tab_len] at ht
  rw [tab_at _ _ _ ht, cvt, if_pos (.inl (Nat.mod_lt _ hb))]
def fillt (cs L : List Int) (i t : Nat) : Int := if t < i then cs.getD t 0 else L.getD t 0
theorem fillt_start (cs L : List Int) (a : Nat) (hl : L.length = a) : tab a (fillt cs L 0) = L := by
  apply getD_ext (by rw [tab_len, hl])
  intro t ht
  rw [tab_len] at ht
  rw [tab_at _ _ _ ht, fillt, if_neg (by omega)]
theorem fillt_step (cs L : List Int) (a i : Nat) : (tab a (fillt cs L i)).set i (cs.getD i 0) = tab a (fillt cs L (i + 1)) := by
  refine tab_set _ _ _ _ _ fun t ht => ?_
  unfold fillt
  by_cases h : t = i
  · subst h; rw [if_pos rfl, if_pos (by omega)]
  · rw [if_neg h]
    by_cases h2 : t < i
    · rw [if_pos h2, if_pos (by omega)]
    · rw [if_neg h2, if_neg (by omega)]
theorem fillt_end (cs L : List Int) (a : Nat) (hl : cs.length = a) : tab a (fillt cs L a) = cs := by
  apply getD_ext (by rw [tab_len, hl])
  intro t ht
  rw [tab_len] at ht
  rw [tab_at _ _ _ ht, fillt, if_pos ht]
theorem RowAt.otherB {w : World} {B : Nat} {T : TypeId} {ys : List Int} (h : RowAt w B T ys) {p : Addr} (hp : B ≠ p.block) (v : Value) : RowAt (w.setCell p v) B T ys := by
  unfold RowAt at h ⊢
  rw [heap_setCell_other _ _ _ _ hp]; exact h
theorem wf_getD {xs : List Int} (h : ∀ x ∈ xs, (Lit.int .u64 x).wf = true) (k : Nat) : 0 ≤ xs.getD k 0 ∧ xs.getD k 0 ≤ 18446744073709551615 := by
  by_cases hk : k < xs.length
  · have := h _ (List.getElem_mem hk)
    simpa [List.getD, hk, Lit.wf, IntKind.min, IntKind.max, IntKind.signed, IntKind.bits] using this
  · simp [List.getD, List.getElem?_eq_none (Nat.le_of_not_lt hk)]
theorem coll_wf {xs : List Int} (h : ∀ x ∈ xs, (Lit.int .u64 x).wf = true) (a b j : Nat) : ∀ z ∈ coll xs a b j, (Lit.int .u64 z).wf = true := fun z hz => by
  obtain ⟨i, hi, rfl⟩ := List.mem_map.1 hz
  exact WalkArith.wf_u64 (wf_getD h _)
theorem partl_wf {xs : List Int} (h : ∀ x ∈ xs, (Lit.int .u64 x).wf = true) (b i : Nat) : ∀ z ∈ partl xs b i, (Lit.int .u64 z).wf = true := fun z hz => by
  obtain ⟨j, hj, rfl⟩ := List.mem_map.1 hz
  exact WalkArith.wf_u64 (wf_getD h _)
theorem gridf_wf {a b : Nat} {f : Nat → Nat → Int} (h : ∀ i j, 0 ≤ f i j ∧ f i j ≤ 18446744069414584320) : ∀ z ∈ gridf a b f, (Lit.int .u64 z).wf = true := fun z hz => by
  obtain ⟨k, hk, rfl⟩ := List.mem_map.1 hz
  have := h (k / b) (k % b)
  exact WalkArith.wf_u64 ⟨this.1, by omega⟩
theorem horl_b (r : Int) (xs : List Int) (n k : Nat) : 0 ≤ (horl r xs n).getD k 0 ∧ (horl r xs n).getD k 0 ≤ 18446744069414584320 := by
  by_cases hk : k < n
  · rw [horl_at _ _ _ _ hk]; exact ⟨hor_lo _ _, hor_hi _ _⟩
  · rw [List.getD_eq_getElem?_getD, List.getElem?_eq_none (by rw [horl_len]; omega)]; exact ⟨by simp, by simp⟩
theorem colsl_wf (r : Int) (xs : List Int) (a b : Nat) : ∀ z ∈ colsl r xs a b, (Lit.int .u64 z).wf = true := gridf_wf fun i j => horl_b _ _ _ _
theorem rowsl_wf (r : Int) (xs : List Int) (a b : Nat) : ∀ z ∈ rowsl r xs a b, (Lit.int .u64 z).wf = true := gridf_wf fun i j => horl_b _ _ _ _
theorem colsl_len (r : Int) (xs : List Int) (a b : Nat) : (colsl r xs a b).length = a * b := gridf_len _ _ _
theorem rowsl_len (r : Int) (xs : List Int) (a b : Nat) : (rowsl r xs a b).length = a * b := gridf_len _ _ _
end Go.Proofs.YtbhnlfgccldmaaaGreat
