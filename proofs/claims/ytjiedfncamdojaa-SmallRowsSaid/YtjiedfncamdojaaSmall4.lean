/- Package small: three, five. MADE BY wip/bin/gensum.py -/
import Derived.Test.YtjiedfncamdojaaSmall3
import Derived.BigQuiet
namespace Go.Proofs.Ytjiedfncamdojaa
open Go.ChangeShapes Go.WideShapes Go.ChangeAt Go.RowKit
set_option linter.unusedVariables false
theorem rowat5 (w : World) (a b c d e : Int) : RowAt (w.alloc (.cells #[.int .u64 a, .int .u64 b, .int .u64 c, .int .u64 d, .int .u64 e] 24)) w.heap.size 24 [a, b, c, d, e] := by
  unfold RowAt; rw [heap_alloc_new]; rfl
theorem wf_all {l : List Int} (h : ∀ z ∈ l, 0 ≤ z ∧ z ≤ 18446744073709551615) : ∀ z ∈ l, (Lit.int .u64 z).wf = true := fun z hz => WalkArith.wf_u64 ⟨(h z hz).1, (h z hz).2⟩
theorem c_sumrow {w : World} {p : Option Addr} {n c : Nat} {xs : List Int} (h : Row w p n xs) : Calls Try.prog 92 #[.slice p n c] w fun e w' => e = .returned (.int .u64 (fm xs.sum)) ∧ w = w' := by
  have := gold_sum p c xs w h.reads h.wf (by have := h.len; have := h.small; omega)
  unfold fsum at this
  rw [h.len] at this
  rw [List.take_of_length_le (by rw [h.len]; exact Nat.le_refl _)] at this
  exact this
theorem c_sum3 {w : World} {p : Option Addr} {n c : Nat} {x y z : Int} (h : Row w p n [x, y, z]) : Calls Try.prog 92 #[.slice p n c] w fun e w' => e = .returned (.int .u64 (fm (x + (y + z)))) ∧ w = w' := by
  have := c_sumrow (c := c) h
  simp only [List.sum_cons, List.sum_nil, Int.add_zero] at this
  exact this
theorem c_sum5 {w : World} {p : Option Addr} {n c : Nat} {x y z u v : Int} (h : Row w p n [x, y, z, u, v]) : Calls Try.prog 92 #[.slice p n c] w fun e w' => e = .returned (.int .u64 (fm (x + (y + (z + (u + v)))))) ∧ w = w' := by
  have := c_sumrow (c := c) h
  simp only [List.sum_cons, List.sum_nil, Int.add_zero] at this
  exact this
set_option maxRecDepth 100000 in
set_option maxHeartbeats 1000000 in
theorem small_three (B o cp : Nat) (r : Int) (r0 : 0 ≤ r) (r1 : r ≤ 18446744073709551615) (zs : List Int) (xa xb xc : Int) (W w0 : World) (hI : InRow W w0 B zs) (ho : o + 3 ≤ zs.length) (hxa : zs.getD o 0 = xa) (xa0 : 0 ≤ xa) (xa1 : xa ≤ 18446744073709551615) (hxb : zs.getD (o + 1) 0 = xb) (xb0 : 0 ≤ xb) (xb1 : xb ≤ 18446744073709551615) (hxc : zs.getD (o + 2) 0 = xc) (xc0 : 0 ≤ xc) (xc1 : xc ≤ 18446744073709551615) :
    Calls Try.prog 84 #[.slice (some ⟨B, o, none⟩) 3 cp, .int .u64 r] w0 fun e w' => e = .returned (.tuple #[]) ∧ InRow W w' B (((zs.set o (fm (xa + (xb + xc)))).set (o + 1) (fm (xa + (fm (xb * r) + fm (xc * (fm (r * r))))))).set (o + 2) (fm (xa + (fm (xb * (fm (r * r))) + fm (xc * r))))) := by
  have cq0 : w0.cell? ⟨B, o, none⟩ = some (.int .u64 xa) := by rw [hI.r.cell (by omega), hxa]
  have cq1 : w0.cell? ⟨B, o + 1, none⟩ = some (.int .u64 xb) := by rw [hI.r.cell (by omega), hxb]
  have cq2 : w0.cell? ⟨B, o + 2, none⟩ = some (.int .u64 xc) := by rw [hI.r.cell (by omega), hxc]
  have HIq := Lib.hid (fun q => hI.below (below_drewN (Below.refl w0.heap.size w0) q))
  have HO := Lib.hid ho
  clear hI hxa hxb hxc
  go_enter Try.func84, Try.ntmps84
  go_wp2_with fail
  go_quiet (fail)
  go_wp2_with fail
  have HI := Lib.hid (HIq.out nq)
  clear HIq cq0 cq1 cq2
  generalize w0.drewN nq = wd at *
  refine (gold_mul r r _ r0 r1 r0 r1).mono ?_
  rintro e w1 ⟨rfl, hb⟩
  have HI2 := Lib.hid (HI.out.below hb)
  clear HI hb
  have HI := HI2
  clear HI2
  go_wp2_with fail
  have HR := Lib.hid (Row.of_at (rowat3 _ (xa) (xb) (xc) : RowAt (World.alloc w1 (.cells #[.int .u64 xa, .int .u64 xb, .int .u64 xc] 24)) w1.heap.size 24 _) (wf_all (by intro z hz; simp only [List.mem_cons, List.not_mem_nil, or_false] at hz; rcases hz with rfl | rfl | rfl <;> first | exact ⟨by assumption, by assumption⟩ | exact ⟨fm_lo _, fm_hi' _⟩)) (n := 3) rfl (by omega))
  have HI2 := Lib.hid (HI.out.below ((Below.refl w1.heap.size w1).alloc (Nat.le_refl _) (.cells #[.int .u64 xa, .int .u64 xb, .int .u64 xc] 24)))
  clear HI; have HI := HI2; clear HI2
  obtain ⟨w2, hw2⟩ : ∃ w2, w2 = w1.alloc (.cells #[.int .u64 xa, .int .u64 xb, .int .u64 xc] 24) := ⟨_, rfl⟩
  rw [← hw2] at HR HI ⊢
  clear hw2
  refine (c_sum3 HR.out).mono ?_
  rintro e w3 ⟨rfl, rfl⟩
  clear HR
  have f0 := HI.out.r.free o
  have cc0 := HI.out.r.cell (k := o) (by simpa using (show o < zs.length by omega))
  have hlt := HI.out.r.lt
  have HI2 := Lib.hid (HI.out.set o (fm (xa + (xb + xc))))
  clear HI; have HI := HI2; clear HI2
  go_wp2_with fail
  clear f0 cc0 hlt
  generalize hw3 : w2.setCell ⟨B, o, none⟩ (.int .u64 (fm (xa + (xb + xc)))) = w1 at *
  clear hw3
  refine (gold_mul xb r _ xb0 xb1 r0 r1).mono ?_
  rintro e w1 ⟨rfl, hb⟩
  have HI2 := Lib.hid (HI.out.below hb)
  clear HI hb
  have HI := HI2
  clear HI2
  go_wp2_with fail
  refine (gold_mul xc (fm (r * r)) _ xc0 xc1 (fm_lo _) (fm_hi' _)).mono ?_
  rintro e w1 ⟨rfl, hb⟩
  have HI2 := Lib.hid (HI.out.below hb)
  clear HI hb
  have HI := HI2
  clear HI2
  go_wp2_with fail
  have HR := Lib.hid (Row.of_at (rowat3 _ (xa) (fm (xb * r)) (fm (xc * (fm (r * r)))) : RowAt (World.alloc w1 (.cells #[.int .u64 xa, .int .u64 (fm (xb * r)), .int .u64 (fm (xc * (fm (r * r))))] 24)) w1.heap.size 24 _) (wf_all (by intro z hz; simp only [List.mem_cons, List.not_mem_nil, or_false] at hz; rcases hz with rfl | rfl | rfl <;> first | exact ⟨by assumption, by assumption⟩ | exact ⟨fm_lo _, fm_hi' _⟩)) (n := 3) rfl (by omega))
  have HI2 := Lib.hid (HI.out.below ((Below.refl w1.heap.size w1).alloc (Nat.le_refl _) (.cells #[.int .u64 xa, .int .u64 (fm (xb * r)), .int .u64 (fm (xc * (fm (r * r))))] 24)))
  clear HI; have HI := HI2; clear HI2
  obtain ⟨w2, hw2⟩ : ∃ w2, w2 = w1.alloc (.cells #[.int .u64 xa, .int .u64 (fm (xb * r)), .int .u64 (fm (xc * (fm (r * r))))] 24) := ⟨_, rfl⟩
  rw [← hw2] at HR HI ⊢
  clear hw2
  refine (c_sum3 HR.out).mono ?_
  rintro e w3 ⟨rfl, rfl⟩
  clear HR
  have f0 := HI.out.r.free (o + 1)
  have cc0 := HI.out.r.cell (k := (o + 1)) (by simpa using (show (o + 1) < zs.length by omega))
  have hlt := HI.out.r.lt
  have HI2 := Lib.hid (HI.out.set (o + 1) (fm (xa + (fm (xb * r) + fm (xc * (fm (r * r)))))))
  clear HI; have HI := HI2; clear HI2
  go_wp2_with fail
  clear f0 cc0 hlt
  generalize hw3 : w2.setCell ⟨B, o + 1, none⟩ (.int .u64 (fm (xa + (fm (xb * r) + fm (xc * (fm (r * r))))))) = w1 at *
  clear hw3
  refine (gold_mul xb (fm (r * r)) _ xb0 xb1 (fm_lo _) (fm_hi' _)).mono ?_
  rintro e w1 ⟨rfl, hb⟩
  have HI2 := Lib.hid (HI.out.below hb)
  clear HI hb
  have HI := HI2
  clear HI2
  go_wp2_with fail
  refine (gold_mul xc r _ xc0 xc1 r0 r1).mono ?_
  rintro e w1 ⟨rfl, hb⟩
  have HI2 := Lib.hid (HI.out.below hb)
  clear HI hb
  have HI := HI2
  clear HI2
  go_wp2_with fail
  have HR := Lib.hid (Row.of_at (rowat3 _ (xa) (fm (xb * (fm (r * r)))) (fm (xc * r)) : RowAt (World.alloc w1 (.cells #[.int .u64 xa, .int .u64 (fm (xb * (fm (r * r)))), .int .u64 (fm (xc * r))] 24)) w1.heap.size 24 _) (wf_all (by intro z hz; simp only [List.mem_cons, List.not_mem_nil, or_false] at hz; rcases hz with rfl | rfl | rfl <;> first | exact ⟨by assumption, by assumption⟩ | exact ⟨fm_lo _, fm_hi' _⟩)) (n := 3) rfl (by omega))
  have HI2 := Lib.hid (HI.out.below ((Below.refl w1.heap.size w1).alloc (Nat.le_refl _) (.cells #[.int .u64 xa, .int .u64 (fm (xb * (fm (r * r)))), .int .u64 (fm (xc * r))] 24)))
  clear HI; have HI := HI2; clear HI2
  obtain ⟨w2, hw2⟩ : ∃ w2, w2 = w1.alloc (.cells #[.int .u64 xa, .int .u64 (fm (xb * (fm (r * r)))), .int .u64 (fm (xc * r))] 24) := ⟨_, rfl⟩
  rw [← hw2] at HR HI ⊢
  clear hw2
  refine (c_sum3 HR.out).mono ?_
  rintro e w3 ⟨rfl, rfl⟩
  clear HR
  have f0 := HI.out.r.free (o + 2)
  have cc0 := HI.out.r.cell (k := (o + 2)) (by simpa using (show (o + 2) < zs.length by omega))
  have hlt := HI.out.r.lt
  have HI2 := Lib.hid (HI.out.set (o + 2) (fm (xa + (fm (xb * (fm (r * r))) + fm (xc * r)))))
  clear HI; have HI := HI2; clear HI2
  go_wp2_with fail
  clear f0 cc0 hlt
  go_end0
  exact ⟨rfl, HI.out⟩
set_option maxRecDepth 100000 in
set_option maxHeartbeats 1000000 in
theorem small_five (B o cp : Nat) (r : Int) (r0 : 0 ≤ r) (r1 : r ≤ 18446744073709551615) (zs : List Int) (xa xb xc xd xe : Int) (W w0 : World) (hI : InRow W w0 B zs) (ho : o + 5 ≤ zs.length) (hxa : zs.getD o 0 = xa) (xa0 : 0 ≤ xa) (xa1 : xa ≤ 18446744073709551615) (hxb : zs.getD (o + 1) 0 = xb) (xb0 : 0 ≤ xb) (xb1 : xb ≤ 18446744073709551615) (hxc : zs.getD (o + 2) 0 = xc) (xc0 : 0 ≤ xc) (xc1 : xc ≤ 18446744073709551615) (hxd : zs.getD (o + 3) 0 = xd) (xd0 : 0 ≤ xd) (xd1 : xd ≤ 18446744073709551615) (hxe : zs.getD (o + 4) 0 = xe) (xe0 : 0 ≤ xe) (xe1 : xe ≤ 18446744073709551615) :
    Calls Try.prog 86 #[.slice (some ⟨B, o, none⟩) 5 cp, .int .u64 r] w0 fun e w' => e = .returned (.tuple #[]) ∧ InRow W w' B (((((zs.set o (fm (xa + (xb + (xc + (xd + xe)))))).set (o + 1) (fm (xa + (fm (xb * r) + (fm (xc * (fm (r * r))) + (fm (xd * (fm (fm (r * r) * r))) + fm (xe * (fm (fm (r * r) * fm (r * r)))))))))).set (o + 2) (fm (xa + (fm (xb * (fm (r * r))) + (fm (xc * (fm (fm (r * r) * fm (r * r)))) + (fm (xd * r) + fm (xe * (fm (fm (r * r) * r))))))))).set (o + 3) (fm (xa + (fm (xb * (fm (fm (r * r) * r))) + (fm (xc * r) + (fm (xd * (fm (fm (r * r) * fm (r * r)))) + fm (xe * (fm (r * r))))))))).set (o + 4) (fm (xa + (fm (xb * (fm (fm (r * r) * fm (r * r)))) + (fm (xc * (fm (fm (r * r) * r))) + (fm (xd * (fm (r * r))) + fm (xe * r))))))) := by
  have cq0 : w0.cell? ⟨B, o, none⟩ = some (.int .u64 xa) := by rw [hI.r.cell (by omega), hxa]
  have cq1 : w0.cell? ⟨B, o + 1, none⟩ = some (.int .u64 xb) := by rw [hI.r.cell (by omega), hxb]
  have cq2 : w0.cell? ⟨B, o + 2, none⟩ = some (.int .u64 xc) := by rw [hI.r.cell (by omega), hxc]
  have cq3 : w0.cell? ⟨B, o + 3, none⟩ = some (.int .u64 xd) := by rw [hI.r.cell (by omega), hxd]
  have cq4 : w0.cell? ⟨B, o + 4, none⟩ = some (.int .u64 xe) := by rw [hI.r.cell (by omega), hxe]
  have HIq := Lib.hid (fun q => hI.below (below_drewN (Below.refl w0.heap.size w0) q))
  have HO := Lib.hid ho
  clear hI hxa hxb hxc hxd hxe
  go_enter Try.func86, Try.ntmps86
  go_wp2_with fail
  go_quiet (fail)
  go_wp2_with fail
  have HI := Lib.hid (HIq.out nq)
  clear HIq cq0 cq1 cq2 cq3 cq4
  generalize w0.drewN nq = wd at *
  refine (gold_mul r r _ r0 r1 r0 r1).mono ?_
  rintro e w1 ⟨rfl, hb⟩
  have HI2 := Lib.hid (HI.out.below hb)
  clear HI hb
  have HI := HI2
  clear HI2
  go_wp2_with fail
  refine (gold_mul (fm (r * r)) r _ (fm_lo _) (fm_hi' _) r0 r1).mono ?_
  rintro e w1 ⟨rfl, hb⟩
  have HI2 := Lib.hid (HI.out.below hb)
  clear HI hb
  have HI := HI2
  clear HI2
  go_wp2_with fail
  refine (gold_mul (fm (r * r)) (fm (r * r)) _ (fm_lo _) (fm_hi' _) (fm_lo _) (fm_hi' _)).mono ?_
  rintro e w1 ⟨rfl, hb⟩
  have HI2 := Lib.hid (HI.out.below hb)
  clear HI hb
  have HI := HI2
  clear HI2
  go_wp2_with fail
  have HR := Lib.hid (Row.of_at (rowat5 _ (xa) (xb) (xc) (xd) (xe) : RowAt (World.alloc w1 (.cells #[.int .u64 xa, .int .u64 xb, .int .u64 xc, .int .u64 xd, .int .u64 xe] 24)) w1.heap.size 24 _) (wf_all (by intro z hz; simp only [List.mem_cons, List.not_mem_nil, or_false] at hz; rcases hz with rfl | rfl | rfl | rfl | rfl <;> first | exact ⟨by assumption, by assumption⟩ | exact ⟨fm_lo _, fm_hi' _⟩)) (n := 5) rfl (by omega))
  have HI2 := Lib.hid (HI.out.below ((Below.refl w1.heap.size w1).alloc (Nat.le_refl _) (.cells #[.int .u64 xa, .int .u64 xb, .int .u64 xc, .int .u64 xd, .int .u64 xe] 24)))
  clear HI; have HI := HI2; clear HI2
  obtain ⟨w2, hw2⟩ : ∃ w2, w2 = w1.alloc (.cells #[.int .u64 xa, .int .u64 xb, .int .u64 xc, .int .u64 xd, .int .u64 xe] 24) := ⟨_, rfl⟩
  rw [← hw2] at HR HI ⊢
  clear hw2
  refine (c_sum5 HR.out).mono ?_
  rintro e w3 ⟨rfl, rfl⟩
  clear HR
  have f0 := HI.out.r.free o
  have cc0 := HI.out.r.cell (k := o) (by simpa using (show o < zs.length by omega))
  have hlt := HI.out.r.lt
  have HI2 := Lib.hid (HI.out.set o (fm (xa + (xb + (xc + (xd + xe))))))
  clear HI; have HI := HI2; clear HI2
  go_wp2_with fail
  clear f0 cc0 hlt
  generalize hw3 : w2.setCell ⟨B, o, none⟩ (.int .u64 (fm (xa + (xb + (xc + (xd + xe)))))) = w1 at *
  clear hw3
  refine (gold_mul xb r _ xb0 xb1 r0 r1).mono ?_
  rintro e w1 ⟨rfl, hb⟩
  have HI2 := Lib.hid (HI.out.below hb)
  clear HI hb
  have HI := HI2
  clear HI2
  go_wp2_with fail
  refine (gold_mul xc (fm (r * r)) _ xc0 xc1 (fm_lo _) (fm_hi' _)).mono ?_
  rintro e w1 ⟨rfl, hb⟩
  have HI2 := Lib.hid (HI.out.below hb)
  clear HI hb
  have HI := HI2
  clear HI2
  go_wp2_with fail
  refine (gold_mul xd (fm (fm (r * r) * r)) _ xd0 xd1 (fm_lo _) (fm_hi' _)).mono ?_
  rintro e w1 ⟨rfl, hb⟩
  have HI2 := Lib.hid (HI.out.below hb)
  clear HI hb
  have HI := HI2
  clear HI2
  go_wp2_with fail
  refine (gold_mul xe (fm (fm (r * r) * fm (r * r))) _ xe0 xe1 (fm_lo _) (fm_hi' _)).mono ?_
  rintro e w1 ⟨rfl, hb⟩
  have HI2 := Lib.hid (HI.out.below hb)
  clear HI hb
  have HI := HI2
  clear HI2
  go_wp2_with fail
  have HR := Lib.hid (Row.of_at (rowat5 _ (xa) (fm (xb * r)) (fm (xc * (fm (r * r)))) (fm (xd * (fm (fm (r * r) * r)))) (fm (xe * (fm (fm (r * r) * fm (r * r))))) : RowAt (World.alloc w1 (.cells #[.int .u64 xa, .int .u64 (fm (xb * r)), .int .u64 (fm (xc * (fm (r * r)))), .int .u64 (fm (xd * (fm (fm (r * r) * r)))), .int .u64 (fm (xe * (fm (fm (r * r) * fm (r * r)))))] 24)) w1.heap.size 24 _) (wf_all (by intro z hz; simp only [List.mem_cons, List.not_mem_nil, or_false] at hz; rcases hz with rfl | rfl | rfl | rfl | rfl <;> first | exact ⟨by assumption, by assumption⟩ | exact ⟨fm_lo _, fm_hi' _⟩)) (n := 5) rfl (by omega))
  have HI2 := Lib.hid (HI.out.below ((Below.refl w1.heap.size w1).alloc (Nat.le_refl _) (.cells #[.int .u64 xa, .int .u64 (fm (xb * r)), .int .u64 (fm (xc * (fm (r * r)))), .int .u64 (fm (xd * (fm (fm (r * r) * r)))), .int .u64 (fm (xe * (fm (fm (r * r) * fm (r * r)))))] 24)))
  clear HI; have HI := HI2; clear HI2
  obtain ⟨w2, hw2⟩ : ∃ w2, w2 = w1.alloc (.cells #[.int .u64 xa, .int .u64 (fm (xb * r)), .int .u64 (fm (xc * (fm (r * r)))), .int .u64 (fm (xd * (fm (fm (r * r) * r)))), .int .u64 (fm (xe * (fm (fm (r * r) * fm (r * r)))))] 24) := ⟨_, rfl⟩
  rw [← hw2] at HR HI ⊢
  clear hw2
  refine (c_sum5 HR.out).mono ?_
  rintro e w3 ⟨rfl, rfl⟩
  clear HR
  have f0 := HI.out.r.free (o + 1)
  have cc0 := HI.out.r.cell (k := (o + 1)) (by simpa using (show (o + 1) < zs.length by omega))
  have hlt := HI.out.r.lt
  have HI2 := Lib.hid (HI.out.set (o + 1) (fm (xa + (fm (xb * r) + (fm (xc * (fm (r * r))) + (fm (xd * (fm (fm (r * r) * r))) + fm (xe * (fm (fm (r * r) * fm (r * r))))))))))
  clear HI; have HI := HI2; clear HI2
  go_wp2_with fail
  clear f0 cc0 hlt
  generalize hw3 : w2.setCell ⟨B, o + 1, none⟩ (.int .u64 (fm (xa + (fm (xb * r) + (fm (xc * (fm (r * r))) + (fm (xd * (fm (fm (r * r) * r))) + fm (xe * (fm (fm (r * r) * fm (r * r)))))))))) = w1 at *
  clear hw3
  refine (gold_mul xb (fm (r * r)) _ xb0 xb1 (fm_lo _) (fm_hi' _)).mono ?_
  rintro e w1 ⟨rfl, hb⟩
  have HI2 := Lib.hid (HI.out.below hb)
  clear HI hb
  have HI := HI2
  clear HI2
  go_wp2_with fail
  refine (gold_mul xc (fm (fm (r * r) * fm (r * r))) _ xc0 xc1 (fm_lo _) (fm_hi' _)).mono ?_
  rintro e w1 ⟨rfl, hb⟩
  have HI2 := Lib.hid (HI.out.below hb)
  clear HI hb
  have HI := HI2
  clear HI2
  go_wp2_with fail
  refine (gold_mul xd r _ xd0 xd1 r0 r1).mono ?_
  rintro e w1 ⟨rfl, hb⟩
  have HI2 := Lib.hid (HI.out.below hb)
  clear HI hb
  have HI := HI2
  clear HI2
  go_wp2_with fail
  refine (gold_mul xe (fm (fm (r * r) * r)) _ xe0 xe1 (fm_lo _) (fm_hi' _)).mono ?_
  rintro e w1 ⟨rfl, hb⟩
  have HI2 := Lib.hid (HI.out.below hb)
  clear HI hb
  have HI := HI2
  clear HI2
  go_wp2_with fail
  have HR := Lib.hid (Row.of_at (rowat5 _ (xa) (fm (xb * (fm (r * r)))) (fm (xc * (fm (fm (r * r) * fm (r * r))))) (fm (xd * r)) (fm (xe * (fm (fm (r * r) * r)))) : RowAt (World.alloc w1 (.cells #[.int .u64 xa, .int .u64 (fm (xb * (fm (r * r)))), .int .u64 (fm (xc * (fm (fm (r * r) * fm (r * r))))), .int .u64 (fm (xd * r)), .int .u64 (fm (xe * (fm (fm (r * r) * r))))] 24)) w1.heap.size 24 _) (wf_all (by intro z hz; simp only [List.mem_cons, List.not_mem_nil, or_false] at hz; rcases hz with rfl | rfl | rfl | rfl | rfl <;> first | exact ⟨by assumption, by assumption⟩ | exact ⟨fm_lo _, fm_hi' _⟩)) (n := 5) rfl (by omega))
  have HI2 := Lib.hid (HI.out.below ((Below.refl w1.heap.size w1).alloc (Nat.le_refl _) (.cells #[.int .u64 xa, .int .u64 (fm (xb * (fm (r * r)))), .int .u64 (fm (xc * (fm (fm (r * r) * fm (r * r))))), .int .u64 (fm (xd * r)), .int .u64 (fm (xe * (fm (fm (r * r) * r))))] 24)))
  clear HI; have HI := HI2; clear HI2
  obtain ⟨w2, hw2⟩ : ∃ w2, w2 = w1.alloc (.cells #[.int .u64 xa, .int .u64 (fm (xb * (fm (r * r)))), .int .u64 (fm (xc * (fm (fm (r * r) * fm (r * r))))), .int .u64 (fm (xd * r)), .int .u64 (fm (xe * (fm (fm (r * r) * r))))] 24) := ⟨_, rfl⟩
  rw [← hw2] at HR HI ⊢
  clear hw2
  refine (c_sum5 HR.out).mono ?_
  rintro e w3 ⟨rfl, rfl⟩
  clear HR
  have f0 := HI.out.r.free (o + 2)
  have cc0 := HI.out.r.cell (k := (o + 2)) (by simpa using (show (o + 2) < zs.length by omega))
  have hlt := HI.out.r.lt
  have HI2 := Lib.hid (HI.out.set (o + 2) (fm (xa + (fm (xb * (fm (r * r))) + (fm (xc * (fm (fm (r * r) * fm (r * r)))) + (fm (xd * r) + fm (xe * (fm (fm (r * r) * r)))))))))
  clear HI; have HI := HI2; clear HI2
  go_wp2_with fail
  clear f0 cc0 hlt
  generalize hw3 : w2.setCell ⟨B, o + 2, none⟩ (.int .u64 (fm (xa + (fm (xb * (fm (r * r))) + (fm (xc * (fm (fm (r * r) * fm (r * r)))) + (fm (xd * r) + fm (xe * (fm (fm (r * r) * r))))))))) = w1 at *
  clear hw3
  refine (gold_mul xb (fm (fm (r * r) * r)) _ xb0 xb1 (fm_lo _) (fm_hi' _)).mono ?_
  rintro e w1 ⟨rfl, hb⟩
  have HI2 := Lib.hid (HI.out.below hb)
  clear HI hb
  have HI := HI2
  clear HI2
  go_wp2_with fail
  refine (gold_mul xc r _ xc0 xc1 r0 r1).mono ?_
  rintro e w1 ⟨rfl, hb⟩
  have HI2 := Lib.hid (HI.out.below hb)
  clear HI hb
  have HI := HI2
  clear HI2
  go_wp2_with fail
  refine (gold_mul xd (fm (fm (r * r) * fm (r * r))) _ xd0 xd1 (fm_lo _) (fm_hi' _)).mono ?_
  rintro e w1 ⟨rfl, hb⟩
  have HI2 := Lib.hid (HI.out.below hb)
  clear HI hb
  have HI := HI2
  clear HI2
  go_wp2_with fail
  refine (gold_mul xe (fm (r * r)) _ xe0 xe1 (fm_lo _) (fm_hi' _)).mono ?_
  rintro e w1 ⟨rfl, hb⟩
  have HI2 := Lib.hid (HI.out.below hb)
  clear HI hb
  have HI := HI2
  clear HI2
  go_wp2_with fail
  have HR := Lib.hid (Row.of_at (rowat5 _ (xa) (fm (xb * (fm (fm (r * r) * r)))) (fm (xc * r)) (fm (xd * (fm (fm (r * r) * fm (r * r))))) (fm (xe * (fm (r * r)))) : RowAt (World.alloc w1 (.cells #[.int .u64 xa, .int .u64 (fm (xb * (fm (fm (r * r) * r)))), .int .u64 (fm (xc * r)), .int .u64 (fm (xd * (fm (fm (r * r) * fm (r * r))))), .int .u64 (fm (xe * (fm (r * r))))] 24)) w1.heap.size 24 _) (wf_all (by intro z hz; simp only [List.mem_cons, List.not_mem_nil, or_false] at hz; rcases hz with rfl | rfl | rfl | rfl | rfl <;> first | exact ⟨by assumption, by assumption⟩ | exact ⟨fm_lo _, fm_hi' _⟩)) (n := 5) rfl (by omega))
  have HI2 := Lib.hid (HI.out.below ((Below.refl w1.heap.size w1).alloc (Nat.le_refl _) (.cells #[.int .u64 xa, .int .u64 (fm (xb * (fm (fm (r * r) * r)))), .int .u64 (fm (xc * r)), .int .u64 (fm (xd * (fm (fm (r * r) * fm (r * r))))), .int .u64 (fm (xe * (fm (r * r))))] 24)))
  clear HI; have HI := HI2; clear HI2
  obtain ⟨w2, hw2⟩ : ∃ w2, w2 = w1.alloc (.cells #[.int .u64 xa, .int .u64 (fm (xb * (fm (fm (r * r) * r)))), .int .u64 (fm (xc * r)), .int .u64 (fm (xd * (fm (fm (r * r) * fm (r * r))))), .int .u64 (fm (xe * (fm (r * r))))] 24) := ⟨_, rfl⟩
  rw [← hw2] at HR HI ⊢
  clear hw2
  refine (c_sum5 HR.out).mono ?_
  rintro e w3 ⟨rfl, rfl⟩
  clear HR
  have f0 := HI.out.r.free (o + 3)
  have cc0 := HI.out.r.cell (k := (o + 3)) (by simpa using (show (o + 3) < zs.length by omega))
  have hlt := HI.out.r.lt
  have HI2 := Lib.hid (HI.out.set (o + 3) (fm (xa + (fm (xb * (fm (fm (r * r) * r))) + (fm (xc * r) + (fm (xd * (fm (fm (r * r) * fm (r * r)))) + fm (xe * (fm (r * r)))))))))
  clear HI; have HI := HI2; clear HI2
  go_wp2_with fail
  clear f0 cc0 hlt
  generalize hw3 : w2.setCell ⟨B, o + 3, none⟩ (.int .u64 (fm (xa + (fm (xb * (fm (fm (r * r) * r))) + (fm (xc * r) + (fm (xd * (fm (fm (r * r) * fm (r * r)))) + fm (xe * (fm (r * r))))))))) = w1 at *
  clear hw3
  refine (gold_mul xb (fm (fm (r * r) * fm (r * r))) _ xb0 xb1 (fm_lo _) (fm_hi' _)).mono ?_
  rintro e w1 ⟨rfl, hb⟩
  have HI2 := Lib.hid (HI.out.below hb)
  clear HI hb
  have HI := HI2
  clear HI2
  go_wp2_with fail
  refine (gold_mul xc (fm (fm (r * r) * r)) _ xc0 xc1 (fm_lo _) (fm_hi' _)).mono ?_
  rintro e w1 ⟨rfl, hb⟩
  have HI2 := Lib.hid (HI.out.below hb)
  clear HI hb
  have HI := HI2
  clear HI2
  go_wp2_with fail
  refine (gold_mul xd (fm (r * r)) _ xd0 xd1 (fm_lo _) (fm_hi' _)).mono ?_
  rintro e w1 ⟨rfl, hb⟩
  have HI2 := Lib.hid (HI.out.below hb)
  clear HI hb
  have HI := HI2
  clear HI2
  go_wp2_with fail
  refine (gold_mul xe r _ xe0 xe1 r0 r1).mono ?_
  rintro e w1 ⟨rfl, hb⟩
  have HI2 := Lib.hid (HI.out.below hb)
  clear HI hb
  have HI := HI2
  clear HI2
  go_wp2_with fail
  have HR := Lib.hid (Row.of_at (rowat5 _ (xa) (fm (xb * (fm (fm (r * r) * fm (r * r))))) (fm (xc * (fm (fm (r * r) * r)))) (fm (xd * (fm (r * r)))) (fm (xe * r)) : RowAt (World.alloc w1 (.cells #[.int .u64 xa, .int .u64 (fm (xb * (fm (fm (r * r) * fm (r * r))))), .int .u64 (fm (xc * (fm (fm (r * r) * r)))), .int .u64 (fm (xd * (fm (r * r)))), .int .u64 (fm (xe * r))] 24)) w1.heap.size 24 _) (wf_all (by intro z hz; simp only [List.mem_cons, List.not_mem_nil, or_false] at hz; rcases hz with rfl | rfl | rfl | rfl | rfl <;> first | exact ⟨by assumption, by assumption⟩ | exact ⟨fm_lo _, fm_hi' _⟩)) (n := 5) rfl (by omega))
  have HI2 := Lib.hid (HI.out.below ((Below.refl w1.heap.size w1).alloc (Nat.le_refl _) (.cells #[.int .u64 xa, .int .u64 (fm (xb * (fm (fm (r * r) * fm (r * r))))), .int .u64 (fm (xc * (fm (fm (r * r) * r)))), .int .u64 (fm (xd * (fm (r * r)))), .int .u64 (fm (xe * r))] 24)))
  clear HI; have HI := HI2; clear HI2
  obtain ⟨w2, hw2⟩ : ∃ w2, w2 = w1.alloc (.cells #[.int .u64 xa, .int .u64 (fm (xb * (fm (fm (r * r) * fm (r * r))))), .int .u64 (fm (xc * (fm (fm (r * r) * r)))), .int .u64 (fm (xd * (fm (r * r)))), .int .u64 (fm (xe * r))] 24) := ⟨_, rfl⟩
  rw [← hw2] at HR HI ⊢
  clear hw2
  refine (c_sum5 HR.out).mono ?_
  rintro e w3 ⟨rfl, rfl⟩
  clear HR
  have f0 := HI.out.r.free (o + 4)
  have cc0 := HI.out.r.cell (k := (o + 4)) (by simpa using (show (o + 4) < zs.length by omega))
  have hlt := HI.out.r.lt
  have HI2 := Lib.hid (HI.out.set (o + 4) (fm (xa + (fm (xb * (fm (fm (r * r) * fm (r * r)))) + (fm (xc * (fm (fm (r * r) * r))) + (fm (xd * (fm (r * r))) + fm (xe * r)))))))
  clear HI; have HI := HI2; clear HI2
  go_wp2_with fail
  clear f0 cc0 hlt
  go_end0
  exact ⟨rfl, HI.out⟩
end Go.Proofs.Ytjiedfncamdojaa
