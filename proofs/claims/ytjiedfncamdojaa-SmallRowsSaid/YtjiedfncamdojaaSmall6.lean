/- Package small: four. MADE BY wip/bin/genfour.py -/
import Derived.Test.YtjiedfncamdojaaSmall4
namespace Go.Proofs.Ytjiedfncamdojaa
open Go.ChangeShapes Go.WideShapes Go.ChangeAt Go.RowKit
set_option linter.unusedVariables false
theorem abs_world {Q : Act → World → Prop} {a : Act} {w : World} {I : World → Prop} (h : I w) (k : ∀ w, I w → Q a w) : Q a w := k w h
set_option maxRecDepth 100000 in
set_option maxHeartbeats 4000000 in
theorem small_four (B o cp : Nat) (dir : Int) (r : Int) (hrr : r = rdir (4 : Nat) dir) (zs : List Int) (xa xb xc xd : Int) (W : World) (hr : RowAt W B 24 zs) (ho : o + 4 ≤ zs.length) (hxa : zs.getD (o) 0 = xa) (xa0 : 0 ≤ xa) (xa1 : xa ≤ 18446744073709551615) (hxb : zs.getD (o + 1) 0 = xb) (xb0 : 0 ≤ xb) (xb1 : xb ≤ 18446744073709551615) (hxc : zs.getD (o + 2) 0 = xc) (xc0 : 0 ≤ xc) (xc1 : xc ≤ 18446744073709551615) (hxd : zs.getD (o + 3) 0 = xd) (xd0 : 0 ≤ xd) (xd1 : xd ≤ 18446744073709551615) (hd : dir = 0 ∨ dir = 1) :
    Calls Try.prog 70 #[.slice (some ⟨B, o, none⟩) 4 cp, .int .i64 dir] W fun e w' => e = .returned (.tuple #[]) ∧ InRow W w' B ((((((((((zs.set o (fm (xa + xc))).set (o + 2) (fm (xa - xc))).set (o + 1) (fm (xb + xd))).set (o + 3) (fm (fm (xb - xd) * r))).set (o + 2) (fm ((fm (xa - xc)) + (fm (fm (xb - xd) * r))))).set (o + 3) (fm ((fm (xa - xc)) - (fm (fm (xb - xd) * r))))).set o (fm ((fm (xa + xc)) + (fm (xb + xd))))).set (o + 1) (fm ((fm (xa + xc)) - (fm (xb + xd))))).set (o + 1) (fm ((fm (xa - xc)) + (fm (fm (xb - xd) * r))))).set (o + 2) (fm ((fm (xa + xc)) - (fm (xb + xd))))) := by
  have R := Lib.hid (show ∀ w, Calls Try.prog 83 #[.int .i64 4, .int .i64 dir] w fun e w' => e = .returned (.int .u64 r) ∧ Below w.heap.size w w' from fun w => by rw [hrr]; exact small_base 4 dir w (by omega) (by omega) hd)
  have r0 : 0 ≤ r := by rw [hrr]; exact rdir_lo _ _
  have r1 : r ≤ 18446744073709551615 := by rw [hrr]; have := rdir_hi (4 : Nat) dir; omega
  clear hrr
  have Gzs0 := Lib.hid hxa
  have Gzs1 := Lib.hid hxb
  have Gzs2 := Lib.hid hxc
  have Gzs3 := Lib.hid hxd
  have Lzs := ho
  obtain ⟨z1, hz1⟩ : ∃ z, z = (zs.set (o) (fm (xa + xc))).set (o + 2) (fm (xa - xc)) := ⟨_, rfl⟩
  have Lz1 : o + 4 ≤ z1.length := by rw [hz1, List.length_set, List.length_set]; exact Lzs
  have Gz10 := Lib.hid (show z1.getD (o) 0 = (fm (xa + xc)) from by rw [hz1, getD_set_ne (by omega)]; exact getD_set_same (by omega))
  have Gz11 := Lib.hid (show z1.getD (o + 1) 0 = xb from by rw [hz1, getD_set_ne (by omega), getD_set_ne (by omega)]; exact Gzs1.out)
  have Gz12 := Lib.hid (show z1.getD (o + 2) 0 = (fm (xa - xc)) from by rw [hz1]; exact getD_set_same (by rw [List.length_set]; omega))
  have Gz13 := Lib.hid (show z1.getD (o + 3) 0 = xd from by rw [hz1, getD_set_ne (by omega), getD_set_ne (by omega)]; exact Gzs3.out)
  have Hz1 := Lib.hid hz1
  obtain ⟨z2, hz2⟩ : ∃ z, z = (z1.set (o + 1) (fm (xb + xd))).set (o + 3) (fm (fm (xb - xd) * r)) := ⟨_, rfl⟩
  have Lz2 : o + 4 ≤ z2.length := by rw [hz2, List.length_set, List.length_set]; exact Lz1
  have Gz20 := Lib.hid (show z2.getD (o) 0 = (fm (xa + xc)) from by rw [hz2, getD_set_ne (by omega), getD_set_ne (by omega)]; exact Gz10.out)
  have Gz21 := Lib.hid (show z2.getD (o + 1) 0 = (fm (xb + xd)) from by rw [hz2, getD_set_ne (by omega)]; exact getD_set_same (by omega))
  have Gz22 := Lib.hid (show z2.getD (o + 2) 0 = (fm (xa - xc)) from by rw [hz2, getD_set_ne (by omega), getD_set_ne (by omega)]; exact Gz12.out)
  have Gz23 := Lib.hid (show z2.getD (o + 3) 0 = (fm (fm (xb - xd) * r)) from by rw [hz2]; exact getD_set_same (by rw [List.length_set]; omega))
  have Hz2 := Lib.hid hz2
  obtain ⟨z3, hz3⟩ : ∃ z, z = (z2.set (o + 2) (fm ((fm (xa - xc)) + (fm (fm (xb - xd) * r))))).set (o + 3) (fm ((fm (xa - xc)) - (fm (fm (xb - xd) * r)))) := ⟨_, rfl⟩
  have Lz3 : o + 4 ≤ z3.length := by rw [hz3, List.length_set, List.length_set]; exact Lz2
  have Gz30 := Lib.hid (show z3.getD (o) 0 = (fm (xa + xc)) from by rw [hz3, getD_set_ne (by omega), getD_set_ne (by omega)]; exact Gz20.out)
  have Gz31 := Lib.hid (show z3.getD (o + 1) 0 = (fm (xb + xd)) from by rw [hz3, getD_set_ne (by omega), getD_set_ne (by omega)]; exact Gz21.out)
  have Gz32 := Lib.hid (show z3.getD (o + 2) 0 = (fm ((fm (xa - xc)) + (fm (fm (xb - xd) * r)))) from by rw [hz3, getD_set_ne (by omega)]; exact getD_set_same (by omega))
  have Gz33 := Lib.hid (show z3.getD (o + 3) 0 = (fm ((fm (xa - xc)) - (fm (fm (xb - xd) * r)))) from by rw [hz3]; exact getD_set_same (by rw [List.length_set]; omega))
  have Hz3 := Lib.hid hz3
  obtain ⟨z4, hz4⟩ : ∃ z, z = (z3.set (o) (fm ((fm (xa + xc)) + (fm (xb + xd))))).set (o + 1) (fm ((fm (xa + xc)) - (fm (xb + xd)))) := ⟨_, rfl⟩
  have Lz4 : o + 4 ≤ z4.length := by rw [hz4, List.length_set, List.length_set]; exact Lz3
  have Gz40 := Lib.hid (show z4.getD (o) 0 = (fm ((fm (xa + xc)) + (fm (xb + xd)))) from by rw [hz4, getD_set_ne (by omega)]; exact getD_set_same (by omega))
  have Gz41 := Lib.hid (show z4.getD (o + 1) 0 = (fm ((fm (xa + xc)) - (fm (xb + xd)))) from by rw [hz4]; exact getD_set_same (by rw [List.length_set]; omega))
  have Gz42 := Lib.hid (show z4.getD (o + 2) 0 = (fm ((fm (xa - xc)) + (fm (fm (xb - xd) * r)))) from by rw [hz4, getD_set_ne (by omega), getD_set_ne (by omega)]; exact Gz32.out)
  have Gz43 := Lib.hid (show z4.getD (o + 3) 0 = (fm ((fm (xa - xc)) - (fm (fm (xb - xd) * r)))) from by rw [hz4, getD_set_ne (by omega), getD_set_ne (by omega)]; exact Gz33.out)
  have Hz4 := Lib.hid hz4
  obtain ⟨z5, hz5⟩ : ∃ z, z = (z4.set (o + 1) (fm ((fm (xa - xc)) + (fm (fm (xb - xd) * r))))).set (o + 2) (fm ((fm (xa + xc)) - (fm (xb + xd)))) := ⟨_, rfl⟩
  have Lz5 : o + 4 ≤ z5.length := by rw [hz5, List.length_set, List.length_set]; exact Lz4
  have Gz50 := Lib.hid (show z5.getD (o) 0 = (fm ((fm (xa + xc)) + (fm (xb + xd)))) from by rw [hz5, getD_set_ne (by omega), getD_set_ne (by omega)]; exact Gz40.out)
  have Gz51 := Lib.hid (show z5.getD (o + 1) 0 = (fm ((fm (xa - xc)) + (fm (fm (xb - xd) * r)))) from by rw [hz5, getD_set_ne (by omega)]; exact getD_set_same (by omega))
  have Gz52 := Lib.hid (show z5.getD (o + 2) 0 = (fm ((fm (xa + xc)) - (fm (xb + xd)))) from by rw [hz5]; exact getD_set_same (by rw [List.length_set]; omega))
  have Gz53 := Lib.hid (show z5.getD (o + 3) 0 = (fm ((fm (xa - xc)) - (fm (fm (xb - xd) * r)))) from by rw [hz5, getD_set_ne (by omega), getD_set_ne (by omega)]; exact Gz43.out)
  have Hz5 := Lib.hid hz5
  rw [← hz1, ← hz2, ← hz3, ← hz4, ← hz5]
  clear hz1 hz2 hz3 hz4 hz5 hxa hxb hxc hxd hd
  have I0 := Lib.hid (show InRow W W B zs from ⟨hr, But.refl _ _⟩)
  clear hr
  go_enter Try.func70, Try.ntmps70
  refine scope_two rfl rfl ?_
  go_wp2_with fail
  refine (R.out _).mono ?_
  rintro e w1 ⟨rfl, b1⟩
  have HI := Lib.hid (I0.out.below b1)
  clear I0 b1
  go_wp2_with fail
  have CX1 := Lib.hid (fun w (h : InRow W w B zs) => show w.cell? ⟨B, o, none⟩ = some (.int .u64 xa) by rw [h.r.cell (by omega), Gzs0.out])
  have CY1 := Lib.hid (fun w (h : InRow W w B zs) => show w.cell? ⟨B, o + 2, none⟩ = some (.int .u64 xc) by rw [h.r.cell (by omega), Gzs2.out])
  refine region_gate (fun w' => InRow W w' B zs) 17 (by kernel_rfl) HI.out.drew (fun hHeld => ?_)
  refine gate_takeF (i := 0) (v := ?v1) rfl (by kernel_rfl) (by kernel_rfl) (by kernel_rfl) (by kernel_rfl) (fun _ _ _ h => h) (Or.inl ⟨by rfl, ?hy1⟩) (by assumption) ?rest1
  case hy1 => intro w hSw; clear hSw; go_simp; with_reducible rfl
  simp only [Act.put, List.setIfInBounds_toArray]
  refine gate_takeF (i := 1) (v := ?v2) rfl (by kernel_rfl) (by kernel_rfl) (by kernel_rfl) (by kernel_rfl) (fun _ _ _ h => h) (Or.inl ⟨by rfl, ?hy2⟩) (by assumption) ?rest2
  case hy2 => intro w hSw; clear hSw; go_simp; with_reducible rfl
  simp only [Act.put]
  refine gate_takeF (i := 2) (v := ?v3) rfl (by kernel_rfl) (by kernel_rfl) (by kernel_rfl) (by kernel_rfl) (fun _ _ _ h => h) (Or.inl ⟨by rfl, ?hy3⟩) (by assumption) ?rest3
  case hy3 => intro w hSw; clear hSw; go_simp; with_reducible rfl
  simp only [Act.put]
  refine gate_takeF (i := 3) (v := ?v4) rfl (by kernel_rfl) (by kernel_rfl) (by kernel_rfl) (by kernel_rfl) (fun _ _ _ h => h) (Or.inl ⟨by rfl, ?hy4⟩) (by assumption) ?rest4
  case hy4 => intro w hSw; clear hSw; go_simp; with_reducible rfl
  simp only [Act.put]
  refine gate_take (i := 4) (v := ?v5) rfl (by kernel_rfl) (by kernel_rfl) (by kernel_rfl) (by kernel_rfl) (by kernel_rfl) (fun _ _ _ h => h) (Or.inl ⟨by rfl, ?hy5⟩) (by assumption) ?rest5
  case hy5 => intro w hSw; have hcl := CX1.out w hSw; go_simp; with_reducible rfl
  simp only [Act.put]
  refine gate_takeF (i := 5) (v := ?v6) rfl (by kernel_rfl) (by kernel_rfl) (by kernel_rfl) (by kernel_rfl) (fun _ _ _ h => h) (Or.inl ⟨by rfl, ?hy6⟩) (by assumption) ?rest6
  case hy6 => intro w hSw; clear hSw; go_simp; with_reducible rfl
  simp only [Act.put]
  refine gate_takeF (i := 6) (v := ?v7) rfl (by kernel_rfl) (by kernel_rfl) (by kernel_rfl) (by kernel_rfl) (fun _ _ _ h => h) (Or.inl ⟨by rfl, ?hy7⟩) (by assumption) ?rest7
  case hy7 => intro w hSw; clear hSw; go_simp; with_reducible rfl
  simp only [Act.put]
  refine gate_take (i := 7) (v := ?v8) rfl (by kernel_rfl) (by kernel_rfl) (by kernel_rfl) (by kernel_rfl) (by kernel_rfl) (fun _ _ _ h => h) (Or.inl ⟨by rfl, ?hy8⟩) (by assumption) ?rest8
  case hy8 => intro w hSw; have hcl := CY1.out w hSw; go_simp; with_reducible rfl
  simp only [Act.put]
  refine gate_takeF (i := 9) (v := ?v9) rfl (by kernel_rfl) (by kernel_rfl) (by kernel_rfl) (by kernel_rfl) (fun _ _ _ h => h) (Or.inl ⟨by rfl, ?hy9⟩) (by assumption) ?rest9
  case hy9 => intro w hSw; clear hSw; go_simp; with_reducible rfl
  simp only [Act.put]
  refine gate_takeF (i := 10) (v := ?v10) rfl (by kernel_rfl) (by kernel_rfl) (by kernel_rfl) (by kernel_rfl) (fun _ _ _ h => h) (Or.inl ⟨by rfl, ?hy10⟩) (by assumption) ?rest10
  case hy10 => intro w hSw; clear hSw; go_simp; with_reducible rfl
  simp only [Act.put]
  refine gate_take (i := 11) (v := ?v11) rfl (by kernel_rfl) (by kernel_rfl) (by kernel_rfl) (by kernel_rfl) (by kernel_rfl) (fun _ _ _ h => h) (Or.inl ⟨by rfl, ?hy11⟩) (by assumption) ?rest11
  case hy11 => intro w hSw; have hcl := CX1.out w hSw; go_simp; with_reducible rfl
  simp only [Act.put]
  refine gate_takeF (i := 12) (v := ?v12) rfl (by kernel_rfl) (by kernel_rfl) (by kernel_rfl) (by kernel_rfl) (fun _ _ _ h => h) (Or.inl ⟨by rfl, ?hy12⟩) (by assumption) ?rest12
  case hy12 => intro w hSw; clear hSw; go_simp; with_reducible rfl
  simp only [Act.put]
  refine gate_takeF (i := 13) (v := ?v13) rfl (by kernel_rfl) (by kernel_rfl) (by kernel_rfl) (by kernel_rfl) (fun _ _ _ h => h) (Or.inl ⟨by rfl, ?hy13⟩) (by assumption) ?rest13
  case hy13 => intro w hSw; clear hSw; go_simp; with_reducible rfl
  simp only [Act.put]
  refine gate_take (i := 14) (v := ?v14) rfl (by kernel_rfl) (by kernel_rfl) (by kernel_rfl) (by kernel_rfl) (by kernel_rfl) (fun _ _ _ h => h) (Or.inl ⟨by rfl, ?hy14⟩) (by assumption) ?rest14
  case hy14 => intro w hSw; have hcl := CY1.out w hSw; go_simp; with_reducible rfl
  simp only [Act.put]
  refine gate_one (i := 8) rfl (by kernel_rfl) (fun K hK => ?_)
  go_simp
  refine (gold_add xa xc _ xa0 xa1 xc0 xc1).mono ?_
  rintro e w' ⟨rfl, rfl⟩
  go_wp2_with fail
  refine hK.out _ _ (by assumption) (fun hHeld2 => ?_)
  clear hK K
  try simp only [Act.put]
  refine gate_one (i := 15) rfl (by kernel_rfl) (fun K hK => ?_)
  go_simp
  refine (gold_sub xa xc _ xa0 xa1 xc0 xc1).mono ?_
  rintro e w' ⟨rfl, rfl⟩
  go_wp2_with fail
  refine hK.out _ _ (by assumption) (fun hHeld2 => ?_)
  clear hK K
  try simp only [Act.put]
  refine gate_takeF (i := 16) (v := ?v15) rfl (by kernel_rfl) (by kernel_rfl) (by kernel_rfl) (by kernel_rfl) (fun _ _ _ h => h) (Or.inl ⟨by rfl, ?hy15⟩) (by assumption) ?rest15
  case hy15 => intro w hSw; clear hSw; go_simp; with_reducible rfl
  simp only [Act.put]
  have f0 := hHeld.r.free (o)
  have cc0 := CX1.out _ hHeld
  have hlt := hHeld.r.lt
  refine gate_past (i := 17) rfl (by kernel_rfl) (by kernel_rfl) (fun K hK => ?_)
  go_simp
  refine hK.out _ _ ?_
  clear hK K
  try simp only [Act.put]
  have h1 : InRow W (w1.setCell ⟨B, o, none⟩ (.int .u64 (fm (xa + xc)))).drew B (zs.set (o) (fm (xa + xc))) := hHeld.set (o) (fm (xa + xc))
  have hlt1 := h1.r.lt
  have f1 := h1.r.free (o + 2)
  have cc2 : (w1.setCell ⟨B, o, none⟩ (.int .u64 (fm (xa + xc)))).drew.cell? ⟨B, o + 2, none⟩ = some (.int .u64 ((zs.set (o) (fm (xa + xc))).getD (o + 2) 0)) := h1.r.cell (by rw [List.length_set]; omega)
  refine gate_past (i := 18) rfl (by kernel_rfl) (by kernel_rfl) (fun K hK => ?_)
  go_simp
  refine hK.out _ _ ?_
  clear hK K
  try simp only [Act.put]
  refine gate_past (i := 19) rfl (by kernel_rfl) (by kernel_rfl) (fun K hK => ?_)
  go_simp
  refine hK.out _ _ ?_
  clear hK K
  try simp only [Act.put]
  have E := h1.set (o + 2) (fm (xa - xc))
  rw [← Hz1.out] at E
  clear h1 hHeld hHeld2 cc0 f0 hlt hlt1 f1 cc2 HI CX1 CY1
  refine gate_done (by kernel_rfl) ?_ _
  refine abs_world (I := fun w => InRow W w B z1) E ?_
  clear E; intro w2 E
  have HI := Lib.hid E
  clear E
  go_wp2_with fail
  have CX2 := Lib.hid (fun w (h : InRow W w B z1) => show w.cell? ⟨B, o + 1, none⟩ = some (.int .u64 xb) by rw [h.r.cell (by omega), Gz11.out])
  have CY2 := Lib.hid (fun w (h : InRow W w B z1) => show w.cell? ⟨B, o + 3, none⟩ = some (.int .u64 xd) by rw [h.r.cell (by omega), Gz13.out])
  refine region_gate (fun w' => InRow W w' B z1) 19 (by kernel_rfl) HI.out.drew (fun hHeld => ?_)
  refine gate_takeF (i := 0) (v := ?v16) rfl (by kernel_rfl) (by kernel_rfl) (by kernel_rfl) (by kernel_rfl) (fun _ _ _ h => h) (Or.inl ⟨by rfl, ?hy16⟩) (by assumption) ?rest16
  case hy16 => intro w hSw; clear hSw; go_simp; with_reducible rfl
  simp only [Act.put, List.setIfInBounds_toArray]
  refine gate_takeF (i := 1) (v := ?v17) rfl (by kernel_rfl) (by kernel_rfl) (by kernel_rfl) (by kernel_rfl) (fun _ _ _ h => h) (Or.inl ⟨by rfl, ?hy17⟩) (by assumption) ?rest17
  case hy17 => intro w hSw; clear hSw; go_simp; with_reducible rfl
  simp only [Act.put]
  refine gate_takeF (i := 2) (v := ?v18) rfl (by kernel_rfl) (by kernel_rfl) (by kernel_rfl) (by kernel_rfl) (fun _ _ _ h => h) (Or.inl ⟨by rfl, ?hy18⟩) (by assumption) ?rest18
  case hy18 => intro w hSw; clear hSw; go_simp; with_reducible rfl
  simp only [Act.put]
  refine gate_takeF (i := 3) (v := ?v19) rfl (by kernel_rfl) (by kernel_rfl) (by kernel_rfl) (by kernel_rfl) (fun _ _ _ h => h) (Or.inl ⟨by rfl, ?hy19⟩) (by assumption) ?rest19
  case hy19 => intro w hSw; clear hSw; go_simp; with_reducible rfl
  simp only [Act.put]
  refine gate_take (i := 4) (v := ?v20) rfl (by kernel_rfl) (by kernel_rfl) (by kernel_rfl) (by kernel_rfl) (by kernel_rfl) (fun _ _ _ h => h) (Or.inl ⟨by rfl, ?hy20⟩) (by assumption) ?rest20
  case hy20 => intro w hSw; have hcl := CX2.out w hSw; go_simp; with_reducible rfl
  simp only [Act.put]
  refine gate_takeF (i := 5) (v := ?v21) rfl (by kernel_rfl) (by kernel_rfl) (by kernel_rfl) (by kernel_rfl) (fun _ _ _ h => h) (Or.inl ⟨by rfl, ?hy21⟩) (by assumption) ?rest21
  case hy21 => intro w hSw; clear hSw; go_simp; with_reducible rfl
  simp only [Act.put]
  refine gate_takeF (i := 6) (v := ?v22) rfl (by kernel_rfl) (by kernel_rfl) (by kernel_rfl) (by kernel_rfl) (fun _ _ _ h => h) (Or.inl ⟨by rfl, ?hy22⟩) (by assumption) ?rest22
  case hy22 => intro w hSw; clear hSw; go_simp; with_reducible rfl
  simp only [Act.put]
  refine gate_take (i := 7) (v := ?v23) rfl (by kernel_rfl) (by kernel_rfl) (by kernel_rfl) (by kernel_rfl) (by kernel_rfl) (fun _ _ _ h => h) (Or.inl ⟨by rfl, ?hy23⟩) (by assumption) ?rest23
  case hy23 => intro w hSw; have hcl := CY2.out w hSw; go_simp; with_reducible rfl
  simp only [Act.put]
  refine gate_takeF (i := 9) (v := ?v24) rfl (by kernel_rfl) (by kernel_rfl) (by kernel_rfl) (by kernel_rfl) (fun _ _ _ h => h) (Or.inl ⟨by rfl, ?hy24⟩) (by assumption) ?rest24
  case hy24 => intro w hSw; clear hSw; go_simp; with_reducible rfl
  simp only [Act.put]
  refine gate_takeF (i := 10) (v := ?v25) rfl (by kernel_rfl) (by kernel_rfl) (by kernel_rfl) (by kernel_rfl) (fun _ _ _ h => h) (Or.inl ⟨by rfl, ?hy25⟩) (by assumption) ?rest25
  case hy25 => intro w hSw; clear hSw; go_simp; with_reducible rfl
  simp only [Act.put]
  refine gate_take (i := 11) (v := ?v26) rfl (by kernel_rfl) (by kernel_rfl) (by kernel_rfl) (by kernel_rfl) (by kernel_rfl) (fun _ _ _ h => h) (Or.inl ⟨by rfl, ?hy26⟩) (by assumption) ?rest26
  case hy26 => intro w hSw; have hcl := CX2.out w hSw; go_simp; with_reducible rfl
  simp only [Act.put]
  refine gate_takeF (i := 12) (v := ?v27) rfl (by kernel_rfl) (by kernel_rfl) (by kernel_rfl) (by kernel_rfl) (fun _ _ _ h => h) (Or.inl ⟨by rfl, ?hy27⟩) (by assumption) ?rest27
  case hy27 => intro w hSw; clear hSw; go_simp; with_reducible rfl
  simp only [Act.put]
  refine gate_takeF (i := 13) (v := ?v28) rfl (by kernel_rfl) (by kernel_rfl) (by kernel_rfl) (by kernel_rfl) (fun _ _ _ h => h) (Or.inl ⟨by rfl, ?hy28⟩) (by assumption) ?rest28
  case hy28 => intro w hSw; clear hSw; go_simp; with_reducible rfl
  simp only [Act.put]
  refine gate_take (i := 14) (v := ?v29) rfl (by kernel_rfl) (by kernel_rfl) (by kernel_rfl) (by kernel_rfl) (by kernel_rfl) (fun _ _ _ h => h) (Or.inl ⟨by rfl, ?hy29⟩) (by assumption) ?rest29
  case hy29 => intro w hSw; have hcl := CY2.out w hSw; go_simp; with_reducible rfl
  simp only [Act.put]
  refine gate_takeF (i := 16) (v := ?v30) rfl (by kernel_rfl) (by kernel_rfl) (by kernel_rfl) (by kernel_rfl) (fun _ _ _ h => h) (Or.inl ⟨by rfl, ?hy30⟩) (by assumption) ?rest30
  case hy30 => intro w hSw; clear hSw; go_simp; with_reducible rfl
  simp only [Act.put]
  refine gate_one (i := 8) rfl (by kernel_rfl) (fun K hK => ?_)
  go_simp
  refine (gold_add xb xd _ xb0 xb1 xd0 xd1).mono ?_
  rintro e w' ⟨rfl, rfl⟩
  go_wp2_with fail
  refine hK.out _ _ (by assumption) (fun hHeld2 => ?_)
  clear hK K
  try simp only [Act.put]
  refine gate_one (i := 15) rfl (by kernel_rfl) (fun K hK => ?_)
  go_simp
  refine (gold_sub xb xd _ xb0 xb1 xd0 xd1).mono ?_
  rintro e w' ⟨rfl, rfl⟩
  go_wp2_with fail
  refine hK.out _ _ (by assumption) (fun hHeld2 => ?_)
  clear hK K
  try simp only [Act.put]
  refine gate_one (i := 17) rfl (by kernel_rfl) (fun K hK => ?_)
  go_simp
  refine (gold_mul (fm (xb - xd)) r _ (fm_lo _) (fm_hi' _) r0 r1).mono ?_
  rintro e wm ⟨rfl, hb⟩
  have hM := hHeld.below hb
  clear hHeld hHeld2 hb
  have hHeld := hM
  clear hM
  go_wp2_with fail
  refine hK.out _ _ hHeld (fun hHeld2 => ?_)
  clear hK K
  try simp only [Act.put]
  refine gate_takeF (i := 18) (v := ?v31) rfl (by kernel_rfl) (by kernel_rfl) (by kernel_rfl) (by kernel_rfl) (fun _ _ _ h => h) (Or.inl ⟨by rfl, ?hy31⟩) (by assumption) ?rest31
  case hy31 => intro w hSw; clear hSw; go_simp; with_reducible rfl
  simp only [Act.put]
  have f0 := hHeld.r.free (o + 1)
  have cc0 := CX2.out _ hHeld
  have hlt := hHeld.r.lt
  refine gate_past (i := 19) rfl (by kernel_rfl) (by kernel_rfl) (fun K hK => ?_)
  go_simp
  refine hK.out _ _ ?_
  clear hK K
  try simp only [Act.put]
  have h1 : InRow W (wm.setCell ⟨B, o + 1, none⟩ (.int .u64 (fm (xb + xd)))) B (z1.set (o + 1) (fm (xb + xd))) := hHeld.set (o + 1) (fm (xb + xd))
  have hlt1 := h1.r.lt
  have f1 := h1.r.free (o + 3)
  have cc2 : (wm.setCell ⟨B, o + 1, none⟩ (.int .u64 (fm (xb + xd)))).cell? ⟨B, o + 3, none⟩ = some (.int .u64 ((z1.set (o + 1) (fm (xb + xd))).getD (o + 3) 0)) := h1.r.cell (by rw [List.length_set]; omega)
  refine gate_past (i := 20) rfl (by kernel_rfl) (by kernel_rfl) (fun K hK => ?_)
  go_simp
  refine hK.out _ _ ?_
  clear hK K
  try simp only [Act.put]
  refine gate_past (i := 21) rfl (by kernel_rfl) (by kernel_rfl) (fun K hK => ?_)
  go_simp
  refine hK.out _ _ ?_
  clear hK K
  try simp only [Act.put]
  have E := h1.set (o + 3) (fm (fm (xb - xd) * r))
  rw [← Hz2.out] at E
  clear h1 hHeld hHeld2 cc0 f0 hlt hlt1 f1 cc2 HI CX2 CY2
  refine gate_done (by kernel_rfl) ?_ _
  refine abs_world (I := fun w => InRow W w B z2) E ?_
  clear E; intro w3 E
  have HI := Lib.hid E
  clear E
  go_wp2_with fail
  have CX3 := Lib.hid (fun w (h : InRow W w B z2) => show w.cell? ⟨B, o + 2, none⟩ = some (.int .u64 (fm (xa - xc))) by rw [h.r.cell (by omega), Gz22.out])
  have CY3 := Lib.hid (fun w (h : InRow W w B z2) => show w.cell? ⟨B, o + 3, none⟩ = some (.int .u64 (fm (fm (xb - xd) * r))) by rw [h.r.cell (by omega), Gz23.out])
  refine region_gate (fun w' => InRow W w' B z2) 17 (by kernel_rfl) HI.out.drew (fun hHeld => ?_)
  refine gate_takeF (i := 0) (v := ?v32) rfl (by kernel_rfl) (by kernel_rfl) (by kernel_rfl) (by kernel_rfl) (fun _ _ _ h => h) (Or.inl ⟨by rfl, ?hy32⟩) (by assumption) ?rest32
  case hy32 => intro w hSw; clear hSw; go_simp; with_reducible rfl
  simp only [Act.put, List.setIfInBounds_toArray]
  refine gate_takeF (i := 1) (v := ?v33) rfl (by kernel_rfl) (by kernel_rfl) (by kernel_rfl) (by kernel_rfl) (fun _ _ _ h => h) (Or.inl ⟨by rfl, ?hy33⟩) (by assumption) ?rest33
  case hy33 => intro w hSw; clear hSw; go_simp; with_reducible rfl
  simp only [Act.put]
  refine gate_takeF (i := 2) (v := ?v34) rfl (by kernel_rfl) (by kernel_rfl) (by kernel_rfl) (by kernel_rfl) (fun _ _ _ h => h) (Or.inl ⟨by rfl, ?hy34⟩) (by assumption) ?rest34
  case hy34 => intro w hSw; clear hSw; go_simp; with_reducible rfl
  simp only [Act.put]
  refine gate_takeF (i := 3) (v := ?v35) rfl (by kernel_rfl) (by kernel_rfl) (by kernel_rfl) (by kernel_rfl) (fun _ _ _ h => h) (Or.inl ⟨by rfl, ?hy35⟩) (by assumption) ?rest35
  case hy35 => intro w hSw; clear hSw; go_simp; with_reducible rfl
  simp only [Act.put]
  refine gate_take (i := 4) (v := ?v36) rfl (by kernel_rfl) (by kernel_rfl) (by kernel_rfl) (by kernel_rfl) (by kernel_rfl) (fun _ _ _ h => h) (Or.inl ⟨by rfl, ?hy36⟩) (by assumption) ?rest36
  case hy36 => intro w hSw; have hcl := CX3.out w hSw; go_simp; with_reducible rfl
  simp only [Act.put]
  refine gate_takeF (i := 5) (v := ?v37) rfl (by kernel_rfl) (by kernel_rfl) (by kernel_rfl) (by kernel_rfl) (fun _ _ _ h => h) (Or.inl ⟨by rfl, ?hy37⟩) (by assumption) ?rest37
  case hy37 => intro w hSw; clear hSw; go_simp; with_reducible rfl
  simp only [Act.put]
  refine gate_takeF (i := 6) (v := ?v38) rfl (by kernel_rfl) (by kernel_rfl) (by kernel_rfl) (by kernel_rfl) (fun _ _ _ h => h) (Or.inl ⟨by rfl, ?hy38⟩) (by assumption) ?rest38
  case hy38 => intro w hSw; clear hSw; go_simp; with_reducible rfl
  simp only [Act.put]
  refine gate_take (i := 7) (v := ?v39) rfl (by kernel_rfl) (by kernel_rfl) (by kernel_rfl) (by kernel_rfl) (by kernel_rfl) (fun _ _ _ h => h) (Or.inl ⟨by rfl, ?hy39⟩) (by assumption) ?rest39
  case hy39 => intro w hSw; have hcl := CY3.out w hSw; go_simp; with_reducible rfl
  simp only [Act.put]
  refine gate_takeF (i := 9) (v := ?v40) rfl (by kernel_rfl) (by kernel_rfl) (by kernel_rfl) (by kernel_rfl) (fun _ _ _ h => h) (Or.inl ⟨by rfl, ?hy40⟩) (by assumption) ?rest40
  case hy40 => intro w hSw; clear hSw; go_simp; with_reducible rfl
  simp only [Act.put]
  refine gate_takeF (i := 10) (v := ?v41) rfl (by kernel_rfl) (by kernel_rfl) (by kernel_rfl) (by kernel_rfl) (fun _ _ _ h => h) (Or.inl ⟨by rfl, ?hy41⟩) (by assumption) ?rest41
  case hy41 => intro w hSw; clear hSw; go_simp; with_reducible rfl
  simp only [Act.put]
  refine gate_take (i := 11) (v := ?v42) rfl (by kernel_rfl) (by kernel_rfl) (by kernel_rfl) (by kernel_rfl) (by kernel_rfl) (fun _ _ _ h => h) (Or.inl ⟨by rfl, ?hy42⟩) (by assumption) ?rest42
  case hy42 => intro w hSw; have hcl := CX3.out w hSw; go_simp; with_reducible rfl
  simp only [Act.put]
  refine gate_takeF (i := 12) (v := ?v43) rfl (by kernel_rfl) (by kernel_rfl) (by kernel_rfl) (by kernel_rfl) (fun _ _ _ h => h) (Or.inl ⟨by rfl, ?hy43⟩) (by assumption) ?rest43
  case hy43 => intro w hSw; clear hSw; go_simp; with_reducible rfl
  simp only [Act.put]
  refine gate_takeF (i := 13) (v := ?v44) rfl (by kernel_rfl) (by kernel_rfl) (by kernel_rfl) (by kernel_rfl) (fun _ _ _ h => h) (Or.inl ⟨by rfl, ?hy44⟩) (by assumption) ?rest44
  case hy44 => intro w hSw; clear hSw; go_simp; with_reducible rfl
  simp only [Act.put]
  refine gate_take (i := 14) (v := ?v45) rfl (by kernel_rfl) (by kernel_rfl) (by kernel_rfl) (by kernel_rfl) (by kernel_rfl) (fun _ _ _ h => h) (Or.inl ⟨by rfl, ?hy45⟩) (by assumption) ?rest45
  case hy45 => intro w hSw; have hcl := CY3.out w hSw; go_simp; with_reducible rfl
  simp only [Act.put]
  refine gate_one (i := 8) rfl (by kernel_rfl) (fun K hK => ?_)
  go_simp
  refine (gold_add (fm (xa - xc)) (fm (fm (xb - xd) * r)) _ (fm_lo _) (fm_hi' _) (fm_lo _) (fm_hi' _)).mono ?_
  rintro e w' ⟨rfl, rfl⟩
  go_wp2_with fail
  refine hK.out _ _ (by assumption) (fun hHeld2 => ?_)
  clear hK K
  try simp only [Act.put]
  refine gate_one (i := 15) rfl (by kernel_rfl) (fun K hK => ?_)
  go_simp
  refine (gold_sub (fm (xa - xc)) (fm (fm (xb - xd) * r)) _ (fm_lo _) (fm_hi' _) (fm_lo _) (fm_hi' _)).mono ?_
  rintro e w' ⟨rfl, rfl⟩
  go_wp2_with fail
  refine hK.out _ _ (by assumption) (fun hHeld2 => ?_)
  clear hK K
  try simp only [Act.put]
  refine gate_takeF (i := 16) (v := ?v46) rfl (by kernel_rfl) (by kernel_rfl) (by kernel_rfl) (by kernel_rfl) (fun _ _ _ h => h) (Or.inl ⟨by rfl, ?hy46⟩) (by assumption) ?rest46
  case hy46 => intro w hSw; clear hSw; go_simp; with_reducible rfl
  simp only [Act.put]
  have f0 := hHeld.r.free (o + 2)
  have cc0 := CX3.out _ hHeld
  have hlt := hHeld.r.lt
  refine gate_past (i := 17) rfl (by kernel_rfl) (by kernel_rfl) (fun K hK => ?_)
  go_simp
  refine hK.out _ _ ?_
  clear hK K
  try simp only [Act.put]
  have h1 : InRow W (w3.setCell ⟨B, o + 2, none⟩ (.int .u64 (fm ((fm (xa - xc)) + (fm (fm (xb - xd) * r)))))).drew B (z2.set (o + 2) (fm ((fm (xa - xc)) + (fm (fm (xb - xd) * r))))) := hHeld.set (o + 2) (fm ((fm (xa - xc)) + (fm (fm (xb - xd) * r))))
  have hlt1 := h1.r.lt
  have f1 := h1.r.free (o + 3)
  have cc2 : (w3.setCell ⟨B, o + 2, none⟩ (.int .u64 (fm ((fm (xa - xc)) + (fm (fm (xb - xd) * r)))))).drew.cell? ⟨B, o + 3, none⟩ = some (.int .u64 ((z2.set (o + 2) (fm ((fm (xa - xc)) + (fm (fm (xb - xd) * r))))).getD (o + 3) 0)) := h1.r.cell (by rw [List.length_set]; omega)
  refine gate_past (i := 18) rfl (by kernel_rfl) (by kernel_rfl) (fun K hK => ?_)
  go_simp
  refine hK.out _ _ ?_
  clear hK K
  try simp only [Act.put]
  refine gate_past (i := 19) rfl (by kernel_rfl) (by kernel_rfl) (fun K hK => ?_)
  go_simp
  refine hK.out _ _ ?_
  clear hK K
  try simp only [Act.put]
  have E := h1.set (o + 3) (fm ((fm (xa - xc)) - (fm (fm (xb - xd) * r))))
  rw [← Hz3.out] at E
  clear h1 hHeld hHeld2 cc0 f0 hlt hlt1 f1 cc2 HI CX3 CY3
  refine gate_done (by kernel_rfl) ?_ _
  refine abs_world (I := fun w => InRow W w B z3) E ?_
  clear E; intro w4 E
  have HI := Lib.hid E
  clear E
  go_wp2_with fail
  apply wp_goto
  go_wp2_with fail
  refine jumps_one ?_
  go_wp2_with fail
  have CX4 := Lib.hid (fun w (h : InRow W w B z3) => show w.cell? ⟨B, o, none⟩ = some (.int .u64 (fm (xa + xc))) by rw [h.r.cell (by omega), Gz30.out])
  have CY4 := Lib.hid (fun w (h : InRow W w B z3) => show w.cell? ⟨B, o + 1, none⟩ = some (.int .u64 (fm (xb + xd))) by rw [h.r.cell (by omega), Gz31.out])
  refine region_gate (fun w' => InRow W w' B z3) 17 (by kernel_rfl) HI.out.drew (fun hHeld => ?_)
  refine gate_takeF (i := 0) (v := ?v47) rfl (by kernel_rfl) (by kernel_rfl) (by kernel_rfl) (by kernel_rfl) (fun _ _ _ h => h) (Or.inl ⟨by rfl, ?hy47⟩) (by assumption) ?rest47
  case hy47 => intro w hSw; clear hSw; go_simp; with_reducible rfl
  simp only [Act.put, List.setIfInBounds_toArray]
  refine gate_takeF (i := 1) (v := ?v48) rfl (by kernel_rfl) (by kernel_rfl) (by kernel_rfl) (by kernel_rfl) (fun _ _ _ h => h) (Or.inl ⟨by rfl, ?hy48⟩) (by assumption) ?rest48
  case hy48 => intro w hSw; clear hSw; go_simp; with_reducible rfl
  simp only [Act.put]
  refine gate_takeF (i := 2) (v := ?v49) rfl (by kernel_rfl) (by kernel_rfl) (by kernel_rfl) (by kernel_rfl) (fun _ _ _ h => h) (Or.inl ⟨by rfl, ?hy49⟩) (by assumption) ?rest49
  case hy49 => intro w hSw; clear hSw; go_simp; with_reducible rfl
  simp only [Act.put]
  refine gate_takeF (i := 3) (v := ?v50) rfl (by kernel_rfl) (by kernel_rfl) (by kernel_rfl) (by kernel_rfl) (fun _ _ _ h => h) (Or.inl ⟨by rfl, ?hy50⟩) (by assumption) ?rest50
  case hy50 => intro w hSw; clear hSw; go_simp; with_reducible rfl
  simp only [Act.put]
  refine gate_take (i := 4) (v := ?v51) rfl (by kernel_rfl) (by kernel_rfl) (by kernel_rfl) (by kernel_rfl) (by kernel_rfl) (fun _ _ _ h => h) (Or.inl ⟨by rfl, ?hy51⟩) (by assumption) ?rest51
  case hy51 => intro w hSw; have hcl := CX4.out w hSw; go_simp; with_reducible rfl
  simp only [Act.put]
  refine gate_takeF (i := 5) (v := ?v52) rfl (by kernel_rfl) (by kernel_rfl) (by kernel_rfl) (by kernel_rfl) (fun _ _ _ h => h) (Or.inl ⟨by rfl, ?hy52⟩) (by assumption) ?rest52
  case hy52 => intro w hSw; clear hSw; go_simp; with_reducible rfl
  simp only [Act.put]
  refine gate_takeF (i := 6) (v := ?v53) rfl (by kernel_rfl) (by kernel_rfl) (by kernel_rfl) (by kernel_rfl) (fun _ _ _ h => h) (Or.inl ⟨by rfl, ?hy53⟩) (by assumption) ?rest53
  case hy53 => intro w hSw; clear hSw; go_simp; with_reducible rfl
  simp only [Act.put]
  refine gate_take (i := 7) (v := ?v54) rfl (by kernel_rfl) (by kernel_rfl) (by kernel_rfl) (by kernel_rfl) (by kernel_rfl) (fun _ _ _ h => h) (Or.inl ⟨by rfl, ?hy54⟩) (by assumption) ?rest54
  case hy54 => intro w hSw; have hcl := CY4.out w hSw; go_simp; with_reducible rfl
  simp only [Act.put]
  refine gate_takeF (i := 9) (v := ?v55) rfl (by kernel_rfl) (by kernel_rfl) (by kernel_rfl) (by kernel_rfl) (fun _ _ _ h => h) (Or.inl ⟨by rfl, ?hy55⟩) (by assumption) ?rest55
  case hy55 => intro w hSw; clear hSw; go_simp; with_reducible rfl
  simp only [Act.put]
  refine gate_takeF (i := 10) (v := ?v56) rfl (by kernel_rfl) (by kernel_rfl) (by kernel_rfl) (by kernel_rfl) (fun _ _ _ h => h) (Or.inl ⟨by rfl, ?hy56⟩) (by assumption) ?rest56
  case hy56 => intro w hSw; clear hSw; go_simp; with_reducible rfl
  simp only [Act.put]
  refine gate_take (i := 11) (v := ?v57) rfl (by kernel_rfl) (by kernel_rfl) (by kernel_rfl) (by kernel_rfl) (by kernel_rfl) (fun _ _ _ h => h) (Or.inl ⟨by rfl, ?hy57⟩) (by assumption) ?rest57
  case hy57 => intro w hSw; have hcl := CX4.out w hSw; go_simp; with_reducible rfl
  simp only [Act.put]
  refine gate_takeF (i := 12) (v := ?v58) rfl (by kernel_rfl) (by kernel_rfl) (by kernel_rfl) (by kernel_rfl) (fun _ _ _ h => h) (Or.inl ⟨by rfl, ?hy58⟩) (by assumption) ?rest58
  case hy58 => intro w hSw; clear hSw; go_simp; with_reducible rfl
  simp only [Act.put]
  refine gate_takeF (i := 13) (v := ?v59) rfl (by kernel_rfl) (by kernel_rfl) (by kernel_rfl) (by kernel_rfl) (fun _ _ _ h => h) (Or.inl ⟨by rfl, ?hy59⟩) (by assumption) ?rest59
  case hy59 => intro w hSw; clear hSw; go_simp; with_reducible rfl
  simp only [Act.put]
  refine gate_take (i := 14) (v := ?v60) rfl (by kernel_rfl) (by kernel_rfl) (by kernel_rfl) (by kernel_rfl) (by kernel_rfl) (fun _ _ _ h => h) (Or.inl ⟨by rfl, ?hy60⟩) (by assumption) ?rest60
  case hy60 => intro w hSw; have hcl := CY4.out w hSw; go_simp; with_reducible rfl
  simp only [Act.put]
  refine gate_one (i := 8) rfl (by kernel_rfl) (fun K hK => ?_)
  go_simp
  refine (gold_add (fm (xa + xc)) (fm (xb + xd)) _ (fm_lo _) (fm_hi' _) (fm_lo _) (fm_hi' _)).mono ?_
  rintro e w' ⟨rfl, rfl⟩
  go_wp2_with fail
  refine hK.out _ _ (by assumption) (fun hHeld2 => ?_)
  clear hK K
  try simp only [Act.put]
  refine gate_one (i := 15) rfl (by kernel_rfl) (fun K hK => ?_)
  go_simp
  refine (gold_sub (fm (xa + xc)) (fm (xb + xd)) _ (fm_lo _) (fm_hi' _) (fm_lo _) (fm_hi' _)).mono ?_
  rintro e w' ⟨rfl, rfl⟩
  go_wp2_with fail
  refine hK.out _ _ (by assumption) (fun hHeld2 => ?_)
  clear hK K
  try simp only [Act.put]
  refine gate_takeF (i := 16) (v := ?v61) rfl (by kernel_rfl) (by kernel_rfl) (by kernel_rfl) (by kernel_rfl) (fun _ _ _ h => h) (Or.inl ⟨by rfl, ?hy61⟩) (by assumption) ?rest61
  case hy61 => intro w hSw; clear hSw; go_simp; with_reducible rfl
  simp only [Act.put]
  have f0 := hHeld.r.free (o)
  have cc0 := CX4.out _ hHeld
  have hlt := hHeld.r.lt
  refine gate_past (i := 17) rfl (by kernel_rfl) (by kernel_rfl) (fun K hK => ?_)
  go_simp
  refine hK.out _ _ ?_
  clear hK K
  try simp only [Act.put]
  have h1 : InRow W (w4.setCell ⟨B, o, none⟩ (.int .u64 (fm ((fm (xa + xc)) + (fm (xb + xd)))))).drew B (z3.set (o) (fm ((fm (xa + xc)) + (fm (xb + xd))))) := hHeld.set (o) (fm ((fm (xa + xc)) + (fm (xb + xd))))
  have hlt1 := h1.r.lt
  have f1 := h1.r.free (o + 1)
  have cc2 : (w4.setCell ⟨B, o, none⟩ (.int .u64 (fm ((fm (xa + xc)) + (fm (xb + xd)))))).drew.cell? ⟨B, o + 1, none⟩ = some (.int .u64 ((z3.set (o) (fm ((fm (xa + xc)) + (fm (xb + xd))))).getD (o + 1) 0)) := h1.r.cell (by rw [List.length_set]; omega)
  refine gate_past (i := 18) rfl (by kernel_rfl) (by kernel_rfl) (fun K hK => ?_)
  go_simp
  refine hK.out _ _ ?_
  clear hK K
  try simp only [Act.put]
  refine gate_past (i := 19) rfl (by kernel_rfl) (by kernel_rfl) (fun K hK => ?_)
  go_simp
  refine hK.out _ _ ?_
  clear hK K
  try simp only [Act.put]
  have E := h1.set (o + 1) (fm ((fm (xa + xc)) - (fm (xb + xd))))
  rw [← Hz4.out] at E
  clear h1 hHeld hHeld2 cc0 f0 hlt hlt1 f1 cc2 HI CX4 CY4
  refine gate_done (by kernel_rfl) ?_ _
  refine abs_world (I := fun w => InRow W w B z4) E ?_
  clear E; intro w5 E
  have HI := Lib.hid E
  clear E
  go_wp2_with fail
  have CX9 := Lib.hid (fun w (h : InRow W w B z4) => show w.cell? ⟨B, o + 1, none⟩ = some (.int .u64 (fm ((fm (xa + xc)) - (fm (xb + xd))))) by rw [h.r.cell (by omega), Gz41.out])
  have CY9 := Lib.hid (fun w (h : InRow W w B z4) => show w.cell? ⟨B, o + 2, none⟩ = some (.int .u64 (fm ((fm (xa - xc)) + (fm (fm (xb - xd) * r))))) by rw [h.r.cell (by omega), Gz42.out])
  refine region_gate (fun w' => InRow W w' B z4) 9 (by kernel_rfl) HI.out.drew (fun hHeld => ?_)
  refine gate_takeF (i := 0) (v := ?v62) rfl (by kernel_rfl) (by kernel_rfl) (by kernel_rfl) (by kernel_rfl) (fun _ _ _ h => h) (Or.inl ⟨by rfl, ?hy62⟩) (by assumption) ?rest62
  case hy62 => intro w hSw; clear hSw; go_simp; with_reducible rfl
  simp only [Act.put, List.setIfInBounds_toArray]
  refine gate_takeF (i := 1) (v := ?v63) rfl (by kernel_rfl) (by kernel_rfl) (by kernel_rfl) (by kernel_rfl) (fun _ _ _ h => h) (Or.inl ⟨by rfl, ?hy63⟩) (by assumption) ?rest63
  case hy63 => intro w hSw; clear hSw; go_simp; with_reducible rfl
  simp only [Act.put]
  refine gate_takeF (i := 2) (v := ?v64) rfl (by kernel_rfl) (by kernel_rfl) (by kernel_rfl) (by kernel_rfl) (fun _ _ _ h => h) (Or.inl ⟨by rfl, ?hy64⟩) (by assumption) ?rest64
  case hy64 => intro w hSw; clear hSw; go_simp; with_reducible rfl
  simp only [Act.put]
  refine gate_takeF (i := 3) (v := ?v65) rfl (by kernel_rfl) (by kernel_rfl) (by kernel_rfl) (by kernel_rfl) (fun _ _ _ h => h) (Or.inl ⟨by rfl, ?hy65⟩) (by assumption) ?rest65
  case hy65 => intro w hSw; clear hSw; go_simp; with_reducible rfl
  simp only [Act.put]
  refine gate_take (i := 4) (v := ?v66) rfl (by kernel_rfl) (by kernel_rfl) (by kernel_rfl) (by kernel_rfl) (by kernel_rfl) (fun _ _ _ h => h) (Or.inl ⟨by rfl, ?hy66⟩) (by assumption) ?rest66
  case hy66 => intro w hSw; have hcl := CY9.out w hSw; go_simp; with_reducible rfl
  simp only [Act.put]
  refine gate_takeF (i := 5) (v := ?v67) rfl (by kernel_rfl) (by kernel_rfl) (by kernel_rfl) (by kernel_rfl) (fun _ _ _ h => h) (Or.inl ⟨by rfl, ?hy67⟩) (by assumption) ?rest67
  case hy67 => intro w hSw; clear hSw; go_simp; with_reducible rfl
  simp only [Act.put]
  refine gate_takeF (i := 6) (v := ?v68) rfl (by kernel_rfl) (by kernel_rfl) (by kernel_rfl) (by kernel_rfl) (fun _ _ _ h => h) (Or.inl ⟨by rfl, ?hy68⟩) (by assumption) ?rest68
  case hy68 => intro w hSw; clear hSw; go_simp; with_reducible rfl
  simp only [Act.put]
  refine gate_take (i := 7) (v := ?v69) rfl (by kernel_rfl) (by kernel_rfl) (by kernel_rfl) (by kernel_rfl) (by kernel_rfl) (fun _ _ _ h => h) (Or.inl ⟨by rfl, ?hy69⟩) (by assumption) ?rest69
  case hy69 => intro w hSw; have hcl := CX9.out w hSw; go_simp; with_reducible rfl
  simp only [Act.put]
  refine gate_takeF (i := 8) (v := ?v70) rfl (by kernel_rfl) (by kernel_rfl) (by kernel_rfl) (by kernel_rfl) (fun _ _ _ h => h) (Or.inl ⟨by rfl, ?hy70⟩) (by assumption) ?rest70
  case hy70 => intro w hSw; clear hSw; go_simp; with_reducible rfl
  simp only [Act.put]
  have f0 := hHeld.r.free (o + 1)
  have cc0 := CX9.out _ hHeld
  have hlt := hHeld.r.lt
  refine gate_past (i := 9) rfl (by kernel_rfl) (by kernel_rfl) (fun K hK => ?_)
  go_simp
  refine hK.out _ _ ?_
  clear hK K
  try simp only [Act.put]
  have h1 : InRow W (w5.setCell ⟨B, o + 1, none⟩ (.int .u64 (fm ((fm (xa - xc)) + (fm (fm (xb - xd) * r)))))).drew B (z4.set (o + 1) (fm ((fm (xa - xc)) + (fm (fm (xb - xd) * r))))) := hHeld.set (o + 1) (fm ((fm (xa - xc)) + (fm (fm (xb - xd) * r))))
  have hlt1 := h1.r.lt
  have f1 := h1.r.free (o + 2)
  have cc2 : (w5.setCell ⟨B, o + 1, none⟩ (.int .u64 (fm ((fm (xa - xc)) + (fm (fm (xb - xd) * r)))))).drew.cell? ⟨B, o + 2, none⟩ = some (.int .u64 ((z4.set (o + 1) (fm ((fm (xa - xc)) + (fm (fm (xb - xd) * r))))).getD (o + 2) 0)) := h1.r.cell (by rw [List.length_set]; omega)
  refine gate_past (i := 10) rfl (by kernel_rfl) (by kernel_rfl) (fun K hK => ?_)
  go_simp
  refine hK.out _ _ ?_
  clear hK K
  try simp only [Act.put]
  refine gate_past (i := 11) rfl (by kernel_rfl) (by kernel_rfl) (fun K hK => ?_)
  go_simp
  refine hK.out _ _ ?_
  clear hK K
  try simp only [Act.put]
  have E := h1.set (o + 2) (fm ((fm (xa + xc)) - (fm (xb + xd))))
  rw [← Hz5.out] at E
  clear h1 hHeld cc0 f0 hlt hlt1 f1 cc2 HI CX9 CY9
  refine gate_done (by kernel_rfl) ?_ _
  refine abs_world (I := fun w => InRow W w B z5) E ?_
  clear E; intro w9 E
  have HI := Lib.hid E
  clear E
  go_wp2_with fail
  apply wp_label
  go_wp2_with fail
  refine jumps_normal ?_
  go_wp2_with fail
  go_end0
  exact ⟨rfl, HI.out⟩
end Go.Proofs.Ytjiedfncamdojaa
