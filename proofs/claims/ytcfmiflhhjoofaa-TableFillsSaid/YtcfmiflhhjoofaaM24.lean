/- Put together by program (merge.py): Stock Stock2. -/
import Derived.StillTailTactics
import Derived.Outline
import Derived.Deep.DrawnRows
import Derived.Test.YtcfmiflhhjoofaaM11
/- Package stock: a pass. -/
namespace Go.Proofs.Ytcfmiflhhjoofaa
open Go.ChangeShapes Go.WideShapes Go.ChangeAt Go.RowKit
set_option linter.unusedVariables false
/-- What a pass's function needs: where x, l and w lie. -/
structure St (W : World) (X Lb Wb BL n : Nat) (ax aw : Option Addr) (cx cw cl : Nat) (xs ws zs : List Int) : Prop where
  bx : Bx W X 25 (.slice ax n cx)
  bl : Bx W Lb 25 (.slice (some ⟨BL, 0, none⟩) n cl)
  bw : Bx W Wb 25 (.slice aw n cw)
  rx : Row W ax n xs
  rw : Row W aw n ws
  rl : RowAt W BL 43 zs
  zl : zs.length = n
  nx : ∀ x, ax = some x → x.block ≠ BL
  nw : ∀ x, aw = some x → x.block ≠ BL
  d : X ≠ BL ∧ Lb ≠ BL ∧ Wb ≠ BL
theorem St.but {W W' : World} {X Lb Wb BL n : Nat} {ax aw : Option Addr} {cx cw cl : Nat} {xs ws zs zs' : List Int} (h : St W X Lb Wb BL n ax aw cx cw cl xs ws zs) (hb : But W W' BL) (hr : RowAt W' BL 43 zs') (hz : zs'.length = n) : St W' X Lb Wb BL n ax aw cx cw cl xs ws zs' :=
  ⟨h.bx.but hb h.d.1, h.bl.but hb h.d.2.1, h.bw.but hb h.d.2.2, h.rx.but hb h.nx, h.rw.but hb h.nw, hr, hz, h.nx, h.nw, h.d⟩
attribute [local go_sem ↓] Go.wp_at_zero Go.wp_at_succ
/-- The cell's value, whatever it is. -/
def rdc (w : World) (p : Addr) : Value := (w.cell? p).getD (.int .u64 0)
theorem rdc_some {w : World} {p : Addr} {v : Value} (h : w.cell? p = some v) : w.cell? p = some (rdc w p) := by unfold rdc; rw [h]; rfl
/-- The row as it was, or with its place t written. -/
def Once (w : World) (B : Nat) (zs : List Int) (t : Nat) (v : Int) : Prop := RowAt w B 43 zs ∨ RowAt w B 43 (zs.set t v)
theorem Once.below {w w' : World} {B : Nat} {zs : List Int} {t : Nat} {v : Int} (h : Once w B zs t v) (hb : Below w.heap.size w w') : Once w' B zs t v := h.elim (fun h => .inl (h.below hb)) (fun h => .inr (h.below hb))
theorem Once.store {w : World} {B : Nat} {zs : List Int} {t : Nat} {v : Int} (h : Once w B zs t v) : RowAt (w.setCell ⟨B, t, none⟩ (.int .u64 v)) B 43 (zs.set t v) := by
  rcases h with h | h
  · exact h.set t v
  · have := h.set t v
    rwa [List.set_set] at this
theorem Once.cell {w : World} {B : Nat} {zs : List Int} {t : Nat} {v : Int} (h : Once w B zs t v) (ht : t < zs.length) : w.cell? ⟨B, t, none⟩ = some (rdc w ⟨B, t, none⟩) ∧ w.frozen? ⟨B, t, none⟩ = false := by
  rcases h with h | h
  · exact ⟨rdc_some (h.cell ht), h.free t⟩
  · exact ⟨rdc_some (h.cell (by simpa using ht)), h.free t⟩
/-- What a pair's second half reads, and where it writes. -/
structure Half (W1 w : World) (X Lb Wb BL n t : Nat) (b1 o1 b2 o2 cx cw cl a b p : Nat) (x y v u : Int) (zs : List Int) : Prop where
  on : Once w BL zs t u
  bt : But W1 w BL
theorem half_cells {W1 w : World} {X Lb Wb BL n t b1 o1 b2 o2 cx cw cl a b p : Nat} {x y v u : Int} {zs : List Int} (h : Half W1 w X Lb Wb BL n t b1 o1 b2 o2 cx cw cl a b p x y v u zs) (ht : t < zs.length)
    (hX : Bx W1 X 25 (.slice (some ⟨b1, o1, none⟩) n cx)) (hL : Bx W1 Lb 25 (.slice (some ⟨BL, 0, none⟩) n cl)) (hW : Bx W1 Wb 25 (.slice (some ⟨b2, o2, none⟩) n cw)) (d : X ≠ BL ∧ Lb ≠ BL ∧ Wb ≠ BL) (z1 : b1 < W1.heap.size) (n1 : b1 ≠ BL) (z2 : b2 < W1.heap.size) (n2 : b2 ≠ BL)
    (ca : W1.cell? ⟨b1, o1 + a, none⟩ = some (.int .u64 x)) (cb : W1.cell? ⟨b1, o1 + b, none⟩ = some (.int .u64 y)) (cp : W1.cell? ⟨b2, o2 + p, none⟩ = some (.int .u64 v)) :
    w.cell? ⟨X, 0, none⟩ = some (.slice (some ⟨b1, o1, none⟩) n cx) ∧ w.cell? ⟨Lb, 0, none⟩ = some (.slice (some ⟨BL, 0, none⟩) n cl) ∧ w.cell? ⟨Wb, 0, none⟩ = some (.slice (some ⟨b2, o2, none⟩) n cw) ∧
    w.cell? ⟨b1, o1 + a, none⟩ = some (.int .u64 x) ∧ w.cell? ⟨b1, o1 + b, none⟩ = some (.int .u64 y) ∧ w.cell? ⟨b2, o2 + p, none⟩ = some (.int .u64 v) ∧
    w.cell? ⟨BL, t, none⟩ = some (rdc w ⟨BL, t, none⟩) ∧ w.frozen? ⟨BL, t, none⟩ = false ∧ BL < w.heap.size :=
  ⟨(hX.but h.bt d.1).cell, (hL.but h.bt d.2.1).cell, (hW.but h.bt d.2.2).cell, (World.cell?_of_block (h.bt.o b1 z1 n1)).trans ca, (World.cell?_of_block (h.bt.o b1 z1 n1)).trans cb, (World.cell?_of_block (h.bt.o b2 z2 n2)).trans cp, (h.on.cell ht).1, (h.on.cell ht).2, h.on.elim (fun x => x.lt) (fun x => x.lt)⟩
theorem Half.below {W1 w w' : World} {X Lb Wb BL n t b1 o1 b2 o2 cx cw cl a b p : Nat} {x y v u : Int} {zs : List Int} (h : Half W1 w X Lb Wb BL n t b1 o1 b2 o2 cx cw cl a b p x y v u zs) (hb : Below w.heap.size w w') : Half W1 w' X Lb Wb BL n t b1 o1 b2 o2 cx cw cl a b p x y v u zs := ⟨h.on.below hb, h.bt.trans (But.of_below _ hb)⟩
theorem Half.store {W1 w : World} {X Lb Wb BL n t b1 o1 b2 o2 cx cw cl a b p : Nat} {x y v u : Int} {zs : List Int} (h : Half W1 w X Lb Wb BL n t b1 o1 b2 o2 cx cw cl a b p x y v u zs) : Half W1 (w.setCell ⟨BL, t, none⟩ (.int .u64 u)) X Lb Wb BL n t b1 o1 b2 o2 cx cw cl a b p x y v u zs := ⟨.inr h.on.store, h.bt.trans (But.set _ _ _ _)⟩
/-- What a pair's turn leaves. -/
def Turned (W : World) (X Lb Wb BL n : Nat) (ax aw : Option Addr) (cx cw cl : Nat) (xs ws zs : List Int) (e : Ending) (W' : World) : Prop := e = .returned (.tuple #[]) ∧ St W' X Lb Wb BL n ax aw cx cw cl xs ws zs ∧ But W W' BL
set_option maxRecDepth 100000 in
set_option maxHeartbeats 4000000 in
theorem into_pair (X Lb Wb BL n : Nat) (ax aw : Option Addr) (cx cw cl : Nat) (xs ws zs : List Int) (a b s t p : Nat) (W : World) (ha : a < n) (hb : b < n) (hs : s < n) (ht : t < n) (hp : p < n) (hst : s ≠ t) (h : St W X Lb Wb BL n ax aw cx cw cl xs ws zs) :
    Calls Try.prog 86 #[.int .i64 a, .int .i64 b, .int .i64 s, .int .i64 t, .int .i64 p, .pointer (some ⟨X, 0, none⟩), .pointer (some ⟨Lb, 0, none⟩), .pointer (some ⟨Wb, 0, none⟩)] W
      (Turned W X Lb Wb BL n ax aw cx cw cl xs ws ((zs.set s (fm (xs.getD a 0 + xs.getD b 0))).set t (fm (fm (xs.getD a 0 - xs.getD b 0) * ws.getD p 0)))) := by
  have hsm := h.rx.small
  obtain ⟨b1, o1, rfl, z1, c1, x0, x1⟩ := h.rx.cell ha
  obtain ⟨b1', o1', e1, z1', c2, y0, y1⟩ := h.rx.cell hb
  cases e1
  obtain ⟨b2, o2, rfl, z2, c3, v0, v1⟩ := h.rw.cell hp
  have n1 : b1 ≠ BL := h.nx _ rfl
  have n2 : b2 ≠ BL := h.nw _ rfl
  have cX := h.bx.cell
  have cL := h.bl.cell
  have cW := h.bw.cell
  have zX := h.bx.lt
  have zL := h.bl.lt
  have zW := h.bw.lt
  have zB := h.rl.lt
  have uS := h.rl.cell (k := s) (by rw [h.zl]; exact hs)
  have fS := h.rl.free s
  have HH := Lib.hid h
  have q0 := fm_lo (xs.getD a 0 - xs.getD b 0)
  have q1 := fm_hi (xs.getD a 0 - xs.getD b 0)
  obtain ⟨dX, dL, dW⟩ := h.d
  have hzl := h.zl
  generalize zs.getD s 0 = us at uS
  clear h
  obtain ⟨x, hx⟩ : ∃ x, xs.getD a 0 = x := ⟨_, rfl⟩
  obtain ⟨y, hy⟩ : ∃ y, xs.getD b 0 = y := ⟨_, rfl⟩
  obtain ⟨v, hv⟩ : ∃ v, ws.getD p 0 = v := ⟨_, rfl⟩
  rw [hx] at c1 x0 x1 q0 q1 ⊢
  rw [hy] at c2 y0 y1 q0 q1 ⊢
  rw [hv] at c3 v0 v1 ⊢
  have XA := Lib.hid hx
  have XB := Lib.hid hy
  have XV := Lib.hid hv
  clear hx hy hv
  have ia0 : (0 : Int) ≤ (a : Int) := by omega
  have ia1 : (a : Int) < (n : Int) := by omega
  have ib0 : (0 : Int) ≤ (b : Int) := by omega
  have ib1 : (b : Int) < (n : Int) := by omega
  have is0 : (0 : Int) ≤ (s : Int) := by omega
  have is1 : (s : Int) < (n : Int) := by omega
  have it0 : (0 : Int) ≤ (t : Int) := by omega
  have it1 : (t : Int) < (n : Int) := by omega
  have ip0 : (0 : Int) ≤ (p : Int) := by omega
  have ip1 : (p : Int) < (n : Int) := by omega
  go_enter Try.func86, Try.ntmps86
  go_wp2_with fail
  refine wp_region_still_tail 12 (by kernel_rfl) (by kernel_rfl) ?_
  simp only [List.take_succ_cons, List.take_zero, List.drop_succ_cons, List.drop_zero]
  iterate 10 still_step
  still_call ((gold_add x y _ x0 x1 y0 y1).mono fun e w' ⟨he, hw⟩ => ⟨he, hw.symm⟩)
  still_step
  refine wpStill_nil ?_
  go_wp2_with fail
  have K1 := (But.set W BL s (.int .u64 (fm (x + y)))).trans (But.drew _ _)
  have R1 : RowAt (W.setCell ⟨BL, s, none⟩ (.int .u64 (fm (x + y)))).drew BL 43 (zs.set s (fm (x + y))) := (HH.out.rl.set s _).drew
  have S1 := Lib.hid (HH.out.but K1 R1 (by rw [List.length_set]; exact hzl))
  have K1' := Lib.hid K1
  clear HH K1 R1 cX cL cW uS fS zX zL zW zB c1 c2 c3
  have w1 : b1 < (W.setCell ⟨BL, s, none⟩ (.int .u64 (fm (x + y)))).drew.heap.size := by simpa using z1
  have w2 : b2 < (W.setCell ⟨BL, s, none⟩ (.int .u64 (fm (x + y)))).drew.heap.size := by simpa using z2
  generalize (W.setCell ⟨BL, s, none⟩ (.int .u64 (fm (x + y)))).drew = W1 at *
  have hlz : (zs.set s (fm (x + y))).length = n := by rw [List.length_set]; exact hzl
  have ca : W1.cell? ⟨b1, o1 + a, none⟩ = some (.int .u64 x) := by
    obtain ⟨b', o', e', _, h', _, _⟩ := S1.out.rx.cell ha
    cases e'
    rw [h', XA.out]
  have cb : W1.cell? ⟨b1, o1 + b, none⟩ = some (.int .u64 y) := by
    obtain ⟨b', o', e', _, h', _, _⟩ := S1.out.rx.cell hb
    cases e'
    rw [h', XB.out]
  have cp : W1.cell? ⟨b2, o2 + p, none⟩ = some (.int .u64 v) := by
    obtain ⟨b', o', e', _, h', _, _⟩ := S1.out.rw.cell hp
    cases e'
    rw [h', XV.out]
  have HK := Lib.hid (fun w' (h : Half W1 w' X Lb Wb BL n t b1 o1 b2 o2 cx cw cl a b p x y v (fm (fm (x - y) * v)) (zs.set s (fm (x + y)))) => And.intro h (half_cells h (by rw [hlz]; exact ht) S1.out.bx S1.out.bl S1.out.bw S1.out.d w1 n1 w2 n2 ca cb cp))
  have H0 := Lib.hid (show Half W1 W1.drew X Lb Wb BL n t b1 o1 b2 o2 cx cw cl a b p x y v (fm (fm (x - y) * v)) (zs.set s (fm (x + y))) from ⟨.inl S1.out.rl.drew, But.drew _ _⟩)
  clear hlz ca cb cp
  go_region_held3 (fun w' => Half W1 w' X Lb Wb BL n t b1 o1 b2 o2 cx cw cl a b p x y v (fm (fm (x - y) * v)) (zs.set s (fm (x + y))) ∧ w'.cell? ⟨X, 0, none⟩ = some (.slice (some ⟨b1, o1, none⟩) n cx) ∧ w'.cell? ⟨Lb, 0, none⟩ = some (.slice (some ⟨BL, 0, none⟩) n cl) ∧ w'.cell? ⟨Wb, 0, none⟩ = some (.slice (some ⟨b2, o2, none⟩) n cw) ∧ w'.cell? ⟨b1, o1 + a, none⟩ = some (.int .u64 x) ∧ w'.cell? ⟨b1, o1 + b, none⟩ = some (.int .u64 y) ∧ w'.cell? ⟨b2, o2 + p, none⟩ = some (.int .u64 v) ∧ w'.cell? ⟨BL, t, none⟩ = some (rdc w' ⟨BL, t, none⟩) ∧ w'.frozen? ⟨BL, t, none⟩ = false ∧ BL < w'.heap.size) (first | exact HK.out _ H0.out | assumption | exact HK.out _ ((by assumption : Half W1 _ X Lb Wb BL n t b1 o1 b2 o2 cx cw cl a b p x y v (fm (fm (x - y) * v)) (zs.set s (fm (x + y))) ∧ _).1.below hb2) | exact HK.out _ ((by assumption : Half W1 _ X Lb Wb BL n t b1 o1 b2 o2 cx cw cl a b p x y v (fm (fm (x - y) * v)) (zs.set s (fm (x + y))) ∧ _).1.store)) (first | (go_at_call 88; (with_reducible refine (gold_sub _ _ _ x0 x1 y0 y1).mono ?_); rintro e w' ⟨rfl, rfl⟩) | (go_at_call 72; (with_reducible refine (gold_mul _ _ _ q0 (by omega) v0 v1).mono ?_); rintro e w3 ⟨rfl, hb2⟩))
  have H2 := H0.out.below hb2
  have KK := H2.store.bt
  have RR := H2.on.store
  have E := Lib.hid (S1.out.but KK RR (by rw [List.length_set, List.length_set]; exact hzl))
  have KK' := Lib.hid (K1'.out.trans KK)
  clear H2 KK RR
  go_wp2_with fail
  go_end0
  exact ⟨rfl, E.out, KK'.out⟩
end Go.Proofs.Ytcfmiflhhjoofaa
/- Package stock: all pairs of a pass. -/
namespace Go.Proofs.Ytcfmiflhhjoofaa
open Go.ChangeShapes Go.WideShapes Go.ChangeAt Go.RowKit
set_option linter.unusedVariables false
/-- What a pass leaves at the place k. -/
def pk (xs ws : List Int) (s n k : Nat) : Int :=
  if k / s % 2 = 0 then fm (xs.getD (k % s + s * (k / s / 2)) 0 + xs.getD (k % s + s * (k / s / 2) + n / 2) 0)
  else fm (fm (xs.getD (k % s + s * (k / s / 2)) 0 - xs.getD (k % s + s * (k / s / 2) + n / 2) 0) * ws.getD (k / s / 2 * s) 0)
def passl (xs ws : List Int) (s n : Nat) : List Int := (List.range n).map (pk xs ws s n)
theorem passl_len (xs ws : List Int) (s n : Nat) : (passl xs ws s n).length = n := by unfold passl; simp
theorem passl_at (xs ws : List Int) (s n k : Nat) (h : k < n) : (passl xs ws s n).getD k 0 = pk xs ws s n k := by unfold passl; simp [List.getD, h]
theorem pk_lo (xs ws : List Int) (s n k : Nat) : 0 ≤ pk xs ws s n k := by unfold pk; split <;> exact fm_lo _
theorem pk_hi (xs ws : List Int) (s n k : Nat) : pk xs ws s n k ≤ 18446744069414584320 := by unfold pk; split <;> exact fm_hi _
theorem passl_wf (xs ws : List Int) (s n : Nat) : ∀ z ∈ passl xs ws s n, (Lit.int .u64 z).wf = true := by
  intro z hz
  unfold passl at hz
  obtain ⟨k, _, rfl⟩ := List.mem_map.1 hz
  exact WalkArith.wf_u64 ⟨pk_lo _ _ _ _ _, by have := pk_hi xs ws s n k; omega⟩
theorem even_at (q s i : Nat) (hq : q < s) : (q + s * 2 * i) % s = q ∧ (q + s * 2 * i) / s = 2 * i := by
  have e : s * 2 * i = s * (2 * i) := Nat.mul_assoc _ _ _
  rw [e]
  exact ⟨by rw [Nat.add_mul_mod_self_left, Nat.mod_eq_of_lt hq], by rw [Nat.add_mul_div_left _ _ (by omega), Nat.div_eq_of_lt hq, Nat.zero_add]⟩
theorem odd_at (q s i : Nat) (hq : q < s) : (q + s * (2 * i + 1)) % s = q ∧ (q + s * (2 * i + 1)) / s = 2 * i + 1 :=
  ⟨by rw [Nat.add_mul_mod_self_left, Nat.mod_eq_of_lt hq], by rw [Nat.add_mul_div_left _ _ (by omega), Nat.div_eq_of_lt hq, Nat.zero_add]⟩
theorem half_n (s h : Nat) : 2 * s * h / 2 = s * h := by rw [Nat.mul_assoc]; omega
theorem pk_even (xs ws : List Int) (q s i h : Nat) (hq : q < s) : pk xs ws s (2 * s * h) (q + s * 2 * i) = fm (xs.getD (q + s * i) 0 + xs.getD (q + s * (i + h)) 0) := by
  obtain ⟨e1, e2⟩ := even_at q s i hq
  unfold pk
  rw [e1, e2, if_pos (by omega), half_n, show 2 * i / 2 = i by omega, Nat.mul_add, Nat.add_assoc]
theorem pk_odd (xs ws : List Int) (q s i h : Nat) (hq : q < s) : pk xs ws s (2 * s * h) (q + s * (2 * i + 1)) = fm (fm (xs.getD (q + s * i) 0 - xs.getD (q + s * (i + h)) 0) * ws.getD (i * s) 0) := by
  obtain ⟨e1, e2⟩ := odd_at q s i hq
  unfold pk
  rw [e1, e2, if_neg (by omega), half_n, show (2 * i + 1) / 2 = i by omega, Nat.mul_add, Nat.add_assoc]
/-- The first i rounds, and q pairs of the next one, are done. -/
def Upto (xs ws zs : List Int) (s n i q : Nat) : Prop := ∀ k, k < n → (k / s < 2 * i ∨ (k / s < 2 * i + 2 ∧ k % s < q)) → zs.getD k 0 = pk xs ws s n k
theorem upto_start (xs ws zs : List Int) (s n : Nat) : Upto xs ws zs s n 0 0 := fun k _ h => (h.elim (fun h => absurd h (Nat.not_lt_zero _)) (fun h => absurd h.2 (Nat.not_lt_zero _)))
theorem upto_next (xs ws zs : List Int) (s n i : Nat) (h : Upto xs ws zs s n i s) (hs : 0 < s) : Upto xs ws zs s n (i + 1) 0 := fun k hk h' => by
  have hm := Nat.mod_lt k hs
  by_cases c : k / s < 2 * i
  · exact h k hk (.inl c)
  · exact h k hk (.inr ⟨by omega, hm⟩)
theorem upto_done (xs ws zs : List Int) (s h : Nat) (hs : 0 < s) (hz : zs.length = 2 * s * h) (hu : Upto xs ws zs s (2 * s * h) h 0) : zs = passl xs ws s (2 * s * h) := by
  apply List.ext_getElem (by rw [hz, passl_len])
  intro k h1 h2
  have hk : k < 2 * s * h := by omega
  have hd : k / s < 2 * h := by
    rw [Nat.div_lt_iff_lt_mul hs]
    have : 2 * h * s = 2 * s * h := by rw [Nat.mul_assoc, Nat.mul_comm h s, ← Nat.mul_assoc]
    omega
  have := hu k hk (.inl hd)
  rw [← passl_at xs ws s _ k hk] at this
  simpa [List.getD, h1, h2] using this
theorem upto_pair (xs ws zs : List Int) (s h i q : Nat) (hq : q < s) (hi : i < h) (hz : zs.length = 2 * s * h) (hu : Upto xs ws zs s (2 * s * h) i q) :
    Upto xs ws ((zs.set (q + s * 2 * i) (fm (xs.getD (q + s * i) 0 + xs.getD (q + s * (i + h)) 0))).set (q + s * (2 * i + 1)) (fm (fm (xs.getD (q + s * i) 0 - xs.getD (q + s * (i + h)) 0) * ws.getD (i * s) 0))) s (2 * s * h) i (q + 1) := by
  intro k hk hd
  obtain ⟨e1, e2⟩ := even_at q s i hq
  obtain ⟨o1, o2⟩ := odd_at q s i hq
  have key := Nat.div_add_mod k s
  by_cases c1 : k = q + s * (2 * i + 1)
  · rw [c1, getD_set_same (by rw [List.length_set, hz]; omega), pk_odd xs ws q s i h hq]
  · rw [getD_set_ne c1]
    by_cases c2 : k = q + s * 2 * i
    · rw [c2, getD_set_same (by rw [hz]; omega), pk_even xs ws q s i h hq]
    · rw [getD_set_ne c2]
      refine hu k hk ?_
      rcases hd with hd | ⟨hd, hm⟩
      · exact .inl hd
      · by_cases c3 : k / s < 2 * i
        · exact .inl c3
        · refine .inr ⟨hd, ?_⟩
          have hne : k % s ≠ q := by
            intro e
            have hcase : k / s = 2 * i ∨ k / s = 2 * i + 1 := by omega
            rcases hcase with hc | hc
            · apply c2; rw [← key, hc, e, Nat.mul_assoc]; omega
            · apply c1; rw [← key, hc, e]; omega
          omega
theorem prod_facts (s h i q n : Nat) (hn : 2 * s * h = n) (hi : i < h) (hq : q < s) : q + s * i < n ∧ q + s * (i + h) < n ∧ q + s * 2 * i < n ∧ q + s * (2 * i + 1) < n ∧ i * s < n ∧ s * i ≤ n ∧ s * (i + h) ≤ n ∧ s * 2 * i ≤ n ∧ s * (2 * i + 1) ≤ n := by
  have a1 : s * (i + 1) ≤ s * h := Nat.mul_le_mul_left s (by omega)
  have e1 : s * (i + 1) = s * i + s := by rw [Nat.mul_add, Nat.mul_one]
  have e2 : s * (i + h) = s * i + s * h := Nat.mul_add _ _ _
  have e3 : s * 2 * i = 2 * (s * i) := by rw [Nat.mul_comm s 2, Nat.mul_assoc]
  have e4 : s * (2 * i + 1) = 2 * (s * i) + s := by rw [Nat.mul_add, Nat.mul_one, ← Nat.mul_assoc, Nat.mul_comm s 2, Nat.mul_assoc]
  have e5 : i * s = s * i := Nat.mul_comm _ _
  have e6 : n = 2 * (s * h) := by rw [← hn, Nat.mul_assoc]
  omega
end Go.Proofs.Ytcfmiflhhjoofaa
