/- Put together by program (merge2.py): Perm7 Perm10 Perm5 Exh Exe Genl. -/
import Derived.Test.YtbhnlfgccldmaaaGreatZd11
import Derived.Test.YtbhnlfgccldmaaaGreatZd13
import Derived.Test.YtbhnlfgccldmaaaGreatZd14
import Derived.Test.YtbhnlfgccldmaaaGreatZd15
import Derived.Test.YtbhnlfgccldmaaaGreatZd17
import Derived.Test.YtbhnlfgccldmaaaGreatZd20
import Derived.Test.YtbhnlfgccldmaaaGreatZd21
/- Package perm: After, Apply: the generic move. -/
namespace Go.Proofs.YtbhnlfgccldmaaaGreat
open Go.ChangeShapes Go.WideShapes Go.ChangeAt Go.RowKit
set_option linter.unusedVariables false
def movel (ps xs : List Int) (n : Nat) : List Int := tab n fun i => xs.getD (ps.getD i 0).toNat 0
theorem movel_len (ps xs : List Int) (n : Nat) : (movel ps xs n).length = n := tab_len _ _
theorem movel_at (ps xs : List Int) (n k : Nat) (hk : k < n) : (movel ps xs n).getD k 0 = xs.getD (ps.getD k 0).toNat 0 := tab_at _ _ _ hk
theorem movel_wf {ps xs : List Int} {n : Nat} {t : IntKind} (hw : ∀ x ∈ xs, (Lit.int t x).wf = true) (hin : ∀ k, k < n → 0 ≤ ps.getD k 0 ∧ ps.getD k 0 < n) (hl : xs.length = n) : ∀ z ∈ movel ps xs n, (Lit.int t z).wf = true := by
  intro z hz
  unfold movel tab at hz
  obtain ⟨k, hk, rfl⟩ := List.mem_map.1 hz
  have hk : k < n := by simpa using hk
  obtain ⟨h0, h1⟩ := hin k hk
  have hv : (ps.getD k 0).toNat < xs.length := by omega
  have e : xs.getD (ps.getD k 0).toNat 0 = xs[(ps.getD k 0).toNat]'hv := by rw [List.getD, List.getElem?_eq_getElem hv]; rfl
  show (Lit.int t (xs.getD (ps.getD k 0).toNat 0)).wf = true
  rw [e]; exact hw _ (List.getElem_mem _)
set_option maxRecDepth 100000 in
theorem perm_moveu (p q : Option Addr) (n c d : Nat) (ps xs : List Int) (W : World) (hp : RowI W p n ps) (hq : Row W q n xs) (hin : ∀ k, k < n → 0 ≤ ps.getD k 0 ∧ ps.getD k 0 < n) :
    Calls Tryz.prog 198 #[.slice p n c, .slice q n d] W (GivesOk W n (movel ps xs n)) := by
  have hs := hp.small
  have hmk := make_u64 n (by omega)
  have MA := Lib.hid (fun k hk => movel_at ps xs n k hk)
  have ML := Lib.hid (movel_len ps xs n)
  have MW := Lib.hid (movel_wf hq.wf hin hq.len)
  have HX := Lib.hid hp
  have HY := Lib.hid hq
  have HIN := Lib.hid hin
  have F0 := Lib.hid (Filling.start W 62 (movel ps xs n) n)
  have hB0 := (Below.refl W.heap.size W).alloc (Nat.le_refl _) (.cells (Array.replicate n (.int .u64 0)) 62)
  clear hp hq hin
  generalize movel ps xs n = ys at *
  go_enter Tryz.func198, Tryz.ntmps198
  go_wp2_with fail
  generalize W.alloc (.cells (Array.replicate n (.int .u64 0)) 62) = w1 at *
  go_loopw [19] (fun i wr => ∃ k : Nat, k ≤ n ∧ i = .int .i64 k ∧ Hid (Filling wr W.heap.size 62 ys k n) ∧ Below W.heap.size W wr) (fun i _ => n - (intOf i).toNat)
  case atStart => exact ⟨0, Nat.zero_le _, rfl, F0, hB0⟩
  case round =>
    clear F0 hB0
    obtain ⟨k, hk, rfl, HF, hB⟩ := hrel
    have hsz := HF.out.lt
    by_cases hlt : k < n
    · obtain ⟨b, off, rfl, hb, hc0, x0, x1⟩ := HX.out.cell hlt
      have hc : wr.cell? ⟨b, off + k, none⟩ = some (.int .i64 (ps.getD k 0)) := (hB.cell (p := ⟨b, off + k, none⟩) hb).trans hc0
      obtain ⟨g0, g1⟩ := HIN.out k hlt
      have MA1 := MA.out k hlt
      clear hc0
      obtain ⟨x, hx⟩ : ∃ x, ps.getD k 0 = x := ⟨_, rfl⟩
      rw [hx] at hc x0 x1 g0 g1 MA1
      obtain ⟨v, rfl⟩ : ∃ v : Nat, x = v := ⟨x.toNat, by omega⟩
      rw [Int.toNat_natCast] at MA1
      have hv : v < n := by omega
      obtain ⟨b2, off2, rfl, hb2, hd0, y0, y1⟩ := HY.out.cell hv
      have hd : wr.cell? ⟨b2, off2 + v, none⟩ = some (.int .u64 (xs.getD v 0)) := (hB.cell (p := ⟨b2, off2 + v, none⟩) hb2).trans hd0
      have hst := Lib.hid (HF.out.step hlt ML.out MA1)
      obtain ⟨u, hu⟩ := HF.out.cell hlt ML.out
      have hfr := HF.out.free k
      clear hx hd0 MA1
      generalize xs.getD v 0 = y at *
      go_wp2_with fail
      go_roundw
      case rel => exact ⟨k + 1, by omega, by go_num, hst, hB.setCell (Nat.le_refl _) _⟩
      case measure => (first | (simp [intOf]; done) | (simp [intOf]; omega) | (simp only [intOf]; omega))
    · obtain rfl : k = n := by omega
      go_wp2_with fail
      go_ret2
      exact ⟨_, _, rfl, Row.of_at (HF.out.done ML.out) MW.out ML.out hs, hB⟩
theorem perm_moveuno (p q : Option Addr) (n m c d : Nat) (W : World) (hn : n ≤ 17592186044415) (hm : m ≤ 17592186044415) (h : n ≠ m) :
    Calls Tryz.prog 198 #[.slice p n c, .slice q m d] W fun e w' => e = .returned (.tuple #[.slice none 0 0, .int .i64 5]) ∧ W = w' := by
  have hd : ((n : Int) != (m : Int)) = true := by simp; omega
  have hd2 : (n != m) = true := by simp; omega
  go_enter Tryz.func198, Tryz.ntmps198
  go_wp2_with fail
  go_ret2
  exact ⟨rfl, rfl⟩
/-- What an answer of After is: an order, or why there is none. -/
def AftOk (w : World) (a : Option Addr) (l : Nat) (z : Int) (n m : Nat) (ps qs : List Int) : Prop :=
  (rgt qs m m = false ∧ l = 0 ∧ z = 2) ∨ (rgt qs m m = true ∧ n ≠ m ∧ l = 0 ∧ z = 5) ∨ (rgt qs m m = true ∧ n = m ∧ l = n ∧ z = 0 ∧ RowI w a n (movel qs ps n))
theorem AftOk.below {w w' : World} {a : Option Addr} {l n m : Nat} {z : Int} {ps qs : List Int} (h : AftOk w a l z n m ps qs) (hb : Below w.heap.size w w') : AftOk w' a l z n m ps qs := by
  rcases h with h | h | ⟨h1, h2, h3, h4, h5⟩
  · exact .inl h
  · exact .inr (.inl h)
  · exact .inr (.inr ⟨h1, h2, h3, h4, h5.below hb⟩)
def AppOk (w : World) (a : Option Addr) (l : Nat) (z : Int) (n m : Nat) (ps xs : List Int) : Prop :=
  (n ≠ m ∧ l = 0 ∧ z = 5) ∨ (n = m ∧ l = n ∧ z = 0 ∧ Row w a n (movel ps xs n))
theorem AppOk.below {w w' : World} {a : Option Addr} {l n m : Nat} {z : Int} {ps xs : List Int} (h : AppOk w a l z n m ps xs) (hb : Below w.heap.size w w') : AppOk w' a l z n m ps xs := by
  rcases h with h | ⟨h1, h2, h3, h4⟩
  · exact .inl h
  · exact .inr ⟨h1, h2, h3, h4.below hb⟩
theorem perm_apply (p q : Option Addr) (n m c d : Nat) (ps xs : List Int) (W : World) (hp : RowI W p n ps) (hq : Row W q m xs) (hg : rgt ps n n = true) :
    Calls Tryz.prog 178 #[.slice p n c, .slice q m d] W fun e w' => ∃ a l c z, e = .returned (.tuple #[.slice a l c, .int .i64 z]) ∧ AppOk w' a l z n m ps xs ∧ Below W.heap.size W w' := by
  have RT := perm_right p n c ps W hp
  rw [hg] at RT
  have RT := Lib.hid RT
  have R1 := Lib.hid hp
  have R2 := Lib.hid hq
  have hs1 := hp.small
  have hs2 := hq.small
  have HIN := Lib.hid (rgt_in hg)
  have hB : Below W.heap.size W W := Below.refl _ _
  clear hp hq hg
  by_cases e : n = m
  · subst e
    have MV := Lib.hid (fun w (h1 : RowI w p n ps) (h2 : Row w q n xs) => perm_moveu p q n c d ps xs w h1 h2 HIN.out)
    go_enter Tryz.func178, Tryz.ntmps178
    go_wp2_with fail
    refine RT.out.mono ?_
    rintro e w1 ⟨rfl, b1⟩
    have R1 := Lib.hid (R1.out.below b1); have R2 := Lib.hid (R2.out.below b1); have hB := hB.trans (b1.mono hB.size); clear b1
    go_wp2_with fail
    refine (MV.out _ R1.out R2.out).mono ?_
    rintro e w1 ⟨p3, k3, rfl, h, b1⟩
    have R3 := Lib.hid h; clear h
    have hB := hB.trans (b1.mono hB.size); clear b1
    go_wp2_with fail
    go_ret2
    exact ⟨_, _, _, _, rfl, .inr ⟨rfl, rfl, rfl, R3.out⟩, hB⟩
  · have MV := Lib.hid (fun w => perm_moveuno p q n m c d w hs1 hs2 e)
    go_enter Tryz.func178, Tryz.ntmps178
    go_wp2_with fail
    refine RT.out.mono ?_
    rintro e w1 ⟨rfl, b1⟩
    have hB := hB.trans (b1.mono hB.size); clear b1
    go_wp2_with fail
    refine (MV.out _).mono ?_
    rintro e w1 ⟨rfl, rfl⟩
    go_wp2_with fail
    go_ret2
    exact ⟨_, _, _, _, rfl, .inl ⟨by assumption, rfl, rfl⟩, hB⟩
end Go.Proofs.YtbhnlfgccldmaaaGreat
/- Package perm: Bits' refusals; reference 8's Bits; Apply of an order and a row of one length. -/
namespace Go.Proofs.YtbhnlfgccldmaaaGreat
open Go.ChangeShapes Go.WideShapes Go.ChangeAt Go.RowKit
set_option linter.unusedVariables false
theorem c_apply (p q : Option Addr) (n c d : Nat) (ps xs : List Int) (W : World) (hp : RowI W p n ps) (hq : Row W q n xs) (hg : rgt ps n n = true) :
    Calls Tryz.prog 178 #[.slice p n c, .slice q n d] W (GivesOk W n (movel ps xs n)) := by
  refine (perm_apply p q n n c d ps xs W hp hq hg).mono ?_
  rintro e w' ⟨a, l, c, z, rfl, h, hb⟩
  rcases h with ⟨h, _⟩ | ⟨_, rfl, rfl, h⟩
  · exact absurd rfl h
  · exact ⟨_, _, rfl, h, hb⟩
end Go.Proofs.YtbhnlfgccldmaaaGreat
/- Package perm: Good; reference 8: Has, Right, Check, Good, Crt. -/
namespace Go.Proofs.YtbhnlfgccldmaaaGreat
open Go.ChangeShapes Go.WideShapes Go.ChangeAt Go.RowKit
set_option linter.unusedVariables false
theorem perm_good (a b : Nat) (W : World) (ha : 1 ≤ a) (hb : 1 ≤ b) (h : a * b ≤ 16777216) (hg : Nat.gcd a b = 1) :
    Calls Tryz.prog 176 #[.int .i64 a, .int .i64 b] W (GivesIOk W (a * b) (gridl a b b a)) := by
  have a2 : a ≤ a * b := Nat.le_mul_of_pos_right a (by omega)
  have b2 : b ≤ a * b := Nat.le_mul_of_pos_left b (by omega)
  have C := Lib.hid (fun w => coprime_ok a b w (sides_of ha hb h) hg)
  have G := Lib.hid (fun w => perm_grid a b b a w ha hb h (by omega) (by omega))
  have hB : Below W.heap.size W W := Below.refl _ _
  generalize gridl a b b a = ys at *
  generalize a * b = N at *
  clear hg
  go_enter Tryz.func176, Tryz.ntmps176
  go_wp2_with fail
  refine (C.out _).mono ?_
  rintro e w1 ⟨rfl, b1⟩
  have hB := hB.trans (b1.mono hB.size); clear b1
  go_wp2_with fail
  refine (G.out _).mono ?_
  rintro e w1 ⟨p, k, rfl, hr, b1⟩
  have HR := Lib.hid hr
  clear hr
  have hB := hB.trans (b1.mono hB.size); clear b1
  go_wp2_with fail
  go_ret2
  exact ⟨_, _, rfl, HR.out, hB⟩
end Go.Proofs.YtbhnlfgccldmaaaGreat
/- Package exec: good. By program (genexh.py). -/
namespace Go.Proofs.YtbhnlfgccldmaaaGreat
open Go.ChangeShapes Go.WideShapes Go.ChangeAt Go.RowKit
set_option linter.unusedVariables false
set_option linter.unusedSimpArgs false
/-- Numbers put at places, in whatever order, over a list. -/
def sett (f : Nat → Nat) (ys L : List Int) (t z : Nat) : Int := if (List.range t).any (fun i => f i == z) then ys.getD z 0 else L.getD z 0
theorem sett_start (f : Nat → Nat) (ys L : List Int) (n : Nat) (hl : L.length = n) : tab n (sett f ys L 0) = L := by
  apply getD_ext (by rw [tab_len, hl])
  intro z hz
  rw [tab_len] at hz
  rw [tab_at _ _ _ hz, sett]
  simp
theorem sett_step (f : Nat → Nat) (ys L : List Int) (n t : Nat) : (tab n (sett f ys L t)).set (f t) (ys.getD (f t) 0) = tab n (sett f ys L (t + 1)) := by
  refine tab_set _ _ _ _ _ fun z hz => ?_
  unfold sett
  rw [List.range_succ, List.any_append]
  by_cases h : z = f t
  · subst h; simp
  · have h2 : (f t == z) = false := by simpa using fun e => h e.symm
    simp only [List.any_cons, List.any_nil, Bool.or_false, h2]
    rw [if_neg h]
theorem sett_end (f : Nat → Nat) (ys L : List Int) (n m : Nat) (hl : ys.length = n) (h : ∀ z, z < n → (∃ i, i < m ∧ f i = z) ∨ L.getD z 0 = ys.getD z 0) : tab n (sett f ys L m) = ys := by
  apply getD_ext (by rw [tab_len, hl])
  intro z hz
  rw [tab_len] at hz
  rw [tab_at _ _ _ hz, sett]
  by_cases hc : (List.range m).any (fun i => f i == z) = true
  · rw [if_pos hc]
  · rw [if_neg hc]
    rcases h z hz with ⟨i, hi, e⟩ | e
    · exact absurd (List.any_eq_true.2 ⟨i, List.mem_range.2 hi, by simpa using e⟩) hc
    · exact e
theorem inj_onto {n : Nat} {p : Nat → Nat} (h1 : ∀ i, i < n → p i < n) (h2 : ∀ i j, i < n → j < n → p i = p j → i = j) {z : Nat} (hz : z < n) : ∃ i, i < n ∧ p i = z := by
  have hp := inj_perm n p h1 h2
  have : z ∈ (List.range n).map p := hp.symm.subset (List.mem_range.2 hz)
  obtain ⟨i, hi, e⟩ := List.mem_map.1 this
  exact ⟨i, List.mem_range.1 hi, e⟩
/-- What good puts at its place. -/
theorem good_put {r ra rb : Int} {a b N u v : Nat} (hN : a * b = N) (hg : Nat.gcd a b = 1) (hu : b * u % a = 1 % a) (hv : a * v % b = 1 % b) (xs : List Int) (hl : xs.length = N) (hn : fm (r ^ N) = 1) (ha : fm ra = fm (r ^ b)) (hb : fm rb = fm (r ^ a)) {k : Nat} (hk : k < N) (hb1 : 1 ≤ b) :
    (rowsl rb (colsl ra (movel (gridl a b b a) xs N) a b) a b).getD k 0 = (horl r xs N).getD (gridn a b (b * u) (a * v) k) 0 := by
  subst hN
  obtain ⟨p1, p2, p3⟩ := crt_parts hu hv hk
  have hi : k / b < a := Nat.div_lt_of_lt_mul (by rw [Nat.mul_comm]; exact hk)
  have hj : k % b < b := Nat.mod_lt _ (by omega)
  have hkk : k / b * b + k % b = k := by rw [Nat.mul_comm]; exact Nat.div_add_mod k b
  have h := good_at xs hl hn ha hb (fun i j hi hj => good_inj hg hi hj) (movel (gridl a b b a) xs (a * b)) (fun i j hi hj => by
    have h9 := lt_mul hi hj
    rw [movel_at _ _ _ _ h9, gridl_at _ _ _ _ _ h9, Int.toNat_natCast]) hi hj p3 p1 p2
  rw [hkk] at h
  exact h
set_option maxRecDepth 100000 in
set_option maxHeartbeats 16000000 in
theorem exec_good (G a b N : Nat) (hN : a * b = N) (k d k0 k1 r ra rb : Int) (v0 v1 : Value) (kb ko km kc : Nat) (p : Option Addr) (c : Nat) (xs : List Int) (W : World) (hx : Row W p N xs) (hs : N ≤ 16777216) (ha : 1 ≤ a) (hb1 : 1 ≤ b) (hkm : 2 ≤ km) (hC : KC W kb ko k0 a v0 k1 b v1) (hgc : Nat.gcd a b = 1)
    (hr : fm (r ^ N) = 1) (hra : fm ra = fm (r ^ b)) (hrb : fm rb = fm (r ^ a)) (K0 : RunK W G k0 a v0 d ra) (K1 : RunK W G k1 b v1 d rb) :
    Calls Tryz.prog 155 #[.agg #[.map (some G)], .agg #[.int .i64 k, .int .i64 N, .slice (some ⟨kb, ko, none⟩) km kc], .int .i64 d, .slice p N c] W (GivesNw W N (horl r xs N)) := by
  obtain ⟨w0, w1, hw0, hw1, hWB, hB, l0, l1⟩ := wb_start W G k N (.slice (some ⟨kb, ko, none⟩) km kc)
  have HAB := Lib.hid hN
  have HS := Lib.hid (show 1 ≤ a ∧ 1 ≤ b ∧ N ≤ 16777216 from ⟨ha, hb1, hs⟩)
  have HWB := Lib.hid hWB
  have HB := Lib.hid hB
  have HC := Lib.hid (hC.below hB)
  have PG := Lib.hid (fun (w : World) => hN ▸ perm_good a b w ha hb1 (by omega) hgc)
  have PC := Lib.hid (fun (w : World) => perm_crt a b w ha hb1 (by omega) hgc)
  have HX := Lib.hid (fun (w : World) (h : Below w1.heap.size w1 w) => hx.below (hB.trans (h.mono hB.size)))
  have hgr : rgt (gridl a b b a) N N = true := hN ▸ gridl_right (Nat.mul_pos ha hb1) (fun i j hi hj => good_inj hgc hi hj)
  have PA := Lib.hid (fun (w : World) (q : Option Addr) (c' : Nat) (h : Below w1.heap.size w1 w) (hq : RowI w q N (gridl a b b a)) => c_apply q p N c' c (gridl a b b a) xs w hq (hx.below (hB.trans (h.mono hB.size))) hgr)
  obtain ⟨g0, hg0⟩ : ∃ g0, movel (gridl a b b a) xs N = g0 := ⟨_, rfl⟩
  rw [hg0] at PA
  have CC := Lib.hid (fun (w : World) (h : Below w1.heap.size w1 w) (q : Option Addr) (c' : Nat) (hq : Row w q N g0) => exec_columns G a b k0 d ra v0 q c' g0 w N hN hq hs ha hb1 (K0.below (hB.trans (h.mono hB.size))))
  obtain ⟨cs, hcs⟩ : ∃ cs, colsl ra g0 a b = cs := ⟨_, rfl⟩
  rw [hcs] at CC
  have CL : cs.length = N := by rw [← hcs, colsl_len, hN]
  have CW : ∀ z ∈ cs, (Lit.int .u64 z).wf = true := hcs ▸ colsl_wf ra g0 a b
  obtain ⟨rs, hrs⟩ : ∃ rs, rowsl rb cs a b = rs := ⟨_, rfl⟩
  have RS := Lib.hid (fun (w : World) (h : Below w1.heap.size w1 w) (X : Nat) (hg : RowAt w X 62 cs) => (show Calls Tryz.prog 175 #[.agg #[.map (some G)], .agg #[.int .i64 k1, .int .i64 b, v1], .int .i64 d, .slice (some ⟨X, 0, none⟩) N N] w (GivesNw w N rs) from hrs ▸ exec_rows G a b k1 d rb v1 X cs w N hN hg CL CW hs ha hb1 (K1.below (hB.trans (h.mono hB.size)))))
  obtain ⟨ys, hys⟩ : ∃ ys, horl r xs N = ys := ⟨_, rfl⟩
  have SP := Lib.hid (fun u v (hu : b * u % a = 1 % a) (hv : a * v % b = 1 % b) k (hk : k < N) => (show rs.getD k 0 = ys.getD (gridn a b (b * u) (a * v) k) 0 from by
    have := good_put hN hgc hu hv xs hx.len hr hra hrb hk hb1
    rw [hg0, hcs, hrs, hys] at this
    exact this))
  have YW := Lib.hid (show ∀ z ∈ ys, (Lit.int .u64 z).wf = true from hys ▸ horl_wf r xs N)
  have YL := Lib.hid (show ys.length = N from by rw [← hys, horl_len])
  rw [hys]
  have hmk := make_u64 N (by omega)
  have hm0 : 0 < km := by omega
  have hm1 : 1 < km := by omega
  have hm0i : (0 : Int) < (km : Int) := by omega
  have hm1i : (1 : Int) < (km : Int) := by omega
  obtain ⟨c0, c1, c2, c3⟩ := hWB.cells
  have hC1 := HC.out
  have k0c := hC1.c0
  have k1c := hC1.c1
  have k2c := hC1.c2
  have k3c := hC1.c3
  have k4c := hC1.c4
  have k5c := hC1.c5
  clear hcs hrs hys hg0 hC hC1 hx hs ha hb1 hkm hr hra hrb K0 K1 hWB hB l0 l1 CL CW hgr hgc
  go_enter Tryz.func155, Tryz.ntmps155
  go_upto_region 1 with fail
  go_quiet (fail)
  go_wp2_with fail
  refine (PG.out _).mono ?_
  rintro e w2 ⟨q2, e2, rfl, r2, b2⟩
  have HB2 := Lib.hid ((below_drewN (Below.refl w1.heap.size w1) _).trans (b2.mono (by simp)))
  clear b2
  have HR2 := Lib.hid r2
  clear r2 c0 c1 c2 c3 k0c k1c k2c k3c k4c k5c hw0 hw1
  obtain ⟨A, hA⟩ : ∃ A, W.heap.size = A := ⟨_, rfl⟩
  obtain ⟨B, hBB⟩ : ∃ B, w0.heap.size = B := ⟨_, rfl⟩
  rw [hA] at HWB
  rw [hBB] at HWB
  go_wp2_with fail
  refine (PC.out _).mono ?_
  rintro e w3 ⟨uu, vv, hu1, hu2, hv1, hv2, q3, e3, rfl, r3, b3⟩
  have HR3 := Lib.hid (show RowI w3 q3 N (gridl a b (b * uu) (a * vv)) from HAB.out ▸ r3)
  have HB3 := Lib.hid (HB2.out.trans (b3.mono HB2.out.size))
  have HR2 := Lib.hid (HR2.out.below b3)
  have HUV := Lib.hid (And.intro hu2 hv2)
  have SP := Lib.hid (fun k (hk : k < N) => SP.out uu vv hu2 hv2 k hk)
  clear b3 r3 hu1 hu2 hv1 hv2
  go_wp2_with fail
  refine (PA.out w3 q2 _ HB3.out HR2.out).mono ?_
  rintro e w4 ⟨q4, e4, rfl, r4, b4⟩
  have HR4 := Lib.hid r4
  have HR3 := Lib.hid (HR3.out.below b4)
  have HB4 := Lib.hid (HB3.out.trans (b4.mono HB3.out.size))
  clear r4 b4
  go_upto_region 5 with fail
  (try rw [hA]); (try rw [hBB]); (try rw [HAB.out])
  have FC := Lib.hid (fun (u : World) (h : Below w1.heap.size w1 u) => And.intro (HWB.out.below h).cells (HC.out.below h))
  have Hs0 := HB4.out.trans ((Below.refl w4.heap.size w4).drew.mono HB4.out.size)
  have CC2 := Lib.hid (CC.out w4.drew Hs0 q4 e4 (HR4.out.below (Below.refl _ _).drew))
  refine wp_region_held_drew (S := (fun w' => Below w1.heap.size w1 w')) (by kernel_rfl) Hs0 (fun hHeld => ?_)
  refine wpAnyH_take (i := 0) (v := ?v1) rfl (by kernel_rfl) (by kernel_rfl) (by kernel_rfl) (fun _ _ _ h => h) (Or.inl ⟨by kernel_rfl, ?hy1⟩) (by assumption) ?rest1
  case hy1 => intro w hSw; (try dsimp only at hSw); obtain ⟨⟨g0, g1, g2, g3⟩, gk⟩ := FC.out w hSw; have gk0 := gk.c0; have gk1 := gk.c1; have gk2 := gk.c2; have gk3 := gk.c3; have gk4 := gk.c4; have gk5 := gk.c5; go_simp; (first | done | with_reducible rfl)
  (try simp only [Act.put, List.getElem_toArray, List.getElem_cons_zero, List.getElem_cons_succ, List.setIfInBounds_toArray, List.set_cons_zero, List.set_cons_succ])
  refine wpAnyH_take (i := 1) (v := ?v2) rfl (by kernel_rfl) (by kernel_rfl) (by kernel_rfl) (fun _ _ _ h => h) (Or.inl ⟨by kernel_rfl, ?hy2⟩) (by assumption) ?rest2
  case hy2 => intro w hSw; clear hSw; go_simp; (first | done | with_reducible rfl)
  (try simp only [Act.put, List.getElem_toArray, List.getElem_cons_zero, List.getElem_cons_succ, List.setIfInBounds_toArray, List.set_cons_zero, List.set_cons_succ])
  refine wpAnyH_take (i := 2) (v := ?v3) rfl (by kernel_rfl) (by kernel_rfl) (by kernel_rfl) (fun _ _ _ h => h) (Or.inl ⟨by kernel_rfl, ?hy3⟩) (by assumption) ?rest3
  case hy3 => intro w hSw; (try dsimp only at hSw); obtain ⟨⟨g0, g1, g2, g3⟩, gk⟩ := FC.out w hSw; have gk0 := gk.c0; have gk1 := gk.c1; have gk2 := gk.c2; have gk3 := gk.c3; have gk4 := gk.c4; have gk5 := gk.c5; go_simp; (first | done | with_reducible rfl)
  (try simp only [Act.put, List.getElem_toArray, List.getElem_cons_zero, List.getElem_cons_succ, List.setIfInBounds_toArray, List.set_cons_zero, List.set_cons_succ])
  refine wpAnyH_take (i := 3) (v := ?v4) rfl (by kernel_rfl) (by kernel_rfl) (by kernel_rfl) (fun _ _ _ h => h) (Or.inl ⟨by kernel_rfl, ?hy4⟩) (by assumption) ?rest4
  case hy4 => intro w hSw; clear hSw; go_simp; (first | done | with_reducible rfl)
  (try simp only [Act.put, List.getElem_toArray, List.getElem_cons_zero, List.getElem_cons_succ, List.setIfInBounds_toArray, List.set_cons_zero, List.set_cons_succ])
  refine wpAnyH_take (i := 4) (v := ?v5) rfl (by kernel_rfl) (by kernel_rfl) (by kernel_rfl) (fun _ _ _ h => h) (Or.inl ⟨by kernel_rfl, ?hy5⟩) (by assumption) ?rest5
  case hy5 => intro w hSw; (try dsimp only at hSw); obtain ⟨⟨g0, g1, g2, g3⟩, gk⟩ := FC.out w hSw; have gk0 := gk.c0; have gk1 := gk.c1; have gk2 := gk.c2; have gk3 := gk.c3; have gk4 := gk.c4; have gk5 := gk.c5; go_simp; (first | done | with_reducible rfl)
  (try simp only [Act.put, List.getElem_toArray, List.getElem_cons_zero, List.getElem_cons_succ, List.setIfInBounds_toArray, List.set_cons_zero, List.set_cons_succ])
  refine wpAnyH_take (i := 5) (v := ?v6) rfl (by kernel_rfl) (by kernel_rfl) (by kernel_rfl) (fun _ _ _ h => h) (Or.inl ⟨by kernel_rfl, ?hy6⟩) (by assumption) ?rest6
  case hy6 => intro w hSw; clear hSw; go_simp; (first | done | with_reducible rfl)
  (try simp only [Act.put, List.getElem_toArray, List.getElem_cons_zero, List.getElem_cons_succ, List.setIfInBounds_toArray, List.set_cons_zero, List.set_cons_succ])
  refine wpAnyH_take (i := 6) (v := ?v7) rfl (by kernel_rfl) (by kernel_rfl) (by kernel_rfl) (fun _ _ _ h => h) (Or.inl ⟨by kernel_rfl, ?hy7⟩) (by assumption) ?rest7
  case hy7 => intro w hSw; (try dsimp only at hSw); obtain ⟨⟨g0, g1, g2, g3⟩, gk⟩ := FC.out w hSw; have gk0 := gk.c0; have gk1 := gk.c1; have gk2 := gk.c2; have gk3 := gk.c3; have gk4 := gk.c4; have gk5 := gk.c5; go_simp; (first | done | with_reducible rfl)
  (try simp only [Act.put, List.getElem_toArray, List.getElem_cons_zero, List.getElem_cons_succ, List.setIfInBounds_toArray, List.set_cons_zero, List.set_cons_succ])
  refine wpAnyH_take (i := 7) (v := ?v8) rfl (by kernel_rfl) (by kernel_rfl) (by kernel_rfl) (fun _ _ _ h => h) (Or.inl ⟨by kernel_rfl, ?hy8⟩) (by assumption) ?rest8
  case hy8 => intro w hSw; clear hSw; go_simp; (first | done | with_reducible rfl)
  (try simp only [Act.put, List.getElem_toArray, List.getElem_cons_zero, List.getElem_cons_succ, List.setIfInBounds_toArray, List.set_cons_zero, List.set_cons_succ])
  refine wpAnyH_take (i := 8) (v := ?v9) rfl (by kernel_rfl) (by kernel_rfl) (by kernel_rfl) (fun _ _ _ h => h) (Or.inl ⟨by kernel_rfl, ?hy9⟩) (by assumption) ?rest9
  case hy9 => intro w hSw; (try dsimp only at hSw); obtain ⟨⟨g0, g1, g2, g3⟩, gk⟩ := FC.out w hSw; have gk0 := gk.c0; have gk1 := gk.c1; have gk2 := gk.c2; have gk3 := gk.c3; have gk4 := gk.c4; have gk5 := gk.c5; go_simp; (first | done | with_reducible rfl)
  (try simp only [Act.put, List.getElem_toArray, List.getElem_cons_zero, List.getElem_cons_succ, List.setIfInBounds_toArray, List.set_cons_zero, List.set_cons_succ])
  refine wpAnyH_take (i := 9) (v := ?v10) rfl (by kernel_rfl) (by kernel_rfl) (by kernel_rfl) (fun _ _ _ h => h) (Or.inl ⟨by kernel_rfl, ?hy10⟩) (by assumption) ?rest10
  case hy10 => intro w hSw; clear hSw; go_simp; (first | done | with_reducible rfl)
  (try simp only [Act.put, List.getElem_toArray, List.getElem_cons_zero, List.getElem_cons_succ, List.setIfInBounds_toArray, List.set_cons_zero, List.set_cons_succ])
  refine wpAnyH_take (i := 10) (v := ?v11) rfl (by kernel_rfl) (by kernel_rfl) (by kernel_rfl) (fun _ _ _ h => h) (Or.inl ⟨by kernel_rfl, ?hy11⟩) (by assumption) ?rest11
  case hy11 => intro w hSw; (try dsimp only at hSw); obtain ⟨⟨g0, g1, g2, g3⟩, gk⟩ := FC.out w hSw; have gk0 := gk.c0; have gk1 := gk.c1; have gk2 := gk.c2; have gk3 := gk.c3; have gk4 := gk.c4; have gk5 := gk.c5; go_simp; (first | done | with_reducible rfl)
  (try simp only [Act.put, List.getElem_toArray, List.getElem_cons_zero, List.getElem_cons_succ, List.setIfInBounds_toArray, List.set_cons_zero, List.set_cons_succ])
  refine wpAnyH_take (i := 11) (v := ?v12) rfl (by kernel_rfl) (by kernel_rfl) (by kernel_rfl) (fun _ _ _ h => h) (Or.inl ⟨by kernel_rfl, ?hy12⟩) (by assumption) ?rest12
  case hy12 => intro w hSw; clear hSw; go_simp; (first | done | with_reducible rfl)
  (try simp only [Act.put, List.getElem_toArray, List.getElem_cons_zero, List.getElem_cons_succ, List.setIfInBounds_toArray, List.set_cons_zero, List.set_cons_succ])
  refine wpAnyH_take (i := 12) (v := ?v13) rfl (by kernel_rfl) (by kernel_rfl) (by kernel_rfl) (fun _ _ _ h => h) (Or.inl ⟨by kernel_rfl, ?hy13⟩) (by assumption) ?rest13
  case hy13 => intro w hSw; clear hSw; go_simp; (first | done | with_reducible rfl)
  (try simp only [Act.put, List.getElem_toArray, List.getElem_cons_zero, List.getElem_cons_succ, List.setIfInBounds_toArray, List.set_cons_zero, List.set_cons_succ])
  refine wpAnyH_take (i := 13) (v := ?v14) rfl (by kernel_rfl) (by kernel_rfl) (by kernel_rfl) (fun _ _ _ h => h) (Or.inl ⟨by kernel_rfl, ?hy14⟩) (by assumption) ?rest14
  case hy14 => intro w hSw; clear hSw; go_simp; (first | done | with_reducible rfl)
  (try simp only [Act.put, List.getElem_toArray, List.getElem_cons_zero, List.getElem_cons_succ, List.setIfInBounds_toArray, List.set_cons_zero, List.set_cons_succ])
  refine wpAnyH_ready (rs := [14]) (by kernel_rfl) (by simp) ?_
  refine AllReadyH.cons rfl (fun K hK => ?_) AllReadyH.nil
  go_simp
  refine (CC2.out).mono ?_
  rintro e u ⟨Y, rfl, hRY, hYn, hb5⟩
  (try go_wp2_with fail)
  refine hK.out _ _ (hHeld.trans (hb5.mono hHeld.size)) (fun hHeld2 => ?_)
  clear hK K hHeld
  have hHeld := hHeld2
  clear hHeld2
  (try simp only [Act.put, List.getElem_toArray, List.getElem_cons_zero, List.getElem_cons_succ, List.setIfInBounds_toArray, List.set_cons_zero, List.set_cons_succ])
  refine wpAnyH_ready (rs := [15]) (by kernel_rfl) (by simp) ?_
  refine AllReadyH.cons rfl (fun K hK => ?_) AllReadyH.nil
  go_simp
  refine (RS.out _ hHeld Y hRY).mono ?_
  rintro e x ⟨q6, e6, rfl, r6, -, hb6⟩
  (try go_wp2_with fail)
  refine hK.out _ _ (hHeld.trans (hb6.mono hHeld.size)) (fun hHeld2 => ?_)
  clear hK K hHeld
  have hHeld := hHeld2
  clear hHeld2
  (try simp only [Act.put, List.getElem_toArray, List.getElem_cons_zero, List.getElem_cons_succ, List.setIfInBounds_toArray, List.set_cons_zero, List.set_cons_succ])
  refine wpAnyH_take (i := 16) (v := ?v17) rfl (by kernel_rfl) (by kernel_rfl) (by kernel_rfl) (fun _ _ _ h => h) (Or.inl ⟨by kernel_rfl, ?hy17⟩) (by assumption) ?rest17
  case hy17 => intro w hSw; clear hSw; go_simp; (first | done | with_reducible rfl)
  (try simp only [Act.put, List.getElem_toArray, List.getElem_cons_zero, List.getElem_cons_succ, List.setIfInBounds_toArray, List.set_cons_zero, List.set_cons_succ])
  refine wpAnyH_done (by kernel_rfl) ?_ _
  have HR6 := Lib.hid r6
  have HB6 := Lib.hid hHeld
  have HR3 := Lib.hid ((HR3.out.below ((Below.refl w4.heap.size w4).drew)).below (hb5.trans (hb6.mono hb5.size)))
  clear r6 hb5 hb6 hHeld Hs0 hRY hYn
  obtain ⟨w6, rfl⟩ : ∃ z, z = x := ⟨_, rfl⟩
  obtain ⟨Y2, hY2⟩ : ∃ Y, w6.heap.size = Y := ⟨_, rfl⟩
  obtain ⟨w7, hw7⟩ : ∃ w7, w6.alloc (.cells (Array.replicate N (.int .u64 0)) 62) = w7 := ⟨_, rfl⟩
  obtain ⟨f, hf⟩ : ∃ f, gridn a b (b * uu) (a * vv) = f := ⟨_, rfl⟩
  have FL := Lib.hid (fun k (hk : k < N) => (show f k < N ∧ (gridl a b (b * uu) (a * vv)).getD k 0 = ((f k : Nat) : Int) from by
    subst hf
    have h := hk
    rw [← HAB.out] at h
    have h2 := (crt_parts HUV.out.1 HUV.out.2 h).2.2
    exact ⟨by rw [← HAB.out]; exact h2, gridl_at _ _ _ _ _ h⟩))
  have FE := Lib.hid (show ∀ z, z < N → ∃ i, i < N ∧ f i = z from fun z hz => inj_onto (fun i hi => (FL.out i hi).1) (fun i j hi hj e => by
    subst hf
    rw [← HAB.out] at hi hj
    exact crt_inj HUV.out.1 HUV.out.2 hi hj e) hz)
  rw [hf] at SP
  have H7 := Lib.hid (show RowAt w7 Y2 62 (tab N (sett f ys (List.replicate N 0) 0)) ∧ Below Y2 w6 w7 from by
    subst hY2
    have := RowAt.made w6 62 N
    rw [hw7, ← sett_start f ys (List.replicate N 0) N (by simp)] at this
    exact ⟨this, hw7 ▸ (Below.refl _ _).alloc (Nat.le_refl _) _⟩)
  have LR := Lib.hid (fun t (ht : t < N) => HR6.out.cell ht)
  have LO := Lib.hid (fun t (ht : t < N) => HR3.out.cell ht)
  have HY5 := Lib.hid (show Y2 = w6.heap.size ∧ w1.heap.size ≤ Y2 from ⟨hY2.symm, by rw [← hY2]; exact HB6.out.size⟩)
  have HW7 := Lib.hid hw7
  clear hw7
  go_wp2_with fail
  (try rw [hY2]); (try rw [HW7.out])
  go_loopw [18, 19, 69] (fun _ _ x wr => ∃ t : Nat, t ≤ N ∧ x = .int .i64 t ∧ Hid (RowAt wr Y2 62 (tab N (sett f ys (List.replicate N 0) t))) ∧ Hid (Below Y2 w6 wr)) (fun _ _ x _ => N - (intOf x).toNat)
  case atStart => exact ⟨0, Nat.zero_le _, rfl, Lib.hid H7.out.1, Lib.hid H7.out.2⟩
  case round =>
    obtain ⟨t, ht, rfl, RL, HBL⟩ := hrel
    by_cases htN : t < N
    · have hti : (t : Int) < (N : Int) := by omega
      have WT := Lib.hid (show wrap64 ((t : Int) + 1) = ((t + 1 : Nat) : Int) by have := HS.out; simp only [wrap64]; omega)
      have SPq := SP.out t htN
      obtain ⟨hft, hgt⟩ := FL.out t htN
      obtain ⟨br, or_, rfl, hbr, kr, -, -⟩ := LR.out t htN
      rw [SPq] at kr
      obtain ⟨bo, oo, rfl, hbo, ko', -, -⟩ := LO.out t htN
      rw [hgt] at ko'
      have hr6 := (HBL.out.cell (p := ⟨br, or_ + t, none⟩) (by rw [HY5.out.1]; exact hbr)).trans kr
      have ho6 := (HBL.out.cell (p := ⟨bo, oo + t, none⟩) (by rw [HY5.out.1]; exact hbo)).trans ko'
      have cy := RL.out.cell (k := f t) (by rw [tab_len]; exact hft)
      have fy := RL.out.free (f t)
      have RN := Lib.hid (show RowAt (wr.setCell ⟨Y2, f t, none⟩ (.int .u64 (ys.getD (f t) 0))) Y2 62 (tab N (sett f ys (List.replicate N 0) (t + 1))) from by
        have := RL.out.set (f t) (ys.getD (f t) 0)
        rwa [sett_step] at this)
      have HB7 := Lib.hid (HBL.out.setCell (p := ⟨Y2, f t, none⟩) (Nat.le_refl _) (.int .u64 (ys.getD (f t) 0)))
      have hlt := RL.out.lt
      have hbr6 : br < wr.heap.size := Nat.lt_of_lt_of_le hbr HBL.out.size
      have hbo6 : bo < wr.heap.size := Nat.lt_of_lt_of_le hbo HBL.out.size
      obtain ⟨z, hz⟩ : ∃ z, f t = z := ⟨_, rfl⟩
      rw [hz] at hft hr6 ho6 cy fy RN HB7
      obtain ⟨y, hy⟩ : ∃ y, ys.getD z 0 = y := ⟨_, rfl⟩
      rw [hy] at hr6 RN HB7
      have hzi : (z : Int) < (N : Int) := by omega
      have hz0 : (0 : Int) ≤ (z : Int) := by omega
      clear hz hy kr ko' SPq hgt hbr hbo
      go_wp2_with fail
      go_roundw
      case rel => exact ⟨t + 1, by omega, by first | rw [WT.out] | go_num, RN, HB7⟩
      case measure => first | (first | (simp [intOf]; done) | (simp [intOf]; omega) | (simp only [intOf]; omega)) | (rw [WT.out]; simp only [intOf]; omega)
    · have hti : ¬ (t : Int) < (N : Int) := by omega
      obtain rfl : t = N := by omega
      have RE := Lib.hid (show RowAt wr Y2 62 ys from by have := RL.out; rwa [sett_end f ys _ t t YL.out (fun z hz => .inl (FE.out z hz))] at this)
      have WB9 := Lib.hid (show Below W.heap.size W wr ∧ W.heap.size ≤ Y2 from ⟨HB.out.trans ((HB6.out.trans (HBL.out.mono HY5.out.2)).mono HB.out.size), Nat.le_trans HB.out.size HY5.out.2⟩)
      go_wp2_with fail
      go_ret
      exact givesNw_at rfl RE.out YW.out YL.out (by have := HS.out; omega) WB9.out.1 WB9.out.2
end Go.Proofs.YtbhnlfgccldmaaaGreat
/- Package exec: around. -/
namespace Go.Proofs.YtbhnlfgccldmaaaGreat
open Go.ChangeShapes Go.WideShapes Go.ChangeAt Go.RowKit
set_option linter.unusedVariables false
set_option linter.unusedSimpArgs false
theorem cycl_b (xs ys : List Int) (k : Nat) : 0 ≤ (cycl xs ys).getD k 0 ∧ (cycl xs ys).getD k 0 ≤ 18446744069414584320 := by
  unfold cycl
  by_cases hk : k < xs.length
  · rw [tab_at _ _ _ hk]; exact csn_b _ _ _ _ _
  · rw [List.getD_eq_getElem?_getD, List.getElem?_eq_none (by rw [tab_len]; omega)]; exact ⟨by simp, by simp⟩
/-- There, times, there again, backwards, by the length: the product around. -/
theorem around_all {r s : Int} {m : Nat} (h : Inv2 r s m) (xs l : List Int) (hx : xs.length = m) (hl : l.length = m) (h0 : 1 ≤ m) (h1 : m ≤ 16777216) : scl (finv m) (revl (horl r (zmul (horl r xs m) (horl r l m)) m)) = cycl xs l := by
  rw [← horl_cyc h.rn xs l hx hl]
  have hc : (cycl xs l).length = m := by rw [cycl_len, hx]
  have hH : (horl r (horl r (cycl xs l) m) m).length = m := horl_len _ _ _
  apply getD_ext
  · rw [scl_len, revl_len, hH, hc]
  · intro j hj
    rw [scl_len, revl_len, hH] at hj
    have hq : (m - j) % m < m := Nat.mod_lt _ (by omega)
    have hz : (m - (m - j) % m) % m = j := by
      by_cases e : j = 0
      · subst e; simp
      · rw [Nat.mod_eq_of_lt (show m - j < m by omega), Nat.mod_eq_of_lt (by omega)]; omega
    have hi : fm (finv m * m) = 1 := Fld.inv_mul m (by
      have : fm (m : Int) = m := Int.emod_eq_of_lt (by omega) (by omega)
      rw [this]; omega)
    obtain ⟨b0, b1⟩ := cycl_b xs l j
    rw [scl_at _ _ j (by rw [revl_len, hH]; exact hj), revl_at _ j (by rw [hH]; exact hj), hH, h.twice _ hc _ hq, hz, fm_fm, fm_mul_r, ← Int.mul_assoc, ← fm_mul_l, hi, Int.one_mul, fm_small _ b0 b1]
set_option maxRecDepth 100000 in
set_option maxHeartbeats 4000000 in
theorem exec_around (G m : Nat) (k r s : Int) (v : Value) (p q : Option Addr) (c e0 : Nat) (xs l : List Int) (W : World) (hi : Inv2 r s m) (hx : Row W p m xs) (hl : l.length = m) (hq : Row W q m (horl r l m)) (h0 : 1 ≤ m) (hn : m ≤ 16777216) (hK : RunK W G k m v 0 r) :
    Calls Tryz.prog 179 #[.agg #[.map (some G)], .agg #[.int .i64 k, .int .i64 m, v], .slice p m c, .slice q m e0] W (Gives W m (cycl xs l)) := by
  obtain ⟨w0, w1, hw0, hw1, hWB, hB, l0, l1⟩ := wb_start W G k m v
  have HB := Lib.hid hB
  have HWB := Lib.hid hWB
  obtain ⟨c0, c1, c2, c3⟩ := hWB.cells
  have K1 := Lib.hid (hK w1 hB p c xs (hx.below hB))
  have HK := Lib.hid (fun (w : World) (h : Below w1.heap.size w1 w) (p : Option Addr) (c : Nat) (xs : List Int) (hr : Row w p m xs) => hK w (hB.trans (h.mono hB.size)) p c xs hr)
  have HQ := Lib.hid (fun (w : World) (h : Below w1.heap.size w1 w) => hq.below (hB.trans (h.mono hB.size)))
  have E := Lib.hid (around_all hi xs l hx.len hl h0 hn)
  have HN := Lib.hid hn
  have VI := Lib.hid (fun (w : World) => gold_inv (m : Int) w (by omega) (by omega))
  have FI := Lib.hid (show 0 ≤ finv (m : Int) ∧ finv (m : Int) ≤ 18446744073709551615 from ⟨fm_lo _, fm_hi' _⟩)
  rw [← E.out]
  obtain ⟨xs1, h1⟩ : ∃ xs1, horl r xs m = xs1 := ⟨_, rfl⟩
  obtain ⟨l1', h2⟩ : ∃ l1', horl r l m = l1' := ⟨_, rfl⟩
  rw [h1] at K1 ⊢
  rw [h2] at HQ ⊢
  have hcv : wrap64 (m : Int) = (m : Int) := by have := HN.out; simp only [wrap64]; omega
  have hcu : IntKind.u64.wrap (m : Int) = (m : Int) := by simp only [IntKind.wrap_u64]; omega
  generalize finv (m : Int) = fi at *
  clear h1 h2 hi hx hl hq h0 hn hK hB hWB E l0 l1 hcv
  go_enter Tryz.func179, Tryz.ntmps179
  go_wp2_with fail
  refine K1.out.mono ?_
  rintro e w2 ⟨p2, q2, rfl, r2, -, b2⟩
  obtain ⟨c0, c1, c2, c3⟩ := (HWB.out.below b2).cells
  have M1 := Lib.hid (fun cc => c_mul (c := cc) (d := e0) r2 (HQ.out w2 b2))
  have HB2 := Lib.hid b2
  clear r2 b2
  go_wp2_with fail
  refine (M1.out _).mono ?_
  rintro e w3 ⟨p3, q3, rfl, r3, b3⟩
  have HB3 := Lib.hid (HB2.out.trans (b3.mono HB2.out.size))
  have K2 := Lib.hid (HK.out w3 HB3.out p3 q3 _ r3)
  obtain ⟨c0, c1, c2, c3⟩ := (HWB.out.below HB3.out).cells
  clear b3 r3 M1
  go_wp2_with fail
  refine K2.out.mono ?_
  rintro e w4 ⟨p4, q4, rfl, r4, -, b4⟩
  have HB4 := Lib.hid (HB3.out.trans (b4.mono HB3.out.size))
  have R1 := Lib.hid (fun cc => c_rev (c := cc) r4)
  clear b4 r4
  go_wp2_with fail
  refine (R1.out _).mono ?_
  rintro e w5 ⟨p5, q5, rfl, r5, b5⟩
  have HB5 := Lib.hid (HB4.out.trans (b5.mono HB4.out.size))
  have HR5 := Lib.hid r5
  clear b5 r5
  go_wp2_with fail
  refine (VI.out _).mono ?_
  rintro e w6 ⟨rfl, b6⟩
  have HB6 := Lib.hid (HB5.out.trans (b6.mono HB5.out.size))
  have S1 := Lib.hid (fun cc => c_scale (c := cc) (HR5.out.below b6) FI.out.1 FI.out.2)
  clear b6
  go_wp2_with fail
  refine (S1.out _).mono ?_
  rintro e w7 ⟨p7, q7, rfl, r7, b7⟩
  have HR7 := Lib.hid (And.intro r7 (HB.out.trans ((HB6.out.trans (b7.mono HB6.out.size)).mono HB.out.size)))
  clear b7 r7
  go_wp2_with fail
  go_ret
  exact ⟨_, _, rfl, HR7.out.1, HR7.out.2⟩
end Go.Proofs.YtbhnlfgccldmaaaGreat
/- Package gen: Logs; reference 9's Powers. -/
namespace Go.Proofs.YtbhnlfgccldmaaaGreat
open Go.ChangeShapes Go.WideShapes Go.ChangeAt Go.RowKit
set_option linter.unusedVariables false
theorem cnt_exg {ps : List Int} {v : Int} : ∀ {k : Nat}, cnt ps v k ≠ 0 → ∃ j, j < k ∧ ps.getD j 0 = v
  | k + 1, h => by
    by_cases e : ps.getD k 0 = v
    · exact ⟨k, by omega, e⟩
    · rw [cnt, if_neg e] at h
      obtain ⟨j, hj, e2⟩ := cnt_exg h
      exact ⟨j, by omega, e2⟩
theorem inv_backg {ps : List Int} {n k : Nat} (hg : rgt ps n n = true) (hk : k < n) : invl ps (ps.getD k 0) n = k :=
  invl_at rfl n hk (fun j h1 h2 e => rgt_apart hg k j h1 h2 e.symm)
theorem inv_exg {ps : List Int} {n v : Nat} (hg : rgt ps n n = true) (hv : v < n) : ∃ k, k < n ∧ ps.getD k 0 = v ∧ invl ps v n = k := by
  obtain ⟨k, hk, e⟩ := cnt_exg (ps := ps) (v := (v : Int)) (k := n) (by rw [(rgt_cnt ps n).1 hg v hv]; omega)
  exact ⟨k, hk, e, by rw [← e]; exact inv_backg hg hk⟩
theorem inverl_atg (ps : List Int) (n v : Nat) (hv : v < n) : (inverl ps n).getD v 0 = ((invl ps v n : Nat) : Int) := tab_at n (fun v => ((invl ps v n : Nat) : Int)) v hv
theorem pow_pos {q g : Nat} (hq : isP q) (h1 : 1 ≤ g) (h2 : g < q) : ∀ i, 1 ≤ g ^ i % q ∧ ¬ q ∣ g ^ i
  | 0 => by
    have := hq.1
    rw [Nat.pow_zero, Nat.mod_eq_of_lt (by omega)]
    exact ⟨by omega, fun hd => by have := Nat.le_of_dvd (by omega) hd; omega⟩
  | i + 1 => by
    have ih := (pow_pos hq h1 h2 i).2
    have hn : ¬ q ∣ g ^ (i + 1) := by
      intro hd
      rw [Nat.pow_succ] at hd
      rcases hq.dvd_mul hd with h | h
      · exact ih h
      · have := Nat.le_of_dvd h1 h; omega
    refine ⟨?_, hn⟩
    rcases Nat.eq_zero_or_pos (g ^ (i + 1) % q) with z | z
    · exact absurd (Nat.dvd_of_mod_eq_zero z) hn
    · exact z
theorem pow_same {q g : Nat} (hq : isP q) (h : IsMk q g) {x y : Nat} (hxy : x ≤ y) (he : g ^ x % q = g ^ y % q) : q - 1 ∣ y - x := by
  have q0 := hq.1
  obtain ⟨d, rfl⟩ : ∃ d, y = x + d := ⟨y - x, by omega⟩
  rw [Nat.add_sub_cancel_left]
  refine h.ord.dvd q0 ?_
  have hp := (pow_pos hq h.one h.lt x).2
  have hge : g ^ x ≤ g ^ (x + d) := Nat.pow_le_pow_right h.one (by omega)
  have hd : q ∣ g ^ (x + d) - g ^ x := mod_dvd hge he
  have h1 : 1 ≤ g ^ d := Nat.pow_pos h.one
  rw [Nat.pow_add, show g ^ x * g ^ d - g ^ x = g ^ x * (g ^ d - 1) by rw [Nat.mul_sub, Nat.mul_one]] at hd
  rcases hq.dvd_mul hd with c | c
  · exact absurd c hp
  · obtain ⟨k, hk⟩ := c
    rw [show g ^ d = 1 + q * k by omega, Nat.add_mul_mod_self_left, Nat.mod_eq_of_lt (by omega)]
/-- The powers, less 1. -/
def pm1 (q g : Nat) : List Int := tab (q - 1) fun i => ((g ^ i % q - 1 : Nat) : Int)
theorem pm1_at (q g k : Nat) (h : k < q - 1) : (pm1 q g).getD k 0 = ((g ^ k % q - 1 : Nat) : Int) := tab_at (q - 1) (fun i => ((g ^ i % q - 1 : Nat) : Int)) k h
theorem pm1_right {q g : Nat} (hq : isP q) (h : IsMk q g) : rgt (pm1 q g) (q - 1) (q - 1) = true := by
  have q0 := hq.1
  apply rgt_of
  · intro j hj
    rw [pm1_at q g j hj]
    have := Nat.mod_lt (g ^ j) (show 0 < q by omega)
    have := (pow_pos hq h.one h.lt j).1
    omega
  · intro i j hij hj e
    rw [pm1_at q g j hj, pm1_at q g i (by omega)] at e
    have a := (pow_pos hq h.one h.lt i).1
    have b := (pow_pos hq h.one h.lt j).1
    have := Nat.le_of_dvd (by omega) (pow_same hq h (Nat.le_of_lt hij) (by omega))
    omega
theorem log_ex {q g : Nat} (hq : isP q) (h : IsMk q g) {a : Nat} (h1 : 1 ≤ a) (h2 : a < q) : ∃ k, k < q - 1 ∧ g ^ k % q = a ∧ (inverl (pm1 q g) (q - 1)).getD (a - 1) 0 = (k : Int) := by
  obtain ⟨k, hk, e1, e2⟩ := inv_exg (v := a - 1) (pm1_right hq h) (by omega)
  rw [pm1_at q g k hk] at e1
  have := (pow_pos hq h.one h.lt k).1
  exact ⟨k, hk, by omega, by rw [inverl_atg _ _ _ (by omega), e2]⟩
end Go.Proofs.YtbhnlfgccldmaaaGreat
