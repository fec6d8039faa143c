/- Package perm: After, Apply: the generic move. -/
import Derived.Test.YtblohakflpedoaaPerm
import Derived.Test.YtblohakflpedoaaVecc
import Derived.Test.YtblohakflpedoaaBut
namespace Go.Proofs.Ytblohakflpedoaa
open Go.ChangeShapes Go.WideShapes Go.ChangeAt Go.RowKit
set_option linter.unusedVariables false
def movel (ps xs : List Int) (n : Nat) : List Int := tab n fun i => xs.getD (ps.getD i 0).toNat 0
theorem movel_len (ps xs : List Int) (n : Nat) : (movel ps xs n).length = n := tab_len _ _
theorem movel_at (ps xs : List Int) (n k : Nat) (hk : k < n) : (movel ps xs n).getD k 0 = xs.getD (ps.getD k 0).toNat 0 := tab_at _ _ _ hk
theorem movel_wf {ps xs : List Int} {n : Nat} {t : IntKind} (hw : ∀ x ∈ xs, (Lit.int t x).wf = true) (hin : ∀ k, k < n → 0 ≤ ps.getD k 0 ∧ ps.getD k 0 < n) (hl : xs.length = n) : ∀ z ∈ movel ps xs n, (Lit.int t z).wf = true := by
  intro z hz
  unfold movel tab at hz
  obtain ⟨k, hk, rfl⟩ := List.mem_map.1 hz
  have hk : k < n := by simpa using hk
  obtain ⟨h0, h1⟩ := hin k hk
  have hv : (ps.getD k 0).toNat < xs.length := by omega
  have e : xs.getD (ps.getD k 0).toNat 0 = xs[(ps.getD k 0).toNat]'hv := by rw [List.getD, List.getElem?_eq_getElem hv]; rfl
  show (Lit.int t (xs.getD (ps.getD k 0).toNat 0)).wf = true
  rw [e]; exact hw _ (List.getElem_mem _)
set_option maxRecDepth 100000 in
theorem perm_movei (p q : Option Addr) (n c d : Nat) (ps xs : List Int) (W : World) (hp : RowI W p n ps) (hq : RowI W q n xs) (hin : ∀ k, k < n → 0 ≤ ps.getD k 0 ∧ ps.getD k 0 < n) :
    Calls Try.prog 15 #[.slice p n c, .slice q n d] W (GivesIOk W n (movel ps xs n)) := by
  have hs := hp.small
  have hmk := make_i64 n (by omega)
  have MA := Lib.hid (fun k hk => movel_at ps xs n k hk)
  have ML := Lib.hid (movel_len ps xs n)
  have MW := Lib.hid (movel_wf hq.wf hin hq.len)
  have HX := Lib.hid hp
  have HY := Lib.hid hq
  have HIN := Lib.hid hin
  have F0 := Lib.hid (FillingI.start W 3 (movel ps xs n) n)
  have hB0 := (Below.refl W.heap.size W).alloc (Nat.le_refl _) (.cells (Array.replicate n (.int .i64 0)) 3)
  clear hp hq hin
  generalize movel ps xs n = ys at *
  go_enter Try.func15, Try.ntmps15
  go_wp2_with fail
  generalize W.alloc (.cells (Array.replicate n (.int .i64 0)) 3) = w1 at *
  go_loopw [19] (fun i wr => ∃ k : Nat, k ≤ n ∧ i = .int .i64 k ∧ Hid (FillingI wr W.heap.size 3 ys k n) ∧ Below W.heap.size W wr) (fun i _ => n - (intOf i).toNat)
  case atStart => exact ⟨0, Nat.zero_le _, rfl, F0, hB0⟩
  case round =>
    clear F0 hB0
    obtain ⟨k, hk, rfl, HF, hB⟩ := hrel
    have hsz := HF.out.lt
    by_cases hlt : k < n
    · obtain ⟨b, off, rfl, hb, hc0, x0, x1⟩ := HX.out.cell hlt
      have hc : wr.cell? ⟨b, off + k, none⟩ = some (.int .i64 (ps.getD k 0)) := (hB.cell (p := ⟨b, off + k, none⟩) hb).trans hc0
      obtain ⟨g0, g1⟩ := HIN.out k hlt
      have MA1 := MA.out k hlt
      clear hc0
      obtain ⟨x, hx⟩ : ∃ x, ps.getD k 0 = x := ⟨_, rfl⟩
      rw [hx] at hc x0 x1 g0 g1 MA1
      obtain ⟨v, rfl⟩ : ∃ v : Nat, x = v := ⟨x.toNat, by omega⟩
      rw [Int.toNat_natCast] at MA1
      have hv : v < n := by omega
      obtain ⟨b2, off2, rfl, hb2, hd0, y0, y1⟩ := HY.out.cell hv
      have hd : wr.cell? ⟨b2, off2 + v, none⟩ = some (.int .i64 (xs.getD v 0)) := (hB.cell (p := ⟨b2, off2 + v, none⟩) hb2).trans hd0
      have hst := Lib.hid (HF.out.step hlt ML.out MA1)
      obtain ⟨u, hu⟩ := HF.out.cell hlt ML.out
      have hfr := HF.out.free k
      clear hx hd0 MA1
      generalize xs.getD v 0 = y at *
      go_wp2_with fail
      go_roundw
      case rel => exact ⟨k + 1, by omega, by go_num, hst, hB.setCell (Nat.le_refl _) _⟩
      case measure => (first | (simp [intOf]; done) | (simp [intOf]; omega) | (simp only [intOf]; omega))
    · obtain rfl : k = n := by omega
      go_wp2_with fail
      go_ret2
      exact ⟨_, _, rfl, RowI.of_at (HF.out.done ML.out) MW.out ML.out hs, hB⟩
theorem perm_moveino (p q : Option Addr) (n m c d : Nat) (W : World) (hn : n ≤ 17592186044415) (hm : m ≤ 17592186044415) (h : n ≠ m) :
    Calls Try.prog 15 #[.slice p n c, .slice q m d] W fun e w' => e = .returned (.tuple #[.slice none 0 0, .int .i64 5]) ∧ W = w' := by
  have hd : ((n : Int) != (m : Int)) = true := by simp; omega
  have hd2 : (n != m) = true := by simp; omega
  go_enter Try.func15, Try.ntmps15
  go_wp2_with fail
  go_ret2
  exact ⟨rfl, rfl⟩
/-- What an answer of After is: an order, or why there is none. -/
def AftOk (w : World) (a : Option Addr) (l : Nat) (z : Int) (n m : Nat) (ps qs : List Int) : Prop :=
  (rgt qs m m = false ∧ l = 0 ∧ z = 2) ∨ (rgt qs m m = true ∧ n ≠ m ∧ l = 0 ∧ z = 5) ∨ (rgt qs m m = true ∧ n = m ∧ l = n ∧ z = 0 ∧ RowI w a n (movel qs ps n))
theorem AftOk.below {w w' : World} {a : Option Addr} {l n m : Nat} {z : Int} {ps qs : List Int} (h : AftOk w a l z n m ps qs) (hb : Below w.heap.size w w') : AftOk w' a l z n m ps qs := by
  rcases h with h | h | ⟨h1, h2, h3, h4, h5⟩
  · exact .inl h
  · exact .inr (.inl h)
  · exact .inr (.inr ⟨h1, h2, h3, h4, h5.below hb⟩)
def AppOk (w : World) (a : Option Addr) (l : Nat) (z : Int) (n m : Nat) (ps xs : List Int) : Prop :=
  (n ≠ m ∧ l = 0 ∧ z = 5) ∨ (n = m ∧ l = n ∧ z = 0 ∧ Row w a n (movel ps xs n))
theorem AppOk.below {w w' : World} {a : Option Addr} {l n m : Nat} {z : Int} {ps xs : List Int} (h : AppOk w a l z n m ps xs) (hb : Below w.heap.size w w') : AppOk w' a l z n m ps xs := by
  rcases h with h | ⟨h1, h2, h3, h4⟩
  · exact .inl h
  · exact .inr ⟨h1, h2, h3, h4.below hb⟩
theorem perm_afterno (p q : Option Addr) (n m c d : Nat) (ps : List Int) (W : World) (hr : RowI W p n ps) (hg : rgt ps n n = false) :
    Calls Try.prog 9 #[.slice p n c, .slice q m d] W fun e w' => e = .returned (.tuple #[.slice none 0 0, .int .i64 2]) ∧ Below W.heap.size W w' := by
  have RT := perm_right p n c ps W hr
  rw [hg] at RT
  have RT := Lib.hid RT
  clear hr hg
  go_enter Try.func9, Try.ntmps9
  go_wp2_with fail
  refine RT.out.mono ?_
  rintro e w1 ⟨rfl, b1⟩
  go_wp2_with fail
  go_ret2
  exact ⟨rfl, b1⟩
theorem perm_after (p q : Option Addr) (n m c d : Nat) (ps qs : List Int) (W : World) (hp : RowI W p n ps) (hq : RowI W q m qs) (hg : rgt ps n n = true) :
    Calls Try.prog 9 #[.slice p n c, .slice q m d] W fun e w' => ∃ a l c z, e = .returned (.tuple #[.slice a l c, .int .i64 z]) ∧ AftOk w' a l z n m ps qs ∧ Below W.heap.size W w' := by
  have RT := perm_right p n c ps W hp
  rw [hg] at RT
  have RT := Lib.hid RT
  have R1 := Lib.hid hp
  have R2 := Lib.hid hq
  have hs1 := hp.small
  have hs2 := hq.small
  have RQ := fun w h => perm_right q m d qs w h
  have hB : Below W.heap.size W W := Below.refl _ _
  cases hh : rgt qs m m with
  | false =>
    rw [hh] at RQ
    have RQ := Lib.hid RQ
    have HH := Lib.hid hh
    clear hp hq hg hh
    go_enter Try.func9, Try.ntmps9
    go_wp2_with fail
    refine RT.out.mono ?_
    rintro e w1 ⟨rfl, b1⟩
    have R1 := Lib.hid (R1.out.below b1); have R2 := Lib.hid (R2.out.below b1); have hB := hB.trans (b1.mono hB.size); clear b1
    go_wp2_with fail
    refine (RQ.out _ R2.out).mono ?_
    rintro e w1 ⟨rfl, b1⟩
    have hB := hB.trans (b1.mono hB.size); clear b1
    go_wp2_with fail
    go_ret2
    exact ⟨_, _, _, _, rfl, .inl ⟨HH.out, rfl, rfl⟩, hB⟩
  | true =>
    rw [hh] at RQ
    have RQ := Lib.hid RQ
    have HH := Lib.hid hh
    have HIN := Lib.hid (rgt_in hh)
    clear hp hq hg hh
    by_cases e : n = m
    · subst e
      have MV := Lib.hid (fun w (h1 : RowI w p n ps) (h2 : RowI w q n qs) => perm_movei q p n d c qs ps w h2 h1 HIN.out)
      go_enter Try.func9, Try.ntmps9
      go_wp2_with fail
      refine RT.out.mono ?_
      rintro e w1 ⟨rfl, b1⟩
      have R1 := Lib.hid (R1.out.below b1); have R2 := Lib.hid (R2.out.below b1); have hB := hB.trans (b1.mono hB.size); clear b1
      go_wp2_with fail
      refine (RQ.out _ R2.out).mono ?_
      rintro e w1 ⟨rfl, b1⟩
      have R1 := Lib.hid (R1.out.below b1); have R2 := Lib.hid (R2.out.below b1); have hB := hB.trans (b1.mono hB.size); clear b1
      go_wp2_with fail
      refine (MV.out _ R1.out R2.out).mono ?_
      rintro e w1 ⟨p3, k3, rfl, h, b1⟩
      have R3 := Lib.hid h; clear h
      have hB := hB.trans (b1.mono hB.size); clear b1
      go_wp2_with fail
      go_ret2
      exact ⟨_, _, _, _, rfl, .inr (.inr ⟨HH.out, rfl, rfl, rfl, R3.out⟩), hB⟩
    · have MV := Lib.hid (fun w => perm_moveino q p m n d c w hs2 hs1 (fun h => e h.symm))
      go_enter Try.func9, Try.ntmps9
      go_wp2_with fail
      refine RT.out.mono ?_
      rintro e w1 ⟨rfl, b1⟩
      have R1 := Lib.hid (R1.out.below b1); have R2 := Lib.hid (R2.out.below b1); have hB := hB.trans (b1.mono hB.size); clear b1
      go_wp2_with fail
      refine (RQ.out _ R2.out).mono ?_
      rintro e w1 ⟨rfl, b1⟩
      have hB := hB.trans (b1.mono hB.size); clear b1
      go_wp2_with fail
      refine (MV.out _).mono ?_
      rintro e w1 ⟨rfl, rfl⟩
      go_wp2_with fail
      go_ret2
      exact ⟨_, _, _, _, rfl, .inr (.inl ⟨HH.out, by assumption, rfl, rfl⟩), hB⟩
end Go.Proofs.Ytblohakflpedoaa
