/- PermRounds: its numbers. -/
import Derived.Test.YtblohakflpedoaaCyz
import Derived.Test.YtblohakflpedoaaPerm8
namespace Go.Proofs.Ytblohakflpedoaa
open Go.ChangeShapes Go.WideShapes Go.ChangeAt Go.RowKit
set_option linter.unusedVariables false
set_option linter.unusedSimpArgs false
def pfN (ps : List Int) (x : Nat) : Nat := (ps.getD x 0).toNat
theorem pfN_at {p : Option Addr} {n : Nat} {ps : List Int} {W : World} (hr : RowI W p n ps) (hg : rgt ps n n = true) : ∀ x, x < n → ps[x]? = some (pfN ps x : Int) := by
  intro x hx
  have h := (rgt_in hg x hx).1
  have hl := hr.len
  have e : ps[x]? = some (ps.getD x 0) := by rw [List.getD_eq_getElem?_getD, List.getElem?_eq_getElem (by omega)]; rfl
  rw [e]; unfold pfN
  congr 1; omega
theorem pfN_getD {n : Nat} {ps : List Int} (hg : rgt ps n n = true) : ∀ x, x < n → ps.getD x 0 = (pfN ps x : Int) := by
  intro x hx
  have h := (rgt_in hg x hx).1
  unfold pfN; omega
theorem pfN_lt {n : Nat} {ps : List Int} (hg : rgt ps n n = true) : ∀ x, x < n → pfN ps x < n := by
  intro x hx
  have h := rgt_in hg x hx
  unfold pfN; omega
theorem apt_of {n : Nat} {ps : List Int} (hg : rgt ps n n = true) : apt (fun i => ps.getD i 0) n := fun i j hij hj => rgt_apart hg i j hij hj
theorem pfN_inj {n : Nat} {ps : List Int} (hg : rgt ps n n = true) : ∀ x y, x < n → y < n → pfN ps x = pfN ps y → x = y := by
  intro x y hx hy e
  have h1 := pfN_getD hg x hx
  have h2 := pfN_getD hg y hy
  by_cases hn : x = y
  · exact hn
  · exact absurd (by show ps.getD x 0 = ps.getD y 0; rw [h1, h2, e]) ((apt_of hg).ne hx hy hn)
theorem mov_right {n : Nat} {ps qs : List Int} (hp : rgt ps n n = true) (hq : rgt qs n n = true) : rgt (movel qs ps n) n n = true := by
  apply rgt_of
  · intro j hj
    have h := rgt_in hq j hj
    rw [movel_at _ _ _ _ hj]
    exact rgt_in hp _ (by omega)
  · intro i j hij hj
    rw [movel_at _ _ _ _ hj, movel_at _ _ _ _ (by omega)]
    have h1 := rgt_in hq i (by omega)
    have h2 := rgt_in hq j hj
    have h3 := rgt_apart hq i j hij hj
    exact (apt_of hp).ne (by omega) (by omega) (by omega)
/-- The sign of an order. -/
def sgnI (ps : List Int) (n : Nat) : Int := 1 - 2 * ((invs (fun i => ps.getD i 0) n % 2 : Nat) : Int)
theorem sgnI_two (ps : List Int) (n : Nat) : sgnI ps n = 1 ∨ sgnI ps n = -1 := by unfold sgnI; omega
theorem sgnI_mul {n : Nat} {ps qs : List Int} (hp : rgt ps n n = true) (hq : rgt qs n n = true) : sgnI (movel qs ps n) n = sgnI ps n * sgnI qs n := by
  have h := invs_mul (n := n) (p := fun i => ps.getD i 0) (q := fun i => qs.getD i 0) (apt_of hq) (fun v hv => by
    obtain ⟨k, hk, e, -⟩ := inv_ex hq hv
    exact ⟨k, hk, e⟩) (fun z => ps.getD z.toNat 0) (fun i hi => by simp) (fun i j hij hj => by
      have h : (movel qs ps n).getD i 0 ≠ (movel qs ps n).getD j 0 := apt_of (mov_right hp hq) i j hij hj
      rwa [movel_at _ _ _ _ hj, movel_at _ _ _ _ (Nat.lt_trans hij hj)] at h)
  have e : invs (fun i => (movel qs ps n).getD i 0) n = invs (fun i => ps.getD (qs.getD i 0).toNat 0) n := invs_congr n (fun x hx => movel_at _ _ _ _ hx)
  unfold sgnI
  rw [e]
  have h' : invs (fun i => ps.getD (qs.getD i 0).toNat 0) n % 2 = (invs (fun i => ps.getD i 0) n + invs (fun i => qs.getD i 0) n) % 2 := h
  generalize invs (fun i => ps.getD (qs.getD i 0).toNat 0) n = a at *
  generalize invs (fun i => ps.getD i 0) n = b at *
  generalize invs (fun i => qs.getD i 0) n = c at *
  have hb : b % 2 = 0 ∨ b % 2 = 1 := by omega
  have hc : c % 2 = 0 ∨ c % 2 = 1 := by omega
  rcases hb with hb | hb <;> rcases hc with hc | hc
  · rw [hb, hc, show a % 2 = 0 by omega]; decide
  · rw [hb, hc, show a % 2 = 1 by omega]; decide
  · rw [hb, hc, show a % 2 = 1 by omega]; decide
  · rw [hb, hc, show a % 2 = 0 by omega]; decide
theorem s_sign (p : Option Addr) (n c : Nat) (ps : List Int) (W : World) (hr : RowI W p n ps) (hn : n ≤ 1000) (hg : rgt ps n n = true) :
    Calls Try.prog 7 #[.slice p n c] W fun e w' => e = .returned (.int .i64 (sgnI ps n)) ∧ Below W.heap.size W w' := by
  refine (c_sign p n c ps W hr hn hg (pfN ps) (pfN_at hr hg) (pfN_lt hg) (pfN_inj hg)).mono ?_
  rintro e w1 ⟨rfl, b⟩
  refine ⟨?_, b⟩
  unfold sgnI
  rw [invs_congr n (fun x hx => (pfN_getD hg x hx).symm)]
/-- How often each place was seen. -/
structure Seen (n : Nat) (L : List Nat) (cv : List Int) : Prop where
  len : cv.length = n
  at' : ∀ x, x < n → cv.getD x 0 = if x ∈ L then 1 else 0
theorem Seen.start (n : Nat) : Seen n [] (List.replicate n 0) := ⟨by simp, fun x hx => by simp [List.getD_eq_getElem?_getD, hx]⟩
theorem Seen.add {n : Nat} {L : List Nat} {cv : List Int} (h : Seen n L cv) {x : Nat} (hx : x < n) : Seen n (L ++ [x]) (cv.set x 1) :=
  ⟨by rw [List.length_set]; exact h.len, fun y hy => by
    have hl := h.len
    by_cases e : x = y
    · subst e
      rw [List.getD_eq_getElem?_getD, List.getElem?_set_self (by omega), if_pos (by simp)]; rfl
    · rw [List.getD_eq_getElem?_getD, List.getElem?_set_ne e, ← List.getD_eq_getElem?_getD, h.at' y hy]
      by_cases hm : y ∈ L
      · rw [if_pos hm, if_pos (List.mem_append_left _ hm)]
      · rw [if_neg hm, if_neg (fun h => (List.mem_append.1 h).elim hm (fun h => e (List.mem_singleton.1 h).symm))]⟩
/-- The least place of the round ahead. -/
def lstN (ls : List (List Nat)) : Nat → Int
  | 0 => -1
  | a + 1 => (((ls.getD a []).getD 0 0 : Nat) : Int)
theorem lst_lt {p : Nat → Nat} {n i : Nat} {ls : List (List Nat)} (h : Rds p n i ls) {a : Nat} {r : List Nat} (hr : ls[a]? = some r) : lstN ls a < ((r.getD 0 0 : Nat) : Int) := by
  cases a with
  | zero => show (-1 : Int) < _; omega
  | succ a =>
    have la := (List.getElem?_eq_some_iff.1 hr).1
    obtain ⟨q, hq⟩ : ∃ q, ls[a]? = some q := ⟨_, List.getElem?_eq_getElem (by omega)⟩
    have := h.up a q r hq hr
    show (((ls.getD a []).getD 0 0 : Nat) : Int) < _
    rw [show ls.getD a [] = q by rw [List.getD_eq_getElem?_getD, hq]; rfl]
    omega
theorem lst_next {ls : List (List Nat)} {a : Nat} {r : List Nat} (hr : ls[a]? = some r) : lstN ls (a + 1) = ((r.getD 0 0 : Nat) : Int) := by
  show (((ls.getD a []).getD 0 0 : Nat) : Int) = _
  rw [show ls.getD a [] = r by rw [List.getD_eq_getElem?_getD, hr]; rfl]
/-- One step of a round. -/
theorem rds_step {p : Nat → Nat} {n : Nat} {ls : List (List Nat)} (h : Rds p n n ls) {a : Nat} {r : List Nat} (hr : ls[a]? = some r) {k : Nat} (hk : k < r.length) :
    ∃ x, r[k]? = some x ∧ x < n ∧ r.getD 0 0 ≤ x ∧ r[(k + 1) % r.length]? = some (p x) ∧ x ∉ (ls.take a).flatten ++ r.take k := by
  obtain ⟨x, hx⟩ : ∃ x, r[k]? = some x := ⟨_, List.getElem?_eq_getElem hk⟩
  have hrm := List.mem_of_getElem? hr
  have hxm := List.mem_of_getElem? hx
  have hm : (k + 1) % r.length < r.length := Nat.mod_lt _ (by omega)
  obtain ⟨y, hy⟩ : ∃ y, r[(k + 1) % r.length]? = some y := ⟨_, List.getElem?_eq_getElem hm⟩
  have e := h.go r hrm k x y hx hy
  refine ⟨x, hx, h.lt x (List.mem_flatten.2 ⟨r, hrm, hxm⟩), h.hd r hrm x hxm, by rw [e]; exact hy, ?_⟩
  have ht : ls.take (a + 1) = ls.take a ++ [r] := by rw [List.take_add_one, hr]; rfl
  have hfl : (ls.take (a + 1)).flatten = (ls.take a).flatten ++ r := by rw [ht]; simp
  have hnd : ((ls.take a).flatten ++ r).Nodup := by
    rw [← hfl]
    have e : ls.flatten = (ls.take (a + 1)).flatten ++ (ls.drop (a + 1)).flatten := by rw [← List.flatten_append, List.take_append_drop]
    have := h.nd
    rw [e, List.nodup_append] at this
    exact this.1
  rw [List.nodup_append] at hnd
  intro hin
  rcases List.mem_append.1 hin with h1 | h1
  · exact hnd.2.2 x h1 x hxm rfl
  · obtain ⟨j, hj⟩ := List.mem_iff_getElem?.1 h1
    have lj := (List.getElem?_eq_some_iff.1 hj).1
    rw [List.length_take] at lj
    rw [List.getElem?_take, if_pos (by omega)] at hj
    have := nodup_at9 hnd.2.1 hj hx
    omega
theorem take_step {r : List Nat} {k x : Nat} (hx : r[k]? = some x) (L : List Nat) : L ++ r.take (k + 1) = (L ++ r.take k) ++ [x] := by
  rw [List.take_add_one, hx, List.append_assoc]; rfl
theorem take_end {ls : List (List Nat)} {a : Nat} {r : List Nat} (hr : ls[a]? = some r) : (ls.take (a + 1)).flatten = (ls.take a).flatten ++ r := by
  rw [List.take_add_one, hr]; simp
/-- A round's row in memory. -/
theorem own_ints {w : World} {b : Nat} {v : Value} {r : List Nat} (h : Owns w b 3 .i64 v (ints' r)) (hne : r ≠ []) :
    ∃ g cap, v = .slice (some ⟨g, 0, none⟩) r.length cap ∧ g < w.heap.size ∧ ∀ (k x : Nat), r[k]? = some x → w.cell? ⟨g, k, none⟩ = some (.int .i64 (x : Int)) := by
  have hl : ((ints' r).map (Value.int .i64)).length = r.length := by unfold ints'; simp
  have hl2 : (ints' r).length = ((ints' r).map (Value.int .i64)).length := by simp
  have ho : w.ownsRow b 3 1 v ((ints' r).map (Value.int .i64)).length ((ints' r).map (Value.int .i64)) := by
    have h2 : w.ownsRow b 3 1 v (ints' r).length ((ints' r).map (Value.int .i64)) := h
    rwa [hl2] at h2
  obtain ⟨q, cap, hv, hq⟩ := own_cellX ho
  have at' : ∀ (k x : Nat), r[k]? = some x → ((ints' r).map (Value.int .i64))[k]? = some (Value.int .i64 (x : Int)) := fun k x hx => by
    unfold ints'; rw [List.getElem?_map, List.getElem?_map, hx]; rfl
  have hp := List.length_pos_iff.2 hne
  obtain ⟨x0, hx0⟩ : ∃ x, r[0]? = some x := ⟨_, List.getElem?_eq_getElem hp⟩
  obtain ⟨g, hg, hgl, -⟩ := hq 0 _ (at' 0 x0 hx0)
  refine ⟨g, cap, by rw [hv, hl, hg], hgl, fun k x hx => ?_⟩
  obtain ⟨g2, hg2, -, hc⟩ := hq k _ (at' k x hx)
  rw [hg] at hg2
  cases hg2
  exact hc
theorem rnd_rem (k l : Nat) : ((k : Int) + 1).tmod (l : Int) = (((k + 1) % l : Nat) : Int) := by
  rw [show ((k : Int) + 1) = ((k + 1 : Nat) : Int) by omega, ← Int.ofNat_tmod]
theorem rnd_rem' (k l : Nat) : ((k : Int) + 1) % (l : Int) = (((k + 1) % l : Nat) : Int) := by
  rw [show ((k : Int) + 1) = ((k + 1 : Nat) : Int) by omega]; rfl
end Go.Proofs.Ytblohakflpedoaa
