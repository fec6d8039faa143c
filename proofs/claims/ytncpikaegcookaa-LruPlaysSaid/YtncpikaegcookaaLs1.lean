/- The reference of layer 32: Is, place, Peek. -/
import Derived.Test.YtncpikaegcookaaLru
import Derived.Test.YtncpikaegcookaaOwni
namespace Go.Proofs.Ytncpikaegcookaa
open Go.ChangeShapes Go.WideShapes Go.ChangeAt Go.RowKit
set_option linter.unusedVariables false
set_option linter.unusedSimpArgs false
theorem r32_is (r : Int) (W : World) : Calls Try.prog 8 #[.int .i64 r] W fun e w' => e = .returned (.bool (decide (1 ≤ r ∧ r ≤ 64))) ∧ w' = W := by
  by_cases h1 : 1 ≤ r
  · by_cases h2 : r ≤ 64
    · have hd : decide (1 ≤ r ∧ r ≤ 64) = true := by simp [h1, h2]
      rw [hd]
      clear hd
      go_enter Try.func8, Try.ntmps8
      go_wp2
      go_ret
      exact ⟨rfl, rfl⟩
    · have hd : decide (1 ≤ r ∧ r ≤ 64) = false := by simp [h2]
      rw [hd]
      clear hd
      go_enter Try.func8, Try.ntmps8
      go_wp2
      go_ret
      exact ⟨rfl, rfl⟩
  · have hd : decide (1 ≤ r ∧ r ≤ 64) = false := by simp [h1]
    rw [hd]
    clear hd
    go_enter Try.func8, Try.ntmps8
    go_wp2
    go_ret
    exact ⟨rfl, rfl⟩
def lrv (room : Int) (n : Nat) (pk : Option Addr) (ck : Nat) (pv : Option Addr) (cv : Nat) : Value := .agg #[.int .i64 room, .slice pk n ck, .slice pv n cv]
structure LR (w : World) (s : List (Int × Int)) (pk : Option Addr) (ck : Nat) (pv : Option Addr) (cv : Nat) : Prop where
  k : Reads .i64 w pk (s.map Prod.fst)
  v : Reads .i64 w pv (s.map Prod.snd)
  ck : s.length ≤ ck ∧ ck ≤ maxLen
  cv : s.length ≤ cv ∧ cv ≤ maxLen
  n : s.length ≤ 70
theorem LR.below {w w' : World} {s : List (Int × Int)} {pk : Option Addr} {ck : Nat} {pv : Option Addr} {cv : Nat} (h : LR w s pk ck pv cv) (hb : Below w.heap.size w w') : LR w' s pk ck pv cv := ⟨readsI_below h.k hb, readsI_below h.v hb, h.ck, h.cv, h.n⟩
/-- A row's cell. -/
theorem reads_at {w : World} {p : Option Addr} {xs : List Int} {i : Nat} {x : Int} (h : Reads .i64 w p xs) (hi : xs[i]? = some x) : ∃ b o, p = some ⟨b, o, none⟩ ∧ b < w.heap.size ∧ w.cell? ⟨b, o + i, none⟩ = some (.int .i64 x) := by
  have hl := (List.getElem?_eq_some_iff.1 hi).1
  rcases h with h | ⟨b, o, rfl, hb, hc⟩
  · subst h; simp at hi
  · refine ⟨b, o, rfl, hb, ?_⟩
    have := hc i hl
    rw [List.getD_eq_getElem?_getD, hi] at this
    exact this
def plN (s : List (Int × Int)) (k : Int) : Int := match vidx s k with | some j => (j : Int) | none => -1
theorem vidx_first : ∀ {s : List (Int × Int)} {k : Int} {j : Nat}, vidx s k = some j → ∀ m, m < j → ∀ q, s[m]? = some q → q.1 ≠ k
  | [], k, j, h => by cases h
  | p :: s, k, j, h => by
    rw [vidx] at h
    by_cases hp : p.1 = k
    · rw [if_pos hp] at h
      cases h
      exact fun m hm => by omega
    · rw [if_neg hp] at h
      obtain ⟨i, hi, rfl⟩ := Option.map_eq_some_iff.1 h
      intro m hm q hq
      cases m with
      | zero => simp at hq; subst hq; exact hp
      | succ m => rw [List.getElem?_cons_succ] at hq; exact vidx_first hi m (by omega) q hq
theorem vidx_lt {s : List (Int × Int)} {k : Int} {j : Nat} (h : vidx s k = some j) : j < s.length := by
  obtain ⟨p, hp, -⟩ := vidx_some h
  exact (List.getElem?_eq_some_iff.1 hp).1
set_option maxRecDepth 100000 in
set_option maxHeartbeats 8000000 in
theorem r32_place (room : Int) (s : List (Int × Int)) (pk : Option Addr) (ck : Nat) (pv : Option Addr) (cv : Nat) (k : Int) (W : World) (h : LR W s pk ck pv cv) :
    Calls Try.prog 26 #[lrv room s.length pk ck pv cv, .int .i64 k] W fun e w' => e = .returned (.int .i64 (plN s k)) ∧ Below W.heap.size W w' := by
  have H := Lib.hid h
  clear h
  unfold lrv
  go_enter Try.func26, Try.ntmps26
  go_upto_region 1 with fail
  obtain ⟨x0, hx0⟩ : ∃ x0, x0 = W.alloc (.cells #[.int .i64 room, .slice pk s.length ck, .slice pv s.length cv] 32) := ⟨_, rfl⟩
  have HW := Lib.hid (show Below W.heap.size W x0 by rw [hx0]; exact (Below.refl _ _).alloc (Nat.le_refl _) _)
  have hsz : W.heap.size < x0.heap.size := by rw [hx0]; simp
  have HK := Lib.hid (show ∀ u, Below x0.heap.size x0 u → u.cell? ⟨W.heap.size, 1, none⟩ = some (.slice pk s.length ck) from fun u hu => (hu.cell (p := ⟨W.heap.size, 1, none⟩) hsz).trans (by rw [hx0]; exact cell_of_row _ _ _ _ _ _ (heap_alloc_new W _)))
  have HH := Lib.hid (show ∀ u, Below x0.heap.size x0 u → Reads .i64 u pk (s.map Prod.fst) from fun u hu => readsI_below (readsI_below H.out.k HW.out) hu)
  have HSZ := Lib.hid hsz
  have HN := Lib.hid H.out.n
  rw [← hx0]
  clear hx0 hsz
  go_wp2_with fail
  go_loopw [5] (fun x wr => ∃ i : Nat, x = .int .i64 i ∧ Hid (i ≤ s.length) ∧ Hid (∀ m, m < i → ∀ q, s[m]? = some q → q.1 ≠ k) ∧ Hid (Below x0.heap.size x0 wr)) (fun x _ => s.length - (intOf x).toNat)
  case atStart => exact ⟨0, rfl, Lib.hid (Nat.zero_le _), Lib.hid (fun m hm => by omega), Lib.hid (Below.refl _ _)⟩
  case round =>
    obtain ⟨i, rfl, HI, HNO, HB⟩ := hrel
    have hW : W.heap.size < wr.heap.size := by have := HSZ.out; have := HB.out.size; omega
    have hck := HK.out wr HB.out
    by_cases hi : i < s.length
    · obtain ⟨p, hp⟩ : ∃ p, s[i]? = some p := ⟨_, List.getElem?_eq_getElem hi⟩
      obtain ⟨b, o, rfl, hb, hc⟩ := reads_at (x := p.1) (HH.out wr HB.out) (by rw [List.getElem?_map, hp]; rfl)
      have hii : (i : Int) < (s.length : Int) := by omega
      have WR := Lib.hid (show wrap64 ((i : Int) + 1) = ((i + 1 : Nat) : Int) by have := HN.out; simp only [wrap64]; omega)
      obtain ⟨y, hy⟩ : ∃ y, p.1 = y := ⟨_, rfl⟩
      have HP := Lib.hid hp
      have HY := Lib.hid hy
      rw [hy] at hc
      clear hp hy
      by_cases hxy : y = k
      · have hq2 : (y == k) = true := by simpa using hxy
        have HV : Hid (plN s k = (i : Int)) := Lib.hid (by
          cases hv : vidx s k with
          | none => exact absurd (HY.out.trans hxy) (vidx_none hv p (List.mem_of_getElem? HP.out))
          | some j =>
            obtain ⟨q, hq, hqk⟩ := vidx_some hv
            have h1 : ¬ j < i := fun hlt => HNO.out j hlt q hq hqk
            have h2 : ¬ i < j := fun hlt => vidx_first hv i hlt p HP.out (HY.out.trans hxy)
            unfold plN; rw [hv]
            show ((j : Nat) : Int) = i
            omega)
        clear hxy
        go_wp2_with fail
        go_ret
        exact ⟨by rw [HV.out]; rfl, HW.out.trans (HB.out.mono (Nat.le_of_lt HSZ.out))⟩
      · have hq2 : (y == k) = false := by simpa using hxy
        have HX := Lib.hid hxy
        clear hxy
        go_wp2_with fail
        go_roundw
        case rel => exact ⟨i + 1, by rw [WR.out], Lib.hid hi, Lib.hid (fun m hm q hq => by
          by_cases hmi : m = i
          · subst hmi
            rw [HP.out] at hq
            cases hq
            rw [HY.out]; exact HX.out
          · exact HNO.out m (by omega) q hq), HB⟩
        case measure => first | exact meas_step s.length i hi | (rw [WR.out]; exact meas_step' s.length i hi) | (simp; omega)
    · have hi2 : i = s.length := by have := HI.out; omega
      subst hi2
      have HV : Hid (plN s k = -1) := Lib.hid (by
        cases hv : vidx s k with
        | none => unfold plN; rw [hv]
        | some j =>
          obtain ⟨q, hq, hqk⟩ := vidx_some hv
          exact absurd hqk (HNO.out j (vidx_lt hv) q hq))
      go_wp2_with fail
      go_ret
      exact ⟨by rw [HV.out]; rfl, HW.out.trans (HB.out.mono (Nat.le_of_lt HSZ.out))⟩
set_option maxRecDepth 100000 in
set_option maxHeartbeats 8000000 in
theorem r32_peek (room : Int) (s : List (Int × Int)) (pk : Option Addr) (ck : Nat) (pv : Option Addr) (cv : Nat) (k : Int) (W : World) (h : LR W s pk ck pv cv) :
    Calls Try.prog 13 #[lrv room s.length pk ck pv cv, .int .i64 k] W fun e w' => e = .returned (.tuple #[.int .i64 (valN s k).1, .bool (valN s k).2]) ∧ Below W.heap.size W w' := by
  have H := Lib.hid h
  clear h
  unfold lrv
  go_enter Try.func13, Try.ntmps13
  go_upto_region 1 with fail
  obtain ⟨x0, hx0⟩ : ∃ x0, x0 = W.alloc (.cells #[.int .i64 room, .slice pk s.length ck, .slice pv s.length cv] 32) := ⟨_, rfl⟩
  have HW := Lib.hid (show Below W.heap.size W x0 by rw [hx0]; exact (Below.refl _ _).alloc (Nat.le_refl _) _)
  have hsz : W.heap.size < x0.heap.size := by rw [hx0]; simp
  have CP := Lib.hid (r32_place room s pk ck pv cv k x0 (H.out.below HW.out))
  unfold lrv at CP
  have hC : ∀ j v, j < 3 → (#[Value.int .i64 room, .slice pk s.length ck, .slice pv s.length cv] : Array Value)[j]? = some v → x0.cell? ⟨W.heap.size, j, none⟩ = some v := fun j v hj he => by rw [hx0]; exact (cell_of_row _ _ _ _ _ _ (heap_alloc_new W _)).trans he
  have h0 := hC 0 _ (by omega) rfl
  have h1 := hC 1 _ (by omega) rfl
  have h2 := hC 2 _ (by omega) rfl
  rw [← hx0]
  clear hx0 hC
  go_wp2_with fail
  refine (CP.out).mono ?_
  rintro e x1 ⟨rfl, hb1⟩
  have HB1 := Lib.hid (HW.out.trans (hb1.mono (Nat.le_of_lt hsz)))
  have h2' : x1.cell? ⟨W.heap.size, 2, none⟩ = some (.slice pv s.length cv) := (hb1.cell (p := ⟨W.heap.size, 2, none⟩) hsz).trans h2
  have hsz1 : W.heap.size < x1.heap.size := by have := hb1.size; omega
  have HV := Lib.hid (H.out.below HB1.out).v
  clear h0 h1 h2 hb1 hsz
  unfold plN
  cases hv : vidx s k with
  | none =>
    have HVN := Lib.hid (valN_none hv)
    clear hv
    go_wp2_with fail
    go_ret2
    exact ⟨by rw [HVN.out]; rfl, HB1.out⟩
  | some j =>
    obtain ⟨p, hp, -⟩ := vidx_some hv
    have HVN := Lib.hid (valN_some hv hp)
    have hj := vidx_lt hv
    obtain ⟨b, o, rfl, hb, hc⟩ := reads_at (x := p.2) HV.out (by rw [List.getElem?_map, hp]; rfl)
    have hj0 : (0 : Int) ≤ (j : Int) := by omega
    have hj1 : (j : Int) < (s.length : Int) := by omega
    clear hv hp
    go_wp2_with fail
    go_ret2
    exact ⟨by rw [HVN.out]; rfl, HB1.out⟩
end Go.Proofs.Ytncpikaegcookaa
