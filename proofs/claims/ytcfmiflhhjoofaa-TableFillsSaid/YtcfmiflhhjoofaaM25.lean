/- Put together by program (merge.py): Stock3 Ownm. -/
import Derived.Deep.AppendSrc
import Derived.Test.YtcfmiflhhjoofaaM11
import Derived.Test.YtcfmiflhhjoofaaM24
/- Package stock: a pass. -/
namespace Go.Proofs.Ytcfmiflhhjoofaa
open Go.ChangeShapes Go.WideShapes Go.ChangeAt Go.RowKit
set_option linter.unusedVariables false
abbrev stF (X Lb Wb : Nat) : Value := .func (.func 86) #[] #[.pointer (some ⟨X, 0, none⟩), .pointer (some ⟨Lb, 0, none⟩), .pointer (some ⟨Wb, 0, none⟩)]
def Ran (W : World) (X Lb Wb BL n : Nat) (ax aw : Option Addr) (cx cw cl : Nat) (xs ws zs : List Int) (e : Ending) (W' : World) : Prop := e = .returned (.tuple #[]) ∧ St W' X Lb Wb BL n ax aw cx cw cl xs ws zs ∧ But W W' BL
theorem but_drewN (W : World) (q B : Nat) : But W (W.drewN q) B := But.of_below B (below_drewN (Below.refl _ _) q)
set_option maxRecDepth 100000 in
set_option maxHeartbeats 4000000 in
theorem pass_run (X Lb Wb BL s h n : Nat) (ax aw : Option Addr) (cx cw cl : Nat) (xs ws zs : List Int) (W : World) (hn : 2 * s * h = n) (hs : 0 < s) (hh : 0 < h) (hsm : n ≤ 16777216) (hS : St W X Lb Wb BL n ax aw cx cw cl xs ws zs) :
    Calls Try.prog 89 #[.agg #[.int .i64 n, .int .i64 s, stF X Lb Wb]] W (Ran W X Lb Wb BL n ax aw cx cw cl xs ws (passl xs ws s n)) := by
  have hle : s ≤ n := by rw [← hn, Nat.mul_comm 2 s, Nat.mul_assoc]; exact Nat.le_mul_of_pos_right s (by omega)
  have hhl : h ≤ n := by rw [← hn]; exact Nat.le_mul_of_pos_left h (by omega)
  have hdiv : n / 2 / s = h := by rw [← hn, half_n, Nat.mul_div_cancel_left h hs]
  have BZ := hS.rl.lt
  have hW0 : (W.alloc (.cells #[.int .i64 n, .int .i64 s, stF X Lb Wb] 107)).heap[W.heap.size]? = some (.cells #[.int .i64 n, .int .i64 s, stF X Lb Wb] 107 (0, 0)) := heap_alloc_new _ _
  have p0 : (W.alloc (.cells #[.int .i64 n, .int .i64 s, stF X Lb Wb] 107)).cell? ⟨W.heap.size, 0, none⟩ = some (.int .i64 n) := by rw [cell_of_row _ _ 0 _ _ _ hW0]; rfl
  have p1 : (W.alloc (.cells #[.int .i64 n, .int .i64 s, stF X Lb Wb] 107)).cell? ⟨W.heap.size, 1, none⟩ = some (.int .i64 s) := by rw [cell_of_row _ _ 1 _ _ _ hW0]; rfl
  have HP := Lib.hid (fun w' (hb : But (W.alloc (.cells #[.int .i64 n, .int .i64 s, stF X Lb Wb] 107)) w' BL) => show w'.cell? ⟨W.heap.size, 2, none⟩ = some (stF X Lb Wb) from (World.cell?_of_block (hb.o W.heap.size (by simp) (by omega))).trans (by rw [cell_of_row _ _ 2 _ _ _ hW0]; rfl))
  have B0 := Lib.hid (But.of_below BL ((Below.refl W.heap.size W).alloc (Nat.le_refl _) (.cells #[.int .i64 n, .int .i64 s, stF X Lb Wb] 107)))
  have S0 := Lib.hid (hS.but B0.out (hS.rl.alloc _) hS.zl)
  have hnz : ((s : Int) == 0) = false := by simp; omega
  have hnz2 : ¬ ((s : Int) = 0) := by omega
  have hnz3 : ¬ (s = 0) := by omega
  have HQ := Lib.hid (show (n : Int) / 2 / (s : Int) = (h : Int) by rw [← hdiv]; rfl)
  have PS := Lib.hid hn
  have HN := Lib.hid hn
  have PZ : W.heap.size < (W.alloc (.cells #[.int .i64 n, .int .i64 s, stF X Lb Wb] 107)).heap.size := by simp
  clear hW0 hS hdiv hn
  go_enter Try.func89, Try.ntmps89
  go_wp2_with fail
  go_quiet (fail)
  go_wp2_with fail
  have HP1 := Lib.hid (fun q w' (hb : But ((W.alloc (.cells #[.int .i64 n, .int .i64 s, stF X Lb Wb] 107)).drewN q) w' BL) => HP.out w' ((but_drewN _ q BL).trans hb))
  have B1 := Lib.hid (fun q => B0.out.trans (but_drewN (W.alloc (.cells #[.int .i64 n, .int .i64 s, stF X Lb Wb] 107)) q BL))
  have S1 := Lib.hid (fun q => S0.out.but (but_drewN (W.alloc (.cells #[.int .i64 n, .int .i64 s, stF X Lb Wb] 107)) q BL) S0.out.rl S0.out.zl)
  clear HP B0 S0 p0 p1
  rw [HQ.out]
  have HP2 := Lib.hid (HP1.out nq)
  have B2 := Lib.hid (B1.out nq)
  have S2 := Lib.hid (S1.out nq)
  clear HP1 B1 S1
  replace PZ : W.heap.size < ((W.alloc (.cells #[.int .i64 n, .int .i64 s, stF X Lb Wb] 107)).drewN nq).heap.size := PZ
  generalize (W.alloc (.cells #[.int .i64 n, .int .i64 s, stF X Lb Wb] 107)).drewN nq = W1 at *
  go_loopw [15, 4, 5, 19] (fun i _ _ _ wr => ∃ (k : Nat) (zs : List Int), k ≤ h ∧ i = .int .i64 k ∧ Hid (St wr X Lb Wb BL n ax aw cx cw cl xs ws zs) ∧ Hid (Upto xs ws zs s n k 0) ∧ Hid (But W1 wr BL)) (fun i _ _ _ _ => h - (intOf i).toNat)
  case atStart => exact ⟨0, zs, Nat.zero_le _, rfl, S2, Lib.hid (upto_start _ _ _ _ _), Lib.hid (But.refl _ _)⟩
  case round =>
    clear S2
    obtain ⟨k, zs, hk, rfl, SS, UU, BB⟩ := hrel
    by_cases hlt : k < h
    · have hd : decide ((k : Int) < (h : Int)) = true := decide_eq_true (by omega)
      go_wp2_with fail
      obtain ⟨wo, rfl⟩ : ∃ wo : World, wo = wr := ⟨_, rfl⟩
      go_loopw [19, 5] (fun i _ wr => ∃ (q : Nat) (zs : List Int), q ≤ s ∧ i = .int .i64 q ∧ Hid (St wr X Lb Wb BL n ax aw cx cw cl xs ws zs) ∧ Hid (Upto xs ws zs s n k q) ∧ Hid (But W1 wr BL)) (fun i _ _ => s - (intOf i).toNat)
      case atStart => exact ⟨0, zs, Nat.zero_le _, rfl, SS, UU, BB⟩
      case round =>
        clear SS UU BB
        obtain ⟨q, zs, hq, rfl, SS, UU, BB⟩ := hrel
        by_cases hlt2 : q < s
        · obtain ⟨f1, f2, f3, f4, f5, f6, f7, f8, f9⟩ := prod_facts s h k q n HN.out hlt hlt2
          have cP := HP2.out wr BB.out
          have hz := SS.out.zl
          have IP := fun w h' => into_pair X Lb Wb BL n ax aw cx cw cl xs ws zs (q + s * k) (q + s * (k + h)) (q + s * 2 * k) (q + s * (2 * k + 1)) (k * s) w f1 f2 f3 f4 f5 (by
            intro e
            have e3 : s * 2 * k = s * (2 * k) := Nat.mul_assoc _ _ _
            rw [e3, Nat.mul_add] at e
            omega) h'
          have U2 := Lib.hid (show Upto xs ws _ s n k (q + 1) by
            have := upto_pair xs ws zs s h k q hlt2 hlt (by rw [hz, HN.out]) (by rw [HN.out]; exact UU.out)
            rw [HN.out] at this
            exact this)
          have c1 : ((q + s * k : Nat) : Int) = (q : Int) + (s : Int) * (k : Int) := by push_cast; rfl
          have c2 : ((q + s * (k + h) : Nat) : Int) = (q : Int) + (s : Int) * ((k : Int) + (h : Int)) := by push_cast; rfl
          have c3 : ((q + s * 2 * k : Nat) : Int) = (q : Int) + (s : Int) * 2 * (k : Int) := by push_cast; rfl
          have c4 : ((q + s * (2 * k + 1) : Nat) : Int) = (q : Int) + (s : Int) * (2 * (k : Int) + 1) := by push_cast; rfl
          have c5 : ((k * s : Nat) : Int) = (k : Int) * (s : Int) := by push_cast; rfl
          rw [c1, c2, c3, c4, c5] at IP
          have IP' := Lib.hid IP
          have m1 : (s : Int) * (k : Int) ≤ 16777216 := by have : ((s * k : Nat) : Int) = (s : Int) * (k : Int) := by push_cast; rfl
                                                           omega
          have m1' : 0 ≤ (s : Int) * (k : Int) := Int.mul_nonneg (by omega) (by omega)
          have m2 : (s : Int) * ((k : Int) + (h : Int)) ≤ 16777216 := by have : ((s * (k + h) : Nat) : Int) = (s : Int) * ((k : Int) + (h : Int)) := by push_cast; rfl
                                                                         omega
          have m2' : 0 ≤ (s : Int) * ((k : Int) + (h : Int)) := Int.mul_nonneg (by omega) (by omega)
          have m3 : (s : Int) * 2 * (k : Int) ≤ 16777216 := by have : ((s * 2 * k : Nat) : Int) = (s : Int) * 2 * (k : Int) := by push_cast; rfl
                                                               omega
          have m3' : 0 ≤ (s : Int) * 2 * (k : Int) := Int.mul_nonneg (by omega) (by omega)
          have m4 : (s : Int) * (2 * (k : Int) + 1) ≤ 16777216 := by have : ((s * (2 * k + 1) : Nat) : Int) = (s : Int) * (2 * (k : Int) + 1) := by push_cast; rfl
                                                                     omega
          have m4' : 0 ≤ (s : Int) * (2 * (k : Int) + 1) := Int.mul_nonneg (by omega) (by omega)
          have m5 : (k : Int) * (s : Int) ≤ 16777216 := by omega
          have m5' : 0 ≤ (k : Int) * (s : Int) := Int.mul_nonneg (by omega) (by omega)
          clear c1 c2 c3 c4 c5 IP hz
          have hd2 : decide ((q : Int) < (s : Int)) = true := decide_eq_true (by omega)
          have PZ2 : W.heap.size < wr.heap.size := Nat.lt_of_lt_of_le PZ BB.out.z
          go_wp2_with fail
          refine (IP'.out _ SS.out).mono ?_
          rintro e w1 ⟨rfl, s1, b1⟩
          have SS2 := Lib.hid s1
          have BB2 := Lib.hid (BB.out.trans b1)
          clear s1 b1 cP IP'
          go_wp2_with fail
          go_roundw
          case rel => exact ⟨q + 1, _, by omega, by go_num, SS2, U2, BB2⟩
          case measure => (first | (simp [intOf]; done) | (simp [intOf]; omega) | (simp only [intOf]; omega))
        · obtain rfl : q = s := by omega
          have hd2 : decide ((q : Int) < (q : Int)) = false := decide_eq_false (by omega)
          have U2 := Lib.hid (upto_next _ _ _ _ _ _ UU.out hs)
          go_wp2_with fail
          go_roundw
          case rel => exact ⟨k + 1, zs, by omega, by go_num, SS, U2, BB⟩
          case measure => (first | (simp [intOf]; done) | (simp [intOf]; omega) | (simp only [intOf]; omega))
    · obtain rfl : k = h := by omega
      have hd : decide ((k : Int) < (k : Int)) = false := decide_eq_false (by omega)
      have E := Lib.hid (show zs = passl xs ws s n by
        have := upto_done xs ws zs s k hs (by rw [SS.out.zl, HN.out]) (by rw [HN.out]; exact UU.out)
        rw [HN.out] at this
        exact this)
      go_wp2_with fail
      go_end0
      exact ⟨rfl, by rw [← E.out]; exact SS.out, B2.out.trans BB.out⟩
end Go.Proofs.Ytcfmiflhhjoofaa
/- 'append(l, m...)' onto a row of the call's own. -/
namespace Go.Proofs.Ytcfmiflhhjoofaa
open Go.ChangeShapes Go.WideShapes Go.ChangeAt Go.RowKit
set_option linter.unusedVariables false
theorem append_many {ops : Array Oper} {rest : List Oper} {o : Oper} {a : Act} {Q : Exit → Act → World → Prop} {W : World} {T E : TypeId} {k : IntKind} {B : Nat} {v : Value} {ys zs : List Int} {p : Option Addr} {m c : Nat}
    (hT : Try.prog.underlying T = some (.slice E)) (hI : (Try.prog.info? E).map (fun i => (i.zero, i.size, i.bytes)) = some (some (.int k 0), 1, 8)) (hgd : o.guard = none) (s x : Operand)
    (ho : o.op = .call { callee := .builtin .append, args := #[s, x], argTypes := #[T, T] }) (hs : a.eval s = v) (hown : Owns W B E k v ys) (hx : a.eval x = .slice p m c) (hm : zs.length = m) (hr : Reads k W p zs) (hB : B ≤ W.heap.size) (hlen : ys.length + m ≤ 17592186044415) (hne : 0 < m)
    (h : ∀ v' w', Owns w' B E k v' (ys ++ zs) → Below B W w' → wpList Try.prog ops Q rest (a.put o.dst v') w') : wpList Try.prog ops Q (o :: rest) a W := by
  obtain ⟨i0, hi, hz0, hz1, hz2⟩ := info_parts hI
  rcases hr with hnil | ⟨b, off, rfl, hb, hcell⟩
  · rw [hnil] at hm; simp at hm; omega
  refine wpList_append_lies _ hgd s x T ho B E i0 (.int k 0) 1 8 hT hi hz0 hz1 hz2 rfl (by decide) v ys.length (ys.map (Value.int k)) hs hown ⟨b, off, none⟩ m c (zs.map (Value.int k)) hx (by simpa using hm) ?_ ?_ hne ?_ ?_ hB _ rfl ?_
  · intro j u hj
    have hj' : j < zs.length := by
      by_cases hlt : j < zs.length
      · exact hlt
      · have : (zs.map (Value.int k))[j]? = none := by simp; omega
        rw [this] at hj; cases hj
    have e : (zs.map (Value.int k))[j]? = some (.int k (zs.getD j 0)) := by simp [List.getD, hj']
    rw [e] at hj
    cases hj
    have hadd : (⟨b, off, none⟩ : Addr).add j = ⟨b, off + j, none⟩ := by unfold Addr.add; split <;> simp_all
    rw [hadd]
    exact hcell j hj'
  · intro u hu
    obtain ⟨z, _, rfl⟩ := List.mem_map.1 hu
    rfl
  · unfold maxLen; omega
  · omega
  · intro g cap w' h1 h2 _ _
    refine h _ w' ?_ ((Below.refl _ _).grown h2 hB (fun i hi => (World.ownsRow.lt hown i hi).1))
    unfold Owns
    rw [List.length_append, hm, List.map_append]
    exact h1
theorem append_nought {ops : Array Oper} {rest : List Oper} {o : Oper} {a : Act} {Q : Exit → Act → World → Prop} {W : World} {T E : TypeId} {k : IntKind} {B : Nat} {v : Value} {ys : List Int} {p : Option Addr} {c : Nat}
    (hT : Try.prog.underlying T = some (.slice E)) (hI : (Try.prog.info? E).map (fun i => (i.zero, i.size, i.bytes)) = some (some (.int k 0), 1, 8)) (hgd : o.guard = none) (s x : Operand)
    (ho : o.op = .call { callee := .builtin .append, args := #[s, x], argTypes := #[T, T] }) (hs : a.eval s = v) (hown : Owns W B E k v ys) (hx : a.eval x = .slice p 0 c) (hne : 0 < ys.length)
    (h : wpList Try.prog ops Q rest (a.put o.dst v) W) : wpList Try.prog ops Q (o :: rest) a W := by
  obtain ⟨i0, hi, hz0, hz1, hz2⟩ := info_parts hI
  obtain ⟨q, cap, hv, hr, hcap, _⟩ := hown.shape
  rcases hr with hnil | ⟨b, off, rfl, hb, hcell⟩
  · rw [hnil] at hne; simp at hne
  have hsrc : Src Try.prog i0.size T (.slice p 0 c) 0 [] W := by
    cases p with
    | none => exact Src.ofNil W hT c
    | some ad => exact Src.ofSlice W hT ad 0 c [] (by simp) (fun j u hj => by simp at hj) (fun u hu => by cases hu)
  have hrun := run_append_room_src (P := Try.prog) W T T o.type E i0 hT hi b off ys.length cap _ 0 [] hsrc (by omega) (fun j hj => by simp at hj) (fun j hj => by simp at hj)
  have hset : W.setCells b (off + ys.length * i0.size) [] = W := rfl
  rw [hset] at hrun
  refine wpList_plain hgd fun _ hK => ?_
  unfold Oper.wp execOp
  rw [← hs] at h
  simp only [ho, resolve, invoke, builtin, Sem.run_bind, Sem.run_pure, Result.andThen_ok, List.map_toArray, List.map_cons, List.map_nil, hx]
  rw [hs, hv, hrun]
  rw [hs, hv] at h
  exact hK _ _ h

theorem getD_ext {xs ys : List Int} (hl : xs.length = ys.length) (h : ∀ i, i < xs.length → xs.getD i 0 = ys.getD i 0) : xs = ys := by
  apply List.ext_getElem hl
  intro i h1 h2
  have := h i h1
  simpa [List.getD, h1, h2] using this
theorem revrev (xs : List Int) : revl (revl xs) = redl xs := by
  apply getD_ext (by rw [revl_len, revl_len, redl_len])
  intro i hi
  rw [revl_len, revl_len] at hi
  rw [revl_at _ i (by rw [revl_len]; exact hi), redl_at xs i hi, revl_len, revl_at xs _ (back_lt _ _ hi), back_back _ _ hi, fm_fm]
theorem turn_turn (xs : List Int) (a b c : Nat) (h : (a + b) % xs.length = c) : turnl (turnl xs a) b = turnl xs c := by
  apply getD_ext (by rw [turnl_len, turnl_len, turnl_len])
  intro i hi
  rw [turnl_len, turnl_len] at hi
  rw [turnl_at _ b i (by rw [turnl_len]; exact hi), turnl_len, turnl_at xs c i hi, turnl_at xs a _ (Nat.mod_lt _ (by omega)), fm_fm]
  congr 2
  rw [← h, Nat.mod_add_mod, Nat.add_mod_mod]
  congr 1
  omega
theorem tpos_add (k m : Int) (n : Nat) (h : 0 < n) : (tpos k n + tpos m n) % n = tpos (k + m) n := by
  have h1 := Int.emod_nonneg k (show (n : Int) ≠ 0 by omega)
  have h2 := Int.emod_nonneg m (show (n : Int) ≠ 0 by omega)
  have h3 := Int.emod_nonneg (k + m) (show (n : Int) ≠ 0 by omega)
  have e := Int.add_emod k m n
  unfold tpos
  have e1 : ((k % n).toNat : Int) = k % n := by omega
  have e2 : ((m % n).toNat : Int) = m % n := by omega
  have e3 : (((k + m) % n).toNat : Int) = (k + m) % n := by omega
  have : (((k % n).toNat + (m % n).toNat) % n : Nat) = (((k + m) % n).toNat : Int) := by
    rw [Int.natCast_emod, Int.natCast_add, e1, e2, e3, e]
  exact_mod_cast this
theorem turn_split (xs : List Int) (t : Nat) (h : t < xs.length) : redl (xs.drop t) ++ redl (xs.take t) = turnl xs t := by
  apply getD_ext
  · rw [List.length_append, redl_len, redl_len, turnl_len, List.length_drop, List.length_take]; omega
  · intro i hi
    rw [List.length_append, redl_len, redl_len, List.length_drop, List.length_take] at hi
    rw [turnl_at xs t i (by omega)]
    by_cases h1 : i < xs.length - t
    · have e : (i + t) % xs.length = t + i := by rw [Nat.mod_eq_of_lt (by omega)]; omega
      have l1 : i < (redl (xs.drop t)).length := by rw [redl_len, List.length_drop]; exact h1
      rw [e, List.getD_eq_getElem?_getD, List.getElem?_append_left l1, ← List.getD_eq_getElem?_getD, redl_at _ i (by rw [List.length_drop]; exact h1)]
      congr 1
      simp [List.getD]
    · have e : (i + t) % xs.length = i - (xs.length - t) := by
        rw [show i + t = (i - (xs.length - t)) + xs.length by omega, Nat.add_mod_right, Nat.mod_eq_of_lt (by omega)]
      have l1 : (redl (xs.drop t)).length = xs.length - t := by rw [redl_len, List.length_drop]
      have hlt : i - (xs.length - t) < t := by omega
      rw [e, List.getD_eq_getElem?_getD, List.getElem?_append_right (by omega), ← List.getD_eq_getElem?_getD, l1, redl_at _ _ (by rw [List.length_take]; omega)]
      congr 1
      simp [List.getD, hlt]
end Go.Proofs.Ytcfmiflhhjoofaa
