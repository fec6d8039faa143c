/- package desc's rows, for every tree: a range over a function whose iterator keeps a stack of its own. -/
import Derived.Test.YtfjioflggkmhcaaStk
import Derived.Test.YtfjioflggkmhcaaRowsl
namespace Go.Proofs.Ytfjioflggkmhcaa
open Go.ChangeShapes Go.WideShapes Go.ChangeAt Go.RowKit
set_option linter.unusedVariables false
open Go.Shelf
set_option linter.unusedSimpArgs false
attribute [local go_sem] Oper.semAt_some
/-- A row, as it is told: a slice. -/
abbrev RowV := { t : Option Addr × Nat × Nat // t.2.1 ≤ 1048576 }
def encR (x : RowV) : Array Value := #[.slice x.1.1 x.1.2.1 x.1.2.2]
def zsum : List RowV → Nat
  | [] => 0
  | x :: l => x.1.2.1 + zsum l
theorem zsum_app : ∀ l m : List RowV, zsum (l ++ m) = zsum l + zsum m
  | [], m => by simp [zsum]
  | x :: l, m => by simp only [List.cons_append, zsum, zsum_app l m]; omega
theorem zsum_le : ∀ l : List RowV, zsum l ≤ l.length * 1048576
  | [] => by simp [zsum]
  | x :: l => by have := zsum_le l; have := x.2; simp only [zsum, List.length_cons]; omega
/-- What one who ranges over rows leaves as it is. -/
def Kpr (n₀ n₁ : Nat) (A C : World) : Prop := Below n₀ A C ∧ ∀ (k : Nat) (o : Obj), n₁ ≤ k → A.heap[k]? = some o → o.isCells = true → C.heap[k]? = some o
theorem Kpr.trans {n₀ n₁ : Nat} (A B C : World) (h : Kpr n₀ n₁ A B) (g : Kpr n₀ n₁ B C) : Kpr n₀ n₁ A C := ⟨h.1.trans g.1, fun k o hk ho hc => g.2 k o hk (h.2 k o hk ho hc) hc⟩
theorem kpr_put {n₀ n₁ : Nat} {w : World} (hn : n₀ ≤ n₁) (W : World) (l : Nat) (o o' : Obj) (hl : n₁ ≤ l) (h : W.heap[l]? = some o) (h1 : o.isCells = false) : Kpr n₀ n₁ W (W.putObj l o') := by
  have hlt : l < W.heap.size := (Array.getElem?_eq_some_iff.1 h).1
  refine ⟨(Below.refl _ W).grown (grownBy_putObj' W l o') (by omega) (fun k e => by cases e; omega), fun k x hk hx hc => ?_⟩
  by_cases e : l = k
  · subst e
    rw [h] at hx; cases hx; rw [h1] at hc; cases hc
  · rw [World.putObj_heap_other (fun h => e h.symm)]; exact hx
/-- The state of the walk: what was told, and what is to do. -/
structure RowsRel (J : List RowV → World → Prop) (n₀ B C : Nat) (W2 : World) (pre : List RowV) (st : List Fo) (s : Value) (wr : World) : Prop where
  b : Below n₀ W2 wr
  k : Stk wr n₀ B s st
  j : J pre wr
  z : zsum pre + cntL st = C
  l : pre.length ≤ zsum pre + 1
  e : (pre.length = 0 ∧ st.length = 1) ∨ ∀ f ∈ st, 0 < f.len
theorem len_cntL : ∀ l : List Fo, (∀ f ∈ l, 0 < f.len) → l.length ≤ cntL l
  | [], _ => Nat.le_refl _
  | f :: l, h => by
    have h1 := len_cntL l (fun g hg => h g (List.mem_cons_of_mem _ hg))
    have h2 := h f (List.mem_cons_self ..)
    have h3 := kcnt_all f
    simp only [List.length_cons, cntL]; omega
theorem kidsTo_pos (f : Fo) : ∀ (i : Nat) (x : Fo), x ∈ kidsTo f i → 0 < x.len
  | 0, x, h => by cases h
  | i + 1, x, h => by
    rw [kidsTo] at h
    rcases List.mem_append.1 h with h | h
    · exact kidsTo_pos f i x h
    · split at h
      · rename_i h1
        rw [List.mem_singleton.1 h]; exact h1
      · cases h
set_option maxRecDepth 100000 in
set_option maxHeartbeats 4000000 in
theorem rows_g (g : Nat) (hg : 1 ≤ g) (B1 n₀ n₁ l m c : Nat) (p : Option Addr) (f : Fo) (W : World) (hB1 : W.cell? ⟨B1, 2, none⟩ = some (.slice p m c)) (hK : Kids W n₀ (.slice p m c) f) (hn0 : n₀ ≤ n₁) (hn1 : n₁ ≤ W.heap.size) (hC : f.cnt ≤ 1048576)
    (J Jx : List RowV → World → Prop) (hJ : Low W.heap.size J)
    (hY : ∀ pre x V, J pre V → pre.length < f.cnt + 2 → YieldAt Fence.wide (g - 1) Try.prog l (encR x) V fun e V' => (e = .returned (.bool true) ∧ J (pre ++ [x]) V' ∧ Kpr n₀ n₁ V V') ∨ (e = .returned (.bool false) ∧ Jx (pre ++ [x]) V'))
    (h0 : J [] W) : CallsIn Fence.wide g Try.prog 83 #[.func (.yield l) #[] #[], .pointer (some ⟨B1, 0, none⟩)] W fun e W' => (∃ v, e = .returned v) ∧
      ((∃ xs, zsum xs = f.cnt ∧ J xs W') ∨ ∃ pre, True ∧ Jx pre W') := by
  have lB := block_lt_of_cell hB1
  obtain ⟨W2, hW2⟩ : ∃ W2, W.alloc (.cells #[.slice p m c] 22) = W2 := ⟨_, rfl⟩
  have HS : RowsRel J n₀ W.heap.size f.cnt W2 [] [f] (.slice (some ⟨W.heap.size, 0, none⟩) 1 1) W2 := by
    refine ⟨Below.refl _ _, ?_, hJ [] W W2 h0 ?_, by simp [zsum, cntL], by simp, .inl ⟨rfl, rfl⟩⟩
    · rw [← hW2]; exact Stk.one hK (by omega) (Nat.le_refl _)
    · rw [← hW2]; exact (Below.refl _ _).alloc (Nat.le_refl _) _
  have hs2 : W2.heap.size = W.heap.size + 1 := by rw [← hW2]; simp
  generalize hC2 : f.cnt = C at *
  generalize hBB : W.heap.size = B at *
  refine callsIn_of_wp Try.func83 rfl trivial ?_ rfl
  simp only [Try.ntmps83, List.size_toArray, List.length_cons, List.length_nil, Nat.reduceAdd, Nat.reduceSub, Array.replicate_succ, Array.replicate_zero, List.push_toArray, List.append_toArray, List.nil_append, List.cons_append]
  gi_wp2

  clear hW2 hK hB1 h0
  gi_loopw [3] (fun s wr => ∃ pre st, RowsRel J n₀ B C W2 pre st s wr) (fun s wr => leastN (fun k => ∃ pre st, RowsRel J n₀ B C W2 pre st s wr ∧ k = 2 * cntL st + st.length))
  case atStart => exact ⟨_, _, HS⟩
  case round =>
    clear HS
    obtain ⟨pre0, st0, hr0⟩ := hrel
    obtain ⟨⟨pre, st, hr, hmin⟩, -⟩ := leastN_is (p := fun k => ∃ pre st, RowsRel J n₀ B C W2 pre st u3 wr ∧ k = 2 * cntL st + st.length) ⟨_, pre0, st0, hr0, rfl⟩
    clear hr0 pre0 st0
    have HY := Lib.hid hY
    clear hY
    rcases List.eq_nil_or_concat st with rfl | ⟨st', f', rfl⟩
    · obtain ⟨a, c, rfl⟩ : ∃ a c, u3 = .slice a 0 c := by
        obtain ⟨xs, ⟨-, h1⟩, -⟩ := hr.k
        rcases h1 with ⟨rfl, -⟩ | ⟨g, cap, cur, rfl, -⟩
        · exact ⟨_, _, rfl⟩
        · exact ⟨_, _, rfl⟩
      have HR := Lib.hid hr
      clear hr hmin
      gi_wp2
      go_end0
      exact ⟨⟨_, rfl⟩, .inl ⟨pre, by have := HR.out.z; simpa [cntL] using this, HR.out.j⟩⟩
    · rw [List.concat_eq_append] at hr hmin
      obtain ⟨q, cap, a, n, c', rfl, hcap, hcap2, hcell, hKf, hS⟩ := hr.k.pop
      have hn : n = f'.len := by obtain ⟨_, _, e, _⟩ := hKf; cases e; rfl
      have hz := hr.z
      rw [cntL_app] at hz
      simp only [cntL, Nat.add_zero] at hz
      have hfc := kcnt_all f'
      have hbn : n ≤ 1048576 := by omega
      have hYx := HY.out pre ⟨(a, n, c'), hbn⟩ wr hr.j (by have := hr.l; omega)
      obtain ⟨L, hL⟩ : ∃ L, st'.length = L := ⟨_, rfl⟩
      rw [hL] at hcap hcell hS hmin ⊢
      have HR := Lib.hid hr
      have HM := Lib.hid hmin
      have HS := Lib.hid hS
      have HK := Lib.hid hKf
      have hLb : L ≤ C ∧ ((pre.length = 0 ∧ L = 0) ∨ ∀ g ∈ st', 0 < g.len) ∧ ((pre.length = 0 ∧ L = 0) ∨ 0 < f'.len) := by
        rcases hr.e with ⟨e1, e2⟩ | e1
        · have : L = 0 := by rw [List.length_append, List.length_singleton] at e2; omega
          exact ⟨by omega, .inl ⟨e1, this⟩, .inl ⟨e1, this⟩⟩
        · have := len_cntL st' (fun g hg => e1 g (List.mem_append_left _ hg))
          exact ⟨by omega, .inr (fun g hg => e1 g (List.mem_append_left _ hg)), .inr (e1 f' (by simp))⟩
      have hlp := hr.l
      have a1 : n₀ ≤ B := by omega
      obtain ⟨hLb, hLe, hLf⟩ := hLb
      have HLE := Lib.hid hLe
      have HLF := Lib.hid hLf
      have HN := Lib.hid hn
      have HZ := Lib.hid hz
      have HF := Lib.hid hfc
      clear hr hmin hS hKf hz hn hfc hLe hLf
      have d1 : decide ((0 : Int) < (L : Int) + 1) = true := decide_eq_true (by omega)
      have w1 : IntKind.i64.wrap ((L : Int) + 1 - 1) = (L : Int) := by rw [show (L : Int) + 1 - 1 = (L : Int) by omega]; exact IntWalk.i64_in _ (by omega)
      obtain ⟨fn, tmps, assign, body, hy1, hR⟩ := hYx
      dsimp only [encR] at hy1 hR
      gi_wp2
      refine hR.mono ?_
      rintro e W3 (⟨rfl, hJ3, hk3⟩ | ⟨rfl, hJx3⟩)
      · have hS3 := HS.out.kept hk3.1 (fun k o hk => hk3.2 k o (by omega))
        have HK3 := Lib.hid (HK.out.carry hk3.1)
        have HB3 := Lib.hid (HR.out.b.trans hk3.1)
        have HJ3 := Lib.hid hJ3
        have hB3 : B ≤ W3.heap.size := by have := HR.out.b.size; have := hk3.1.size; omega
        clear hJ3 hk3 hR HS HK hcell hy1
        gi_wp2
        gi_loopw [3, 29] (fun t j wr3 => ∃ i : Nat, i ≤ n ∧ j = .int .i64 i ∧ Hid (Below B W3 wr3) ∧ Hid (Stk wr3 n₀ B t (st' ++ kidsTo f' i))) (fun _ j _ => n - (intOf j).toNat)
        case atStart => exact ⟨0, Nat.zero_le _, rfl, Lib.hid (Below.refl _ _), Lib.hid (by rw [kidsTo, List.append_nil]; exact hS3)⟩
        case round =>
          clear hS3
          obtain ⟨i, hi, rfl, HB4, HS4⟩ := hrel
          by_cases hlt : i < n
          · obtain ⟨b, o, v, rfl, hb, g0, g1, g2, hKi⟩ := (HK3.out.carry (HB4.out.mono (by omega))).get hlt
            obtain ⟨a', c'', rfl, hc1, hc2⟩ := hKi.form
            have HKi := Lib.hid hKi
            have dd : decide ((i : Int) < (n : Int)) = true := decide_eq_true (by omega)
            clear hKi g0 g1
            by_cases hp : 0 < (f'.kids i).len
            · have dp : decide ((0 : Int) < ((f'.kids i).len : Int)) = true := decide_eq_true (by omega)
              have a2 : B ≤ wr.heap.size := by have := HB4.out.size; omega
              have a3 : (st' ++ kidsTo f' i).length < 1099511627776 := by have := kidsTo_len f' i; rw [List.length_append]; omega
              gi_wp2_with (gi_at_builtin; refine stk_push rfl _ _ rfl rfl HS4.out rfl HKi.out a1 a2 a3 ?_; rintro v5 w5 hS5 hB5 ⟨vg, vn, vc, rfl⟩; have HS5 := Lib.hid hS5; have HB5 := Lib.hid hB5; clear hS5 hB5)
              go_roundw
              case rel => exact ⟨i + 1, by omega, by go_num, Lib.hid (HB4.out.trans HB5.out), by rw [kidsTo, if_pos hp, ← List.append_assoc]; exact HS5⟩
              case measure => (first | (simp [intOf]; done) | (simp [intOf]; omega) | (simp only [intOf]; omega))
            · have dp : decide ((0 : Int) < ((f'.kids i).len : Int)) = false := decide_eq_false (by omega)
              gi_wp2
              go_roundw
              case rel => exact ⟨i + 1, by omega, by go_num, HB4, by rw [kidsTo, if_neg hp, List.append_nil]; exact HS4⟩
              case measure => (first | (simp [intOf]; done) | (simp [intOf]; omega) | (simp only [intOf]; omega))
          · obtain rfl : i = n := by omega
            have dd : decide ((i : Int) < (i : Int)) = false := decide_eq_false (by omega)
            have hkl := kidsTo_len f' i
            have hz2 : zsum (pre ++ [⟨(a, i, c'), hbn⟩]) = zsum pre + i := by rw [zsum_app]; rfl
            have hc2 : cntL (st' ++ kidsTo f' i) + i = cntL st' + f'.cnt := by
              have := HF.out
              rw [cntL_app, kidsTo_cnt, HN.out]; omega
            have hnew := fun (sv : Value) (hsv : Stk wr n₀ B sv (st' ++ kidsTo f' i)) => show RowsRel J n₀ B C W2 (pre ++ [⟨(a, i, c'), hbn⟩]) (st' ++ kidsTo f' i) sv wr by
              refine ⟨HB3.out.trans (HB4.out.mono a1), hsv, hJ _ _ _ HJ3.out HB4.out, ?_, ?_, .inr ?_⟩
              · have := HZ.out; omega
              · rw [hz2, List.length_append, List.length_singleton]
                have := HN.out
                rcases HLF.out with h | h <;> omega
              · intro x hx
                rcases List.mem_append.1 hx with hx | hx
                · rcases HLE.out with h | h
                  · rw [List.length_eq_zero_iff.1 (hL.trans h.2)] at hx; cases hx
                  · exact h x hx
                · exact kidsTo_pos f' i x hx
            have HNew := Lib.hid (hnew _ HS4.out)
            have hlt2 : 2 * cntL (st' ++ kidsTo f' i) + (st' ++ kidsTo f' i).length < 2 * cntL (st' ++ [f']) + (st' ++ [f']).length := by
              rw [cntL_app st' [f'], List.length_append, List.length_append]
              simp only [cntL, List.length_singleton, Nat.add_zero]
              omega
            have HLt := Lib.hid hlt2
            clear hnew hlt2 hc2 hz2 hkl
            gi_wp2
            go_roundw
            case rel => exact ⟨_, _, HNew.out⟩
            case measure =>
              rw [HM.out]
              exact Nat.lt_of_le_of_lt ((leastN_is ⟨_, _, _, HNew.out, rfl⟩).2 _ ⟨_, _, HNew.out, rfl⟩) HLt.out
      · gi_wp2
        refine bodyPost_ret (results_none rfl _ _ _) rfl ?_
        exact ⟨⟨_, rfl⟩, .inr ⟨_, trivial, hJx3⟩⟩
end Go.Proofs.Ytfjioflggkmhcaa
