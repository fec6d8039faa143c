/- Put together by program (merge2.py): Rowsg Nodesg Atg Lexad Lexbd Lexcd. -/
import Derived.WalkSpells
import Derived.Laws.Strings2
import Derived.Laws.RangeAny
import Derived.Lib.OthersKept
import Derived.Deep.AppendLies
import Derived.Test.YtafmiilkdhdngaaGreatDoorD11
import Derived.Test.YtafmiilkdhdngaaGreatDoorR8
import Derived.Test.YtafmiilkdhdngaaGreatDoorR9
/- package desc's rows, for every tree: a range over a function whose iterator keeps a stack of its own. -/
namespace Go.Proofs.YtafmiilkdhdngaaGreatDoor
open Go.ChangeShapes Go.WideShapes Go.ChangeAt Go.RowKit
set_option linter.unusedVariables false
open Go.Shelf
set_option linter.unusedSimpArgs false
attribute [local go_sem] Oper.semAt_some
/-- A row, as it is told: a slice. -/
abbrev RowV := { t : Option Addr × Nat × Nat // t.2.1 ≤ 1048576 }
def encR (x : RowV) : Array Value := #[.slice x.1.1 x.1.2.1 x.1.2.2]
def zsum : List RowV → Nat
  | [] => 0
  | x :: l => x.1.2.1 + zsum l
theorem zsum_app : ∀ l m : List RowV, zsum (l ++ m) = zsum l + zsum m
  | [], m => by simp [zsum]
  | x :: l, m => by simp only [List.cons_append, zsum, zsum_app l m]; omega
theorem zsum_le : ∀ l : List RowV, zsum l ≤ l.length * 1048576
  | [] => by simp [zsum]
  | x :: l => by have := zsum_le l; have := x.2; simp only [zsum, List.length_cons]; omega
/-- What one who ranges over rows leaves as it is. -/
def Kpr (n₀ n₁ : Nat) (A C : World) : Prop := Below n₀ A C ∧ ∀ (k : Nat) (o : Obj), n₁ ≤ k → A.heap[k]? = some o → o.isCells = true → C.heap[k]? = some o
theorem Kpr.trans {n₀ n₁ : Nat} (A B C : World) (h : Kpr n₀ n₁ A B) (g : Kpr n₀ n₁ B C) : Kpr n₀ n₁ A C := ⟨h.1.trans g.1, fun k o hk ho hc => g.2 k o hk (h.2 k o hk ho hc) hc⟩
theorem kpr_put {n₀ n₁ : Nat} {w : World} (hn : n₀ ≤ n₁) (W : World) (l : Nat) (o o' : Obj) (hl : n₁ ≤ l) (h : W.heap[l]? = some o) (h1 : o.isCells = false) : Kpr n₀ n₁ W (W.putObj l o') := by
  have hlt : l < W.heap.size := (Array.getElem?_eq_some_iff.1 h).1
  refine ⟨(Below.refl _ W).grown (grownBy_putObj' W l o') (by omega) (fun k e => by cases e; omega), fun k x hk hx hc => ?_⟩
  by_cases e : l = k
  · subst e
    rw [h] at hx; cases hx; rw [h1] at hc; cases hc
  · rw [World.putObj_heap_other (fun h => e h.symm)]; exact hx
/-- The state of the walk: what was told, and what is to do. -/
structure RowsRel (J : List RowV → World → Prop) (n₀ B C : Nat) (W2 : World) (pre : List RowV) (st : List Fo) (s : Value) (wr : World) : Prop where
  b : Below n₀ W2 wr
  k : Stk wr n₀ B s st
  j : J pre wr
  z : zsum pre + cntL st = C
  l : pre.length ≤ zsum pre + 1
  e : (pre.length = 0 ∧ st.length = 1) ∨ ∀ f ∈ st, 0 < f.len
theorem len_cntL : ∀ l : List Fo, (∀ f ∈ l, 0 < f.len) → l.length ≤ cntL l
  | [], _ => Nat.le_refl _
  | f :: l, h => by
    have h1 := len_cntL l (fun g hg => h g (List.mem_cons_of_mem _ hg))
    have h2 := h f (List.mem_cons_self ..)
    have h3 := kcnt_all f
    simp only [List.length_cons, cntL]; omega
theorem kidsTo_pos (f : Fo) : ∀ (i : Nat) (x : Fo), x ∈ kidsTo f i → 0 < x.len
  | 0, x, h => by cases h
  | i + 1, x, h => by
    rw [kidsTo] at h
    rcases List.mem_append.1 h with h | h
    · exact kidsTo_pos f i x h
    · split at h
      · rename_i h1
        rw [List.mem_singleton.1 h]; exact h1
      · cases h
set_option maxRecDepth 100000 in
set_option maxHeartbeats 4000000 in
theorem rows_g (g : Nat) (hg : 1 ≤ g) (B1 n₀ n₁ l m c : Nat) (p : Option Addr) (f : Fo) (W : World) (hB1 : W.cell? ⟨B1, 2, none⟩ = some (.slice p m c)) (hK : Kids W n₀ (.slice p m c) f) (hn0 : n₀ ≤ n₁) (hn1 : n₁ ≤ W.heap.size) (hC : f.cnt ≤ 1048576)
    (J Jx : List RowV → World → Prop) (hJ : Low W.heap.size J)
    (hY : ∀ pre x V, J pre V → pre.length < f.cnt + 2 → YieldAt Fence.wide (g - 1) Tryz.prog l (encR x) V fun e V' => (e = .returned (.bool true) ∧ J (pre ++ [x]) V' ∧ Kpr n₀ n₁ V V') ∨ (e = .returned (.bool false) ∧ Jx (pre ++ [x]) V'))
    (h0 : J [] W) : CallsIn Fence.wide g Tryz.prog 110 #[.func (.yield l) #[] #[], .pointer (some ⟨B1, 0, none⟩)] W fun e W' => (∃ v, e = .returned v) ∧
      ((∃ xs, zsum xs = f.cnt ∧ J xs W') ∨ ∃ pre, True ∧ Jx pre W') := by
  have lB := block_lt_of_cell hB1
  obtain ⟨W2, hW2⟩ : ∃ W2, W.alloc (.cells #[.slice p m c] 40) = W2 := ⟨_, rfl⟩
  have HS : RowsRel J n₀ W.heap.size f.cnt W2 [] [f] (.slice (some ⟨W.heap.size, 0, none⟩) 1 1) W2 := by
    refine ⟨Below.refl _ _, ?_, hJ [] W W2 h0 ?_, by simp [zsum, cntL], by simp, .inl ⟨rfl, rfl⟩⟩
    · rw [← hW2]; exact Stk.one hK (by omega) (Nat.le_refl _)
    · rw [← hW2]; exact (Below.refl _ _).alloc (Nat.le_refl _) _
  have hs2 : W2.heap.size = W.heap.size + 1 := by rw [← hW2]; simp
  generalize hC2 : f.cnt = C at *
  generalize hBB : W.heap.size = B at *
  refine callsIn_of_wp Tryz.func110 rfl trivial ?_ rfl
  simp only [Tryz.ntmps110, List.size_toArray, List.length_cons, List.length_nil, Nat.reduceAdd, Nat.reduceSub, Array.replicate_succ, Array.replicate_zero, List.push_toArray, List.append_toArray, List.nil_append, List.cons_append]
  gi_wp2

  clear hW2 hK hB1 h0
  gi_loopw [3] (fun s wr => ∃ pre st, RowsRel J n₀ B C W2 pre st s wr) (fun s wr => leastN (fun k => ∃ pre st, RowsRel J n₀ B C W2 pre st s wr ∧ k = 2 * cntL st + st.length))
  case atStart => exact ⟨_, _, HS⟩
  case round =>
    clear HS
    obtain ⟨pre0, st0, hr0⟩ := hrel
    obtain ⟨⟨pre, st, hr, hmin⟩, -⟩ := leastN_is (p := fun k => ∃ pre st, RowsRel J n₀ B C W2 pre st u3 wr ∧ k = 2 * cntL st + st.length) ⟨_, pre0, st0, hr0, rfl⟩
    clear hr0 pre0 st0
    have HY := Lib.hid hY
    clear hY
    rcases List.eq_nil_or_concat st with rfl | ⟨st', f', rfl⟩
    · obtain ⟨a, c, rfl⟩ : ∃ a c, u3 = .slice a 0 c := by
        obtain ⟨xs, ⟨-, h1⟩, -⟩ := hr.k
        rcases h1 with ⟨rfl, -⟩ | ⟨g, cap, cur, rfl, -⟩
        · exact ⟨_, _, rfl⟩
        · exact ⟨_, _, rfl⟩
      have HR := Lib.hid hr
      clear hr hmin
      gi_wp2
      go_end0
      exact ⟨⟨_, rfl⟩, .inl ⟨pre, by have := HR.out.z; simpa [cntL] using this, HR.out.j⟩⟩
    · rw [List.concat_eq_append] at hr hmin
      obtain ⟨q, cap, a, n, c', rfl, hcap, hcap2, hcell, hKf, hS⟩ := hr.k.pop
      have hn : n = f'.len := by obtain ⟨_, _, e, _⟩ := hKf; cases e; rfl
      have hz := hr.z
      rw [cntL_app] at hz
      simp only [cntL, Nat.add_zero] at hz
      have hfc := kcnt_all f'
      have hbn : n ≤ 1048576 := by omega
      have hYx := HY.out pre ⟨(a, n, c'), hbn⟩ wr hr.j (by have := hr.l; omega)
      obtain ⟨L, hL⟩ : ∃ L, st'.length = L := ⟨_, rfl⟩
      rw [hL] at hcap hcell hS hmin ⊢
      have HR := Lib.hid hr
      have HM := Lib.hid hmin
      have HS := Lib.hid hS
      have HK := Lib.hid hKf
      have hLb : L ≤ C ∧ ((pre.length = 0 ∧ L = 0) ∨ ∀ g ∈ st', 0 < g.len) ∧ ((pre.length = 0 ∧ L = 0) ∨ 0 < f'.len) := by
        rcases hr.e with ⟨e1, e2⟩ | e1
        · have : L = 0 := by rw [List.length_append, List.length_singleton] at e2; omega
          exact ⟨by omega, .inl ⟨e1, this⟩, .inl ⟨e1, this⟩⟩
        · have := len_cntL st' (fun g hg => e1 g (List.mem_append_left _ hg))
          exact ⟨by omega, .inr (fun g hg => e1 g (List.mem_append_left _ hg)), .inr (e1 f' (by simp))⟩
      have hlp := hr.l
      have a1 : n₀ ≤ B := by omega
      obtain ⟨hLb, hLe, hLf⟩ := hLb
      have HLE := Lib.hid hLe
      have HLF := Lib.hid hLf
      have HN := Lib.hid hn
      have HZ := Lib.hid hz
      have HF := Lib.hid hfc
      clear hr hmin hS hKf hz hn hfc hLe hLf
      have d1 : decide ((0 : Int) < (L : Int) + 1) = true := decide_eq_true (by omega)
      have w1 : IntKind.i64.wrap ((L : Int) + 1 - 1) = (L : Int) := by rw [show (L : Int) + 1 - 1 = (L : Int) by omega]; exact IntWalk.i64_in _ (by omega)
      obtain ⟨fn, tmps, assign, body, hy1, hR⟩ := hYx
      dsimp only [encR] at hy1 hR
      gi_wp2
      refine hR.mono ?_
      rintro e W3 (⟨rfl, hJ3, hk3⟩ | ⟨rfl, hJx3⟩)
      · have hS3 := HS.out.kept hk3.1 (fun k o hk => hk3.2 k o (by omega))
        have HK3 := Lib.hid (HK.out.carry hk3.1)
        have HB3 := Lib.hid (HR.out.b.trans hk3.1)
        have HJ3 := Lib.hid hJ3
        have hB3 : B ≤ W3.heap.size := by have := HR.out.b.size; have := hk3.1.size; omega
        clear hJ3 hk3 hR HS HK hcell hy1
        gi_wp2
        gi_loopw [3, 29] (fun t j wr3 => ∃ i : Nat, i ≤ n ∧ j = .int .i64 i ∧ Hid (Below B W3 wr3) ∧ Hid (Stk wr3 n₀ B t (st' ++ kidsTo f' i))) (fun _ j _ => n - (intOf j).toNat)
        case atStart => exact ⟨0, Nat.zero_le _, rfl, Lib.hid (Below.refl _ _), Lib.hid (by rw [kidsTo, List.append_nil]; exact hS3)⟩
        case round =>
          clear hS3
          obtain ⟨i, hi, rfl, HB4, HS4⟩ := hrel
          by_cases hlt : i < n
          · obtain ⟨b, o, v, rfl, hb, g0, g1, g2, hKi⟩ := (HK3.out.carry (HB4.out.mono (by omega))).get hlt
            obtain ⟨a', c'', rfl, hc1, hc2⟩ := hKi.form
            have HKi := Lib.hid hKi
            have dd : decide ((i : Int) < (n : Int)) = true := decide_eq_true (by omega)
            clear hKi g0 g1
            by_cases hp : 0 < (f'.kids i).len
            · have dp : decide ((0 : Int) < ((f'.kids i).len : Int)) = true := decide_eq_true (by omega)
              have a2 : B ≤ wr.heap.size := by have := HB4.out.size; omega
              have a3 : (st' ++ kidsTo f' i).length < 1099511627776 := by have := kidsTo_len f' i; rw [List.length_append]; omega
              gi_wp2_with (gi_at_builtin; refine stk_push rfl _ _ rfl rfl HS4.out rfl HKi.out a1 a2 a3 ?_; rintro v5 w5 hS5 hB5 ⟨vg, vn, vc, rfl⟩; have HS5 := Lib.hid hS5; have HB5 := Lib.hid hB5; clear hS5 hB5)
              go_roundw
              case rel => exact ⟨i + 1, by omega, by go_num, Lib.hid (HB4.out.trans HB5.out), by rw [kidsTo, if_pos hp, ← List.append_assoc]; exact HS5⟩
              case measure => (first | (simp [intOf]; done) | (simp [intOf]; omega) | (simp only [intOf]; omega))
            · have dp : decide ((0 : Int) < ((f'.kids i).len : Int)) = false := decide_eq_false (by omega)
              gi_wp2
              go_roundw
              case rel => exact ⟨i + 1, by omega, by go_num, HB4, by rw [kidsTo, if_neg hp, List.append_nil]; exact HS4⟩
              case measure => (first | (simp [intOf]; done) | (simp [intOf]; omega) | (simp only [intOf]; omega))
          · obtain rfl : i = n := by omega
            have dd : decide ((i : Int) < (i : Int)) = false := decide_eq_false (by omega)
            have hkl := kidsTo_len f' i
            have hz2 : zsum (pre ++ [⟨(a, i, c'), hbn⟩]) = zsum pre + i := by rw [zsum_app]; rfl
            have hc2 : cntL (st' ++ kidsTo f' i) + i = cntL st' + f'.cnt := by
              have := HF.out
              rw [cntL_app, kidsTo_cnt, HN.out]; omega
            have hnew := fun (sv : Value) (hsv : Stk wr n₀ B sv (st' ++ kidsTo f' i)) => show RowsRel J n₀ B C W2 (pre ++ [⟨(a, i, c'), hbn⟩]) (st' ++ kidsTo f' i) sv wr by
              refine ⟨HB3.out.trans (HB4.out.mono a1), hsv, hJ _ _ _ HJ3.out HB4.out, ?_, ?_, .inr ?_⟩
              · have := HZ.out; omega
              · rw [hz2, List.length_append, List.length_singleton]
                have := HN.out
                rcases HLF.out with h | h <;> omega
              · intro x hx
                rcases List.mem_append.1 hx with hx | hx
                · rcases HLE.out with h | h
                  · rw [List.length_eq_zero_iff.1 (hL.trans h.2)] at hx; cases hx
                  · exact h x hx
                · exact kidsTo_pos f' i x hx
            have HNew := Lib.hid (hnew _ HS4.out)
            have hlt2 : 2 * cntL (st' ++ kidsTo f' i) + (st' ++ kidsTo f' i).length < 2 * cntL (st' ++ [f']) + (st' ++ [f']).length := by
              rw [cntL_app st' [f'], List.length_append, List.length_append]
              simp only [cntL, List.length_singleton, Nat.add_zero]
              omega
            have HLt := Lib.hid hlt2
            clear hnew hlt2 hc2 hz2 hkl
            gi_wp2
            go_roundw
            case rel => exact ⟨_, _, HNew.out⟩
            case measure =>
              rw [HM.out]
              exact Nat.lt_of_le_of_lt ((leastN_is ⟨_, _, _, HNew.out, rfl⟩).2 _ ⟨_, _, HNew.out, rfl⟩) HLt.out
      · gi_wp2
        refine bodyPost_ret (results_none rfl _ _ _) rfl ?_
        exact ⟨⟨_, rfl⟩, .inr ⟨_, trivial, hJx3⟩⟩
end Go.Proofs.YtafmiilkdhdngaaGreatDoor
/- package desc's Nodes, for every tree. -/
namespace Go.Proofs.YtafmiilkdhdngaaGreatDoor
open Go.ChangeShapes Go.WideShapes Go.ChangeAt Go.RowKit
set_option linter.unusedVariables false
open Go.Shelf
set_option linter.unusedSimpArgs false
attribute [local go_sem] Oper.semAt_some
theorem rows_low (g : Nat) (hg : 1 ≤ g) (B1 n₀ m c : Nat) (p : Option Addr) (f : Fo) (w : World) (hB1 : w.cell? ⟨B1, 2, none⟩ = some (.slice p m c)) (hK : Kids w n₀ (.slice p m c) f) (hn0 : n₀ ≤ w.heap.size) (hC : f.cnt ≤ 1048576) :
    SeqLow Fence.wide g Tryz.prog 110 #[.pointer (some ⟨B1, 0, none⟩)] encR (Kpr n₀ w.heap.size) (fun xs => zsum xs = f.cnt) (fun _ => True) (f.cnt + 2) w := fun l J Jx W hW hJ _ hY h0 =>
  rows_g g hg B1 n₀ w.heap.size l m c p f W ((hW.cell (p := ⟨B1, 2, none⟩) (block_lt_of_cell hB1)).trans hB1) (hK.carry (hW.mono hn0)) hn0 hW.size hC J Jx hJ hY h0
set_option maxRecDepth 100000 in
set_option maxHeartbeats 2000000 in
theorem desc_nodes (k n : Int) (v : Value) (lim : Nat) (f : Fo) (W : World) (hK : Kids W lim v f) (hl : lim ≤ W.heap.size) (hC : f.cnt ≤ 1048576) :
    Calls Tryz.prog 80 #[.agg #[.int .i64 k, .int .i64 n, v]] W fun e w' => e = .returned (.int .i64 ((f.cnt : Int) + 1)) ∧ Below W.heap.size W w' := by
  obtain ⟨p, m, c, rfl, hc1, hc2, HM⟩ := hK.shape
  clear HM
  refine (callsIn_wide (n := 6)).1 ?_
  refine callsIn_of_wp_marks Tryz.func80 rfl trivial ?_ rfl
  simp only [Tryz.ntmps80, List.size_toArray, List.length_cons, List.length_nil, Nat.reduceAdd, Nat.reduceSub, Array.replicate_succ, Array.replicate_zero, List.push_toArray, List.append_toArray, List.nil_append, List.cons_append]
  gi_wp2
  refine ⟨trivial, (desc_rows _ k n (.slice p m c) _).mono ?_⟩
  rintro e w1 ⟨rfl, rfl⟩
  gi_wp2
  have hB0 : Below W.heap.size W (((W.alloc (.cells #[.int .i64 k, .int .i64 n, .slice p m c] 42)).alloc (.cells #[.int .i64 1] 3)).alloc (.cells #[.int .i64 k, .int .i64 n, .slice p m c] 42)) := (((Below.refl _ W).alloc (Nat.le_refl _) _).alloc (by simp) _).alloc (by simp; omega) _
  have hsz : (((W.alloc (.cells #[.int .i64 k, .int .i64 n, .slice p m c] 42)).alloc (.cells #[.int .i64 1] 3)).alloc (.cells #[.int .i64 k, .int .i64 n, .slice p m c] 42)).heap.size = W.heap.size + 3 := by simp
  have bN := (Bx.new (W.alloc (.cells #[.int .i64 k, .int .i64 n, .slice p m c] 42)) 3 (.int .i64 1) _ rfl).alloc (.cells #[.int .i64 k, .int .i64 n, .slice p m c] 42)
  have c2 : (((W.alloc (.cells #[.int .i64 k, .int .i64 n, .slice p m c] 42)).alloc (.cells #[.int .i64 1] 3)).alloc (.cells #[.int .i64 k, .int .i64 n, .slice p m c] 42)).cell? ⟨W.heap.size + 1 + 1, 2, none⟩ = some (.slice p m c) := by
    have hn := heap_alloc_new ((W.alloc (.cells #[.int .i64 k, .int .i64 n, .slice p m c] 42)).alloc (.cells #[.int .i64 1] 3)) (.cells #[.int .i64 k, .int .i64 n, .slice p m c] 42)
    simp only [World.size_alloc] at hn
    rw [cell_of_row _ _ _ _ _ _ hn]; rfl
  simp only [World.size_alloc] at bN
  obtain ⟨W0, hW0⟩ : ∃ W0, (((W.alloc (.cells #[.int .i64 k, .int .i64 n, .slice p m c] 42)).alloc (.cells #[.int .i64 1] 3)).alloc (.cells #[.int .i64 k, .int .i64 n, .slice p m c] 42)) = W0 := ⟨_, rfl⟩
  rw [hW0] at hB0 hsz bN c2 ⊢
  clear hW0
  refine wp_range_low rfl (by omega) (gf := 110) (lb := #[.pointer (some ⟨W.heap.size + 1 + 1, 0, none⟩)]) rfl trivial (enters_of Tryz.func110 (by kernel_rfl) rfl)
    (rows_low _ (by omega) (W.heap.size + 1 + 1) W.heap.size m c p f W0 c2 ((hK.mono hl).below (Nat.le_refl _) hB0) (by omega) hC)
    (fun A B C => Kpr.trans A B C) (kpr_put (w := W0) (by omega)) (Below.refl _ _) (fun _ => rfl)
    (fun pre W' => Bx W' (W.heap.size + 1) 3 (.int .i64 ((1 + zsum pre : Nat) : Int)) ∧ Below W.heap.size W W')
    (fun _ _ _ => False)
    (fun pre A C h hb => ⟨(hb.block (W.heap.size + 1) (by omega)).trans h.1, h.2.trans (hb.mono (by omega))⟩)
    (fun _ _ _ _ h _ => h)
    ⟨by simpa [zsum] using bN, hB0⟩
    (fun x => { tmps := #[.agg #[.int .i64 k, .int .i64 n, .slice p m c], .pointer (some ⟨W.heap.size, 0, none⟩), .int .i64 0, .pointer (some ⟨W.heap.size + 1, 0, none⟩), .slice x.1.1 x.1.2.1 x.1.2.2, .agg #[.int .i64 k, .int .i64 n, .slice p m c], .func (.func 110) #[] #[.pointer (some ⟨W.heap.size + 1 + 1, 0, none⟩)], .slice x.1.1 x.1.2.1 x.1.2.2, undef, undef, undef, undef, undef], defers := [] })
    ?assign ?body ?done ?stop
  case assign =>
    rintro l ⟨⟨xa, xm, xc⟩, hx⟩ W' K hK
    dsimp only [encR] at hK ⊢
    gi_wp2
    exact hK
  case body =>
    rintro l pre ⟨⟨xa, xm, xc⟩, hx⟩ W' ⟨hN, hB⟩ hlen
    dsimp only at hx ⊢
    have cN := hN.cell
    have fN : W'.frozen? ⟨W.heap.size + 1, 0, none⟩ = false := frozen_of_row _ _ _ _ _ hN
    have hz := zsum_le pre
    have ez : zsum (pre ++ [⟨(xa, xm, xc), hx⟩]) = zsum pre + xm := by rw [zsum_app]; rfl
    have w1 : IntKind.i64.wrap (((1 + zsum pre : Nat) : Int) + (xm : Int)) = ((1 + zsum (pre ++ [⟨(xa, xm, xc), hx⟩]) : Nat) : Int) := by
      rw [ez, IntWalk.i64_in _ (by omega)]; omega
    have hN2 := hN.set (.int .i64 ((1 + zsum (pre ++ [⟨(xa, xm, xc), hx⟩]) : Nat) : Int))
    obtain ⟨y, hy⟩ : ∃ y : Int, ((1 + zsum pre : Nat) : Int) = y := ⟨_, rfl⟩
    obtain ⟨z, hz⟩ : ∃ z : Int, ((1 + zsum (pre ++ [⟨(xa, xm, xc), hx⟩]) : Nat) : Int) = z := ⟨_, rfl⟩
    rw [hy] at cN w1
    rw [hz] at w1 hN2
    have HN3 := Lib.hid (show Bx (W'.setCell ⟨W.heap.size + 1, 0, none⟩ (.int .i64 z)) (W.heap.size + 1) 3 (.int .i64 ((1 + zsum (pre ++ [⟨(xa, xm, xc), hx⟩]) : Nat) : Int)) by rw [hz]; exact hN2)
    clear hy hz hN hN2 ez
    gi_wp2
    exact ⟨KeepsOthers.setCell _ _ _, ⟨(Below.refl _ _).setCell (by show W.heap.size ≤ W.heap.size + 1; omega) _, fun q o hq ho _ => (heap_setCell_other W' ⟨W.heap.size + 1, 0, none⟩ q _ (by show q ≠ W.heap.size + 1; omega)).trans ho⟩, HN3.out, hB.setCell (by show W.heap.size ≤ W.heap.size + 1; omega) _⟩
  case done =>
    rintro D zs W' hD hzs ⟨hN, hB⟩ hK
    have cN := hN.cell
    rw [hzs] at cN
    gi_wp2
    refine ⟨by simp, .inl ⟨_, _, rfl, run_takeDeferred hK, ?_⟩⟩
    exact ⟨_, results_tmp rfl _ _ _, by show Ending.returned (.int .i64 (1 + (f.cnt : Int))) = _; rw [Int.add_comm], hB.trans (belowK_b (w := W) (Nat.le_refl _) W' D _ _ (by omega) hK rfl rfl)⟩
  case stop =>
    rintro D c pre W' _ _ h _
    exact h.elim
end Go.Proofs.YtafmiilkdhdngaaGreatDoor
/- package desc's Clone and At, for every tree and path. -/
namespace Go.Proofs.YtafmiilkdhdngaaGreatDoor
open Go.ChangeShapes Go.WideShapes Go.ChangeAt Go.RowKit
set_option linter.unusedVariables false
set_option linter.unusedSimpArgs false
theorem desc_clone (k n : Int) (v : Value) (f : Fo) (lim : Nat) (W : World) (hK : Kids W lim v f) (hl : lim ≤ W.heap.size) (hC : f.cnt ≤ 1048576) :
    Calls Tryz.prog 60 #[.agg #[.int .i64 k, .int .i64 n, v]] W fun e w' => ∃ F q, e = .returned (.agg #[.int .i64 k, .int .i64 n, kidv F 0 f.len]) ∧ Cloned w' F f q ∧ W.heap.size ≤ F ∧ Below W.heap.size W w' :=
  desc_clone_of k n v f lim W hK hl hC (fun w hb => desc_nodes k n v lim f w (hK.below hl hb) (by have := hb.size; omega) hC)
end Go.Proofs.YtafmiilkdhdngaaGreatDoor
/- Package lex, the numbers: kinds of bytes; tokens byte by byte. -/
namespace Go.Proofs.YtafmiilkdhdngaaGreatDoor
open Go.ChangeShapes Go.WideShapes Go.ChangeAt Go.RowKit
set_option linter.unusedVariables false
set_option linter.unusedSimpArgs false

/-- The kind of a sign; 0: none. -/
def kd (x : Int) : Int := if 97 ≤ x ∧ x ≤ 122 then 1 else if 48 ≤ x ∧ x ≤ 57 then 2 else if x = 40 ∨ x = 41 ∨ x = 44 then 3 else 0
theorem kd_high {x : Int} (h : 128 ≤ x) : kd x = 0 := by
  unfold kd
  rw [if_neg (by omega), if_neg (by omega), if_neg (by omega)]
theorem kd_le (x : Int) : 0 ≤ kd x ∧ kd x ≤ 3 := by
  unfold kd; split
  · omega
  · split
    · omega
    · split <;> omega

theorem c_kindOf (x : Int) (w : World) : Calls Tryz.prog 91 #[.int .i32 x] w fun e w' => e = .returned (.int .i64 (kd x)) ∧ w = w' := by
  go_enter Tryz.func91, Tryz.ntmps91
  go_wp2
  all_goals go_ret
  all_goals (refine ⟨ret_i64 ?_, rfl⟩; simp_all [kd]; try omega)
/-- The byte at a place. -/
def bt (s : ByteArray) (i : Nat) : Nat := (s.get! i).toNat
theorem bt_eq (s : ByteArray) (i : Nat) (h : i < s.size) : (s[i]'h).toNat = bt s i := by
  rw [bt, show s.get! i = s.get! (i + 0) from rfl, get_at s i h]
theorem bt_lt (s : ByteArray) (i : Nat) : bt s i < 256 := (s.get! i).toNat_lt

/-- What came of the bytes so far: tokens (kind, from, to), none where a sign is none. -/
def tk (s : ByteArray) : Nat → Option (List (Int × Nat × Nat))
  | 0 => some []
  | i + 1 => match tk s i with
    | none => none
    | some l => if kd (bt s i) = 0 then none else match l.getLast? with
      | some (k, a, b) => if kd (bt s i) ≠ 3 ∧ k = kd (bt s i) then some (l.dropLast ++ [(k, a, i + 1)]) else some (l ++ [(kd (bt s i), i, i + 1)])
      | none => some (l ++ [(kd (bt s i), i, i + 1)])
theorem tk_none {s : ByteArray} {i j : Nat} (h : tk s i = none) (hij : i ≤ j) : tk s j = none := by
  induction j with
  | zero => obtain rfl : i = 0 := by omega
            exact h
  | succ j ih =>
    by_cases e : i = j + 1
    · rw [← e]; exact h
    · simp [tk, ih (by omega)]
theorem tk_stop {s : ByteArray} {i j : Nat} (h : kd (bt s i) = 0) (hij : i < j) : tk s j = none := by
  refine tk_none (i := i + 1) ?_ hij
  simp only [tk]
  cases tk s i with
  | none => rfl
  | some l => simp [h]

end Go.Proofs.YtafmiilkdhdngaaGreatDoor
/- Rows of whatever elements that grow by append: their cells, stores in place; rows of tokens and of texts. -/
namespace Go.Proofs.YtafmiilkdhdngaaGreatDoor
open Go.ChangeShapes Go.WideShapes Go.ChangeAt Go.RowKit
set_option linter.unusedVariables false
set_option linter.unusedSimpArgs false

/-- One element more. -/
theorem append_g {ops : Array Oper} {rest : List Oper} {o : Oper} {a : Act} {Q : Exit → Act → World → Prop} {W : World} {T E : TypeId} {sz bys B : Nat} {v : Value} {n : Nat} {xs news : List Value} (hT : Tryz.prog.underlying T = some (.slice E))
    (hI : (Tryz.prog.info? E).map (fun i => (i.zero.map (fun z => z.cells.size), i.size, i.bytes)) = some (some sz, sz, bys)) (hsz : 0 < sz) (hby : bys ≤ 64) (hgd : o.guard = none) (s x : Operand)
    (ho : o.op = .call { callee := .builtin .append, args := #[s, x], argTypes := #[T, T] }) (hs : a.eval s = v) (hown : W.ownsRow B E sz v n xs) (hx : a.eval x = .slice (some ⟨W.heap.size, 0, none⟩) 1 1) (hB : B ≤ W.heap.size) (hn : n < 100000)
    (hl : news.length = sz) (h1 : ∀ u ∈ news, u.oneCell' = true)
    (h : ∀ v' w', w'.ownsRow B E sz v' (n + 1) (xs ++ news) → Below B W w' → wpList Tryz.prog ops Q rest (a.put o.dst v') w') : wpList Tryz.prog ops Q (o :: rest) a (W.alloc (.cells news.toArray E)) := by
  obtain ⟨i0, hi⟩ : ∃ i, Tryz.prog.info? E = some i := by
    cases h0 : Tryz.prog.info? E with
    | none => rw [h0] at hI; cases hI
    | some i => exact ⟨i, rfl⟩
  rw [hi] at hI
  simp only [Option.map_some, Option.some.injEq, Prod.mk.injEq] at hI
  obtain ⟨hz, hsz2, hby2⟩ := hI
  obtain ⟨z, hz1, hz2⟩ : ∃ z, i0.zero = some z ∧ z.cells.size = sz := by
    cases h0 : i0.zero with
    | none => rw [h0] at hz; cases hz
    | some z => rw [h0] at hz; simp at hz; exact ⟨z, rfl, hz⟩
  refine wpList_append_lies _ hgd s x T ho B E i0 z sz bys hT hi hz1 hsz2 hby2 hz2 hsz v n xs hs (World.ownsRow.alloc hown _) ⟨W.heap.size, 0, none⟩ 1 1 news hx (by omega) ?_ h1 (by decide) ?_ ?_ (by simp; omega) _ rfl ?_
  · intro j u hj
    exact World.news_of_block (heap_alloc_new W (.cells news.toArray E)) j u (by simpa using hj)
  · unfold maxLen; omega
  · have : (n + 1) * bys ≤ 100000 * 64 := Nat.mul_le_mul (by omega) hby
    omega
  · intro g cap w' h2 h3 _ _
    exact h _ w' h2 (((Below.refl _ _).alloc hB _).grown h3 (by simp; omega) (fun i hi => (World.ownsRow.lt hown i hi).1))

/-- What an own row is. -/
theorem own_form {w : World} {B : Nat} {E : TypeId} {sz : Nat} {v : Value} {n : Nat} {xs : List Value} (h : w.ownsRow B E sz v n xs) :
    (v = .slice none 0 0 ∧ n = 0 ∧ xs = []) ∨ ∃ g c, v = .slice (some ⟨g, 0, none⟩) n c ∧ B ≤ g ∧ g < w.heap.size ∧ n ≤ c ∧ c ≤ maxLen ∧ (∀ i, i < n * sz → ∃ u, xs[i]? = some u ∧ w.cell? ⟨g, i, none⟩ = some u ∧ w.frozen? ⟨g, i, none⟩ = false) := by
  obtain ⟨hl, h | ⟨g, cap, cur, rfl, hb, hh, hn, hm, hs, ht⟩⟩ := h
  · obtain ⟨rfl, rfl⟩ := h
    exact .inl ⟨rfl, rfl, List.length_eq_zero_iff.1 (by omega)⟩
  · refine .inr ⟨g, cap, rfl, hb, ?_, hn, hm, fun i hi => ?_⟩
    · by_cases hlt : g < w.heap.size
      · exact hlt
      · have : w.heap[g]? = none := by simp; omega
        rw [this] at hh; simp at hh
    · have h2 : i < xs.length := by omega
      refine ⟨xs[i], by simp [h2], ?_, frozen_of_row w g i _ _ hh⟩
      rw [cell_of_row w g i _ _ _ hh]
      have : cur[i]? = xs[i]? := by
        rw [← ht, List.getElem?_take, if_pos hi]
        simp
      rw [this]
      simp [h2]

theorem row_setC {w : World} {g o : Nat} {cs : Array Value} {T : TypeId} {fr : Nat × Nat} (h : w.heap[g]? = some (.cells cs T fr)) (v : Value) : (w.setCell ⟨g, o, none⟩ v).heap[g]? = some (.cells (cs.setIfInBounds o v) T fr) := by
  simp [World.setCell, Array.getElem?_modify, h]
/-- A store into one of its cells. -/
theorem own_set {w : World} {B : Nat} {E : TypeId} {sz : Nat} {g c n : Nat} {xs : List Value} (h : w.ownsRow B E sz (.slice (some ⟨g, 0, none⟩) n c) n xs) (i : Nat) (u : Value) : (w.setCell ⟨g, i, none⟩ u).ownsRow B E sz (.slice (some ⟨g, 0, none⟩) n c) n (xs.set i u) := by
  obtain ⟨hl, h | ⟨g', cap, cur, hv, hb, hh, hn, hm, hs, ht⟩⟩ := h
  · obtain ⟨h, _⟩ := h; cases h
  · simp only [Value.slice.injEq, Option.some.injEq, Addr.mk.injEq] at hv
    obtain ⟨⟨rfl, -, -⟩, -, rfl⟩ := hv
    refine ⟨by simpa using hl, .inr ⟨g, c, cur.setIfInBounds i u, rfl, hb, ?_, hn, hm, by simpa using hs, ?_⟩⟩
    · exact row_setC hh u
    · rw [Array.toList_setIfInBounds, List.take_set, ht]

/-- Other memory's stores, and an iterator's step, leave it. -/
theorem own_below {w w' : World} {B : Nat} {E : TypeId} {sz : Nat} {v : Value} {n : Nat} {xs : List Value} (h : w.ownsRow B E sz v n xs) (hb : Below w.heap.size w w') : w'.ownsRow B E sz v n xs :=
  World.ownsRow.kept h (row := none) ⟨hb.os, hb.tape, hb.output, hb.size, fun i hi _ => hb.block i hi⟩ (by
    by_cases hn : v.ownBlock = none
    · exact .inl hn
    · exact .inr hn)
theorem own_iter {w : World} {B : Nat} {E : TypeId} {sz : Nat} {v : Value} {n : Nat} {xs : List Value} (h : w.ownsRow B E sz v n xs) {k : Nat} (hk : k < B) (s : ByteArray) (p : Nat) : (w.iterAt k s p).ownsRow B E sz v n xs := by
  obtain ⟨hl, h | ⟨g, cap, cur, hv, hb, hh, hn, hm, hs, ht⟩⟩ := h
  · exact ⟨hl, .inl h⟩
  · exact ⟨hl, .inr ⟨g, cap, cur, hv, hb, by rw [Lib.iterAt_other _ _ _ _ _ (by omega)]; exact hh, hn, hm, hs, ht⟩⟩

/-- The cells of tokens. -/
def encT (s : ByteArray) : List (Int × Nat × Nat) → List Value
  | [] => []
  | (k, a, b) :: r => .int .i64 k :: .string (s.extract a b) :: .int .i64 a :: encT s r
theorem encT_len (s : ByteArray) (l : List (Int × Nat × Nat)) : (encT s l).length = l.length * 3 := by
  induction l with
  | nil => rfl
  | cons x r ih => obtain ⟨k, a, b⟩ := x; simp [encT, ih]; omega
theorem encT_append (s : ByteArray) (l r : List (Int × Nat × Nat)) : encT s (l ++ r) = encT s l ++ encT s r := by
  induction l with
  | nil => rfl
  | cons x t ih => obtain ⟨k, a, b⟩ := x; simp [encT, ih]
theorem encT_at (s : ByteArray) (l : List (Int × Nat × Nat)) {j : Nat} {k : Int} {a b : Nat} (h : l[j]? = some (k, a, b)) : (encT s l)[3 * j]? = some (.int .i64 k) ∧ (encT s l)[3 * j + 1]? = some (.string (s.extract a b)) ∧ (encT s l)[3 * j + 2]? = some (.int .i64 a) := by
  induction l generalizing j with
  | nil => simp at h
  | cons x t ih =>
    obtain ⟨k', a', b'⟩ := x
    cases j with
    | zero => simp at h; obtain ⟨rfl, rfl, rfl⟩ := h; exact ⟨rfl, rfl, rfl⟩
    | succ j =>
      have := ih (by simpa using h)
      simpa [encT, Nat.mul_succ, Nat.add_right_comm] using this

theorem info_tok : (Tryz.prog.info? 139).map (fun i => (i.zero.map (fun z => z.cells.size), i.size, i.bytes)) = some (some 3, 3, 32) := by kernel_rfl
theorem info_str : (Tryz.prog.info? 9).map (fun i => (i.zero.map (fun z => z.cells.size), i.size, i.bytes)) = some (some 1, 1, 16) := by kernel_rfl

end Go.Proofs.YtafmiilkdhdngaaGreatDoor
/- lex.Tokens: byte by byte. -/
namespace Go.Proofs.YtafmiilkdhdngaaGreatDoor
open Go.ChangeShapes Go.WideShapes Go.ChangeAt Go.RowKit
set_option linter.unusedVariables false
set_option linter.unusedSimpArgs false

theorem tk_len {s : ByteArray} : ∀ {i : Nat} {l : List (Int × Nat × Nat)}, tk s i = some l → l.length ≤ i ∧ ∀ k a b, l.getLast? = some (k, a, b) → a < i ∧ b = i ∧ k = kd (bt s (i - 1)) ∧ k ≠ 0 := by
  intro i
  induction i with
  | zero => intro l h; simp [tk] at h; subst h; simp
  | succ i ih =>
    intro l h
    simp only [tk] at h
    cases hp : tk s i with
    | none => simp [hp] at h
    | some m =>
      simp only [hp] at h
      by_cases h0 : kd (bt s i) = 0
      · simp [h0] at h
      · simp only [h0, if_false] at h
        have hm := ih hp
        rcases hl : m.getLast? with _ | ⟨k, a, b⟩
        · simp only [hl, Option.some.injEq] at h
          subst h
          refine ⟨by simp; omega, fun k a b h => ?_⟩
          rw [List.getLast?_concat] at h
          simp only [Option.some.injEq, Prod.mk.injEq] at h
          obtain ⟨rfl, rfl, rfl⟩ := h
          exact ⟨by omega, rfl, rfl, h0⟩
        · simp only [hl] at h
          have hml := hm.2 k a b hl
          have hne : m ≠ [] := by intro e; simp [e] at hl
          split at h
          · rename_i hc
            simp only [Option.some.injEq] at h; subst h
            have : 0 < m.length := List.length_pos_iff.2 hne
            refine ⟨by simp; omega, fun k' a' b' h => ?_⟩
            rw [List.getLast?_concat] at h
            simp only [Option.some.injEq, Prod.mk.injEq] at h
            obtain ⟨rfl, rfl, rfl⟩ := h
            exact ⟨by omega, rfl, hc.2, hml.2.2.2⟩
          · simp only [Option.some.injEq] at h; subst h
            refine ⟨by simp; omega, fun k' a' b' h => ?_⟩
            rw [List.getLast?_concat] at h
            simp only [Option.some.injEq, Prod.mk.injEq] at h
            obtain ⟨rfl, rfl, rfl⟩ := h
            exact ⟨by omega, rfl, rfl, h0⟩

theorem encT_set (s : ByteArray) (m : List (Int × Nat × Nat)) (k : Int) (a b b' : Nat) : (encT s (m ++ [(k, a, b)])).set (m.length * 3 + 1) (.string (s.extract a b')) = encT s (m ++ [(k, a, b')]) := by
  rw [encT_append, encT_append, List.set_append_right _ _ (by rw [encT_len]; omega), encT_len]
  simp [encT]
theorem iterPos_of {w : World} {k p : Nat} {s : ByteArray} (h : w.heap[k]? = some (.stringIter s p)) : w.iterPos k = p := by
  unfold World.iterPos; rw [h]

set_option maxRecDepth 100000 in
set_option maxHeartbeats 8000000 in
theorem lex_tokens (s : ByteArray) (hs : s.size ≤ 5000) (w : World) :
    Calls Tryz.prog 72 #[.string s] w fun e w' => Below w.heap.size w w' ∧ ((tk s s.size = none ∧ e = .returned (.tuple #[.slice none 0 0, .int .i64 10])) ∨
      ∃ l v, tk s s.size = some l ∧ e = .returned (.tuple #[v, .int .i64 0]) ∧ w'.ownsRow (w.heap.size + 1) 139 3 v l.length (encT s l)) := by
  go_enter Tryz.func72, Tryz.ntmps72
  go_wp2
  go_loopw [4] (fun v wr => ∃ (pos : Nat) (l : List (Int × Nat × Nat)) (sv : Value) (wx : World), sv = v ∧ wx = wr ∧ tk s pos = some l ∧ pos ≤ s.size ∧ wr.ownsRow (w.heap.size + 1) 139 3 v l.length (encT s l) ∧ wr.heap[w.heap.size]? = some (.stringIter s pos) ∧ Below w.heap.size w wr ∧ w.heap.size + 1 ≤ wr.heap.size) (fun _ wr => s.size - wr.iterPos w.heap.size)
  case atStart =>
    refine ⟨0, [], _, _, rfl, rfl, rfl, by omega, World.ownsRow_nil _ _ _ _, World.iter_heap _ _ _, (Below.refl _ _).alloc (Nat.le_refl _) _, by simp [World.iter]⟩
  case round =>
    obtain ⟨pos, l, v, wr, rfl, rfl, ht, hp, ho, hit, hB, hsz⟩ := hrel
    by_cases hlt : pos < s.size
    · obtain ⟨C, hC⟩ : ∃ C : Int, C = (Utf8.decode s pos).1 := ⟨_, rfl⟩
      obtain ⟨q, hq⟩ : ∃ q : Nat, q = pos + (Utf8.decode s pos).2 := ⟨_, rfl⟩
      have hCb : kd C = kd (bt s pos) ∧ (kd C ≠ 0 → q = pos + 1) := by
        by_cases ha : bt s pos < 128
        · have hd := decode_ascii s pos hlt (by rw [bt_eq]; exact ha)
          rw [bt_eq] at hd
          rw [hC, hq, hd]
          exact ⟨rfl, fun _ => rfl⟩
        · have hd := decode_high s pos hlt (by rw [bt_eq]; omega)
          rw [hC, kd_high (by omega), kd_high (by omega)]
          exact ⟨rfl, fun h => absurd rfl h⟩
      obtain ⟨wn, hwn⟩ : ∃ wn, wn = wr.iterAt w.heap.size s q := ⟨_, rfl⟩
      have hnx : ∀ ty, (Instr.next (.pointer (some ⟨w.heap.size, 0, none⟩)) true ty).run Tryz.prog wr = .ok (.tuple #[.bool true, .int .i64 pos, .int .i32 C]) wn := fun ty => by
        rw [hwn, hC, hq]; exact Lib.run_next_any_at wr w.heap.size s pos ty hit hlt
      have ho' : wn.ownsRow (w.heap.size + 1) 139 3 v l.length (encT s l) := by rw [hwn]; exact own_iter ho (by omega) s q
      have hit' : wn.heap[w.heap.size]? = some (.stringIter s q) := by rw [hwn]; exact Lib.iterAt_heap _ _ _ _ _ hit
      have hB' : Below w.heap.size w wn := by rw [hwn]; exact Lib.below_iterAt hB (Nat.le_refl _) s q
      have hsz' : w.heap.size + 1 ≤ wn.heap.size := by rw [hwn, Lib.iterAt_size]; exact hsz
      have hl := tk_len ht
      have hCr : 0 ≤ C ∧ C ≤ 2147483647 := by
        rw [hC]; exact ⟨by omega, by have := decode_le s pos; omega⟩
      have hip : wr.iterPos w.heap.size = pos := iterPos_of hit
      clear hwn ho hit hB hsz hC hq
      by_cases hk : kd C = 0
      · go_wp2_with (go_at_call 91; (with_reducible refine (c_kindOf _ _).mono ?_); rintro e w' ⟨rfl, rfl⟩)
        go_ret2
        exact ⟨hB', .inl ⟨tk_stop (by rw [← hCb.1]; exact hk) hlt, rfl⟩⟩
      · obtain rfl := hCb.2 hk
        have hkb : kd (bt s pos) = kd C := hCb.1.symm
        have hlen : l.length < 100000 := by omega
        have hstr : ∀ wx, (Instr.slice 9 (.string s) (some (.int .i64 (pos : Int))) (some (.int .i64 ((pos : Int) + 1))) none).run Tryz.prog wx = .ok (.string (s.extract pos (pos + 1))) wx := fun wx => by
          have := run_slice_string (P := Tryz.prog) wx 9 s .i64 .i64 (pos : Int) ((pos : Int) + 1) Tryz.underlying9 (by omega) (by omega) (by omega)
          simpa using this
        have fin : ∀ (l' : List (Int × Nat × Nat)) (v' : Value) (w' : World), tk s (pos + 1) = some l' → w'.ownsRow (w.heap.size + 1) 139 3 v' l'.length (encT s l') → Below (w.heap.size + 1) wn w' → (∃ (pos : Nat) (l : List (Int × Nat × Nat)) (sv : Value) (wx : World), sv = v' ∧ wx = w' ∧ tk s pos = some l ∧ pos ≤ s.size ∧ w'.ownsRow (w.heap.size + 1) 139 3 v' l.length (encT s l) ∧ w'.heap[w.heap.size]? = some (.stringIter s pos) ∧ Below w.heap.size w w' ∧ w.heap.size + 1 ≤ w'.heap.size) ∧ s.size - w'.iterPos w.heap.size < s.size - wr.iterPos w.heap.size := fun l' v' w' htn h hb => by
          have hit2 : w'.heap[w.heap.size]? = some (.stringIter s (pos + 1)) := by rw [hb.block _ (Nat.lt_succ_self _)]; exact hit'
          refine ⟨⟨pos + 1, l', _, _, rfl, rfl, htn, by omega, h, hit2, hB'.trans (hb.mono (Nat.le_succ _)), by have := hb.size; omega⟩, ?_⟩
          rw [iterPos_of hit2, hip]; omega
        have hdone : ∀ (v' : Value) (w' : World), w'.ownsRow (w.heap.size + 1) 139 3 v' (l.length + 1) (encT s l ++ [.int .i64 (kd C), .string (s.extract pos (pos + 1)), .int .i64 pos]) → w'.ownsRow (w.heap.size + 1) 139 3 v' (l ++ [(kd C, pos, pos + 1)]).length (encT s (l ++ [(kd C, pos, pos + 1)])) := fun v' w' h => by
          rw [encT_append]; simpa [encT] using h
        clear hCb
        rcases List.eq_nil_or_concat l with hnil | ⟨m, ⟨k, a, b⟩, hcon⟩
        · have htn : tk s (pos + 1) = some (l ++ [(kd C, pos, pos + 1)]) := by subst hnil; simp [tk, ht, hkb, hk]
          obtain ⟨a0, c0, rfl⟩ : ∃ a0 c0, v = .slice a0 0 c0 := by
            subst hnil
            rcases own_form ho' with ⟨h, _⟩ | ⟨g, c, h, _⟩
            · exact ⟨_, _, h⟩
            · exact ⟨_, _, h⟩
          have hd3 := hdone
          clear hdone
          by_cases h3 : kd C = 3
          · go_wp2_with (first | (go_at_call 91; (with_reducible refine (c_kindOf _ _).mono ?_); rintro e w' ⟨rfl, rfl⟩) | (at_builtin; refine append_g Tryz.underlying119 info_tok (by decide) (by decide) rfl _ _ rfl rfl ho' rfl hsz' hlen rfl (by simp [Value.oneCell']) ?_; intro v' w' hO hb'))
            exact fin _ _ _ htn (hd3 _ _ (by rw [h3]; exact hO)) hb'
          · subst hnil
            go_wp2_with (first | (go_at_call 91; (with_reducible refine (c_kindOf _ _).mono ?_); rintro e w' ⟨rfl, rfl⟩) | (at_builtin; refine append_g Tryz.underlying119 info_tok (by decide) (by decide) rfl _ _ rfl rfl ho' rfl hsz' hlen rfl (by simp [Value.oneCell']) ?_; intro v' w' hO hb'))
            exact fin _ _ _ htn (hd3 _ _ hO) hb'
        · rw [List.concat_eq_append] at hcon
          have hll : l.length = m.length + 1 := by rw [hcon]; simp
          have hlast : a < pos := (hl.2 k a b (by rw [hcon]; simp)).1
          have hget : l[m.length]? = some (k, a, b) := by rw [hcon]; simp
          have hc := encT_at s l hget
          rw [Nat.mul_comm] at hc
          rcases own_form ho' with ⟨-, h, -⟩ | ⟨g, c, hv, hg1, hg2, hg3, hg4, hcell⟩
          · omega
          subst hv
          have c0 : wn.cell? ⟨g, m.length * 3, none⟩ = some (.int .i64 k) := by
            obtain ⟨u, h1, h2, _⟩ := hcell (m.length * 3) (by omega)
            rw [hc.1] at h1; rw [h2, h1]
          have c1 : wn.cell? ⟨g, m.length * 3 + 1, none⟩ = some (.string (s.extract a b)) := by
            obtain ⟨u, h1, h2, _⟩ := hcell (m.length * 3 + 1) (by omega)
            rw [hc.2.1] at h1; rw [h2, h1]
          have c2 : wn.cell? ⟨g, m.length * 3 + 2, none⟩ = some (.int .i64 a) := by
            obtain ⟨u, h1, h2, _⟩ := hcell (m.length * 3 + 2) (by omega)
            rw [hc.2.2] at h1; rw [h2, h1]
          have f1 : wn.frozen? ⟨g, m.length * 3 + 1, none⟩ = false := by
            obtain ⟨u, _, _, h⟩ := hcell (m.length * 3 + 1) (by omega)
            exact h
          clear hcell hget
          obtain ⟨n, hn⟩ : ∃ n, m.length = n := ⟨_, rfl⟩
          rw [hn] at c0 c1 c2 f1 hll
          have ho2 := ho'
          rw [hll] at ho2 hlen
          have hstr2 : ∀ wx, (Instr.slice 9 (.string s) (some (.int .i64 (a : Int))) (some (.int .i64 ((pos : Int) + 1))) none).run Tryz.prog wx = .ok (.string (s.extract a (pos + 1))) wx := fun wx => by
            have := run_slice_string (P := Tryz.prog) wx 9 s .i64 .i64 (a : Int) ((pos : Int) + 1) Tryz.underlying9 (by omega) (by omega) (by omega)
            simpa using this
          have hset : ∀ (w' : World), tk s (pos + 1) = some (m ++ [(k, a, pos + 1)]) → w' = wn.setCell ⟨g, n * 3 + 1, none⟩ (.string (s.extract a (pos + 1))) → _ := fun w' htn hw => fin (m ++ [(k, a, pos + 1)]) (.slice (some ⟨g, 0, none⟩) (n + 1) c) w' htn (by
              rw [hw, ← encT_set s m k a b (pos + 1), ← hcon, hn, show (m ++ [(k, a, pos + 1)]).length = n + 1 by simp [hn]]
              exact own_set ho2 _ _) (by rw [hw]; exact (Below.refl _ _).setCell hg1 _)
          have hap : ∀ (v' : Value) (w' : World), tk s (pos + 1) = some (l ++ [(kd C, pos, pos + 1)]) → w'.ownsRow (w.heap.size + 1) 139 3 v' (n + 1 + 1) (encT s l ++ [.int .i64 (kd C), .string (s.extract pos (pos + 1)), .int .i64 pos]) → Below (w.heap.size + 1) wn w' → _ := fun v' w' htn hO hb' => fin _ v' w' htn (hdone _ _ (by rw [hll]; exact hO)) hb'
          have htk : tk s (pos + 1) = if kd C ≠ 3 ∧ k = kd C then some (m ++ [(k, a, pos + 1)]) else some (l ++ [(kd C, pos, pos + 1)]) := by
            rw [hcon] at ht ⊢
            simp [tk, ht, hkb, hk]
          rw [hll]
          clear hdone hcon ho' hc
          by_cases h3 : kd C = 3
          · rw [if_neg (by simp [h3])] at htk
            go_wp2_with (first | (go_at_call 91; (with_reducible refine (c_kindOf _ _).mono ?_); rintro e w' ⟨rfl, rfl⟩) | (at_builtin; refine append_g Tryz.underlying119 info_tok (by decide) (by decide) rfl _ _ rfl rfl ho2 rfl hsz' hlen rfl (by simp [Value.oneCell']) ?_; intro v' w' hO hb'))
            exact hap _ _ htk (by rw [h3]; exact hO) hb'
          by_cases hkk : k = kd C
          · rw [if_pos ⟨h3, hkk⟩] at htk
            have e1 : ((k == kd C) : Bool) = true := by simp [hkk]
            have e3 : ((kd C != 3) : Bool) = true := by simp [h3]
            clear ho2 hap fin
            go_wp2_with (go_at_call 91; (with_reducible refine (c_kindOf _ _).mono ?_); rintro e w' ⟨rfl, rfl⟩)
            exact hset _ htk rfl
          · rw [if_neg (by simp [hkk])] at htk
            have e1 : ((k == kd C) : Bool) = false := by simp [hkk]
            have e3 : ((kd C != 3) : Bool) = true := by simp [h3]
            clear hset fin
            go_wp2_with (first | (go_at_call 91; (with_reducible refine (c_kindOf _ _).mono ?_); rintro e w' ⟨rfl, rfl⟩) | (at_builtin; refine append_g Tryz.underlying119 info_tok (by decide) (by decide) rfl _ _ rfl rfl ho2 rfl hsz' hlen rfl (by simp [Value.oneCell']) ?_; intro v' w' hO hb'))
            exact hap _ _ htk hO hb'
    · have hnx : ∀ ty, (Instr.next (.pointer (some ⟨w.heap.size, 0, none⟩)) true ty).run Tryz.prog wr = .ok (.tuple #[.bool false]) wr := fun ty => Lib.run_next_end_at wr w.heap.size s pos ty hit hlt
      obtain rfl : pos = s.size := by omega
      go_wp2
      go_ret2
      exact ⟨hB, .inr ⟨l, v, ht, rfl, ho⟩⟩
end Go.Proofs.YtafmiilkdhdngaaGreatDoor
