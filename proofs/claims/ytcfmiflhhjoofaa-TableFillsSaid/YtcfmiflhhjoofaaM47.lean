/- Put together by program (merge.py): Zeros Tab7. -/
import Derived.Lib.AppendZeros
import Derived.Test.YtcfmiflhhjoofaaM8
import Derived.Test.YtcfmiflhhjoofaaM46
/- 'append(l, make([]uint64, m)...)' onto a row of the call's own: noughts behind. -/
namespace Go.Proofs.Ytcfmiflhhjoofaa
open Go.ChangeShapes Go.WideShapes Go.ChangeAt Go.RowKit
set_option linter.unusedVariables false
open Go.Lib
/-- The operation is wanted by its guard. -/
theorem append_run_guarded {ops : Array Oper} {rest : List Oper} {o : Oper} {a : Act} {Q : Exit → Act → World → Prop} (w : World) (hw : Region.wanted o (yielded ops a.tmps) = true) (s x : Operand) (t tn : TypeId)
    (ho : o.op = .call { callee := .builtin .append, args := #[s, x], argTypes := #[t, tn] }) (vs vx : Value) (hs : a.eval s = vs) (hx : a.eval x = vx)
    (v' : Value) (w' : World) (hr : (Builtin.append_ #[t, tn] o.type #[vs, vx]).run Try.prog w = .ok v' w') (h : wpList Try.prog ops Q rest (a.put o.dst v') w') : wpList Try.prog ops Q (o :: rest) a w := by
  show (if _ then _ else _)
  rw [if_pos hw]
  exact .inl (wp_append_run w s x t tn ho vs vx hs hx v' w' hr h)
theorem zeroCells_rep (m : Nat) : (Builtin.zeroCells #[Value.int .u64 0] m).toList = List.replicate m (Value.int .u64 0) := by
  apply List.ext_getElem?
  intro i
  by_cases h : i < m
  · simp [Builtin.zeroCells, h, Nat.mod_one]
  · simp [Builtin.zeroCells, h]
theorem zeroCells_siz (m : Nat) : (Builtin.zeroCells #[Value.int .u64 0] m).size = m := by simp [Builtin.zeroCells]
theorem append_zeros_run {w : World} {B : Nat} {v : Value} {ys : List Int} {m : Nat} (ty : TypeId) (hown : Owns w B 43 .u64 v ys) (hB : B ≤ w.heap.size) (hlen : ys.length + m ≤ 17592186044415) :
    ∃ v' w', (Builtin.append_ #[25, 3] ty #[v, .int .i64 m]).run Try.prog w = .ok v' w' ∧ Owns w' B 43 .u64 v' (ys ++ List.replicate m 0) ∧ Below B w w' := by
  obtain ⟨i, hi, hz, hs, hb⟩ := info_parts info_u64
  have htn : Try.prog.underlying 3 = some (.int .i64) := Try.underlying3
  have ht : Try.prog.underlying 25 = some (.slice 43) := Try.underlying25
  have hw : IntKind.i64.wrap (m : Int) = m := by rw [IntKind.wrap_i64]; omega
  have hneg : ¬ ((m : Int) < 0) := by omega
  have h48i : ¬ (281474976710656 < (m : Int) * (8 : Int)) := by omega
  have hcells : (Value.int .u64 0).cells = #[Value.int .u64 0] := rfl
  generalize hn : ys.length = n at *
  have hown' : w.ownsRow B 43 1 v n (ys.map (Value.int .u64)) := by rw [← hn]; exact hown
  have fin : ∀ (cap : Nat), n + m ≤ cap → cap ≤ maxLen → ∀ W' : World, W'.heap[w.heap.size]? = some (.cells ((ys.map (Value.int .u64)).toArray ++ Builtin.zeroCells #[Value.int .u64 0] m ++ Builtin.zeroCells #[Value.int .u64 0] (cap - (n + m))) 43 (0, 0)) → Owns W' B 43 .u64 (.slice (some ⟨w.heap.size, 0, none⟩) (n + m) cap) (ys ++ List.replicate m 0) := by
    intro cap h1 h2 W' h3
    unfold Owns
    rw [List.length_append, List.length_replicate, hn]
    refine ⟨by simp [hn], .inr ⟨w.heap.size, cap, _, rfl, hB, h3, h1, h2, ?_, ?_⟩⟩
    · simp only [Array.size_append, List.size_toArray, List.length_map, hn, zeroCells_siz]; omega
    · simp only [Array.toList_append, List.append_assoc, zeroCells_rep]
      rw [← List.append_assoc, List.map_append, List.map_replicate]
      have : (n + m) * 1 = (ys.map (Value.int .u64) ++ List.replicate m (Value.int .u64 0)).length := by simp [hn]
      rw [this]
      exact List.take_left
  rcases hown'.2 with ⟨rfl, rfl⟩ | ⟨g, cap, cur, rfl, hbg, hg, hnc, hcm, hcs, htake⟩
  · have hy : ys = [] := List.eq_nil_of_length_eq_zero hn
    subst hy
    by_cases hm : m = 0
    · subst hm
      refine ⟨.slice none 0 0, w, ?_, Owns.nil _ _ _ _, Below.refl _ _⟩
      simp [Builtin.append_, run_underlying ht, run_underlying htn, sizeOf, typeInfo, hi, hs, hb, asInt, asIntOf, hw, show IntKind.i64.wrap (0 : Int) = 0 by decide]
    · have hr := run_append_nil_zeros (P := Try.prog) w 25 3 ty 43 i (.int .u64 0) .i64 .i64 ht htn hi hz m (by omega) (by omega) (by omega) (by rw [hb]; omega)
      refine ⟨_, _, hr, ?_, (Below.refl _ _).drew.alloc hB _⟩
      have := fin (grownCap w m 0 43) (by rw [Nat.zero_add]; exact grownCap_ge _ _ _ _) (grownCap_le_maxLen _ _ _ _ (by unfold maxLen; omega)) (w.drew.alloc (.cells (Builtin.zeroCells (Value.int .u64 0).cells m ++ Builtin.zeroCells (Value.int .u64 0).cells (grownCap w m 0 43 - m)) 43)) (by rw [show w.heap.size = w.drew.heap.size from rfl, heap_alloc_new, hcells]; simp)
      rw [Nat.zero_add] at this
      exact this
  · by_cases hroom : n + m ≤ cap
    · by_cases hm : m = 0
      · subst hm
        refine ⟨_, w, ?_, by rw [List.replicate_zero, List.append_nil]; exact hown, Below.refl _ _⟩
        simp [Builtin.append_, run_underlying ht, run_underlying htn, sizeOf, typeInfo, hi, hs, hb, asInt, asIntOf, hw, show IntKind.i64.wrap (0 : Int) = 0 by decide, hnc, storeCells]
      · have hst := run_storeCells_at Try.prog g n 43 (Builtin.zeroCells #[Value.int .u64 0] m).toList 0 cur w hg (by simp only [Array.length_toList, zeroCells_siz]; omega) (by intro u hu; rw [zeroCells_rep] at hu; rw [List.eq_of_mem_replicate hu]; rfl)
        simp only [Nat.add_zero] at hst
        obtain ⟨cs, hcs2⟩ : ∃ cs, (cur.toList.take n ++ (Builtin.zeroCells #[Value.int .u64 0] m).toList ++ cur.toList.drop (n + (Builtin.zeroCells #[Value.int .u64 0] m).toList.length)).toArray = cs := ⟨_, rfl⟩
        rw [hcs2] at hst
        refine ⟨.slice (some ⟨g, 0, none⟩) (n + m) cap, w.setRow g cs, ?_, ?_, ⟨rfl, rfl, rfl, by simp, fun k hk => setRow_other w g k cs (by omega)⟩⟩
        · simp [Builtin.append_, run_underlying ht, run_underlying htn, sizeOf, typeInfo, zeroValue, hi, hz, hs, hb, asInt, asIntOf, hw, hneg, h48i, hroom, hm, hcells, Addr.add_lit, hst]
        · unfold Owns
          rw [List.length_append, List.length_replicate, hn]
          refine ⟨by simp [hn], .inr ⟨g, cap, cs, rfl, hbg, setRow_heap w g cur cs 43 (0, 0) hg, hroom, hcm, ?_, ?_⟩⟩
          all_goals subst hcs2
          · simp only [List.size_toArray, List.length_append, List.length_take, List.length_drop, Array.length_toList, zeroCells_siz]
            omega
          · rw [Nat.mul_one] at htake
            rw [htake, zeroCells_rep, List.map_append, List.map_replicate]
            have : (n + m) * 1 = (ys.map (Value.int .u64) ++ List.replicate m (Value.int .u64 0)).length := by simp [hn]
            rw [this]
            exact List.take_left
    · have hold := run_firstCells_some (P := Try.prog) w.drew 1 n ⟨g, 0, none⟩ n cap (ys.map (Value.int .u64)) (by simp [hn]) (fun j u hu => hown'.cells (g := g) rfl j u hu)
      have h63' : ¬ (9223372036854775807 < ((n : Int) + (m : Int))) := by omega
      have h48' : ¬ (281474976710656 < Builtin.nextslicecap (n + m) cap * 8) := by have := growslice_fits (need := n + m) (old := cap) (bytes := 8) (by omega) (by omega); omega
      have hm : ¬ m = 0 := by omega
      refine ⟨.slice (some ⟨w.heap.size, 0, none⟩) (n + m) (grownCap w (n + m) cap 43), w.drew.alloc (.cells ((ys.map (Value.int .u64)).toArray ++ Builtin.zeroCells #[Value.int .u64 0] m ++ Builtin.zeroCells #[Value.int .u64 0] (grownCap w (n + m) cap 43 - (n + m))) 43), ?_, ?_, (Below.refl _ _).drew.alloc hB _⟩
      · simp [Builtin.append_, run_underlying ht, run_underlying htn, sizeOf, typeInfo, zeroValue, hi, hz, hs, hb, asInt, asIntOf, hw, hneg, h48i, hroom, hm, hcells, h63', h48', Question.forced, hold, newRow, grownCap]
      · exact fin _ (grownCap_ge _ _ _ _) (grownCap_le_maxLen _ _ _ _ (by unfold maxLen; omega)) _ (by rw [show w.heap.size = w.drew.heap.size from rfl, heap_alloc_new])
end Go.Proofs.Ytcfmiflhhjoofaa
/- Reference 16: Make of kinds 1, 2 and 4; Small. -/
namespace Go.Proofs.Ytcfmiflhhjoofaa
open Go.ChangeShapes Go.WideShapes Go.ChangeAt Go.RowKit
set_option linter.unusedVariables false
open rootTells
theorem box4 (W : World) (k n m d : Int) (T : TypeId) : ∃ w0 : World, w0 = W.alloc (.cells #[.int .i64 k, .int .i64 n, .int .i64 m, .int .i64 d] T) ∧ w0.cell? ⟨W.heap.size, 0, none⟩ = some (.int .i64 k) ∧ w0.cell? ⟨W.heap.size, 1, none⟩ = some (.int .i64 n) ∧ w0.cell? ⟨W.heap.size, 2, none⟩ = some (.int .i64 m) ∧ w0.cell? ⟨W.heap.size, 3, none⟩ = some (.int .i64 d) ∧ Below W.heap.size W w0 ∧ W.heap.size < w0.heap.size := by
  obtain ⟨a, b, c, e⟩ := cells4 (Below.refl _ (W.alloc (.cells #[.int .i64 k, .int .i64 n, .int .i64 m, .int .i64 d] T)))
  exact ⟨_, rfl, a, b, c, e, (Below.refl W.heap.size W).alloc (Nat.le_refl _) _, by simp⟩
set_option maxRecDepth 100000 in
theorem r16_pows (m d : Int) (N : Nat) (W : World) (hh : hasb N = true) (hd : d = 0 ∨ d = 1) :
    Calls Try.prog 11 #[.agg #[.int .i64 1, .int .i64 N, .int .i64 m, .int .i64 d]] W (Gives W N (powl (rdir N d) N)) := by
  obtain ⟨n1, n2, _⟩ := hasb_dvd hh
  have DR := Lib.hid (fun w => r4_dir N d w hh hd)
  have PW := Lib.hid (fun w => c_rpows (rdir N d) N w (rdir_lo N d) (rdir_hi N d) (by omega))
  generalize powl (rdir N d) N = ys at *
  generalize rdir N d = r at *
  obtain ⟨w0, hw0, c0, c1, c2, c3, hB, hlt⟩ := box4 W 1 N m d 23
  go_enter Try.func11, Try.ntmps11
  go_wp2_with fail
  rw [← hw0]
  clear hw0
  refine (DR.out _).mono ?_
  rintro e w1 ⟨rfl, rfl⟩
  go_wp2_with fail
  refine (PW.out _).mono ?_
  rintro e w1 ⟨p, c, rfl, hr, b1⟩
  have HR := Lib.hid hr
  have hB := hB.trans (b1.mono hB.size)
  clear b1 hr
  go_wp2_with fail
  go_ret
  exact ⟨_, _, rfl, HR.out, hB⟩
set_option maxRecDepth 100000 in
theorem r16_chirp (m d : Int) (N : Nat) (W : World) (hh : hasb N = true) (hd : d = 0 ∨ d = 1) (hN : N ≤ 140) :
    Calls Try.prog 11 #[.agg #[.int .i64 2, .int .i64 N, .int .i64 m, .int .i64 d]] W (Gives W N (rowc (rdir N (1 - d)) N N)) := by
  obtain ⟨n1, n2, _⟩ := hasb_dvd hh
  have DR := Lib.hid (fun w => r4_dir N d w hh hd)
  have DR1 := Lib.hid (fun w => r4_dir N (1 - d) w hh (by omega))
  have TR := Lib.hid (fun i w (hi : i ≤ 140) => r12_tri N i w (by omega) (by omega) (by omega))
  have PW := Lib.hid (fun k w (hk : k ≤ 140) => r2_pow (rdir N (1 - d)) k w (rdir_lo N (1 - d)) (rdir_hi N (1 - d)) (by omega))
  have TB := Lib.hid (fun i => trin_lt i (show 0 < N by omega))
  have YL := Lib.hid (rowc_len (rdir N (1 - d)) N N)
  have YA := Lib.hid (fun k hk => rowc_at (rdir N (1 - d)) N N k hk)
  have YW := Lib.hid (rowc_wf (rdir N (1 - d)) N N)
  have hwd : IntKind.i64.wrap (1 - d) = 1 - d := IntWalk.i64_in _ (by omega)
  generalize rowc (rdir N (1 - d)) N N = ys at *
  generalize rdir N (1 - d) = r at *
  generalize rdir N d = r0 at *
  obtain ⟨w0, hw0, c0, c1, c2, c3, hB, hlt⟩ := box4 W 2 N m d 23
  go_enter Try.func11, Try.ntmps11
  go_wp2_with fail
  rw [← hw0]
  clear hw0
  refine (DR.out _).mono ?_
  rintro e w1 ⟨rfl, rfl⟩
  go_wp2_with fail
  obtain ⟨X, hX⟩ : ∃ X, W.heap.size = X := ⟨_, rfl⟩
  rw [hX] at c0 c1 c2 c3 hlt ⊢
  go_loopw [4, 5] (fun v x wr => ∃ i : Nat, i ≤ N ∧ x = .int .i64 i ∧ Hid (Owns wr w0.heap.size 43 .u64 v (upto ys i)) ∧ Below w0.heap.size w0 wr) (fun _ x _ => N - (intOf x).toNat)
  case atStart => exact ⟨0, Nat.zero_le _, rfl, Lib.hid (Owns.nil _ _ _ _), Below.refl _ _⟩
  case round =>
    obtain ⟨i, hi, rfl, HO, hB2⟩ := hrel
    have k1 : wr.cell? ⟨X, 1, none⟩ = some (.int .i64 (N : Int)) := (hB2.cell (p := ⟨X, 1, none⟩) hlt).trans c1
    have k3 : wr.cell? ⟨X, 3, none⟩ = some (.int .i64 d) := (hB2.cell (p := ⟨X, 3, none⟩) hlt).trans c3
    by_cases hli : i < N
    · have YA1 := YA.out i hli
      have TB1 := TB.out i
      have TR1 := Lib.hid (fun w => TR.out i w (by omega))
      generalize trin N i = t at *
      have PW1 := Lib.hid (fun w => PW.out t w (by omega))
      have HP := Lib.hid (upto_snoc ys i _ (by rw [YL.out]; exact hli) YA1)
      have HK := Lib.hid (upto_len ys i (by rw [YL.out]; omega))
      have dd : decide ((i : Int) < (N : Int)) = true := decide_eq_true (by omega)
      have wt : IntKind.u64.wrap (t : Int) = (t : Int) := by rw [IntKind.wrap_u64]; omega
      clear YA1
      go_wp2_with fail
      go_region_held3 (fun w' => w'.cell? ⟨X, 1, none⟩ = some (.int .i64 (N : Int)) ∧ w'.cell? ⟨X, 3, none⟩ = some (.int .i64 d) ∧ Below w0.heap.size w0 w') (first | exact ⟨k1, k3, hB2.drew⟩ | assumption | exact keepB (p := ⟨X, 1, none⟩) (q := ⟨X, 3, none⟩) hlt hlt ⟨k1, k3, hB2⟩ ((((Below.refl _ _).alloc hB2.size _)).drew) | (refine keepB (p := ⟨X, 1, none⟩) (q := ⟨X, 3, none⟩) hlt hlt ?_ hb2; assumption)) (first | (go_at_call 24; (with_reducible refine (DR1.out _).mono ?_); rintro e w' ⟨rfl, rfl⟩) | (go_at_call 27; (with_reducible refine (TR1.out _).mono ?_); rintro e w' ⟨rfl, rfl⟩) | (go_at_call 26; (with_reducible refine (PW1.out _).mono ?_); rintro e w' ⟨rfl, rfl⟩) | (refine step_plain ?_ ?_; rfl; apply wp_append_one (y := fm (r ^ t)) (ys := upto ys i) (H := wr.heap.size) Try.underlying25 info_u64; rfl; rfl; (refine Owns.below HO.out ?_); (focus (go_grown)); rfl; (focus (simp [go_sem]; done)); (focus (have := hB2.size; simp; omega)); (focus (rw [HK.out]; omega)); intro v' w' hO hb2))
      have HO2 := Lib.hid (by have := hO; rw [HP.out] at this; exact this)
      clear hO
      rename_i hSS
      obtain ⟨s1, s3, sB⟩ := hSS
      have hB3 := sB
      go_wp2_with fail
      go_roundw
      case rel => exact ⟨i + 1, by omega, by go_num, HO2, hB3⟩
      case measure => (first | (simp [intOf]; done) | (simp [intOf]; omega) | (simp only [intOf]; omega))
    · obtain rfl : i = N := by omega
      have dd : decide ((i : Int) < (i : Int)) = false := decide_eq_false (by omega)
      have HO3 := HO.out
      rw [upto_full ys i YL.out] at HO3
      have HO3 := Lib.hid HO3
      go_wp2_with fail
      go_ret
      exact gives_own rfl HO3.out (hB.trans (hB2.mono (by omega))) YW.out YL.out (by omega)
end Go.Proofs.Ytcfmiflhhjoofaa
