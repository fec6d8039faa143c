/- Package perm: Bits. -/
import Derived.Test.YtkfjmmhcbbfhdaaPerm
import Derived.Test.YtkfjmmhcbbfhdaaPermr
import Derived.Test.YtkfjmmhcbbfhdaaPw2
import Derived.Deep.AppendSrc
namespace Go.Proofs.Ytkfjmmhcbbfhdaa
open Go.ChangeShapes Go.WideShapes Go.ChangeAt Go.RowKit
set_option linter.unusedVariables false
def slen : Value → Nat | .slice _ n _ => n | _ => 0
theorem bits_step {t M : Nat} (hM : ∃ j, j ≤ t ∧ M = 2 ^ j) (h : M < 2 ^ t) :
    ∃ s, 2 ^ t / 2 / M = s ∧ 0 < M ∧ M + M ≤ 2 ^ t ∧ (∃ j, j ≤ t ∧ M + M = 2 ^ j) ∧ ∀ i, i < M → (bitl t).getD (M + i) 0 = (bitl t).getD i 0 + (s : Int) ∧ 0 ≤ (bitl t).getD i 0 ∧ (bitl t).getD i 0 + (s : Int) < ((2 ^ t : Nat) : Int) := by
  obtain ⟨j, hj, rfl⟩ := hM
  have hjt : j < t := by
    by_cases e : j = t
    · rw [e] at h; omega
    · omega
  have hp : 2 ^ (j + 1) = 2 ^ j * 2 := Nat.pow_succ ..
  have hle : 2 ^ (j + 1) ≤ 2 ^ t := Nat.pow_le_pow_right (by omega) (by omega)
  have h0 : 0 < 2 ^ j := Nat.pow_pos (by omega)
  refine ⟨2 ^ (t - 1 - j), ?_, h0, by omega, ⟨j + 1, by omega, by omega⟩, ?_⟩
  · rw [Nat.div_div_eq_div_mul, Nat.mul_comm, ← hp, Nat.pow_div (by omega) (by omega), show t - (j + 1) = t - 1 - j by omega]
  · intro i hi
    have hr := rv_step t j i hjt hi
    have hl := rv_lt t (2 ^ j + i) (by omega)
    rw [bitl_at t _ (show 2 ^ j + i < 2 ^ t by omega), bitl_at t i (by omega), hr]
    rw [hr] at hl
    generalize 2 ^ (t - 1 - j) = s at *
    generalize 2 ^ t = N at *
    exact ⟨by omega, by omega, by omega⟩
theorem filli_low (ys : List Int) (k n i : Nat) (hi : i < k) (hk : k ≤ n) (hn : ys.length = n) : (filli ys k n)[i]? = some (.int .i64 (ys.getD i 0)) := by
  unfold filli
  have h1 : i < ys.length := by omega
  rw [List.getElem?_toArray, List.getElem?_map, List.getElem?_append_left (by rw [List.length_take]; omega), List.getElem?_take, if_pos hi, List.getElem?_eq_getElem h1]
  simp [List.getD, h1]
theorem FillingI.read {w : World} {B : Nat} {T : TypeId} {ys : List Int} {k n i : Nat} (h : FillingI w B T ys k n) (hi : i < k) (hk : k ≤ n) (hn : ys.length = n) : w.cell? ⟨B, i, none⟩ = some (.int .i64 (ys.getD i 0)) := by
  rw [cell_of_row w B i _ _ _ h]; exact filli_low ys k n i hi hk hn
theorem FillingI.one (w : World) (T : TypeId) (ys : List Int) (n : Nat) (h0 : 0 < n) (hn : ys.length = n) (hy : ys.getD 0 0 = 0) : FillingI (w.alloc (.cells (Array.replicate n (.int .i64 0)) T)) w.heap.size T ys 1 n := by
  unfold FillingI
  rw [heap_alloc_new]
  have := filli_step ys 0 n h0 hn
  rw [filli_zero, hy] at this
  rw [← this]
  congr 2
  apply Array.ext
  · simp
  · intro i h1 h2; rw [Array.getElem_setIfInBounds (by simpa using h2)]; simp
theorem make_one (n : Nat) (h0 : 1 ≤ n) (hn : n ≤ 35184372088832) (w : World) :
    (Instr.makeSlice 28 (.int .i64 1) (.int .i64 (n : Int))).run Try.prog w = .ok (.slice (some ⟨w.heap.size, 0, none⟩) 1 n) (w.alloc (.cells (Array.replicate n (.int .i64 0)) 3)) := by
  obtain ⟨i, hi, hz, hs, hb⟩ := info_parts info_i64
  rw [run_make w 28 3 i (.int .i64 0) Try.underlying28 hi hz .i64 .i64 1 (n : Int) (by omega) (by omega) (by rw [hb]; omega) (by omega), hs, Int.toNat_natCast, Nat.mul_one]
  rw [show (Value.int .i64 0).cells = #[.int .i64 0] from rfl, made_cells_i]
  rfl
/-- 'append(l, y)' within the room of a row that is being filled. -/
theorem append_fill {ops : Array Oper} {rest : List Oper} {o : Oper} {a : Act} {Q : Exit → Act → World → Prop} {W0 W : World} {T E : TypeId} {B k n : Nat} {ys : List Int} {y : Int}
    (hT : Try.prog.underlying T = some (.slice E)) (hI : (Try.prog.info? E).map (fun i => (i.zero, i.size, i.bytes)) = some (some (.int .i64 0), 1, 8)) (hgd : o.guard = none) (s x : Operand)
    (ho : o.op = .call { callee := .builtin .append, args := #[s, x], argTypes := #[T, T] }) (hs : a.eval s = .slice (some ⟨B, 0, none⟩) k n) (hF : FillingI W B E ys k n) (hx : a.eval x = .slice (some ⟨W.heap.size, 0, none⟩) 1 1) (hk : k < n) (hn : ys.length = n) (hy : ys.getD k 0 = y) (hW : W0.heap.size ≤ B) (hB : Below W0.heap.size W0 W)
    (h : ∀ w', FillingI w' B E ys (k + 1) n → Below W0.heap.size W0 w' → wpList Try.prog ops Q rest (a.put o.dst (.slice (some ⟨B, 0, none⟩) (k + 1) n)) w') : wpList Try.prog ops Q (o :: rest) a (W.alloc (.cells #[.int .i64 y] E)) := by
  obtain ⟨i0, hi, hz0, hz1, hz2⟩ := info_parts hI
  have hF1 : FillingI (W.alloc (.cells #[.int .i64 y] E)) B E ys k n := hF.below ((Below.refl _ _).alloc (Nat.le_refl _) _)
  have hB1 := hB.alloc hB.size (.cells #[.int .i64 y] E)
  have hsrc : Src Try.prog i0.size T (.slice (some ⟨W.heap.size, 0, none⟩) 1 1) 1 [.int .i64 y] (W.alloc (.cells #[.int .i64 y] E)) := by
    rw [hz1]
    refine Src.ofSlice _ hT _ 1 1 [.int .i64 y] rfl ?_ (fun u hu => by simp at hu; subst hu; rfl)
    intro j u hj
    match j, hj with
    | 0, hj => simp at hj; subst hj; simp [Addr.add, go_sem]
  generalize W.alloc (.cells #[.int .i64 y] E) = w1 at *
  obtain ⟨u, hu⟩ := hF1.cell hk hn
  have ha : 0 + k * i0.size + 0 = k := by rw [hz1]; omega
  have hrun := run_append_room_src (P := Try.prog) w1 T T o.type E i0 hT hi B 0 k n _ 1 [.int .i64 y] hsrc (by omega)
    (fun j hj => by obtain rfl : j = 0 := by simpa using hj
                    rw [ha, hu]; rfl)
    (fun j hj => hF1.free _)
  have hset : w1.setCells B (0 + k * i0.size) [.int .i64 y] = w1.setCell ⟨B, k, none⟩ (.int .i64 y) := by
    rw [show 0 + k * i0.size = k by omega]; rfl
  rw [hset] at hrun
  have h := h _ (hF1.step hk hn hy) (hB1.setCell hW _)
  refine wpList_plain hgd fun _ hK => ?_
  unfold Oper.wp execOp
  simp only [ho, resolve, invoke, builtin, Sem.run_bind, Sem.run_pure, Result.andThen_ok, List.map_toArray, List.map_cons, List.map_nil, hx, hs, hrun]
  exact hK _ _ h
set_option maxRecDepth 100000 in
theorem perm_bits (t : Nat) (W : World) (h : 2 ^ t ≤ 16777216) :
    Calls Try.prog 54 #[.int .i64 ((2 ^ t : Nat) : Int)] W (GivesIOk W (2 ^ t) (bitl t)) := by
  have h1 : 1 ≤ 2 ^ t := Nat.pow_pos (by omega)
  have ha : bits .and .i64 ((2 ^ t : Nat) : Int) (((2 ^ t : Nat) : Int) - 1) = 0 := by
    rw [show ((2 ^ t : Nat) : Int) - 1 = ((2 ^ t - 1 : Nat) : Int) by omega, i64_and_nat _ _ (by omega) (by omega), (isp_and (2 ^ t) (by omega)).2 ⟨t, rfl⟩]
    rfl
  have ST := Lib.hid (fun M hM hl => bits_step (t := t) (M := M) hM hl)
  have SL := Lib.hid (bitl_len t)
  have SW := Lib.hid (bitl_wf t h)
  have F0 := Lib.hid (FillingI.one W 3 (bitl t) (2 ^ t) (by omega) (bitl_len t) (by rw [bitl_at t 0 (by omega), rv_zero]; rfl))
  have P0 := Lib.hid (show ∃ j, j ≤ t ∧ 1 = 2 ^ j from ⟨0, by omega, rfl⟩)
  have P1 := Lib.hid (fun M (hM : ∃ j, j ≤ t ∧ M = 2 ^ j) => (show M ≤ 2 ^ t by obtain ⟨j, hj, rfl⟩ := hM; exact Nat.pow_le_pow_right (by omega) hj))
  generalize bitl t = ys at *
  generalize 2 ^ t = N at *
  have hmk := make_one N h1 (by omega)
  have hB0 := (Below.refl W.heap.size W).alloc (Nat.le_refl _) (.cells (Array.replicate N (.int .i64 0)) 3)
  go_enter Try.func54, Try.ntmps54
  go_wp2_with fail
  generalize W.alloc (.cells (Array.replicate N (.int .i64 0)) 3) = w1 at *
  go_loopw [4] (fun v wr => ∃ M : Nat, Hid (∃ j, j ≤ t ∧ M = 2 ^ j) ∧ v = .slice (some ⟨W.heap.size, 0, none⟩) M N ∧ Hid (FillingI wr W.heap.size 3 ys M N) ∧ Below W.heap.size W wr) (fun v _ => N - (slen v))
  case atStart => exact ⟨1, P0, rfl, F0, hB0⟩
  case round =>
    clear F0 hB0 P0
    obtain ⟨M, PM, rfl, HF, hB⟩ := hrel
    have hMN := P1.out M PM.out
    by_cases hlt : M < N
    · obtain ⟨s, q0, M0, MM, PM2, HS⟩ := ST.out M PM.out hlt
      have PM2 := Lib.hid PM2
      have HS := Lib.hid HS
      have hd : decide ((M : Int) < (N : Int)) = true := decide_eq_true (by omega)
      obtain ⟨hf, hh⟩ : ∃ hf, N / 2 = hf := ⟨_, rfl⟩
      rw [hh] at q0
      have hhN : hf ≤ N := by omega
      have hsN : s ≤ hf := by rw [← q0]; exact Nat.div_le_self _ _
      have d1 : ((N : Int)).tdiv 2 = ((hf : Nat) : Int) := by rw [← hh]; rfl
      have d1' : ((N : Int)) / 2 = ((hf : Nat) : Int) := d1
      have d2 : ((hf : Int)).tdiv (M : Int) = ((s : Nat) : Int) := by rw [← q0]; rfl
      have d2' : ((hf : Int)) / (M : Int) = ((s : Nat) : Int) := d2
      have w1 : IntKind.i64.wrap ((hf : Nat) : Int) = ((hf : Nat) : Int) := IntWalk.i64_in _ (by omega)
      have w2 : IntKind.i64.wrap ((s : Nat) : Int) = ((s : Nat) : Int) := IntWalk.i64_in _ (by omega)
      have hz : ((M : Int) == 0) = false := by simp; omega
      have hz2 : ¬ ((M : Int) = 0) := by omega
      have hz3 : ¬ (M = 0) := by omega
      clear q0 hh
      go_wp2_with fail
      go_loopw [4, 32] (fun v x wr => ∃ i : Nat, i ≤ M ∧ v = .slice (some ⟨W.heap.size, 0, none⟩) (M + i) N ∧ x = .int .i64 i ∧ Hid (FillingI wr W.heap.size 3 ys (M + i) N) ∧ Below W.heap.size W wr) (fun _ x _ => M - (intOf x).toNat)
      case atStart => exact ⟨0, Nat.zero_le _, rfl, rfl, HF, hB⟩
      case round =>
        clear HF hB
        obtain ⟨i, hi, rfl, rfl, HF, hB⟩ := hrel
        have hsz := HF.out.lt
        by_cases hlt2 : i < M
        · obtain ⟨e1, e2, e3⟩ := HS.out i hlt2
          have hc := HF.out.read (i := i) (by omega) (by omega) SL.out
          have hd2 : decide ((i : Int) < (M : Int)) = true := decide_eq_true (by omega)
          obtain ⟨z, hzz⟩ : ∃ z, ys.getD i 0 = z := ⟨_, rfl⟩
          rw [hzz] at e1 e2 e3 hc
          have hw : IntKind.i64.wrap (z + (s : Int)) = z + (s : Int) := IntWalk.i64_in _ (by omega)
          have E1 := Lib.hid e1
          clear hzz e1
          go_wp2_with (at_builtin; refine append_fill Try.underlying28 info_i64 rfl _ _ rfl rfl HF.out rfl (by omega) SL.out E1.out (Nat.le_refl _) hB ?_; intro w' hO hb')
          have HF2 := Lib.hid hO
          clear hO
          go_wp2_with fail
          go_roundw
          case rel => exact ⟨i + 1, by omega, rfl, by go_num, HF2, hb'⟩
          case measure => (first | (simp [intOf]; done) | (simp [intOf]; omega) | (simp only [intOf]; omega))
        · obtain rfl : i = M := by omega
          have hd2 : decide ((i : Int) < (i : Int)) = false := decide_eq_false (by omega)
          go_wp2_with fail
          go_roundw
          case rel => exact ⟨i + i, PM2, rfl, HF, hB⟩
          case measure => simp only [slen]; omega
    · obtain rfl : M = N := by omega
      have hd : decide ((M : Int) < (M : Int)) = false := decide_eq_false (by omega)
      go_wp2_with fail
      go_ret2
      exact ⟨_, _, rfl, RowI.of_at (HF.out.done SL.out) SW.out SL.out (by omega), hB⟩
end Go.Proofs.Ytkfjmmhcbbfhdaa
