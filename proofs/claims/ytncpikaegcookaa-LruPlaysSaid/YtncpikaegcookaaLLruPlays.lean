/- LruPlays. -/
import Derived.Test.YtncpikaegcookaaDli
import Derived.Deep.Cut
namespace Go.Proofs.Ytncpikaegcookaa
open Go.ChangeShapes Go.WideShapes Go.ChangeAt Go.RowKit
set_option linter.unusedVariables false
set_option linter.unusedSimpArgs false
theorem getN_len (s : List (Int × Int)) (k : Int) : (getN s k).length = s.length := by
  cases hv : vidx s k with
  | none => rw [getN_none hv]
  | some j =>
    obtain ⟨p, hp, -⟩ := vidx_some hv
    rw [getN_some hv hp, List.length_cons, List.length_eraseIdx, if_pos (vidx_lt hv)]
    have := vidx_lt hv
    omega
theorem getN_nil {s : List (Int × Int)} (k : Int) (h : s = []) : getN s k = [] := by subst h; rfl
theorem delN_nil {s : List (Int × Int)} (k : Int) (h : s = []) : delN s k = [] := by subst h; rfl
theorem putL_le {room : Int} {s : List (Int × Int)} {k a : Int} (h1 : 1 ≤ room) (h : (s.length : Int) ≤ room) : ((putL room s k a).length : Int) ≤ room := by
  obtain ⟨n, rfl⟩ : ∃ n : Nat, room = n := ⟨room.toNat, by omega⟩
  rcases put_len (n := n) (k := k) (a := a) (s := s) (by omega) with h | h
  · omega
  · omega
namespace lruPlays
set_option maxRecDepth 100000 in
set_option maxHeartbeats 32000000 in
theorem walk (W : World) (a0 : Int) (w0 : -9223372036854775808 ≤ a0 ∧ a0 ≤ 9223372036854775807) (v1 : Value) (l1 : List Ac) (hR1 : RowA W W.heap.size v1 l1) :
    Calls Try.prog 3 #[.int .i64 a0, v1] W fun e W' => e = .returned (.bool true) ∧ Below W.heap.size W W' := by
  have LV := Lib.hid live32
  obtain ⟨p, c, rfl, hn, hx⟩ := hR1
  have HX := Lib.hid hx
  clear hx
  by_cases h200 : 200 < l1.length
  · have hd : decide ((l1.length : Int) > 200) = true := by simp; omega
    clear w0
    go_enter Try.func3, Try.ntmps3
    go_wp2_with fail
    refine (LV.out _).mono ?_
    rintro e x1 ⟨rfl, hb1⟩
    have HB1 := Lib.hid hb1
    clear hb1
    go_wp2_with fail
    go_ret
    exact ⟨rfl, HB1.out⟩
  · have hl : ¬ (l1.length : Int) > 200 := by omega
    by_cases hr : 1 ≤ a0 ∧ a0 ≤ 64
    · have CN := Lib.hid (fun w => l_new a0 hr w)
      go_enter Try.func3, Try.ntmps3
      go_wp2_with fail
      refine (CN.out _).mono ?_
      rintro e x1 ⟨Lb, rfl, hL1, hb1⟩
      have HL1 := Lib.hid hL1
      have HB1 := Lib.hid hb1
      have CR := Lib.hid (fun w (hb : Below x1.heap.size x1 w) => l_room W.heap.size Lb a0 [] w (hL1.below hb))
      have CI := Lib.hid (fun w => r32_is a0 w)
      have HR := Lib.hid hr
      have hrd : decide (1 ≤ a0 ∧ a0 ≤ 64) = true := by simp [hr.1, hr.2]
      clear hL1 hb1 hr w0
      go_wp2_with fail
      refine (CI.out _).mono ?_
      rintro e x2 ⟨rfl, rfl⟩
      rw [hrd]
      go_wp2_with fail
      refine (CR.out _ (Below.refl _ _)).mono ?_
      rintro e x3 ⟨rfl, rfl⟩
      go_wp2_with fail
      obtain ⟨x4, hx4⟩ : ∃ x4, x4 = x3.alloc (.cells #[.int .i64 a0, .slice none 0 0, .slice none 0 0] 32) := ⟨_, rfl⟩
      obtain ⟨S, hS⟩ : ∃ S, x3.heap.size = S := ⟨_, rfl⟩
      have HI0 := Lib.hid (show LI W x4 S Lb a0 (fun X => W.heap.size ≤ X ∧ X < x3.heap.size) [] [] none 0 none 0 from by
        have b3 : Below x3.heap.size x3 x4 := by rw [hx4]; exact (Below.refl _ _).alloc (Nat.le_refl _) _
        have hsz := HB1.out.size
        refine ⟨(dd_wide (dd_of HL1.out (D := fun X => W.heap.size ≤ X) (fun X h => h)) (fun X h1 h2 => ⟨h2, h1⟩)).below b3, ⟨.inl rfl, .inl rfl, ⟨Nat.le_refl _, Nat.zero_le _⟩, ⟨Nat.le_refl _, Nat.zero_le _⟩, by simp⟩, ?_, fun h => ?_, .inl rfl, fun X hX h => ?_, fun X hX => ?_, HB1.out.trans (b3.mono hsz), ?_⟩
        · rw [hx4, ← hS]; exact heap_alloc_new _ _
        · have := h.2; omega
        · have := h.1; omega
        · have := b3.size; have := hX.2; omega
        · omega)
      rw [← hx4]
      rw [hS]
      have HSS := Lib.hid (show S < x4.heap.size by rw [hx4]; simp; omega)
      have HXW := Lib.hid (fun (w : World) (hb : Below W.heap.size W w) (i : Nat) (y : Ac) (hi : l1[i]? = some y) => (show y.ok ∧ ∃ b o, p = some ⟨b, o, none⟩ ∧ AcAt w W.heap.size b (o + i * 3) y from by
        obtain ⟨h1, b, o, h2, h3⟩ := HX.out i y hi
        exact ⟨h1, b, o, h2, h3.below hb⟩))
      have HN := Lib.hid hl
      clear hx4 hS hl h200 hn hrd
      go_loopw [8, 9, 10, 11, 12, 13] (fun x _ _ _ _ _ wr => ∃ (i : Nat), x = .int .i64 i ∧ Hid (i ≤ l1.length) ∧ Hid (∃ D s pk ck pv cv, LI W wr S Lb a0 D s s pk ck pv cv ∧ (s.length : Int) ≤ a0)) (fun x _ _ _ _ _ _ => l1.length - (intOf x).toNat)
      case atStart => exact ⟨0, rfl, Lib.hid (Nat.zero_le _), Lib.hid ⟨_, _, _, _, _, _, HI0.out, by have := HR.out; simp; omega⟩⟩
      case round =>
        obtain ⟨i, rfl, HI, HL⟩ := hrel
        obtain ⟨D, s, pk, ck, pv, cv, hI, hsl⟩ := HL.out
        by_cases hi : i < l1.length
        · obtain ⟨y, hy⟩ : ∃ y, l1[i]? = some y := ⟨_, List.getElem?_eq_getElem hi⟩
          obtain ⟨hok, b, o, rfl, hb, c0, c1, c2⟩ := HXW.out wr hI.be i y hy
          have hblt : b < wr.heap.size := by have := hI.be.size; omega
          have hii : (i : Int) < (l1.length : Int) := by omega
          have hi0 : (0 : Int) ≤ (i : Int) := by omega
          have HII := Lib.hid hI
          have HSL := Lib.hid hsl
          have HY := Lib.hid hy
          have HOK := Lib.hid hok
          have HIL := Lib.hid hi
          clear hI hsl hy hok
          go_upto_region 15 with fail
          obtain ⟨x5, hx5⟩ : ∃ x5, x5 = wr.alloc (.cells #[.int .i64 y.d, .int .i64 y.k, .int .i64 y.v] 34) := ⟨_, rfl⟩
          obtain ⟨A, hA⟩ : ∃ A, wr.heap.size = A := ⟨_, rfl⟩
          have b5 : Below wr.heap.size wr x5 := by rw [hx5]; exact (Below.refl _ _).alloc (Nat.le_refl _) _
          have HI5 := Lib.hid (HII.out.below b5)
          have HA5 := Lib.hid (show x5.heap[A]? = some (.cells #[.int .i64 y.d, .int .i64 y.k, .int .i64 y.v] 34 (0, 0)) by rw [hx5, ← hA]; exact heap_alloc_new _ _)
          have HAD := Lib.hid (show ¬ D A from fun h => by have := HII.out.dz A h; omega)
          rw [← hx5]
          rw [hA]
          clear hx5 hA b5 c0 c1 c2 hblt hb HII HL
          --ARMS
          by_cases hd0 : y.d = 0
          · have hq0 : (y.d == 0) = true := by simp [hd0]
            have hr0 : ((0 : Int) == y.d) = true := by simp [hd0]
            clear hd0
            obtain ⟨g0, g1, g2, f0, f1, f2⟩ := row_cells3 HI5.out.b
            obtain ⟨a0', a1', a2', -, -, -⟩ := row_cells3 HA5.out
            have hlS := g_lt HI5.out.b
            have hlA := g_lt HA5.out
            clear f0 f1 f2
            have CG := Lib.hid (DD.l_get (Dn D x5) Lb a0 s y.k x5 HI5.out.lw (Dn.up D x5) ⟨HOK.out.2.1.1, HOK.out.2.1.2⟩)
            go_wp2_with fail
            refine (CG.out).mono ?_
            rintro e x6 ⟨rfl, hl6, hb6⟩
            have HI6 := Lib.hid (HI5.out.lru hl6 hb6)
            have HA6 := Lib.hid ((hb6.block A hlA (fun e => e.elim HAD.out (fun e => by omega))).trans HA5.out)
            clear g0 g1 g2 a0' a1' a2' hlS hlA
            clear hl6 hb6
            obtain ⟨g0, g1, g2, f0, f1, f2⟩ := row_cells3 HI6.out.b
            obtain ⟨a0', a1', a2', -, -, -⟩ := row_cells3 HA6.out
            have hlS := g_lt HI6.out.b
            have hlA := g_lt HA6.out
            clear f0 f1 f2
            have CR := Lib.hid (r32_get a0 s pk ck pv cv y.k x6 HI6.out.r (by have := HR.out; have := HSL.out; omega))
            unfold lrv at CR
            have HLS := Lib.hid (getN_len s y.k)
            have HE := Lib.hid (fun h : s = [] => getN_nil y.k h)
            generalize getN s y.k = s2 at *
            generalize valN s y.k = vv at *
            go_wp2_with fail
            refine (CR.out).mono ?_
            rintro e x7 ⟨⟨qk, dk, qv, dv, rfl, hr7, hn1, hn2⟩, hb7⟩
            have HI7 := Lib.hid (HI6.out.below hb7)
            have HA7 := Lib.hid ((hb7.block A hlA).trans HA6.out)
            have HI8 := Lib.hid (HI6.out.ref hb7 hr7 (near_out HI6.out hn1 hn2 HE.out))
            clear g0 g1 g2 a0' a1' a2' hlS hlA
            clear hr7 hn1 hn2 hb7
            obtain ⟨g0, g1, g2, f0, f1, f2⟩ := row_cells3 HI7.out.b
            obtain ⟨a0', a1', a2', -, -, -⟩ := row_cells3 HA7.out
            have hlS := g_lt HI7.out.b
            have hlA := g_lt HA7.out
            go_upto_region 29 with fail
            obtain ⟨x8, hx8⟩ : ∃ x8, x8 = ((x7.setCell ⟨S, 0, none⟩ (.int .i64 a0)).setCell ⟨S, 1, none⟩ (.slice qk s2.length dk)).setCell ⟨S, 2, none⟩ (.slice qv s2.length dv) := ⟨_, rfl⟩
            rw [← hx8] at HI8
            rw [← hx8]
            clear hx8 g0 g1 g2 f0 f1 f2 a0' a1' a2' hlS hlA HI7 HA7
            have HSL2 := Lib.hid (show (s2.length : Int) ≤ a0 from by rw [HLS.out]; exact HSL.out)
            have WR := Lib.hid (show wrap64 ((i : Int) + 1) = ((i + 1 : Nat) : Int) by have := HN.out; have := HIL.out; simp only [wrap64]; omega)
            have HO8 := Lib.hid (dd_to HI8.out.l)
            have CK := Lib.hid (fun u (hu : Below x8.heap.size x8 u) => l_keys 0 Lb a0 s2 u (HO8.out.below hu))
            have CL := Lib.hid (fun u (hu : Below x8.heap.size x8 u) => l_len 0 Lb a0 s2 u (HO8.out.below hu))
            have HKR := Lib.hid (fun u (hu : Below x8.heap.size x8 u) => readsI_below HI8.out.r.k hu)
            have HS8 := Lib.hid (g_lt HI8.out.b)
            have HG1 := Lib.hid (row_cells3 HI8.out.b).2.1
            have HNN := Lib.hid HI8.out.r.n
            refine wp_region_held_drew (S := fun w' => Below x8.heap.size x8 w') (by kernel_rfl) ((Below.refl _ _).drew) (fun hHeld => ?_)
            refine wpAnyH_take (i := 0) (v := ?v1) rfl (by kernel_rfl) (by kernel_rfl) (by kernel_rfl) (fun _ _ _ h => h) (Or.inl ⟨by kernel_rfl, ?hy1⟩) (by assumption) ?rest1
            case hy1 => intro w hSw; (try dsimp only at hSw); go_simp; (first | done | with_reducible rfl)
            (try simp only [Act.put, List.getElem_toArray, List.getElem_cons_zero, List.getElem_cons_succ, List.setIfInBounds_toArray, List.set_cons_zero, List.set_cons_succ])
            refine wpAnyH_take (i := 1) (v := ?v2) rfl (by kernel_rfl) (by kernel_rfl) (by kernel_rfl) (fun _ _ _ h => h) (Or.inl ⟨by kernel_rfl, ?hy2⟩) (by assumption) ?rest2
            case hy2 => intro w hSw; (try dsimp only at hSw); go_simp; (first | done | with_reducible rfl)
            (try simp only [Act.put, List.getElem_toArray, List.getElem_cons_zero, List.getElem_cons_succ, List.setIfInBounds_toArray, List.set_cons_zero, List.set_cons_succ])
            refine wpAnyH_take (i := 2) (v := ?v3) rfl (by kernel_rfl) (by kernel_rfl) (by kernel_rfl) (fun _ _ _ h => h) (Or.inl ⟨by kernel_rfl, ?hy3⟩) (by assumption) ?rest3
            case hy3 => intro w hSw; (try dsimp only at hSw); go_simp; (first | done | with_reducible rfl)
            (try simp only [Act.put, List.getElem_toArray, List.getElem_cons_zero, List.getElem_cons_succ, List.setIfInBounds_toArray, List.set_cons_zero, List.set_cons_succ])
            refine wpAnyH_take (i := 3) (v := ?v4) rfl (by kernel_rfl) (by kernel_rfl) (by kernel_rfl) (fun _ _ _ h => h) (Or.inl ⟨by kernel_rfl, ?hy4⟩) (by assumption) ?rest4
            case hy4 => intro w hSw; (try dsimp only at hSw); go_simp; (first | done | with_reducible rfl)
            (try simp only [Act.put, List.getElem_toArray, List.getElem_cons_zero, List.getElem_cons_succ, List.setIfInBounds_toArray, List.set_cons_zero, List.set_cons_succ])
            refine wpAnyH_take (i := 4) (v := ?v5) rfl (by kernel_rfl) (by kernel_rfl) (by kernel_rfl) (fun _ _ _ h => h) (Or.inl ⟨by kernel_rfl, ?hy5⟩) (by assumption) ?rest5
            case hy5 => intro w hSw; (try dsimp only at hSw); go_simp; (first | done | with_reducible rfl)
            (try simp only [Act.put, List.getElem_toArray, List.getElem_cons_zero, List.getElem_cons_succ, List.setIfInBounds_toArray, List.set_cons_zero, List.set_cons_succ])
            refine wpAnyH_take (i := 5) (v := ?v6) rfl (by kernel_rfl) (by kernel_rfl) (by kernel_rfl) (fun _ _ _ h => h) (Or.inl ⟨by kernel_rfl, ?hy6⟩) (by assumption) ?rest6
            case hy6 => intro w hSw; (try dsimp only at hSw); go_simp; (first | done | with_reducible rfl)
            (try simp only [Act.put, List.getElem_toArray, List.getElem_cons_zero, List.getElem_cons_succ, List.setIfInBounds_toArray, List.set_cons_zero, List.set_cons_succ])
            refine wpAnyH_take (i := 6) (v := ?v7) rfl (by kernel_rfl) (by kernel_rfl) (by kernel_rfl) (fun _ _ _ h => h) (Or.inl ⟨by kernel_rfl, ?hy7⟩) (by assumption) ?rest7
            case hy7 => intro w hSw; (try dsimp only at hSw); go_simp; (first | done | with_reducible rfl)
            (try simp only [Act.put, List.getElem_toArray, List.getElem_cons_zero, List.getElem_cons_succ, List.setIfInBounds_toArray, List.set_cons_zero, List.set_cons_succ])
            refine wpAnyH_take (i := 7) (v := ?v8) rfl (by kernel_rfl) (by kernel_rfl) (by kernel_rfl) (fun _ _ _ h => h) (Or.inl ⟨by kernel_rfl, ?hy8⟩) (by assumption) ?rest8
            case hy8 => intro w hSw; (try dsimp only at hSw); go_simp; (first | done | with_reducible rfl)
            (try simp only [Act.put, List.getElem_toArray, List.getElem_cons_zero, List.getElem_cons_succ, List.setIfInBounds_toArray, List.set_cons_zero, List.set_cons_succ])
            refine wpAnyH_take (i := 8) (v := ?v9) rfl (by kernel_rfl) (by kernel_rfl) (by kernel_rfl) (fun _ _ _ h => h) (Or.inl ⟨by kernel_rfl, ?hy9⟩) (by assumption) ?rest9
            case hy9 => intro w hSw; (try dsimp only at hSw); go_simp; (first | done | with_reducible rfl)
            (try simp only [Act.put, List.getElem_toArray, List.getElem_cons_zero, List.getElem_cons_succ, List.setIfInBounds_toArray, List.set_cons_zero, List.set_cons_succ])
            refine wpAnyH_take (i := 9) (v := ?v10) rfl (by kernel_rfl) (by kernel_rfl) (by kernel_rfl) (fun _ _ _ h => h) (Or.inl ⟨by kernel_rfl, ?hy10⟩) (by assumption) ?rest10
            case hy10 => intro w hSw; (try dsimp only at hSw); go_simp; (first | done | with_reducible rfl)
            (try simp only [Act.put, List.getElem_toArray, List.getElem_cons_zero, List.getElem_cons_succ, List.setIfInBounds_toArray, List.set_cons_zero, List.set_cons_succ])
            refine wpAnyH_take (i := 11) (v := ?v11) rfl (by kernel_rfl) (by kernel_rfl) (by kernel_rfl) (fun _ _ _ h => h) (Or.inl ⟨by kernel_rfl, ?hy11⟩) (by assumption) ?rest11
            case hy11 => intro w hSw; (try dsimp only at hSw); go_simp; (first | done | with_reducible rfl)
            (try simp only [Act.put, List.getElem_toArray, List.getElem_cons_zero, List.getElem_cons_succ, List.setIfInBounds_toArray, List.set_cons_zero, List.set_cons_succ])
            refine wpAnyH_take (i := 12) (v := ?v12) rfl (by kernel_rfl) (by kernel_rfl) (by kernel_rfl) (fun _ _ _ h => h) (Or.inl ⟨by kernel_rfl, ?hy12⟩) (by assumption) ?rest12
            case hy12 => intro w hSw; (try dsimp only at hSw); have hcl := (hSw.cell (p := ⟨S, 1, none⟩) HS8.out).trans HG1.out; go_simp; (first | done | with_reducible rfl)
            (try simp only [Act.put, List.getElem_toArray, List.getElem_cons_zero, List.getElem_cons_succ, List.setIfInBounds_toArray, List.set_cons_zero, List.set_cons_succ])
            refine wpAnyH_ready (rs := [10]) (by kernel_rfl) (by simp) ?_
            refine AllReadyH.cons rfl (fun K hK => ?_) AllReadyH.nil
            go_simp
            refine (CK.out _ hHeld).mono ?_
            rintro e k4 ⟨p4, c4, rfl, hr4, hb4⟩
            have HR4 := Lib.hid hr4.reads
            clear hr4
            have hHeld2 := hHeld.trans (hb4.mono hHeld.size)
            refine hK.out _ _ hHeld2 (fun _ => ?_)
            clear hK K hHeld
            have hHeld := hHeld2
            clear hHeld2 hb4
            (try simp only [Act.put, List.getElem_toArray, List.getElem_cons_zero, List.getElem_cons_succ, List.setIfInBounds_toArray, List.set_cons_zero, List.set_cons_succ])
            refine wpAnyH_ready (rs := [13]) (by kernel_rfl) (by simp) ?_
            refine AllReadyH.cons rfl (fun K hK => ?_) AllReadyH.nil
            go_simp
            have C8 := r3_samei p4 qk c4 dk (s2.map Prod.fst) (s2.map Prod.fst) k4 HR4.out (HKR.out _ hHeld) (by have := HNN.out; rw [List.length_map]; omega)
            rw [List.length_map, decide_eq_true rfl] at C8
            refine C8.mono ?_
            rintro e k5 ⟨rfl, hb5⟩
            clear C8
            have hHeld2 := hHeld.trans (hb5.mono hHeld.size)
            refine hK.out _ _ hHeld2 (fun _ => ?_)
            clear hK K hHeld
            have hHeld := hHeld2
            clear hHeld2 hb5
            (try simp only [Act.put, List.getElem_toArray, List.getElem_cons_zero, List.getElem_cons_succ, List.setIfInBounds_toArray, List.set_cons_zero, List.set_cons_succ])
            refine wpAnyH_take (i := 14) (v := ?v13) rfl (by kernel_rfl) (by kernel_rfl) (by kernel_rfl) (fun _ _ _ h => h) (Or.inl ⟨by kernel_rfl, ?hy13⟩) (by assumption) ?rest13
            case hy13 => intro w hSw; (try dsimp only at hSw); go_simp; (first | done | with_reducible rfl)
            (try simp only [Act.put, List.getElem_toArray, List.getElem_cons_zero, List.getElem_cons_succ, List.setIfInBounds_toArray, List.set_cons_zero, List.set_cons_succ])
            refine wpAnyH_take (i := 15) (v := ?v14) rfl (by kernel_rfl) (by kernel_rfl) (by kernel_rfl) (fun _ _ _ h => h) (Or.inl ⟨by kernel_rfl, ?hy14⟩) (by assumption) ?rest14
            case hy14 => intro w hSw; (try dsimp only at hSw); go_simp; (first | done | with_reducible rfl)
            (try simp only [Act.put, List.getElem_toArray, List.getElem_cons_zero, List.getElem_cons_succ, List.setIfInBounds_toArray, List.set_cons_zero, List.set_cons_succ])
            refine wpAnyH_take (i := 16) (v := ?v15) rfl (by kernel_rfl) (by kernel_rfl) (by kernel_rfl) (fun _ _ _ h => h) (Or.inl ⟨by kernel_rfl, ?hy15⟩) (by assumption) ?rest15
            case hy15 => intro w hSw; (try dsimp only at hSw); go_simp; (first | done | with_reducible rfl)
            (try simp only [Act.put, List.getElem_toArray, List.getElem_cons_zero, List.getElem_cons_succ, List.setIfInBounds_toArray, List.set_cons_zero, List.set_cons_succ])
            refine wpAnyH_take (i := 17) (v := ?v16) rfl (by kernel_rfl) (by kernel_rfl) (by kernel_rfl) (fun _ _ _ h => h) (Or.inl ⟨by kernel_rfl, ?hy16⟩) (by assumption) ?rest16
            case hy16 => intro w hSw; (try dsimp only at hSw); go_simp; (first | done | with_reducible rfl)
            (try simp only [Act.put, List.getElem_toArray, List.getElem_cons_zero, List.getElem_cons_succ, List.setIfInBounds_toArray, List.set_cons_zero, List.set_cons_succ])
            refine wpAnyH_take (i := 19) (v := ?v17) rfl (by kernel_rfl) (by kernel_rfl) (by kernel_rfl) (fun _ _ _ h => h) (Or.inl ⟨by kernel_rfl, ?hy17⟩) (by assumption) ?rest17
            case hy17 => intro w hSw; (try dsimp only at hSw); go_simp; (first | done | with_reducible rfl)
            (try simp only [Act.put, List.getElem_toArray, List.getElem_cons_zero, List.getElem_cons_succ, List.setIfInBounds_toArray, List.set_cons_zero, List.set_cons_succ])
            refine wpAnyH_take (i := 20) (v := ?v18) rfl (by kernel_rfl) (by kernel_rfl) (by kernel_rfl) (fun _ _ _ h => h) (Or.inl ⟨by kernel_rfl, ?hy18⟩) (by assumption) ?rest18
            case hy18 => intro w hSw; (try dsimp only at hSw); have hcl := (hSw.cell (p := ⟨S, 1, none⟩) HS8.out).trans HG1.out; go_simp; (first | done | with_reducible rfl)
            (try simp only [Act.put, List.getElem_toArray, List.getElem_cons_zero, List.getElem_cons_succ, List.setIfInBounds_toArray, List.set_cons_zero, List.set_cons_succ])
            refine wpAnyH_take (i := 21) (v := ?v19) rfl (by kernel_rfl) (by kernel_rfl) (by kernel_rfl) (fun _ _ _ h => h) (Or.inl ⟨by kernel_rfl, ?hy19⟩) (by assumption) ?rest19
            case hy19 => intro w hSw; (try dsimp only at hSw); go_simp; (first | done | with_reducible rfl)
            (try simp only [Act.put, List.getElem_toArray, List.getElem_cons_zero, List.getElem_cons_succ, List.setIfInBounds_toArray, List.set_cons_zero, List.set_cons_succ])
            refine wpAnyH_ready (rs := [18]) (by kernel_rfl) (by simp) ?_
            refine AllReadyH.cons rfl (fun K hK => ?_) AllReadyH.nil
            go_simp
            refine (CL.out _ hHeld).mono ?_
            rintro e k6 ⟨rfl, hk6⟩
            have hb6 : Below k5.heap.size k5 k6 := by rw [hk6]; exact Below.refl _ _
            clear hk6
            have hHeld2 := hHeld.trans (hb6.mono hHeld.size)
            refine hK.out _ _ hHeld2 (fun _ => ?_)
            clear hK K hHeld
            have hHeld := hHeld2
            clear hHeld2 hb6
            (try simp only [Act.put, List.getElem_toArray, List.getElem_cons_zero, List.getElem_cons_succ, List.setIfInBounds_toArray, List.set_cons_zero, List.set_cons_succ])
            refine wpAnyH_take (i := 22) (v := ?v20) rfl (by kernel_rfl) (by kernel_rfl) (by kernel_rfl) (fun _ _ _ h => h) (Or.inl ⟨by kernel_rfl, ?hy20⟩) (by assumption) ?rest20
            case hy20 => intro w hSw; (try dsimp only at hSw); go_simp; (first | done | with_reducible rfl)
            (try simp only [Act.put, List.getElem_toArray, List.getElem_cons_zero, List.getElem_cons_succ, List.setIfInBounds_toArray, List.set_cons_zero, List.set_cons_succ])
            refine wpAnyH_take (i := 23) (v := ?v21) rfl (by kernel_rfl) (by kernel_rfl) (by kernel_rfl) (fun _ _ _ h => h) (Or.inl ⟨by kernel_rfl, ?hy21⟩) (by assumption) ?rest21
            case hy21 => intro w hSw; (try dsimp only at hSw); go_simp; (first | done | with_reducible rfl)
            (try simp only [Act.put, List.getElem_toArray, List.getElem_cons_zero, List.getElem_cons_succ, List.setIfInBounds_toArray, List.set_cons_zero, List.set_cons_succ])
            refine wpAnyH_done (by kernel_rfl) ?_ _
            have HI9 := Lib.hid (HI8.out.below hHeld)
            clear hHeld
            go_wp2_with fail
            go_roundw
            case rel => exact ⟨i + 1, by first | rw [WR.out] | simp, Lib.hid HIL.out, Lib.hid ⟨_, s2, qk, dk, qv, dv, HI9.out, HSL2.out⟩⟩
            case measure => first | exact meas_step l1.length i HIL.out | (rw [WR.out]; exact meas_step' l1.length i HIL.out) | (simp; omega)
          · have hq0 : (y.d == 0) = false := by simp [hd0]
            have hr0 : ((0 : Int) == y.d) = false := by simp only [beq_eq_false_iff_ne, ne_eq]; exact fun e => hd0 e.symm
            clear hd0
            by_cases hd1 : y.d = 1
            · have hq1 : (y.d == 1) = true := by simp [hd1]
              have hr1 : ((1 : Int) == y.d) = true := by simp [hd1]
              clear hd1
              obtain ⟨g0, g1, g2, f0, f1, f2⟩ := row_cells3 HI5.out.b
              obtain ⟨a0', a1', a2', -, -, -⟩ := row_cells3 HA5.out
              have hlS := g_lt HI5.out.b
              have hlA := g_lt HA5.out
              clear f0 f1 f2
              have CG := Lib.hid (l_peek 0 Lb a0 s y.k x5 (dd_to HI5.out.l) ⟨HOK.out.2.1.1, HOK.out.2.1.2⟩)
              go_wp2_with fail
              refine (CG.out).mono ?_
              rintro e x6 ⟨rfl, hb6⟩
              have HI6 := Lib.hid (HI5.out.below hb6)
              have HA6 := Lib.hid ((hb6.block A hlA).trans HA5.out)
              clear g0 g1 g2 a0' a1' a2' hlS hlA
              clear hb6
              obtain ⟨g0, g1, g2, f0, f1, f2⟩ := row_cells3 HI6.out.b
              obtain ⟨a0', a1', a2', -, -, -⟩ := row_cells3 HA6.out
              have hlS := g_lt HI6.out.b
              have hlA := g_lt HA6.out
              clear f0 f1 f2
              have CR := Lib.hid (r32_peek a0 s pk ck pv cv y.k x6 HI6.out.r)
              unfold lrv at CR
              generalize valN s y.k = vv at *
              go_wp2_with fail
              refine (CR.out).mono ?_
              rintro e x8 ⟨rfl, hb7⟩
              have HI8 := Lib.hid (HI6.out.below hb7)
              clear g0 g1 g2 a0' a1' a2' hlS hlA
              clear hb7
              obtain ⟨qk, hqk⟩ : ∃ q, q = pk := ⟨_, rfl⟩
              obtain ⟨dk, hdk⟩ : ∃ q, q = ck := ⟨_, rfl⟩
              obtain ⟨qv, hqv⟩ : ∃ q, q = pv := ⟨_, rfl⟩
              obtain ⟨dv, hdv⟩ : ∃ q, q = cv := ⟨_, rfl⟩
              subst hqk hdk hqv hdv
              go_upto_region 29 with fail
              have HSL2 := Lib.hid (show (s.length : Int) ≤ a0 from HSL.out)
              have WR := Lib.hid (show wrap64 ((i : Int) + 1) = ((i + 1 : Nat) : Int) by have := HN.out; have := HIL.out; simp only [wrap64]; omega)
              have HO8 := Lib.hid (dd_to HI8.out.l)
              have CK := Lib.hid (fun u (hu : Below x8.heap.size x8 u) => l_keys 0 Lb a0 s u (HO8.out.below hu))
              have CL := Lib.hid (fun u (hu : Below x8.heap.size x8 u) => l_len 0 Lb a0 s u (HO8.out.below hu))
              have HKR := Lib.hid (fun u (hu : Below x8.heap.size x8 u) => readsI_below HI8.out.r.k hu)
              have HS8 := Lib.hid (g_lt HI8.out.b)
              have HG1 := Lib.hid (row_cells3 HI8.out.b).2.1
              have HNN := Lib.hid HI8.out.r.n
              refine wp_region_held_drew (S := fun w' => Below x8.heap.size x8 w') (by kernel_rfl) ((Below.refl _ _).drew) (fun hHeld => ?_)
              refine wpAnyH_take (i := 0) (v := ?v22) rfl (by kernel_rfl) (by kernel_rfl) (by kernel_rfl) (fun _ _ _ h => h) (Or.inl ⟨by kernel_rfl, ?hy22⟩) (by assumption) ?rest22
              case hy22 => intro w hSw; (try dsimp only at hSw); go_simp; (first | done | with_reducible rfl)
              (try simp only [Act.put, List.getElem_toArray, List.getElem_cons_zero, List.getElem_cons_succ, List.setIfInBounds_toArray, List.set_cons_zero, List.set_cons_succ])
              refine wpAnyH_take (i := 1) (v := ?v23) rfl (by kernel_rfl) (by kernel_rfl) (by kernel_rfl) (fun _ _ _ h => h) (Or.inl ⟨by kernel_rfl, ?hy23⟩) (by assumption) ?rest23
              case hy23 => intro w hSw; (try dsimp only at hSw); go_simp; (first | done | with_reducible rfl)
              (try simp only [Act.put, List.getElem_toArray, List.getElem_cons_zero, List.getElem_cons_succ, List.setIfInBounds_toArray, List.set_cons_zero, List.set_cons_succ])
              refine wpAnyH_take (i := 2) (v := ?v24) rfl (by kernel_rfl) (by kernel_rfl) (by kernel_rfl) (fun _ _ _ h => h) (Or.inl ⟨by kernel_rfl, ?hy24⟩) (by assumption) ?rest24
              case hy24 => intro w hSw; (try dsimp only at hSw); go_simp; (first | done | with_reducible rfl)
              (try simp only [Act.put, List.getElem_toArray, List.getElem_cons_zero, List.getElem_cons_succ, List.setIfInBounds_toArray, List.set_cons_zero, List.set_cons_succ])
              refine wpAnyH_take (i := 3) (v := ?v25) rfl (by kernel_rfl) (by kernel_rfl) (by kernel_rfl) (fun _ _ _ h => h) (Or.inl ⟨by kernel_rfl, ?hy25⟩) (by assumption) ?rest25
              case hy25 => intro w hSw; (try dsimp only at hSw); go_simp; (first | done | with_reducible rfl)
              (try simp only [Act.put, List.getElem_toArray, List.getElem_cons_zero, List.getElem_cons_succ, List.setIfInBounds_toArray, List.set_cons_zero, List.set_cons_succ])
              refine wpAnyH_take (i := 4) (v := ?v26) rfl (by kernel_rfl) (by kernel_rfl) (by kernel_rfl) (fun _ _ _ h => h) (Or.inl ⟨by kernel_rfl, ?hy26⟩) (by assumption) ?rest26
              case hy26 => intro w hSw; (try dsimp only at hSw); go_simp; (first | done | with_reducible rfl)
              (try simp only [Act.put, List.getElem_toArray, List.getElem_cons_zero, List.getElem_cons_succ, List.setIfInBounds_toArray, List.set_cons_zero, List.set_cons_succ])
              refine wpAnyH_take (i := 5) (v := ?v27) rfl (by kernel_rfl) (by kernel_rfl) (by kernel_rfl) (fun _ _ _ h => h) (Or.inl ⟨by kernel_rfl, ?hy27⟩) (by assumption) ?rest27
              case hy27 => intro w hSw; (try dsimp only at hSw); go_simp; (first | done | with_reducible rfl)
              (try simp only [Act.put, List.getElem_toArray, List.getElem_cons_zero, List.getElem_cons_succ, List.setIfInBounds_toArray, List.set_cons_zero, List.set_cons_succ])
              refine wpAnyH_take (i := 6) (v := ?v28) rfl (by kernel_rfl) (by kernel_rfl) (by kernel_rfl) (fun _ _ _ h => h) (Or.inl ⟨by kernel_rfl, ?hy28⟩) (by assumption) ?rest28
              case hy28 => intro w hSw; (try dsimp only at hSw); go_simp; (first | done | with_reducible rfl)
              (try simp only [Act.put, List.getElem_toArray, List.getElem_cons_zero, List.getElem_cons_succ, List.setIfInBounds_toArray, List.set_cons_zero, List.set_cons_succ])
              refine wpAnyH_take (i := 7) (v := ?v29) rfl (by kernel_rfl) (by kernel_rfl) (by kernel_rfl) (fun _ _ _ h => h) (Or.inl ⟨by kernel_rfl, ?hy29⟩) (by assumption) ?rest29
              case hy29 => intro w hSw; (try dsimp only at hSw); go_simp; (first | done | with_reducible rfl)
              (try simp only [Act.put, List.getElem_toArray, List.getElem_cons_zero, List.getElem_cons_succ, List.setIfInBounds_toArray, List.set_cons_zero, List.set_cons_succ])
              refine wpAnyH_take (i := 8) (v := ?v30) rfl (by kernel_rfl) (by kernel_rfl) (by kernel_rfl) (fun _ _ _ h => h) (Or.inl ⟨by kernel_rfl, ?hy30⟩) (by assumption) ?rest30
              case hy30 => intro w hSw; (try dsimp only at hSw); go_simp; (first | done | with_reducible rfl)
              (try simp only [Act.put, List.getElem_toArray, List.getElem_cons_zero, List.getElem_cons_succ, List.setIfInBounds_toArray, List.set_cons_zero, List.set_cons_succ])
              refine wpAnyH_take (i := 9) (v := ?v31) rfl (by kernel_rfl) (by kernel_rfl) (by kernel_rfl) (fun _ _ _ h => h) (Or.inl ⟨by kernel_rfl, ?hy31⟩) (by assumption) ?rest31
              case hy31 => intro w hSw; (try dsimp only at hSw); go_simp; (first | done | with_reducible rfl)
              (try simp only [Act.put, List.getElem_toArray, List.getElem_cons_zero, List.getElem_cons_succ, List.setIfInBounds_toArray, List.set_cons_zero, List.set_cons_succ])
              refine wpAnyH_take (i := 11) (v := ?v32) rfl (by kernel_rfl) (by kernel_rfl) (by kernel_rfl) (fun _ _ _ h => h) (Or.inl ⟨by kernel_rfl, ?hy32⟩) (by assumption) ?rest32
              case hy32 => intro w hSw; (try dsimp only at hSw); go_simp; (first | done | with_reducible rfl)
              (try simp only [Act.put, List.getElem_toArray, List.getElem_cons_zero, List.getElem_cons_succ, List.setIfInBounds_toArray, List.set_cons_zero, List.set_cons_succ])
              refine wpAnyH_take (i := 12) (v := ?v33) rfl (by kernel_rfl) (by kernel_rfl) (by kernel_rfl) (fun _ _ _ h => h) (Or.inl ⟨by kernel_rfl, ?hy33⟩) (by assumption) ?rest33
              case hy33 => intro w hSw; (try dsimp only at hSw); have hcl := (hSw.cell (p := ⟨S, 1, none⟩) HS8.out).trans HG1.out; go_simp; (first | done | with_reducible rfl)
              (try simp only [Act.put, List.getElem_toArray, List.getElem_cons_zero, List.getElem_cons_succ, List.setIfInBounds_toArray, List.set_cons_zero, List.set_cons_succ])
              refine wpAnyH_ready (rs := [10]) (by kernel_rfl) (by simp) ?_
              refine AllReadyH.cons rfl (fun K hK => ?_) AllReadyH.nil
              go_simp
              refine (CK.out _ hHeld).mono ?_
              rintro e k4 ⟨p4, c4, rfl, hr4, hb4⟩
              have HR4 := Lib.hid hr4.reads
              clear hr4
              have hHeld2 := hHeld.trans (hb4.mono hHeld.size)
              refine hK.out _ _ hHeld2 (fun _ => ?_)
              clear hK K hHeld
              have hHeld := hHeld2
              clear hHeld2 hb4
              (try simp only [Act.put, List.getElem_toArray, List.getElem_cons_zero, List.getElem_cons_succ, List.setIfInBounds_toArray, List.set_cons_zero, List.set_cons_succ])
              refine wpAnyH_ready (rs := [13]) (by kernel_rfl) (by simp) ?_
              refine AllReadyH.cons rfl (fun K hK => ?_) AllReadyH.nil
              go_simp
              have C8 := r3_samei p4 qk c4 dk (s.map Prod.fst) (s.map Prod.fst) k4 HR4.out (HKR.out _ hHeld) (by have := HNN.out; rw [List.length_map]; omega)
              rw [List.length_map, decide_eq_true rfl] at C8
              refine C8.mono ?_
              rintro e k5 ⟨rfl, hb5⟩
              clear C8
              have hHeld2 := hHeld.trans (hb5.mono hHeld.size)
              refine hK.out _ _ hHeld2 (fun _ => ?_)
              clear hK K hHeld
              have hHeld := hHeld2
              clear hHeld2 hb5
              (try simp only [Act.put, List.getElem_toArray, List.getElem_cons_zero, List.getElem_cons_succ, List.setIfInBounds_toArray, List.set_cons_zero, List.set_cons_succ])
              refine wpAnyH_take (i := 14) (v := ?v34) rfl (by kernel_rfl) (by kernel_rfl) (by kernel_rfl) (fun _ _ _ h => h) (Or.inl ⟨by kernel_rfl, ?hy34⟩) (by assumption) ?rest34
              case hy34 => intro w hSw; (try dsimp only at hSw); go_simp; (first | done | with_reducible rfl)
              (try simp only [Act.put, List.getElem_toArray, List.getElem_cons_zero, List.getElem_cons_succ, List.setIfInBounds_toArray, List.set_cons_zero, List.set_cons_succ])
              refine wpAnyH_take (i := 15) (v := ?v35) rfl (by kernel_rfl) (by kernel_rfl) (by kernel_rfl) (fun _ _ _ h => h) (Or.inl ⟨by kernel_rfl, ?hy35⟩) (by assumption) ?rest35
              case hy35 => intro w hSw; (try dsimp only at hSw); go_simp; (first | done | with_reducible rfl)
              (try simp only [Act.put, List.getElem_toArray, List.getElem_cons_zero, List.getElem_cons_succ, List.setIfInBounds_toArray, List.set_cons_zero, List.set_cons_succ])
              refine wpAnyH_take (i := 16) (v := ?v36) rfl (by kernel_rfl) (by kernel_rfl) (by kernel_rfl) (fun _ _ _ h => h) (Or.inl ⟨by kernel_rfl, ?hy36⟩) (by assumption) ?rest36
              case hy36 => intro w hSw; (try dsimp only at hSw); go_simp; (first | done | with_reducible rfl)
              (try simp only [Act.put, List.getElem_toArray, List.getElem_cons_zero, List.getElem_cons_succ, List.setIfInBounds_toArray, List.set_cons_zero, List.set_cons_succ])
              refine wpAnyH_take (i := 17) (v := ?v37) rfl (by kernel_rfl) (by kernel_rfl) (by kernel_rfl) (fun _ _ _ h => h) (Or.inl ⟨by kernel_rfl, ?hy37⟩) (by assumption) ?rest37
              case hy37 => intro w hSw; (try dsimp only at hSw); go_simp; (first | done | with_reducible rfl)
              (try simp only [Act.put, List.getElem_toArray, List.getElem_cons_zero, List.getElem_cons_succ, List.setIfInBounds_toArray, List.set_cons_zero, List.set_cons_succ])
              refine wpAnyH_take (i := 19) (v := ?v38) rfl (by kernel_rfl) (by kernel_rfl) (by kernel_rfl) (fun _ _ _ h => h) (Or.inl ⟨by kernel_rfl, ?hy38⟩) (by assumption) ?rest38
              case hy38 => intro w hSw; (try dsimp only at hSw); go_simp; (first | done | with_reducible rfl)
              (try simp only [Act.put, List.getElem_toArray, List.getElem_cons_zero, List.getElem_cons_succ, List.setIfInBounds_toArray, List.set_cons_zero, List.set_cons_succ])
              refine wpAnyH_take (i := 20) (v := ?v39) rfl (by kernel_rfl) (by kernel_rfl) (by kernel_rfl) (fun _ _ _ h => h) (Or.inl ⟨by kernel_rfl, ?hy39⟩) (by assumption) ?rest39
              case hy39 => intro w hSw; (try dsimp only at hSw); have hcl := (hSw.cell (p := ⟨S, 1, none⟩) HS8.out).trans HG1.out; go_simp; (first | done | with_reducible rfl)
              (try simp only [Act.put, List.getElem_toArray, List.getElem_cons_zero, List.getElem_cons_succ, List.setIfInBounds_toArray, List.set_cons_zero, List.set_cons_succ])
              refine wpAnyH_take (i := 21) (v := ?v40) rfl (by kernel_rfl) (by kernel_rfl) (by kernel_rfl) (fun _ _ _ h => h) (Or.inl ⟨by kernel_rfl, ?hy40⟩) (by assumption) ?rest40
              case hy40 => intro w hSw; (try dsimp only at hSw); go_simp; (first | done | with_reducible rfl)
              (try simp only [Act.put, List.getElem_toArray, List.getElem_cons_zero, List.getElem_cons_succ, List.setIfInBounds_toArray, List.set_cons_zero, List.set_cons_succ])
              refine wpAnyH_ready (rs := [18]) (by kernel_rfl) (by simp) ?_
              refine AllReadyH.cons rfl (fun K hK => ?_) AllReadyH.nil
              go_simp
              refine (CL.out _ hHeld).mono ?_
              rintro e k6 ⟨rfl, hk6⟩
              have hb6 : Below k5.heap.size k5 k6 := by rw [hk6]; exact Below.refl _ _
              clear hk6
              have hHeld2 := hHeld.trans (hb6.mono hHeld.size)
              refine hK.out _ _ hHeld2 (fun _ => ?_)
              clear hK K hHeld
              have hHeld := hHeld2
              clear hHeld2 hb6
              (try simp only [Act.put, List.getElem_toArray, List.getElem_cons_zero, List.getElem_cons_succ, List.setIfInBounds_toArray, List.set_cons_zero, List.set_cons_succ])
              refine wpAnyH_take (i := 22) (v := ?v41) rfl (by kernel_rfl) (by kernel_rfl) (by kernel_rfl) (fun _ _ _ h => h) (Or.inl ⟨by kernel_rfl, ?hy41⟩) (by assumption) ?rest41
              case hy41 => intro w hSw; (try dsimp only at hSw); go_simp; (first | done | with_reducible rfl)
              (try simp only [Act.put, List.getElem_toArray, List.getElem_cons_zero, List.getElem_cons_succ, List.setIfInBounds_toArray, List.set_cons_zero, List.set_cons_succ])
              refine wpAnyH_take (i := 23) (v := ?v42) rfl (by kernel_rfl) (by kernel_rfl) (by kernel_rfl) (fun _ _ _ h => h) (Or.inl ⟨by kernel_rfl, ?hy42⟩) (by assumption) ?rest42
              case hy42 => intro w hSw; (try dsimp only at hSw); go_simp; (first | done | with_reducible rfl)
              (try simp only [Act.put, List.getElem_toArray, List.getElem_cons_zero, List.getElem_cons_succ, List.setIfInBounds_toArray, List.set_cons_zero, List.set_cons_succ])
              refine wpAnyH_done (by kernel_rfl) ?_ _
              have HI9 := Lib.hid (HI8.out.below hHeld)
              clear hHeld
              go_wp2_with fail
              go_roundw
              case rel => exact ⟨i + 1, by first | rw [WR.out] | simp, Lib.hid HIL.out, Lib.hid ⟨_, s, qk, dk, qv, dv, HI9.out, HSL2.out⟩⟩
              case measure => first | exact meas_step l1.length i HIL.out | (rw [WR.out]; exact meas_step' l1.length i HIL.out) | (simp; omega)
            · have hq1 : (y.d == 1) = false := by simp [hd1]
              have hr1 : ((1 : Int) == y.d) = false := by simp only [beq_eq_false_iff_ne, ne_eq]; exact fun e => hd1 e.symm
              clear hd1
              by_cases hd2 : y.d = 2
              · have hq2 : (y.d == 2) = true := by simp [hd2]
                have hr2 : ((2 : Int) == y.d) = true := by simp [hd2]
                clear hd2
                obtain ⟨g0, g1, g2, f0, f1, f2⟩ := row_cells3 HI5.out.b
                obtain ⟨a0', a1', a2', -, -, -⟩ := row_cells3 HA5.out
                have hlS := g_lt HI5.out.b
                have hlA := g_lt HA5.out
                clear f0 f1 f2
                have CG := Lib.hid (DD.l_put (Dn D x5) Lb a0 s y.k y.v x5 HI5.out.lw (Dn.up D x5) ⟨HOK.out.2.1.1, HOK.out.2.1.2⟩ (by have := HR.out; have := HSL.out; omega))
                go_wp2_with fail
                refine (CG.out).mono ?_
                rintro e x6 ⟨rfl, hl6, hb6⟩
                have HI6 := Lib.hid (HI5.out.lru hl6 hb6)
                have HA6 := Lib.hid ((hb6.block A hlA (fun e => e.elim HAD.out (fun e => by omega))).trans HA5.out)
                clear g0 g1 g2 a0' a1' a2' hlS hlA
                clear hl6 hb6
                obtain ⟨g0, g1, g2, f0, f1, f2⟩ := row_cells3 HI6.out.b
                obtain ⟨a0', a1', a2', -, -, -⟩ := row_cells3 HA6.out
                have hlS := g_lt HI6.out.b
                have hlA := g_lt HA6.out
                clear f0 f1 f2
                have CR := Lib.hid (r32_put a0 s pk ck pv cv y.k y.v x6 HI6.out.r (by have := HR.out; have := HSL.out; omega) HSL.out)
                unfold lrv at CR
                have HLS := Lib.hid (putL_le (k := y.k) (a := y.v) HR.out.1 HSL.out)
                generalize putL a0 s y.k y.v = s2 at *
                generalize putV a0 s y.k y.v = vv at *
                go_wp2_with fail
                refine (CR.out).mono ?_
                rintro e x7 ⟨⟨qk, dk, qv, dv, rfl, hr7, hn1, hn2⟩, hb7⟩
                have HI7 := Lib.hid (HI6.out.below hb7)
                have HA7 := Lib.hid ((hb7.block A hlA).trans HA6.out)
                have HI8 := Lib.hid (HI6.out.ref hb7 hr7 (fresh_out HI6.out hn1 hn2))
                clear g0 g1 g2 a0' a1' a2' hlS hlA
                clear hr7 hn1 hn2 hb7
                obtain ⟨g0, g1, g2, f0, f1, f2⟩ := row_cells3 HI7.out.b
                obtain ⟨a0', a1', a2', -, -, -⟩ := row_cells3 HA7.out
                have hlS := g_lt HI7.out.b
                have hlA := g_lt HA7.out
                go_upto_region 29 with fail
                obtain ⟨x8, hx8⟩ : ∃ x8, x8 = ((x7.setCell ⟨S, 0, none⟩ (.int .i64 a0)).setCell ⟨S, 1, none⟩ (.slice qk s2.length dk)).setCell ⟨S, 2, none⟩ (.slice qv s2.length dv) := ⟨_, rfl⟩
                rw [← hx8] at HI8
                rw [← hx8]
                clear hx8 g0 g1 g2 f0 f1 f2 a0' a1' a2' hlS hlA HI7 HA7
                have HSL2 := Lib.hid (show (s2.length : Int) ≤ a0 from HLS.out)
                have WR := Lib.hid (show wrap64 ((i : Int) + 1) = ((i + 1 : Nat) : Int) by have := HN.out; have := HIL.out; simp only [wrap64]; omega)
                have HO8 := Lib.hid (dd_to HI8.out.l)
                have CK := Lib.hid (fun u (hu : Below x8.heap.size x8 u) => l_keys 0 Lb a0 s2 u (HO8.out.below hu))
                have CL := Lib.hid (fun u (hu : Below x8.heap.size x8 u) => l_len 0 Lb a0 s2 u (HO8.out.below hu))
                have HKR := Lib.hid (fun u (hu : Below x8.heap.size x8 u) => readsI_below HI8.out.r.k hu)
                have HS8 := Lib.hid (g_lt HI8.out.b)
                have HG1 := Lib.hid (row_cells3 HI8.out.b).2.1
                have HNN := Lib.hid HI8.out.r.n
                refine wp_region_held_drew (S := fun w' => Below x8.heap.size x8 w') (by kernel_rfl) ((Below.refl _ _).drew) (fun hHeld => ?_)
                refine wpAnyH_take (i := 0) (v := ?v43) rfl (by kernel_rfl) (by kernel_rfl) (by kernel_rfl) (fun _ _ _ h => h) (Or.inl ⟨by kernel_rfl, ?hy43⟩) (by assumption) ?rest43
                case hy43 => intro w hSw; (try dsimp only at hSw); go_simp; (first | done | with_reducible rfl)
                (try simp only [Act.put, List.getElem_toArray, List.getElem_cons_zero, List.getElem_cons_succ, List.setIfInBounds_toArray, List.set_cons_zero, List.set_cons_succ])
                refine wpAnyH_take (i := 1) (v := ?v44) rfl (by kernel_rfl) (by kernel_rfl) (by kernel_rfl) (fun _ _ _ h => h) (Or.inl ⟨by kernel_rfl, ?hy44⟩) (by assumption) ?rest44
                case hy44 => intro w hSw; (try dsimp only at hSw); go_simp; (first | done | with_reducible rfl)
                (try simp only [Act.put, List.getElem_toArray, List.getElem_cons_zero, List.getElem_cons_succ, List.setIfInBounds_toArray, List.set_cons_zero, List.set_cons_succ])
                refine wpAnyH_take (i := 2) (v := ?v45) rfl (by kernel_rfl) (by kernel_rfl) (by kernel_rfl) (fun _ _ _ h => h) (Or.inl ⟨by kernel_rfl, ?hy45⟩) (by assumption) ?rest45
                case hy45 => intro w hSw; (try dsimp only at hSw); go_simp; (first | done | with_reducible rfl)
                (try simp only [Act.put, List.getElem_toArray, List.getElem_cons_zero, List.getElem_cons_succ, List.setIfInBounds_toArray, List.set_cons_zero, List.set_cons_succ])
                refine wpAnyH_take (i := 3) (v := ?v46) rfl (by kernel_rfl) (by kernel_rfl) (by kernel_rfl) (fun _ _ _ h => h) (Or.inl ⟨by kernel_rfl, ?hy46⟩) (by assumption) ?rest46
                case hy46 => intro w hSw; (try dsimp only at hSw); go_simp; (first | done | with_reducible rfl)
                (try simp only [Act.put, List.getElem_toArray, List.getElem_cons_zero, List.getElem_cons_succ, List.setIfInBounds_toArray, List.set_cons_zero, List.set_cons_succ])
                refine wpAnyH_take (i := 4) (v := ?v47) rfl (by kernel_rfl) (by kernel_rfl) (by kernel_rfl) (fun _ _ _ h => h) (Or.inl ⟨by kernel_rfl, ?hy47⟩) (by assumption) ?rest47
                case hy47 => intro w hSw; (try dsimp only at hSw); go_simp; (first | done | with_reducible rfl)
                (try simp only [Act.put, List.getElem_toArray, List.getElem_cons_zero, List.getElem_cons_succ, List.setIfInBounds_toArray, List.set_cons_zero, List.set_cons_succ])
                refine wpAnyH_take (i := 5) (v := ?v48) rfl (by kernel_rfl) (by kernel_rfl) (by kernel_rfl) (fun _ _ _ h => h) (Or.inl ⟨by kernel_rfl, ?hy48⟩) (by assumption) ?rest48
                case hy48 => intro w hSw; (try dsimp only at hSw); go_simp; (first | done | with_reducible rfl)
                (try simp only [Act.put, List.getElem_toArray, List.getElem_cons_zero, List.getElem_cons_succ, List.setIfInBounds_toArray, List.set_cons_zero, List.set_cons_succ])
                refine wpAnyH_take (i := 6) (v := ?v49) rfl (by kernel_rfl) (by kernel_rfl) (by kernel_rfl) (fun _ _ _ h => h) (Or.inl ⟨by kernel_rfl, ?hy49⟩) (by assumption) ?rest49
                case hy49 => intro w hSw; (try dsimp only at hSw); go_simp; (first | done | with_reducible rfl)
                (try simp only [Act.put, List.getElem_toArray, List.getElem_cons_zero, List.getElem_cons_succ, List.setIfInBounds_toArray, List.set_cons_zero, List.set_cons_succ])
                refine wpAnyH_take (i := 7) (v := ?v50) rfl (by kernel_rfl) (by kernel_rfl) (by kernel_rfl) (fun _ _ _ h => h) (Or.inl ⟨by kernel_rfl, ?hy50⟩) (by assumption) ?rest50
                case hy50 => intro w hSw; (try dsimp only at hSw); go_simp; (first | done | with_reducible rfl)
                (try simp only [Act.put, List.getElem_toArray, List.getElem_cons_zero, List.getElem_cons_succ, List.setIfInBounds_toArray, List.set_cons_zero, List.set_cons_succ])
                refine wpAnyH_take (i := 8) (v := ?v51) rfl (by kernel_rfl) (by kernel_rfl) (by kernel_rfl) (fun _ _ _ h => h) (Or.inl ⟨by kernel_rfl, ?hy51⟩) (by assumption) ?rest51
                case hy51 => intro w hSw; (try dsimp only at hSw); go_simp; (first | done | with_reducible rfl)
                (try simp only [Act.put, List.getElem_toArray, List.getElem_cons_zero, List.getElem_cons_succ, List.setIfInBounds_toArray, List.set_cons_zero, List.set_cons_succ])
                refine wpAnyH_take (i := 9) (v := ?v52) rfl (by kernel_rfl) (by kernel_rfl) (by kernel_rfl) (fun _ _ _ h => h) (Or.inl ⟨by kernel_rfl, ?hy52⟩) (by assumption) ?rest52
                case hy52 => intro w hSw; (try dsimp only at hSw); go_simp; (first | done | with_reducible rfl)
                (try simp only [Act.put, List.getElem_toArray, List.getElem_cons_zero, List.getElem_cons_succ, List.setIfInBounds_toArray, List.set_cons_zero, List.set_cons_succ])
                refine wpAnyH_take (i := 11) (v := ?v53) rfl (by kernel_rfl) (by kernel_rfl) (by kernel_rfl) (fun _ _ _ h => h) (Or.inl ⟨by kernel_rfl, ?hy53⟩) (by assumption) ?rest53
                case hy53 => intro w hSw; (try dsimp only at hSw); go_simp; (first | done | with_reducible rfl)
                (try simp only [Act.put, List.getElem_toArray, List.getElem_cons_zero, List.getElem_cons_succ, List.setIfInBounds_toArray, List.set_cons_zero, List.set_cons_succ])
                refine wpAnyH_take (i := 12) (v := ?v54) rfl (by kernel_rfl) (by kernel_rfl) (by kernel_rfl) (fun _ _ _ h => h) (Or.inl ⟨by kernel_rfl, ?hy54⟩) (by assumption) ?rest54
                case hy54 => intro w hSw; (try dsimp only at hSw); have hcl := (hSw.cell (p := ⟨S, 1, none⟩) HS8.out).trans HG1.out; go_simp; (first | done | with_reducible rfl)
                (try simp only [Act.put, List.getElem_toArray, List.getElem_cons_zero, List.getElem_cons_succ, List.setIfInBounds_toArray, List.set_cons_zero, List.set_cons_succ])
                refine wpAnyH_ready (rs := [10]) (by kernel_rfl) (by simp) ?_
                refine AllReadyH.cons rfl (fun K hK => ?_) AllReadyH.nil
                go_simp
                refine (CK.out _ hHeld).mono ?_
                rintro e k4 ⟨p4, c4, rfl, hr4, hb4⟩
                have HR4 := Lib.hid hr4.reads
                clear hr4
                have hHeld2 := hHeld.trans (hb4.mono hHeld.size)
                refine hK.out _ _ hHeld2 (fun _ => ?_)
                clear hK K hHeld
                have hHeld := hHeld2
                clear hHeld2 hb4
                (try simp only [Act.put, List.getElem_toArray, List.getElem_cons_zero, List.getElem_cons_succ, List.setIfInBounds_toArray, List.set_cons_zero, List.set_cons_succ])
                refine wpAnyH_ready (rs := [13]) (by kernel_rfl) (by simp) ?_
                refine AllReadyH.cons rfl (fun K hK => ?_) AllReadyH.nil
                go_simp
                have C8 := r3_samei p4 qk c4 dk (s2.map Prod.fst) (s2.map Prod.fst) k4 HR4.out (HKR.out _ hHeld) (by have := HNN.out; rw [List.length_map]; omega)
                rw [List.length_map, decide_eq_true rfl] at C8
                refine C8.mono ?_
                rintro e k5 ⟨rfl, hb5⟩
                clear C8
                have hHeld2 := hHeld.trans (hb5.mono hHeld.size)
                refine hK.out _ _ hHeld2 (fun _ => ?_)
                clear hK K hHeld
                have hHeld := hHeld2
                clear hHeld2 hb5
                (try simp only [Act.put, List.getElem_toArray, List.getElem_cons_zero, List.getElem_cons_succ, List.setIfInBounds_toArray, List.set_cons_zero, List.set_cons_succ])
                refine wpAnyH_take (i := 14) (v := ?v55) rfl (by kernel_rfl) (by kernel_rfl) (by kernel_rfl) (fun _ _ _ h => h) (Or.inl ⟨by kernel_rfl, ?hy55⟩) (by assumption) ?rest55
                case hy55 => intro w hSw; (try dsimp only at hSw); go_simp; (first | done | with_reducible rfl)
                (try simp only [Act.put, List.getElem_toArray, List.getElem_cons_zero, List.getElem_cons_succ, List.setIfInBounds_toArray, List.set_cons_zero, List.set_cons_succ])
                refine wpAnyH_take (i := 15) (v := ?v56) rfl (by kernel_rfl) (by kernel_rfl) (by kernel_rfl) (fun _ _ _ h => h) (Or.inl ⟨by kernel_rfl, ?hy56⟩) (by assumption) ?rest56
                case hy56 => intro w hSw; (try dsimp only at hSw); go_simp; (first | done | with_reducible rfl)
                (try simp only [Act.put, List.getElem_toArray, List.getElem_cons_zero, List.getElem_cons_succ, List.setIfInBounds_toArray, List.set_cons_zero, List.set_cons_succ])
                refine wpAnyH_take (i := 16) (v := ?v57) rfl (by kernel_rfl) (by kernel_rfl) (by kernel_rfl) (fun _ _ _ h => h) (Or.inl ⟨by kernel_rfl, ?hy57⟩) (by assumption) ?rest57
                case hy57 => intro w hSw; (try dsimp only at hSw); go_simp; (first | done | with_reducible rfl)
                (try simp only [Act.put, List.getElem_toArray, List.getElem_cons_zero, List.getElem_cons_succ, List.setIfInBounds_toArray, List.set_cons_zero, List.set_cons_succ])
                refine wpAnyH_take (i := 17) (v := ?v58) rfl (by kernel_rfl) (by kernel_rfl) (by kernel_rfl) (fun _ _ _ h => h) (Or.inl ⟨by kernel_rfl, ?hy58⟩) (by assumption) ?rest58
                case hy58 => intro w hSw; (try dsimp only at hSw); go_simp; (first | done | with_reducible rfl)
                (try simp only [Act.put, List.getElem_toArray, List.getElem_cons_zero, List.getElem_cons_succ, List.setIfInBounds_toArray, List.set_cons_zero, List.set_cons_succ])
                refine wpAnyH_take (i := 19) (v := ?v59) rfl (by kernel_rfl) (by kernel_rfl) (by kernel_rfl) (fun _ _ _ h => h) (Or.inl ⟨by kernel_rfl, ?hy59⟩) (by assumption) ?rest59
                case hy59 => intro w hSw; (try dsimp only at hSw); go_simp; (first | done | with_reducible rfl)
                (try simp only [Act.put, List.getElem_toArray, List.getElem_cons_zero, List.getElem_cons_succ, List.setIfInBounds_toArray, List.set_cons_zero, List.set_cons_succ])
                refine wpAnyH_take (i := 20) (v := ?v60) rfl (by kernel_rfl) (by kernel_rfl) (by kernel_rfl) (fun _ _ _ h => h) (Or.inl ⟨by kernel_rfl, ?hy60⟩) (by assumption) ?rest60
                case hy60 => intro w hSw; (try dsimp only at hSw); have hcl := (hSw.cell (p := ⟨S, 1, none⟩) HS8.out).trans HG1.out; go_simp; (first | done | with_reducible rfl)
                (try simp only [Act.put, List.getElem_toArray, List.getElem_cons_zero, List.getElem_cons_succ, List.setIfInBounds_toArray, List.set_cons_zero, List.set_cons_succ])
                refine wpAnyH_take (i := 21) (v := ?v61) rfl (by kernel_rfl) (by kernel_rfl) (by kernel_rfl) (fun _ _ _ h => h) (Or.inl ⟨by kernel_rfl, ?hy61⟩) (by assumption) ?rest61
                case hy61 => intro w hSw; (try dsimp only at hSw); go_simp; (first | done | with_reducible rfl)
                (try simp only [Act.put, List.getElem_toArray, List.getElem_cons_zero, List.getElem_cons_succ, List.setIfInBounds_toArray, List.set_cons_zero, List.set_cons_succ])
                refine wpAnyH_ready (rs := [18]) (by kernel_rfl) (by simp) ?_
                refine AllReadyH.cons rfl (fun K hK => ?_) AllReadyH.nil
                go_simp
                refine (CL.out _ hHeld).mono ?_
                rintro e k6 ⟨rfl, hk6⟩
                have hb6 : Below k5.heap.size k5 k6 := by rw [hk6]; exact Below.refl _ _
                clear hk6
                have hHeld2 := hHeld.trans (hb6.mono hHeld.size)
                refine hK.out _ _ hHeld2 (fun _ => ?_)
                clear hK K hHeld
                have hHeld := hHeld2
                clear hHeld2 hb6
                (try simp only [Act.put, List.getElem_toArray, List.getElem_cons_zero, List.getElem_cons_succ, List.setIfInBounds_toArray, List.set_cons_zero, List.set_cons_succ])
                refine wpAnyH_take (i := 22) (v := ?v62) rfl (by kernel_rfl) (by kernel_rfl) (by kernel_rfl) (fun _ _ _ h => h) (Or.inl ⟨by kernel_rfl, ?hy62⟩) (by assumption) ?rest62
                case hy62 => intro w hSw; (try dsimp only at hSw); go_simp; (first | done | with_reducible rfl)
                (try simp only [Act.put, List.getElem_toArray, List.getElem_cons_zero, List.getElem_cons_succ, List.setIfInBounds_toArray, List.set_cons_zero, List.set_cons_succ])
                refine wpAnyH_take (i := 23) (v := ?v63) rfl (by kernel_rfl) (by kernel_rfl) (by kernel_rfl) (fun _ _ _ h => h) (Or.inl ⟨by kernel_rfl, ?hy63⟩) (by assumption) ?rest63
                case hy63 => intro w hSw; (try dsimp only at hSw); go_simp; (first | done | with_reducible rfl)
                (try simp only [Act.put, List.getElem_toArray, List.getElem_cons_zero, List.getElem_cons_succ, List.setIfInBounds_toArray, List.set_cons_zero, List.set_cons_succ])
                refine wpAnyH_done (by kernel_rfl) ?_ _
                have HI9 := Lib.hid (HI8.out.below hHeld)
                clear hHeld
                go_wp2_with fail
                go_roundw
                case rel => exact ⟨i + 1, by first | rw [WR.out] | simp, Lib.hid HIL.out, Lib.hid ⟨_, s2, qk, dk, qv, dv, HI9.out, HSL2.out⟩⟩
                case measure => first | exact meas_step l1.length i HIL.out | (rw [WR.out]; exact meas_step' l1.length i HIL.out) | (simp; omega)
              · have hq2 : (y.d == 2) = false := by simp [hd2]
                have hr2 : ((2 : Int) == y.d) = false := by simp only [beq_eq_false_iff_ne, ne_eq]; exact fun e => hd2 e.symm
                clear hd2
                by_cases hd3 : y.d = 3
                · have hq3 : (y.d == 3) = true := by simp [hd3]
                  have hr3 : ((3 : Int) == y.d) = true := by simp [hd3]
                  clear hd3
                  obtain ⟨g0, g1, g2, f0, f1, f2⟩ := row_cells3 HI5.out.b
                  obtain ⟨a0', a1', a2', -, -, -⟩ := row_cells3 HA5.out
                  have hlS := g_lt HI5.out.b
                  have hlA := g_lt HA5.out
                  clear f0 f1 f2
                  have CG := Lib.hid (DD.l_del (Dn D x5) Lb a0 s y.k x5 HI5.out.lw (Dn.up D x5) ⟨HOK.out.2.1.1, HOK.out.2.1.2⟩)
                  go_wp2_with fail
                  refine (CG.out).mono ?_
                  rintro e x6 ⟨rfl, hl6, hb6⟩
                  have HI6 := Lib.hid (HI5.out.lru hl6 hb6)
                  have HA6 := Lib.hid ((hb6.block A hlA (fun e => e.elim HAD.out (fun e => by omega))).trans HA5.out)
                  clear g0 g1 g2 a0' a1' a2' hlS hlA
                  clear hl6 hb6
                  obtain ⟨g0, g1, g2, f0, f1, f2⟩ := row_cells3 HI6.out.b
                  obtain ⟨a0', a1', a2', -, -, -⟩ := row_cells3 HA6.out
                  have hlS := g_lt HI6.out.b
                  have hlA := g_lt HA6.out
                  clear f0 f1 f2
                  have CR := Lib.hid (r32_peek a0 s pk ck pv cv y.k x6 HI6.out.r)
                  unfold lrv at CR
                  have CD := Lib.hid (fun u (hu : Below x6.heap.size x6 u) => r32_del a0 s pk ck pv cv y.k u (HI6.out.r.below hu))
                  unfold lrv at CD
                  have HLS := Lib.hid (delN_len s y.k)
                  have HE := Lib.hid (fun h : s = [] => delN_nil y.k h)
                  generalize delN s y.k = s2 at *
                  generalize valN s y.k = vv at *
                  go_wp2_with fail
                  refine (CR.out).mono ?_
                  rintro e y7 ⟨rfl, hb6⟩
                  have HY7 := Lib.hid hb6
                  have HI65 := Lib.hid (HI6.out.below hb6)
                  have HA65 := Lib.hid ((hb6.block A hlA).trans HA6.out)
                  clear g0 g1 g2 a0' a1' a2' hlS hlA
                  clear hb6
                  obtain ⟨g0, g1, g2, f0, f1, f2⟩ := row_cells3 HI65.out.b
                  obtain ⟨a0', a1', a2', -, -, -⟩ := row_cells3 HA65.out
                  have hlS := g_lt HI65.out.b
                  have hlA := g_lt HA65.out
                  clear f0 f1 f2
                  go_wp2_with fail
                  refine (CD.out _ HY7.out).mono ?_
                  rintro e x7 ⟨⟨qk, dk, qv, dv, rfl, hr7, hn1, hn2⟩, hb7⟩
                  have HI7 := Lib.hid (HI65.out.below hb7)
                  have HA7 := Lib.hid ((hb7.block A hlA).trans HA65.out)
                  have HI8 := Lib.hid (HI65.out.ref hb7 hr7 (near_out HI65.out hn1 hn2 HE.out))
                  clear g0 g1 g2 a0' a1' a2' hlS hlA
                  clear hr7 hn1 hn2 hb7
                  obtain ⟨g0, g1, g2, f0, f1, f2⟩ := row_cells3 HI7.out.b
                  obtain ⟨a0', a1', a2', -, -, -⟩ := row_cells3 HA7.out
                  have hlS := g_lt HI7.out.b
                  have hlA := g_lt HA7.out
                  go_upto_region 29 with fail
                  obtain ⟨x8, hx8⟩ : ∃ x8, x8 = ((x7.setCell ⟨S, 0, none⟩ (.int .i64 a0)).setCell ⟨S, 1, none⟩ (.slice qk s2.length dk)).setCell ⟨S, 2, none⟩ (.slice qv s2.length dv) := ⟨_, rfl⟩
                  rw [← hx8] at HI8
                  rw [← hx8]
                  clear hx8 g0 g1 g2 f0 f1 f2 a0' a1' a2' hlS hlA HI7 HA7
                  have HSL2 := Lib.hid (show (s2.length : Int) ≤ a0 from by have := HLS.out; have := HSL.out; omega)
                  have WR := Lib.hid (show wrap64 ((i : Int) + 1) = ((i + 1 : Nat) : Int) by have := HN.out; have := HIL.out; simp only [wrap64]; omega)
                  have HO8 := Lib.hid (dd_to HI8.out.l)
                  have CK := Lib.hid (fun u (hu : Below x8.heap.size x8 u) => l_keys 0 Lb a0 s2 u (HO8.out.below hu))
                  have CL := Lib.hid (fun u (hu : Below x8.heap.size x8 u) => l_len 0 Lb a0 s2 u (HO8.out.below hu))
                  have HKR := Lib.hid (fun u (hu : Below x8.heap.size x8 u) => readsI_below HI8.out.r.k hu)
                  have HS8 := Lib.hid (g_lt HI8.out.b)
                  have HG1 := Lib.hid (row_cells3 HI8.out.b).2.1
                  have HNN := Lib.hid HI8.out.r.n
                  refine wp_region_held_drew (S := fun w' => Below x8.heap.size x8 w') (by kernel_rfl) ((Below.refl _ _).drew) (fun hHeld => ?_)
                  refine wpAnyH_take (i := 0) (v := ?v64) rfl (by kernel_rfl) (by kernel_rfl) (by kernel_rfl) (fun _ _ _ h => h) (Or.inl ⟨by kernel_rfl, ?hy64⟩) (by assumption) ?rest64
                  case hy64 => intro w hSw; (try dsimp only at hSw); go_simp; (first | done | with_reducible rfl)
                  (try simp only [Act.put, List.getElem_toArray, List.getElem_cons_zero, List.getElem_cons_succ, List.setIfInBounds_toArray, List.set_cons_zero, List.set_cons_succ])
                  refine wpAnyH_take (i := 1) (v := ?v65) rfl (by kernel_rfl) (by kernel_rfl) (by kernel_rfl) (fun _ _ _ h => h) (Or.inl ⟨by kernel_rfl, ?hy65⟩) (by assumption) ?rest65
                  case hy65 => intro w hSw; (try dsimp only at hSw); go_simp; (first | done | with_reducible rfl)
                  (try simp only [Act.put, List.getElem_toArray, List.getElem_cons_zero, List.getElem_cons_succ, List.setIfInBounds_toArray, List.set_cons_zero, List.set_cons_succ])
                  refine wpAnyH_take (i := 2) (v := ?v66) rfl (by kernel_rfl) (by kernel_rfl) (by kernel_rfl) (fun _ _ _ h => h) (Or.inl ⟨by kernel_rfl, ?hy66⟩) (by assumption) ?rest66
                  case hy66 => intro w hSw; (try dsimp only at hSw); go_simp; (first | done | with_reducible rfl)
                  (try simp only [Act.put, List.getElem_toArray, List.getElem_cons_zero, List.getElem_cons_succ, List.setIfInBounds_toArray, List.set_cons_zero, List.set_cons_succ])
                  refine wpAnyH_take (i := 3) (v := ?v67) rfl (by kernel_rfl) (by kernel_rfl) (by kernel_rfl) (fun _ _ _ h => h) (Or.inl ⟨by kernel_rfl, ?hy67⟩) (by assumption) ?rest67
                  case hy67 => intro w hSw; (try dsimp only at hSw); go_simp; (first | done | with_reducible rfl)
                  (try simp only [Act.put, List.getElem_toArray, List.getElem_cons_zero, List.getElem_cons_succ, List.setIfInBounds_toArray, List.set_cons_zero, List.set_cons_succ])
                  refine wpAnyH_take (i := 4) (v := ?v68) rfl (by kernel_rfl) (by kernel_rfl) (by kernel_rfl) (fun _ _ _ h => h) (Or.inl ⟨by kernel_rfl, ?hy68⟩) (by assumption) ?rest68
                  case hy68 => intro w hSw; (try dsimp only at hSw); go_simp; (first | done | with_reducible rfl)
                  (try simp only [Act.put, List.getElem_toArray, List.getElem_cons_zero, List.getElem_cons_succ, List.setIfInBounds_toArray, List.set_cons_zero, List.set_cons_succ])
                  refine wpAnyH_take (i := 5) (v := ?v69) rfl (by kernel_rfl) (by kernel_rfl) (by kernel_rfl) (fun _ _ _ h => h) (Or.inl ⟨by kernel_rfl, ?hy69⟩) (by assumption) ?rest69
                  case hy69 => intro w hSw; (try dsimp only at hSw); go_simp; (first | done | with_reducible rfl)
                  (try simp only [Act.put, List.getElem_toArray, List.getElem_cons_zero, List.getElem_cons_succ, List.setIfInBounds_toArray, List.set_cons_zero, List.set_cons_succ])
                  refine wpAnyH_take (i := 6) (v := ?v70) rfl (by kernel_rfl) (by kernel_rfl) (by kernel_rfl) (fun _ _ _ h => h) (Or.inl ⟨by kernel_rfl, ?hy70⟩) (by assumption) ?rest70
                  case hy70 => intro w hSw; (try dsimp only at hSw); go_simp; (first | done | with_reducible rfl)
                  (try simp only [Act.put, List.getElem_toArray, List.getElem_cons_zero, List.getElem_cons_succ, List.setIfInBounds_toArray, List.set_cons_zero, List.set_cons_succ])
                  refine wpAnyH_take (i := 7) (v := ?v71) rfl (by kernel_rfl) (by kernel_rfl) (by kernel_rfl) (fun _ _ _ h => h) (Or.inl ⟨by kernel_rfl, ?hy71⟩) (by assumption) ?rest71
                  case hy71 => intro w hSw; (try dsimp only at hSw); go_simp; (first | done | with_reducible rfl)
                  (try simp only [Act.put, List.getElem_toArray, List.getElem_cons_zero, List.getElem_cons_succ, List.setIfInBounds_toArray, List.set_cons_zero, List.set_cons_succ])
                  refine wpAnyH_take (i := 8) (v := ?v72) rfl (by kernel_rfl) (by kernel_rfl) (by kernel_rfl) (fun _ _ _ h => h) (Or.inl ⟨by kernel_rfl, ?hy72⟩) (by assumption) ?rest72
                  case hy72 => intro w hSw; (try dsimp only at hSw); go_simp; (first | done | with_reducible rfl)
                  (try simp only [Act.put, List.getElem_toArray, List.getElem_cons_zero, List.getElem_cons_succ, List.setIfInBounds_toArray, List.set_cons_zero, List.set_cons_succ])
                  refine wpAnyH_take (i := 9) (v := ?v73) rfl (by kernel_rfl) (by kernel_rfl) (by kernel_rfl) (fun _ _ _ h => h) (Or.inl ⟨by kernel_rfl, ?hy73⟩) (by assumption) ?rest73
                  case hy73 => intro w hSw; (try dsimp only at hSw); go_simp; (first | done | with_reducible rfl)
                  (try simp only [Act.put, List.getElem_toArray, List.getElem_cons_zero, List.getElem_cons_succ, List.setIfInBounds_toArray, List.set_cons_zero, List.set_cons_succ])
                  refine wpAnyH_take (i := 11) (v := ?v74) rfl (by kernel_rfl) (by kernel_rfl) (by kernel_rfl) (fun _ _ _ h => h) (Or.inl ⟨by kernel_rfl, ?hy74⟩) (by assumption) ?rest74
                  case hy74 => intro w hSw; (try dsimp only at hSw); go_simp; (first | done | with_reducible rfl)
                  (try simp only [Act.put, List.getElem_toArray, List.getElem_cons_zero, List.getElem_cons_succ, List.setIfInBounds_toArray, List.set_cons_zero, List.set_cons_succ])
                  refine wpAnyH_take (i := 12) (v := ?v75) rfl (by kernel_rfl) (by kernel_rfl) (by kernel_rfl) (fun _ _ _ h => h) (Or.inl ⟨by kernel_rfl, ?hy75⟩) (by assumption) ?rest75
                  case hy75 => intro w hSw; (try dsimp only at hSw); have hcl := (hSw.cell (p := ⟨S, 1, none⟩) HS8.out).trans HG1.out; go_simp; (first | done | with_reducible rfl)
                  (try simp only [Act.put, List.getElem_toArray, List.getElem_cons_zero, List.getElem_cons_succ, List.setIfInBounds_toArray, List.set_cons_zero, List.set_cons_succ])
                  refine wpAnyH_ready (rs := [10]) (by kernel_rfl) (by simp) ?_
                  refine AllReadyH.cons rfl (fun K hK => ?_) AllReadyH.nil
                  go_simp
                  refine (CK.out _ hHeld).mono ?_
                  rintro e k4 ⟨p4, c4, rfl, hr4, hb4⟩
                  have HR4 := Lib.hid hr4.reads
                  clear hr4
                  have hHeld2 := hHeld.trans (hb4.mono hHeld.size)
                  refine hK.out _ _ hHeld2 (fun _ => ?_)
                  clear hK K hHeld
                  have hHeld := hHeld2
                  clear hHeld2 hb4
                  (try simp only [Act.put, List.getElem_toArray, List.getElem_cons_zero, List.getElem_cons_succ, List.setIfInBounds_toArray, List.set_cons_zero, List.set_cons_succ])
                  refine wpAnyH_ready (rs := [13]) (by kernel_rfl) (by simp) ?_
                  refine AllReadyH.cons rfl (fun K hK => ?_) AllReadyH.nil
                  go_simp
                  have C8 := r3_samei p4 qk c4 dk (s2.map Prod.fst) (s2.map Prod.fst) k4 HR4.out (HKR.out _ hHeld) (by have := HNN.out; rw [List.length_map]; omega)
                  rw [List.length_map, decide_eq_true rfl] at C8
                  refine C8.mono ?_
                  rintro e k5 ⟨rfl, hb5⟩
                  clear C8
                  have hHeld2 := hHeld.trans (hb5.mono hHeld.size)
                  refine hK.out _ _ hHeld2 (fun _ => ?_)
                  clear hK K hHeld
                  have hHeld := hHeld2
                  clear hHeld2 hb5
                  (try simp only [Act.put, List.getElem_toArray, List.getElem_cons_zero, List.getElem_cons_succ, List.setIfInBounds_toArray, List.set_cons_zero, List.set_cons_succ])
                  refine wpAnyH_take (i := 14) (v := ?v76) rfl (by kernel_rfl) (by kernel_rfl) (by kernel_rfl) (fun _ _ _ h => h) (Or.inl ⟨by kernel_rfl, ?hy76⟩) (by assumption) ?rest76
                  case hy76 => intro w hSw; (try dsimp only at hSw); go_simp; (first | done | with_reducible rfl)
                  (try simp only [Act.put, List.getElem_toArray, List.getElem_cons_zero, List.getElem_cons_succ, List.setIfInBounds_toArray, List.set_cons_zero, List.set_cons_succ])
                  refine wpAnyH_take (i := 15) (v := ?v77) rfl (by kernel_rfl) (by kernel_rfl) (by kernel_rfl) (fun _ _ _ h => h) (Or.inl ⟨by kernel_rfl, ?hy77⟩) (by assumption) ?rest77
                  case hy77 => intro w hSw; (try dsimp only at hSw); go_simp; (first | done | with_reducible rfl)
                  (try simp only [Act.put, List.getElem_toArray, List.getElem_cons_zero, List.getElem_cons_succ, List.setIfInBounds_toArray, List.set_cons_zero, List.set_cons_succ])
                  refine wpAnyH_take (i := 16) (v := ?v78) rfl (by kernel_rfl) (by kernel_rfl) (by kernel_rfl) (fun _ _ _ h => h) (Or.inl ⟨by kernel_rfl, ?hy78⟩) (by assumption) ?rest78
                  case hy78 => intro w hSw; (try dsimp only at hSw); go_simp; (first | done | with_reducible rfl)
                  (try simp only [Act.put, List.getElem_toArray, List.getElem_cons_zero, List.getElem_cons_succ, List.setIfInBounds_toArray, List.set_cons_zero, List.set_cons_succ])
                  refine wpAnyH_take (i := 17) (v := ?v79) rfl (by kernel_rfl) (by kernel_rfl) (by kernel_rfl) (fun _ _ _ h => h) (Or.inl ⟨by kernel_rfl, ?hy79⟩) (by assumption) ?rest79
                  case hy79 => intro w hSw; (try dsimp only at hSw); go_simp; (first | done | with_reducible rfl)
                  (try simp only [Act.put, List.getElem_toArray, List.getElem_cons_zero, List.getElem_cons_succ, List.setIfInBounds_toArray, List.set_cons_zero, List.set_cons_succ])
                  refine wpAnyH_take (i := 19) (v := ?v80) rfl (by kernel_rfl) (by kernel_rfl) (by kernel_rfl) (fun _ _ _ h => h) (Or.inl ⟨by kernel_rfl, ?hy80⟩) (by assumption) ?rest80
                  case hy80 => intro w hSw; (try dsimp only at hSw); go_simp; (first | done | with_reducible rfl)
                  (try simp only [Act.put, List.getElem_toArray, List.getElem_cons_zero, List.getElem_cons_succ, List.setIfInBounds_toArray, List.set_cons_zero, List.set_cons_succ])
                  refine wpAnyH_take (i := 20) (v := ?v81) rfl (by kernel_rfl) (by kernel_rfl) (by kernel_rfl) (fun _ _ _ h => h) (Or.inl ⟨by kernel_rfl, ?hy81⟩) (by assumption) ?rest81
                  case hy81 => intro w hSw; (try dsimp only at hSw); have hcl := (hSw.cell (p := ⟨S, 1, none⟩) HS8.out).trans HG1.out; go_simp; (first | done | with_reducible rfl)
                  (try simp only [Act.put, List.getElem_toArray, List.getElem_cons_zero, List.getElem_cons_succ, List.setIfInBounds_toArray, List.set_cons_zero, List.set_cons_succ])
                  refine wpAnyH_take (i := 21) (v := ?v82) rfl (by kernel_rfl) (by kernel_rfl) (by kernel_rfl) (fun _ _ _ h => h) (Or.inl ⟨by kernel_rfl, ?hy82⟩) (by assumption) ?rest82
                  case hy82 => intro w hSw; (try dsimp only at hSw); go_simp; (first | done | with_reducible rfl)
                  (try simp only [Act.put, List.getElem_toArray, List.getElem_cons_zero, List.getElem_cons_succ, List.setIfInBounds_toArray, List.set_cons_zero, List.set_cons_succ])
                  refine wpAnyH_ready (rs := [18]) (by kernel_rfl) (by simp) ?_
                  refine AllReadyH.cons rfl (fun K hK => ?_) AllReadyH.nil
                  go_simp
                  refine (CL.out _ hHeld).mono ?_
                  rintro e k6 ⟨rfl, hk6⟩
                  have hb6 : Below k5.heap.size k5 k6 := by rw [hk6]; exact Below.refl _ _
                  clear hk6
                  have hHeld2 := hHeld.trans (hb6.mono hHeld.size)
                  refine hK.out _ _ hHeld2 (fun _ => ?_)
                  clear hK K hHeld
                  have hHeld := hHeld2
                  clear hHeld2 hb6
                  (try simp only [Act.put, List.getElem_toArray, List.getElem_cons_zero, List.getElem_cons_succ, List.setIfInBounds_toArray, List.set_cons_zero, List.set_cons_succ])
                  refine wpAnyH_take (i := 22) (v := ?v83) rfl (by kernel_rfl) (by kernel_rfl) (by kernel_rfl) (fun _ _ _ h => h) (Or.inl ⟨by kernel_rfl, ?hy83⟩) (by assumption) ?rest83
                  case hy83 => intro w hSw; (try dsimp only at hSw); go_simp; (first | done | with_reducible rfl)
                  (try simp only [Act.put, List.getElem_toArray, List.getElem_cons_zero, List.getElem_cons_succ, List.setIfInBounds_toArray, List.set_cons_zero, List.set_cons_succ])
                  refine wpAnyH_take (i := 23) (v := ?v84) rfl (by kernel_rfl) (by kernel_rfl) (by kernel_rfl) (fun _ _ _ h => h) (Or.inl ⟨by kernel_rfl, ?hy84⟩) (by assumption) ?rest84
                  case hy84 => intro w hSw; (try dsimp only at hSw); go_simp; (first | done | with_reducible rfl)
                  (try simp only [Act.put, List.getElem_toArray, List.getElem_cons_zero, List.getElem_cons_succ, List.setIfInBounds_toArray, List.set_cons_zero, List.set_cons_succ])
                  refine wpAnyH_done (by kernel_rfl) ?_ _
                  have HI9 := Lib.hid (HI8.out.below hHeld)
                  clear hHeld
                  go_wp2_with fail
                  go_roundw
                  case rel => exact ⟨i + 1, by first | rw [WR.out] | simp, Lib.hid HIL.out, Lib.hid ⟨_, s2, qk, dk, qv, dv, HI9.out, HSL2.out⟩⟩
                  case measure => first | exact meas_step l1.length i HIL.out | (rw [WR.out]; exact meas_step' l1.length i HIL.out) | (simp; omega)
                · have hq3 : (y.d == 3) = false := by simp [hd3]
                  have hr3 : ((3 : Int) == y.d) = false := by simp only [beq_eq_false_iff_ne, ne_eq]; exact fun e => hd3 e.symm
                  clear hd3
                  obtain ⟨g0, g1, g2, f0, f1, f2⟩ := row_cells3 HI5.out.b
                  obtain ⟨a0', a1', a2', -, -, -⟩ := row_cells3 HA5.out
                  have hlS := g_lt HI5.out.b
                  have hlA := g_lt HA5.out
                  clear f0 f1 f2
                  obtain ⟨x8, hx8⟩ : ∃ x8, x8 = x5 := ⟨_, rfl⟩
                  have HI8 := HI5
                  rw [← hx8] at HI8
                  go_upto_region 29 with fail
                  rw [← hx8]
                  clear g0 g1 g2 a0' a1' a2' hlS hlA
                  clear hx8
                  obtain ⟨qk, hqk⟩ : ∃ q, q = pk := ⟨_, rfl⟩
                  obtain ⟨dk, hdk⟩ : ∃ q, q = ck := ⟨_, rfl⟩
                  obtain ⟨qv, hqv⟩ : ∃ q, q = pv := ⟨_, rfl⟩
                  obtain ⟨dv, hdv⟩ : ∃ q, q = cv := ⟨_, rfl⟩
                  subst hqk hdk hqv hdv
                  have HSL2 := Lib.hid (show (s.length : Int) ≤ a0 from HSL.out)
                  have WR := Lib.hid (show wrap64 ((i : Int) + 1) = ((i + 1 : Nat) : Int) by have := HN.out; have := HIL.out; simp only [wrap64]; omega)
                  have HO8 := Lib.hid (dd_to HI8.out.l)
                  have CK := Lib.hid (fun u (hu : Below x8.heap.size x8 u) => l_keys 0 Lb a0 s u (HO8.out.below hu))
                  have CL := Lib.hid (fun u (hu : Below x8.heap.size x8 u) => l_len 0 Lb a0 s u (HO8.out.below hu))
                  have HKR := Lib.hid (fun u (hu : Below x8.heap.size x8 u) => readsI_below HI8.out.r.k hu)
                  have HS8 := Lib.hid (g_lt HI8.out.b)
                  have HG1 := Lib.hid (row_cells3 HI8.out.b).2.1
                  have HNN := Lib.hid HI8.out.r.n
                  refine wp_region_held_drew (S := fun w' => Below x8.heap.size x8 w') (by kernel_rfl) ((Below.refl _ _).drew) (fun hHeld => ?_)
                  refine wpAnyH_take (i := 0) (v := ?v85) rfl (by kernel_rfl) (by kernel_rfl) (by kernel_rfl) (fun _ _ _ h => h) (Or.inl ⟨by kernel_rfl, ?hy85⟩) (by assumption) ?rest85
                  case hy85 => intro w hSw; (try dsimp only at hSw); go_simp; (first | done | with_reducible rfl)
                  (try simp only [Act.put, List.getElem_toArray, List.getElem_cons_zero, List.getElem_cons_succ, List.setIfInBounds_toArray, List.set_cons_zero, List.set_cons_succ])
                  refine wpAnyH_take (i := 1) (v := ?v86) rfl (by kernel_rfl) (by kernel_rfl) (by kernel_rfl) (fun _ _ _ h => h) (Or.inl ⟨by kernel_rfl, ?hy86⟩) (by assumption) ?rest86
                  case hy86 => intro w hSw; (try dsimp only at hSw); go_simp; (first | done | with_reducible rfl)
                  (try simp only [Act.put, List.getElem_toArray, List.getElem_cons_zero, List.getElem_cons_succ, List.setIfInBounds_toArray, List.set_cons_zero, List.set_cons_succ])
                  refine wpAnyH_take (i := 2) (v := ?v87) rfl (by kernel_rfl) (by kernel_rfl) (by kernel_rfl) (fun _ _ _ h => h) (Or.inl ⟨by kernel_rfl, ?hy87⟩) (by assumption) ?rest87
                  case hy87 => intro w hSw; (try dsimp only at hSw); go_simp; (first | done | with_reducible rfl)
                  (try simp only [Act.put, List.getElem_toArray, List.getElem_cons_zero, List.getElem_cons_succ, List.setIfInBounds_toArray, List.set_cons_zero, List.set_cons_succ])
                  refine wpAnyH_take (i := 3) (v := ?v88) rfl (by kernel_rfl) (by kernel_rfl) (by kernel_rfl) (fun _ _ _ h => h) (Or.inl ⟨by kernel_rfl, ?hy88⟩) (by assumption) ?rest88
                  case hy88 => intro w hSw; (try dsimp only at hSw); go_simp; (first | done | with_reducible rfl)
                  (try simp only [Act.put, List.getElem_toArray, List.getElem_cons_zero, List.getElem_cons_succ, List.setIfInBounds_toArray, List.set_cons_zero, List.set_cons_succ])
                  refine wpAnyH_take (i := 4) (v := ?v89) rfl (by kernel_rfl) (by kernel_rfl) (by kernel_rfl) (fun _ _ _ h => h) (Or.inl ⟨by kernel_rfl, ?hy89⟩) (by assumption) ?rest89
                  case hy89 => intro w hSw; (try dsimp only at hSw); go_simp; (first | done | with_reducible rfl)
                  (try simp only [Act.put, List.getElem_toArray, List.getElem_cons_zero, List.getElem_cons_succ, List.setIfInBounds_toArray, List.set_cons_zero, List.set_cons_succ])
                  refine wpAnyH_take (i := 5) (v := ?v90) rfl (by kernel_rfl) (by kernel_rfl) (by kernel_rfl) (fun _ _ _ h => h) (Or.inl ⟨by kernel_rfl, ?hy90⟩) (by assumption) ?rest90
                  case hy90 => intro w hSw; (try dsimp only at hSw); go_simp; (first | done | with_reducible rfl)
                  (try simp only [Act.put, List.getElem_toArray, List.getElem_cons_zero, List.getElem_cons_succ, List.setIfInBounds_toArray, List.set_cons_zero, List.set_cons_succ])
                  refine wpAnyH_take (i := 6) (v := ?v91) rfl (by kernel_rfl) (by kernel_rfl) (by kernel_rfl) (fun _ _ _ h => h) (Or.inl ⟨by kernel_rfl, ?hy91⟩) (by assumption) ?rest91
                  case hy91 => intro w hSw; (try dsimp only at hSw); go_simp; (first | done | with_reducible rfl)
                  (try simp only [Act.put, List.getElem_toArray, List.getElem_cons_zero, List.getElem_cons_succ, List.setIfInBounds_toArray, List.set_cons_zero, List.set_cons_succ])
                  refine wpAnyH_take (i := 7) (v := ?v92) rfl (by kernel_rfl) (by kernel_rfl) (by kernel_rfl) (fun _ _ _ h => h) (Or.inl ⟨by kernel_rfl, ?hy92⟩) (by assumption) ?rest92
                  case hy92 => intro w hSw; (try dsimp only at hSw); go_simp; (first | done | with_reducible rfl)
                  (try simp only [Act.put, List.getElem_toArray, List.getElem_cons_zero, List.getElem_cons_succ, List.setIfInBounds_toArray, List.set_cons_zero, List.set_cons_succ])
                  refine wpAnyH_take (i := 8) (v := ?v93) rfl (by kernel_rfl) (by kernel_rfl) (by kernel_rfl) (fun _ _ _ h => h) (Or.inl ⟨by kernel_rfl, ?hy93⟩) (by assumption) ?rest93
                  case hy93 => intro w hSw; (try dsimp only at hSw); go_simp; (first | done | with_reducible rfl)
                  (try simp only [Act.put, List.getElem_toArray, List.getElem_cons_zero, List.getElem_cons_succ, List.setIfInBounds_toArray, List.set_cons_zero, List.set_cons_succ])
                  refine wpAnyH_take (i := 9) (v := ?v94) rfl (by kernel_rfl) (by kernel_rfl) (by kernel_rfl) (fun _ _ _ h => h) (Or.inl ⟨by kernel_rfl, ?hy94⟩) (by assumption) ?rest94
                  case hy94 => intro w hSw; (try dsimp only at hSw); go_simp; (first | done | with_reducible rfl)
                  (try simp only [Act.put, List.getElem_toArray, List.getElem_cons_zero, List.getElem_cons_succ, List.setIfInBounds_toArray, List.set_cons_zero, List.set_cons_succ])
                  refine wpAnyH_take (i := 11) (v := ?v95) rfl (by kernel_rfl) (by kernel_rfl) (by kernel_rfl) (fun _ _ _ h => h) (Or.inl ⟨by kernel_rfl, ?hy95⟩) (by assumption) ?rest95
                  case hy95 => intro w hSw; (try dsimp only at hSw); go_simp; (first | done | with_reducible rfl)
                  (try simp only [Act.put, List.getElem_toArray, List.getElem_cons_zero, List.getElem_cons_succ, List.setIfInBounds_toArray, List.set_cons_zero, List.set_cons_succ])
                  refine wpAnyH_take (i := 12) (v := ?v96) rfl (by kernel_rfl) (by kernel_rfl) (by kernel_rfl) (fun _ _ _ h => h) (Or.inl ⟨by kernel_rfl, ?hy96⟩) (by assumption) ?rest96
                  case hy96 => intro w hSw; (try dsimp only at hSw); have hcl := (hSw.cell (p := ⟨S, 1, none⟩) HS8.out).trans HG1.out; go_simp; (first | done | with_reducible rfl)
                  (try simp only [Act.put, List.getElem_toArray, List.getElem_cons_zero, List.getElem_cons_succ, List.setIfInBounds_toArray, List.set_cons_zero, List.set_cons_succ])
                  refine wpAnyH_ready (rs := [10]) (by kernel_rfl) (by simp) ?_
                  refine AllReadyH.cons rfl (fun K hK => ?_) AllReadyH.nil
                  go_simp
                  refine (CK.out _ hHeld).mono ?_
                  rintro e k4 ⟨p4, c4, rfl, hr4, hb4⟩
                  have HR4 := Lib.hid hr4.reads
                  clear hr4
                  have hHeld2 := hHeld.trans (hb4.mono hHeld.size)
                  refine hK.out _ _ hHeld2 (fun _ => ?_)
                  clear hK K hHeld
                  have hHeld := hHeld2
                  clear hHeld2 hb4
                  (try simp only [Act.put, List.getElem_toArray, List.getElem_cons_zero, List.getElem_cons_succ, List.setIfInBounds_toArray, List.set_cons_zero, List.set_cons_succ])
                  refine wpAnyH_ready (rs := [13]) (by kernel_rfl) (by simp) ?_
                  refine AllReadyH.cons rfl (fun K hK => ?_) AllReadyH.nil
                  go_simp
                  have C8 := r3_samei p4 qk c4 dk (s.map Prod.fst) (s.map Prod.fst) k4 HR4.out (HKR.out _ hHeld) (by have := HNN.out; rw [List.length_map]; omega)
                  rw [List.length_map, decide_eq_true rfl] at C8
                  refine C8.mono ?_
                  rintro e k5 ⟨rfl, hb5⟩
                  clear C8
                  have hHeld2 := hHeld.trans (hb5.mono hHeld.size)
                  refine hK.out _ _ hHeld2 (fun _ => ?_)
                  clear hK K hHeld
                  have hHeld := hHeld2
                  clear hHeld2 hb5
                  (try simp only [Act.put, List.getElem_toArray, List.getElem_cons_zero, List.getElem_cons_succ, List.setIfInBounds_toArray, List.set_cons_zero, List.set_cons_succ])
                  refine wpAnyH_take (i := 14) (v := ?v97) rfl (by kernel_rfl) (by kernel_rfl) (by kernel_rfl) (fun _ _ _ h => h) (Or.inl ⟨by kernel_rfl, ?hy97⟩) (by assumption) ?rest97
                  case hy97 => intro w hSw; (try dsimp only at hSw); go_simp; (first | done | with_reducible rfl)
                  (try simp only [Act.put, List.getElem_toArray, List.getElem_cons_zero, List.getElem_cons_succ, List.setIfInBounds_toArray, List.set_cons_zero, List.set_cons_succ])
                  refine wpAnyH_take (i := 15) (v := ?v98) rfl (by kernel_rfl) (by kernel_rfl) (by kernel_rfl) (fun _ _ _ h => h) (Or.inl ⟨by kernel_rfl, ?hy98⟩) (by assumption) ?rest98
                  case hy98 => intro w hSw; (try dsimp only at hSw); go_simp; (first | done | with_reducible rfl)
                  (try simp only [Act.put, List.getElem_toArray, List.getElem_cons_zero, List.getElem_cons_succ, List.setIfInBounds_toArray, List.set_cons_zero, List.set_cons_succ])
                  refine wpAnyH_take (i := 16) (v := ?v99) rfl (by kernel_rfl) (by kernel_rfl) (by kernel_rfl) (fun _ _ _ h => h) (Or.inl ⟨by kernel_rfl, ?hy99⟩) (by assumption) ?rest99
                  case hy99 => intro w hSw; (try dsimp only at hSw); go_simp; (first | done | with_reducible rfl)
                  (try simp only [Act.put, List.getElem_toArray, List.getElem_cons_zero, List.getElem_cons_succ, List.setIfInBounds_toArray, List.set_cons_zero, List.set_cons_succ])
                  refine wpAnyH_take (i := 17) (v := ?v100) rfl (by kernel_rfl) (by kernel_rfl) (by kernel_rfl) (fun _ _ _ h => h) (Or.inl ⟨by kernel_rfl, ?hy100⟩) (by assumption) ?rest100
                  case hy100 => intro w hSw; (try dsimp only at hSw); go_simp; (first | done | with_reducible rfl)
                  (try simp only [Act.put, List.getElem_toArray, List.getElem_cons_zero, List.getElem_cons_succ, List.setIfInBounds_toArray, List.set_cons_zero, List.set_cons_succ])
                  refine wpAnyH_take (i := 19) (v := ?v101) rfl (by kernel_rfl) (by kernel_rfl) (by kernel_rfl) (fun _ _ _ h => h) (Or.inl ⟨by kernel_rfl, ?hy101⟩) (by assumption) ?rest101
                  case hy101 => intro w hSw; (try dsimp only at hSw); go_simp; (first | done | with_reducible rfl)
                  (try simp only [Act.put, List.getElem_toArray, List.getElem_cons_zero, List.getElem_cons_succ, List.setIfInBounds_toArray, List.set_cons_zero, List.set_cons_succ])
                  refine wpAnyH_take (i := 20) (v := ?v102) rfl (by kernel_rfl) (by kernel_rfl) (by kernel_rfl) (fun _ _ _ h => h) (Or.inl ⟨by kernel_rfl, ?hy102⟩) (by assumption) ?rest102
                  case hy102 => intro w hSw; (try dsimp only at hSw); have hcl := (hSw.cell (p := ⟨S, 1, none⟩) HS8.out).trans HG1.out; go_simp; (first | done | with_reducible rfl)
                  (try simp only [Act.put, List.getElem_toArray, List.getElem_cons_zero, List.getElem_cons_succ, List.setIfInBounds_toArray, List.set_cons_zero, List.set_cons_succ])
                  refine wpAnyH_take (i := 21) (v := ?v103) rfl (by kernel_rfl) (by kernel_rfl) (by kernel_rfl) (fun _ _ _ h => h) (Or.inl ⟨by kernel_rfl, ?hy103⟩) (by assumption) ?rest103
                  case hy103 => intro w hSw; (try dsimp only at hSw); go_simp; (first | done | with_reducible rfl)
                  (try simp only [Act.put, List.getElem_toArray, List.getElem_cons_zero, List.getElem_cons_succ, List.setIfInBounds_toArray, List.set_cons_zero, List.set_cons_succ])
                  refine wpAnyH_ready (rs := [18]) (by kernel_rfl) (by simp) ?_
                  refine AllReadyH.cons rfl (fun K hK => ?_) AllReadyH.nil
                  go_simp
                  refine (CL.out _ hHeld).mono ?_
                  rintro e k6 ⟨rfl, hk6⟩
                  have hb6 : Below k5.heap.size k5 k6 := by rw [hk6]; exact Below.refl _ _
                  clear hk6
                  have hHeld2 := hHeld.trans (hb6.mono hHeld.size)
                  refine hK.out _ _ hHeld2 (fun _ => ?_)
                  clear hK K hHeld
                  have hHeld := hHeld2
                  clear hHeld2 hb6
                  (try simp only [Act.put, List.getElem_toArray, List.getElem_cons_zero, List.getElem_cons_succ, List.setIfInBounds_toArray, List.set_cons_zero, List.set_cons_succ])
                  refine wpAnyH_take (i := 22) (v := ?v104) rfl (by kernel_rfl) (by kernel_rfl) (by kernel_rfl) (fun _ _ _ h => h) (Or.inl ⟨by kernel_rfl, ?hy104⟩) (by assumption) ?rest104
                  case hy104 => intro w hSw; (try dsimp only at hSw); go_simp; (first | done | with_reducible rfl)
                  (try simp only [Act.put, List.getElem_toArray, List.getElem_cons_zero, List.getElem_cons_succ, List.setIfInBounds_toArray, List.set_cons_zero, List.set_cons_succ])
                  refine wpAnyH_take (i := 23) (v := ?v105) rfl (by kernel_rfl) (by kernel_rfl) (by kernel_rfl) (fun _ _ _ h => h) (Or.inl ⟨by kernel_rfl, ?hy105⟩) (by assumption) ?rest105
                  case hy105 => intro w hSw; (try dsimp only at hSw); go_simp; (first | done | with_reducible rfl)
                  (try simp only [Act.put, List.getElem_toArray, List.getElem_cons_zero, List.getElem_cons_succ, List.setIfInBounds_toArray, List.set_cons_zero, List.set_cons_succ])
                  refine wpAnyH_done (by kernel_rfl) ?_ _
                  have HI9 := Lib.hid (HI8.out.below hHeld)
                  clear hHeld
                  go_wp2_with fail
                  go_roundw
                  case rel => exact ⟨i + 1, by first | rw [WR.out] | simp, Lib.hid HIL.out, Lib.hid ⟨_, s, qk, dk, qv, dv, HI9.out, HSL2.out⟩⟩
                  case measure => first | exact meas_step l1.length i HIL.out | (rw [WR.out]; exact meas_step' l1.length i HIL.out) | (simp; omega)
          --END
        · have hii : ¬ (i : Int) < (l1.length : Int) := by omega
          have HB := Lib.hid hI.be
          clear hI hsl
          go_wp2_with fail
          refine (LV.out _).mono ?_
          rintro e x9 ⟨rfl, hb9⟩
          have HB9 := Lib.hid (HB.out.trans (hb9.mono HB.out.size))
          clear hb9
          go_wp2_with fail
          go_ret
          exact ⟨rfl, HB9.out⟩
    · have CN := Lib.hid (fun w => l_newbad a0 hr w)
      have CI := Lib.hid (fun w => r32_is a0 w)
      have hrd : decide (1 ≤ a0 ∧ a0 ≤ 64) = false := by simp only [decide_eq_false_iff_not]; exact hr
      go_enter Try.func3, Try.ntmps3
      clear hr w0
      go_wp2_with fail
      refine (CN.out _).mono ?_
      rintro e x1 ⟨rfl, rfl⟩
      go_wp2_with fail
      refine (CI.out _).mono ?_
      rintro e x2 ⟨rfl, rfl⟩
      rw [hrd]
      go_wp2_with fail
      refine (LV.out _).mono ?_
      rintro e x3 ⟨rfl, hb3⟩
      have HB3 := Lib.hid hb3
      clear hb3
      go_wp2_with fail
      go_ret
      exact ⟨rfl, HB3.out⟩
end lruPlays
end Go.Proofs.Ytncpikaegcookaa
