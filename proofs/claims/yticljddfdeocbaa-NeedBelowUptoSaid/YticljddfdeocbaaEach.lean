/- Package need's each: what all nodes name is told, one by one. -/
import Derived.Test.YticljddfdeocbaaNam
namespace Go.Proofs.Yticljddfdeocbaa
open Go.ChangeShapes Go.WideShapes Go.ChangeAt Go.RowKit
set_option linter.unusedVariables false
/-- From w to w': of w's blocks just those of O may have turned; those of O' are of O, or new. -/
structure Fr (O O' : Nat → Prop) (w w' : World) : Prop where
  os : w'.os = w.os
  tape : w'.tape = w.tape
  output : w'.output = w.output
  size : w.heap.size ≤ w'.heap.size
  blk : ∀ X, X < w.heap.size → ¬ O X → w'.heap[X]? = w.heap[X]?
  own : ∀ X, O' X → O X ∨ w.heap.size ≤ X
theorem Fr.of_below {O : Nat → Prop} {w w' : World} (h : Below w.heap.size w w') : Fr O O w w' := ⟨h.os, h.tape, h.output, h.size, fun X hX _ => h.block X hX, fun _ h => .inl h⟩
theorem Fr.refl (O : Nat → Prop) (w : World) : Fr O O w w := Fr.of_below (Below.refl _ _)
theorem Fr.trans {O O' O'' : Nat → Prop} {w w' w'' : World} (h : Fr O O' w w') (k : Fr O' O'' w' w'') : Fr O O'' w w'' :=
  ⟨k.os.trans h.os, k.tape.trans h.tape, k.output.trans h.output, Nat.le_trans h.size k.size, fun X hX hO => (k.blk X (by have := h.size; omega) (fun hO' => (h.own X hO').elim hO (by omega))).trans (h.blk X hX hO),
   fun X hX => (k.own X hX).elim (fun h1 => h.own X h1) (fun h1 => .inr (by have := h.size; omega))⟩
theorem Fr.below {O O' : Nat → Prop} {w w' : World} {H : Nat} (h : Fr O O' w w') (hH : H ≤ w.heap.size) (hO : ∀ X, O X → H ≤ X) : Below H w w' :=
  ⟨h.os, h.tape, h.output, h.size, fun X hX => h.blk X (by omega) (fun hx => by have := hO X hx; omega)⟩
theorem Fr.cell {O O' : Nat → Prop} {w w' : World} (h : Fr O O' w w') {X j : Nat} (hX : X < w.heap.size) (hO : ¬ O X) {v : Value} (hc : w.cell? ⟨X, j, none⟩ = some v) : w'.cell? ⟨X, j, none⟩ = some v :=
  (World.cell?_of_block (h.blk X hX hO)).trans hc
/-- Every node of kind 7 has a kid. -/
def Fo.sane : Fo → Prop
  | .nil => True
  | .cons k _ ks r => (k = 7 → 0 < ks.len) ∧ ks.sane ∧ r.sane
theorem Fo.sane_at : ∀ (f : Fo) (i : Nat), f.sane → i < f.len → (f.k i = 7 → 0 < (f.kids i).len) ∧ (f.kids i).sane
  | .nil, _, _, h => by simp [Fo.len] at h
  | .cons k n ks r, 0, hs, _ => ⟨hs.1, hs.2.1⟩
  | .cons k n ks r, i + 1, hs, h => Fo.sane_at r i hs.2.2 (by simp [Fo.len] at h; omega)
theorem drop_snoc {α : Type} (L l : List α) (i : Nat) (h : i < l.length) : L ++ l.take i ++ [l[i]] = L ++ l.take (i + 1) := by
  rw [List.append_assoc, List.take_succ_eq_append_getElem h]
theorem under_lo {k dir : Int} (h : k = 6 ∨ k = 7) : under k dir = 0 := if_pos h
theorem under_up {k dir : Int} (h : ¬ (k = 6 ∨ k = 7)) : under k dir = dir := if_neg h
theorem box4n (W : World) (a b c d : Int) (T : TypeId) : ∃ w0 : World, w0 = W.alloc (.cells #[.int .i64 a, .int .i64 b, .int .i64 c, .int .i64 d] T) ∧ w0.cell? ⟨W.heap.size, 0, none⟩ = some (.int .i64 a) ∧ w0.cell? ⟨W.heap.size, 1, none⟩ = some (.int .i64 b) ∧ w0.cell? ⟨W.heap.size, 2, none⟩ = some (.int .i64 c) ∧ w0.cell? ⟨W.heap.size, 3, none⟩ = some (.int .i64 d) ∧ Below W.heap.size W w0 ∧ w0.heap.size = W.heap.size + 1 := by
  have hn := heap_alloc_new W (.cells #[.int .i64 a, .int .i64 b, .int .i64 c, .int .i64 d] T)
  refine ⟨_, rfl, ?_, ?_, ?_, ?_, (Below.refl _ _).alloc (Nat.le_refl _) _, by simp⟩ <;> (rw [cell_of_row _ _ _ _ _ _ hn]; rfl)
/-- What is known behind what was told. -/
def Tells (Inv : List Nam → (Nat → Prop) → World → Prop) (O : Nat → Prop) (L : List Nam) (W : World) (e : Ending) (w' : World) : Prop := e = .returned (.tuple #[]) ∧ ∃ O', Inv L O' w' ∧ Fr O O' W w'
set_option maxRecDepth 100000 in
set_option maxHeartbeats 8000000 in
theorem each_tables (p1 p2 : Addr) (lim M : Nat) (Inv : List Nam → (Nat → Prop) → World → Prop)
    (hlt : ∀ L O w, Inv L O w → ∀ X, O X → lim ≤ X ∧ X < w.heap.size) (hbel : ∀ L O w w', Inv L O w → Below w.heap.size w w' → Inv L O w')
    (G : Nam → Prop) (hstep : ∀ L O (x : Nam) w, G x → L.length < M → Inv L O w → Calls Try.prog 82 #[.agg #[.int .i64 x.k, .int .i64 x.n, .int .i64 x.m, .int .i64 x.d], .pointer (some p1), .pointer (some p2)] w (Tells Inv O (L ++ [x]) w))
    (N : Nat) : ∀ (ks : Fo) (v : Value) (k n dir : Int) (L : List Nam) (O : Nat → Prop) (W : World), ks.cnt ≤ N → N ≤ 1048576 → Kids W lim v ks → lim ≤ W.heap.size → (k = 7 → 0 < ks.len) → ks.sane → L.length + 2 * ks.cnt + 2 ≤ M → (∀ x ∈ namesN k n ks dir, G x) → Inv L O W →
    Calls Try.prog 81 #[.agg #[.int .i64 k, .int .i64 n, v], .int .i64 dir, .func (.func 82) #[] #[.pointer (some p1), .pointer (some p2)]] W (Tells Inv O (L ++ namesN k n ks dir) W) := by
  induction N using Nat.strongRecOn with
  | _ N ih =>
  intro ks v k n dir L O W hN hN2 hK hl h7 hsn hM hG hI
  obtain ⟨p, m, c, rfl, hc1, hc2, HM⟩ := hK.shape
  obtain ⟨w0, hw0, c0, c1, c2, hB, hsz⟩ := box3 W k n (.slice p m c) 24
  have hK0 := hK.below hl hB
  have hI0 := hbel L O W w0 hI hB
  have xO : ¬ O W.heap.size := fun h => by have := (hlt L O W hI _ h).2; omega
  have hlO : ∀ X, O X → lim ≤ X := fun X h => (hlt L O W hI X h).1
  have NM := Lib.hid (need_named k n dir (.slice p m c) ks lim w0 hK0 (by omega) h7)
  have hll := named_len k n dir (ks.n 0)
  have hlk := names_len ks (under k dir)
  have E := Lib.hid (show L ++ namesN k n ks dir = L ++ namedL k n dir (ks.n 0) ++ ks.names (under k dir) by rw [namesN, List.append_assoc])
  have HG1 := Lib.hid (fun x (hx : x ∈ namedL k n dir (ks.n 0)) => hG x (by rw [namesN]; exact List.mem_append_left _ hx))
  have HG2 := Lib.hid (fun x (hx : x ∈ ks.names (under k dir)) => hG x (by rw [namesN]; exact List.mem_append_right _ hx))
  clear hG
  generalize L ++ namesN k n ks dir = R at *
  have hmN := Fo.len_cnt ks
  have hmm : m ≤ 1048576 := by have := HM.out; omega
  have ST := Lib.hid hstep
  have IH := Lib.hid ih
  have HBL := Lib.hid hbel
  have HLT := Lib.hid hlt
  have NS := Lib.hid (fun i d (hi : i < m) => names_step ks i d (by rw [← HM.out]; exact hi))
  have NE := Lib.hid (show ∀ d, (ks.drop m).names d = [] from fun d => by rw [HM.out]; exact names_end ks d)
  have N0 := Lib.hid (show (ks.drop 0).names (under k dir) = ks.names (under k dir) by rw [Fo.drop_zero])
  have CD := Lib.hid (fun i (hi : i < m) => (show (ks.drop i).cnt = (ks.kids i).cnt + (ks.drop (i + 1)).cnt + 1 by rw [Fo.drop_at ks i (by rw [← HM.out]; exact hi), Fo.cnt]))
  have C0 := Lib.hid (show (ks.drop 0).cnt = ks.cnt by rw [Fo.drop_zero])
  have NLn := Lib.hid (fun i d => (show (namesN (ks.k i) (ks.n i) (ks.kids i) d).length ≤ 2 + 2 * (ks.kids i).cnt by
    have a1 := named_len (ks.k i) (ks.n i) d ((ks.kids i).n 0)
    have a2 := names_len (ks.kids i) (under (ks.k i) d)
    rw [namesN, List.length_append]; omega))
  have SA := Lib.hid (fun i (hi : i < m) => Fo.sane_at ks i hsn (by rw [← HM.out]; exact hi))
  have PC := Lib.hid (fun i (hi : i < m) => (show (ks.kids i).cnt < ks.cnt from Fo.cnt_kids ks i (by rw [← HM.out]; exact hi)))
  have UL := Lib.hid (fun h => under_lo (k := k) (dir := dir) h)
  have UU := Lib.hid (fun h => under_up (k := k) (dir := dir) h)
  generalize ks.n 0 = A at *
  generalize hl1 : namedL k n dir A = l1 at *
  generalize under k dir = D at *
  have HO := Lib.hid (show Fr O O W w0 from Fr.of_below hB)
  have hK0' := Lib.hid hK0
  have hI0' := Lib.hid hI0
  clear ih hbel hlt hstep hI hK hK0 hl1 hsn hB hI0
  go_enter Try.func81, Try.ntmps81
  go_wp2_with fail
  rw [← hw0]
  clear hw0
  refine NM.out.mono ?_
  rintro e w1 ⟨a1, ca1, rfl, hR, hnew, b1⟩
  have F1 := Lib.hid (Fr.of_below (O := O) b1)
  have I1 := Lib.hid (HBL.out _ _ _ _ hI0'.out b1)
  have K1 := Lib.hid (hK0'.out.below (by omega) b1)
  have hs1 := b1.size
  have x0 : W.heap.size < w0.heap.size := by omega
  have d0 := (b1.cell (p := ⟨W.heap.size, 0, none⟩) x0).trans c0
  have d2 := (b1.cell (p := ⟨W.heap.size, 2, none⟩) x0).trans c2
  have HR := Lib.hid hR
  have HNW := Lib.hid (show ∀ x, a1 = some x → ¬ O x.block from fun x hx hO => by
    have h1 := hnew x hx
    have h2 := (HLT.out _ _ _ hI0'.out _ hO).2
    have h3 : O x.block := hO
    have := HO.out.own x.block hO
    have h4 := (HLT.out L O w0 hI0'.out x.block hO).2
    omega)
  have x1 : W.heap.size < w1.heap.size := by omega
  obtain ⟨q, hq⟩ : ∃ q, l1.length = q := ⟨_, rfl⟩
  have HQ := Lib.hid hq
  rw [hq] at hll
  rw [hq]
  clear hR hnew b1 c0 c1 c2 NM hI0' hK0' hq
  go_wp2_with fail
  go_loopw [7, 14] (fun _ y wr => ∃ (i : Nat) (O' : Nat → Prop), i ≤ q ∧ y = .int .i64 i ∧ Hid (Inv (L ++ l1.take i) O' wr) ∧ Hid (Fr O O' w1 wr)) (fun _ y _ => q - (intOf y).toNat)
  case atStart => exact ⟨0, O, Nat.zero_le _, rfl, by simpa using I1, Lib.hid (Fr.refl _ _)⟩
  case round =>
    clear I1
    obtain ⟨i, O', hi, rfl, HI, HF⟩ := hrel
    have hs := HF.out.size
    by_cases hlt : i < q
    · have hli : i < l1.length := by rw [HQ.out]; exact hlt
      obtain ⟨b, o, e1, hb, g0, g1, g2, g3⟩ := HR.out.get hli
      have hnb := HNW.out _ e1
      subst e1
      have g0 := HF.out.cell hb hnb g0
      have g1 := HF.out.cell hb hnb g1
      have g2 := HF.out.cell hb hnb g2
      have g3 := HF.out.cell hb hnb g3
      have dd : decide ((i : Int) < (q : Int)) = true := decide_eq_true (by omega)
      obtain ⟨w3, hw3, m0, m1, m2, m3, hB3, hs3⟩ := box4n wr l1[i].k l1[i].n l1[i].m l1[i].d 54
      have I3 := HBL.out _ _ _ _ HI.out hB3
      have CI := Lib.hid (ST.out _ _ l1[i] w3 (HG1.out _ (List.getElem_mem hli)) (by rw [List.length_append, List.length_take]; omega) I3)
      rw [drop_snoc L l1 i hli] at CI
      have HF3 := Lib.hid (HF.out.trans (Fr.of_below (O := O') hB3))
      clear I3 hB3 hnb
      generalize l1[i].k = X1 at *
      generalize l1[i].n = X2 at *
      generalize l1[i].m = X3 at *
      generalize l1[i].d = X4 at *
      go_wp2_with fail
      rw [← hw3]
      refine CI.out.mono ?_
      rintro e w4 ⟨rfl, O4, I4, F4⟩
      have HI4 := Lib.hid I4
      have HF4 := Lib.hid (HF3.out.trans F4)
      clear I4 F4 m0 m1 m2 m3
      go_wp2_with fail
      go_roundw
      case rel => exact ⟨i + 1, O4, by omega, by go_num, HI4, HF4⟩
      case measure => (first | (simp [intOf]; done) | (simp [intOf]; omega) | (simp only [intOf]; omega))
    · obtain rfl : i = q := by omega
      have dd : decide ((i : Int) < (i : Int)) = false := decide_eq_false (by omega)
      have HI2 := HI.out
      rw [List.take_of_length_le (by rw [HQ.out]; exact Nat.le_refl _)] at HI2
      have HI2 := Lib.hid HI2
      have k0 := HF.out.cell (j := 0) x1 xO d0
      have k2 := HF.out.cell (j := 2) x1 xO d2
      have HF0 := Lib.hid (HO.out.trans (F1.out.trans HF.out))
      have HK2 := Lib.hid (K1.out.carry (HF.out.below (by omega) hlO))
      clear HI HF HR HNW d0 d2 K1
      have hs5 : lim ≤ wr.heap.size := by have := HF0.out.size; omega
      by_cases hk : k = 6 ∨ k = 7
      · have hD : D = 0 := UL.out hk
        subst hD
        rcases hk with rfl | rfl
        all_goals
          go_wp2_with fail
          go_loopw [9, 33] (fun _ y wr => ∃ (i : Nat) (O2 : Nat → Prop) (L2 : List Nam), i ≤ m ∧ y = .int .i64 i ∧ L2.length + 2 * (ks.drop i).cnt ≤ M ∧ Hid (∀ x ∈ (ks.drop i).names 0, G x) ∧ Hid (Inv L2 O2 wr) ∧ Hid (L2 ++ (ks.drop i).names 0 = R) ∧ Hid (Fr O O2 W wr) ∧ Hid (Kids wr lim (.slice p m c) ks)) (fun _ y _ => m - (intOf y).toNat)
          case atStart => exact ⟨0, O', L ++ l1, Nat.zero_le _, rfl, (by rw [C0.out, List.length_append, HQ.out]; omega), Lib.hid (by rw [N0.out]; exact HG2.out), HI2, Lib.hid (by rw [N0.out]; exact E.out.symm), HF0, HK2⟩
          case round =>
            clear HI2 HF0 HK2 hs5
            obtain ⟨i, O2, L2, hi, rfl, hb2, HG, HI, HL, HF, HK⟩ := hrel
            by_cases hlt : i < m
            · obtain ⟨b, o, v, rfl, hb, g0, g1, g2, hKi⟩ := HK.out.get hlt
              obtain ⟨a', m', c', rfl, _, _, _⟩ := hKi.shape
              have dd : decide ((i : Int) < (m : Int)) = true := decide_eq_true (by omega)
              obtain ⟨w3, hw3, m0, m1, m2, hB3, hs3⟩ := box3 wr (ks.k i) (ks.n i) (.slice a' m' c') 24
              have hsz3 : lim ≤ wr.heap.size := by have := HF.out.size; omega
              have HL2 := HL.out
              rw [NS.out i _ hlt] at HL2
              have hcd := CD.out i hlt
              have hg2 := HG.out
              rw [NS.out i _ hlt] at hg2
              have HG3 := Lib.hid (fun x (hx : x ∈ (ks.drop (i + 1)).names 0) => hg2 x (List.mem_append_right _ hx))
              have HG4 := Lib.hid (fun x (hx : x ∈ namesN (ks.k i) (ks.n i) (ks.kids i) 0) => hg2 x (List.mem_append_left _ hx))
              clear hg2
              have hnl := NLn.out i 0
              rw [hcd] at hb2
              have hb3 : (L2 ++ namesN (ks.k i) (ks.n i) (ks.kids i) 0).length + 2 * (ks.drop (i + 1)).cnt ≤ M := by rw [List.length_append]; omega
              have CI := Lib.hid (IH.out _ (show (ks.kids i).cnt < N by have := PC.out i hlt; omega) (ks.kids i) _ (ks.k i) (ks.n i) 0 L2 O2 w3 (Nat.le_refl _) (by have := PC.out i hlt; omega) (hKi.below hsz3 hB3) (by omega) (SA.out i hlt).1 (SA.out i hlt).2 (by omega) HG4.out (HBL.out _ _ _ _ HI.out hB3))
              have HL3 := Lib.hid (show (L2 ++ namesN (ks.k i) (ks.n i) (ks.kids i) 0) ++ (ks.drop (i + 1)).names 0 = R by rw [List.append_assoc]; exact HL2)
              have HF3 := Lib.hid (HF.out.trans (Fr.of_below (O := O2) hB3))
              have HK3 := Lib.hid (HK.out.below hsz3 hB3)
              have hl2 := Lib.hid (show ∀ X, O2 X → lim ≤ X from fun X h => (HLT.out _ _ _ HI.out X h).1)
              clear hKi HL2 HL HI hB3 hcd hnl hb2 HK
              generalize namesN (ks.k i) (ks.n i) (ks.kids i) 0 = l3 at *
              generalize ks.k i = X1 at *
              generalize ks.n i = X2 at *
              go_wp2_with fail
              rw [← hw3]
              refine CI.out.mono ?_
              rintro e w4 ⟨rfl, O4, I4, F4⟩
              have HI4 := Lib.hid I4
              have HF4 := Lib.hid (HF3.out.trans F4)
              have HK4 := Lib.hid (HK3.out.carry (F4.below (by omega) hl2.out))
              clear I4 F4 m0 m1 m2
              go_wp2_with fail
              go_roundw
              case rel => exact ⟨i + 1, O4, _, by omega, by go_num, hb3, HG3, HI4, HL3, HF4, HK4⟩
              case measure => (first | (simp [intOf]; done) | (simp [intOf]; omega) | (simp only [intOf]; omega))
            · obtain rfl : i = m := by omega
              have dd : decide ((i : Int) < (i : Int)) = false := decide_eq_false (by omega)
              have HL2 := HL.out
              rw [NE.out, List.append_nil] at HL2
              have HI2 := HI.out
              rw [HL2] at HI2
              have HI3 := Lib.hid HI2
              clear HI HI2 HL2 HL
              go_wp2_with fail
              go_end0
              exact ⟨rfl, O2, HI3.out, HF.out⟩
      · have hD : D = dir := UU.out hk
        subst hD
        have e6 : (k == 6) = false := by simp; omega
        have e7 : (k == 7) = false := by simp; omega
        go_wp2_with fail
        go_loopw [9, 33] (fun _ y wr => ∃ (i : Nat) (O2 : Nat → Prop) (L2 : List Nam), i ≤ m ∧ y = .int .i64 i ∧ L2.length + 2 * (ks.drop i).cnt ≤ M ∧ Hid (∀ x ∈ (ks.drop i).names D, G x) ∧ Hid (Inv L2 O2 wr) ∧ Hid (L2 ++ (ks.drop i).names D = R) ∧ Hid (Fr O O2 W wr) ∧ Hid (Kids wr lim (.slice p m c) ks)) (fun _ y _ => m - (intOf y).toNat)
        case atStart => exact ⟨0, O', L ++ l1, Nat.zero_le _, rfl, (by rw [C0.out, List.length_append, HQ.out]; omega), Lib.hid (by rw [N0.out]; exact HG2.out), HI2, Lib.hid (by rw [N0.out]; exact E.out.symm), HF0, HK2⟩
        case round =>
          clear HI2 HF0 HK2 hs5
          obtain ⟨i, O2, L2, hi, rfl, hb2, HG, HI, HL, HF, HK⟩ := hrel
          by_cases hlt : i < m
          · obtain ⟨b, o, v, rfl, hb, g0, g1, g2, hKi⟩ := HK.out.get hlt
            obtain ⟨a', m', c', rfl, _, _, _⟩ := hKi.shape
            have dd : decide ((i : Int) < (m : Int)) = true := decide_eq_true (by omega)
            obtain ⟨w3, hw3, m0, m1, m2, hB3, hs3⟩ := box3 wr (ks.k i) (ks.n i) (.slice a' m' c') 24
            have hsz3 : lim ≤ wr.heap.size := by have := HF.out.size; omega
            have HL2 := HL.out
            rw [NS.out i _ hlt] at HL2
            have hcd := CD.out i hlt
            have hg2 := HG.out
            rw [NS.out i _ hlt] at hg2
            have HG3 := Lib.hid (fun x (hx : x ∈ (ks.drop (i + 1)).names D) => hg2 x (List.mem_append_right _ hx))
            have HG4 := Lib.hid (fun x (hx : x ∈ namesN (ks.k i) (ks.n i) (ks.kids i) D) => hg2 x (List.mem_append_left _ hx))
            clear hg2
            have hnl := NLn.out i D
            rw [hcd] at hb2
            have hb3 : (L2 ++ namesN (ks.k i) (ks.n i) (ks.kids i) D).length + 2 * (ks.drop (i + 1)).cnt ≤ M := by rw [List.length_append]; omega
            have CI := Lib.hid (IH.out _ (show (ks.kids i).cnt < N by have := PC.out i hlt; omega) (ks.kids i) _ (ks.k i) (ks.n i) D L2 O2 w3 (Nat.le_refl _) (by have := PC.out i hlt; omega) (hKi.below hsz3 hB3) (by omega) (SA.out i hlt).1 (SA.out i hlt).2 (by omega) HG4.out (HBL.out _ _ _ _ HI.out hB3))
            have HL3 := Lib.hid (show (L2 ++ namesN (ks.k i) (ks.n i) (ks.kids i) D) ++ (ks.drop (i + 1)).names D = R by rw [List.append_assoc]; exact HL2)
            have HF3 := Lib.hid (HF.out.trans (Fr.of_below (O := O2) hB3))
            have HK3 := Lib.hid (HK.out.below hsz3 hB3)
            have hl2 := Lib.hid (show ∀ X, O2 X → lim ≤ X from fun X h => (HLT.out _ _ _ HI.out X h).1)
            clear hKi HL2 HL HI hB3 hcd hnl hb2 HK
            generalize namesN (ks.k i) (ks.n i) (ks.kids i) D = l3 at *
            generalize ks.k i = X1 at *
            generalize ks.n i = X2 at *
            go_wp2_with fail
            rw [← hw3]
            refine CI.out.mono ?_
            rintro e w4 ⟨rfl, O4, I4, F4⟩
            have HI4 := Lib.hid I4
            have HF4 := Lib.hid (HF3.out.trans F4)
            have HK4 := Lib.hid (HK3.out.carry (F4.below (by omega) hl2.out))
            clear I4 F4 m0 m1 m2
            go_wp2_with fail
            go_roundw
            case rel => exact ⟨i + 1, O4, _, by omega, by go_num, hb3, HG3, HI4, HL3, HF4, HK4⟩
            case measure => (first | (simp [intOf]; done) | (simp [intOf]; omega) | (simp only [intOf]; omega))
          · obtain rfl : i = m := by omega
            have dd : decide ((i : Int) < (i : Int)) = false := decide_eq_false (by omega)
            have HL2 := HL.out
            rw [NE.out, List.append_nil] at HL2
            have HI2 := HI.out
            rw [HL2] at HI2
            have HI3 := Lib.hid HI2
            clear HI HI2 HL2 HL
            go_wp2_with fail
            go_end0
            exact ⟨rfl, O2, HI3.out, HF.out⟩
set_option maxRecDepth 100000 in
set_option maxHeartbeats 8000000 in
theorem each_times (p1 p2 : Addr) (lim M : Nat) (Inv : List Nam → (Nat → Prop) → World → Prop)
    (hlt : ∀ L O w, Inv L O w → ∀ X, O X → lim ≤ X ∧ X < w.heap.size) (hbel : ∀ L O w w', Inv L O w → Below w.heap.size w w' → Inv L O w')
    (G : Nam → Prop) (hstep : ∀ L O (x : Nam) w, G x → L.length < M → Inv L O w → Calls Try.prog 83 #[.agg #[.int .i64 x.k, .int .i64 x.n, .int .i64 x.m, .int .i64 x.d], .pointer (some p1), .pointer (some p2)] w (Tells Inv O (L ++ [x]) w))
    (N : Nat) : ∀ (ks : Fo) (v : Value) (k n dir : Int) (L : List Nam) (O : Nat → Prop) (W : World), ks.cnt ≤ N → N ≤ 1048576 → Kids W lim v ks → lim ≤ W.heap.size → (k = 7 → 0 < ks.len) → ks.sane → L.length + 2 * ks.cnt + 2 ≤ M → (∀ x ∈ namesN k n ks dir, G x) → Inv L O W →
    Calls Try.prog 81 #[.agg #[.int .i64 k, .int .i64 n, v], .int .i64 dir, .func (.func 83) #[] #[.pointer (some p1), .pointer (some p2)]] W (Tells Inv O (L ++ namesN k n ks dir) W) := by
  induction N using Nat.strongRecOn with
  | _ N ih =>
  intro ks v k n dir L O W hN hN2 hK hl h7 hsn hM hG hI
  obtain ⟨p, m, c, rfl, hc1, hc2, HM⟩ := hK.shape
  obtain ⟨w0, hw0, c0, c1, c2, hB, hsz⟩ := box3 W k n (.slice p m c) 24
  have hK0 := hK.below hl hB
  have hI0 := hbel L O W w0 hI hB
  have xO : ¬ O W.heap.size := fun h => by have := (hlt L O W hI _ h).2; omega
  have hlO : ∀ X, O X → lim ≤ X := fun X h => (hlt L O W hI X h).1
  have NM := Lib.hid (need_named k n dir (.slice p m c) ks lim w0 hK0 (by omega) h7)
  have hll := named_len k n dir (ks.n 0)
  have hlk := names_len ks (under k dir)
  have E := Lib.hid (show L ++ namesN k n ks dir = L ++ namedL k n dir (ks.n 0) ++ ks.names (under k dir) by rw [namesN, List.append_assoc])
  have HG1 := Lib.hid (fun x (hx : x ∈ namedL k n dir (ks.n 0)) => hG x (by rw [namesN]; exact List.mem_append_left _ hx))
  have HG2 := Lib.hid (fun x (hx : x ∈ ks.names (under k dir)) => hG x (by rw [namesN]; exact List.mem_append_right _ hx))
  clear hG
  generalize L ++ namesN k n ks dir = R at *
  have hmN := Fo.len_cnt ks
  have hmm : m ≤ 1048576 := by have := HM.out; omega
  have ST := Lib.hid hstep
  have IH := Lib.hid ih
  have HBL := Lib.hid hbel
  have HLT := Lib.hid hlt
  have NS := Lib.hid (fun i d (hi : i < m) => names_step ks i d (by rw [← HM.out]; exact hi))
  have NE := Lib.hid (show ∀ d, (ks.drop m).names d = [] from fun d => by rw [HM.out]; exact names_end ks d)
  have N0 := Lib.hid (show (ks.drop 0).names (under k dir) = ks.names (under k dir) by rw [Fo.drop_zero])
  have CD := Lib.hid (fun i (hi : i < m) => (show (ks.drop i).cnt = (ks.kids i).cnt + (ks.drop (i + 1)).cnt + 1 by rw [Fo.drop_at ks i (by rw [← HM.out]; exact hi), Fo.cnt]))
  have C0 := Lib.hid (show (ks.drop 0).cnt = ks.cnt by rw [Fo.drop_zero])
  have NLn := Lib.hid (fun i d => (show (namesN (ks.k i) (ks.n i) (ks.kids i) d).length ≤ 2 + 2 * (ks.kids i).cnt by
    have a1 := named_len (ks.k i) (ks.n i) d ((ks.kids i).n 0)
    have a2 := names_len (ks.kids i) (under (ks.k i) d)
    rw [namesN, List.length_append]; omega))
  have SA := Lib.hid (fun i (hi : i < m) => Fo.sane_at ks i hsn (by rw [← HM.out]; exact hi))
  have PC := Lib.hid (fun i (hi : i < m) => (show (ks.kids i).cnt < ks.cnt from Fo.cnt_kids ks i (by rw [← HM.out]; exact hi)))
  have UL := Lib.hid (fun h => under_lo (k := k) (dir := dir) h)
  have UU := Lib.hid (fun h => under_up (k := k) (dir := dir) h)
  generalize ks.n 0 = A at *
  generalize hl1 : namedL k n dir A = l1 at *
  generalize under k dir = D at *
  have HO := Lib.hid (show Fr O O W w0 from Fr.of_below hB)
  have hK0' := Lib.hid hK0
  have hI0' := Lib.hid hI0
  clear ih hbel hlt hstep hI hK hK0 hl1 hsn hB hI0
  go_enter Try.func81, Try.ntmps81
  go_wp2_with fail
  rw [← hw0]
  clear hw0
  refine NM.out.mono ?_
  rintro e w1 ⟨a1, ca1, rfl, hR, hnew, b1⟩
  have F1 := Lib.hid (Fr.of_below (O := O) b1)
  have I1 := Lib.hid (HBL.out _ _ _ _ hI0'.out b1)
  have K1 := Lib.hid (hK0'.out.below (by omega) b1)
  have hs1 := b1.size
  have x0 : W.heap.size < w0.heap.size := by omega
  have d0 := (b1.cell (p := ⟨W.heap.size, 0, none⟩) x0).trans c0
  have d2 := (b1.cell (p := ⟨W.heap.size, 2, none⟩) x0).trans c2
  have HR := Lib.hid hR
  have HNW := Lib.hid (show ∀ x, a1 = some x → ¬ O x.block from fun x hx hO => by
    have h1 := hnew x hx
    have h2 := (HLT.out _ _ _ hI0'.out _ hO).2
    have h3 : O x.block := hO
    have := HO.out.own x.block hO
    have h4 := (HLT.out L O w0 hI0'.out x.block hO).2
    omega)
  have x1 : W.heap.size < w1.heap.size := by omega
  obtain ⟨q, hq⟩ : ∃ q, l1.length = q := ⟨_, rfl⟩
  have HQ := Lib.hid hq
  rw [hq] at hll
  rw [hq]
  clear hR hnew b1 c0 c1 c2 NM hI0' hK0' hq
  go_wp2_with fail
  go_loopw [7, 14] (fun _ y wr => ∃ (i : Nat) (O' : Nat → Prop), i ≤ q ∧ y = .int .i64 i ∧ Hid (Inv (L ++ l1.take i) O' wr) ∧ Hid (Fr O O' w1 wr)) (fun _ y _ => q - (intOf y).toNat)
  case atStart => exact ⟨0, O, Nat.zero_le _, rfl, by simpa using I1, Lib.hid (Fr.refl _ _)⟩
  case round =>
    clear I1
    obtain ⟨i, O', hi, rfl, HI, HF⟩ := hrel
    have hs := HF.out.size
    by_cases hlt : i < q
    · have hli : i < l1.length := by rw [HQ.out]; exact hlt
      obtain ⟨b, o, e1, hb, g0, g1, g2, g3⟩ := HR.out.get hli
      have hnb := HNW.out _ e1
      subst e1
      have g0 := HF.out.cell hb hnb g0
      have g1 := HF.out.cell hb hnb g1
      have g2 := HF.out.cell hb hnb g2
      have g3 := HF.out.cell hb hnb g3
      have dd : decide ((i : Int) < (q : Int)) = true := decide_eq_true (by omega)
      obtain ⟨w3, hw3, m0, m1, m2, m3, hB3, hs3⟩ := box4n wr l1[i].k l1[i].n l1[i].m l1[i].d 54
      have I3 := HBL.out _ _ _ _ HI.out hB3
      have CI := Lib.hid (ST.out _ _ l1[i] w3 (HG1.out _ (List.getElem_mem hli)) (by rw [List.length_append, List.length_take]; omega) I3)
      rw [drop_snoc L l1 i hli] at CI
      have HF3 := Lib.hid (HF.out.trans (Fr.of_below (O := O') hB3))
      clear I3 hB3 hnb
      generalize l1[i].k = X1 at *
      generalize l1[i].n = X2 at *
      generalize l1[i].m = X3 at *
      generalize l1[i].d = X4 at *
      go_wp2_with fail
      rw [← hw3]
      refine CI.out.mono ?_
      rintro e w4 ⟨rfl, O4, I4, F4⟩
      have HI4 := Lib.hid I4
      have HF4 := Lib.hid (HF3.out.trans F4)
      clear I4 F4 m0 m1 m2 m3
      go_wp2_with fail
      go_roundw
      case rel => exact ⟨i + 1, O4, by omega, by go_num, HI4, HF4⟩
      case measure => (first | (simp [intOf]; done) | (simp [intOf]; omega) | (simp only [intOf]; omega))
    · obtain rfl : i = q := by omega
      have dd : decide ((i : Int) < (i : Int)) = false := decide_eq_false (by omega)
      have HI2 := HI.out
      rw [List.take_of_length_le (by rw [HQ.out]; exact Nat.le_refl _)] at HI2
      have HI2 := Lib.hid HI2
      have k0 := HF.out.cell (j := 0) x1 xO d0
      have k2 := HF.out.cell (j := 2) x1 xO d2
      have HF0 := Lib.hid (HO.out.trans (F1.out.trans HF.out))
      have HK2 := Lib.hid (K1.out.carry (HF.out.below (by omega) hlO))
      clear HI HF HR HNW d0 d2 K1
      have hs5 : lim ≤ wr.heap.size := by have := HF0.out.size; omega
      by_cases hk : k = 6 ∨ k = 7
      · have hD : D = 0 := UL.out hk
        subst hD
        rcases hk with rfl | rfl
        all_goals
          go_wp2_with fail
          go_loopw [9, 33] (fun _ y wr => ∃ (i : Nat) (O2 : Nat → Prop) (L2 : List Nam), i ≤ m ∧ y = .int .i64 i ∧ L2.length + 2 * (ks.drop i).cnt ≤ M ∧ Hid (∀ x ∈ (ks.drop i).names 0, G x) ∧ Hid (Inv L2 O2 wr) ∧ Hid (L2 ++ (ks.drop i).names 0 = R) ∧ Hid (Fr O O2 W wr) ∧ Hid (Kids wr lim (.slice p m c) ks)) (fun _ y _ => m - (intOf y).toNat)
          case atStart => exact ⟨0, O', L ++ l1, Nat.zero_le _, rfl, (by rw [C0.out, List.length_append, HQ.out]; omega), Lib.hid (by rw [N0.out]; exact HG2.out), HI2, Lib.hid (by rw [N0.out]; exact E.out.symm), HF0, HK2⟩
          case round =>
            clear HI2 HF0 HK2 hs5
            obtain ⟨i, O2, L2, hi, rfl, hb2, HG, HI, HL, HF, HK⟩ := hrel
            by_cases hlt : i < m
            · obtain ⟨b, o, v, rfl, hb, g0, g1, g2, hKi⟩ := HK.out.get hlt
              obtain ⟨a', m', c', rfl, _, _, _⟩ := hKi.shape
              have dd : decide ((i : Int) < (m : Int)) = true := decide_eq_true (by omega)
              obtain ⟨w3, hw3, m0, m1, m2, hB3, hs3⟩ := box3 wr (ks.k i) (ks.n i) (.slice a' m' c') 24
              have hsz3 : lim ≤ wr.heap.size := by have := HF.out.size; omega
              have HL2 := HL.out
              rw [NS.out i _ hlt] at HL2
              have hcd := CD.out i hlt
              have hg2 := HG.out
              rw [NS.out i _ hlt] at hg2
              have HG3 := Lib.hid (fun x (hx : x ∈ (ks.drop (i + 1)).names 0) => hg2 x (List.mem_append_right _ hx))
              have HG4 := Lib.hid (fun x (hx : x ∈ namesN (ks.k i) (ks.n i) (ks.kids i) 0) => hg2 x (List.mem_append_left _ hx))
              clear hg2
              have hnl := NLn.out i 0
              rw [hcd] at hb2
              have hb3 : (L2 ++ namesN (ks.k i) (ks.n i) (ks.kids i) 0).length + 2 * (ks.drop (i + 1)).cnt ≤ M := by rw [List.length_append]; omega
              have CI := Lib.hid (IH.out _ (show (ks.kids i).cnt < N by have := PC.out i hlt; omega) (ks.kids i) _ (ks.k i) (ks.n i) 0 L2 O2 w3 (Nat.le_refl _) (by have := PC.out i hlt; omega) (hKi.below hsz3 hB3) (by omega) (SA.out i hlt).1 (SA.out i hlt).2 (by omega) HG4.out (HBL.out _ _ _ _ HI.out hB3))
              have HL3 := Lib.hid (show (L2 ++ namesN (ks.k i) (ks.n i) (ks.kids i) 0) ++ (ks.drop (i + 1)).names 0 = R by rw [List.append_assoc]; exact HL2)
              have HF3 := Lib.hid (HF.out.trans (Fr.of_below (O := O2) hB3))
              have HK3 := Lib.hid (HK.out.below hsz3 hB3)
              have hl2 := Lib.hid (show ∀ X, O2 X → lim ≤ X from fun X h => (HLT.out _ _ _ HI.out X h).1)
              clear hKi HL2 HL HI hB3 hcd hnl hb2 HK
              generalize namesN (ks.k i) (ks.n i) (ks.kids i) 0 = l3 at *
              generalize ks.k i = X1 at *
              generalize ks.n i = X2 at *
              go_wp2_with fail
              rw [← hw3]
              refine CI.out.mono ?_
              rintro e w4 ⟨rfl, O4, I4, F4⟩
              have HI4 := Lib.hid I4
              have HF4 := Lib.hid (HF3.out.trans F4)
              have HK4 := Lib.hid (HK3.out.carry (F4.below (by omega) hl2.out))
              clear I4 F4 m0 m1 m2
              go_wp2_with fail
              go_roundw
              case rel => exact ⟨i + 1, O4, _, by omega, by go_num, hb3, HG3, HI4, HL3, HF4, HK4⟩
              case measure => (first | (simp [intOf]; done) | (simp [intOf]; omega) | (simp only [intOf]; omega))
            · obtain rfl : i = m := by omega
              have dd : decide ((i : Int) < (i : Int)) = false := decide_eq_false (by omega)
              have HL2 := HL.out
              rw [NE.out, List.append_nil] at HL2
              have HI2 := HI.out
              rw [HL2] at HI2
              have HI3 := Lib.hid HI2
              clear HI HI2 HL2 HL
              go_wp2_with fail
              go_end0
              exact ⟨rfl, O2, HI3.out, HF.out⟩
      · have hD : D = dir := UU.out hk
        subst hD
        have e6 : (k == 6) = false := by simp; omega
        have e7 : (k == 7) = false := by simp; omega
        go_wp2_with fail
        go_loopw [9, 33] (fun _ y wr => ∃ (i : Nat) (O2 : Nat → Prop) (L2 : List Nam), i ≤ m ∧ y = .int .i64 i ∧ L2.length + 2 * (ks.drop i).cnt ≤ M ∧ Hid (∀ x ∈ (ks.drop i).names D, G x) ∧ Hid (Inv L2 O2 wr) ∧ Hid (L2 ++ (ks.drop i).names D = R) ∧ Hid (Fr O O2 W wr) ∧ Hid (Kids wr lim (.slice p m c) ks)) (fun _ y _ => m - (intOf y).toNat)
        case atStart => exact ⟨0, O', L ++ l1, Nat.zero_le _, rfl, (by rw [C0.out, List.length_append, HQ.out]; omega), Lib.hid (by rw [N0.out]; exact HG2.out), HI2, Lib.hid (by rw [N0.out]; exact E.out.symm), HF0, HK2⟩
        case round =>
          clear HI2 HF0 HK2 hs5
          obtain ⟨i, O2, L2, hi, rfl, hb2, HG, HI, HL, HF, HK⟩ := hrel
          by_cases hlt : i < m
          · obtain ⟨b, o, v, rfl, hb, g0, g1, g2, hKi⟩ := HK.out.get hlt
            obtain ⟨a', m', c', rfl, _, _, _⟩ := hKi.shape
            have dd : decide ((i : Int) < (m : Int)) = true := decide_eq_true (by omega)
            obtain ⟨w3, hw3, m0, m1, m2, hB3, hs3⟩ := box3 wr (ks.k i) (ks.n i) (.slice a' m' c') 24
            have hsz3 : lim ≤ wr.heap.size := by have := HF.out.size; omega
            have HL2 := HL.out
            rw [NS.out i _ hlt] at HL2
            have hcd := CD.out i hlt
            have hg2 := HG.out
            rw [NS.out i _ hlt] at hg2
            have HG3 := Lib.hid (fun x (hx : x ∈ (ks.drop (i + 1)).names D) => hg2 x (List.mem_append_right _ hx))
            have HG4 := Lib.hid (fun x (hx : x ∈ namesN (ks.k i) (ks.n i) (ks.kids i) D) => hg2 x (List.mem_append_left _ hx))
            clear hg2
            have hnl := NLn.out i D
            rw [hcd] at hb2
            have hb3 : (L2 ++ namesN (ks.k i) (ks.n i) (ks.kids i) D).length + 2 * (ks.drop (i + 1)).cnt ≤ M := by rw [List.length_append]; omega
            have CI := Lib.hid (IH.out _ (show (ks.kids i).cnt < N by have := PC.out i hlt; omega) (ks.kids i) _ (ks.k i) (ks.n i) D L2 O2 w3 (Nat.le_refl _) (by have := PC.out i hlt; omega) (hKi.below hsz3 hB3) (by omega) (SA.out i hlt).1 (SA.out i hlt).2 (by omega) HG4.out (HBL.out _ _ _ _ HI.out hB3))
            have HL3 := Lib.hid (show (L2 ++ namesN (ks.k i) (ks.n i) (ks.kids i) D) ++ (ks.drop (i + 1)).names D = R by rw [List.append_assoc]; exact HL2)
            have HF3 := Lib.hid (HF.out.trans (Fr.of_below (O := O2) hB3))
            have HK3 := Lib.hid (HK.out.below hsz3 hB3)
            have hl2 := Lib.hid (show ∀ X, O2 X → lim ≤ X from fun X h => (HLT.out _ _ _ HI.out X h).1)
            clear hKi HL2 HL HI hB3 hcd hnl hb2 HK
            generalize namesN (ks.k i) (ks.n i) (ks.kids i) D = l3 at *
            generalize ks.k i = X1 at *
            generalize ks.n i = X2 at *
            go_wp2_with fail
            rw [← hw3]
            refine CI.out.mono ?_
            rintro e w4 ⟨rfl, O4, I4, F4⟩
            have HI4 := Lib.hid I4
            have HF4 := Lib.hid (HF3.out.trans F4)
            have HK4 := Lib.hid (HK3.out.carry (F4.below (by omega) hl2.out))
            clear I4 F4 m0 m1 m2
            go_wp2_with fail
            go_roundw
            case rel => exact ⟨i + 1, O4, _, by omega, by go_num, hb3, HG3, HI4, HL3, HF4, HK4⟩
            case measure => (first | (simp [intOf]; done) | (simp [intOf]; omega) | (simp only [intOf]; omega))
          · obtain rfl : i = m := by omega
            have dd : decide ((i : Int) < (i : Int)) = false := decide_eq_false (by omega)
            have HL2 := HL.out
            rw [NE.out, List.append_nil] at HL2
            have HI2 := HI.out
            rw [HL2] at HI2
            have HI3 := Lib.hid HI2
            clear HI HI2 HL2 HL
            go_wp2_with fail
            go_end0
            exact ⟨rfl, O2, HI3.out, HF.out⟩
end Go.Proofs.Yticljddfdeocbaa
