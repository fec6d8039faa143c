/- Put together by program (merge2.py): Each Times Once Told Tabs Tabl. -/
import Derived.WideKeyEntry
import Derived.DeepKeys4
import Derived.RegionTactic
import Derived.Test.YtbhnlfgccldmaaaGreatZd17
/- Package need's each: what all nodes name is told, one by one. -/
namespace Go.Proofs.YtbhnlfgccldmaaaGreat
open Go.ChangeShapes Go.WideShapes Go.ChangeAt Go.RowKit
set_option linter.unusedVariables false
/-- From w to w': of w's blocks just those of O may have turned; those of O' are of O, or new. -/
structure Fr (O O' : Nat → Prop) (w w' : World) : Prop where
  os : w'.os = w.os
  tape : w'.tape = w.tape
  output : w'.output = w.output
  size : w.heap.size ≤ w'.heap.size
  blk : ∀ X, X < w.heap.size → ¬ O X → w'.heap[X]? = w.heap[X]?
  own : ∀ X, O' X → O X ∨ w.heap.size ≤ X
theorem Fr.of_below {O : Nat → Prop} {w w' : World} (h : Below w.heap.size w w') : Fr O O w w' := ⟨h.os, h.tape, h.output, h.size, fun X hX _ => h.block X hX, fun _ h => .inl h⟩
theorem Fr.refl (O : Nat → Prop) (w : World) : Fr O O w w := Fr.of_below (Below.refl _ _)
theorem Fr.trans {O O' O'' : Nat → Prop} {w w' w'' : World} (h : Fr O O' w w') (k : Fr O' O'' w' w'') : Fr O O'' w w'' :=
  ⟨k.os.trans h.os, k.tape.trans h.tape, k.output.trans h.output, Nat.le_trans h.size k.size, fun X hX hO => (k.blk X (by have := h.size; omega) (fun hO' => (h.own X hO').elim hO (by omega))).trans (h.blk X hX hO),
   fun X hX => (k.own X hX).elim (fun h1 => h.own X h1) (fun h1 => .inr (by have := h.size; omega))⟩
theorem Fr.below {O O' : Nat → Prop} {w w' : World} {H : Nat} (h : Fr O O' w w') (hH : H ≤ w.heap.size) (hO : ∀ X, O X → H ≤ X) : Below H w w' :=
  ⟨h.os, h.tape, h.output, h.size, fun X hX => h.blk X (by omega) (fun hx => by have := hO X hx; omega)⟩
theorem Fr.cell {O O' : Nat → Prop} {w w' : World} (h : Fr O O' w w') {X j : Nat} (hX : X < w.heap.size) (hO : ¬ O X) {v : Value} (hc : w.cell? ⟨X, j, none⟩ = some v) : w'.cell? ⟨X, j, none⟩ = some v :=
  (World.cell?_of_block (h.blk X hX hO)).trans hc
/-- Every node of kind 7 has a kid. -/
def Fo.sane : Fo → Prop
  | .nil => True
  | .cons k _ ks r => (k = 7 → 0 < ks.len) ∧ ks.sane ∧ r.sane
theorem Fo.sane_at : ∀ (f : Fo) (i : Nat), f.sane → i < f.len → (f.k i = 7 → 0 < (f.kids i).len) ∧ (f.kids i).sane
  | .nil, _, _, h => by simp [Fo.len] at h
  | .cons k n ks r, 0, hs, _ => ⟨hs.1, hs.2.1⟩
  | .cons k n ks r, i + 1, hs, h => Fo.sane_at r i hs.2.2 (by simp [Fo.len] at h; omega)
theorem drop_snoc {α : Type} (L l : List α) (i : Nat) (h : i < l.length) : L ++ l.take i ++ [l[i]] = L ++ l.take (i + 1) := by
  rw [List.append_assoc, List.take_succ_eq_append_getElem h]
theorem under_lo {k dir : Int} (h : k = 6 ∨ k = 7) : under k dir = 0 := if_pos h
theorem under_up {k dir : Int} (h : ¬ (k = 6 ∨ k = 7)) : under k dir = dir := if_neg h
theorem box4n (W : World) (a b c d : Int) (T : TypeId) : ∃ w0 : World, w0 = W.alloc (.cells #[.int .i64 a, .int .i64 b, .int .i64 c, .int .i64 d] T) ∧ w0.cell? ⟨W.heap.size, 0, none⟩ = some (.int .i64 a) ∧ w0.cell? ⟨W.heap.size, 1, none⟩ = some (.int .i64 b) ∧ w0.cell? ⟨W.heap.size, 2, none⟩ = some (.int .i64 c) ∧ w0.cell? ⟨W.heap.size, 3, none⟩ = some (.int .i64 d) ∧ Below W.heap.size W w0 ∧ w0.heap.size = W.heap.size + 1 := by
  have hn := heap_alloc_new W (.cells #[.int .i64 a, .int .i64 b, .int .i64 c, .int .i64 d] T)
  refine ⟨_, rfl, ?_, ?_, ?_, ?_, (Below.refl _ _).alloc (Nat.le_refl _) _, by simp⟩ <;> (rw [cell_of_row _ _ _ _ _ _ hn]; rfl)
/-- What is known behind what was told. -/
def Tells (Inv : List Nam → (Nat → Prop) → World → Prop) (O : Nat → Prop) (L : List Nam) (W : World) (e : Ending) (w' : World) : Prop := e = .returned (.tuple #[]) ∧ ∃ O', Inv L O' w' ∧ Fr O O' W w'
set_option maxRecDepth 100000 in
set_option maxHeartbeats 8000000 in
theorem each_tables (p1 p2 : Addr) (lim M : Nat) (Inv : List Nam → (Nat → Prop) → World → Prop)
    (hlt : ∀ L O w, Inv L O w → ∀ X, O X → lim ≤ X ∧ X < w.heap.size) (hbel : ∀ L O w w', Inv L O w → Below w.heap.size w w' → Inv L O w')
    (G : Nam → Prop) (hstep : ∀ L O (x : Nam) w, G x → L.length < M → Inv L O w → Calls Tryz.prog 127 #[.agg #[.int .i64 x.k, .int .i64 x.n, .int .i64 x.m, .int .i64 x.d], .pointer (some p1), .pointer (some p2)] w (Tells Inv O (L ++ [x]) w))
    (N : Nat) : ∀ (ks : Fo) (v : Value) (k n dir : Int) (L : List Nam) (O : Nat → Prop) (W : World), ks.cnt ≤ N → N ≤ 1048576 → Kids W lim v ks → lim ≤ W.heap.size → (k = 7 → 0 < ks.len) → ks.sane → L.length + 2 * ks.cnt + 2 ≤ M → (∀ x ∈ namesN k n ks dir, G x) → Inv L O W →
    Calls Tryz.prog 126 #[.agg #[.int .i64 k, .int .i64 n, v], .int .i64 dir, .func (.func 127) #[] #[.pointer (some p1), .pointer (some p2)]] W (Tells Inv O (L ++ namesN k n ks dir) W) := by
  induction N using Nat.strongRecOn with
  | _ N ih =>
  intro ks v k n dir L O W hN hN2 hK hl h7 hsn hM hG hI
  obtain ⟨p, m, c, rfl, hc1, hc2, HM⟩ := hK.shape
  obtain ⟨w0, hw0, c0, c1, c2, hB, hsz⟩ := box3 W k n (.slice p m c) 24
  have hK0 := hK.below hl hB
  have hI0 := hbel L O W w0 hI hB
  have xO : ¬ O W.heap.size := fun h => by have := (hlt L O W hI _ h).2; omega
  have hlO : ∀ X, O X → lim ≤ X := fun X h => (hlt L O W hI X h).1
  have NM := Lib.hid (need_named k n dir (.slice p m c) ks lim w0 hK0 (by omega) h7)
  have hll := named_len k n dir (ks.n 0)
  have hlk := names_len ks (under k dir)
  have E := Lib.hid (show L ++ namesN k n ks dir = L ++ namedL k n dir (ks.n 0) ++ ks.names (under k dir) by rw [namesN, List.append_assoc])
  have HG1 := Lib.hid (fun x (hx : x ∈ namedL k n dir (ks.n 0)) => hG x (by rw [namesN]; exact List.mem_append_left _ hx))
  have HG2 := Lib.hid (fun x (hx : x ∈ ks.names (under k dir)) => hG x (by rw [namesN]; exact List.mem_append_right _ hx))
  clear hG
  generalize L ++ namesN k n ks dir = R at *
  have hmN := Fo.len_cnt ks
  have hmm : m ≤ 1048576 := by have := HM.out; omega
  have ST := Lib.hid hstep
  have IH := Lib.hid ih
  have HBL := Lib.hid hbel
  have HLT := Lib.hid hlt
  have NS := Lib.hid (fun i d (hi : i < m) => names_step ks i d (by rw [← HM.out]; exact hi))
  have NE := Lib.hid (show ∀ d, (ks.drop m).names d = [] from fun d => by rw [HM.out]; exact names_end ks d)
  have N0 := Lib.hid (show (ks.drop 0).names (under k dir) = ks.names (under k dir) by rw [Fo.drop_zero])
  have CD := Lib.hid (fun i (hi : i < m) => (show (ks.drop i).cnt = (ks.kids i).cnt + (ks.drop (i + 1)).cnt + 1 by rw [Fo.drop_at ks i (by rw [← HM.out]; exact hi), Fo.cnt]))
  have C0 := Lib.hid (show (ks.drop 0).cnt = ks.cnt by rw [Fo.drop_zero])
  have NLn := Lib.hid (fun i d => (show (namesN (ks.k i) (ks.n i) (ks.kids i) d).length ≤ 2 + 2 * (ks.kids i).cnt by
    have a1 := named_len (ks.k i) (ks.n i) d ((ks.kids i).n 0)
    have a2 := names_len (ks.kids i) (under (ks.k i) d)
    rw [namesN, List.length_append]; omega))
  have SA := Lib.hid (fun i (hi : i < m) => Fo.sane_at ks i hsn (by rw [← HM.out]; exact hi))
  have PC := Lib.hid (fun i (hi : i < m) => (show (ks.kids i).cnt < ks.cnt from Fo.cnt_kids ks i (by rw [← HM.out]; exact hi)))
  have UL := Lib.hid (fun h => under_lo (k := k) (dir := dir) h)
  have UU := Lib.hid (fun h => under_up (k := k) (dir := dir) h)
  generalize ks.n 0 = A at *
  generalize hl1 : namedL k n dir A = l1 at *
  generalize under k dir = D at *
  have HO := Lib.hid (show Fr O O W w0 from Fr.of_below hB)
  have hK0' := Lib.hid hK0
  have hI0' := Lib.hid hI0
  clear ih hbel hlt hstep hI hK hK0 hl1 hsn hB hI0
  go_enter Tryz.func126, Tryz.ntmps126
  go_wp2_with fail
  rw [← hw0]
  clear hw0
  refine NM.out.mono ?_
  rintro e w1 ⟨a1, ca1, rfl, hR, hnew, b1⟩
  have F1 := Lib.hid (Fr.of_below (O := O) b1)
  have I1 := Lib.hid (HBL.out _ _ _ _ hI0'.out b1)
  have K1 := Lib.hid (hK0'.out.below (by omega) b1)
  have hs1 := b1.size
  have x0 : W.heap.size < w0.heap.size := by omega
  have d0 := (b1.cell (p := ⟨W.heap.size, 0, none⟩) x0).trans c0
  have d2 := (b1.cell (p := ⟨W.heap.size, 2, none⟩) x0).trans c2
  have HR := Lib.hid hR
  have HNW := Lib.hid (show ∀ x, a1 = some x → ¬ O x.block from fun x hx hO => by
    have h1 := hnew x hx
    have h2 := (HLT.out _ _ _ hI0'.out _ hO).2
    have h3 : O x.block := hO
    have := HO.out.own x.block hO
    have h4 := (HLT.out L O w0 hI0'.out x.block hO).2
    omega)
  have x1 : W.heap.size < w1.heap.size := by omega
  obtain ⟨q, hq⟩ : ∃ q, l1.length = q := ⟨_, rfl⟩
  have HQ := Lib.hid hq
  rw [hq] at hll
  rw [hq]
  clear hR hnew b1 c0 c1 c2 NM hI0' hK0' hq
  go_wp2_with fail
  go_loopw [7, 14] (fun _ y wr => ∃ (i : Nat) (O' : Nat → Prop), i ≤ q ∧ y = .int .i64 i ∧ Hid (Inv (L ++ l1.take i) O' wr) ∧ Hid (Fr O O' w1 wr)) (fun _ y _ => q - (intOf y).toNat)
  case atStart => exact ⟨0, O, Nat.zero_le _, rfl, by simpa using I1, Lib.hid (Fr.refl _ _)⟩
  case round =>
    clear I1
    obtain ⟨i, O', hi, rfl, HI, HF⟩ := hrel
    have hs := HF.out.size
    by_cases hlt : i < q
    · have hli : i < l1.length := by rw [HQ.out]; exact hlt
      obtain ⟨b, o, e1, hb, g0, g1, g2, g3⟩ := HR.out.get hli
      have hnb := HNW.out _ e1
      subst e1
      have g0 := HF.out.cell hb hnb g0
      have g1 := HF.out.cell hb hnb g1
      have g2 := HF.out.cell hb hnb g2
      have g3 := HF.out.cell hb hnb g3
      have dd : decide ((i : Int) < (q : Int)) = true := decide_eq_true (by omega)
      obtain ⟨w3, hw3, m0, m1, m2, m3, hB3, hs3⟩ := box4n wr l1[i].k l1[i].n l1[i].m l1[i].d 82
      have I3 := HBL.out _ _ _ _ HI.out hB3
      have CI := Lib.hid (ST.out _ _ l1[i] w3 (HG1.out _ (List.getElem_mem hli)) (by rw [List.length_append, List.length_take]; omega) I3)
      rw [drop_snoc L l1 i hli] at CI
      have HF3 := Lib.hid (HF.out.trans (Fr.of_below (O := O') hB3))
      clear I3 hB3 hnb
      generalize l1[i].k = X1 at *
      generalize l1[i].n = X2 at *
      generalize l1[i].m = X3 at *
      generalize l1[i].d = X4 at *
      go_wp2_with fail
      rw [← hw3]
      refine CI.out.mono ?_
      rintro e w4 ⟨rfl, O4, I4, F4⟩
      have HI4 := Lib.hid I4
      have HF4 := Lib.hid (HF3.out.trans F4)
      clear I4 F4 m0 m1 m2 m3
      go_wp2_with fail
      go_roundw
      case rel => exact ⟨i + 1, O4, by omega, by go_num, HI4, HF4⟩
      case measure => (first | (simp [intOf]; done) | (simp [intOf]; omega) | (simp only [intOf]; omega))
    · obtain rfl : i = q := by omega
      have dd : decide ((i : Int) < (i : Int)) = false := decide_eq_false (by omega)
      have HI2 := HI.out
      rw [List.take_of_length_le (by rw [HQ.out]; exact Nat.le_refl _)] at HI2
      have HI2 := Lib.hid HI2
      have k0 := HF.out.cell (j := 0) x1 xO d0
      have k2 := HF.out.cell (j := 2) x1 xO d2
      have HF0 := Lib.hid (HO.out.trans (F1.out.trans HF.out))
      have HK2 := Lib.hid (K1.out.carry (HF.out.below (by omega) hlO))
      clear HI HF HR HNW d0 d2 K1
      have hs5 : lim ≤ wr.heap.size := by have := HF0.out.size; omega
      by_cases hk : k = 6 ∨ k = 7
      · have hD : D = 0 := UL.out hk
        subst hD
        rcases hk with rfl | rfl
        all_goals
          go_wp2_with fail
          go_loopw [9, 33] (fun _ y wr => ∃ (i : Nat) (O2 : Nat → Prop) (L2 : List Nam), i ≤ m ∧ y = .int .i64 i ∧ L2.length + 2 * (ks.drop i).cnt ≤ M ∧ Hid (∀ x ∈ (ks.drop i).names 0, G x) ∧ Hid (Inv L2 O2 wr) ∧ Hid (L2 ++ (ks.drop i).names 0 = R) ∧ Hid (Fr O O2 W wr) ∧ Hid (Kids wr lim (.slice p m c) ks)) (fun _ y _ => m - (intOf y).toNat)
          case atStart => exact ⟨0, O', L ++ l1, Nat.zero_le _, rfl, (by rw [C0.out, List.length_append, HQ.out]; omega), Lib.hid (by rw [N0.out]; exact HG2.out), HI2, Lib.hid (by rw [N0.out]; exact E.out.symm), HF0, HK2⟩
          case round =>
            clear HI2 HF0 HK2 hs5
            obtain ⟨i, O2, L2, hi, rfl, hb2, HG, HI, HL, HF, HK⟩ := hrel
            by_cases hlt : i < m
            · obtain ⟨b, o, v, rfl, hb, g0, g1, g2, hKi⟩ := HK.out.get hlt
              obtain ⟨a', m', c', rfl, _, _, _⟩ := hKi.shape
              have dd : decide ((i : Int) < (m : Int)) = true := decide_eq_true (by omega)
              obtain ⟨w3, hw3, m0, m1, m2, hB3, hs3⟩ := box3 wr (ks.k i) (ks.n i) (.slice a' m' c') 24
              have hsz3 : lim ≤ wr.heap.size := by have := HF.out.size; omega
              have HL2 := HL.out
              rw [NS.out i _ hlt] at HL2
              have hcd := CD.out i hlt
              have hg2 := HG.out
              rw [NS.out i _ hlt] at hg2
              have HG3 := Lib.hid (fun x (hx : x ∈ (ks.drop (i + 1)).names 0) => hg2 x (List.mem_append_right _ hx))
              have HG4 := Lib.hid (fun x (hx : x ∈ namesN (ks.k i) (ks.n i) (ks.kids i) 0) => hg2 x (List.mem_append_left _ hx))
              clear hg2
              have hnl := NLn.out i 0
              rw [hcd] at hb2
              have hb3 : (L2 ++ namesN (ks.k i) (ks.n i) (ks.kids i) 0).length + 2 * (ks.drop (i + 1)).cnt ≤ M := by rw [List.length_append]; omega
              have CI := Lib.hid (IH.out _ (show (ks.kids i).cnt < N by have := PC.out i hlt; omega) (ks.kids i) _ (ks.k i) (ks.n i) 0 L2 O2 w3 (Nat.le_refl _) (by have := PC.out i hlt; omega) (hKi.below hsz3 hB3) (by omega) (SA.out i hlt).1 (SA.out i hlt).2 (by omega) HG4.out (HBL.out _ _ _ _ HI.out hB3))
              have HL3 := Lib.hid (show (L2 ++ namesN (ks.k i) (ks.n i) (ks.kids i) 0) ++ (ks.drop (i + 1)).names 0 = R by rw [List.append_assoc]; exact HL2)
              have HF3 := Lib.hid (HF.out.trans (Fr.of_below (O := O2) hB3))
              have HK3 := Lib.hid (HK.out.below hsz3 hB3)
              have hl2 := Lib.hid (show ∀ X, O2 X → lim ≤ X from fun X h => (HLT.out _ _ _ HI.out X h).1)
              clear hKi HL2 HL HI hB3 hcd hnl hb2 HK
              generalize namesN (ks.k i) (ks.n i) (ks.kids i) 0 = l3 at *
              generalize ks.k i = X1 at *
              generalize ks.n i = X2 at *
              go_wp2_with fail
              rw [← hw3]
              refine CI.out.mono ?_
              rintro e w4 ⟨rfl, O4, I4, F4⟩
              have HI4 := Lib.hid I4
              have HF4 := Lib.hid (HF3.out.trans F4)
              have HK4 := Lib.hid (HK3.out.carry (F4.below (by omega) hl2.out))
              clear I4 F4 m0 m1 m2
              go_wp2_with fail
              go_roundw
              case rel => exact ⟨i + 1, O4, _, by omega, by go_num, hb3, HG3, HI4, HL3, HF4, HK4⟩
              case measure => (first | (simp [intOf]; done) | (simp [intOf]; omega) | (simp only [intOf]; omega))
            · obtain rfl : i = m := by omega
              have dd : decide ((i : Int) < (i : Int)) = false := decide_eq_false (by omega)
              have HL2 := HL.out
              rw [NE.out, List.append_nil] at HL2
              have HI2 := HI.out
              rw [HL2] at HI2
              have HI3 := Lib.hid HI2
              clear HI HI2 HL2 HL
              go_wp2_with fail
              go_end0
              exact ⟨rfl, O2, HI3.out, HF.out⟩
      · have hD : D = dir := UU.out hk
        subst hD
        have e6 : (k == 6) = false := by simp; omega
        have e7 : (k == 7) = false := by simp; omega
        go_wp2_with fail
        go_loopw [9, 33] (fun _ y wr => ∃ (i : Nat) (O2 : Nat → Prop) (L2 : List Nam), i ≤ m ∧ y = .int .i64 i ∧ L2.length + 2 * (ks.drop i).cnt ≤ M ∧ Hid (∀ x ∈ (ks.drop i).names D, G x) ∧ Hid (Inv L2 O2 wr) ∧ Hid (L2 ++ (ks.drop i).names D = R) ∧ Hid (Fr O O2 W wr) ∧ Hid (Kids wr lim (.slice p m c) ks)) (fun _ y _ => m - (intOf y).toNat)
        case atStart => exact ⟨0, O', L ++ l1, Nat.zero_le _, rfl, (by rw [C0.out, List.length_append, HQ.out]; omega), Lib.hid (by rw [N0.out]; exact HG2.out), HI2, Lib.hid (by rw [N0.out]; exact E.out.symm), HF0, HK2⟩
        case round =>
          clear HI2 HF0 HK2 hs5
          obtain ⟨i, O2, L2, hi, rfl, hb2, HG, HI, HL, HF, HK⟩ := hrel
          by_cases hlt : i < m
          · obtain ⟨b, o, v, rfl, hb, g0, g1, g2, hKi⟩ := HK.out.get hlt
            obtain ⟨a', m', c', rfl, _, _, _⟩ := hKi.shape
            have dd : decide ((i : Int) < (m : Int)) = true := decide_eq_true (by omega)
            obtain ⟨w3, hw3, m0, m1, m2, hB3, hs3⟩ := box3 wr (ks.k i) (ks.n i) (.slice a' m' c') 24
            have hsz3 : lim ≤ wr.heap.size := by have := HF.out.size; omega
            have HL2 := HL.out
            rw [NS.out i _ hlt] at HL2
            have hcd := CD.out i hlt
            have hg2 := HG.out
            rw [NS.out i _ hlt] at hg2
            have HG3 := Lib.hid (fun x (hx : x ∈ (ks.drop (i + 1)).names D) => hg2 x (List.mem_append_right _ hx))
            have HG4 := Lib.hid (fun x (hx : x ∈ namesN (ks.k i) (ks.n i) (ks.kids i) D) => hg2 x (List.mem_append_left _ hx))
            clear hg2
            have hnl := NLn.out i D
            rw [hcd] at hb2
            have hb3 : (L2 ++ namesN (ks.k i) (ks.n i) (ks.kids i) D).length + 2 * (ks.drop (i + 1)).cnt ≤ M := by rw [List.length_append]; omega
            have CI := Lib.hid (IH.out _ (show (ks.kids i).cnt < N by have := PC.out i hlt; omega) (ks.kids i) _ (ks.k i) (ks.n i) D L2 O2 w3 (Nat.le_refl _) (by have := PC.out i hlt; omega) (hKi.below hsz3 hB3) (by omega) (SA.out i hlt).1 (SA.out i hlt).2 (by omega) HG4.out (HBL.out _ _ _ _ HI.out hB3))
            have HL3 := Lib.hid (show (L2 ++ namesN (ks.k i) (ks.n i) (ks.kids i) D) ++ (ks.drop (i + 1)).names D = R by rw [List.append_assoc]; exact HL2)
            have HF3 := Lib.hid (HF.out.trans (Fr.of_below (O := O2) hB3))
            have HK3 := Lib.hid (HK.out.below hsz3 hB3)
            have hl2 := Lib.hid (show ∀ X, O2 X → lim ≤ X from fun X h => (HLT.out _ _ _ HI.out X h).1)
            clear hKi HL2 HL HI hB3 hcd hnl hb2 HK
            generalize namesN (ks.k i) (ks.n i) (ks.kids i) D = l3 at *
            generalize ks.k i = X1 at *
            generalize ks.n i = X2 at *
            go_wp2_with fail
            rw [← hw3]
            refine CI.out.mono ?_
            rintro e w4 ⟨rfl, O4, I4, F4⟩
            have HI4 := Lib.hid I4
            have HF4 := Lib.hid (HF3.out.trans F4)
            have HK4 := Lib.hid (HK3.out.carry (F4.below (by omega) hl2.out))
            clear I4 F4 m0 m1 m2
            go_wp2_with fail
            go_roundw
            case rel => exact ⟨i + 1, O4, _, by omega, by go_num, hb3, HG3, HI4, HL3, HF4, HK4⟩
            case measure => (first | (simp [intOf]; done) | (simp [intOf]; omega) | (simp only [intOf]; omega))
          · obtain rfl : i = m := by omega
            have dd : decide ((i : Int) < (i : Int)) = false := decide_eq_false (by omega)
            have HL2 := HL.out
            rw [NE.out, List.append_nil] at HL2
            have HI2 := HI.out
            rw [HL2] at HI2
            have HI3 := Lib.hid HI2
            clear HI HI2 HL2 HL
            go_wp2_with fail
            go_end0
            exact ⟨rfl, O2, HI3.out, HF.out⟩
end Go.Proofs.YtbhnlfgccldmaaaGreat
/- Package need: check and Times. -/
namespace Go.Proofs.YtbhnlfgccldmaaaGreat
open Go.ChangeShapes Go.WideShapes Go.ChangeAt Go.RowKit
set_option linter.unusedVariables false
/-- How often x is there. -/
def ntimes (x : Nam) : List Nam → Nat
  | [] => 0
  | y :: r => (if y = x then 1 else 0) + ntimes x r
theorem ntimes_append (x : Nam) : ∀ (a b : List Nam), ntimes x (a ++ b) = ntimes x a + ntimes x b
  | [], b => by simp [ntimes]
  | y :: r, b => by rw [List.cons_append, ntimes, ntimes, ntimes_append x r b]; omega
theorem ntimes_snoc (x y : Nam) (l : List Nam) : ntimes x (l ++ [y]) = ntimes x l + (if y = x then 1 else 0) := by rw [ntimes_append]; simp [ntimes]
theorem ntimes_len (x : Nam) : ∀ l : List Nam, ntimes x l ≤ l.length
  | [] => Nat.le_refl _
  | y :: r => by have := ntimes_len x r; rw [ntimes]; simp only [List.length_cons]; split <;> omega
/-- The four cells of a name. -/
def At4 (w : World) (b : Nat) (x : Nam) : Prop := w.cell? ⟨b, 0, none⟩ = some (.int .i64 x.k) ∧ w.cell? ⟨b, 1, none⟩ = some (.int .i64 x.n) ∧ w.cell? ⟨b, 2, none⟩ = some (.int .i64 x.m) ∧ w.cell? ⟨b, 3, none⟩ = some (.int .i64 x.d)
theorem At4.lt {w : World} {b : Nat} {x : Nam} (h : At4 w b x) : b < w.heap.size := block_lt_of_cell h.1
theorem At4.block {w w' : World} {b : Nat} {x : Nam} (h : At4 w b x) (hb : w'.heap[b]? = w.heap[b]?) : At4 w' b x :=
  ⟨(World.cell?_of_block hb).trans h.1, (World.cell?_of_block hb).trans h.2.1, (World.cell?_of_block hb).trans h.2.2.1, (World.cell?_of_block hb).trans h.2.2.2⟩
/-- What Times keeps: how often the name was told. -/
def InvT (lim T C : Nat) (x : Nam) (L : List Nam) (O : Nat → Prop) (w : World) : Prop := At4 w T x ∧ Bx w C 3 (.int .i64 (ntimes x L)) ∧ T ≠ C ∧ lim ≤ C ∧ ∀ X, O X ↔ X = C
theorem InvT.hlt {lim T C : Nat} {x : Nam} {L : List Nam} {O : Nat → Prop} {w : World} (h : InvT lim T C x L O w) : ∀ X, O X → lim ≤ X ∧ X < w.heap.size := fun X hX => by
  have e := (h.2.2.2.2 X).1 hX
  subst e
  exact ⟨h.2.2.2.1, h.2.1.lt⟩
theorem InvT.below {lim T C : Nat} {x : Nam} {L : List Nam} {O : Nat → Prop} {w w' : World} (h : InvT lim T C x L O w) (hb : Below w.heap.size w w') : InvT lim T C x L O w' :=
  ⟨h.1.block (hb.block T h.1.lt), h.2.1.below hb, h.2.2⟩
theorem ok_seven {n : Int} {m : Nat} {a b : Int} (h : nodeB 7 n m a b = true) : 0 < m := by
  have e : nodeB 7 n m a b = (decide (m = 1) && decide (2 ≤ n) && hasb n && hasp a && decide (2 * n - 1 ≤ a)) := rfl
  rw [e] at h
  simp only [Bool.and_eq_true, decide_eq_true_eq] at h
  omega
theorem sane_of : ∀ f : Fo, f.pre.all Nd.ok = true → f.sane
  | .nil, _ => trivial
  | .cons k n ks r, h => by
    rw [Fo.pre, List.all_cons, List.all_append] at h
    simp only [Bool.and_eq_true] at h
    refine ⟨fun hk => ?_, sane_of ks h.2.1, sane_of r h.2.2⟩
    subst hk
    exact ok_seven h.1
theorem chk_zero {k n : Int} {ks : Fo} (h : chkd k n ks = 0) : (Nd.mk k n ks).ok = true ∧ ks.pre.all Nd.ok = true ∧ ks.cnt ≤ 59 ∧ ks.depth ≤ 11 := by
  unfold chkd at h
  by_cases hb : 60 < ks.cnt + 1 ∨ 12 < ks.depth + 1
  · rw [if_pos hb] at h; omega
  · rw [if_neg hb] at h
    by_cases ha : (Nd.mk k n ks :: ks.pre).all Nd.ok = true
    · rw [List.all_cons, Bool.and_eq_true] at ha
      exact ⟨ha.1, ha.2, by omega, by omega⟩
    · rw [if_neg ha] at h; omega
theorem chk_sane {k n : Int} {ks : Fo} (h : chkd k n ks = 0) : (k = 7 → 0 < ks.len) ∧ ks.sane ∧ ks.cnt ≤ 59 := by
  obtain ⟨h1, h2, h3, _⟩ := chk_zero h
  refine ⟨fun hk => ?_, sane_of ks h2, h3⟩
  subst hk
  exact ok_seven h1
/-- What check tells, of a direction, of what Check tells. -/
def ckd (dir c : Int) : Int := if dir = 0 ∨ dir = 1 then c else 2
theorem ckd_dir {dir c : Int} (h : ckd dir c = 0) : (dir = 0 ∨ dir = 1) ∧ c = 0 := by
  unfold ckd at h
  by_cases hd : dir = 0 ∨ dir = 1
  · rw [if_pos hd] at h; exact ⟨hd, h⟩
  · rw [if_neg hd] at h; omega
set_option maxRecDepth 100000 in
theorem need_check (ks : Fo) (v : Value) (k n dir : Int) (lim : Nat) (W : World) (hN : ks.cnt ≤ 1048576) (hK : Kids W lim v ks) (hl : lim ≤ W.heap.size) (wn : -9223372036854775808 ≤ n ∧ n ≤ 9223372036854775807) (wf : ks.wf) :
    Calls Tryz.prog 125 #[.agg #[.int .i64 k, .int .i64 n, v], .int .i64 dir] W fun e w' => e = .returned (.int .i64 (ckd dir (chkd k n ks))) ∧ Below W.heap.size W w' := by
  have CK := Lib.hid (fun W h1 h2 => valid_check ks v k n lim W hN h1 h2 wn wf)
  obtain ⟨p, m, c, rfl, hc1, hc2, HM⟩ := hK.shape
  obtain ⟨w0, hw0, c0, c1, c2, hB, hsz⟩ := box3 W k n (.slice p m c) 24
  have hK0 := hK.below hl hB
  generalize chkd k n ks = ck at *
  by_cases hd : dir = 0 ∨ dir = 1
  · have E := Lib.hid (show ckd dir ck = ck from if_pos hd)
    rcases hd with rfl | rfl
    all_goals
      go_enter Tryz.func125, Tryz.ntmps125
      go_wp2_with fail
      rw [← hw0]
      clear hw0
      refine (CK.out _ hK0 (by omega)).mono ?_
      rintro e w1 ⟨rfl, b1⟩
      go_wp2_with fail
      go_ret
      exact ⟨ret_i64 E.out.symm, hB.trans (b1.mono hB.size)⟩
  · have E := Lib.hid (show ckd dir ck = 2 from if_neg hd)
    have d0 : (dir != 0) = true := by simp; omega
    have d1 : (dir != 1) = true := by simp; omega
    go_enter Tryz.func125, Tryz.ntmps125
    go_wp2_with fail
    rw [← hw0]
    go_ret
    exact ⟨ret_i64 E.out.symm, hB⟩
end Go.Proofs.YtbhnlfgccldmaaaGreat
/- Names, each just once; a map from names to how often they are there. -/
namespace Go.Proofs.YtbhnlfgccldmaaaGreat
open Go.ChangeShapes Go.WideShapes Go.ChangeAt Go.RowKit
set_option linter.unusedVariables false
open Go.WideMaps Go.MapKept Go.WideElems Go.ChangeMaps
/-- Each just once, where it comes first. -/
def onceA : List Nam → List Nam → List Nam
  | acc, [] => acc
  | acc, y :: r => onceA (if y ∈ acc then acc else acc ++ [y]) r
def once (l : List Nam) : List Nam := onceA [] l
theorem onceA_append : ∀ (acc a b : List Nam), onceA acc (a ++ b) = onceA (onceA acc a) b
  | acc, [], b => rfl
  | acc, y :: r, b => by rw [List.cons_append, onceA, onceA, onceA_append]
theorem once_snoc (l : List Nam) (x : Nam) : once (l ++ [x]) = if x ∈ once l then once l else once l ++ [x] := by
  unfold once; rw [onceA_append, onceA, onceA]
theorem onceA_mem : ∀ (acc l : List Nam) (x : Nam), x ∈ onceA acc l ↔ x ∈ acc ∨ x ∈ l
  | acc, [], x => by simp [onceA]
  | acc, y :: r, x => by
    rw [onceA, onceA_mem]
    by_cases h : y ∈ acc
    · rw [if_pos h]
      constructor
      · rintro (h1 | h1)
        · exact .inl h1
        · exact .inr (List.mem_cons_of_mem _ h1)
      · rintro (h1 | h1)
        · exact .inl h1
        · rcases List.mem_cons.1 h1 with rfl | h1
          · exact .inl h
          · exact .inr h1
    · rw [if_neg h]
      simp only [List.mem_append, List.mem_cons, List.not_mem_nil, or_false]
      exact or_assoc
theorem once_mem (l : List Nam) (x : Nam) : x ∈ once l ↔ x ∈ l := by unfold once; rw [onceA_mem]; simp
theorem onceA_nodup : ∀ (acc l : List Nam), acc.Nodup → (onceA acc l).Nodup
  | acc, [], h => h
  | acc, y :: r, h => by
    rw [onceA]
    refine onceA_nodup _ r ?_
    by_cases hy : y ∈ acc
    · rw [if_pos hy]; exact h
    · rw [if_neg hy]
      refine List.nodup_append.2 ⟨h, by simp, fun a ha b hb e => ?_⟩
      simp only [List.mem_singleton] at hb
      subst hb
      subst e
      exact hy ha
theorem once_nodup (l : List Nam) : (once l).Nodup := onceA_nodup [] l List.nodup_nil
theorem onceA_len : ∀ (acc l : List Nam), (onceA acc l).length ≤ acc.length + l.length
  | acc, [] => by simp [onceA]
  | acc, y :: r => by
    rw [onceA, List.length_cons]
    by_cases h : y ∈ acc
    · rw [if_pos h]; have := onceA_len acc r; omega
    · rw [if_neg h]; have := onceA_len (acc ++ [y]) r; rw [List.length_append, List.length_singleton] at this; omega
theorem once_len (l : List Nam) : (once l).length ≤ l.length := by have := onceA_len [] l; unfold once; simpa using this
theorem ntimes_zero (x : Nam) : ∀ l : List Nam, ntimes x l = 0 ↔ x ∉ l
  | [] => by simp [ntimes]
  | y :: r => by
    rw [ntimes, List.mem_cons]
    by_cases h : y = x
    · subst h; simp
    · have h2 : ¬ x = y := fun e => h e.symm
      rw [if_neg h, Nat.zero_add, ntimes_zero x r]
      simp [h2]
/-- The entries of the map: each name, how often it was told, when it came in. -/
def entsA (c : Nam → Nat) : Nat → List Nam → List MapEntry
  | _, [] => []
  | j, y :: r => ⟨y.val, .int .i64 (c y), j⟩ :: entsA c (j + 1) r
theorem entsA_len (c : Nam → Nat) : ∀ (j : Nat) (l : List Nam), (entsA c j l).length = l.length
  | _, [] => rfl
  | j, y :: r => by rw [entsA, List.length_cons, List.length_cons, entsA_len c (j + 1) r]
theorem entsA_get (c : Nam → Nat) : ∀ (j : Nat) (l : List Nam) (i : Nat) (h : i < l.length), (entsA c j l)[i]? = some ⟨l[i].val, .int .i64 (c l[i]), j + i⟩
  | _, [], _, h => by simp at h
  | j, y :: r, 0, _ => rfl
  | j, y :: r, i + 1, h => by
    rw [entsA, List.getElem?_cons_succ, entsA_get c (j + 1) r i (by simpa using h)]
    simp only [List.getElem_cons_succ]
    congr 2
    omega
theorem entsA_mem (c : Nam → Nat) : ∀ (j : Nat) (l : List Nam) (e : MapEntry), e ∈ entsA c j l → ∃ y ∈ l, e.key = y.val
  | _, [], e, h => by simp [entsA] at h
  | j, y :: r, e, h => by
    rw [entsA] at h
    rcases List.mem_cons.1 h with rfl | h
    · exact ⟨y, List.mem_cons_self .., rfl⟩
    · obtain ⟨z, hz, e2⟩ := entsA_mem c (j + 1) r e h
      exact ⟨z, List.mem_cons_of_mem _ hz, e2⟩
theorem entsA_snoc (c : Nam → Nat) (x : Nam) : ∀ (j : Nat) (l : List Nam), entsA c j (l ++ [x]) = entsA c j l ++ [⟨x.val, .int .i64 (c x), j + l.length⟩]
  | j, [] => by simp [entsA]
  | j, y :: r => by
    rw [List.cons_append, entsA, entsA_snoc c x (j + 1) r, entsA]
    simp only [List.length_cons, List.cons_append]
    congr 3
    congr 1
    omega
theorem entsA_congr (c c' : Nam → Nat) : ∀ (j : Nat) (l : List Nam), (∀ y ∈ l, c y = c' y) → entsA c j l = entsA c' j l
  | _, [], _ => rfl
  | j, y :: r, h => by rw [entsA, entsA, h y (List.mem_cons_self ..), entsA_congr c c' (j + 1) r (fun z hz => h z (List.mem_cons_of_mem _ hz))]
theorem entsA_modify (c c' : Nam → Nat) : ∀ (j : Nat) (l : List Nam) (i : Nat) (h : i < l.length), (∀ k (hk : k < l.length), k ≠ i → c' l[k] = c l[k]) → (entsA c j l).modify i (fun e => { e with val := .int .i64 (c' l[i] : Nat) }) = entsA c' j l
  | _, [], _, h, _ => by simp at h
  | j, y :: r, 0, _, hc => by
    rw [entsA, entsA, List.modify_zero_cons]
    congr 1
    refine entsA_congr c c' (j + 1) r (fun z hz => ?_)
    obtain ⟨k, hk, rfl⟩ := List.getElem_of_mem hz
    have := hc (k + 1) (by simpa using hk) (by omega)
    simpa using this.symm
  | j, y :: r, i + 1, h, hc => by
    rw [entsA, entsA, List.modify_succ_cons]
    have h0 := hc 0 (by simp) (by omega)
    simp only [List.getElem_cons_zero] at h0
    rw [h0]
    congr 1
    have := entsA_modify c c' (j + 1) r i (by simpa using h) (fun k hk hne => by have := hc (k + 1) (by simpa using hk) (by omega); simpa using this)
    simpa using this
theorem entsA_born (c : Nam → Nat) : ∀ (j : Nat) (l : List Nam), (∀ e ∈ entsA c j l, j ≤ e.born) ∧ ((entsA c j l).map (·.born)).Nodup
  | _, [] => by simp [entsA]
  | j, y :: r => by
    obtain ⟨h1, h2⟩ := entsA_born c (j + 1) r
    rw [entsA]
    refine ⟨fun e he => ?_, ?_⟩
    · rcases List.mem_cons.1 he with rfl | he
      · exact Nat.le_refl _
      · have := h1 e he; omega
    · rw [List.map_cons, List.nodup_cons]
      refine ⟨fun hm => ?_, h2⟩
      obtain ⟨e, he, e2⟩ := List.mem_map.1 hm
      have := h1 e he
      simp only at e2
      omega
/-- A block that is laid again as it is. -/
theorem setBlock_self {w : World} {b : Nat} {o : Obj} (h : w.heap[b]? = some o) : setBlock w b o = w := by
  unfold setBlock
  have hb : b < w.heap.size := Nat.lt_of_not_le fun hn => by rw [Array.getElem?_eq_none hn] at h; cases h
  have : w.heap.setIfInBounds b o = w.heap := by
    apply Array.ext_getElem?
    intro i
    rw [Array.getElem?_setIfInBounds]
    by_cases hi : b = i
    · subst hi; rw [if_pos rfl, if_pos hb, h]
    · rw [if_neg hi]
  first | rw [this] | (cases w; simp_all)
section
variable {P : Program} {k e t : TypeId}
theorem key_there (K : KeyLaw P k) (ht : P.underlying t = some (.map k e)) {w : World} {b clock : Nat} {es : Array MapEntry} (hb : w.heap[b]? = some (.map es clock)) (hk : ∀ x ∈ es.toList, ∃ l, keyOf P k x.key = some l) {key : Value} {kl : Lit} (hkey : keyOf P k key = some kl)
    {j : Nat} {e0 : MapEntry} (hj : es.toList[j]? = some e0) (he : e0.key = key) (hu : ∀ (i : Nat) x, es.toList[i]? = some x → x.key = key → i = j) (hn : (es.toList.map (·.born)).Nodup) :
    (Instr.lookup t (.map (some b)) key false).run P w = .ok e0.val w ∧ (Instr.mapEntry t (.map (some b)) key).run P w = .ok (.tuple #[e0.val, goInt e0.born]) w ∧
    ∀ val, (Instr.entryStore t (.map (some b)) (goInt e0.born) val).run P w = .ok () (setBlock w b (.map (es.modify j (fun x => { x with val := val })) clock)) := by
  rcases K.find w hkey es.toList hk with ⟨_, h2⟩ | ⟨i, x, h1, h2, h3⟩
  · exact absurd he (h2 e0 (List.mem_of_getElem? hj))
  · obtain rfl : i = j := hu i x h2 h3
    rw [hj] at h2
    cases h2
    have hj' : es[i]? = some e0 := by simpa using hj
    have hsame : es.modify i (fun x => { x with key := key }) = es := by
      apply Array.ext'
      rw [Array.toList_modify, modify_eq_set _ _ _ _ hj]
      have : ({ e0 with key := key } : MapEntry) = e0 := by rw [← he]
      rw [this]
      exact set_self _ _ _ hj
    refine ⟨?_, ?_, fun val => ?_⟩
    · simp [Instr.lookup, run_underlying ht, MapKept.run_getObj_map hb, K.check w es.isEmpty hkey, h1, Result.andThen]
    · have e2 := setBlock_self hb
      simp only [setBlock] at e2
      simp [Instr.mapEntry, run_underlying ht, MapKept.run_getObj_map hb, K.check w false hkey, h1, hj', he, K.stays w hkey, hsame, MapKept.run_setObj_map _ hb, Result.andThen, e2]
    · have hidx : es.findIdx? (fun x => ((x.born : Nat) : Int) == ((e0.born : Nat) : Int)) = some i := by
        rw [findIdx_arr]
        exact findIdx_born hn hj
      simp [Instr.entryStore, MapKept.run_getObj_map hb, asInt, asIntOf, goInt, hidx, MapKept.run_setObj_map _ hb, Result.andThen, setBlock]
theorem key_gone (K : KeyLaw P k) (ht : P.underlying t = some (.map k e)) {z : Value} (hz : ∀ u : World, (zeroValue e).run P u = .ok z u) {w : World} {b clock : Nat} {es : Array MapEntry} (hb : w.heap[b]? = some (.map es clock))
    (hk : ∀ x ∈ es.toList, ∃ l, keyOf P k x.key = some l) {key : Value} {kl : Lit} (hkey : keyOf P k key = some kl) (hne : ∀ x ∈ es.toList, x.key ≠ key) :
    (Instr.lookup t (.map (some b)) key false).run P w = .ok z w ∧
    (Instr.mapEntry t (.map (some b)) key).run P w = .ok (.tuple #[z, goInt clock]) (setBlock w b (.map (es.push ⟨key, z, clock⟩) (clock + 1))) := by
  rcases K.find w hkey es.toList hk with ⟨h1, h2⟩ | ⟨j, e0, h1, h2, h3⟩
  · constructor
    · simp [Instr.lookup, run_underlying ht, MapKept.run_getObj_map hb, K.check w es.isEmpty hkey, h1, hz, Result.andThen]
    · simp [Instr.mapEntry, run_underlying ht, MapKept.run_getObj_map hb, K.check w false hkey, h1, hz, MapKept.run_setObj_map _ hb, Result.andThen, setBlock]
  · exact absurd h3 (hne e0 (List.mem_of_getElem? h2))
end
end Go.Proofs.YtbhnlfgccldmaaaGreat
/- Package need's Tables: what is told is gathered, each just once. -/
namespace Go.Proofs.YtbhnlfgccldmaaaGreat
open Go.ChangeShapes Go.WideShapes Go.ChangeAt Go.RowKit
set_option linter.unusedVariables false
open Go.WideMaps Go.MapKept Go.WideElems Go.ChangeMaps
theorem laid_prog : laidOutB Tryz.prog = true := by kernel_rfl
theorem name_law : KeyLaw Tryz.prog 82 := deep_law_laid laid_prog (m := 10) (by decide) (of_decide_eq_true (by kernel_rfl)) (by kernel_rfl) (by kernel_rfl)
theorem zero_int (u : World) : (zeroValue 3).run Tryz.prog u = .ok (.int .i64 0) u := by kernel_rfl
/-- A row of names of the call's own. -/
def OwnNm (w : World) (B : Nat) (v : Value) (l : List Nam) : Prop := w.ownsRow B 82 4 v l.length (l.flatMap Nam.cells)
theorem info_name : (Tryz.prog.info? 82).map (fun i => (i.zero.map (fun z => z.cells.size), i.size, i.bytes)) = some (some 4, 4, 32) := by kernel_rfl
theorem append_nm {ops : Array Oper} {rest : List Oper} {o : Oper} {a : Act} {Q : Exit → Act → World → Prop} {W : World} {B : Nat} {v : Value} {l : List Nam} {x : Nam} (hgd : o.guard = none) (s y : Operand)
    (ho : o.op = .call { callee := .builtin .append, args := #[s, y], argTypes := #[78, 78] }) (hs : a.eval s = v) (hown : OwnNm W B v l) (hx : a.eval y = .slice (some ⟨W.heap.size, 0, none⟩) 1 1) (hB : B ≤ W.heap.size) (hn : l.length < 8388608)
    (h : ∀ v' w', OwnNm w' B v' (l ++ [x]) → Below B W w' → (∀ X, X < W.heap.size → v.ownBlock ≠ some X → w'.heap[X]? = W.heap[X]?) → (∀ X, v'.ownBlock = some X → v.ownBlock = some X ∨ W.heap.size ≤ X) → wpList Tryz.prog ops Q rest (a.put o.dst v') w') : wpList Tryz.prog ops Q (o :: rest) a (W.alloc (.cells #[.int .i64 x.k, .int .i64 x.n, .int .i64 x.m, .int .i64 x.d] 82)) := by
  obtain ⟨i0, hi⟩ : ∃ i, Tryz.prog.info? 82 = some i := by
    cases h0 : Tryz.prog.info? 82 with
    | none => have := info_name; rw [h0] at this; cases this
    | some i => exact ⟨i, rfl⟩
  have h1 := info_name
  rw [hi] at h1
  simp only [Option.map_some, Option.some.injEq, Prod.mk.injEq] at h1
  obtain ⟨hz, hsz, hby⟩ := h1
  obtain ⟨z, hz1, hz2⟩ : ∃ z, i0.zero = some z ∧ z.cells.size = 4 := by
    cases h0 : i0.zero with
    | none => rw [h0] at hz; cases hz
    | some z => rw [h0] at hz; simp at hz; exact ⟨z, rfl, hz⟩
  refine wpList_append_lies _ hgd s y 78 ho B 82 i0 z 4 32 Tryz.underlying78 hi hz1 hsz hby hz2 (by decide) v l.length (l.flatMap Nam.cells) hs (World.ownsRow.alloc hown _) ⟨W.heap.size, 0, none⟩ 1 1 x.cells hx rfl ?_ ?_ (by decide) ?_ ?_ (by simp; omega) _ rfl ?_
  · intro j u hj
    exact World.news_of_block (heap_alloc_new W (.cells #[.int .i64 x.k, .int .i64 x.n, .int .i64 x.m, .int .i64 x.d] 82)) j u hj
  · intro u hu
    simp [Nam.cells] at hu
    rcases hu with rfl | rfl | rfl | rfl <;> rfl
  · unfold maxLen; omega
  · omega
  · intro g cap w' h2 h3 h4 _
    refine h _ w' ?_ (((Below.refl _ _).alloc hB _).grown h3 (by simp; omega) (fun i hi => (World.ownsRow.lt hown i hi).1)) (fun X hX hne => (h3.block X (by simp; omega) (fun e => hne e.symm)).trans (Below.heap_alloc _ _ _ hX)) (fun X hX => ?_)
    · unfold OwnNm
      rw [List.length_append, List.flatMap_append]
      simpa using h2
    · simp only [Value.ownBlock, Option.some.injEq] at hX
      subst hX
      rcases h4 with h4 | h4
      · exact .inl h4
      · right; simp at h4; omega
theorem OwnNm.below {w w' : World} {B : Nat} {v : Value} {l : List Nam} (h : OwnNm w B v l) (hb : Below w.heap.size w w') : OwnNm w' B v l :=
  World.ownsRow.kept h (row := none) ⟨hb.os, hb.tape, hb.output, hb.size, fun i hi _ => hb.block i hi⟩ (by
    by_cases hn : v.ownBlock = none
    · exact .inl hn
    · exact .inr hn)
theorem OwnNm.setCell {w : World} {B Q : Nat} {v : Value} {l : List Nam} (h : OwnNm w B v l) (hQ : Q < B) (u : Value) : OwnNm (w.setCell ⟨Q, 0, none⟩ u) B v l := ownsRow_setCell_below h hQ u
theorem OwnNm.kind {w : World} {B : Nat} {v : Value} {l : List Nam} (h : OwnNm w B v l) : (v = .slice none 0 0 ∧ l = []) ∨ ∃ g c, v = .slice (some ⟨g, 0, none⟩) l.length c := by
  obtain ⟨hl, h | ⟨g, cap, cur, rfl, hb, hh, hn, hm, hs, ht⟩⟩ := h
  · exact .inl ⟨h.1, List.length_eq_zero_iff.1 h.2⟩
  · exact .inr ⟨g, cap, rfl⟩
/-- The entries, of what was told. -/
def ents (L : List Nam) : Array MapEntry := (entsA (fun y => ntimes y L) 0 (once L)).toArray
theorem Nam.val_inj {a b : Nam} (h : a.val = b.val) : a = b := by
  obtain ⟨k, n, m, d⟩ := a
  obtain ⟨k', n', m', d'⟩ := b
  simp only [Nam.val, Value.agg.injEq, Array.mk.injEq, List.cons.injEq, Value.int.injEq, true_and, and_true] at h
  simpa using h
/-- What Tables keeps: the map, and the names, each just once. -/
def InvB (lim Tc Lc Mb B : Nat) (L : List Nam) (O : Nat → Prop) (w : World) : Prop := ∃ s, Bx w Tc 142 (.map (some Mb)) ∧ w.heap[Mb]? = some (.map (ents L) (once L).length) ∧ Bx w Lc 78 s ∧ OwnNm w B s (once L) ∧
  (lim ≤ Tc ∧ lim ≤ Lc ∧ lim ≤ Mb ∧ Tc ≠ Lc ∧ Tc ≠ Mb ∧ Lc ≠ Mb ∧ Tc < B ∧ Lc < B ∧ Mb < B ∧ B ≤ w.heap.size) ∧ ∀ X, O X ↔ X = Mb ∨ X = Lc ∨ s.ownBlock = some X
theorem keyLits_i64 {d : Nat} {t : TypeId} {n : Int} (hu : Tryz.prog.underlying t = some (.int .i64)) (hn : -9223372036854775808 ≤ n ∧ n ≤ 9223372036854775807) : Tryz.prog.keyLits (d + 1) t [.int .i64 n] = some [.int .i64 n] := by
  have hw : (Lit.int .i64 n).wf = true := by simp [Lit.wf, IntKind.min, IntKind.max, IntKind.signed, IntKind.bits]; omega
  unfold Program.keyLits
  rw [hu]
  simp [hw]
theorem name_key (x : Nam) (h : (-9223372036854775808 ≤ x.k ∧ x.k ≤ 9223372036854775807) ∧ (-9223372036854775808 ≤ x.n ∧ x.n ≤ 9223372036854775807) ∧ (-9223372036854775808 ≤ x.m ∧ x.m ≤ 9223372036854775807) ∧ (-9223372036854775808 ≤ x.d ∧ x.d ≤ 9223372036854775807)) : ∃ l, keyOf Tryz.prog 82 x.val = some l := by
  have hk : Tryz.prog.keyType 82 = true := by kernel_rfl
  have hc : Tryz.prog.cellsOf 82 = 4 := by kernel_rfl
  have hi : Tryz.prog.cellsOf 3 = 1 := by kernel_rfl
  obtain ⟨m, hm⟩ : ∃ m, Tryz.prog.types.size = m + 1 := ⟨Tryz.prog.types.size - 1, by have : 0 < Tryz.prog.types.size := of_decide_eq_true (by kernel_rfl); omega⟩
  obtain ⟨h1, h2, h3, h4⟩ := h
  have k1 := keyLits_i64 (d := m) Tryz.underlying3 h1
  have k2 := keyLits_i64 (d := m) Tryz.underlying3 h2
  have k3 := keyLits_i64 (d := m) Tryz.underlying3 h3
  have k4 := keyLits_i64 (d := m) Tryz.underlying3 h4
  have hf : (x.val).formed Tryz.prog 82 = true := by
    unfold Nam.val Value.formed
    simp [Tryz.underlying82, hc]
  have hL : Tryz.prog.keyLits (Tryz.prog.types.size + 1) 82 x.val.cells.toList = some [.int .i64 x.k, .int .i64 x.n, .int .i64 x.m, .int .i64 x.d] := by
    rw [hm]
    unfold Program.keyLits
    rw [Tryz.underlying82]
    simp [Nam.val, Value.cells, hc, hi, k1, k2, k3, k4]
  refine ⟨.string (keyBytes [.int .i64 x.k, .int .i64 x.n, .int .i64 x.m, .int .i64 x.d]), ?_⟩
  unfold keyOf
  rw [Tryz.underlying82]
  simp only [hk, hf, hL, Bool.and_self, if_true, Option.map_some]
/-- All numbers of a name are in order. -/
def Nam.wf (x : Nam) : Prop := (-9223372036854775808 ≤ x.k ∧ x.k ≤ 9223372036854775807) ∧ (-9223372036854775808 ≤ x.n ∧ x.n ≤ 9223372036854775807) ∧ (-9223372036854775808 ≤ x.m ∧ x.m ≤ 9223372036854775807) ∧ (-9223372036854775808 ≤ x.d ∧ x.d ≤ 9223372036854775807)
theorem ents_len (L : List Nam) : (ents L).size = (once L).length := by unfold ents; simp [entsA_len]
/-- At a name that was not told yet. -/
theorem ents_gone {L : List Nam} {x : Nam} (h : x ∉ L) : ((ents L).push ⟨x.val, .int .i64 1, (once L).length⟩) = ents (L ++ [x]) ∧ (once (L ++ [x])).length = (once L).length + 1 := by
  have ho : x ∉ once L := fun hx => h ((once_mem L x).1 hx)
  have hs : once (L ++ [x]) = once L ++ [x] := by rw [once_snoc, if_neg ho]
  refine ⟨?_, by rw [hs]; simp⟩
  apply Array.ext'
  unfold ents
  rw [hs, Array.toList_push, entsA_snoc]
  simp only [List.toList_toArray]
  congr 1
  · refine entsA_congr _ _ 0 (once L) (fun y hy => ?_)
    have hne : ¬ x = y := fun e => ho (e ▸ hy)
    rw [ntimes_snoc, if_neg hne]; omega
  · congr 1
    rw [ntimes_snoc, if_pos rfl, (ntimes_zero x L).2 h]
    simp
/-- At a name that was told. -/
theorem ents_there {L : List Nam} {x : Nam} {j : Nat} (hj : j < (once L).length) (hx : (once L)[j] = x) : (ents L).modify j (fun e => { e with val := .int .i64 ((ntimes x L : Nat) + 1) }) = ents (L ++ [x]) ∧ once (L ++ [x]) = once L := by
  have ho : x ∈ once L := hx ▸ List.getElem_mem hj
  have hs : once (L ++ [x]) = once L := by rw [once_snoc, if_pos ho]
  refine ⟨?_, hs⟩
  apply Array.ext'
  unfold ents
  rw [hs, Array.toList_modify]
  simp only [List.toList_toArray]
  have hm := entsA_modify (fun y => ntimes y L) (fun y => ntimes y (L ++ [x])) 0 (once L) j hj (fun k hk hne => by
    have hne2 : ¬ x = (once L)[k] := fun e => hne ((List.getElem_inj (once_nodup L)).1 (hx.trans e)).symm
    rw [ntimes_snoc, if_neg hne2]; omega)
  rw [← hm, hx, ntimes_snoc, if_pos rfl]
  simp
theorem ents_keys {L : List Nam} (hw : ∀ y ∈ L, y.wf) : ∀ e ∈ (ents L).toList, ∃ l, keyOf Tryz.prog 82 e.key = some l := by
  intro e he
  obtain ⟨y, hy, h2⟩ := entsA_mem _ _ _ e (by simpa [ents] using he)
  rw [h2]
  exact name_key y (hw y ((once_mem L y).1 hy))
theorem gone_run {L : List Nam} {x : Nam} (hw : ∀ y ∈ L, y.wf) (hx : x.wf) (h : x ∉ L) (u : World) (b : Nat) (hb : u.heap[b]? = some (.map (ents L) (once L).length)) :
    (Instr.lookup 142 (.map (some b)) x.val false).run Tryz.prog u = .ok (.int .i64 0) u ∧
    (Instr.mapEntry 142 (.map (some b)) x.val).run Tryz.prog u = .ok (.tuple #[.int .i64 0, goInt (once L).length]) (setBlock u b (.map ((ents L).push ⟨x.val, .int .i64 0, (once L).length⟩) ((once L).length + 1))) := by
  obtain ⟨l, hl⟩ := name_key x hx
  exact key_gone name_law Tryz.underlying142 zero_int hb (ents_keys hw) hl (fun e he h2 => by
    obtain ⟨y, hy, h3⟩ := entsA_mem _ _ _ e (by simpa [ents] using he)
    rw [h3] at h2
    exact h ((once_mem L x).1 (Nam.val_inj h2 ▸ hy)))
theorem pushed_run {L : List Nam} {x : Nam} (hw : ∀ y ∈ L, y.wf) (hx : x.wf) (h : x ∉ L) (u : World) (b : Nat) (hb : u.heap[b]? = some (.map ((ents L).push ⟨x.val, .int .i64 0, (once L).length⟩) ((once L).length + 1))) :
    (Instr.lookup 142 (.map (some b)) x.val false).run Tryz.prog u = .ok (.int .i64 0) u ∧
    (Instr.entryStore 142 (.map (some b)) (goInt (once L).length) (.int .i64 1)).run Tryz.prog u = .ok () (setBlock u b (.map (ents (L ++ [x])) (once (L ++ [x])).length)) := by
  obtain ⟨l, hl⟩ := name_key x hx
  have hlen : (ents L).toList.length = (once L).length := by rw [Array.length_toList, ents_len]
  have hbn := entsA_born (fun y => ntimes y L) 0 (once L)
  have hnd : (((ents L).push ⟨x.val, .int .i64 0, (once L).length⟩).toList.map (·.born)).Nodup := by
    rw [Array.toList_push, List.map_append]
    refine List.nodup_append.2 ⟨by simpa [ents] using hbn.2, by simp, fun a ha c hc e => ?_⟩
    simp only [List.map_cons, List.map_nil, List.mem_singleton] at hc
    obtain ⟨y, hy, rfl⟩ := List.mem_map.1 ha
    obtain ⟨i, hi, h3⟩ := List.getElem_of_mem hy
    have hi2 : i < (once L).length := by rw [← hlen]; exact hi
    have h4 := entsA_get (fun y => ntimes y L) 0 (once L) i hi2
    have h5 : (ents L).toList[i]? = some y := by rw [List.getElem?_eq_getElem hi, h3]
    simp only [ents] at h5
    rw [h4] at h5
    cases h5
    simp at e hc
    omega
  have hj : ((ents L).push ⟨x.val, .int .i64 0, (once L).length⟩).toList[(once L).length]? = some ⟨x.val, .int .i64 0, (once L).length⟩ := by
    rw [Array.toList_push, ← hlen, List.getElem?_append_right (Nat.le_refl _)]; simp
  obtain ⟨r1, _, r3⟩ := key_there name_law Tryz.underlying142 hb (fun e he => by
      rw [Array.toList_push] at he
      rcases List.mem_append.1 he with he | he
      · exact ents_keys hw e he
      · simp only [List.mem_singleton] at he; subst he; exact ⟨l, hl⟩) hl hj rfl (fun i e hi h2 => by
      rw [Array.toList_push] at hi
      by_cases hlt : i < (ents L).toList.length
      · rw [List.getElem?_append_left hlt] at hi
        obtain ⟨y, hy, h3⟩ := entsA_mem _ _ _ e (by have := List.mem_of_getElem? hi; simpa [ents] using this)
        rw [h3] at h2
        exact absurd ((once_mem L x).1 (Nam.val_inj h2 ▸ hy)) h
      · have : i < (ents L).toList.length + 1 := by
          have := (List.getElem?_eq_some_iff.1 hi).1
          simpa using this
        omega) hnd
  refine ⟨r1, ?_⟩
  have h2 := r3 (.int .i64 1)
  obtain ⟨e1, e2⟩ := ents_gone h
  have hmod : ((ents L).push ⟨x.val, .int .i64 0, (once L).length⟩).modify (once L).length (fun e => { e with val := .int .i64 1 }) = (ents L).push ⟨x.val, .int .i64 1, (once L).length⟩ := by
    apply Array.ext'
    rw [Array.toList_modify, Array.toList_push, Array.toList_push, ← hlen, modify_last]
  rw [hmod, e1, ← e2] at h2
  exact h2
theorem there_run {L : List Nam} {x : Nam} (hw : ∀ y ∈ L, y.wf) (h : x ∈ L) :
    ∃ j : Nat, ∀ (u : World) (b : Nat) (hb : u.heap[b]? = some (.map (ents L) (once L).length)), (Instr.lookup 142 (.map (some b)) x.val false).run Tryz.prog u = .ok (.int .i64 (ntimes x L : Nat)) u ∧
    (Instr.mapEntry 142 (.map (some b)) x.val).run Tryz.prog u = .ok (.tuple #[.int .i64 (ntimes x L : Nat), goInt j]) u ∧
    (Instr.entryStore 142 (.map (some b)) (goInt j) (.int .i64 ((ntimes x L : Nat) + 1))).run Tryz.prog u = .ok () (setBlock u b (.map (ents (L ++ [x])) (once (L ++ [x])).length)) := by
  obtain ⟨l, hl⟩ := name_key x (hw x h)
  obtain ⟨j, hj, hx⟩ := List.getElem_of_mem ((once_mem L x).2 h)
  have hg := entsA_get (fun y => ntimes y L) 0 (once L) j hj
  rw [hx, Nat.zero_add] at hg
  have hg2 : (ents L).toList[j]? = some ⟨x.val, .int .i64 (ntimes x L : Nat), j⟩ := by simpa [ents] using hg
  refine ⟨j, fun u b hb => ?_⟩
  obtain ⟨r1, r2, r3⟩ := key_there name_law Tryz.underlying142 hb (ents_keys hw) hl hg2 rfl (fun i e hi h2 => by
      have hi2 : i < (once L).length := by
        have := (List.getElem?_eq_some_iff.1 hi).1
        rw [Array.length_toList, ents_len] at this
        exact this
      have h4 := entsA_get (fun y => ntimes y L) 0 (once L) i hi2
      have h5 : (entsA (fun y => ntimes y L) 0 (once L))[i]? = some e := by simpa [ents] using hi
      rw [h4] at h5
      cases h5
      exact (List.getElem_inj (once_nodup L)).1 ((Nam.val_inj h2).trans hx.symm)) (by simpa [ents] using (entsA_born (fun y => ntimes y L) 0 (once L)).2)
  obtain ⟨e1, e2⟩ := ents_there hj hx
  have h3 := r3 (.int .i64 ((ntimes x L : Nat) + 1))
  rw [e1, ← e2] at h3
  exact ⟨r1, r2, h3⟩
end Go.Proofs.YtbhnlfgccldmaaaGreat
/- Package need: Tables. -/
namespace Go.Proofs.YtbhnlfgccldmaaaGreat
open Go.ChangeShapes Go.WideShapes Go.ChangeAt Go.RowKit
set_option linter.unusedVariables false
open Go.WideMaps Go.MapKept Go.WideElems Go.ChangeMaps
theorem heap_setBlock (w : World) (b : Nat) (o : Obj) (k : Nat) : (setBlock w b o).heap[k]? = if b = k ∧ b < w.heap.size then some o else w.heap[k]? := by
  unfold setBlock
  simp only [Array.getElem?_setIfInBounds]
  by_cases h : b = k
  · subst h
    by_cases h2 : b < w.heap.size
    · simp [h2]
    · simp [h2]
  · simp [h]
theorem size_setBlock (w : World) (b : Nat) (o : Obj) : (setBlock w b o).heap.size = w.heap.size := by unfold setBlock; simp
theorem Bx.setB {w : World} {B b : Nat} {T : TypeId} {v : Value} (h : Bx w B T v) (o : Obj) (hne : B ≠ b) : Bx (setBlock w b o) B T v := by
  unfold Bx
  rw [heap_setBlock, if_neg (fun e => hne e.1.symm)]
  exact h
theorem OwnNm.setB {w : World} {B b : Nat} {v : Value} {l : List Nam} (h : OwnNm w B v l) (o : Obj) (hb : b < B) : OwnNm (setBlock w b o) B v l :=
  World.ownsRow.kept h (row := some b) ⟨rfl, rfl, rfl, by rw [size_setBlock]; exact Nat.le_refl _, fun i hi hne => by rw [heap_setBlock, if_neg (fun e => hne (by rw [e.1]))]⟩ (by
    by_cases hn : v.ownBlock = none
    · exact .inl hn
    · refine .inr fun e => ?_
      have := (World.ownsRow.lt h b e).1
      omega)
theorem Fr.setB {O O' : Nat → Prop} {w u : World} (h : Fr O O' w u) {b : Nat} (o : Obj) (hb : O b) : Fr O O' w (setBlock u b o) :=
  ⟨h.os, h.tape, h.output, by rw [size_setBlock]; exact h.size, fun X hX hO => by rw [heap_setBlock, if_neg (fun e => hO (by rw [← e.1]; exact hb))]; exact h.blk X hX hO, h.own⟩
theorem Fr.drew {O O' : Nat → Prop} {w u : World} (h : Fr O O' w u) : Fr O O' w u.drew := ⟨h.os, h.tape, h.output, h.size, h.blk, h.own⟩
/-- The map laid anew. -/
theorem inv_map {lim Tc Lc Mb B : Nat} {L' : List Nam} {O O' : Nat → Prop} {w u : World} {s : Value} (hT : Bx u Tc 142 (.map (some Mb))) (hL : Bx u Lc 78 s) (hO : OwnNm u B s (once L'))
    (hd : lim ≤ Tc ∧ lim ≤ Lc ∧ lim ≤ Mb ∧ Tc ≠ Lc ∧ Tc ≠ Mb ∧ Lc ≠ Mb ∧ Tc < B ∧ Lc < B ∧ Mb < B ∧ B ≤ u.heap.size) (hw : ∀ X, O' X ↔ X = Mb ∨ X = Lc ∨ s.ownBlock = some X) (hf : Fr O O' w u) (hM : O Mb) :
    Tells (InvB lim Tc Lc Mb B) O L' w (.returned (.tuple #[])) (setBlock u Mb (.map (ents L') (once L').length)) := by
  obtain ⟨d1, d2, d3, d4, d5, d6, d7, d8, d9, d10⟩ := hd
  refine ⟨rfl, O', ⟨s, hT.setB _ d5, ?_, hL.setB _ d6, hO.setB _ d9, ⟨d1, d2, d3, d4, d5, d6, d7, d8, d9, by rw [size_setBlock]; exact d10⟩, hw⟩, hf.setB _ hM⟩
  rw [heap_setBlock, if_pos ⟨rfl, by omega⟩]
set_option maxRecDepth 100000 in
set_option maxHeartbeats 4000000 in
theorem tables_there (lim Tc Lc Mb B : Nat) (L : List Nam) (O : Nat → Prop) (x : Nam) (w : World) (hw : ∀ y ∈ L, y.wf) (hx : x ∈ L) (hL : L.length < 4194304) (hI : InvB lim Tc Lc Mb B L O w) :
    Calls Tryz.prog 127 #[.agg #[.int .i64 x.k, .int .i64 x.n, .int .i64 x.m, .int .i64 x.d], .pointer (some ⟨Tc, 0, none⟩), .pointer (some ⟨Lc, 0, none⟩)] w (Tells (InvB lim Tc Lc Mb B) O (L ++ [x]) w) := by
  obtain ⟨s, hT, hM, hL1, hO1, hd, hOw⟩ := hI
  obtain ⟨w0, hw0, c0, c1, c2, c3, hB, hsz⟩ := box4n w x.k x.n x.m x.d 82
  have hT0 := (hT.below hB).cell
  have hMl : Mb < w.heap.size := by omega
  have hM0 := (hB.block Mb hMl).trans hM
  obtain ⟨j, hj⟩ := there_run hw hx
  obtain ⟨r1, r2, r3⟩ := hj w0 Mb hM0
  obtain ⟨q1, q2, q3⟩ := hj w0.drew Mb hM0
  have hpos : 0 < ntimes x L := by
    rcases Nat.eq_zero_or_pos (ntimes x L) with h0 | h0
    · exact absurd hx ((ntimes_zero x L).1 h0)
    · exact h0
  have hle := ntimes_len x L
  have hz : (((ntimes x L : Nat) : Int) == 0) = false := by simp; omega
  have W1 : IntKind.i64.wrap ((ntimes x L : Nat) + 1) = (ntimes x L : Nat) + 1 := IntWalk.i64_in _ (by omega)
  have hv : x.val = .agg #[.int .i64 x.k, .int .i64 x.n, .int .i64 x.m, .int .i64 x.d] := rfl
  have hg : goInt j = .int .i64 (j : Int) := rfl
  rw [hv] at r1 r2 q1 q2
  rw [hg] at r2 r3 q2 q3
  clear hg
  clear hj
  have FIN := Lib.hid (inv_map (lim := lim) (Tc := Tc) (Lc := Lc) (Mb := Mb) (B := B) (L' := L ++ [x]) (O := O) (O' := O) (w := w) (u := w0.drew) (show Bx w0 Tc 142 (.map (some Mb)) from hT.below hB) (show Bx w0 Lc 78 s from hL1.below hB) (show OwnNm w0 B s (once (L ++ [x])) by rw [once_snoc, if_pos ((once_mem L x).2 hx)]; exact hO1.below hB) (by obtain ⟨d1, d2, d3, d4, d5, d6, d7, d8, d9, d10⟩ := hd; exact ⟨d1, d2, d3, d4, d5, d6, d7, d8, d9, by show B ≤ w0.heap.size; omega⟩) hOw (Fr.of_below hB).drew ((hOw Mb).2 (.inl rfl)))
  generalize ntimes x L = q at *
  subst hw0
  clear hv
  go_enter Tryz.func127, Tryz.ntmps127
  go_wp2_with fail
  go_region
  all_goals
    go_end0
    exact FIN.out
set_option maxRecDepth 100000 in
set_option maxHeartbeats 4000000 in
theorem tables_gone (lim Tc Lc Mb B : Nat) (L : List Nam) (O : Nat → Prop) (x : Nam) (w : World) (hw : ∀ y ∈ L, y.wf) (hxw : x.wf) (hx : x ∉ L) (hL : L.length < 4194304) (hI : InvB lim Tc Lc Mb B L O w) :
    Calls Tryz.prog 127 #[.agg #[.int .i64 x.k, .int .i64 x.n, .int .i64 x.m, .int .i64 x.d], .pointer (some ⟨Tc, 0, none⟩), .pointer (some ⟨Lc, 0, none⟩)] w (Tells (InvB lim Tc Lc Mb B) O (L ++ [x]) w) := by
  obtain ⟨s, hT, hM, hL1, hO1, ⟨d1, d2, d3, d4, d5, d6, d7, d8, d9, d10⟩, hOw⟩ := hI
  obtain ⟨w0, hw0, c0, c1, c2, c3, hB, hsz⟩ := box4n w x.k x.n x.m x.d 82
  have hT0 := hT.below hB
  have t0 := hT0.cell
  have hMl : Mb < w.heap.size := by omega
  have hM0 := (hB.block Mb hMl).trans hM
  obtain ⟨r1, _⟩ := gone_run hw hxw hx w0 Mb hM0
  have hL0 := hL1.below hB
  have l0 := hL0.cell
  have hO0 := Lib.hid (hO1.below hB)
  have hol := Nat.le_trans (once_len L) (Nat.le_of_lt hL)
  have hv : x.val = .agg #[.int .i64 x.k, .int .i64 x.n, .int .i64 x.m, .int .i64 x.d] := rfl
  have ES := Lib.hid (show once (L ++ [x]) = once L ++ [x] by rw [once_snoc, if_neg (fun h => hx ((once_mem L x).1 h))])
  have GR := Lib.hid (fun u b hb => gone_run hw hxw hx u b hb)
  have PR := Lib.hid (fun u b hb => pushed_run hw hxw hx u b hb)
  rw [hv] at r1 GR PR
  have hsown : ∀ X, s.ownBlock = some X → B ≤ X ∧ X < w.heap.size := fun X h => World.ownsRow.lt hO1 X h
  have HSO := Lib.hid hsown
  have HOW := Lib.hid hOw
  have HX0 := Lib.hid (show s.ownBlock ≠ some w.heap.size from fun h => by have := (hsown _ h).2; omega)
  have FB := Lib.hid (Fr.of_below (O := O) hB)
  have hOm : O Mb := (hOw Mb).2 (.inl rfl)
  have hOl : O Lc := (hOw Lc).2 (.inr (.inl rfl))
  have hWB : B ≤ w0.heap.size := by omega
  have hxs : w.heap.size < w0.heap.size := by omega
  have hcs : (∃ g c, s = .slice (some ⟨g, 0, none⟩) (once L).length c) ∨ s = .slice none 0 0 := by
    rcases hO1.kind with ⟨h, _⟩ | h
    · exact .inr h
    · exact .inl h
  obtain ⟨a, n0, cs, rfl⟩ : ∃ a n c, s = .slice a n c := by
    rcases hcs with ⟨g, c, rfl⟩ | rfl
    · exact ⟨_, _, _, rfl⟩
    · exact ⟨_, _, _, rfl⟩
  have HT0 := Lib.hid hT0
  have HL0 := Lib.hid hL0
  have HM0 := Lib.hid hM0
  clear hT hM hL1 hO1 hOw hcs hT0 hL0 hM0 hsown hB
  have HW0 := Lib.hid hw0
  clear hv
  generalize once L = l at *
  generalize ents L = es at *
  subst hw0
  clear HW0
  go_enter Tryz.func127, Tryz.ntmps127
  go_wp2_with (at_builtin; refine append_nm rfl _ _ rfl rfl hO0.out (by show Value.slice (some ⟨w.heap.size + 1, 0, none⟩) 1 1 = _; simp) hWB (by omega) ?_; (
    intro v' w4 hO4 hb4 hx4 hg4
    obtain ⟨g4, c4, e4⟩ := (hO4.kind).resolve_left (fun h => by have h2 := congrArg List.length h.2; simp at h2)
    have hl4 : (l ++ [x]).length = l.length + 1 := by simp
    rw [hl4] at e4
    subst e4
    have hL4 : Bx w4 Lc 78 (.slice a n0 cs) := (hb4.block Lc d8).trans HL0.out
    have l4 := hL4.cell
    have lf := frozen_of_row w4 Lc 0 _ _ hL4
    have hT4 : Bx w4 Tc 142 (.map (some Mb)) := (hb4.block Tc d7).trans HT0.out
    have hM4 := (hb4.block Mb d9).trans HM0.out
    have bu := But.set w4 Lc 0 (.slice (some ⟨g4, 0, none⟩) (l.length + 1) c4)
    have hs4 := hb4.size
    have hL5 := hL4.set (.slice (some ⟨g4, 0, none⟩) (l.length + 1) c4)
    have hT5 := hT4.but bu d4
    have t5 := hT5.cell
    have hM5 := (bu.o Mb (by omega) (fun e => d6 e.symm)).trans hM4
    have hO5 := hO4.setCell d8 (.slice (some ⟨g4, 0, none⟩) (l.length + 1) c4)
    have n0' := bu.cell (X := w.heap.size) (j := 0) (by omega) (by omega) ((World.cell?_of_block (hx4 w.heap.size hxs HX0.out)).trans c0)
    have n1' := bu.cell (X := w.heap.size) (j := 1) (by omega) (by omega) ((World.cell?_of_block (hx4 w.heap.size hxs HX0.out)).trans c1)
    have n2' := bu.cell (X := w.heap.size) (j := 2) (by omega) (by omega) ((World.cell?_of_block (hx4 w.heap.size hxs HX0.out)).trans c2)
    have n3' := bu.cell (X := w.heap.size) (j := 3) (by omega) (by omega) ((World.cell?_of_block (hx4 w.heap.size hxs HX0.out)).trans c3)
    obtain ⟨q1, q2⟩ := GR.out (w4.setCell ⟨Lc, 0, none⟩ (.slice (some ⟨g4, 0, none⟩) (l.length + 1) c4)).drew Mb hM5
    have hM6 : (setBlock (w4.setCell ⟨Lc, 0, none⟩ (.slice (some ⟨g4, 0, none⟩) (l.length + 1) c4)).drew Mb (.map (es.push ⟨.agg #[.int .i64 x.k, .int .i64 x.n, .int .i64 x.m, .int .i64 x.d], .int .i64 0, l.length⟩) (l.length + 1))).heap[Mb]? = some (.map (es.push ⟨.agg #[.int .i64 x.k, .int .i64 x.n, .int .i64 x.m, .int .i64 x.d], .int .i64 0, l.length⟩) (l.length + 1)) := by rw [heap_setBlock, if_pos ⟨rfl, by have h9 := bu.z; show Mb < (w4.setCell ⟨Lc, 0, none⟩ (.slice (some ⟨g4, 0, none⟩) (l.length + 1) c4)).heap.size; omega⟩]
    obtain ⟨q3, q4⟩ := PR.out _ Mb hM6
    have hg : goInt l.length = .int .i64 (l.length : Int) := rfl
    rw [hg] at q2 q4
    have FR5 : Fr O (fun X => X = Mb ∨ X = Lc ∨ (Value.slice (some ⟨g4, 0, none⟩) (l.length + 1) c4).ownBlock = some X) w (w4.setCell ⟨Lc, 0, none⟩ (.slice (some ⟨g4, 0, none⟩) (l.length + 1) c4)) := by
      have h0 := FB.out
      refine ⟨(bu.b 0 (by omega) (by omega)).os.trans (hb4.os.trans h0.os), (bu.b 0 (by omega) (by omega)).tape.trans (hb4.tape.trans h0.tape), (bu.b 0 (by omega) (by omega)).output.trans (hb4.output.trans h0.output), by have := bu.z; have := h0.size; omega, fun X hX hn => ?_, fun X hX => ?_⟩
      · rw [bu.o X (by have := h0.size; omega) (fun e => hn (by rw [e]; exact hOl)), hx4 X (by have := h0.size; omega) (fun e => hn ((HOW.out X).2 (.inr (.inr e))))]
        exact h0.blk X hX hn
      · rcases hX with rfl | rfl | hX
        · exact .inl hOm
        · exact .inl hOl
        · rcases hg4 X hX with h7 | h7
          · exact .inl ((HOW.out X).2 (.inr (.inr h7)))
          · right; have := h0.size; omega
    have FIN := Lib.hid (inv_map (lim := lim) (Tc := Tc) (Lc := Lc) (Mb := Mb) (B := B) (L' := L ++ [x]) (O := O) (O' := fun X => X = Mb ∨ X = Lc ∨ (Value.slice (some ⟨g4, 0, none⟩) (l.length + 1) c4).ownBlock = some X) (w := w) (u := setBlock (w4.setCell ⟨Lc, 0, none⟩ (.slice (some ⟨g4, 0, none⟩) (l.length + 1) c4)).drew Mb (.map (es.push ⟨.agg #[.int .i64 x.k, .int .i64 x.n, .int .i64 x.m, .int .i64 x.d], .int .i64 0, l.length⟩) (l.length + 1)))
      (Bx.setB (show Bx (w4.setCell ⟨Lc, 0, none⟩ (.slice (some ⟨g4, 0, none⟩) (l.length + 1) c4)).drew Tc 142 (.map (some Mb)) from hT5) _ d5) (Bx.setB (show Bx (w4.setCell ⟨Lc, 0, none⟩ (.slice (some ⟨g4, 0, none⟩) (l.length + 1) c4)).drew Lc 78 _ from hL5) _ d6) (OwnNm.setB (show OwnNm (w4.setCell ⟨Lc, 0, none⟩ (.slice (some ⟨g4, 0, none⟩) (l.length + 1) c4)).drew B _ (once (L ++ [x])) by rw [ES.out]; exact hO5) _ d9)
      ⟨d1, d2, d3, d4, d5, d6, d7, d8, d9, by rw [size_setBlock]; have h9 := bu.z; show B ≤ (w4.setCell ⟨Lc, 0, none⟩ (.slice (some ⟨g4, 0, none⟩) (l.length + 1) c4)).heap.size; omega⟩ (fun X => Iff.rfl) ((FR5.drew).setB _ hOm) hOm)
    clear hO4 hb4 hx4 hg4 hL4 hT4 hM4 bu hL5 hT5 hM5 hO5 hM6 hg FR5 hl4))
  go_region
  all_goals
    go_end0
    exact FIN.out
end Go.Proofs.YtbhnlfgccldmaaaGreat
/- Package need's Tables, whole. -/
namespace Go.Proofs.YtbhnlfgccldmaaaGreat
open Go.ChangeShapes Go.WideShapes Go.ChangeAt Go.RowKit
set_option linter.unusedVariables false
open Go.WideMaps Go.MapKept Go.WideElems Go.ChangeMaps
theorem flat_at (l : List Nam) : ∀ i (hi : i < l.length), (l.flatMap Nam.cells)[i * 4]? = some (.int .i64 l[i].k) ∧ (l.flatMap Nam.cells)[i * 4 + 1]? = some (.int .i64 l[i].n) ∧ (l.flatMap Nam.cells)[i * 4 + 2]? = some (.int .i64 l[i].m) ∧ (l.flatMap Nam.cells)[i * 4 + 3]? = some (.int .i64 l[i].d) := by
  induction l with
  | nil => intro i hi; simp at hi
  | cons x r ih =>
    intro i hi
    cases i with
    | zero => simp [Nam.cells]
    | succ i =>
      have := ih i (by simpa using hi)
      have e : ∀ j, ((x :: r).flatMap Nam.cells)[(i + 1) * 4 + j]? = (r.flatMap Nam.cells)[i * 4 + j]? := fun j => by
        rw [List.flatMap_cons, List.getElem?_append_right (by simp [Nam.cells]; omega)]
        congr 1
        simp [Nam.cells]; omega
      have e0 := e 0
      simp only [Nat.add_zero] at e0
      refine ⟨e0.trans (by simpa using this.1), (e 1).trans (by simpa using this.2.1), (e 2).trans (by simpa using this.2.2.1), (e 3).trans (by simpa using this.2.2.2)⟩
theorem OwnNm.row {w : World} {B : Nat} {v : Value} {l : List Nam} (h : OwnNm w B v l) : ∃ a c, v = .slice a l.length c ∧ NRow w w.heap.size a l ∧ l.length ≤ c ∧ c ≤ maxLen := by
  have h0 := h
  obtain ⟨hl, h | ⟨g, cap, cur, rfl, hb, hh, hn, hm, hs, ht⟩⟩ := h
  · obtain ⟨rfl, hn⟩ := h
    have : l = [] := List.length_eq_zero_iff.1 hn
    subst this
    exact ⟨none, 0, rfl, NRow.nought _ _ _, Nat.le_refl _, by unfold maxLen; omega⟩
  · have hg : g < w.heap.size := Nat.lt_of_not_le fun hn => by rw [Array.getElem?_eq_none hn] at hh; cases hh
    refine ⟨_, cap, rfl, .inr ⟨g, 0, rfl, hg, fun i hi => ?_⟩, hn, hm⟩
    obtain ⟨f0, f1, f2, f3⟩ := flat_at l i hi
    have hx : ∀ j, j < 4 → w.cell? ⟨g, 0 + i * 4 + j, none⟩ = (l.flatMap Nam.cells)[i * 4 + j]? := fun j hj => by
      rw [cell_of_row w g _ _ _ _ hh, ← ht, List.getElem?_take, if_pos (by omega)]
      simp
    have hx0 := hx 0 (by omega)
    simp only [Nat.add_zero] at hx0
    exact ⟨hx0.trans f0, (hx 1 (by omega)).trans f1, (hx 2 (by omega)).trans f2, (hx 3 (by omega)).trans f3⟩
/-- The answer is a slice of names, and an error. -/
def GivesT (w : World) (l : List Nam) (er : Int) (e : Ending) (w' : World) : Prop := ∃ a c, e = .returned (.tuple #[.slice a l.length c, .int .i64 er]) ∧ NRow w' w'.heap.size a l ∧ l.length ≤ c ∧ c ≤ 9223372036854775807 ∧ Below w.heap.size w w'
/-- What Tables tells of a tree. -/
def tabsL (k n : Int) (ks : Fo) (dir : Int) : List Nam := if ckd dir (chkd k n ks) = 0 then once (namesN k n ks dir) else []
theorem named_wf {k n dir a : Int} (wn : -9223372036854775808 ≤ n ∧ n ≤ 9223372036854775807) (wd : -9223372036854775808 ≤ dir ∧ dir ≤ 9223372036854775807) (wa : -9223372036854775808 ≤ a ∧ a ≤ 9223372036854775807) : ∀ x ∈ namedL k n dir a, x.wf := by
  intro x hx
  unfold namedL at hx
  unfold Nam.wf
  split at hx
  · simp at hx; subst hx; exact ⟨by dsimp only; omega, wn, by dsimp only; omega, wd⟩
  · split at hx
    · simp at hx; subst hx; exact ⟨by dsimp only; omega, wn, by dsimp only; omega, wd⟩
    · split at hx
      · simp at hx
        rcases hx with rfl | rfl
        · exact ⟨by dsimp only; omega, wn, by dsimp only; omega, wd⟩
        · exact ⟨by dsimp only; omega, wn, wa, wd⟩
      · simp at hx
theorem Fo.n_wf (f : Fo) (h : f.wf) (i : Nat) : -9223372036854775808 ≤ f.n i ∧ f.n i ≤ 9223372036854775807 := by
  by_cases hi : i < f.len
  · exact (Fo.wf_at f i h hi).2.1
  · have : ∀ (f : Fo) (i : Nat), f.len ≤ i → f.n i = 0 := by
      intro f
      induction f with
      | nil => intro i _; rfl
      | cons k n ks r _ ih =>
        intro i hi
        cases i with
        | zero => simp [Fo.len] at hi
        | succ i => exact ih i (by simp [Fo.len] at hi; omega)
    rw [this f i (by omega)]; omega
theorem under_wf {k dir : Int} (wd : -9223372036854775808 ≤ dir ∧ dir ≤ 9223372036854775807) : -9223372036854775808 ≤ under k dir ∧ under k dir ≤ 9223372036854775807 := by
  unfold under; split <;> omega
theorem names_wf : ∀ (f : Fo) (dir : Int), f.wf → (-9223372036854775808 ≤ dir ∧ dir ≤ 9223372036854775807) → ∀ x ∈ f.names dir, x.wf
  | .nil, _, _, _, x, hx => by simp [Fo.names] at hx
  | .cons k n ks r, dir, hw, wd, x, hx => by
    rw [Fo.names] at hx
    simp only [List.mem_append] at hx
    rcases hx with (hx | hx) | hx
    · exact named_wf hw.2.1 wd (Fo.n_wf ks hw.2.2.1 0) x hx
    · exact names_wf ks _ hw.2.2.1 (under_wf wd) x hx
    · exact names_wf r dir hw.2.2.2 wd x hx
theorem namesN_wf {k n dir : Int} {ks : Fo} (wn : -9223372036854775808 ≤ n ∧ n ≤ 9223372036854775807) (wd : -9223372036854775808 ≤ dir ∧ dir ≤ 9223372036854775807) (hw : ks.wf) : ∀ x ∈ namesN k n ks dir, x.wf := by
  intro x hx
  rw [namesN, List.mem_append] at hx
  rcases hx with hx | hx
  · exact named_wf wn wd (Fo.n_wf ks hw 0) x hx
  · exact names_wf ks _ hw (under_wf wd) x hx
/-- What Tables keeps, all names being in order. -/
def InvC (lim Tc Lc Mb B : Nat) (L : List Nam) (O : Nat → Prop) (w : World) : Prop := InvB lim Tc Lc Mb B L O w ∧ ∀ y ∈ L, y.wf
theorem InvC.hlt {lim Tc Lc Mb B : Nat} {L : List Nam} {O : Nat → Prop} {w : World} (h : InvC lim Tc Lc Mb B L O w) : ∀ X, O X → lim ≤ X ∧ X < w.heap.size := fun X hX => by
  obtain ⟨⟨s, hT, hM, hL1, hO1, ⟨d1, d2, d3, d4, d5, d6, d7, d8, d9, d10⟩, hOw⟩, _⟩ := h
  rcases (hOw X).1 hX with rfl | rfl | h
  · exact ⟨d3, by omega⟩
  · exact ⟨d2, by omega⟩
  · have := World.ownsRow.lt hO1 X h
    exact ⟨by omega, this.2⟩
theorem InvC.below {lim Tc Lc Mb B : Nat} {L : List Nam} {O : Nat → Prop} {w w' : World} (h : InvC lim Tc Lc Mb B L O w) (hb : Below w.heap.size w w') : InvC lim Tc Lc Mb B L O w' := by
  obtain ⟨⟨s, hT, hM, hL1, hO1, ⟨d1, d2, d3, d4, d5, d6, d7, d8, d9, d10⟩, hOw⟩, hw⟩ := h
  exact ⟨⟨s, hT.below hb, (hb.block Mb (by omega)).trans hM, hL1.below hb, hO1.below hb, ⟨d1, d2, d3, d4, d5, d6, d7, d8, d9, by have := hb.size; omega⟩, hOw⟩, hw⟩
theorem tables_step (lim Tc Lc Mb B M : Nat) (hMM : M ≤ 4194304) (L : List Nam) (O : Nat → Prop) (x : Nam) (w : World) (hxw : x.wf) (hL : L.length < M) (hI : InvC lim Tc Lc Mb B L O w) :
    Calls Tryz.prog 127 #[.agg #[.int .i64 x.k, .int .i64 x.n, .int .i64 x.m, .int .i64 x.d], .pointer (some ⟨Tc, 0, none⟩), .pointer (some ⟨Lc, 0, none⟩)] w (Tells (InvC lim Tc Lc Mb B) O (L ++ [x]) w) := by
  obtain ⟨hI, hw⟩ := hI
  have hw2 : ∀ y ∈ L ++ [x], y.wf := fun y hy => by
    rcases List.mem_append.1 hy with h | h
    · exact hw y h
    · simp only [List.mem_singleton] at h; rw [h]; exact hxw
  have hh : Calls Tryz.prog 127 #[.agg #[.int .i64 x.k, .int .i64 x.n, .int .i64 x.m, .int .i64 x.d], .pointer (some ⟨Tc, 0, none⟩), .pointer (some ⟨Lc, 0, none⟩)] w (Tells (InvB lim Tc Lc Mb B) O (L ++ [x]) w) := by
    by_cases hx : x ∈ L
    · exact tables_there lim Tc Lc Mb B L O x w hw hx (by omega) hI
    · exact tables_gone lim Tc Lc Mb B L O x w hw hxw hx (by omega) hI
  exact hh.mono fun e w' ⟨h1, O', h2, h3⟩ => ⟨h1, O', ⟨h2, hw2⟩, h3⟩
set_option maxRecDepth 100000 in
set_option maxHeartbeats 4000000 in
theorem need_tables (ks : Fo) (v : Value) (k n dir : Int) (lim : Nat) (W : World) (hN : ks.cnt ≤ 1048576) (hK : Kids W lim v ks) (hl : lim ≤ W.heap.size) (wn : -9223372036854775808 ≤ n ∧ n ≤ 9223372036854775807) (wf : ks.wf) :
    Calls Tryz.prog 86 #[.agg #[.int .i64 k, .int .i64 n, v], .int .i64 dir] W (GivesT W (tabsL k n ks dir) (ckd dir (chkd k n ks))) := by
  have CK := Lib.hid (fun W h1 h2 => need_check ks v k n dir lim W hN h1 h2 wn wf)
  obtain ⟨p, m, c, rfl, hc1, hc2, HM⟩ := hK.shape
  obtain ⟨w0, hw0, c0, c1, c2, hB0, hsz0⟩ := box3 W k n (.slice p m c) 24
  have hK0 := hK.below hl hB0
  have xa : W.heap.size < w0.heap.size := by omega
  by_cases hck : ckd dir (chkd k n ks) = 0
  case neg =>
    have Z := Lib.hid (show tabsL k n ks dir = [] from if_neg hck)
    generalize tabsL k n ks dir = z at *
    generalize ckd dir (chkd k n ks) = ck at *
    have d0 : (ck != 0) = true := by simp [hck]
    go_enter Tryz.func86, Tryz.ntmps86
    go_wp2_with fail
    rw [← hw0]
    clear hw0
    refine (CK.out _ hK0 (by omega)).mono ?_
    rintro e w2 ⟨rfl, b2⟩
    go_wp2_with fail
    go_ret2
    exact ⟨none, 0, by rw [Z.out]; rfl, by rw [Z.out]; exact NRow.nought _ _ _, by rw [Z.out]; exact Nat.le_refl _, by omega, hB0.trans (b2.mono hB0.size)⟩
  have Z := Lib.hid (show tabsL k n ks dir = once (namesN k n ks dir) from if_pos hck)
  obtain ⟨hd, hc0⟩ := ckd_dir hck
  obtain ⟨s1, s2, s3⟩ := chk_sane hc0
  have GW := Lib.hid (namesN_wf (k := k) (n := n) (dir := dir) (ks := ks) wn (by omega) wf)
  rw [hck] at CK ⊢
  generalize tabsL k n ks dir = z at *
  have EA := Lib.hid (fun (Tc Lc Mb B : Nat) (W' : World) (O : Nat → Prop) (hK' : Kids W' lim (.slice p m c) ks) (hl' : lim ≤ W'.heap.size) (hI : InvC lim Tc Lc Mb B [] O W') =>
    each_tables ⟨Tc, 0, none⟩ ⟨Lc, 0, none⟩ lim 4194304 (InvC lim Tc Lc Mb B) (fun L O w h => InvC.hlt h) (fun L O w w' h hb => InvC.below h hb) Nam.wf (fun L O y w hy hL h => tables_step lim Tc Lc Mb B 4194304 (by omega) L O y w hy hL h) 1048576 ks (.slice p m c) k n dir [] O W' hN (by omega) hK' hl' s1 s2 (by simp; omega) GW.out hI)
  have hmm := @run_makeMap Tryz.prog
  clear hck hd hc0 s1 s2 hK GW
  go_enter Tryz.func86, Tryz.ntmps86
  go_wp2_with fail
  rw [← hw0]
  clear hw0
  refine (CK.out _ hK0 (by omega)).mono ?_
  rintro e w1 ⟨rfl, b1⟩
  have hK1 := hK0.below (by omega) b1
  have hs1 := b1.size
  have f0 := (b1.cell (p := ⟨W.heap.size, 0, none⟩) xa).trans c0
  have f1 := (b1.cell (p := ⟨W.heap.size, 1, none⟩) xa).trans c1
  have f2 := (b1.cell (p := ⟨W.heap.size, 2, none⟩) xa).trans c2
  have hBB := hB0.trans (b1.mono hB0.size)
  clear c0 c1 c2 hB0 b1 hK0 CK
  obtain ⟨w4, hw4⟩ : ∃ w4, w4 = ((w1.alloc (.cells #[.slice none 0 0] 78)).alloc (.map #[] 0)).alloc (.cells #[.map (some (w1.heap.size + 1))] 142) := ⟨_, rfl⟩
  have hb4 : Below w1.heap.size w1 w4 := by
    rw [hw4]
    exact (((Below.refl _ _).alloc (Nat.le_refl _) _).alloc (by simp) _).alloc (by simp; omega) _
  have hs4 : w4.heap.size = w1.heap.size + 1 + 1 + 1 := by rw [hw4]; simp
  have hL4 : Bx w4 w1.heap.size 78 (.slice none 0 0) := by
    rw [hw4]
    exact ((Bx.new w1 78 (.slice none 0 0) _ rfl).alloc _).alloc _
  have hM4 : w4.heap[w1.heap.size + 1]? = some (.map (ents []) (once []).length) := by
    have h1 := heap_alloc_new (w1.alloc (.cells #[.slice none 0 0] 78)) (.map #[] 0)
    rw [show (w1.alloc (.cells #[.slice none 0 0] 78)).heap.size = w1.heap.size + 1 by simp] at h1
    rw [hw4, Below.heap_alloc _ _ _ (by simp)]
    exact h1
  have hT4 : Bx w4 (w1.heap.size + 1 + 1) 142 (.map (some (w1.heap.size + 1))) := by
    have h1 := Bx.new ((w1.alloc (.cells #[.slice none 0 0] 78)).alloc (.map #[] 0)) 142 (.map (some (w1.heap.size + 1))) _ rfl
    rw [show ((w1.alloc (.cells #[.slice none 0 0] 78)).alloc (.map #[] 0)).heap.size = w1.heap.size + 1 + 1 by simp] at h1
    rw [hw4]
    exact h1
  have IV : InvC lim (w1.heap.size + 1 + 1) w1.heap.size (w1.heap.size + 1) w4.heap.size [] (fun X => X = w1.heap.size + 1 ∨ X = w1.heap.size ∨ (Value.slice none 0 0).ownBlock = some X) w4 :=
    ⟨⟨_, hT4, hM4, hL4, World.ownsRow_nil w4 w4.heap.size 82 4, by omega, fun X => Iff.rfl⟩, fun y hy => by cases hy⟩
  have CI := Lib.hid (EA.out (w1.heap.size + 1 + 1) w1.heap.size (w1.heap.size + 1) w4.heap.size w4 _ (hK1.below (by omega) hb4) (by omega) IV)
  have g0 := (hb4.cell (p := ⟨W.heap.size, 0, none⟩) (by show W.heap.size < _; omega)).trans f0
  have g1 := (hb4.cell (p := ⟨W.heap.size, 1, none⟩) (by show W.heap.size < _; omega)).trans f1
  have g2 := (hb4.cell (p := ⟨W.heap.size, 2, none⟩) (by show W.heap.size < _; omega)).trans f2
  have HBB := Lib.hid (hBB.trans (hb4.mono hBB.size))
  have hWw : W.heap.size ≤ w1.heap.size := by omega
  have hz4 : W.heap.size ≤ w4.heap.size := by omega
  clear hb4 hL4 hM4 hT4 IV hs4 hK1 hBB EA f0 f1 f2
  rw [hw4] at g0 g1 g2
  go_wp2_with fail
  rw [← hw4]
  refine CI.out.mono ?_
  rintro e w5 ⟨rfl, O5, ⟨⟨s, hT5, hM5, hL5, hO5, _, _⟩, _⟩, F5⟩
  have q0 := hL5.cell
  obtain ⟨a5, c5, rfl, hr5, hc5, hm5⟩ := hO5.row
  have HR := Lib.hid hr5
  have HB5 := Lib.hid (HBB.out.trans (F5.below (H := W.heap.size) hz4 (fun X hX => by
    rcases hX with rfl | rfl | h
    · omega
    · omega
    · cases h)))
  have hm6 : c5 ≤ 9223372036854775807 := by unfold maxLen at hm5; omega
  rw [List.nil_append] at HR hc5 q0
  clear hT5 hM5 hL5 hO5 F5 hr5 hm5
  go_wp2_with fail
  go_ret2
  exact ⟨a5, c5, by rw [Z.out]; rfl, by rw [Z.out]; exact HR.out, by rw [Z.out]; exact hc5, hm6, HB5.out⟩
end Go.Proofs.YtbhnlfgccldmaaaGreat
