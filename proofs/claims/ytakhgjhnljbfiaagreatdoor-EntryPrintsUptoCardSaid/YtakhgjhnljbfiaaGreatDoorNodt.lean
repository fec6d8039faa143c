/- dtext's reader: several nodes, and one. -/
import Derived.Test.YtakhgjhnljbfiaaGreatDoorRdr
import Derived.Test.YtakhgjhnljbfiaaGreatDoorAppt
namespace Go.Proofs.YtakhgjhnljbfiaaGreatDoor
open Go.ChangeShapes Go.WideShapes Go.ChangeAt Go.RowKit
set_option linter.unusedVariables false
set_option linter.unusedSimpArgs false
/-- What node tells. -/
def NodeOk (W : World) (r g : Nat) (A : Option Addr) (n c : Nat) (ts : List ByteArray) (at_ : Nat) (e : Ending) (w' : World) : Prop :=
  But W w' r ∧ ((NT (ts.drop at_) = none ∧ (∃ q, Rdr w' r g A n c ts q) ∧ e = .returned (.tuple #[.agg #[.int .i64 0, .int .i64 0, .slice none 0 0], .bool false])) ∨
    (∃ (k m : Int) (ks : Fo) (q : Nat) (v : Value), NT (ts.drop at_) = some ((k, m, ks), ts.drop q) ∧ at_ < q ∧ Rdr w' r g A n c ts q ∧ e = .returned (.tuple #[.agg #[.int .i64 k, .int .i64 m, v], .bool true]) ∧ KidsS w' (fun b => W.heap.size ≤ b ∧ b < w'.heap.size) v ks))
/-- What several tells. -/
def SevOk (W : World) (r g : Nat) (A : Option Addr) (n c : Nat) (ts : List ByteArray) (at_ : Nat) (e : Ending) (w' : World) : Prop :=
  But W w' r ∧ ((ST (ts.drop at_) = none ∧ (∃ q, Rdr w' r g A n c ts q) ∧ e = .returned (.tuple #[.slice none 0 0, .bool false])) ∨
    (∃ (ks : Fo) (q : Nat) (v : Value), ST (ts.drop at_) = some (ks, ts.drop q) ∧ at_ < q ∧ Rdr w' r g A n c ts q ∧ e = .returned (.tuple #[v, .bool true]) ∧ KidsS w' (fun b => W.heap.size ≤ b ∧ b < w'.heap.size) v ks))
theorem drop_head {ts : List ByteArray} {i : Nat} {t : ByteArray} (h : ts[i]? = some t) : ts.drop i = t :: ts.drop (i + 1) := by
  obtain ⟨h1, h2⟩ := List.getElem?_eq_some_iff.1 h
  rw [List.drop_eq_getElem_cons h1, h2]
theorem drop_not {ts : List ByteArray} {i : Nat} {t : ByteArray} (h : ts[i]? ≠ some t) : ∀ y, ts.drop i ≠ t :: y := fun y e => h (by
  have : (ts.drop i)[0]? = some t := by rw [e]; rfl
  rw [List.getElem?_drop] at this
  simpa using this)
/-- What was read, and what follows. -/
def aft (l : List Nd) : Option (Fo × List ByteArray) → Option (Fo × List ByteArray)
  | none => none
  | some (x, y) => some (mkF l x, y)
theorem aft_none {ts : List ByteArray} {i j : Nat} {l : List Nd} (h : ST (ts.drop i) = aft l (ST (ts.drop j))) (hn : NT (ts.drop j) = none) : ST (ts.drop i) = none := by
  rw [h, show ST (ts.drop j) = none from Gr.S_none HT_less hn]; rfl
theorem aft_end {ts : List ByteArray} {i j q : Nat} {l : List Nd} {k m : Int} {ks : Fo} (h : ST (ts.drop i) = aft l (ST (ts.drop j))) (hn : NT (ts.drop j) = some ((k, m, ks), ts.drop q)) (hz : ts[q]? ≠ some cmB) : ST (ts.drop i) = some (mkF l (.cons k m ks .nil), ts.drop q) := by
  rw [h, show ST (ts.drop j) = _ from Gr.S_end HT_less hn (drop_not hz)]; rfl
theorem aft_more {ts : List ByteArray} {i j q : Nat} {l : List Nd} {k m : Int} {ks : Fo} (h : ST (ts.drop i) = aft l (ST (ts.drop j))) (hn : NT (ts.drop j) = some ((k, m, ks), ts.drop q)) (hz : ts[q]? = some cmB) : ST (ts.drop i) = aft (l ++ [⟨k, m, ks⟩]) (ST (ts.drop (q + 1))) := by
  have e := Gr.S_more (op := opB) (cl := clB) (cm := cmB) (z := ts.drop (q + 1)) HT_less (by rw [← drop_head hz]; exact hn)
  rw [h, show ST (ts.drop j) = _ from e]
  show aft l _ = aft _ (Gr.S HT opB clB cmB (ts.drop (q + 1)))
  rcases Gr.S HT opB clB cmB (ts.drop (q + 1)) with _ | ⟨x, y⟩
  · rfl
  · show some (mkF l (.cons k m ks x), y) = some (mkF (l ++ [⟨k, m, ks⟩]) x, y)
    rw [mkF_snoc l ⟨k, m, ks⟩ x]
theorem aft_nil {ts : List ByteArray} {i : Nat} : ST (ts.drop i) = aft [] (ST (ts.drop i)) := by
  rcases ST (ts.drop i) with _ | ⟨x, y⟩ <;> rfl
theorem But.grow {W w2 w3 : World} {r : Nat} (h : But W w2 r) (hb : Below W.heap.size w2 w3) : But W w3 r :=
  ⟨fun x hx hne => (hb.block x hx).trans (h.o x hx hne), Nat.le_trans h.z hb.size, fun H h1 h2 => (h.b H h1 h2).trans (hb.mono h2)⟩
/-- The reader's place. -/
def rAt (w : World) (r : Nat) : Nat := match w.cell? ⟨r, 1, none⟩ with
  | some (.int _ i) => i.toNat
  | _ => 0
theorem Rdr.at {w : World} {r g : Nat} {A : Option Addr} {n c : Nat} {ts : List ByteArray} {at_ : Nat} (h : Rdr w r g A n c ts at_) : rAt w r = at_ := by
  unfold rAt; rw [h.c1]; rfl

set_option maxRecDepth 100000 in
set_option maxHeartbeats 8000000 in
theorem d_several (N r g : Nat) (A : Option Addr) (n c : Nat) (ts : List ByteArray)
    (IH : ∀ (at_ : Nat) (W : World), n - at_ < N → Rdr W r g A n c ts at_ → Calls Tryz.prog 62 #[.pointer (some ⟨r, 0, none⟩)] W (NodeOk W r g A n c ts at_))
    (at_ : Nat) (W : World) (hN : n - at_ < N) (hR : Rdr W r g A n c ts at_) :
    Calls Tryz.prog 87 #[.pointer (some ⟨r, 0, none⟩), .func (.func 62) #[.pointer (some ⟨r, 0, none⟩)] #[]] W (SevOk W r g A n c ts at_) := by
  have hrW := hR.lt
  have hn5 := hR.hn
  have HI := Lib.hid IH
  have hgW : n = 0 ∨ g < W.heap.size := hR.hgl
  have H0 := Lib.hid hR
  clear IH hR
  go_enter Tryz.func87, Tryz.ntmps87
  go_wp2
  go_loopw [6] (fun x wr => ∃ (i : Nat) (l : List Nd) (sv : Value) (wx : World), sv = x ∧ wx = wr ∧ at_ ≤ i ∧ Hid (ST (ts.drop at_) = aft l (ST (ts.drop i))) ∧ Hid (Rdr wr r g A n c ts i) ∧ Hid (OwnT wr 0 W.heap.size x l) ∧ Hid (But W wr r) ∧ Hid (l.length ≤ i)) (fun _ wr => n - rAt wr r)
  case atStart => exact ⟨at_, [], _, _, rfl, rfl, Nat.le_refl _, Lib.hid aft_nil, H0, Lib.hid (OwnT.nil _ _ _), Lib.hid (But.refl _ _), Lib.hid (Nat.zero_le _)⟩
  case round =>
    obtain ⟨i, l, v, wr, rfl, rfl, hai, HE, HR, HO, HB, HL⟩ := hrel
    have hzr := HB.out.z
    have C := HI.out i wr (by omega) HR.out
    have hra := HR.out.at
    go_wp2_with fail
    refine C.mono ?_
    rintro e w1 ⟨hB1, hcase⟩
    rcases hcase with ⟨hn1, ⟨q, hR1⟩, rfl⟩ | ⟨k, m, ks, q, u, hn1, hiq, hR1, rfl, hK1⟩
    · have hS := Lib.hid (aft_none HE.out hn1)
      have HB1 := Lib.hid (HB.out.trans hB1)
      have HR1 := Lib.hid hR1
      clear hn1 hB1 hR1 C
      go_wp2_with fail
      go_ret2
      have ha := (Below.refl w1.heap.size w1).alloc (Nat.le_refl _) (.cells #[.int .i64 0, .int .i64 0, .slice none 0 0] 26)
      exact ⟨HB1.out.trans (But.of_below r ha), .inl ⟨hS.out, ⟨q, HR1.out.belowAll ha⟩, rfl⟩⟩
    · obtain ⟨ua, un, uc, rfl⟩ : ∃ a n c, u = .slice a n c := by
        obtain ⟨a, c, rfl, _⟩ := hK1
        exact ⟨_, _, _, rfl⟩
      have hz1 := hB1.z
      have hO1 : OwnT w1 0 W.heap.size v l := HO.out.keep hB1 (Nat.zero_le _) hrW
      have hown := HO.out.ownLt
      obtain ⟨w2, hw2, c0, c1, c2, hB2, hs2⟩ := box3 w1 k m (.slice ua un uc) 26
      have hO2 : OwnT w2 0 W.heap.size v l := hO1.below hB2
      have hR2 := hR1.belowAll hB2
      have hK2 : KidsS w2 (fun b => wr.heap.size ≤ b ∧ b < w1.heap.size) (.slice ua un uc) ks := hK1.carry (fun b hb => ⟨hb, hB2.block b hb.2⟩)
      have hoff : ∀ b, (wr.heap.size ≤ b ∧ b < w1.heap.size) → offB w2 0 W.heap.size v b := fun b hb => ⟨by omega, fun e => by have := hown b e; omega, .inr (by omega)⟩
      have hll : l.length ≤ 1000000 := by
        have := HL.out; have := hR1.hm; omega
      have HB2 := Lib.hid ((HB.out.trans hB1).trans (But.of_below r hB2))
      have HR2 := Lib.hid hR2
      have HN1 := Lib.hid hn1
      have hsz2 : W.heap.size ≤ w2.heap.size := by omega
      have hqn := hR1.hm
      clear C hO1 hown hB2 hR2 hR1 hK1 hn1 HR HB HO hB1
      have HW2 := Lib.hid hw2
      clear hw2
      go_wp2_with (at_builtin; rw [← HW2.out]; refine append_t1 (d := ⟨k, m, ks⟩) rfl _ _ rfl rfl hO2 (by rw [hs2]; rfl) hK2 hoff hsz2 hll ?_; intro v3 w3 hO3 hb3)
      have hR3 : Rdr w3 r g A n c ts q := HR2.out.below hb3 hrW hgW
      have hB3 : But W w3 r := HB2.out.grow hb3
      have hK3 := fun (x : Fo) (hx : x.top = l ++ [⟨k, m, ks⟩]) (w4 : World) (hb4 : But w3 w4 r) => (OwnT.kidsS (f := x) (by rw [hx]; exact hO3.keep hb4 (Nat.zero_le _) hrW) : KidsS w4 (fun b => b < w4.heap.size ∧ (b < 0 ∨ W.heap.size ≤ b)) v3 x)
      have C4 := r_is hR3 cmB
      obtain ⟨va, vn, vc, rfl⟩ := hO3.form
      by_cases hz : ts[q]? = some cmB
      · rw [decide_eq_true hz, if_pos hz] at C4
        have HE2 := Lib.hid (aft_more HE.out HN1.out hz)
        have HO3 := Lib.hid hO3
        have HB3 := Lib.hid hB3
        have HL2 : Hid ((l ++ [(⟨k, m, ks⟩ : Nd)]).length ≤ q + 1) := Lib.hid (by
          have := HL.out
          rw [List.length_append]; simp; omega)
        have hlt : q < n := by
          have h1 := hR3.hl
          have h2 := (List.getElem?_eq_some_iff.1 hz).1
          omega
        clear hO2 hK2 hoff hK3 hO3 hB3 hb3 HE HN1 HL hR3 HB2 HR2 hz c0 c1 c2
        go_wp2_with fail
        refine C4.mono ?_
        rintro e w4 ⟨hB4, hz4, rfl, hR4⟩
        have hr4 := hR4.at
        go_wp2_with fail
        go_roundw
        case rel => exact ⟨q + 1, l ++ [⟨k, m, ks⟩], _, _, rfl, rfl, by omega, HE2, Lib.hid hR4, Lib.hid (HO3.out.keep hB4 (Nat.zero_le _) hrW), Lib.hid (HB3.out.trans hB4), HL2⟩
        case measure => rw [hr4, hra]; omega
      · rw [decide_eq_false hz, if_neg hz] at C4
        have HE2 := Lib.hid (aft_end HE.out HN1.out hz)
        have HB3 := Lib.hid hB3
        have HK3 := Lib.hid hK3
        clear hO2 hK2 hoff hK3 hO3 hB3 hb3 HE HN1 HL hR3 HB2 HR2 hz c0 c1 c2
        go_wp2_with fail
        refine C4.mono ?_
        rintro e w4 ⟨hB4, hz4, rfl, hR4⟩
        go_wp2_with fail
        go_ret2
        refine ⟨HB3.out.trans hB4, .inr ⟨_, q, _, HE2.out, by omega, hR4, rfl, (HK3.out _ (by rw [mkF_top]; rfl) w4 hB4).carry (fun b hb => ⟨⟨?_, hb.1⟩, rfl⟩)⟩⟩
        rcases hb.2 with h | h
        · omega
        · exact h
end Go.Proofs.YtakhgjhnljbfiaaGreatDoor
