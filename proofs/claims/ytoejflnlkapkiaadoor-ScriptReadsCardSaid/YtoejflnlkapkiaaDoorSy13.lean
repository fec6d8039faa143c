/- Put together by program (merge2.py): Sqf Sqc. -/
import Derived.Lib.ParseIntBCases
import Derived.StillTailTactics
import Derived.Test.YtoejflnlkapkiaaDoorSy12
/- Scripts: what was read is written again. -/
namespace Go.Proofs.YtoejflnlkapkiaaDoor
open Go.ChangeShapes Go.WideShapes Go.ChangeAt Go.RowKit
set_option linter.unusedVariables false
set_option linter.unusedSimpArgs false
theorem hexD_half : ∀ k : Fin 256, halfN (UInt8.ofNat k.1) < 16 → hexD (halfN (UInt8.ofNat k.1)) = UInt8.ofNat k.1 := by decide +kernel
theorem hexD_of {c : UInt8} (h : halfN c < 16) : hexD (halfN c) = c := by
  have h1 := hexD_half ⟨c.toNat, c.toNat_lt⟩
  have e : UInt8.ofNat c.toNat = c := UInt8.ofNat_toNat
  simp only [e] at h1
  exact h1 h
theorem hex_unB : ∀ {x l : List UInt8}, unB x = some l → ((l.map fun b => [hexD (b.toNat / 16), hexD (b.toNat % 16)]).flatten) = x
  | [], l, h => by
    have : l = [] := by simpa [unB] using h.symm
    subst this; rfl
  | [_], l, h => by simp [unB] at h
  | a :: b :: r, l, h => by
    unfold unB at h
    split at h
    · rename_i hab
      cases hr : unB r with
      | none => rw [hr] at h; simp at h
      | some m =>
        rw [hr] at h
        obtain rfl : UInt8.ofNat (16 * halfN a + halfN b) :: m = l := by simpa using h
        have hb : (UInt8.ofNat (16 * halfN a + halfN b)).toNat = 16 * halfN a + halfN b := by
          rw [UInt8.toNat_ofNat']; have := hab.1; have := hab.2; omega
        have h1 : (16 * halfN a + halfN b) / 16 = halfN a := by have := hab.2; omega
        have h2 : (16 * halfN a + halfN b) % 16 = halfN b := by have := hab.2; omega
        rw [List.map_cons, List.flatten_cons, hb, h1, h2, hexD_of hab.1, hexD_of hab.2, hex_unB hr]
        rfl
    · cases h
theorem numsW_back : ∀ {ws : List (List UInt8)} {vs : List Int}, numsW ws = some vs → vs.map (fun v => Lib.itoa v) = ws ∧ ∀ v ∈ vs, i64r v
  | [], vs, h => by
    obtain rfl : [] = vs := by simpa [numsW] using h
    exact ⟨rfl, fun v h => by cases h⟩
  | w :: r, vs, h => by
    unfold numsW at h
    cases hw : numW w with
    | none => rw [hw] at h; cases h
    | some v =>
      rw [hw] at h
      cases hr : numsW r with
      | none => rw [hr] at h; simp at h
      | some m =>
        rw [hr] at h
        obtain rfl : v :: m = vs := by simpa using h
        obtain ⟨h1, h2⟩ := numW_is hw
        obtain ⟨h3, h4⟩ := numsW_back hr
        refine ⟨by rw [List.map_cons, h2, h3], fun u hu => ?_⟩
        rcases List.mem_cons.1 hu with rfl | hu
        · exact h1
        · exact h4 u hu
theorem udsW_back : ∀ {ws : List (List UInt8)} {vs : List Int}, udsW ws = some vs → vs.map (fun v => Lib.decDigits v.toNat) = ws ∧ ∀ v ∈ vs, (Lit.int .u64 v).wf = true
  | [], vs, h => by
    obtain rfl : [] = vs := by simpa [udsW] using h
    exact ⟨rfl, fun v h => by cases h⟩
  | w :: r, vs, h => by
    unfold udsW at h
    cases hw : udW w with
    | none => rw [hw] at h; cases h
    | some n =>
      rw [hw] at h
      cases hr : udsW r with
      | none => rw [hr] at h; simp at h
      | some m =>
        rw [hr] at h
        obtain rfl : (n : Int) :: m = vs := by simpa using h
        obtain ⟨h1, h2⟩ := udW_eq hw
        obtain ⟨h3, h4⟩ := udsW_back hr
        refine ⟨by rw [List.map_cons, Int.toNat_natCast, h1, h3], fun u hu => ?_⟩
        rcases List.mem_cons.1 hu with rfl | hu
        · simp [Lit.wf, IntKind.min, IntKind.max, IntKind.signed, IntKind.bits]; omega
        · exact h4 u hu
theorem wsL_back {f : ByteArray} {ws : List (List UInt8)} {vs : List Int} (h : numsW ws = some vs) : (wsL f vs).map (·.data.toList) = f.data.toList :: ws := by
  have e : (vs.map itS).map (·.data.toList) = ws := by
    rw [List.map_map, ← (numsW_back h).1]
    rfl
  unfold wsL
  rw [List.map_cons, e]
/-- All that is known of a call that was read. -/
structure GoodC (c : Cl) (w : List UInt8) (r : List (List UInt8)) : Prop where
  ok : c.ok
  lo : 1 ≤ c.kd
  hi : c.kd ≤ 7
  own : ownC c = c
  wf : ∀ x ∈ c.xs, (Lit.int .u64 x).wf = true
  xs : c.xs.length ≤ r.length
  txt : c.s = ⟨#[]⟩ ∨ ∃ x ∈ r, 2 * c.s.size = x.length
  back : (∀ x ∈ r, x ≠ []) → (wsC c).map (·.data.toList) = w :: r
theorem i64r_small {z : Int} (h : 0 ≤ z ∧ z ≤ 7) : i64r z := ⟨by omega, by omega⟩
theorem numsW_pair {a b : List UInt8} {u v : Int} (h : numsW [a, b] = some [u, v]) : i64r u ∧ i64r v := by
  have h2 := (numsW_back h).2
  exact ⟨h2 u (by simp), h2 v (by simp)⟩
theorem callN_good {w : List UInt8} {r : List (List UInt8)} {c : Cl} (h : callN (w :: r) = some c) : GoodC c w r := by
  have z0 : i64r 0 := i64r_small (by omega)
  change kindN (kdW w) r = some c at h
  rcases kdU_range (w := w) 8 with h0 | ⟨k, h1, h8, hk, hw⟩
  · have : kdW w = 0 := h0
    rw [this] at h
    simp [kindN] at h
  · have hkw : kdW w = (k : Int) := hk
    rw [hkw] at h
    have hkr : i64r (k : Int) := i64r_small (by omega)
    unfold kindN at h
    split at h
    · rename_i hk3
      unfold keyN at h
      split at h
      · rename_i u v hv
        obtain rfl := Option.some.inj h
        have hb := (numsW_back hv).2
        refine ⟨⟨hkr, hb u (by simp), hb v (by simp), z0, z0⟩, by show (1 : Int) ≤ k; omega, by show (k : Int) ≤ 7; omega, ?_, fun x hx => (by cases hx), Nat.zero_le _, .inl rfl, fun _ => ?_⟩
        · unfold ownC; rw [if_pos hk3]
        · unfold wsC; rw [if_pos hk3, wsL_back hv, hw]
      · cases h
    · rename_i hk3
      split at h
      · rename_i hk4
        have hk4' : k = 4 := by omega
        subst hk4'
        have hfin : ∀ s : ByteArray, (s = ⟨#[]⟩ ∨ ∃ x ∈ r, 2 * s.size = x.length) → ((∀ x ∈ r, x ≠ []) → (wsC ⟨4, 0, 0, s, 0, 0, []⟩).map (·.data.toList) = w :: r) → GoodC ⟨4, 0, 0, s, 0, 0, []⟩ w r := fun s h1 h2 =>
          ⟨⟨hkr, z0, z0, z0, z0⟩, by show (1 : Int) ≤ 4; omega, by show (4 : Int) ≤ 7; omega, by unfold ownC; simp, fun x hx => (by cases hx), Nat.zero_le _, h1, h2⟩
        unfold txtN at h
        split at h
        · obtain rfl := Option.some.inj h
          refine hfin _ (.inl rfl) (fun _ => ?_)
          unfold wsC
          simp only [show ¬ ((4 : Int) = 1 ∨ (4 : Int) = 2 ∨ (4 : Int) = 3) from by decide, if_false, if_true]
          (try rw [if_pos (by rfl)])
          (try simp only [List.map_cons, List.map_nil])
          rw [show (wdK 4).data.toList = w from hw]
        · rename_i x
          cases hu : unB x with
          | none => rw [hu] at h; simp at h
          | some l =>
            rw [hu] at h
            obtain rfl := Option.some.inj h
            have hlen := unB_len hu
            refine hfin _ (.inr ⟨x, by simp, by simpa [ByteArray.size] using hlen⟩) (fun hne => ?_)
            have hxn : x ≠ [] := hne x (by simp)
            have hln : ¬ (⟨l.toArray⟩ : ByteArray).data.toList = [] := by
              intro e
              have e2 : l = [] := by simpa using e
              subst e2
              simp at hlen
              exact hxn (List.length_eq_zero_iff.1 hlen.symm)
            unfold wsC
            simp only [show ¬ ((4 : Int) = 1 ∨ (4 : Int) = 2 ∨ (4 : Int) = 3) from by decide, if_false, if_true]
            (try rw [if_neg hln])
            (try simp only [List.map_cons, List.map_nil])
            rw [show (wdK 4).data.toList = w from hw]
            have e3 : hexB ⟨l.toArray⟩ = x := hex_unB hu
            rw [e3]
        · cases h
      · rename_i hk4
        split at h
        · rename_i hk5
          have hk5' : k = 5 := by omega
          subst hk5'
          split at h
          · rename_i hr
            subst hr
            obtain rfl := Option.some.inj h
            refine ⟨⟨hkr, z0, z0, z0, z0⟩, by show (1 : Int) ≤ 5; omega, by show (5 : Int) ≤ 7; omega, by unfold ownC; simp, fun x hx => (by cases hx), Nat.zero_le _, .inl rfl, fun _ => ?_⟩
            unfold wsC
            simp only [show ¬ ((5 : Int) = 1 ∨ (5 : Int) = 2 ∨ (5 : Int) = 3) from by decide, show ¬ (5 : Int) = 4 from by decide, show ¬ (5 : Int) = 6 from by decide, show ¬ (5 : Int) = 7 from by decide, if_false]
            simp only [List.map_cons, List.map_nil]
            rw [show (wdK 5).data.toList = w from hw]
          · cases h
        · rename_i hk5
          split at h
          · rename_i hk67
            unfold ofN at h
            split at h
            · rename_i a b xs
              split at h
              · cases h
              · rename_i h7
                split at h
                · rename_i u v l hn hu
                  obtain rfl := Option.some.inj h
                  obtain ⟨hu1, hv1⟩ := numsW_pair hn
                  obtain ⟨hx1, hx2⟩ := udsW_back hu
                  have hxl := udsW_len hu
                  have n3 : ¬ ((k : Int) = 1 ∨ (k : Int) = 2 ∨ (k : Int) = 3) := hk3
                  refine ⟨⟨hkr, z0, z0, hu1, hv1⟩, by show (1 : Int) ≤ k; omega, by show (k : Int) ≤ 7; omega, ?_, hx2, by show l.length ≤ _; rw [hxl]; simp only [List.length_cons]; omega, .inl rfl, fun _ => ?_⟩
                  · unfold ownC
                    simp only [n3, hk4, if_false]
                    rcases hk67 with h6 | h7'
                    · simp only [h6, if_true]
                    · have hxs : xs = [] := by
                        by_cases hxs : xs = []
                        · exact hxs
                        · exact absurd ⟨h7', hxs⟩ h7
                      subst hxs
                      have : l = [] := List.length_eq_zero_iff.1 (by simpa using hxl)
                      subst this
                      simp only [h7', if_true]
                      simp
                  · unfold wsC
                    simp only [n3, hk4, if_false]
                    rcases hk67 with h6 | h7'
                    · simp only [h6, if_true]
                      rw [List.map_append, wsL_back hn, List.map_map]
                      have e : l.map ((fun x => x.data.toList) ∘ udS) = xs := by rw [← hx1]; rfl
                      rw [e, ← hw, h6]; rfl
                    · have hxs : xs = [] := by
                        by_cases hxs : xs = []
                        · exact hxs
                        · exact absurd ⟨h7', hxs⟩ h7
                      subst hxs
                      have e6 : ¬ (k : Int) = 6 := by omega
                      simp only [e6, h7', if_false, if_true]
                      rw [if_neg (by decide), wsL_back hn, ← hw, h7']
                · cases h
            · cases h
          · cases h
end Go.Proofs.YtoejflnlkapkiaaDoor
/- script.ofHandle. -/
namespace Go.Proofs.YtoejflnlkapkiaaDoor
open Go.ChangeShapes Go.WideShapes Go.ChangeAt Go.RowKit
set_option linter.unusedVariables false

set_option linter.unusedSimpArgs false
def PuOk (l : List UInt8) (e : Ending) : Prop := (∃ u : Nat, Lib.parseUintB 64 l = .ok u ∧ e = .returned (.tuple #[.int .u64 u, .nilIface])) ∨ ((∀ u, Lib.parseUintB 64 l ≠ .ok u) ∧ ∃ v te pe, e = .returned (.tuple #[.int .u64 v, .iface te pe]))
theorem sc_pu (s : ByteArray) (hs : s.size ≤ 100000000) (w : World) (hE : Evs w) : Calls Tryd.prog 76 #[.string s, .int .i64 10, .int .i64 64] w fun e w' => PuOk s.data.toList e ∧ Below w.heap.size w w' := by
  obtain ⟨⟨e2, h2, h2'⟩, ⟨e3, h3, h3'⟩, -⟩ := hE
  cases h : Lib.parseUintB 64 s.data.toList
  case ok v =>
    refine (c_PU_ok s (by omega) v h w).mono ?_
    rintro e w' ⟨rfl, hw⟩
    refine ⟨.inl ⟨v, h, rfl⟩, ?_⟩
    rcases hw with rfl | rfl
    · exact Below.refl _ _
    · exact bw_below _ _ _
  case range =>
    refine (c_PU_range s (by omega) h e3 w h3 h3').mono ?_
    rintro e w' ⟨N, rfl, -, -, hb⟩
    exact ⟨.inr ⟨(fun v hv => by rw [h] at hv; cases hv), _, _, _, rfl⟩, hb⟩
  refine (c_PU_syntax s (by omega) (show _ = Lib.parseUintB 64 [] from h) e2 w h2 h2').mono ?_
  rintro e w' ⟨N, rfl, -, -, hb⟩
  exact ⟨.inr ⟨(fun v hv => by rw [h] at hv; cases hv), _, _, _, rfl⟩, hb⟩
theorem pu_lt {x : List UInt8} {u : Nat} (h : Lib.parseUintB 64 x = .ok u) : u < 18446744073709551616 := by rw [Lib.parseUintB_64] at h; exact Lib.parseMag_lt h
theorem pu_of {x : List UInt8} {n : Nat} (h : udW x = some n) : Lib.parseUintB 64 x = .ok n := by
  obtain ⟨h1, h2⟩ := udW_eq h
  rw [Lib.parseUintB_64, ← h1]; exact pm_dec h2
theorem pu_yes {x : List UInt8} {u : Nat} (h : Lib.parseUintB 64 x = .ok u) (he : Lib.decDigits u = x) : udW x = some u := by rw [← he]; exact udW_dec (pu_lt h)
theorem pu_other {x : List UInt8} {u : Nat} (h : Lib.parseUintB 64 x = .ok u) (he : Lib.decDigits u ≠ x) : udW x = none := by
  cases hu : udW x with
  | none => rfl
  | some n =>
    have h2 := pu_of hu
    rw [h] at h2
    obtain rfl : u = n := by injection h2
    exact absurd (udW_eq hu).1 he
theorem pu_no {x : List UInt8} (h : ∀ u, Lib.parseUintB 64 x ≠ .ok u) : udW x = none := by
  cases hu : udW x with
  | none => rfl
  | some n => exact absurd (pu_of hu) (h n)
theorem sc_res2 {P : Program} {fn : Func} {p a : Tmp} {ty : TypeId} (h : fn.results = #[.cell p ty, .tmp a]) (tmps : Array Value) (w : World) (g : Nat) (t : TypeId) (cs : Array Value) (fr : Nat × Nat) (d : TypeDesc) (x : Value)
    (hp : tmps.getD p undef = .pointer (some ⟨g, 0, none⟩)) (ha : tmps.getD a undef = x) (hg : w.heap[g]? = some (.cells cs t fr))
    (hu : P.underlying ty = some d) (hd : (match d with | .struct _ | .array _ _ => true | _ => false) = true) (hi : (P.info? ty).map (·.size) = some cs.size) :
    (results fn tmps).run P w = .ok (.tuple #[.agg cs, x]) w := by
  have e : tmps[p]?.getD undef = .pointer (some ⟨g, 0, none⟩) := by simpa using hp
  have ea : tmps[a]?.getD undef = x := by simpa using ha
  simp [results, h, e, ea, asAddr, run_loadVar_row w g t ty cs fr d hg hu hd hi]
theorem call_ret2 {fn : Func} {p q : Tmp} (h : fn.results = #[.cell p 49, .tmp q]) (a : Act) (w : World) (g : Nat) (c : Cl) (x : Value) (b : Bool) (hp : a.tmps.getD p undef = .pointer (some ⟨g, 0, none⟩)) (hq : a.tmps.getD q undef = .bool b) (hd : a.defers = [])
    (hg : w.heap[g]? = some (.cells #[.int .i64 c.kd, .int .i64 c.n, .int .i64 c.dir, .string c.s, .int .i64 c.who, .int .i64 c.at', x] 49 (0, 0))) {Q : Ending → World → Prop} (hQ : Q (.returned (.tuple #[c.val x, .bool b])) w) :
    bodyPost Tryd.prog fn Q .ret a w :=
  bodyPost_ret (sc_res2 h _ _ g 49 _ (0, 0) _ _ hp hq hg Tryd.underlying49 rfl (by kernel_rfl)) hd hQ
def zeroCl : Cl := ⟨0, 0, 0, ⟨#[]⟩, 0, 0, []⟩
/-- A call told, or none. -/
def CallR (o : Option Cl) (W : World) (e : Ending) (w' : World) : Prop :=
  ((∃ c xv, o = some c ∧ e = .returned (.tuple #[c.val xv, .bool true]) ∧ Owns w' W.heap.size 78 .u64 xv c.xs) ∨
    (o = none ∧ ∃ c p n k, e = .returned (.tuple #[Cl.val c (.slice p n k), .bool false]))) ∧ Below W.heap.size W w'
theorem own_setB {w : World} {B : Nat} {E : TypeId} {sz : Nat} {v : Value} {n : Nat} {xs : List Value} (h : w.ownsRow B E sz v n xs) {b o : Nat} (hb : b < B) (u : Value) : (w.setCell ⟨b, o, none⟩ u).ownsRow B E sz v n xs := by
  obtain ⟨hl, h | ⟨g, cap, cur, hv, hg, hh, r⟩⟩ := h
  · exact ⟨hl, .inl h⟩
  · exact ⟨hl, .inr ⟨g, cap, cur, hv, hg, by rw [heap_setCell_other _ _ _ _ (by show g ≠ b; omega)]; exact hh, r⟩⟩
theorem own_s7 {w : World} {B : Nat} {E : TypeId} {sz : Nat} {v : Value} {n : Nat} {xs : List Value} (h : w.ownsRow B E sz v n xs) {b : Nat} (hb : b < B) (a0 a1 a2 a3 a4 a5 a6 : Value) : (s7 w b a0 a1 a2 a3 a4 a5 a6).ownsRow B E sz v n xs := by
  unfold s7
  exact own_setB (own_setB (own_setB (own_setB (own_setB (own_setB (own_setB h hb _) hb _) hb _) hb _) hb _) hb _) hb _
theorem own_lim {w : World} {B B' : Nat} {E : TypeId} {sz : Nat} {v : Value} {n : Nat} {xs : List Value} (h : w.ownsRow B E sz v n xs) (hB : B' ≤ B) : w.ownsRow B' E sz v n xs := by
  obtain ⟨hl, h | ⟨g, cap, cur, hv, hg, r⟩⟩ := h
  · exact ⟨hl, .inl h⟩
  · exact ⟨hl, .inr ⟨g, cap, cur, hv, Nat.le_trans hB hg, r⟩⟩
theorem RowS.take2 {w : World} {p : Option Addr} {c n : Nat} {a b : List UInt8} {r : List (List UInt8)} (hn : n = (a :: b :: r).length) (h : RowS w (.slice p n c) (a :: b :: r)) : RowS w (.slice p 2 c) [a, b] := by
  subst hn
  obtain ⟨p', c', hv, hc, hx⟩ := h
  simp only [Value.slice.injEq] at hv
  obtain ⟨rfl, -, rfl⟩ := hv
  refine ⟨_, _, rfl, by have h2 : (a :: b :: r).length = r.length + 2 := rfl; show 2 ≤ _; omega, .inr ?_⟩
  rcases hx with hx | ⟨g, o, rfl, hg, hx⟩
  · cases hx
  · refine ⟨g, o, rfl, hg, fun j x hj => hx j x ?_⟩
    match j, hj with
    | 0, hj => exact hj
    | 1, hj => exact hj
theorem frz7 {w : World} {b : Nat} {T : TypeId} {x0 x1 x2 x3 x4 x5 x6 : Value} (h : w.heap[b]? = some (.cells #[x0, x1, x2, x3, x4, x5, x6] T (0, 0))) :
    w.frozen? ⟨b, 0, none⟩ = false ∧ w.frozen? ⟨b, 1, none⟩ = false ∧ w.frozen? ⟨b, 2, none⟩ = false ∧ w.frozen? ⟨b, 3, none⟩ = false ∧ w.frozen? ⟨b, 4, none⟩ = false ∧ w.frozen? ⟨b, 5, none⟩ = false ∧ w.frozen? ⟨b, 6, none⟩ = false :=
  ⟨frozen_of_row w b 0 _ _ h, frozen_of_row w b 1 _ _ h, frozen_of_row w b 2 _ _ h, frozen_of_row w b 3 _ _ h, frozen_of_row w b 4 _ _ h, frozen_of_row w b 5 _ _ h, frozen_of_row w b 6 _ _ h⟩
/-- Two boxes of calls. -/
def Bx2 (W : World) (k u v : Int) (xv : Value) (w : World) : Prop :=
  w.heap[W.heap.size]? = some (.cells #[.int .i64 k, .int .i64 0, .int .i64 0, .string ⟨#[]⟩, .int .i64 u, .int .i64 v, xv] 49 (0, 0)) ∧
  w.heap[W.heap.size + 1]? = some (.cells #[.int .i64 0, .int .i64 0, .int .i64 0, .string ⟨#[]⟩, .int .i64 0, .int .i64 0, .slice none 0 0] 49 (0, 0)) ∧ W.heap.size + 2 ≤ w.heap.size ∧ Below W.heap.size W w
theorem Bx2.next {W w w' : World} {k u v : Int} {xv : Value} (h : Bx2 W k u v xv w) (hb : Below (W.heap.size + 2) w w') : Bx2 W k u v xv w' :=
  ⟨(hb.block _ (by omega)).trans h.1, (hb.block _ (by omega)).trans h.2.1, Nat.le_trans h.2.2.1 hb.size, h.2.2.2.trans (hb.mono (by omega))⟩
theorem Bx2.below {W w w' : World} {k u v : Int} {xv : Value} (h : Bx2 W k u v xv w) (hb : Below w.heap.size w w') : Bx2 W k u v xv w' := h.next (hb.mono h.2.2.1)
def oldCl (k : Int) : Cl := ⟨k, 0, 0, ⟨#[]⟩, 0, 0, []⟩
/-- What is told where there is none. -/
theorem CallR.bad {o : Option Cl} {W w : World} {k u v : Int} {xv : Value} (ho : o = none) (h : Bx2 W k u v xv w) : CallR o W (.returned (.tuple #[zeroCl.val (.slice none 0 0), .bool false])) (s7 w (W.heap.size + 1) (.int .i64 0) (.int .i64 0) (.int .i64 0) (.string ⟨#[]⟩) (.int .i64 0) (.int .i64 0) (.slice none 0 0)) :=
  ⟨.inr ⟨ho, zeroCl, none, 0, 0, rfl⟩, s7_below h.2.2.2 (by omega)⟩
theorem Bx2.uv {W w : World} {k u v a b : Int} {xv : Value} (h : Bx2 W k u v xv w) : Bx2 W k a b xv ((w.setCell ⟨W.heap.size, 4, none⟩ (.int .i64 a)).setCell ⟨W.heap.size, 5, none⟩ (.int .i64 b)) := by
  refine ⟨?_, ?_, by simpa using h.2.2.1, ((h.2.2.2.setCell (p := ⟨W.heap.size, 4, none⟩) (Nat.le_refl _) _).setCell (p := ⟨W.heap.size, 5, none⟩) (Nat.le_refl _) _)⟩
  · have h1 := row_setC (o := 4) h.1 (.int .i64 a)
    exact row_setC (o := 5) h1 (.int .i64 b)
  · rw [heap_setCell_other _ _ _ _ (by show W.heap.size + 1 ≠ W.heap.size; omega), heap_setCell_other _ _ _ _ (by show W.heap.size + 1 ≠ W.heap.size; omega)]
    exact h.2.1
theorem Bx2.x {W w : World} {k u v : Int} {xv xv' : Value} (h : Bx2 W k u v xv w) : Bx2 W k u v xv' (w.setCell ⟨W.heap.size, 6, none⟩ xv') := by
  refine ⟨row_setC (o := 6) h.1 xv', ?_, by simpa using h.2.2.1, h.2.2.2.setCell (p := ⟨W.heap.size, 6, none⟩) (Nat.le_refl _) _⟩
  rw [heap_setCell_other _ _ _ _ (by show W.heap.size + 1 ≠ W.heap.size; omega)]
  exact h.2.1
theorem udS_nat (u : Nat) : udS (u : Int) = ⟨(Lib.decDigits u).toArray⟩ := by unfold udS; rw [Int.toNat_natCast]
set_option maxRecDepth 100000 in
set_option maxHeartbeats 16000000 in
theorem sc_ofHandle (k : Int) (hk : k = 6 ∨ k = 7) (v : Value) (r : List (List UInt8)) (W : World) (h : RowS W v r) (hn : r.length ≤ 1000000) (hl : ∀ x ∈ r, x.length ≤ 1000000) (hE : Evs W) (hT : Lib.TabIs Tryd.prog W "internal/strconv.uint64pow10" .u64 Lib.pow10Tab) :
    Calls Tryd.prog 60 #[Cl.val (oldCl k) (.slice none 0 0), v] W (CallR (ofN k r) W) := by
  have HR := Lib.hid h
  obtain ⟨p, c, rfl, hc, hx⟩ := h
  obtain ⟨w0, hw0, r0, hB0, hs0⟩ := boxG W #[.int .i64 k, .int .i64 0, .int .i64 0, .string ⟨#[]⟩, .int .i64 0, .int .i64 0, .slice none 0 0] 49
  obtain ⟨w1, hw1, r1, hB1, hs1⟩ := boxG w0 #[.int .i64 0, .int .i64 0, .int .i64 0, .string ⟨#[]⟩, .int .i64 0, .int .i64 0, .slice none 0 0] 49
  have hB01 := hB0.trans (hB1.mono hB0.size)
  rw [hs0] at r1
  have r10 := (hB1.block _ (by omega)).trans r0
  have BX := Lib.hid (show Bx2 W k 0 0 (.slice none 0 0) w1 from ⟨r10, r1, by omega, hB01⟩)
  have HX := Lib.hid hx
  have HN := Lib.hid hn
  have HL := Lib.hid hl
  have HE0 := Lib.hid hE
  have HT0 := Lib.hid hT
  have HE := Lib.hid (hE.below hB01)
  have HT_ := Lib.hid (pow10_bel hT hB01)
  have HK := Lib.hid hk
  obtain ⟨n0, n1, n2, n3, n4, n5, n6⟩ := cells7 r1
  obtain ⟨g0, g1, g2, g3, g4, g5, g6⟩ := frz7 r1
  obtain ⟨m0, m1, m2, m3, m4, m5, m6⟩ := cells7 r10
  obtain ⟨f0, f1, f2, f3, f4, f5, f6⟩ := frz7 r10
  unfold oldCl Cl.val
  simp only
  by_cases h2 : r.length < 2
  · have d1 : decide ((r.length : Int) < 2) = true := decide_eq_true (by omega)
    have HNO := Lib.hid (show ofN k r = none by
      match r, h2 with
      | [], _ => rfl
      | [_], _ => rfl
      | _ :: _ :: _, h => simp only [List.length_cons] at h; omega)
    clear hn hl hx hc r0 r1 r10 hB0 hB1 hB01 hs1 hE hT hk h2
    go_enter Tryd.func60, Tryd.ntmps60
    go_wp2_with fail
    refine call_ret2 (c := zeroCl) rfl _ _ (W.heap.size + 1) (.slice none 0 0) false rfl rfl rfl (s7_row BX.out.2.1) ?_
    exact CallR.bad HNO.out BX.out
  · obtain ⟨x, y, xs, rfl⟩ : ∃ x y xs, r = x :: y :: xs := by
      match r, h2 with
      | x :: y :: xs, _ => exact ⟨x, y, xs, rfl⟩
      | [], h => simp at h
      | [_], h => simp at h
    obtain ⟨n, hnl⟩ : ∃ n, (x :: y :: xs).length = n := ⟨_, rfl⟩
    have HXL := Lib.hid (show n = xs.length + 2 by rw [← hnl]; simp)
    have HR2 := Lib.hid (RowS.take2 (c := c) hnl.symm (by rw [← hnl]; exact HR.out))
    rw [hnl] at h2 hc ⊢
    have d1 : decide ((n : Int) < 2) = false := decide_eq_false (by omega)
    have hc2 : 2 ≤ c := by omega
    have hcc : ((2 : Nat) : Int) ≤ (c : Int) := by omega
    have hn2i : (2 : Int) ≤ (n : Int) := by omega
    clear hn hl hx r0 r1 r10 hB0 hB1 hB01 hs1 hE hT hk hnl h2
    by_cases h7 : k = 7 ∧ 2 < n
    · obtain ⟨h7, hn2⟩ := h7
      have e7 : (k == 7) = true := by simp [h7]
      have d2 : decide ((n : Int) > 2) = true := decide_eq_true (by omega)
      have d2' : decide ((2 : Int) < (n : Int)) = true := decide_eq_true (by omega)
      have HNO := Lib.hid (show ofN k (x :: y :: xs) = none by
        have hne : xs ≠ [] := by intro e; have := HXL.out; rw [e] at this; simp at this; omega
        show (if k = 7 ∧ xs ≠ [] then none else _) = _
        rw [if_pos ⟨h7, hne⟩])
      clear h7 hn2
      go_enter Tryd.func60, Tryd.ntmps60
      go_wp2_with fail
      refine call_ret2 (c := zeroCl) rfl _ _ (W.heap.size + 1) (.slice none 0 0) false rfl rfl rfl (s7_row BX.out.2.1) ?_
      exact CallR.bad HNO.out BX.out
    · have IC := Lib.hid (sc_ints (.slice p 2 c) [x, y] w1 (HR2.out.below BX.out.2.2.2) (by simp) (fun z hz => by
        refine Nat.le_trans (HL.out z ?_) (by omega)
        simp only [List.mem_cons, List.not_mem_nil, or_false] at hz ⊢
        rcases hz with h | h <;> simp [h]) HE.out HT_.out)
      have HOF := Lib.hid (show ofN k (x :: y :: xs) = match numsW [x, y], udsW xs with | some [u, v], some l => some ⟨k, 0, 0, ⟨#[]⟩, u, v, l⟩ | _, _ => none by
        have hne : ¬ (k = 7 ∧ xs ≠ []) := by
          rintro ⟨e, he⟩
          refine h7 ⟨e, ?_⟩
          have := HXL.out
          have := List.length_pos_iff.2 he
          omega
        show (if k = 7 ∧ xs ≠ [] then none else _) = _
        rw [if_neg hne]
        rfl)
      have e7 : (k == 7) = decide (k = 7) := by by_cases h : k = 7 <;> simp [h]
      have H7 := Lib.hid h7
      have hcase : ((k == 7) = true ∧ decide ((n : Int) > 2) = false ∧ decide ((2 : Int) < (n : Int)) = false) ∨ (k == 7) = false := by
        by_cases hk7 : k = 7
        · have hd : decide ((2 : Int) < (n : Int)) = false := decide_eq_false (by have h := H7.out; intro h3; exact h ⟨hk7, by omega⟩)
          exact .inl ⟨by simp [hk7], hd, hd⟩
        · exact .inr (by simp [hk7])
      clear h7 e7
      rcases hcase with ⟨e7', hd2, hd2'⟩ | e7'
      all_goals
        go_enter Tryd.func60, Tryd.ntmps60
        go_wp2_with fail
        refine IC.out.mono ?_
        rintro e w2 ⟨hi, hb2⟩
        have BX2 := Lib.hid (BX.out.below hb2)
        have HO2 := Lib.hid hb2
        have HE2 := Lib.hid (HE.out.below hb2)
        have HT2 := Lib.hid (pow10_bel HT_.out hb2)
        obtain ⟨n0', n1', n2', n3', n4', n5', n6'⟩ := cells7 BX2.out.2.1
        obtain ⟨g0', g1', g2', g3', g4', g5', g6'⟩ := frz7 BX2.out.2.1
        obtain ⟨m0', m1', m2', m3', m4', m5', m6'⟩ := cells7 BX2.out.1
        obtain ⟨f0', f1', f2', f3', f4', f5', f6'⟩ := frz7 BX2.out.1
        clear hb2 n0 n1 n2 n3 n4 n5 n6 g0 g1 g2 g3 g4 g5 g6 m0 m1 m2 m3 m4 m5 m6 f0 f1 f2 f3 f4 f5 f6
        rcases hi with ⟨vs, u, hv, rfl, ho⟩ | ⟨hv, rfl⟩
        · obtain ⟨a, b, rfl⟩ := numsW_two hv
          have HV := Lib.hid hv
          obtain ⟨q, cq, rfl, hrd, -, -⟩ := ho.shape
          rcases hrd with hrd | ⟨bq, oq, rfl, hbq, hcq⟩
          · cases hrd
          have z0 := hcq 0 (by simp)
          have z1 := hcq 1 (by simp)
          simp only [List.getD_cons_zero, List.getD_cons_succ, Nat.add_zero] at z0 z1
          have HBQ := Lib.hid (World.ownsRow.lt ho bq rfl).1
          clear ho hv hcq hbq
          go_wp2_with fail
          go_still_tail 8, (by kernel_rfl)
          change wpList _ _ _ _ _ w2.drew
          obtain ⟨wd, hwd⟩ : ∃ wd, w2.drew = wd := ⟨_, rfl⟩
          have BXd := Lib.hid (show Bx2 W k 0 0 (.slice none 0 0) wd by rw [← hwd]; exact BX2.out.below (Below.refl _ _).drew)
          have z0d : wd.cell? ⟨bq, oq, none⟩ = some (.int .i64 a) := by rw [← hwd]; exact z0
          have z1d : wd.cell? ⟨bq, oq + 1, none⟩ = some (.int .i64 b) := by rw [← hwd]; exact z1
          rw [hwd]
          clear hwd n0' n1' n2' n3' n4' n5' n6' g0' g1' g2' g3' g4' g5' g6' m0' m1' m2' m3' m4' m5' m6' f0' f1' f2' f3' f4' f5' f6' z0 z1
          obtain ⟨f0', f1', f2', f3', f4', f5', f6'⟩ := frz7 BXd.out.1
          obtain ⟨m0', m1', m2', m3', m4', m5', m6'⟩ := cells7 BXd.out.1
          go_upto_region 7 with fail
          obtain ⟨w3, hw3⟩ : ∃ w3, ((wd.setCell ⟨W.heap.size, 4, none⟩ (.int .i64 a)).setCell ⟨W.heap.size, 5, none⟩ (.int .i64 b)) = w3 := ⟨_, rfl⟩
          have BX3 := Lib.hid (show Bx2 W k a b (.slice none 0 0) w3 by rw [← hw3]; exact BXd.out.uv)
          rw [hw3]
          clear hw3 m0' m1' m2' m3' m4' m5' m6' f0' f1' f2' f3' f4' f5' f6' z0d z1d
          by_cases hc3 : c = 2
          · have hxs : xs = [] := List.length_eq_zero_iff.1 (by have := HXL.out; omega)
            have hn2 : n = 2 := by have := HXL.out; rw [hxs] at this; simpa using this
            have HFIN := Lib.hid (show ofN k (x :: y :: xs) = some ⟨k, 0, 0, ⟨#[]⟩, a, b, []⟩ by
              rw [HOF.out, HV.out, hxs]; rfl)
            subst hxs hn2 hc3
            obtain ⟨n0', n1', n2', n3', n4', n5', n6'⟩ := cells7 BX3.out.2.1
            obtain ⟨g0', g1', g2', g3', g4', g5', g6'⟩ := frz7 BX3.out.2.1
            obtain ⟨c0, c1, c2, c3, c4, c5, c6⟩ := cells7 BX3.out.1
            go_wp2_with fail
            refine wp_loop_rounds 1 ?_
            rw [rounds_succ]
            go_wp2_with fail
            refine call_ret2 (c := ⟨k, 0, 0, ⟨#[]⟩, a, b, []⟩) rfl _ _ (W.heap.size + 1) (.slice none 0 0) true rfl rfl rfl (s7_row BX3.out.2.1) ?_
            exact ⟨.inl ⟨_, _, HFIN.out, rfl, Owns.nil _ _ _ _⟩, s7_below BX3.out.2.2.2 (by omega)⟩
          rcases HX.out with hx | ⟨gb, go, hp, hgb, hcell⟩
          · cases hx
          subst hp
          have HCE := Lib.hid (fun (q : Nat) (z : List UInt8) (hz : xs[q]? = some z) (w : World) (h : Below W.heap.size W w) => (show w.cell? ⟨gb, go + 2 + q, none⟩ = some (.string ⟨z.toArray⟩) from by
            have h1 := hcell (q + 2) z (by simpa using hz)
            have h2 := (h.cell (p := ⟨gb, go + (q + 2), none⟩) hgb).trans h1
            have e : go + 2 + q = go + (q + 2) := by omega
            rw [e]; exact h2))
          clear hcell hgb
          have hsub : (n : Int) - 2 = ((xs.length : Nat) : Int) := by have := HXL.out; omega
          have hnsub : n - 2 = xs.length := by have := HXL.out; omega
          go_wp2_with fail
          go_loopw [9, 10, 11, 46] (fun _ _ _ j wr => ∃ (q : Nat) (vs : List Int) (xv : Value), j = .int .i64 q ∧ Hid (q ≤ xs.length) ∧ Hid (udsW (xs.take q) = some vs) ∧ Hid (Owns wr (W.heap.size + 2) 78 .u64 xv vs) ∧ Hid (Bx2 W k a b xv wr)) (fun _ _ _ j _ => xs.length - (intOf j).toNat)
          case atStart => exact ⟨0, [], _, rfl, Lib.hid (Nat.zero_le _), Lib.hid rfl, Lib.hid (Owns.nil _ _ _ _), BX3⟩
          case round =>
            obtain ⟨q, vs, xv, rfl, HQ, HVS, HO, HBX⟩ := hrel
            obtain ⟨x1, rfl⟩ : ∃ w, w = wr := ⟨_, rfl⟩
            by_cases hq : q < xs.length
            · obtain ⟨z, hz⟩ : ∃ z, xs[q]? = some z := ⟨_, List.getElem?_eq_getElem hq⟩
              have hc1 := HCE.out q z hz x1 HBX.out.2.2.2
              have hqi : (q : Int) < (xs.length : Int) := by omega
              have hq0 : (0 : Int) ≤ (q : Int) := by omega
              have HQL := Lib.hid hq
              have HZ := Lib.hid hz
              have NX : xs.length ≤ 1000000 := by have h1 := HN.out; simp only [List.length_cons] at h1; omega
              have WK := Lib.hid (show wrap64 ((q : Int) + 1) = ((q + 1 : Nat) : Int) by simp only [wrap64]; omega)
              have HVL := Lib.hid (show vs.length < 17592186044415 by
                have h1 := udsW_len HVS.out
                rw [List.length_take] at h1
                omega)
              have PU := Lib.hid (sc_pu ⟨z.toArray⟩ (by have h1 := HL.out z (by simp [List.mem_of_getElem? hz]); simp [ByteArray.size]; omega) x1 (HE0.out.below HBX.out.2.2.2))
              have HST := Lib.hid (fun n (h : udW z = some n) => udsW_take HVS.out hz h)
              have HNOZ := Lib.hid (fun (h : udW z = none) => (show ofN k (x :: y :: xs) = none by rw [HOF.out, HV.out, udsW_none hz h]))
              clear hq hz NX
              go_wp2_with fail
              refine PU.out.mono ?_
              rintro e x2 ⟨hpu, hb2⟩
              have BXa := Lib.hid (HBX.out.below hb2)
              have HOa := Lib.hid (HO.out.below hb2)
              clear hb2
              rcases hpu with ⟨u, hu, rfl⟩ | ⟨hno, v, te, pe, rfl⟩
              · have FM := sc_fmt u (pu_lt hu) x2 (pow10_bel HT0.out BXa.out.2.2.2)
                rw [udS_nat] at FM
                have FM := Lib.hid FM
                have HU := Lib.hid hu
                clear hu
                go_wp2_with fail
                refine FM.out.mono ?_
                rintro e x3 ⟨rfl, hb3⟩
                have BXb := Lib.hid (BXa.out.below hb3)
                have HOb := Lib.hid (HOa.out.below hb3)
                clear hb3
                by_cases heq : Lib.decDigits u = z
                · have HUD := Lib.hid (HST.out u (pu_yes HU.out heq))
                  have hq2 : ((⟨(Lib.decDigits u).toArray⟩ : ByteArray).toList == (⟨z.toArray⟩ : ByteArray).toList) = true := by rw [heq]; simp
                  have hq3 : (Lib.decDigits u == z) = true := by rw [heq]; simp
                  obtain ⟨c0, c1, c2, c3, c4, c5, c6⟩ := cells7 BXb.out.1
                  obtain ⟨f0, f1, f2, f3, f4, f5, f6⟩ := frz7 BXb.out.1
                  have hsz := BXb.out.2.2.1
                  have hkn := HVL.out
                  clear heq
                  go_upto_region 13 with fail
                  go_wp2_with (at_builtin; (refine append_one (T := 47) (E := 78) (k := .u64) (B := W.heap.size + 2) (v := xv) (ys := vs) (y := (u : Int)) Tryd.underlying47 info_u64 rfl _ _ rfl rfl HOb.out rfl hsz hkn ?_); intro v4 x4 hO4 hb4; obtain ⟨p4, k4, hv4⟩ : ∃ p4 k4, v4 = .slice p4 (vs.length + 1) k4 := (by obtain ⟨p4, k4, hv4, -, -, -⟩ := hO4.shape; exact ⟨p4, k4, by rw [hv4, List.length_append]; rfl⟩); subst hv4; have HO4 := Lib.hid hO4; have BXc := Lib.hid (BXb.out.next hb4); clear hO4 hb4; have c6' := (cells7 BXc.out.1).2.2.2.2.2.2; have f6' := (frz7 BXc.out.1).2.2.2.2.2.2)
                  go_roundw
                  case rel => exact ⟨q + 1, vs ++ [(u : Int)], .slice p4 (vs.length + 1) k4, by first | rw [WK.out] | simp, Lib.hid HQL.out, Lib.hid HUD.out, Lib.hid (own_setB HO4.out (by omega) _), Lib.hid BXc.out.x⟩
                  case measure => first | exact sc_meas' xs.length q HQL.out | (rw [WK.out]; exact sc_meas xs.length q HQL.out)
                · have HFIN := Lib.hid (HNOZ.out (pu_other HU.out heq))
                  have hq2 : ((⟨(Lib.decDigits u).toArray⟩ : ByteArray).toList == (⟨z.toArray⟩ : ByteArray).toList) = false := by
                    rw [Lib.toList_data, Lib.toList_data]
                    exact beq_eq_false_iff_ne.2 heq
                  have hq3 : (Lib.decDigits u == z) = false := beq_eq_false_iff_ne.2 heq
                  obtain ⟨n0', n1', n2', n3', n4', n5', n6'⟩ := cells7 BXb.out.2.1
                  obtain ⟨g0', g1', g2', g3', g4', g5', g6'⟩ := frz7 BXb.out.2.1
                  clear heq
                  go_wp2_with fail
                  refine call_ret2 (c := zeroCl) rfl _ _ (W.heap.size + 1) (.slice none 0 0) false rfl rfl rfl (s7_row BXb.out.2.1) ?_
                  exact CallR.bad HFIN.out BXb.out
              · have HFIN := Lib.hid (HNOZ.out (pu_no hno))
                obtain ⟨n0', n1', n2', n3', n4', n5', n6'⟩ := cells7 BXa.out.2.1
                obtain ⟨g0', g1', g2', g3', g4', g5', g6'⟩ := frz7 BXa.out.2.1
                clear hno
                go_wp2_with fail
                refine call_ret2 (c := zeroCl) rfl _ _ (W.heap.size + 1) (.slice none 0 0) false rfl rfl rfl (s7_row BXa.out.2.1) ?_
                exact CallR.bad HFIN.out BXa.out
            · have h9 : q = xs.length := by have := HQ.out; omega
              subst h9
              have hqi : ¬ (xs.length : Int) < (xs.length : Int) := by omega
              have HFIN := Lib.hid (show ofN k (x :: y :: xs) = some ⟨k, 0, 0, ⟨#[]⟩, a, b, vs⟩ by
                have h1 := HVS.out
                rw [List.take_length] at h1
                rw [HOF.out, HV.out, h1])
              obtain ⟨p1, k1, rfl, -, -, -⟩ := HO.out.shape
              obtain ⟨n0', n1', n2', n3', n4', n5', n6'⟩ := cells7 HBX.out.2.1
              obtain ⟨g0', g1', g2', g3', g4', g5', g6'⟩ := frz7 HBX.out.2.1
              obtain ⟨c0, c1, c2, c3, c4, c5, c6⟩ := cells7 HBX.out.1
              go_wp2_with fail
              refine call_ret2 (c := ⟨k, 0, 0, ⟨#[]⟩, a, b, vs⟩) rfl _ _ (W.heap.size + 1) (.slice p1 vs.length k1) true rfl rfl rfl (s7_row HBX.out.2.1) ?_
              exact ⟨.inl ⟨_, _, HFIN.out, rfl, own_lim (own_s7 HO.out (by omega) _ _ _ _ _ _ _) (by omega)⟩, s7_below HBX.out.2.2.2 (by omega)⟩
        · have HNO := Lib.hid (show ofN k (x :: y :: xs) = none by rw [HOF.out, hv])
          clear hv
          go_wp2_with fail
          refine call_ret2 (c := zeroCl) rfl _ _ (W.heap.size + 1) (.slice none 0 0) false rfl rfl rfl (s7_row BX2.out.2.1) ?_
          exact CallR.bad HNO.out BX2.out
end Go.Proofs.YtoejflnlkapkiaaDoor
