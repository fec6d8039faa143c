/- Put together by program (merge2.py): Shc Sqa Ownm Scg Sch. -/
import Derived.Deep.AppendSrc
import Derived.Lib.SliceRun
import Derived.Deep.RegionWith
import Derived.Test.YtoejflnlkapkiaaDoorSy5
import Derived.Test.YtoejflnlkapkiaaDoorSy6
import Derived.Test.YtoejflnlkapkiaaDoorSy8
import Derived.Test.YtoejflnlkapkiaaDoorSy11
/- Reference 42's words: the walk. -/
namespace Go.Proofs.YtoejflnlkapkiaaDoor
open Go.ChangeShapes Go.WideShapes Go.ChangeAt Go.RowKit
set_option linter.unusedVariables false
set_option linter.unusedSimpArgs false
theorem wu64 (z : Int) : IntKind.u64.wrap z = z % 18446744073709551616 := by rw [IntKind.wrap_u64]
theorem wst_int (a c : Nat) (ha : a < 18446744073709551616) (hc : c < 256) : IntKind.u64.wrap (IntKind.u64.wrap (IntKind.u64.wrap (10 * (a : Int)) + (c : Int)) - 48) = ((wst a c : Nat) : Int) := by
  rw [wst_eq, wu64, wu64, wu64]
  omega
theorem wv_step {x : List UInt8} {k : Nat} {c : UInt8} (h : x[k]? = some c) : wv 0 (x.take (k + 1)) = wst (wv 0 (x.take k)) c.toNat := by
  rw [List.take_add_one, h]; exact wv_snoc _ _ _
theorem ud_fin {x : List UInt8} {s : ByteArray} (h : s.data.toList = Lib.decDigits (wv 0 x)) : (s.toList == x) = (udW x).isSome := by
  rw [Lib.toList_data, h]
  unfold udW
  by_cases he : Lib.decDigits (wv 0 x) = x
  · rw [if_pos he, beq_iff_eq.2 he]; rfl
  · rw [if_neg he, beq_eq_false_iff_ne.2 he]; rfl
set_option maxRecDepth 100000 in
set_option maxHeartbeats 8000000 in
theorem r42_words (v : Value) (ws : List (List UInt8)) (W : World) (h : RowS W v ws) (hn : ws.length ≤ 1000000) (hl : ∀ x ∈ ws, x.length ≤ 100000000) :
    Calls Tryd.prog 63 #[v] W fun e w' => ((∃ vs u, udsW ws = some vs ∧ e = .returned (.tuple #[u, .bool true]) ∧ Owns w' W.heap.size 78 .u64 u vs) ∨ (udsW ws = none ∧ e = .returned (.tuple #[.slice none 0 0, .bool false]))) ∧ Below W.heap.size W w' := by
  obtain ⟨p, c, rfl, hc, hx⟩ := h
  have HX := Lib.hid hx
  have HN := Lib.hid hn
  have HL := Lib.hid hl
  clear hx hn hl hc
  go_enter Tryd.func63, Tryd.ntmps63
  go_wp2_with fail
  go_loopw [4, 5, 6, 7] (fun u j _ _ wr => ∃ (k : Nat) (vs : List Int), j = .int .i64 k ∧ Hid (k ≤ ws.length) ∧ Hid (udsW (ws.take k) = some vs) ∧ Hid (Owns wr W.heap.size 78 .u64 u vs) ∧ Hid (Below W.heap.size W wr)) (fun _ j _ _ _ => ws.length - (intOf j).toNat)
  case atStart => exact ⟨0, [], rfl, Lib.hid (Nat.zero_le _), Lib.hid rfl, Lib.hid (Owns.nil _ _ _ _), Lib.hid (Below.refl _ _)⟩
  case round =>
    obtain ⟨k, vs, rfl, HK, HV, HO, HB⟩ := hrel
    obtain ⟨x1, rfl⟩ : ∃ w, w = wr := ⟨_, rfl⟩
    by_cases hk : k < ws.length
    · obtain ⟨x, hxk⟩ : ∃ x, ws[k]? = some x := ⟨_, List.getElem?_eq_getElem hk⟩
      rcases HX.out with h0 | ⟨b, o, rfl, hb, hcell⟩
      · rw [h0] at hk; cases hk
      have hc1 : x1.cell? ⟨b, o + k, none⟩ = some (.string ⟨x.toArray⟩) := (HB.out.cell (p := ⟨b, o + k, none⟩) hb).trans (hcell k x hxk)
      have HKL := Lib.hid hk
      have hkk : (k : Int) < (ws.length : Int) := by omega
      have hk0 : (0 : Int) ≤ (k : Int) := by omega
      have WK := Lib.hid (show wrap64 ((k : Int) + 1) = ((k + 1 : Nat) : Int) by have := HN.out; simp only [wrap64]; omega)
      have HXL := Lib.hid (show x.length ≤ 100000000 from HL.out x (List.mem_of_getElem? hxk))
      have hxs : (⟨x.toArray⟩ : ByteArray).size = x.length := by simp [ByteArray.size]
      have HLT := Lib.hid (fun q : Nat => wv_lt (x.take q) 0 (by omega))
      have HXK := Lib.hid hxk
      have HCE := Lib.hid hcell
      have HBB := Lib.hid hb
      clear hxk hcell hb hk
      go_wp2_with fail
      go_loopw [6, 7] (fun y m wr => ∃ q : Nat, y = .int .u64 (wv 0 (x.take q) : Nat) ∧ m = .int .i64 q ∧ Hid (q ≤ x.length) ∧ x1 = wr) (fun _ m _ => x.length - (intOf m).toNat)
      case atStart => exact ⟨0, rfl, rfl, Lib.hid (Nat.zero_le _), rfl⟩
      case round =>
        obtain ⟨q, rfl, rfl, HQ, rfl⟩ := hrel
        by_cases hq : q < x.length
        · have hqi : (q : Int) < (x.length : Int) := by omega
          have hq0 : (0 : Int) ≤ (q : Int) := by omega
          have HQL := Lib.hid hq
          have hqs : q < (⟨x.toArray⟩ : ByteArray).size := by rw [hxs]; exact hq
          obtain ⟨y, hy⟩ : ∃ y, x[q]? = some y := ⟨_, List.getElem?_eq_getElem hq⟩
          have hyy : (⟨x.toArray⟩ : ByteArray)[q]'hqs = y := by
            have h2 := List.getElem?_eq_some_iff.1 hy
            rw [← h2.2]; rfl
          have HST := Lib.hid (wv_step hy)
          obtain ⟨a, ha⟩ : ∃ a, wv 0 (x.take q) = a := ⟨_, rfl⟩
          have haL : a < 18446744073709551616 := by rw [← ha]; exact HLT.out q
          rw [ha] at HST
          rw [ha]
          have hyl : y.toNat < 256 := UInt8.toNat_lt _
          have WQ := Lib.hid (show wrap64 ((q : Int) + 1) = ((q + 1 : Nat) : Int) by have := HXL.out; simp only [wrap64]; omega)
          have WS := Lib.hid (wst_int a y.toNat haL hyl)
          go_wp2_with fail
          go_roundw
          case rel => exact ⟨q + 1, by rw [HST.out, ← WS.out], by first | rw [WQ.out] | simp, Lib.hid HQL.out, by first | rfl | trivial⟩
          case measure => first | exact sc_meas' x.length q HQL.out | (rw [WQ.out]; exact sc_meas x.length q HQL.out)
        · have h9 : q = x.length := by have := HQ.out; omega
          subst h9
          have hqi : ¬ (x.length : Int) < (x.length : Int) := by omega
          rw [List.take_length]
          obtain ⟨a, ha⟩ : ∃ a, wv 0 x = a := ⟨_, rfl⟩
          have haL : a < 18446744073709551616 := by rw [← ha]; have h := HLT.out x.length; rw [List.take_length] at h; exact h
          have HA := Lib.hid ha
          have HAL := Lib.hid haL
          rw [ha]
          have WD := Lib.hid (fun w : World => r42_word a haL w)
          have HDR := Lib.hid (show ∀ s : ByteArray, s.data.toList = Lib.decDigits a → (s.toList == x) = (udW x).isSome from fun s hs => ud_fin (by rw [ha]; exact hs))
          clear ha haL hq
          go_wp2_with fail
          go_region_with (go_at_call 44; go_loud (with_reducible refine (WD.out _).mono ?_; rintro e x2 ⟨rfl, s, hs, rfl⟩; have HF := Lib.hid (HDR.out s hs); clear hs))
          all_goals
            have HBy := Lib.hid (show Below W.heap.size W x1.drew from HB.out.drew)
            have HOy := Lib.hid (HO.out.below ((Below.refl x1.heap.size x1).drew))
            generalize x1.drew = y1 at *
            cases hw : udW x with
            | none =>
              have HFIN := Lib.hid (udsW_none HXK.out hw)
              have hb1 : (s.toList == x) = false := by rw [HF.out, hw]; rfl
              have hb3 : (!(s.toList == x)) = true := by rw [hb1]; rfl
              have hb2 : (s.toList == (⟨x.toArray⟩ : ByteArray).toList) = false := by rw [Lib.toList_data ⟨x.toArray⟩]; exact hb1
              clear hw
              rw [hb3]
              go_wp2_with fail
              go_ret2
              exact ⟨.inr ⟨HFIN.out, rfl⟩, HBy.out⟩
            | some z =>
              have hz : z = a := by
                have h := hw
                unfold udW at h
                split at h
                · rw [← Option.some.inj h]; exact HA.out
                · cases h
              subst hz
              have hb1 : (s.toList == x) = true := by rw [HF.out, hw]; rfl
              have hb3 : (!(s.toList == x)) = false := by rw [hb1]; rfl
              have hb2 : (s.toList == (⟨x.toArray⟩ : ByteArray).toList) = true := by rw [Lib.toList_data ⟨x.toArray⟩]; exact hb1
              have HTK := Lib.hid (udsW_take HV.out HXK.out hw)
              have hsz := HBy.out.size
              have hkn : vs.length < 17592186044415 := by
                have h2 := HN.out
                have h1 := udsW_len HV.out
                rw [List.length_take] at h1
                omega
              obtain ⟨ua, uc, rfl, -, -, -⟩ := HOy.out.shape
              clear hw
              rw [hb3]
              go_upto_region 12 with fail
              go_wp2_with (at_builtin; (refine append_one (T := 47) (E := 78) (k := .u64) (B := W.heap.size) (ys := vs) (y := (z : Int)) Tryd.underlying47 info_u64 rfl _ _ rfl rfl HOy.out rfl hsz hkn ?_); intro v4 x4 hO4 hb4; have HO4 := Lib.hid hO4; have HB4 := Lib.hid hb4; clear hO4 hb4)
              go_roundw
              case rel => exact ⟨k + 1, vs ++ [(z : Int)], by first | rw [WK.out] | simp, Lib.hid HKL.out, Lib.hid HTK.out, HO4, Lib.hid (HBy.out.trans HB4.out)⟩
              case measure => first | exact sc_meas' ws.length k HKL.out | (rw [WK.out]; exact sc_meas ws.length k HKL.out)
    · have h9 : k = ws.length := by have := HK.out; omega
      subst h9
      have hkk : ¬ (ws.length : Int) < (ws.length : Int) := by omega
      have HV2 := Lib.hid (show udsW ws = some vs by have h := HV.out; rwa [List.take_length] at h)
      go_wp2_with fail
      go_ret2
      exact ⟨.inl ⟨vs, HV2.out, _, rfl, HO.out⟩, HB.out⟩
end Go.Proofs.YtoejflnlkapkiaaDoor
/- Scripts: what a text tells, line by line, in numbers. -/
namespace Go.Proofs.YtoejflnlkapkiaaDoor
open Go.ChangeShapes Go.WideShapes Go.ChangeAt Go.RowKit
set_option linter.unusedVariables false
set_option linter.unusedSimpArgs false
def kdU (w : List UInt8) : Nat → Int
  | 0 => 0
  | k + 1 => if k ≠ 0 ∧ (wdK (k : Int)).data.toList = w then (k : Int) else kdU w k
def kdW (w : List UInt8) : Int := kdU w 8
theorem kdU_none {w : List UInt8} : ∀ k : Nat, (∀ j : Nat, 1 ≤ j → j < k → (wdK (j : Int)).data.toList ≠ w) → kdU w k = 0
  | 0, _ => rfl
  | k + 1, h => by
    rw [kdU, if_neg, kdU_none k (fun j h1 h2 => h j h1 (by omega))]
    rintro ⟨h1, h2⟩
    exact h k (by omega) (by omega) h2
theorem kdW_none {w : List UInt8} (h : ∀ j : Nat, 1 ≤ j → j < 8 → (wdK (j : Int)).data.toList ≠ w) : kdW w = 0 := kdU_none 8 h
theorem kdW_all : ∀ k : Fin 8, k.1 ≠ 0 → kdW (wdK (k.1 : Int)).data.toList = (k.1 : Int) := by decide +kernel
theorem kdW_hit {w : List UInt8} {k : Nat} (h1 : 1 ≤ k) (h8 : k < 8) (h : (wdK (k : Int)).data.toList = w) : kdW w = (k : Int) := by
  have := kdW_all ⟨k, h8⟩ (by simp; omega)
  rw [← h]; exact this
theorem kdU_range {w : List UInt8} : ∀ k : Nat, kdU w k = 0 ∨ ∃ j : Nat, 1 ≤ j ∧ j < k ∧ kdU w k = (j : Int) ∧ (wdK (j : Int)).data.toList = w
  | 0 => .inl rfl
  | k + 1 => by
    rw [kdU]
    by_cases h : k ≠ 0 ∧ (wdK (k : Int)).data.toList = w
    · rw [if_pos h]
      exact .inr ⟨k, by omega, by omega, rfl, h.2⟩
    · rw [if_neg h]
      rcases kdU_range (w := w) k with h | ⟨j, h1, h2, h3, h4⟩
      · exact .inl h
      · exact .inr ⟨j, h1, by omega, h3, h4⟩
def ofN (k : Int) (r : List (List UInt8)) : Option Cl :=
  match r with
  | a :: b :: xs => if k = 7 ∧ xs ≠ [] then none else
    match numsW [a, b], udsW xs with
    | some [u, v], some l => some ⟨k, 0, 0, ⟨#[]⟩, u, v, l⟩
    | _, _ => none
  | _ => none
def keyN (k : Int) (r : List (List UInt8)) : Option Cl :=
  match numsW r with
  | some [u, v] => some ⟨k, u, v, ⟨#[]⟩, 0, 0, []⟩
  | _ => none
def txtN (r : List (List UInt8)) : Option Cl :=
  match r with
  | [] => some ⟨4, 0, 0, ⟨#[]⟩, 0, 0, []⟩
  | [x] => (unB x).map fun l => ⟨4, 0, 0, ⟨l.toArray⟩, 0, 0, []⟩
  | _ => none
/-- The call of a line. -/
def kindN (k : Int) (r : List (List UInt8)) : Option Cl :=
  if k = 1 ∨ k = 2 ∨ k = 3 then keyN k r
  else if k = 4 then txtN r
  else if k = 5 then (if r = [] then some ⟨5, 0, 0, ⟨#[]⟩, 0, 0, []⟩ else none)
  else if k = 6 ∨ k = 7 then ofN k r
  else none
def callN (ws : List (List UInt8)) : Option Cl :=
  match ws with
  | [] => none
  | w :: r => kindN (kdW w) r
structure Sc where
  st : Int
  rm : Int
  cs : List (List Cl)
  ps : List Int
  ts : List Int
def Sc.zero : Sc := ⟨0, 0, [], [], []⟩
def plW : ByteArray := ⟨#[112, 108, 97, 121]⟩
def piW : ByteArray := ⟨#[112, 105, 99, 107, 115]⟩
def tiW : ByteArray := ⟨#[116, 105, 99, 107, 115]⟩
def addC (cs : List (List Cl)) (c : Cl) : List (List Cl) := cs.set (cs.length - 1) (cs.getD (cs.length - 1) [] ++ [c])
/-- A line more. -/
def addN (s : Sc) (line : Nat) (ws : List (List UInt8)) : Option Sc :=
  match ws with
  | [] => none
  | f :: r =>
    if line = 1 then (match numsW r with | some [a, b] => if f = plW.data.toList then some { s with st := a, rm := b } else none | _ => none)
    else if line = 2 then (match numsW r with | some l => if f = piW.data.toList then some { s with ps := l } else none | none => none)
    else if line = 3 then (match numsW r with | some l => if f = tiW.data.toList then some { s with ts := l } else none | none => none)
    else if f = cliB.data.toList then (if r = [] then some { s with cs := s.cs ++ [[]] } else none)
    else match callN (f :: r) with | some c => if s.cs = [] then none else some { s with cs := addC s.cs c } | none => none
open Classical in
noncomputable def lineN (t : ByteArray) (a : Nat) : Option (List (List UInt8) × Nat) :=
  if h : ∃ i, Fst t (a : Int) i then (match wds (t.extract a h.choose).data.toList with | some (w :: ws) => some (w :: ws, h.choose + 1) | _ => none) else none
theorem lineN_of {t : ByteArray} {a i : Nat} (h : Fst t (a : Int) i) : lineN t a = match wds (t.extract a i).data.toList with | some (w :: ws) => some (w :: ws, i + 1) | _ => none := by
  have h2 : ∃ i, Fst t (a : Int) i := ⟨i, h⟩
  unfold lineN
  rw [dif_pos h2, Fst.uniq h2.choose_spec h]
theorem lineN_nof {t : ByteArray} {a : Nat} (h : Nof t (a : Int)) : lineN t a = none := by
  unfold lineN
  rw [dif_neg]
  rintro ⟨i, h2⟩
  exact h2.not h
noncomputable def prsN (t : ByteArray) : Nat → Nat → Nat → Sc → Except Nat Sc
  | 0, n, _, _ => .error (n + 1)
  | k + 1, n, a, s => if a = t.size ∧ 3 ≤ n then .ok s else
    match lineN t a with
    | none => .error (n + 1)
    | some (ws, a') => match addN s (n + 1) ws with | none => .error (n + 1) | some s' => prsN t k (n + 1) a' s'
theorem prsN_end {t : ByteArray} {k n a : Nat} {s : Sc} (h : a = t.size) (h3 : 3 ≤ n) : prsN t (k + 1) n a s = .ok s := by rw [prsN, if_pos ⟨h, h3⟩]
theorem prsN_line {t : ByteArray} {k n a : Nat} {s : Sc} (h : ¬ (a = t.size ∧ 3 ≤ n)) (hl : lineN t a = none) : prsN t (k + 1) n a s = .error (n + 1) := by rw [prsN, if_neg h, hl]
theorem prsN_bad {t : ByteArray} {k n a a' : Nat} {s : Sc} {ws : List (List UInt8)} (h : ¬ (a = t.size ∧ 3 ≤ n)) (hl : lineN t a = some (ws, a')) (hw : addN s (n + 1) ws = none) : prsN t (k + 1) n a s = .error (n + 1) := by
  rw [prsN, if_neg h, hl]; simp only [hw]
theorem prsN_step {t : ByteArray} {k n a a' : Nat} {s s' : Sc} {ws : List (List UInt8)} (h : ¬ (a = t.size ∧ 3 ≤ n)) (hl : lineN t a = some (ws, a')) (hw : addN s (n + 1) ws = some s') : prsN t (k + 1) n a s = prsN t k (n + 1) a' s' := by
  rw [prsN, if_neg h, hl]; simp only [hw]
theorem numsW_two {a b : List UInt8} {l : List Int} (h : numsW [a, b] = some l) : ∃ u v, l = [u, v] := by
  have := numsW_len h
  match l, this with
  | [u, v], _ => exact ⟨u, v, rfl⟩
end Go.Proofs.YtoejflnlkapkiaaDoor
/- 'append(l, m...)' onto a row of the call's own. -/
namespace Go.Proofs.YtoejflnlkapkiaaDoor
open Go.ChangeShapes Go.WideShapes Go.ChangeAt Go.RowKit
set_option linter.unusedVariables false
theorem append_many {ops : Array Oper} {rest : List Oper} {o : Oper} {a : Act} {Q : Exit → Act → World → Prop} {W : World} {T E : TypeId} {k : IntKind} {B : Nat} {v : Value} {ys zs : List Int} {p : Option Addr} {m c : Nat}
    (hT : Tryd.prog.underlying T = some (.slice E)) (hI : (Tryd.prog.info? E).map (fun i => (i.zero, i.size, i.bytes)) = some (some (.int k 0), 1, 8)) (hgd : o.guard = none) (s x : Operand)
    (ho : o.op = .call { callee := .builtin .append, args := #[s, x], argTypes := #[T, T] }) (hs : a.eval s = v) (hown : Owns W B E k v ys) (hx : a.eval x = .slice p m c) (hm : zs.length = m) (hr : Reads k W p zs) (hB : B ≤ W.heap.size) (hlen : ys.length + m ≤ 17592186044415) (hne : 0 < m)
    (h : ∀ v' w', Owns w' B E k v' (ys ++ zs) → Below B W w' → wpList Tryd.prog ops Q rest (a.put o.dst v') w') : wpList Tryd.prog ops Q (o :: rest) a W := by
  obtain ⟨i0, hi, hz0, hz1, hz2⟩ := info_parts hI
  rcases hr with hnil | ⟨b, off, rfl, hb, hcell⟩
  · rw [hnil] at hm; simp at hm; omega
  refine wpList_append_lies _ hgd s x T ho B E i0 (.int k 0) 1 8 hT hi hz0 hz1 hz2 rfl (by decide) v ys.length (ys.map (Value.int k)) hs hown ⟨b, off, none⟩ m c (zs.map (Value.int k)) hx (by simpa using hm) ?_ ?_ hne ?_ ?_ hB _ rfl ?_
  · intro j u hj
    have hj' : j < zs.length := by
      by_cases hlt : j < zs.length
      · exact hlt
      · have : (zs.map (Value.int k))[j]? = none := by simp; omega
        rw [this] at hj; cases hj
    have e : (zs.map (Value.int k))[j]? = some (.int k (zs.getD j 0)) := by simp [List.getD, hj']
    rw [e] at hj
    cases hj
    have hadd : (⟨b, off, none⟩ : Addr).add j = ⟨b, off + j, none⟩ := by unfold Addr.add; split <;> simp_all
    rw [hadd]
    exact hcell j hj'
  · intro u hu
    obtain ⟨z, _, rfl⟩ := List.mem_map.1 hu
    rfl
  · unfold maxLen; omega
  · omega
  · intro g cap w' h1 h2 _ _
    refine h _ w' ?_ ((Below.refl _ _).grown h2 hB (fun i hi => (World.ownsRow.lt hown i hi).1))
    unfold Owns
    rw [List.length_append, hm, List.map_append]
    exact h1
theorem append_nought {ops : Array Oper} {rest : List Oper} {o : Oper} {a : Act} {Q : Exit → Act → World → Prop} {W : World} {T E : TypeId} {k : IntKind} {B : Nat} {v : Value} {ys : List Int} {p : Option Addr} {c : Nat}
    (hT : Tryd.prog.underlying T = some (.slice E)) (hI : (Tryd.prog.info? E).map (fun i => (i.zero, i.size, i.bytes)) = some (some (.int k 0), 1, 8)) (hgd : o.guard = none) (s x : Operand)
    (ho : o.op = .call { callee := .builtin .append, args := #[s, x], argTypes := #[T, T] }) (hs : a.eval s = v) (hown : Owns W B E k v ys) (hx : a.eval x = .slice p 0 c) (hne : 0 < ys.length)
    (h : wpList Tryd.prog ops Q rest (a.put o.dst v) W) : wpList Tryd.prog ops Q (o :: rest) a W := by
  obtain ⟨i0, hi, hz0, hz1, hz2⟩ := info_parts hI
  obtain ⟨q, cap, hv, hr, hcap, _⟩ := hown.shape
  rcases hr with hnil | ⟨b, off, rfl, hb, hcell⟩
  · rw [hnil] at hne; simp at hne
  have hsrc : Src Tryd.prog i0.size T (.slice p 0 c) 0 [] W := by
    cases p with
    | none => exact Src.ofNil W hT c
    | some ad => exact Src.ofSlice W hT ad 0 c [] (by simp) (fun j u hj => by simp at hj) (fun u hu => by cases hu)
  have hrun := run_append_room_src (P := Tryd.prog) W T T o.type E i0 hT hi b off ys.length cap _ 0 [] hsrc (by omega) (fun j hj => by simp at hj) (fun j hj => by simp at hj)
  have hset : W.setCells b (off + ys.length * i0.size) [] = W := rfl
  rw [hset] at hrun
  refine wpList_plain hgd fun _ hK => ?_
  unfold Oper.wp execOp
  rw [← hs] at h
  simp only [ho, resolve, invoke, builtin, Sem.run_bind, Sem.run_pure, Result.andThen_ok, List.map_toArray, List.map_cons, List.map_nil, hx]
  rw [hs, hv, hrun]
  rw [hs, hv] at h
  exact hK _ _ h

theorem getD_ext {xs ys : List Int} (hl : xs.length = ys.length) (h : ∀ i, i < xs.length → xs.getD i 0 = ys.getD i 0) : xs = ys := by
  apply List.ext_getElem hl
  intro i h1 h2
  have := h i h1
  simpa [List.getD, h1, h2] using this
theorem revrev (xs : List Int) : revl (revl xs) = redl xs := by
  apply getD_ext (by rw [revl_len, revl_len, redl_len])
  intro i hi
  rw [revl_len, revl_len] at hi
  rw [revl_at _ i (by rw [revl_len]; exact hi), redl_at xs i hi, revl_len, revl_at xs _ (back_lt _ _ hi), back_back _ _ hi, fm_fm]
theorem turn_turn (xs : List Int) (a b c : Nat) (h : (a + b) % xs.length = c) : turnl (turnl xs a) b = turnl xs c := by
  apply getD_ext (by rw [turnl_len, turnl_len, turnl_len])
  intro i hi
  rw [turnl_len, turnl_len] at hi
  rw [turnl_at _ b i (by rw [turnl_len]; exact hi), turnl_len, turnl_at xs c i hi, turnl_at xs a _ (Nat.mod_lt _ (by omega)), fm_fm]
  congr 2
  rw [← h, Nat.mod_add_mod, Nat.add_mod_mod]
  congr 1
  omega
theorem tpos_add (k m : Int) (n : Nat) (h : 0 < n) : (tpos k n + tpos m n) % n = tpos (k + m) n := by
  have h1 := Int.emod_nonneg k (show (n : Int) ≠ 0 by omega)
  have h2 := Int.emod_nonneg m (show (n : Int) ≠ 0 by omega)
  have h3 := Int.emod_nonneg (k + m) (show (n : Int) ≠ 0 by omega)
  have e := Int.add_emod k m n
  unfold tpos
  have e1 : ((k % n).toNat : Int) = k % n := by omega
  have e2 : ((m % n).toNat : Int) = m % n := by omega
  have e3 : (((k + m) % n).toNat : Int) = (k + m) % n := by omega
  have : (((k % n).toNat + (m % n).toNat) % n : Nat) = (((k + m) % n).toNat : Int) := by
    rw [Int.natCast_emod, Int.natCast_add, e1, e2, e3, e]
  exact_mod_cast this
theorem turn_split (xs : List Int) (t : Nat) (h : t < xs.length) : redl (xs.drop t) ++ redl (xs.take t) = turnl xs t := by
  apply getD_ext
  · rw [List.length_append, redl_len, redl_len, turnl_len, List.length_drop, List.length_take]; omega
  · intro i hi
    rw [List.length_append, redl_len, redl_len, List.length_drop, List.length_take] at hi
    rw [turnl_at xs t i (by omega)]
    by_cases h1 : i < xs.length - t
    · have e : (i + t) % xs.length = t + i := by rw [Nat.mod_eq_of_lt (by omega)]; omega
      have l1 : i < (redl (xs.drop t)).length := by rw [redl_len, List.length_drop]; exact h1
      rw [e, List.getD_eq_getElem?_getD, List.getElem?_append_left l1, ← List.getD_eq_getElem?_getD, redl_at _ i (by rw [List.length_drop]; exact h1)]
      congr 1
      simp [List.getD]
    · have e : (i + t) % xs.length = i - (xs.length - t) := by
        rw [show i + t = (i - (xs.length - t)) + xs.length by omega, Nat.add_mod_right, Nat.mod_eq_of_lt (by omega)]
      have l1 : (redl (xs.drop t)).length = xs.length - t := by rw [redl_len, List.length_drop]
      have hlt : i - (xs.length - t) < t := by omega
      rw [e, List.getD_eq_getElem?_getD, List.getElem?_append_right (by omega), ← List.getD_eq_getElem?_getD, l1, redl_at _ _ (by rw [List.length_take]; omega)]
      congr 1
      simp [List.getD, hlt]
end Go.Proofs.YtoejflnlkapkiaaDoor
/- slices.Clone at []uint64. -/
namespace Go.Proofs.YtoejflnlkapkiaaDoor
open Go.ChangeShapes Go.WideShapes Go.ChangeAt Go.RowKit
set_option linter.unusedVariables false
set_option linter.unusedSimpArgs false
theorem own_made0 (w : World) (B : Nat) (E : TypeId) (hB : B ≤ w.heap.size) : (w.alloc (.cells #[] E)).ownsRow B E 1 (.slice (some ⟨w.heap.size, 0, none⟩) 0 0) 0 [] :=
  ⟨rfl, .inr ⟨w.heap.size, 0, #[], rfl, hB, heap_alloc_new _ _, Nat.le_refl _, by decide, rfl, rfl⟩⟩
theorem append_none0 {ops : Array Oper} {rest : List Oper} {o : Oper} {a : Act} {Q : Exit → Act → World → Prop} {W : World} {T E : TypeId} {k : IntKind} {b off : Nat} {p : Option Addr} {c : Nat}
    (hT : Tryd.prog.underlying T = some (.slice E)) (hI : (Tryd.prog.info? E).map (fun i => (i.zero, i.size, i.bytes)) = some (some (.int k 0), 1, 8)) (hgd : o.guard = none) (s x : Operand)
    (ho : o.op = .call { callee := .builtin .append, args := #[s, x], argTypes := #[T, T] }) (hs : a.eval s = .slice (some ⟨b, off, none⟩) 0 0) (hx : a.eval x = .slice p 0 c)
    (h : wpList Tryd.prog ops Q rest (a.put o.dst (.slice (some ⟨b, off, none⟩) 0 0)) W) : wpList Tryd.prog ops Q (o :: rest) a W := by
  obtain ⟨i0, hi, hz0, hz1, hz2⟩ := info_parts hI
  have hsrc : Src Tryd.prog i0.size T (.slice p 0 c) 0 [] W := by
    cases p with
    | none => exact Src.ofNil W hT c
    | some ad => exact Src.ofSlice W hT ad 0 c [] (by simp) (fun j u hj => by simp at hj) (fun u hu => by cases hu)
  have hrun := run_append_room_src (P := Tryd.prog) W T T o.type E i0 hT hi b off 0 0 _ 0 [] hsrc (by omega) (fun j hj => by simp at hj) (fun j hj => by simp at hj)
  have hset : W.setCells b (off + 0 * i0.size) [] = W := rfl
  rw [hset] at hrun
  refine wpList_plain hgd fun _ hK => ?_
  unfold Oper.wp execOp
  simp only [ho, resolve, invoke, builtin, Sem.run_bind, Sem.run_pure, Result.andThen_ok, List.map_toArray, List.map_cons, List.map_nil, hx, hs, hrun]
  exact hK _ _ h
set_option maxRecDepth 100000 in
set_option maxHeartbeats 4000000 in
theorem sc_clone (v : Value) (xs : List Int) (W : World) (h : RowX W v xs) (hn : xs.length ≤ 1000000) :
    Calls Tryd.prog 33 #[v] W fun e w' => ∃ v', e = .returned v' ∧ RowX w' v' xs ∧ (∀ q n c, v' = .slice (some q) n c → W.heap.size ≤ q.block) ∧ Below W.heap.size W w' := by
  obtain ⟨p, k, rfl, hr⟩ := h
  cases p with
  | none =>
    have hx : xs = [] := by
      rcases hr.reads with h | ⟨b, o, h, -⟩
      · exact h
      · cases h
    subst hx
    have hq := Lib.run_eql_slice_nil (P := Tryd.prog) W 47 _ none 0 k 0 0 Tryd.underlying47
    go_enter Tryd.func33, Tryd.ntmps33
    go_wp2_with fail
    go_ret
    exact ⟨_, rfl, ⟨none, 0, rfl, hr⟩, (fun (q : Addr) (n c : Nat) (h : _ = Value.slice (some q) n c) => by
      have h2 : Value.slice none 0 0 = Value.slice (some q) n c := h
      cases h2), Below.refl _ _⟩
  | some ad =>
    have HR := Lib.hid hr
    clear hr
    have hq := Lib.run_eql_slice_nil (P := Tryd.prog) W 47 _ (some ad) xs.length k 0 0 Tryd.underlying47
    obtain ⟨w0, hw0, -, hB0, hs0⟩ := boxG W #[] 78
    have HO := Lib.hid (show Owns w0 W.heap.size 78 .u64 (.slice (some ⟨W.heap.size, 0, none⟩) 0 0) [] by rw [← hw0]; exact own_made0 W _ _ (Nat.le_refl _))
    have HB0 := Lib.hid hB0
    have HR0 := Lib.hid (HR.out.below hB0)
    have hz : W.heap.size ≤ w0.heap.size := by omega
    clear hB0 hs0
    by_cases hx : xs = []
    · subst hx
      simp only [List.length_nil] at hq
      go_enter Tryd.func33, Tryd.ntmps33
      go_wp2_with (at_builtin; refine append_none0 (T := 47) (E := 78) (k := .u64) Tryd.underlying47 info_u64 rfl _ _ rfl rfl rfl ?_)
      go_ret
      exact ⟨_, rfl, ⟨_, _, rfl, ⟨rfl, .inl rfl, by simp, by decide⟩⟩, (fun (q : Addr) (n c : Nat) (h : _ = Value.slice (some q) n c) => by
        have h2 : Value.slice (some ⟨W.heap.size, 0, none⟩) 0 0 = Value.slice (some q) n c := h
        cases h2
        exact Nat.le_refl _), HB0.out⟩
    · have hne : 0 < xs.length := List.length_pos_iff.2 hx
      go_enter Tryd.func33, Tryd.ntmps33
      go_wp2_with (at_builtin; refine append_many (T := 47) (E := 78) (k := .u64) (zs := xs) Tryd.underlying47 info_u64 rfl _ _ rfl rfl HO.out rfl rfl HR0.out.reads hz (by simp; omega) hne ?_; intro v1 w1 hO1 hb1; have HO1 := Lib.hid hO1; have HB1 := Lib.hid hb1; clear hO1 hb1)
      go_ret
      obtain ⟨a1, c1, e1, hr1, -, -⟩ := HO1.out.shape
      refine ⟨_, rfl, ⟨a1, c1, e1, ⟨rfl, hr1, HR.out.wf, HR.out.small⟩⟩, fun q n c h => ?_, HB0.out.trans HB1.out⟩
      rcases own_form HO1.out with ⟨hv, -, -⟩ | ⟨g, c', hv, hg, -⟩
      · have h2 := hv.symm.trans h; cases h2
      · have h2 := hv.symm.trans h; cases h2; exact hg
end Go.Proofs.YtoejflnlkapkiaaDoor
/- script.Own. -/
namespace Go.Proofs.YtoejflnlkapkiaaDoor
open Go.ChangeShapes Go.WideShapes Go.ChangeAt Go.RowKit
set_option linter.unusedVariables false
set_option linter.unusedSimpArgs false
/-- What a call uses. -/
def ownC (c : Cl) : Cl :=
  if c.kd = 1 ∨ c.kd = 2 ∨ c.kd = 3 then ⟨c.kd, c.n, c.dir, ⟨#[]⟩, 0, 0, []⟩
  else if c.kd = 4 then ⟨c.kd, 0, 0, c.s, 0, 0, []⟩
  else if c.kd = 6 then ⟨c.kd, 0, 0, ⟨#[]⟩, c.who, c.at', c.xs⟩
  else if c.kd = 7 then ⟨c.kd, 0, 0, ⟨#[]⟩, c.who, c.at', []⟩
  else ⟨c.kd, 0, 0, ⟨#[]⟩, 0, 0, []⟩
theorem ownC_idem (c : Cl) : ownC (ownC c) = ownC c := by
  obtain ⟨kd, n, dir, s, who, ar, xs⟩ := c
  unfold ownC
  simp only
  by_cases h1 : kd = 1 ∨ kd = 2 ∨ kd = 3
  · simp only [h1, if_true]
  by_cases h4 : kd = 4
  · simp only [h1, h4, if_true, if_false]
    simp
  by_cases h6 : kd = 6
  · subst h6; simp
  by_cases h7 : kd = 7
  · subst h7; simp
  · simp only [h1, h4, h6, h7, if_false]
def OwnOk (W : World) (c : Cl) (e : Ending) (w' : World) : Prop := ∃ x', e = .returned ((ownC c).val x') ∧ RowX w' x' (ownC c).xs ∧ Below W.heap.size W w'
theorem call_ret {fn : Func} {p : Tmp} (h : fn.results = #[.cell p 49]) (a : Act) (w : World) (g : Nat) (c : Cl) (x : Value) (hp : a.tmps.getD p undef = .pointer (some ⟨g, 0, none⟩)) (hd : a.defers = [])
    (hg : w.heap[g]? = some (.cells #[.int .i64 c.kd, .int .i64 c.n, .int .i64 c.dir, .string c.s, .int .i64 c.who, .int .i64 c.at', x] 49 (0, 0))) {Q : Ending → World → Prop} (hQ : Q (.returned (c.val x)) w) :
    bodyPost Tryd.prog fn Q .ret a w :=
  bodyPost_ret (results_cell_row h _ _ g 49 _ (0, 0) _ hp hg Tryd.underlying49 rfl (by kernel_rfl)) hd hQ
/-- Three cells are stored. -/
theorem set456 {w : World} {b : Nat} {T : TypeId} {a0 a1 a2 a3 a4 a5 a6 u v z : Value} (h : w.heap[b]? = some (.cells #[a0, a1, a2, a3, a4, a5, a6] T (0, 0))) :
    (((w.setCell ⟨b, 4, none⟩ u).setCell ⟨b, 5, none⟩ v).setCell ⟨b, 6, none⟩ z).heap[b]? = some (.cells #[a0, a1, a2, a3, u, v, z] T (0, 0)) := by
  have h1 := row_setC (o := 4) h u
  have h2 := row_setC (o := 5) h1 v
  have h3 := row_setC (o := 6) h2 z
  exact h3
theorem below456 {W w : World} {b : Nat} {u v z : Value} (h : Below W.heap.size W w) (hb : W.heap.size ≤ b) : Below W.heap.size W (((w.setCell ⟨b, 4, none⟩ u).setCell ⟨b, 5, none⟩ v).setCell ⟨b, 6, none⟩ z) :=
  ((h.setCell (p := ⟨b, 4, none⟩) hb u).setCell (p := ⟨b, 5, none⟩) hb v).setCell (p := ⟨b, 6, none⟩) hb z
/-- All seven are. -/
def s7 (w : World) (b : Nat) (a0 a1 a2 a3 a4 a5 a6 : Value) : World := ((((((w.setCell ⟨b, 0, none⟩ a0).setCell ⟨b, 1, none⟩ a1).setCell ⟨b, 2, none⟩ a2).setCell ⟨b, 3, none⟩ a3).setCell ⟨b, 4, none⟩ a4).setCell ⟨b, 5, none⟩ a5).setCell ⟨b, 6, none⟩ a6
theorem s7_row {w : World} {b : Nat} {T : TypeId} {c0 c1 c2 c3 c4 c5 c6 a0 a1 a2 a3 a4 a5 a6 : Value} (h : w.heap[b]? = some (.cells #[c0, c1, c2, c3, c4, c5, c6] T (0, 0))) : (s7 w b a0 a1 a2 a3 a4 a5 a6).heap[b]? = some (.cells #[a0, a1, a2, a3, a4, a5, a6] T (0, 0)) := by
  unfold s7
  have h0 := row_setC (o := 0) h a0
  have h1 := row_setC (o := 1) h0 a1
  have h2 := row_setC (o := 2) h1 a2
  have h3 := row_setC (o := 3) h2 a3
  have h4 := row_setC (o := 4) h3 a4
  have h5 := row_setC (o := 5) h4 a5
  have h6 := row_setC (o := 6) h5 a6
  rw [h6]
  simp only [List.setIfInBounds_toArray, List.set_cons_zero, List.set_cons_succ]
theorem s7_below {W w : World} {b B : Nat} {a0 a1 a2 a3 a4 a5 a6 : Value} (h : Below B W w) (hb : B ≤ b) : Below B W (s7 w b a0 a1 a2 a3 a4 a5 a6) :=
  ((((((h.setCell (p := ⟨b, 0, none⟩) hb a0).setCell (p := ⟨b, 1, none⟩) hb a1).setCell (p := ⟨b, 2, none⟩) hb a2).setCell (p := ⟨b, 3, none⟩) hb a3).setCell (p := ⟨b, 4, none⟩) hb a4).setCell (p := ⟨b, 5, none⟩) hb a5).setCell (p := ⟨b, 6, none⟩) hb a6
/-- A store into another block. -/
theorem row_setX {w : World} {a : Option Addr} {n : Nat} {xs : List Int} (h : Row w a n xs) {b o : Nat} {v : Value} (hne : ∀ q, a = some q → q.block ≠ b) : Row (w.setCell ⟨b, o, none⟩ v) a n xs := by
  refine ⟨h.len, ?_, h.wf, h.small⟩
  rcases h.reads with h0 | ⟨g, off, hp, hl, hc⟩
  · exact .inl h0
  · have hgb : g ≠ b := hne _ hp
    refine .inr ⟨g, off, hp, by simp; exact hl, fun i hi => ?_⟩
    exact (World.cell?_of_block (a := ⟨g, off + i, none⟩) (heap_setCell_other w ⟨b, o, none⟩ g v hgb)).trans (hc i hi)
theorem tri (W : World) (o0 o1 o2 : Obj) : (((W.alloc o0).alloc o1).alloc o2).heap[W.heap.size + 1]? = some o1 ∧ Below W.heap.size W (((W.alloc o0).alloc o1).alloc o2) := by
  have h1 : (W.alloc o0).heap.size = W.heap.size + 1 := by simp
  refine ⟨?_, (((Below.refl _ _).alloc (Nat.le_refl _) _).alloc (by simp) _).alloc (by simp; omega) _⟩
  rw [Below.heap_alloc _ _ _ (by simp), ← h1]
  exact heap_alloc_new _ _
set_option maxRecDepth 100000 in
set_option maxHeartbeats 4000000 in
theorem sc_own (c : Cl) (x : Value) (W : World) (h : RowX W x c.xs) (hn : c.xs.length ≤ 1000000) : Calls Tryd.prog 16 #[c.val x] W (OwnOk W c) := by
  obtain ⟨kd, n, dir, s, who, ar, xs⟩ := c
  obtain ⟨p, k, rfl, hr⟩ := h
  have HR := Lib.hid hr
  simp only at hr hn
  show Calls Tryd.prog 16 #[.agg #[.int .i64 kd, .int .i64 n, .int .i64 dir, .string s, .int .i64 who, .int .i64 ar, .slice p xs.length k]] W (OwnOk W ⟨kd, n, dir, s, who, ar, xs⟩)
  clear hr
  by_cases h1 : kd = 1
  · subst h1
    have ho : ownC ⟨1, n, dir, s, who, ar, xs⟩ = ⟨1, n, dir, ⟨#[]⟩, 0, 0, []⟩ := rfl
    go_enter Tryd.func16, Tryd.ntmps16
    go_wp2_with fail
    refine call_ret (c := ⟨1, n, dir, ⟨#[]⟩, 0, 0, []⟩) rfl _ _ (W.heap.size + 1) (.slice none 0 0) rfl rfl (tri _ _ _ _).1 ?_
    exact ⟨.slice none 0 0, by rw [ho], by rw [ho]; exact row_nilX _, (tri _ _ _ _).2⟩
  by_cases h2 : kd = 2
  · subst h2
    have ho : ownC ⟨2, n, dir, s, who, ar, xs⟩ = ⟨2, n, dir, ⟨#[]⟩, 0, 0, []⟩ := rfl
    go_enter Tryd.func16, Tryd.ntmps16
    go_wp2_with fail
    refine call_ret (c := ⟨2, n, dir, ⟨#[]⟩, 0, 0, []⟩) rfl _ _ (W.heap.size + 1) (.slice none 0 0) rfl rfl (tri _ _ _ _).1 ?_
    exact ⟨.slice none 0 0, by rw [ho], by rw [ho]; exact row_nilX _, (tri _ _ _ _).2⟩
  by_cases h3 : kd = 3
  · subst h3
    have ho : ownC ⟨3, n, dir, s, who, ar, xs⟩ = ⟨3, n, dir, ⟨#[]⟩, 0, 0, []⟩ := rfl
    go_enter Tryd.func16, Tryd.ntmps16
    go_wp2_with fail
    refine call_ret (c := ⟨3, n, dir, ⟨#[]⟩, 0, 0, []⟩) rfl _ _ (W.heap.size + 1) (.slice none 0 0) rfl rfl (tri _ _ _ _).1 ?_
    exact ⟨.slice none 0 0, by rw [ho], by rw [ho]; exact row_nilX _, (tri _ _ _ _).2⟩
  by_cases h4 : kd = 4
  · subst h4
    have ho : ownC ⟨4, n, dir, s, who, ar, xs⟩ = ⟨4, 0, 0, s, 0, 0, []⟩ := rfl
    go_enter Tryd.func16, Tryd.ntmps16
    go_wp2_with fail
    refine call_ret (c := ⟨4, 0, 0, s, 0, 0, []⟩) rfl _ _ (W.heap.size + 1) (.slice none 0 0) rfl rfl (tri _ _ _ _).1 ?_
    exact ⟨.slice none 0 0, by rw [ho], by rw [ho]; exact row_nilX _, (tri _ _ _ _).2⟩
  by_cases h7 : kd = 7
  · subst h7
    have ho : ownC ⟨7, n, dir, s, who, ar, xs⟩ = ⟨7, 0, 0, ⟨#[]⟩, who, ar, []⟩ := rfl
    go_enter Tryd.func16, Tryd.ntmps16
    go_wp2_with fail
    refine call_ret (c := ⟨7, 0, 0, ⟨#[]⟩, who, ar, []⟩) rfl _ _ (W.heap.size + 1) (.slice none 0 0) rfl rfl (tri _ _ _ _).1 ?_
    exact ⟨.slice none 0 0, by rw [ho], by rw [ho]; exact row_nilX _, (tri _ _ _ _).2⟩
  by_cases h6 : kd = 6
  · subst h6
    have ho : ownC ⟨6, n, dir, s, who, ar, xs⟩ = ⟨6, 0, 0, ⟨#[]⟩, who, ar, xs⟩ := rfl
    have CL := Lib.hid (fun (w : World) (hb : Below W.heap.size W w) => sc_clone (.slice p xs.length k) xs w ⟨p, k, rfl, HR.out.below hb⟩ hn)
    go_enter Tryd.func16, Tryd.ntmps16
    go_wp2_with fail
    have HBT := Lib.hid (tri W (.cells #[.int .i64 6, .int .i64 n, .int .i64 dir, .string s, .int .i64 who, .int .i64 ar, .slice p xs.length k] 49) (.cells #[.int .i64 0, .int .i64 0, .int .i64 0, .string ⟨#[]⟩, .int .i64 0, .int .i64 0, .slice none 0 0] 49) (.cells #[.int .i64 6, .int .i64 0, .int .i64 0, .string ⟨#[]⟩, .int .i64 0, .int .i64 0, .slice none 0 0] 49)).2
    have hg0 := Lib.hid (show (((W.alloc (.cells #[.int .i64 6, .int .i64 n, .int .i64 dir, .string s, .int .i64 who, .int .i64 ar, .slice p xs.length k] 49)).alloc (.cells #[.int .i64 0, .int .i64 0, .int .i64 0, .string ⟨#[]⟩, .int .i64 0, .int .i64 0, .slice none 0 0] 49)).alloc (.cells #[.int .i64 6, .int .i64 0, .int .i64 0, .string ⟨#[]⟩, .int .i64 0, .int .i64 0, .slice none 0 0] 49)).heap[W.heap.size]? = some (.cells #[.int .i64 6, .int .i64 n, .int .i64 dir, .string s, .int .i64 who, .int .i64 ar, .slice p xs.length k] 49 (0, 0)) from by
      rw [Below.heap_alloc _ _ _ (by simp; omega), Below.heap_alloc _ _ _ (by simp)]; exact heap_alloc_new _ _)
    have hg1 := Lib.hid (tri W (.cells #[.int .i64 6, .int .i64 n, .int .i64 dir, .string s, .int .i64 who, .int .i64 ar, .slice p xs.length k] 49) (.cells #[.int .i64 0, .int .i64 0, .int .i64 0, .string ⟨#[]⟩, .int .i64 0, .int .i64 0, .slice none 0 0] 49) (.cells #[.int .i64 6, .int .i64 0, .int .i64 0, .string ⟨#[]⟩, .int .i64 0, .int .i64 0, .slice none 0 0] 49)).1
    have hg2 := Lib.hid (show (((W.alloc (.cells #[.int .i64 6, .int .i64 n, .int .i64 dir, .string s, .int .i64 who, .int .i64 ar, .slice p xs.length k] 49)).alloc (.cells #[.int .i64 0, .int .i64 0, .int .i64 0, .string ⟨#[]⟩, .int .i64 0, .int .i64 0, .slice none 0 0] 49)).alloc (.cells #[.int .i64 6, .int .i64 0, .int .i64 0, .string ⟨#[]⟩, .int .i64 0, .int .i64 0, .slice none 0 0] 49)).heap[W.heap.size + 1 + 1]? = some (.cells #[.int .i64 6, .int .i64 0, .int .i64 0, .string ⟨#[]⟩, .int .i64 0, .int .i64 0, .slice none 0 0] 49 (0, 0)) from by
      have h1 : ((W.alloc (.cells #[.int .i64 6, .int .i64 n, .int .i64 dir, .string s, .int .i64 who, .int .i64 ar, .slice p xs.length k] 49)).alloc (.cells #[.int .i64 0, .int .i64 0, .int .i64 0, .string ⟨#[]⟩, .int .i64 0, .int .i64 0, .slice none 0 0] 49)).heap.size = W.heap.size + 1 + 1 := by simp
      rw [← h1]; exact heap_alloc_new _ _)
    generalize ((W.alloc (.cells #[.int .i64 6, .int .i64 n, .int .i64 dir, .string s, .int .i64 who, .int .i64 ar, .slice p xs.length k] 49)).alloc (.cells #[.int .i64 0, .int .i64 0, .int .i64 0, .string ⟨#[]⟩, .int .i64 0, .int .i64 0, .slice none 0 0] 49)).alloc (.cells #[.int .i64 6, .int .i64 0, .int .i64 0, .string ⟨#[]⟩, .int .i64 0, .int .i64 0, .slice none 0 0] 49) = w3 at *
    have HZ3 := Lib.hid (show W.heap.size + 1 + 1 < w3.heap.size from Nat.lt_of_not_le (fun hle => by have h := hg2.out; rw [Array.getElem?_eq_none hle] at h; cases h))
    obtain ⟨x0, x1, x2, x3, x4, x5, x6⟩ := cells7 hg0.out
    have CL3 := Lib.hid (fun (u : World) (hu : Below w3.heap.size w3 u) => (show Calls Tryd.prog 33 #[.slice p xs.length k] u fun e w' => ∃ q k2, e = .returned (.slice q xs.length k2) ∧ Row w' q xs.length xs ∧ (∀ a, q = some a → w3.heap.size ≤ a.block) ∧ Below w3.heap.size w3 w' from
      (CL.out u (HBT.out.trans (hu.mono HBT.out.size))).mono (by rintro e w' ⟨x', rfl, ⟨q, k2, rfl, hx⟩, hq, hb⟩; exact ⟨q, k2, rfl, hx, fun a ha => Nat.le_trans hu.size (hq a _ _ (by rw [ha])), hu.trans (hb.mono hu.size)⟩)))
    have KP := Lib.hid (fun (w6 : World) (hb6 : Below w3.heap.size w3 w6) => cells7 ((hb6.block _ (by have := HZ3.out; omega)).trans hg0.out))
    have OF := Lib.hid (fun (w6 : World) (hb6 : Below w3.heap.size w3 w6) (i : Nat) => frozen_of_row w6 (W.heap.size + 1 + 1) i _ _ ((hb6.block _ HZ3.out).trans hg2.out))
    have KY := Lib.hid (fun (w6 : World) (hb6 : Below w3.heap.size w3 w6) => cells7 ((hb6.block _ HZ3.out).trans hg2.out))
    clear CL
    go_region_with (go_at_call 33; go_loud (with_reducible refine (CL3.out w3.drew ((Below.refl _ _).drew)).mono ?_; rintro e w6 ⟨q, k2', rfl, hx', hq6, hB6⟩; obtain ⟨k0, k1, k2, k3, k4, k5, k6⟩ := KP.out w6 hB6; obtain ⟨l0, l1, l2, l3, l4, l5, l6⟩ := KY.out w6 hB6; have f4 := OF.out w6 hB6 4; have f5 := OF.out w6 hB6 5; have f6 := OF.out w6 hB6 6; have HX6 := Lib.hid hx'; have HQ6 := Lib.hid hq6; have HB6 := Lib.hid hB6; clear hx' hB6 hq6))
    all_goals
      obtain ⟨w7, hw7⟩ : ∃ w7, ((w6.setCell ⟨W.heap.size + 1 + 1, 4, none⟩ (.int .i64 who)).setCell ⟨W.heap.size + 1 + 1, 5, none⟩ (.int .i64 ar)).setCell ⟨W.heap.size + 1 + 1, 6, none⟩ (.slice q xs.length k2') = w7 := ⟨_, rfl⟩
      have r7 : w7.heap[W.heap.size + 1 + 1]? = some (.cells #[.int .i64 6, .int .i64 0, .int .i64 0, .string ⟨#[]⟩, .int .i64 who, .int .i64 ar, .slice q xs.length k2'] 49 (0, 0)) := by
        rw [← hw7]; exact set456 ((HB6.out.block _ HZ3.out).trans hg2.out)
      have q7 : w7.heap[W.heap.size + 1]? = some (.cells #[.int .i64 0, .int .i64 0, .int .i64 0, .string ⟨#[]⟩, .int .i64 0, .int .i64 0, .slice none 0 0] 49 (0, 0)) := by
        rw [← hw7, heap_setCell_other _ _ _ _ (by show W.heap.size + 1 ≠ W.heap.size + 1 + 1; omega), heap_setCell_other _ _ _ _ (by show W.heap.size + 1 ≠ W.heap.size + 1 + 1; omega), heap_setCell_other _ _ _ _ (by show W.heap.size + 1 ≠ W.heap.size + 1 + 1; omega)]
        exact (HB6.out.block _ (by have := HZ3.out; omega)).trans hg1.out
      have HX7 := Lib.hid (show Row w7 q xs.length xs from by
        have hne : ∀ a, q = some a → a.block ≠ W.heap.size + 1 + 1 := fun a ha => by have h1 := HQ6.out a ha; have h2 := HZ3.out; omega
        rw [← hw7]; exact row_setX (row_setX (row_setX HX6.out hne) hne) hne)
      have HB7 := Lib.hid (show Below W.heap.size W w7 by rw [← hw7]; exact below456 (HBT.out.trans (HB6.out.mono HBT.out.size)) (by omega))
      have HR7 := Lib.hid q7
      have HNQ := Lib.hid (show ∀ a, q = some a → a.block ≠ W.heap.size + 1 from fun a ha => by have h1 := HQ6.out a ha; have h2 := HZ3.out; omega)
      obtain ⟨m0, m1, m2, m3, m4, m5, m6⟩ := cells7 r7
      obtain ⟨n0, n1, n2, n3, n4, n5, n6⟩ := cells7 q7
      have g0 := frozen_of_row w7 (W.heap.size + 1) 0 _ _ q7
      have g1 := frozen_of_row w7 (W.heap.size + 1) 1 _ _ q7
      have g2 := frozen_of_row w7 (W.heap.size + 1) 2 _ _ q7
      have g3 := frozen_of_row w7 (W.heap.size + 1) 3 _ _ q7
      have g4 := frozen_of_row w7 (W.heap.size + 1) 4 _ _ q7
      have g5 := frozen_of_row w7 (W.heap.size + 1) 5 _ _ q7
      have g6 := frozen_of_row w7 (W.heap.size + 1) 6 _ _ q7
      rw [hw7]
      clear k0 k1 k2 k3 k4 k5 k6 l0 l1 l2 l3 l4 l5 l6 f4 f5 f6 r7 q7 hw7 x0 x1 x2 x3 x4 x5 x6 HX6 HQ6 HB6 KY KP OF CL3 hg0 hg1 hg2 HZ3 HBT
      go_wp2_with fail
      refine call_ret (c := ⟨6, 0, 0, ⟨#[]⟩, who, ar, xs⟩) rfl _ _ (W.heap.size + 1) (.slice q xs.length k2') rfl rfl (s7_row HR7.out) ?_
      have hfin : RowX (s7 w7 (W.heap.size + 1) (.int .i64 6) (.int .i64 0) (.int .i64 0) (.string ⟨#[]⟩) (.int .i64 who) (.int .i64 ar) (.slice q xs.length k2')) (.slice q xs.length k2') xs := ⟨q, k2', rfl, by
        unfold s7
        exact row_setX (row_setX (row_setX (row_setX (row_setX (row_setX (row_setX HX7.out HNQ.out) HNQ.out) HNQ.out) HNQ.out) HNQ.out) HNQ.out) HNQ.out⟩
      exact ⟨.slice q xs.length k2', by rw [ho], by rw [ho]; exact hfin, s7_below HB7.out (by omega)⟩
  · have e1 : (kd == 1) = false := by simp [h1]
    have e2 : (kd == 2) = false := by simp [h2]
    have e3 : (kd == 3) = false := by simp [h3]
    have e4 : (kd == 4) = false := by simp [h4]
    have e6 : (kd == 6) = false := by simp [h6]
    have e7 : (kd == 7) = false := by simp [h7]
    have ho : ownC ⟨kd, n, dir, s, who, ar, xs⟩ = ⟨kd, 0, 0, ⟨#[]⟩, 0, 0, []⟩ := by unfold ownC; simp only [h1, h2, h3, h4, h6, h7, false_or, if_false]
    clear h1 h2 h3 h4 h6 h7
    go_enter Tryd.func16, Tryd.ntmps16
    go_wp2_with fail
    refine call_ret (c := ⟨kd, 0, 0, ⟨#[]⟩, 0, 0, []⟩) rfl _ _ (W.heap.size + 1) (.slice none 0 0) rfl rfl (tri _ _ _ _).1 ?_
    exact ⟨.slice none 0 0, by rw [ho], by rw [ho]; exact row_nilX _, (tri _ _ _ _).2⟩
end Go.Proofs.YtoejflnlkapkiaaDoor
