/- Put together by program (merge2.py): Times Once Wmp Shelb. -/
import Derived.WideKeyEntry
import Derived.DeepKeys4
import Derived.Shelf.Strings.Builder1
import Derived.Test.YtafmiilkdhdngaaGreatDoorR21
import Derived.Test.YtafmiilkdhdngaaGreatDoorR22
import Derived.Test.YtafmiilkdhdngaaGreatDoorR23
import Derived.Test.YtafmiilkdhdngaaGreatDoorR24
/- Package need: check and Times. -/
namespace Go.Proofs.YtafmiilkdhdngaaGreatDoor
open Go.ChangeShapes Go.WideShapes Go.ChangeAt Go.RowKit
set_option linter.unusedVariables false
/-- How often x is there. -/
def ntimes (x : Nam) : List Nam → Nat
  | [] => 0
  | y :: r => (if y = x then 1 else 0) + ntimes x r
/-- The four cells of a name. -/
def At4 (w : World) (b : Nat) (x : Nam) : Prop := w.cell? ⟨b, 0, none⟩ = some (.int .i64 x.k) ∧ w.cell? ⟨b, 1, none⟩ = some (.int .i64 x.n) ∧ w.cell? ⟨b, 2, none⟩ = some (.int .i64 x.m) ∧ w.cell? ⟨b, 3, none⟩ = some (.int .i64 x.d)
theorem At4.lt {w : World} {b : Nat} {x : Nam} (h : At4 w b x) : b < w.heap.size := block_lt_of_cell h.1
theorem At4.block {w w' : World} {b : Nat} {x : Nam} (h : At4 w b x) (hb : w'.heap[b]? = w.heap[b]?) : At4 w' b x :=
  ⟨(World.cell?_of_block hb).trans h.1, (World.cell?_of_block hb).trans h.2.1, (World.cell?_of_block hb).trans h.2.2.1, (World.cell?_of_block hb).trans h.2.2.2⟩
/-- What Times keeps: how often the name was told. -/
def InvT (lim T C : Nat) (x : Nam) (L : List Nam) (O : Nat → Prop) (w : World) : Prop := At4 w T x ∧ Bx w C 3 (.int .i64 (ntimes x L)) ∧ T ≠ C ∧ lim ≤ C ∧ ∀ X, O X ↔ X = C
theorem InvT.hlt {lim T C : Nat} {x : Nam} {L : List Nam} {O : Nat → Prop} {w : World} (h : InvT lim T C x L O w) : ∀ X, O X → lim ≤ X ∧ X < w.heap.size := fun X hX => by
  have e := (h.2.2.2.2 X).1 hX
  subst e
  exact ⟨h.2.2.2.1, h.2.1.lt⟩
theorem InvT.below {lim T C : Nat} {x : Nam} {L : List Nam} {O : Nat → Prop} {w w' : World} (h : InvT lim T C x L O w) (hb : Below w.heap.size w w') : InvT lim T C x L O w' :=
  ⟨h.1.block (hb.block T h.1.lt), h.2.1.below hb, h.2.2⟩
end Go.Proofs.YtafmiilkdhdngaaGreatDoor
/- Names, each just once; a map from names to how often they are there. -/
namespace Go.Proofs.YtafmiilkdhdngaaGreatDoor
open Go.ChangeShapes Go.WideShapes Go.ChangeAt Go.RowKit
set_option linter.unusedVariables false
open Go.WideMaps Go.MapKept Go.WideElems Go.ChangeMaps
/-- Each just once, where it comes first. -/
def onceA : List Nam → List Nam → List Nam
  | acc, [] => acc
  | acc, y :: r => onceA (if y ∈ acc then acc else acc ++ [y]) r
def once (l : List Nam) : List Nam := onceA [] l
/-- A block that is laid again as it is. -/
theorem setBlock_self {w : World} {b : Nat} {o : Obj} (h : w.heap[b]? = some o) : setBlock w b o = w := by
  unfold setBlock
  have hb : b < w.heap.size := Nat.lt_of_not_le fun hn => by rw [Array.getElem?_eq_none hn] at h; cases h
  have : w.heap.setIfInBounds b o = w.heap := by
    apply Array.ext_getElem?
    intro i
    rw [Array.getElem?_setIfInBounds]
    by_cases hi : b = i
    · subst hi; rw [if_pos rfl, if_pos hb, h]
    · rw [if_neg hi]
  first | rw [this] | (cases w; simp_all)
section
variable {P : Program} {k e t : TypeId}
theorem key_there (K : KeyLaw P k) (ht : P.underlying t = some (.map k e)) {w : World} {b clock : Nat} {es : Array MapEntry} (hb : w.heap[b]? = some (.map es clock)) (hk : ∀ x ∈ es.toList, ∃ l, keyOf P k x.key = some l) {key : Value} {kl : Lit} (hkey : keyOf P k key = some kl)
    {j : Nat} {e0 : MapEntry} (hj : es.toList[j]? = some e0) (he : e0.key = key) (hu : ∀ (i : Nat) x, es.toList[i]? = some x → x.key = key → i = j) (hn : (es.toList.map (·.born)).Nodup) :
    (Instr.lookup t (.map (some b)) key false).run P w = .ok e0.val w ∧ (Instr.mapEntry t (.map (some b)) key).run P w = .ok (.tuple #[e0.val, goInt e0.born]) w ∧
    ∀ val, (Instr.entryStore t (.map (some b)) (goInt e0.born) val).run P w = .ok () (setBlock w b (.map (es.modify j (fun x => { x with val := val })) clock)) := by
  rcases K.find w hkey es.toList hk with ⟨_, h2⟩ | ⟨i, x, h1, h2, h3⟩
  · exact absurd he (h2 e0 (List.mem_of_getElem? hj))
  · obtain rfl : i = j := hu i x h2 h3
    rw [hj] at h2
    cases h2
    have hj' : es[i]? = some e0 := by simpa using hj
    have hsame : es.modify i (fun x => { x with key := key }) = es := by
      apply Array.ext'
      rw [Array.toList_modify, modify_eq_set _ _ _ _ hj]
      have : ({ e0 with key := key } : MapEntry) = e0 := by rw [← he]
      rw [this]
      exact set_self _ _ _ hj
    refine ⟨?_, ?_, fun val => ?_⟩
    · simp [Instr.lookup, run_underlying ht, MapKept.run_getObj_map hb, K.check w es.isEmpty hkey, h1, Result.andThen]
    · have e2 := setBlock_self hb
      simp only [setBlock] at e2
      simp [Instr.mapEntry, run_underlying ht, MapKept.run_getObj_map hb, K.check w false hkey, h1, hj', he, K.stays w hkey, hsame, MapKept.run_setObj_map _ hb, Result.andThen, e2]
    · have hidx : es.findIdx? (fun x => ((x.born : Nat) : Int) == ((e0.born : Nat) : Int)) = some i := by
        rw [findIdx_arr]
        exact findIdx_born hn hj
      simp [Instr.entryStore, MapKept.run_getObj_map hb, asInt, asIntOf, goInt, hidx, MapKept.run_setObj_map _ hb, Result.andThen, setBlock]
theorem key_gone (K : KeyLaw P k) (ht : P.underlying t = some (.map k e)) {z : Value} (hz : ∀ u : World, (zeroValue e).run P u = .ok z u) {w : World} {b clock : Nat} {es : Array MapEntry} (hb : w.heap[b]? = some (.map es clock))
    (hk : ∀ x ∈ es.toList, ∃ l, keyOf P k x.key = some l) {key : Value} {kl : Lit} (hkey : keyOf P k key = some kl) (hne : ∀ x ∈ es.toList, x.key ≠ key) :
    (Instr.lookup t (.map (some b)) key false).run P w = .ok z w ∧
    (Instr.mapEntry t (.map (some b)) key).run P w = .ok (.tuple #[z, goInt clock]) (setBlock w b (.map (es.push ⟨key, z, clock⟩) (clock + 1))) := by
  rcases K.find w hkey es.toList hk with ⟨h1, h2⟩ | ⟨j, e0, h1, h2, h3⟩
  · constructor
    · simp [Instr.lookup, run_underlying ht, MapKept.run_getObj_map hb, K.check w es.isEmpty hkey, h1, hz, Result.andThen]
    · simp [Instr.mapEntry, run_underlying ht, MapKept.run_getObj_map hb, K.check w false hkey, h1, hz, MapKept.run_setObj_map _ hb, Result.andThen, setBlock]
  · exact absurd h3 (hne e0 (List.mem_of_getElem? h2))
end
end Go.Proofs.YtafmiilkdhdngaaGreatDoor
/- A map of the call's own that counts keys of two ints. -/
namespace Go.Proofs.YtafmiilkdhdngaaGreatDoor
open Go.ChangeShapes Go.WideShapes Go.ChangeAt Go.RowKit
set_option linter.unusedVariables false
open Go.WideMaps Go.MapKept Go.WideElems Go.ChangeMaps
set_option linter.unusedSimpArgs false
theorem zero_int' (u : World) : (zeroValue 3).run Tryz.prog u = .ok (.int .i64 0) u := by kernel_rfl
/-- The map's entries: the keys of m in their order, each with a count. -/
structure Cn (m : List En) (es : Array MapEntry) (clock N : Nat) : Prop where
  sz : es.size = m.length
  at' : ∀ (j : Nat) (e : En), m[j]? = some e → ∃ c t : Nat, es.toList[j]? = some ⟨kv e.a e.b, .int .i64 c, t⟩ ∧ 1 ≤ c ∧ c ≤ N
  bn : ∀ x ∈ es.toList, x.born < clock
  nd : (es.toList.map (·.born)).Nodup
  ap : Apart m
theorem Cn.nil : Cn [] #[] 0 0 := ⟨rfl, fun j e h => by simp at h, fun x h => by simp at h, List.nodup_nil, List.Pairwise.nil⟩
theorem Cn.get {m : List En} {es : Array MapEntry} {clock N : Nat} (h : Cn m es clock N) {i : Nat} {x : MapEntry} (hx : es.toList[i]? = some x) : ∃ (e : En) (c : Nat), m[i]? = some e ∧ x.key = kv e.a e.b ∧ x.val = .int .i64 c ∧ 1 ≤ c ∧ c ≤ N := by
  have hi : i < m.length := by rw [← h.sz, ← Array.length_toList]; exact (List.getElem?_eq_some_iff.1 hx).1
  obtain ⟨c, t, h1, h2, h3⟩ := h.at' i m[i] (List.getElem?_eq_getElem hi)
  rw [hx] at h1
  cases h1
  exact ⟨m[i], c, List.getElem?_eq_getElem hi, rfl, rfl, h2, h3⟩
theorem Cn.keys {m : List En} {es : Array MapEntry} {clock N : Nat} (h : Cn m es clock N) (hw : ∀ e ∈ m, e.inr') : ∀ x ∈ es.toList, ∃ l, keyOf Tryz.prog 39 x.key = some l := by
  intro x hx
  obtain ⟨i, hi⟩ := List.mem_iff_getElem?.1 hx
  obtain ⟨e, c, h1, h2, _⟩ := h.get hi
  rw [h2]
  have := hw e (List.mem_of_getElem? h1)
  exact kv_key _ _ this.1 this.2
theorem Cn.ne {m : List En} {es : Array MapEntry} {clock N : Nat} (h : Cn m es clock N) {a b : Int} (hh : hasE m a b = false) : ∀ x ∈ es.toList, x.key ≠ kv a b := by
  intro x hx he
  obtain ⟨i, hi⟩ := List.mem_iff_getElem?.1 hx
  obtain ⟨e, c, h1, h2, _⟩ := h.get hi
  rw [h2] at he
  rw [hasE_at h1 (kv_inj he)] at hh
  cases hh
theorem Cn.snoc {m : List En} {es : Array MapEntry} {clock N : Nat} (h : Cn m es clock N) (e : En) (hh : hasE m e.a e.b = false) (v : Value) (hv : v = .int .i64 1) : Cn (m ++ [e]) (es.push ⟨kv e.a e.b, v, clock⟩) (clock + 1) (N + 1) := by
  subst hv
  refine ⟨by rw [Array.size_push, h.sz, List.length_append, List.length_singleton], fun j x hj => ?_, fun x hx => ?_, ?_, apart_snoc h.ap hh⟩
  · by_cases hlt : j < m.length
    · rw [List.getElem?_append_left hlt] at hj
      obtain ⟨c, t, h1, h2, h3⟩ := h.at' j x hj
      refine ⟨c, t, ?_, h2, by omega⟩
      rw [Array.toList_push, List.getElem?_append_left (by rw [Array.length_toList, h.sz]; exact hlt)]
      exact h1
    · have hjm : j = m.length := by
        have := (List.getElem?_eq_some_iff.1 hj).1
        rw [List.length_append, List.length_singleton] at this
        omega
      subst hjm
      rw [List.getElem?_append_right (Nat.le_refl _), Nat.sub_self] at hj
      cases hj
      refine ⟨1, clock, ?_, by omega, by omega⟩
      rw [Array.toList_push, ← h.sz, ← Array.length_toList, List.getElem?_append_right (Nat.le_refl _), Nat.sub_self]
      rfl
  · rw [Array.toList_push] at hx
    rcases List.mem_append.1 hx with hx | hx
    · have := h.bn x hx; omega
    · rw [List.mem_singleton] at hx; subst hx; show clock < clock + 1; omega
  · rw [Array.toList_push, List.map_append]
    refine List.nodup_append.2 ⟨h.nd, by simp, fun x hx y hy e2 => ?_⟩
    simp only [List.map_cons, List.map_nil, List.mem_singleton] at hy
    obtain ⟨z, hz, rfl⟩ := List.mem_map.1 hx
    have := h.bn z hz
    omega
/-- A key that is not there: its count is none, and then one. -/
theorem cn_gone {m : List En} {es : Array MapEntry} {clock N : Nat} (h : Cn m es clock N) (hw : ∀ e ∈ m, e.inr') (e : En) (he : e.inr') (hh : hasE m e.a e.b = false) (u : World) (g : Nat) (hg : u.heap[g]? = some (.map es clock)) :
    (Instr.lookup 46 (.map (some g)) (.agg #[.int .i64 e.a, .int .i64 e.b]) false).run Tryz.prog u = .ok (.int .i64 0) u ∧
    (Instr.mapEntry 46 (.map (some g)) (.agg #[.int .i64 e.a, .int .i64 e.b])).run Tryz.prog u = .ok (.tuple #[.int .i64 0, goInt clock]) (setBlock u g (.map (es.push ⟨kv e.a e.b, .int .i64 0, clock⟩) (clock + 1))) := by
  obtain ⟨kl, hkl⟩ := kv_key _ _ he.1 he.2
  exact key_gone key_law Tryz.underlying46 zero_int' hg (h.keys hw) hkl (h.ne hh)
theorem cn_pushed {m : List En} {es : Array MapEntry} {clock N : Nat} (h : Cn m es clock N) (hw : ∀ e ∈ m, e.inr') (e : En) (he : e.inr') (hh : hasE m e.a e.b = false) (u : World) (g : Nat) (hg : u.heap[g]? = some (.map (es.push ⟨kv e.a e.b, .int .i64 0, clock⟩) (clock + 1))) :
    (Instr.lookup 46 (.map (some g)) (.agg #[.int .i64 e.a, .int .i64 e.b]) false).run Tryz.prog u = .ok (.int .i64 0) u ∧
    (Instr.entryStore 46 (.map (some g)) (goInt clock) (.int .i64 1)).run Tryz.prog u = .ok () (setBlock u g (.map (es.push ⟨kv e.a e.b, .int .i64 1, clock⟩) (clock + 1))) := by
  obtain ⟨kl, hkl⟩ := kv_key _ _ he.1 he.2
  have hj : (es.push ⟨kv e.a e.b, .int .i64 0, clock⟩).toList[es.size]? = some ⟨kv e.a e.b, .int .i64 0, clock⟩ := by
    rw [Array.toList_push, ← Array.length_toList, List.getElem?_append_right (Nat.le_refl _), Nat.sub_self]; rfl
  have hnd : ((es.push ⟨kv e.a e.b, .int .i64 0, clock⟩).toList.map (·.born)).Nodup := by
    rw [Array.toList_push, List.map_append]
    refine List.nodup_append.2 ⟨h.nd, by simp, fun x hx y hy e2 => ?_⟩
    simp only [List.map_cons, List.map_nil, List.mem_singleton] at hy
    obtain ⟨z, hz, rfl⟩ := List.mem_map.1 hx
    have := h.bn z hz
    omega
  obtain ⟨r1, _, r3⟩ := key_there key_law Tryz.underlying46 hg (fun x hx => by
      rw [Array.toList_push] at hx
      rcases List.mem_append.1 hx with hx | hx
      · exact h.keys hw x hx
      · rw [List.mem_singleton] at hx; subst hx; exact ⟨kl, hkl⟩) hkl hj rfl (fun i x hi h2 => by
      rw [Array.toList_push] at hi
      by_cases hlt : i < es.toList.length
      · rw [List.getElem?_append_left hlt] at hi
        exact absurd h2 (h.ne hh x (List.mem_of_getElem? hi))
      · have h3 := (List.getElem?_eq_some_iff.1 hi).1
        rw [List.length_append, List.length_singleton] at h3
        rw [← Array.length_toList]; omega) hnd
  refine ⟨r1, ?_⟩
  have h2 := r3 (.int .i64 1)
  have hmod : (es.push ⟨kv e.a e.b, .int .i64 0, clock⟩).modify es.size (fun e => { e with val := .int .i64 1 }) = es.push ⟨kv e.a e.b, .int .i64 1, clock⟩ := by
    apply Array.ext'
    rw [Array.toList_modify, Array.toList_push, Array.toList_push, ← Array.length_toList, modify_last]
  rw [hmod] at h2
  exact h2
/-- A key that is there: one more. -/
theorem cn_there {m : List En} {es : Array MapEntry} {clock N : Nat} (h : Cn m es clock N) (hw : ∀ e ∈ m, e.inr') {a b : Int} (hh : hasE m a b = true) :
    ∃ (c st : Nat) (es' : Array MapEntry), 1 ≤ c ∧ c ≤ N ∧ Cn m es' clock (N + 1) ∧ ∀ (u : World) (g : Nat), u.heap[g]? = some (.map es clock) →
      (Instr.lookup 46 (.map (some g)) (.agg #[.int .i64 a, .int .i64 b]) false).run Tryz.prog u = .ok (.int .i64 c) u ∧
      (Instr.mapEntry 46 (.map (some g)) (.agg #[.int .i64 a, .int .i64 b])).run Tryz.prog u = .ok (.tuple #[.int .i64 c, goInt st]) u ∧
      (Instr.entryStore 46 (.map (some g)) (goInt st) (.int .i64 ((c : Int) + 1))).run Tryz.prog u = .ok () (setBlock u g (.map es' clock)) := by
  obtain ⟨e, he, rfl, rfl⟩ := hasE_some hh
  obtain ⟨j, hj⟩ := List.mem_iff_getElem?.1 he
  obtain ⟨c, t, h1, h2, h3⟩ := h.at' j e hj
  have hin := hw e he
  obtain ⟨kl, hkl⟩ := kv_key _ _ hin.1 hin.2
  refine ⟨c, t, es.modify j (fun x => { x with val := .int .i64 ((c : Int) + 1) }), h2, h3, ?_, fun u g hg => ?_⟩
  · refine ⟨by rw [Array.size_modify]; exact h.sz, fun i x hi => ?_, fun x hx => ?_, ?_, h.ap⟩
    · obtain ⟨c', t', g1, g2, g3⟩ := h.at' i x hi
      rw [Array.toList_modify, List.getElem?_modify]
      by_cases hji : j = i
      · subst hji
        rw [hj] at hi
        cases hi
        exact ⟨c + 1, t, by rw [h1]; simp, by omega, by omega⟩
      · exact ⟨c', t', by rw [g1]; simp [hji], g2, by omega⟩
    · obtain ⟨i, hi⟩ := List.mem_iff_getElem?.1 hx
      rw [Array.toList_modify, List.getElem?_modify] at hi
      obtain ⟨y, hy, h4⟩ := Option.map_eq_some_iff.1 hi
      have := h.bn y (List.mem_of_getElem? hy)
      split at h4 <;> (subst h4; exact this)
    · have : (es.modify j (fun x => { x with val := .int .i64 ((c : Int) + 1) })).toList.map (·.born) = es.toList.map (·.born) := by
        rw [Array.toList_modify]
        apply List.ext_getElem?
        intro i
        rw [List.getElem?_map, List.getElem?_map, List.getElem?_modify]
        cases es.toList[i]? with
        | none => rfl
        | some y => simp only [Option.map_some]; split <;> rfl
      rw [this]; exact h.nd
  · obtain ⟨r1, r2, r3⟩ := key_there key_law Tryz.underlying46 hg (h.keys hw) hkl h1 rfl (fun i x hi hx => by
      obtain ⟨e', c', g1, g2, _⟩ := h.get hi
      rw [g2] at hx
      obtain ⟨k1, k2⟩ := kv_inj hx
      have hi' := (List.getElem?_eq_some_iff.1 g1)
      have hj' := (List.getElem?_eq_some_iff.1 hj)
      obtain ⟨hi1, hi2⟩ := hi'
      obtain ⟨hj1, hj2⟩ := hj'
      have ap := List.pairwise_iff_getElem.1 h.ap
      rcases Nat.lt_trichotomy i j with hl | hl | hl
      · exact absurd ⟨by rw [hi2, hj2]; exact k1, by rw [hi2, hj2]; exact k2⟩ (ap i j hi1 hj1 hl)
      · exact hl
      · exact absurd ⟨by rw [hi2, hj2]; exact k1.symm, by rw [hi2, hj2]; exact k2.symm⟩ (ap j i hj1 hi1 hl)) h.nd
    exact ⟨r1, r2, r3 _⟩
end Go.Proofs.YtafmiilkdhdngaaGreatDoor
/- The library's contracts at this program (this seat alone: its numbers; written by gensheld.py). -/
namespace Go.Proofs.YtafmiilkdhdngaaGreatDoor
open Go.Shelf Go.ChangeShapes Go.WideShapes Go.ChangeAt Go.RowKit
def lays170_ren : Go.Shelf.Ren := ⟨fun | 170 => 21 | n => n, fun | 70 => 48 | 3 => 3 | 0 => 0 | 72 => 51 | 37 => 49 | 5 => 5 | n => n, fun | n => n⟩
theorem lays170 : Go.Proofs.Lays.n170 Tryz.prog lays170_ren := {
  mixed := by kernel_rfl
  f170 := Tryz.func21.trans (congrArg some (by kernel_rfl))
  t0 := Tryz.underlying0
  a0 := Tryz.isAgg0
  z0 := Tryz.sizeOf0
  v0 := Tryz.zeroValue0
  t3 := Tryz.underlying3
  a3 := Tryz.isAgg3
  z3 := Tryz.sizeOf3
  v3 := Tryz.zeroValue3
  t37 := Tryz.underlying49
  a37 := Tryz.isAgg49
  z37 := Tryz.sizeOf49
  v37 := Tryz.zeroValue49
  t70 := Tryz.underlying48
  a70 := Tryz.isAgg48
  z70 := Tryz.sizeOf48
  v70 := Tryz.zeroValue48
  t72 := Tryz.underlying51
  a72 := Tryz.isAgg51
  z72 := Tryz.sizeOf51
  v72 := Tryz.zeroValue51 }
open Go.RowKit in
theorem c_b_Len (B b : Nat) (bs : List Value) (w : World) (h : Lib.IsBuilder 51 5 B b bs w) :
    Calls Tryz.prog 21 #[.pointer (some ⟨b, 0, none⟩)] w fun e w' => e = .returned (.int .i64 bs.length) ∧ w' = w := Any.Builder_Len lays170 B b bs w h
def lays169_ren : Go.Shelf.Ren := ⟨fun | 169 => 22 | n => n, fun | 70 => 48 | 9 => 9 | 0 => 0 | 72 => 51 | 37 => 49 | 127 => 84 | 3 => 3 | 5 => 5 | n => n, fun | n => n⟩
theorem lays169 : Go.Proofs.Lays.n169 Tryz.prog lays169_ren := {
  mixed := by kernel_rfl
  f169 := Tryz.func22.trans (congrArg some (by kernel_rfl))
  t0 := Tryz.underlying0
  a0 := Tryz.isAgg0
  z0 := Tryz.sizeOf0
  v0 := Tryz.zeroValue0
  t3 := Tryz.underlying3
  a3 := Tryz.isAgg3
  z3 := Tryz.sizeOf3
  v3 := Tryz.zeroValue3
  t9 := Tryz.underlying9
  a9 := Tryz.isAgg9
  z9 := Tryz.sizeOf9
  v9 := Tryz.zeroValue9
  t37 := Tryz.underlying49
  a37 := Tryz.isAgg49
  z37 := Tryz.sizeOf49
  v37 := Tryz.zeroValue49
  t70 := Tryz.underlying48
  a70 := Tryz.isAgg48
  z70 := Tryz.sizeOf48
  v70 := Tryz.zeroValue48
  t72 := Tryz.underlying51
  a72 := Tryz.isAgg51
  z72 := Tryz.sizeOf51
  v72 := Tryz.zeroValue51
  t127 := Tryz.underlying84
  a127 := Tryz.isAgg84
  z127 := Tryz.sizeOf84
  v127 := Tryz.zeroValue84 }
theorem Builder_Extra_169 : Builder.Extra Tryz.prog lays169_ren := {
  sizeBuilder := by kernel_rfl
  liesBuilder := by kernel_rfl
  t5 := Tryz.underlying5
  a5 := Tryz.isAgg5
  z5 := Tryz.sizeOf5
  v5 := Tryz.zeroValue5
  infoByte := by kernel_rfl
  cellsByte := by kernel_rfl
  sizeByte := by kernel_rfl
  neB5 := by decide }
open Go.RowKit in
theorem c_b_String (B b : Nat) (l : List UInt8) (w : World) (h : Lib.IsBuilder 51 5 B b (Lib.byteCells l) w) (hBw : B ≤ w.heap.size) :
    Calls Tryz.prog 22 #[.pointer (some ⟨b, 0, none⟩)] w fun e w' => e = .returned (.string ⟨l.toArray⟩) ∧ Below B w w' := Any.Builder_String_any lays169 Builder_Extra_169 B b l w h hBw
theorem lays240 : Go.Proofs.Lays.n240 Tryz.prog lays156_ren := {
  mixed := lays156.mixed
  f240 := lays156.f240
  f276 := lays156.f276
  t0 := lays156.t0
  a0 := lays156.a0
  z0 := lays156.z0
  v0 := lays156.v0
  t4 := lays156.t4
  a4 := lays156.a4
  z4 := lays156.z4
  v4 := lays156.v4
  t9 := lays156.t9
  a9 := lays156.a9
  z9 := lays156.z9
  v9 := lays156.v9
  t20 := lays156.t20
  a20 := lays156.a20
  z20 := lays156.z20
  v20 := lays156.v20
  t70 := lays156.t70
  a70 := lays156.a70
  z70 := lays156.z70
  v70 := lays156.v70
  t72 := lays156.t72
  a72 := lays156.a72
  z72 := lays156.z72
  v72 := lays156.v72
  t164 := lays156.t164
  a164 := lays156.a164
  z164 := lays156.z164
  v164 := lays156.v164 }
end Go.Proofs.YtafmiilkdhdngaaGreatDoor
