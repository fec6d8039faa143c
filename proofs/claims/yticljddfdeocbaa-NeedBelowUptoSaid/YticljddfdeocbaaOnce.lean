/- Names, each just once; a map from names to how often they are there. -/
import Derived.Test.YticljddfdeocbaaTimes
import Derived.WideKeyEntry
import Derived.DeepKeys4
namespace Go.Proofs.Yticljddfdeocbaa
open Go.ChangeShapes Go.WideShapes Go.ChangeAt Go.RowKit
set_option linter.unusedVariables false
open Go.WideMaps Go.MapKept Go.WideElems Go.ChangeMaps
/-- Each just once, where it comes first. -/
def onceA : List Nam → List Nam → List Nam
  | acc, [] => acc
  | acc, y :: r => onceA (if y ∈ acc then acc else acc ++ [y]) r
def once (l : List Nam) : List Nam := onceA [] l
theorem onceA_append : ∀ (acc a b : List Nam), onceA acc (a ++ b) = onceA (onceA acc a) b
  | acc, [], b => rfl
  | acc, y :: r, b => by rw [List.cons_append, onceA, onceA, onceA_append]
theorem once_snoc (l : List Nam) (x : Nam) : once (l ++ [x]) = if x ∈ once l then once l else once l ++ [x] := by
  unfold once; rw [onceA_append, onceA, onceA]
theorem onceA_mem : ∀ (acc l : List Nam) (x : Nam), x ∈ onceA acc l ↔ x ∈ acc ∨ x ∈ l
  | acc, [], x => by simp [onceA]
  | acc, y :: r, x => by
    rw [onceA, onceA_mem]
    by_cases h : y ∈ acc
    · rw [if_pos h]
      constructor
      · rintro (h1 | h1)
        · exact .inl h1
        · exact .inr (List.mem_cons_of_mem _ h1)
      · rintro (h1 | h1)
        · exact .inl h1
        · rcases List.mem_cons.1 h1 with rfl | h1
          · exact .inl h
          · exact .inr h1
    · rw [if_neg h]
      simp only [List.mem_append, List.mem_cons, List.not_mem_nil, or_false]
      exact or_assoc
theorem once_mem (l : List Nam) (x : Nam) : x ∈ once l ↔ x ∈ l := by unfold once; rw [onceA_mem]; simp
theorem onceA_nodup : ∀ (acc l : List Nam), acc.Nodup → (onceA acc l).Nodup
  | acc, [], h => h
  | acc, y :: r, h => by
    rw [onceA]
    refine onceA_nodup _ r ?_
    by_cases hy : y ∈ acc
    · rw [if_pos hy]; exact h
    · rw [if_neg hy]
      refine List.nodup_append.2 ⟨h, by simp, fun a ha b hb e => ?_⟩
      simp only [List.mem_singleton] at hb
      subst hb
      subst e
      exact hy ha
theorem once_nodup (l : List Nam) : (once l).Nodup := onceA_nodup [] l List.nodup_nil
theorem onceA_len : ∀ (acc l : List Nam), (onceA acc l).length ≤ acc.length + l.length
  | acc, [] => by simp [onceA]
  | acc, y :: r => by
    rw [onceA, List.length_cons]
    by_cases h : y ∈ acc
    · rw [if_pos h]; have := onceA_len acc r; omega
    · rw [if_neg h]; have := onceA_len (acc ++ [y]) r; rw [List.length_append, List.length_singleton] at this; omega
theorem once_len (l : List Nam) : (once l).length ≤ l.length := by have := onceA_len [] l; unfold once; simpa using this
theorem ntimes_zero (x : Nam) : ∀ l : List Nam, ntimes x l = 0 ↔ x ∉ l
  | [] => by simp [ntimes]
  | y :: r => by
    rw [ntimes, List.mem_cons]
    by_cases h : y = x
    · subst h; simp
    · have h2 : ¬ x = y := fun e => h e.symm
      rw [if_neg h, Nat.zero_add, ntimes_zero x r]
      simp [h2]
/-- The entries of the map: each name, how often it was told, when it came in. -/
def entsA (c : Nam → Nat) : Nat → List Nam → List MapEntry
  | _, [] => []
  | j, y :: r => ⟨y.val, .int .i64 (c y), j⟩ :: entsA c (j + 1) r
theorem entsA_len (c : Nam → Nat) : ∀ (j : Nat) (l : List Nam), (entsA c j l).length = l.length
  | _, [] => rfl
  | j, y :: r => by rw [entsA, List.length_cons, List.length_cons, entsA_len c (j + 1) r]
theorem entsA_get (c : Nam → Nat) : ∀ (j : Nat) (l : List Nam) (i : Nat) (h : i < l.length), (entsA c j l)[i]? = some ⟨l[i].val, .int .i64 (c l[i]), j + i⟩
  | _, [], _, h => by simp at h
  | j, y :: r, 0, _ => rfl
  | j, y :: r, i + 1, h => by
    rw [entsA, List.getElem?_cons_succ, entsA_get c (j + 1) r i (by simpa using h)]
    simp only [List.getElem_cons_succ]
    congr 2
    omega
theorem entsA_mem (c : Nam → Nat) : ∀ (j : Nat) (l : List Nam) (e : MapEntry), e ∈ entsA c j l → ∃ y ∈ l, e.key = y.val
  | _, [], e, h => by simp [entsA] at h
  | j, y :: r, e, h => by
    rw [entsA] at h
    rcases List.mem_cons.1 h with rfl | h
    · exact ⟨y, List.mem_cons_self .., rfl⟩
    · obtain ⟨z, hz, e2⟩ := entsA_mem c (j + 1) r e h
      exact ⟨z, List.mem_cons_of_mem _ hz, e2⟩
theorem entsA_snoc (c : Nam → Nat) (x : Nam) : ∀ (j : Nat) (l : List Nam), entsA c j (l ++ [x]) = entsA c j l ++ [⟨x.val, .int .i64 (c x), j + l.length⟩]
  | j, [] => by simp [entsA]
  | j, y :: r => by
    rw [List.cons_append, entsA, entsA_snoc c x (j + 1) r, entsA]
    simp only [List.length_cons, List.cons_append]
    congr 3
    congr 1
    omega
theorem entsA_congr (c c' : Nam → Nat) : ∀ (j : Nat) (l : List Nam), (∀ y ∈ l, c y = c' y) → entsA c j l = entsA c' j l
  | _, [], _ => rfl
  | j, y :: r, h => by rw [entsA, entsA, h y (List.mem_cons_self ..), entsA_congr c c' (j + 1) r (fun z hz => h z (List.mem_cons_of_mem _ hz))]
theorem entsA_modify (c c' : Nam → Nat) : ∀ (j : Nat) (l : List Nam) (i : Nat) (h : i < l.length), (∀ k (hk : k < l.length), k ≠ i → c' l[k] = c l[k]) → (entsA c j l).modify i (fun e => { e with val := .int .i64 (c' l[i] : Nat) }) = entsA c' j l
  | _, [], _, h, _ => by simp at h
  | j, y :: r, 0, _, hc => by
    rw [entsA, entsA, List.modify_zero_cons]
    congr 1
    refine entsA_congr c c' (j + 1) r (fun z hz => ?_)
    obtain ⟨k, hk, rfl⟩ := List.getElem_of_mem hz
    have := hc (k + 1) (by simpa using hk) (by omega)
    simpa using this.symm
  | j, y :: r, i + 1, h, hc => by
    rw [entsA, entsA, List.modify_succ_cons]
    have h0 := hc 0 (by simp) (by omega)
    simp only [List.getElem_cons_zero] at h0
    rw [h0]
    congr 1
    have := entsA_modify c c' (j + 1) r i (by simpa using h) (fun k hk hne => by have := hc (k + 1) (by simpa using hk) (by omega); simpa using this)
    simpa using this
theorem entsA_born (c : Nam → Nat) : ∀ (j : Nat) (l : List Nam), (∀ e ∈ entsA c j l, j ≤ e.born) ∧ ((entsA c j l).map (·.born)).Nodup
  | _, [] => by simp [entsA]
  | j, y :: r => by
    obtain ⟨h1, h2⟩ := entsA_born c (j + 1) r
    rw [entsA]
    refine ⟨fun e he => ?_, ?_⟩
    · rcases List.mem_cons.1 he with rfl | he
      · exact Nat.le_refl _
      · have := h1 e he; omega
    · rw [List.map_cons, List.nodup_cons]
      refine ⟨fun hm => ?_, h2⟩
      obtain ⟨e, he, e2⟩ := List.mem_map.1 hm
      have := h1 e he
      simp only at e2
      omega
/-- A block that is laid again as it is. -/
theorem setBlock_self {w : World} {b : Nat} {o : Obj} (h : w.heap[b]? = some o) : setBlock w b o = w := by
  unfold setBlock
  have hb : b < w.heap.size := Nat.lt_of_not_le fun hn => by rw [Array.getElem?_eq_none hn] at h; cases h
  have : w.heap.setIfInBounds b o = w.heap := by
    apply Array.ext_getElem?
    intro i
    rw [Array.getElem?_setIfInBounds]
    by_cases hi : b = i
    · subst hi; rw [if_pos rfl, if_pos hb, h]
    · rw [if_neg hi]
  first | rw [this] | (cases w; simp_all)
section
variable {P : Program} {k e t : TypeId}
theorem key_there (K : KeyLaw P k) (ht : P.underlying t = some (.map k e)) {w : World} {b clock : Nat} {es : Array MapEntry} (hb : w.heap[b]? = some (.map es clock)) (hk : ∀ x ∈ es.toList, ∃ l, keyOf P k x.key = some l) {key : Value} {kl : Lit} (hkey : keyOf P k key = some kl)
    {j : Nat} {e0 : MapEntry} (hj : es.toList[j]? = some e0) (he : e0.key = key) (hu : ∀ (i : Nat) x, es.toList[i]? = some x → x.key = key → i = j) (hn : (es.toList.map (·.born)).Nodup) :
    (Instr.lookup t (.map (some b)) key false).run P w = .ok e0.val w ∧ (Instr.mapEntry t (.map (some b)) key).run P w = .ok (.tuple #[e0.val, goInt e0.born]) w ∧
    ∀ val, (Instr.entryStore t (.map (some b)) (goInt e0.born) val).run P w = .ok () (setBlock w b (.map (es.modify j (fun x => { x with val := val })) clock)) := by
  rcases K.find w hkey es.toList hk with ⟨_, h2⟩ | ⟨i, x, h1, h2, h3⟩
  · exact absurd he (h2 e0 (List.mem_of_getElem? hj))
  · obtain rfl : i = j := hu i x h2 h3
    rw [hj] at h2
    cases h2
    have hj' : es[i]? = some e0 := by simpa using hj
    have hsame : es.modify i (fun x => { x with key := key }) = es := by
      apply Array.ext'
      rw [Array.toList_modify, modify_eq_set _ _ _ _ hj]
      have : ({ e0 with key := key } : MapEntry) = e0 := by rw [← he]
      rw [this]
      exact set_self _ _ _ hj
    refine ⟨?_, ?_, fun val => ?_⟩
    · simp [Instr.lookup, run_underlying ht, MapKept.run_getObj_map hb, K.check w es.isEmpty hkey, h1, Result.andThen]
    · have e2 := setBlock_self hb
      simp only [setBlock] at e2
      simp [Instr.mapEntry, run_underlying ht, MapKept.run_getObj_map hb, K.check w false hkey, h1, hj', he, K.stays w hkey, hsame, MapKept.run_setObj_map _ hb, Result.andThen, e2]
    · have hidx : es.findIdx? (fun x => ((x.born : Nat) : Int) == ((e0.born : Nat) : Int)) = some i := by
        rw [findIdx_arr]
        exact findIdx_born hn hj
      simp [Instr.entryStore, MapKept.run_getObj_map hb, asInt, asIntOf, goInt, hidx, MapKept.run_setObj_map _ hb, Result.andThen, setBlock]
theorem key_gone (K : KeyLaw P k) (ht : P.underlying t = some (.map k e)) {z : Value} (hz : ∀ u : World, (zeroValue e).run P u = .ok z u) {w : World} {b clock : Nat} {es : Array MapEntry} (hb : w.heap[b]? = some (.map es clock))
    (hk : ∀ x ∈ es.toList, ∃ l, keyOf P k x.key = some l) {key : Value} {kl : Lit} (hkey : keyOf P k key = some kl) (hne : ∀ x ∈ es.toList, x.key ≠ key) :
    (Instr.lookup t (.map (some b)) key false).run P w = .ok z w ∧
    (Instr.mapEntry t (.map (some b)) key).run P w = .ok (.tuple #[z, goInt clock]) (setBlock w b (.map (es.push ⟨key, z, clock⟩) (clock + 1))) := by
  rcases K.find w hkey es.toList hk with ⟨h1, h2⟩ | ⟨j, e0, h1, h2, h3⟩
  · constructor
    · simp [Instr.lookup, run_underlying ht, MapKept.run_getObj_map hb, K.check w es.isEmpty hkey, h1, hz, Result.andThen]
    · simp [Instr.mapEntry, run_underlying ht, MapKept.run_getObj_map hb, K.check w false hkey, h1, hz, MapKept.run_setObj_map _ hb, Result.andThen, setBlock]
  · exact absurd h3 (hne e0 (List.mem_of_getElem? h2))
end
end Go.Proofs.Yticljddfdeocbaa
