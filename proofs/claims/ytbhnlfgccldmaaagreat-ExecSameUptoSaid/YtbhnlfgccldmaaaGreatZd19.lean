/- Put together by program (merge2.py): Gated Conv Exa Small Jumps Small2 Half Small3. -/
import Derived.Deep.RegionHeld3
import Derived.StillTailTactics
import Derived.WalkMore
import Derived.ScopeJumps
import Derived.Outline
import Derived.Test.YtbhnlfgccldmaaaGreatZd1
import Derived.Test.YtbhnlfgccldmaaaGreatZd11
import Derived.Test.YtbhnlfgccldmaaaGreatZd12
import Derived.Test.YtbhnlfgccldmaaaGreatZd13
import Derived.Test.YtbhnlfgccldmaaaGreatZd14
import Derived.Test.YtbhnlfgccldmaaaGreatZd15
import Derived.Test.YtbhnlfgccldmaaaGreatZd17
import Derived.Test.YtbhnlfgccldmaaaGreatZd18
/- A region that draws its order: what holds of the world until its first store. -/
namespace Go.Proofs.YtbhnlfgccldmaaaGreat
open Go.ChangeShapes Go.WideShapes Go.ChangeAt Go.RowKit
set_option linter.unusedVariables false
section
variable {P : Program} {ops : Array Oper} {Q : Exit → Act → World → Prop} {md : Region.Mode} {S : World → Prop} {s : Nat}
/-- Whatever order is picked: S holds behind every operation that comes up before number s. -/
def wpGate (P : Program) (md : Region.Mode) (ops : Array Oper) (Q : Exit → Act → World → Prop) (S : World → Prop) (s : Nat) : Nat → Array Bool → Act → World → Prop
  | 0, listed, a, w => Region.ready md ops listed = [] ∧ Q .normal a w
  | fuel + 1, listed, a, w =>
    (Region.ready md ops listed = [] → Q .normal a w) ∧
    ∀ i ∈ Region.ready md ops listed, wpOp P ops Q i (fun a' w' => ((listed.setIfInBounds i true).getD s true = false → S w') ∧ wpGate P md ops Q S s fuel (listed.setIfInBounds i true) a' w') a w
theorem wpAny_of_gate : ∀ (fuel : Nat) (listed : Array Bool) (a : Act) (w : World), wpGate P md ops Q S s fuel listed a w → wpAny P md ops Q fuel listed a w
  | 0, _, _, _, h => h
  | fuel + 1, _, _, _, h => ⟨h.1, fun i hi => wpOp_mono (fun a' w' h' => wpAny_of_gate fuel _ a' w' h'.2) (h.2 i hi)⟩
/-- Number s waits for number i. -/
def waitsB (md : Region.Mode) (ops : Array Oper) (s i : Nat) : Bool := match ops[s]? with
  | some o => s != i && o.after.any fun e => Region.binds md e && e.on == i
  | none => false
theorem waits_ready {i : Nat} {listed : Array Bool} (h : waitsB md ops s i = true) (hu : listed.getD i true = false) : s ≠ i ∧ s ∉ Region.ready md ops listed := by
  unfold waitsB at h
  cases ho : ops[s]? with
  | none => rw [ho] at h; cases h
  | some o =>
    rw [ho] at h
    simp only [Bool.and_eq_true, bne_iff_ne, ne_eq, Array.any_eq_true'] at h
    obtain ⟨hne, e, he, hb, hi⟩ := h
    refine ⟨hne, fun hr => ?_⟩
    obtain ⟨_, o', ho', hall⟩ := mem_ready.1 hr
    rw [ho] at ho'
    cases ho'
    have h1 := hall e he hb
    have hi' : e.on = i := by simpa using hi
    rw [hi'] at h1
    rcases Nat.lt_or_ge i listed.size with h' | h'
    · simp [h'] at hu h1; rw [hu] at h1; cases h1
    · simp [Array.getElem?_eq_none h'] at hu
theorem gate_first {i : Nat} {oi : Oper} {v : Value} (hi : ops[i]? = some oi) (hsel : ∀ (j : Nat) (o : Oper) cs b, ops[j]? = some o → o.op ≠ .select cs b)
    (hQ : ∀ c a w, Q (.panic c) (a.put oi.dst v) w → Q (.panic c) a w) (hwt : waitsB md ops s i = true) :
    ∀ (fuel : Nat) (listed : Array Bool) (a : Act) (w : World),
      (∀ j oj, ops[j]? = some oj → j ≠ i → listed.getD j true = false → (∀ e ∈ oj.after, Region.binds md e = true → e.on ≠ i) → oi.apart ops oj = true) →
      i ∈ Region.ready md ops listed → YieldsIf P ops S oi v a → listed.getD s true = false → S w →
      wpGate P md ops Q S s fuel (listed.setIfInBounds i true) (a.put oi.dst v) w → wpGate P md ops Q S s (fuel + 1) listed a w := by
  intro fuel
  induction fuel with
  | zero =>
    intro listed a w _ hr hy _ hS H
    refine ⟨fun h => (by rw [h] at hr; cases hr), fun j hj => ?_⟩
    by_cases hji : j = i
    · subst hji; exact hy.wpOp hi hS ⟨fun _ => hS, H⟩
    · have := ready_mono hj hji
      rw [H.1] at this
      cases this
  | succ fuel ih =>
    intro listed a w hfree hr hy hu hS H
    have hui := (mem_ready.1 hr).1
    obtain ⟨hsi, hsr⟩ := waits_ready hwt hui
    refine ⟨fun h => (by rw [h] at hr; cases hr), fun j hj => ?_⟩
    by_cases hji : j = i
    · subst hji; exact hy.wpOp hi hS ⟨fun _ => hS, H⟩
    · have hjs : j ≠ s := fun e => hsr (e ▸ hj)
      have h1 := H.2 j (ready_mono hj hji)
      obtain ⟨hjun, oj, hoj, hall⟩ := mem_ready.1 hj
      have hnot : ∀ e ∈ oj.after, Region.binds md e = true → e.on ≠ i := fun e he hb heq => by
        have h1 := hall e he hb
        rw [heq] at h1
        rcases Nat.lt_or_ge i listed.size with h' | h'
        · simp [h'] at hui h1; rw [hui] at h1; cases h1
        · simp [Array.getElem?_eq_none h'] at hui
      have h2 := wpOp_putIf hoj (hfree j oj hoj hji hjun hnot) (fun cs b => hsel i oi cs b hi) (fun cs b => hsel j oj cs b hoj) hQ hy h1
      have hfree' : ∀ k ok, ops[k]? = some ok → k ≠ i → (listed.setIfInBounds j true).getD k true = false →
          (∀ e ∈ ok.after, Region.binds md e = true → e.on ≠ i) → oi.apart ops ok = true := fun k ok hk hki hun hno => by
        refine hfree k ok hk hki ?_ hno
        by_cases hjk : j = k
        · subst hjk; exact hjun
        · rw [Go.getD_set_ne true hjk] at hun; exact hun
      have hu2 : (listed.setIfInBounds j true).getD s true = false := by rw [Go.getD_set_ne true hjs]; exact hu
      have hu3 : ((listed.setIfInBounds i true).setIfInBounds j true).getD s true = false := by rw [Go.getD_set_ne true hjs, Go.getD_set_ne true (Ne.symm hsi)]; exact hu
      refine wpOp_mono (fun a' w' h3 => ⟨fun _ => h3.2.1 hu3, ih (listed.setIfInBounds j true) a' w' hfree' (ready_mono hr (Ne.symm hji)) h3.1 hu2 (h3.2.1 hu3) ?_⟩) h2
      rw [Array.setIfInBounds_comm _ _ hji]
      exact h3.2.2
theorem gate_take {i : Nat} {oi : Oper} {v : Value} {fuel : Nat} {listed : Array Bool} {a : Act} {w : World} (hi : ops[i]? = some oi)
    (hs : Region.noSelect ops = true) (hf : Region.free md ops listed i = true) (hr : (Region.ready md ops listed).contains i = true) (hwt : waitsB md ops s i = true) (hu : listed.getD s true = false)
    (hQ : ∀ c a w, Q (.panic c) (a.put oi.dst v) w → Q (.panic c) a w) (hy : YieldsIf P ops S oi v a) (hS : S w)
    (h : wpGate P md ops Q S s fuel (listed.setIfInBounds i true) (a.put oi.dst v) w) : wpGate P md ops Q S s (fuel + 1) listed a w :=
  gate_first hi (Region.noSelect_spec hs) hQ hwt fuel listed a w (Region.free_spec hi hf) (by simpa using hr) hy hu hS h
/-- .. what yields in whatever world. -/
theorem gate_firstF {i : Nat} {oi : Oper} {v : Value} (hi : ops[i]? = some oi) (hsel : ∀ (j : Nat) (o : Oper) cs b, ops[j]? = some o → o.op ≠ .select cs b)
    (hQ : ∀ c a w, Q (.panic c) (a.put oi.dst v) w → Q (.panic c) a w) (hsi : s ≠ i) :
    ∀ (fuel : Nat) (listed : Array Bool) (a : Act) (w : World),
      (∀ j oj, ops[j]? = some oj → j ≠ i → listed.getD j true = false → (∀ e ∈ oj.after, Region.binds md e = true → e.on ≠ i) → oi.apart ops oj = true) →
      i ∈ Region.ready md ops listed → YieldsIf P ops (fun _ => True) oi v a → (listed.getD s true = false → S w) →
      wpGate P md ops Q S s fuel (listed.setIfInBounds i true) (a.put oi.dst v) w → wpGate P md ops Q S s (fuel + 1) listed a w := by
  intro fuel
  induction fuel with
  | zero =>
    intro listed a w _ hr hy hS H
    refine ⟨fun h => (by rw [h] at hr; cases hr), fun j hj => ?_⟩
    by_cases hji : j = i
    · subst hji; exact hy.wpOp hi trivial ⟨fun h => hS (by rw [Go.getD_set_ne true (Ne.symm hsi)] at h; exact h), H⟩
    · have := ready_mono hj hji
      rw [H.1] at this
      cases this
  | succ fuel ih =>
    intro listed a w hfree hr hy hS H
    have hui := (mem_ready.1 hr).1
    refine ⟨fun h => (by rw [h] at hr; cases hr), fun j hj => ?_⟩
    by_cases hji : j = i
    · subst hji; exact hy.wpOp hi trivial ⟨fun h => hS (by rw [Go.getD_set_ne true (Ne.symm hsi)] at h; exact h), H⟩
    · have h1 := H.2 j (ready_mono hj hji)
      obtain ⟨hjun, oj, hoj, hall⟩ := mem_ready.1 hj
      have hnot : ∀ e ∈ oj.after, Region.binds md e = true → e.on ≠ i := fun e he hb heq => by
        have h1 := hall e he hb
        rw [heq] at h1
        rcases Nat.lt_or_ge i listed.size with h' | h'
        · simp [h'] at hui h1; rw [hui] at h1; cases h1
        · simp [Array.getElem?_eq_none h'] at hui
      have h2 := wpOp_putIf hoj (hfree j oj hoj hji hjun hnot) (fun cs b => hsel i oi cs b hi) (fun cs b => hsel j oj cs b hoj) hQ hy h1
      have hfree' : ∀ k ok, ops[k]? = some ok → k ≠ i → (listed.setIfInBounds j true).getD k true = false →
          (∀ e ∈ ok.after, Region.binds md e = true → e.on ≠ i) → oi.apart ops ok = true := fun k ok hk hki hun hno => by
        refine hfree k ok hk hki ?_ hno
        by_cases hjk : j = k
        · subst hjk; exact hjun
        · rw [Go.getD_set_ne true hjk] at hun; exact hun
      have hcv : ∀ {L : Array Bool}, (L.setIfInBounds i true).getD s true = L.getD s true := fun {L} => Go.getD_set_ne true (Ne.symm hsi)
      refine wpOp_mono (fun a' w' h3 => ?_) h2
      have hSS : (listed.setIfInBounds j true).getD s true = false → S w' := fun h => h3.2.1 (by rw [Array.setIfInBounds_comm _ _ (Ne.symm hji), hcv]; exact h)
      refine ⟨hSS, ih (listed.setIfInBounds j true) a' w' hfree' (ready_mono hr (Ne.symm hji)) h3.1 hSS ?_⟩
      rw [Array.setIfInBounds_comm _ _ hji]
      exact h3.2.2
theorem gate_takeF {i : Nat} {oi : Oper} {v : Value} {fuel : Nat} {listed : Array Bool} {a : Act} {w : World} (hi : ops[i]? = some oi)
    (hs : Region.noSelect ops = true) (hf : Region.free md ops listed i = true) (hr : (Region.ready md ops listed).contains i = true) (hsi : (s != i) = true)
    (hQ : ∀ c a w, Q (.panic c) (a.put oi.dst v) w → Q (.panic c) a w) (hy : YieldsIf P ops (fun _ => True) oi v a) (hS : S w)
    (h : wpGate P md ops Q S s fuel (listed.setIfInBounds i true) (a.put oi.dst v) w) : wpGate P md ops Q S s (fuel + 1) listed a w :=
  gate_firstF hi (Region.noSelect_spec hs) hQ (by simpa using hsi) fuel listed a w (Region.free_spec hi hf) (by simpa using hr) hy (fun _ => hS) h
/-- One alone may come up, and S is shown behind it. -/
theorem gate_one {i : Nat} {o : Oper} {fuel : Nat} {listed : Array Bool} {a : Act} {w : World} (ho : ops[i]? = some o) (hr : Region.ready md ops listed = [i])
    (h : ∀ K' : Act → World → Prop, Shut (∀ a w, S w → (S w → wpGate P md ops Q S s fuel (listed.setIfInBounds i true) a w) → K' a w) → if Region.wanted o (yielded ops a.tmps) = true then Oper.wp P o a w K' Q else K' (a.put o.dst undef) w) :
    wpGate P md ops Q S s (fuel + 1) listed a w :=
  ⟨fun h0 => (by rw [hr] at h0; cases h0), fun j hj => by
    rw [hr] at hj
    obtain rfl : j = i := by simpa using hj
    exact wpOp_step ho (fun K' hK => h K' (fun a w hS hW => hK a w ⟨fun _ => hS, hW hS⟩))⟩
/-- One alone may come up; number s has come up, or this is it. -/
theorem gate_past {i : Nat} {o : Oper} {fuel : Nat} {listed : Array Bool} {a : Act} {w : World} (ho : ops[i]? = some o) (hr : Region.ready md ops listed = [i]) (hp : (listed.setIfInBounds i true).getD s true = true)
    (h : ∀ K' : Act → World → Prop, Shut (∀ a w, wpGate P md ops Q S s fuel (listed.setIfInBounds i true) a w → K' a w) → if Region.wanted o (yielded ops a.tmps) = true then Oper.wp P o a w K' Q else K' (a.put o.dst undef) w) :
    wpGate P md ops Q S s (fuel + 1) listed a w :=
  ⟨fun h0 => (by rw [hr] at h0; cases h0), fun j hj => by
    rw [hr] at hj
    obtain rfl : j = i := by simpa using hj
    exact wpOp_step ho (fun K' hK => h K' (fun a w hW => hK a w ⟨fun hf => (by rw [hp] at hf; cases hf), hW⟩))⟩
theorem gate_done {listed : Array Bool} {a : Act} {w : World} (hr : Region.ready md ops listed = []) (h : Q .normal a w) : ∀ fuel, wpGate P md ops Q S s fuel listed a w
  | 0 => ⟨hr, h⟩
  | _ + 1 => ⟨fun _ => h, by rw [hr]; simp⟩
theorem region_gate {id : Nat} {a : Act} {w : World} (S : World → Prop) (s : Nat) (hm : P.follows .mixedOrders = true) (hS : S w.drew)
    (h : S w.drew → wpGate P .any ops Q S s ops.size (Array.replicate ops.size false) a w.drew) : (Code.region id ops true).wp P Q a w :=
  wp_region_any hm (wpAny_of_gate _ _ _ _ (h hS))
end
end Go.Proofs.YtbhnlfgccldmaaaGreat
/- Package conv, and reference 7: the plain loops. -/
namespace Go.Proofs.YtbhnlfgccldmaaaGreat
open Go.ChangeShapes Go.WideShapes Go.ChangeAt Go.RowKit
set_option linter.unusedVariables false
theorem tmod_nat (a b : Nat) : ((a : Int)).tmod (b : Int) = ((a % b : Nat) : Int) := rfl
end Go.Proofs.YtbhnlfgccldmaaaGreat
/- Package exec: tables in the worker's map; powers, naive. By program (genexa.py). -/
namespace Go.Proofs.YtbhnlfgccldmaaaGreat
open Go.ChangeShapes Go.WideShapes Go.ChangeAt Go.RowKit
set_option linter.unusedVariables false
open Go.WideMaps Go.MapKept Go.WideElems Go.ChangeMaps
set_option linter.unusedSimpArgs false
/-- The tables of names L lie in the map at G. -/
def TabsIn (w : World) (G : Nat) (L : List Nam) : Prop := ∃ l, w.heap[G]? = some (gMap l) ∧ GKeys Tryz.prog 82 l ∧ ∀ x ∈ L, ∃ (j : Nat) (p : Option Addr) (R c : Nat) (ys : List Int), l[j]? = some (x.val, Value.slice p R c) ∧ TabOf x.k x.n.toNat x.m.toNat x.d R ys ∧ Row w p R ys
theorem TabsIn.below {w w' : World} {G : Nat} {L : List Nam} (h : TabsIn w G L) (hb : Below w.heap.size w w') : TabsIn w' G L := by
  obtain ⟨l, h1, h2, h3⟩ := h
  refine ⟨l, (hb.block G (g_lt h1)).trans h1, h2, fun x hx => ?_⟩
  obtain ⟨j, p, R, c, ys, a1, a2, a3⟩ := h3 x hx
  exact ⟨j, p, R, c, ys, a1, a2, a3.below hb⟩
theorem TabsIn.mono {w : World} {G : Nat} {L L' : List Nam} (h : TabsIn w G L) (hs : ∀ x ∈ L', x ∈ L) : TabsIn w G L' := by
  obtain ⟨l, h1, h2, h3⟩ := h
  exact ⟨l, h1, h2, fun x hx => h3 x (hs x hx)⟩
theorem TabsIn.lt {w : World} {G : Nat} {L : List Nam} (h : TabsIn w G L) : G < w.heap.size := by
  obtain ⟨l, h1, -⟩ := h
  exact g_lt h1
/-- What is looked up. -/
def Looks (w : World) (G : Nat) (x : Nam) (v : Value) : Prop := ∀ u : World, Below w.heap.size w u → (Instr.lookup 114 (.map (some G)) x.val false).run Tryz.prog u = .ok v u
theorem Looks.below {w w' : World} {G : Nat} {x : Nam} {v : Value} (h : Looks w G x v) (hb : Below w.heap.size w w') : Looks w' G x v := fun u hu => h u (hb.trans (hu.mono hb.size))
theorem TabsIn.look {w : World} {G : Nat} {L : List Nam} (h : TabsIn w G L) {x : Nam} (hx : x ∈ L) : ∃ (p : Option Addr) (R c : Nat) (ys : List Int), TabOf x.k x.n.toNat x.m.toNat x.d R ys ∧ Row w p R ys ∧ Looks w G x (.slice p R c) := by
  obtain ⟨l, h1, h2, h3⟩ := h
  obtain ⟨j, p, R, c, ys, a1, a2, a3⟩ := h3 x hx
  exact ⟨p, R, c, ys, a2, a3, fun u hu => (g_there (Go.Maps.Keyed.of_law name_law) Tryz.underlying114 h2 a1 u G ((hu.block G (g_lt h1)).trans h1)).1⟩
set_option maxRecDepth 100000 in
theorem exec_powers (G : Nat) (n d : Int) (v : Value) (W : World) (h : Looks W G ⟨1, n, 0, d⟩ v) :
    Calls Tryz.prog 173 #[.agg #[.map (some G)], .int .i64 n, .int .i64 d] W fun e w' => e = .returned v ∧ Below W.heap.size W w' := by
  obtain ⟨w0, hw0⟩ : ∃ w0, W.alloc (.cells #[.map (some G)] 116) = w0 := ⟨_, rfl⟩
  have hB : Below W.heap.size W w0 := hw0 ▸ (Below.refl _ _).alloc (Nat.le_refl _) _
  have hl := h w0 hB
  simp only [Nam.val] at hl
  have HB := Lib.hid hB
  have r0 := heap_alloc_new W (.cells #[.map (some G)] 116)
  rw [hw0] at r0
  have c0 : w0.cell? ⟨W.heap.size, 0, none⟩ = some (.map (some G)) := by rw [cell_of_row _ _ _ _ _ _ r0]; rfl
  clear h hB r0
  go_enter Tryz.func173, Tryz.ntmps173
  go_wp2_with fail
  go_ret
  exact ⟨rfl, HB.out⟩
/-- The sums by the definition, as they grow. -/
def nv (xs ws : List Int) (n k : Nat) : Nat → Int
  | 0 => 0
  | j + 1 => fm (nv xs ws n k j + fm (xs.getD j 0 * ws.getD (j * k % n) 0))
theorem nv_b (xs ws : List Int) (n k : Nat) : ∀ j, 0 ≤ nv xs ws n k j ∧ nv xs ws n k j ≤ 18446744069414584320
  | 0 => by simp [nv]
  | j + 1 => ⟨fm_lo _, fm_hi _⟩
theorem nv_sm (xs ws : List Int) (n k : Nat) : ∀ j, nv xs ws n k j = fm (sm (fun j => xs.getD j 0 * ws.getD (j * k % n) 0) j)
  | 0 => rfl
  | j + 1 => by rw [nv, nv_sm xs ws n k j, fm_add_fm, sm_succ]
theorem nv_all {r : Int} {n : Nat} (xs : List Int) (hl : xs.length = n) (h : fm (r ^ n) = 1) {k : Nat} (hk : k < n) : nv xs (powl r n) n k n = (horl r xs n).getD k 0 := by
  rw [nv_sm, horl_sm r xs n k hl hk]
  refine sm_congr n fun j hj => mul_eqv ?_
  rw [powl_at r n _ (Nat.mod_lt _ (by omega)), fm_fm]
  exact pow_mod h _
def nvt (xs ws : List Int) (n k j i : Nat) : Int := if i < k then nv xs ws n i n else if i = k then nv xs ws n k j else 0
theorem nvt_start (xs ws : List Int) (n : Nat) : List.replicate n 0 = tab n (nvt xs ws n 0 0) := by
  rw [tab_rep]
  unfold tab
  refine List.map_congr_left fun i hi => ?_
  unfold nvt
  rw [if_neg (by omega)]
  split
  · rw [nv]
  · rfl
theorem nvt_step (xs ws : List Int) (n k j : Nat) : (tab n (nvt xs ws n k j)).set k (fm (nv xs ws n k j + fm (xs.getD j 0 * ws.getD (j * k % n) 0))) = tab n (nvt xs ws n k (j + 1)) := by
  refine tab_set _ _ _ _ _ fun i hi => ?_
  unfold nvt
  by_cases h1 : i < k
  · rw [if_pos h1, if_neg (by omega), if_pos h1]
  · rw [if_neg h1]
    by_cases h2 : i = k
    · rw [if_pos h2, if_pos h2, nv]
    · rw [if_neg h2, if_neg h2, if_neg h1, if_neg h2]
theorem nvt_row (xs ws : List Int) (n k : Nat) : tab n (nvt xs ws n k n) = tab n (nvt xs ws n (k + 1) 0) := by
  unfold tab
  refine List.map_congr_left fun i hi => ?_
  unfold nvt
  by_cases h1 : i < k
  · rw [if_pos h1, if_pos (by omega)]
  · rw [if_neg h1]
    by_cases h2 : i = k
    · subst h2; rw [if_pos rfl, if_pos (by omega)]
    · rw [if_neg h2, if_neg (by omega)]
      split
      · rw [nv]
      · rfl
theorem nvt_end {r : Int} {n : Nat} (xs : List Int) (hl : xs.length = n) (h : fm (r ^ n) = 1) : tab n (nvt xs (powl r n) n n 0) = horl r xs n := by
  apply getD_ext (by rw [tab_len, horl_len])
  intro i hi
  rw [tab_len] at hi
  rw [tab_at _ _ _ hi, nvt, if_pos hi, nv_all xs hl h hi]
theorem nvt_cur (xs ws : List Int) (n k j : Nat) : nvt xs ws n k j k = nv xs ws n k j := by unfold nvt; rw [if_neg (by omega), if_pos rfl]
set_option maxRecDepth 100000 in
set_option maxHeartbeats 16000000 in
theorem exec_naive (G n : Nat) (k d : Int) (v : Value) (p q : Option Addr) (c e R : Nat) (xs ws : List Int) (W : World) (hx : Row W p n xs) (hw : Row W q n ws) (hn : n ≤ 16777216) (hl : Looks W G ⟨1, n, 0, d⟩ (.slice q n e)) :
    Calls Tryz.prog 158 #[.agg #[.map (some G)], .agg #[.int .i64 k, .int .i64 n, v], .int .i64 d, .slice p n c] W (GivesNw W n (tab n (nvt xs ws n n 0))) := by
  obtain ⟨w0, hw0⟩ : ∃ w0, W.alloc (.cells #[.map (some G)] 116) = w0 := ⟨_, rfl⟩
  have b0 : Below W.heap.size W w0 := hw0 ▸ (Below.refl _ _).alloc (Nat.le_refl _) _
  obtain ⟨w1, hw1⟩ : ∃ w1, w0.alloc (.cells #[.int .i64 k, .int .i64 n, v] 24) = w1 := ⟨_, rfl⟩
  have b1 : Below w0.heap.size w0 w1 := hw1 ▸ (Below.refl _ _).alloc (Nat.le_refl _) _
  have r0 := heap_alloc_new W (.cells #[.map (some G)] 116)
  rw [hw0] at r0
  have r1 := heap_alloc_new w0 (.cells #[.int .i64 k, .int .i64 n, v] 24)
  rw [hw1] at r1
  have r0' := (b1.block _ (g_lt r0)).trans r0
  have c0 : w1.cell? ⟨W.heap.size, 0, none⟩ = some (.map (some G)) := by rw [cell_of_row _ _ _ _ _ _ r0']; rfl
  have c1 : w1.cell? ⟨w0.heap.size, 1, none⟩ = some (.int .i64 n) := by rw [cell_of_row _ _ _ _ _ _ r1]; rfl
  have hB1 := b0.trans (b1.mono b0.size)
  have HB1 := Lib.hid hB1
  have EP := Lib.hid (exec_powers G n d (.slice q n e) w1 (hl.below hB1))
  have HX := Lib.hid (hx.below hB1)
  have HW := Lib.hid (hw.below hB1)
  have hmk := make_u64 n (by omega)
  have HN := Lib.hid hn
  have YW := Lib.hid (fun a b => (show ∀ z ∈ tab n (nvt xs ws n a b), (Lit.int .u64 z).wf = true from tab_wf n _ (fun i => by unfold nvt; split; exact nv_b _ _ _ _ _; split; exact nv_b _ _ _ _ _; omega)))
  clear r0 r1 r0' b0 b1 hB1 hx hw hl hn
  go_enter Tryz.func158, Tryz.ntmps158
  go_wp2_with fail
  refine EP.out.mono ?_
  rintro f w2 ⟨rfl, hb2⟩
  have HX2 := Lib.hid (HX.out.below hb2)
  have HW2 := Lib.hid (HW.out.below hb2)
  have HB2 := Lib.hid (HB1.out.trans (hb2.mono HB1.out.size))
  clear hb2 c0 c1 hw0 hw1 EP HX HW HB1
  obtain ⟨Y, hY⟩ : ∃ Y, w2.heap.size = Y := ⟨_, rfl⟩
  obtain ⟨w3, hw3⟩ : ∃ w3, w2.alloc (.cells (Array.replicate n (.int .u64 0)) 62) = w3 := ⟨_, rfl⟩
  have HY0 := Lib.hid (show RowAt w3 Y 62 (tab n (nvt xs ws n 0 0)) ∧ Below Y w2 w3 from by
    subst hY
    have := RowAt.made w2 62 n
    rw [hw3, nvt_start xs ws n] at this
    exact ⟨this, hw3 ▸ (Below.refl _ _).alloc (Nat.le_refl _) _⟩)
  have HYW := Lib.hid (show W.heap.size ≤ Y from by rw [← hY]; exact HB2.out.size)
  have HX3 := Lib.hid (show Row w3 p n xs from HX2.out.below (hY ▸ HY0.out.2))
  have HW3 := Lib.hid (show Row w3 q n ws from HW2.out.below (hY ▸ HY0.out.2))
  have HXY := Lib.hid (show ∀ x, p = some x → n ≠ 0 → x.block < Y from fun x hx h0 => by
    obtain ⟨b, o, e1, e2, -⟩ := HX2.out.cell (k := 0) (by omega)
    rw [e1] at hx; cases hx; rw [← hY]; exact e2)
  have HWY := Lib.hid (show ∀ x, q = some x → n ≠ 0 → x.block < Y from fun x hx h0 => by
    obtain ⟨b, o, e1, e2, -⟩ := HW2.out.cell (k := 0) (by omega)
    rw [e1] at hx; cases hx; rw [← hY]; exact e2)
  have HB3 := Lib.hid (show Below W.heap.size W w3 from HB2.out.trans (HY0.out.2.mono HYW.out))
  have HW0 := Lib.hid hw3
  have LX := Lib.hid (fun j (hj : j < n) => HX3.out.cell hj)
  have LW := Lib.hid (fun j (hj : j < n) => HW3.out.cell hj)
  clear hw3 HX2 HW2
  have db2 : ¬ (n = 0) → ¬ ((n : Int) = 0) := fun h => by omega
  go_wp2_with fail
  (try rw [hY]); (try rw [HW0.out])
  go_loopw [11, 12, 13, 24, 29] (fun _ _ _ i _ wr => ∃ t : Nat, t ≤ n ∧ i = .int .i64 t ∧ Hid (RowAt wr Y 62 (tab n (nvt xs ws n t 0))) ∧ Hid (Below Y w3 wr)) (fun _ _ _ i _ _ => n - (intOf i).toNat)
  case atStart => exact ⟨0, Nat.zero_le _, rfl, Lib.hid HY0.out.1, Lib.hid (Below.refl _ _)⟩
  case round =>
    obtain ⟨t, ht, rfl, RL, HB⟩ := hrel
    by_cases hlt : t < n
    · have hti : (t : Int) < (n : Int) := by omega
      have WT := Lib.hid (show wrap64 ((t : Int) + 1) = ((t + 1 : Nat) : Int) by have := HN.out; simp only [wrap64]; omega)
      obtain ⟨wu, rfl⟩ : ∃ wu, wu = wr := ⟨_, rfl⟩
      go_wp2_with fail
      go_loopw [12, 13, 29] (fun _ _ i wr => ∃ j : Nat, j ≤ n ∧ i = .int .i64 j ∧ Hid (RowAt wr Y 62 (tab n (nvt xs ws n t j))) ∧ Hid (Below Y w3 wr)) (fun _ _ i _ => n - (intOf i).toNat)
      case atStart => exact ⟨0, Nat.zero_le _, rfl, RL, HB⟩
      case round =>
        obtain ⟨j, hj, rfl, RJ, HBJ⟩ := hrel
        by_cases hjn : j < n
        · have hji : (j : Int) < (n : Int) := by omega
          have hq : j * t % n < n := Nat.mod_lt _ (by omega)
          obtain ⟨bx, ox, rfl, -, kx, x0, x1⟩ := LX.out j hjn
          obtain ⟨bw, ow, rfl, -, kw, y0, y1⟩ := LW.out (j * t % n) hq
          have lx : bx < Y := HXY.out _ rfl (by omega)
          have lw : bw < Y := HWY.out _ rfl (by omega)
          have hx3 := (HBJ.out.cell (p := ⟨bx, ox + j, none⟩) lx).trans kx
          have hw3 := (HBJ.out.cell (p := ⟨bw, ow + j * t % n, none⟩) lw).trans kw
          have hy3 := RJ.out.cell (k := t) (by rw [tab_len]; exact hlt)
          rw [tab_at _ _ _ hlt, nvt_cur] at hy3
          have fy := RJ.out.free t
          obtain ⟨s0, s1⟩ := nv_b xs ws n t j
          have RN := Lib.hid (show RowAt (wr.drew.setCell ⟨Y, t, none⟩ (.int .u64 (fm (nv xs ws n t j + fm (xs.getD j 0 * ws.getD (j * t % n) 0))))) Y 62 (tab n (nvt xs ws n t (j + 1))) from by
            have := (show RowAt wr.drew Y _ _ from RJ.out).set t (fm (nv xs ws n t j + fm (xs.getD j 0 * ws.getD (j * t % n) 0)))
            rwa [nvt_step] at this)
          have YL := RJ.out.lt
          have WJ := Lib.hid (show wrap64 ((j : Int) + 1) = ((j + 1 : Nat) : Int) by have := HN.out; simp only [wrap64]; omega)
          have NS := Lib.hid (nvt_step xs ws n t j)
          have hwm : IntKind.i64.wrap ((j : Int) * (t : Int)) = ((j * t : Nat) : Int) := by
            rw [← Int.natCast_mul]
            refine IntWalk.i64_in _ ?_
            have h1 := HN.out
            have : j * t ≤ 16777216 * 16777216 := Nat.mul_le_mul (by omega) (by omega)
            omega
          have hwr := tmod_nat (j * t) n
          obtain ⟨m, hm⟩ : ∃ m, j * t % n = m := ⟨_, rfl⟩
          obtain ⟨jt, hjt⟩ : ∃ jt, j * t = jt := ⟨_, rfl⟩
          rw [hjt] at hm hwm hwr
          rw [hjt, hm] at kw y0 y1 RN NS hw3 hq
          rw [hm] at hwr
          obtain ⟨s, hs⟩ : ∃ s, nv xs ws n t j = s := ⟨_, rfl⟩
          obtain ⟨x, hx⟩ : ∃ x, xs.getD j 0 = x := ⟨_, rfl⟩
          obtain ⟨y, hy⟩ : ∃ y, ws.getD m 0 = y := ⟨_, rfl⟩
          rw [hs] at hy3 s0 s1 RN NS
          rw [hx] at hx3 x0 x1 RN NS
          rw [hy] at hw3 y0 y1 RN NS
          have hn0 : ((n : Int) == 0) = false := by simp; omega
          have hn1 : ¬ ((n : Int) = 0) := by omega
          have hn2 : ¬ (n = 0) := by omega
          have hwe : (jt : Int) % (n : Int) = (m : Int) := by rw [← hm]; rfl
          have HMUL := Lib.hid (fun (w : World) => gold_mul x y w x0 x1 y0 y1)
          have HADD := Lib.hid (fun (w : World) => gold_add s (fm (x * y)) w s0 (by omega) (fm_lo _) (fm_hi' _))
          have hmi : (m : Int) < (n : Int) := by omega
          have hm0 : (0 : Int) ≤ (m : Int) := by omega
          have hj0 : (0 : Int) ≤ (j : Int) := by omega
          have ht0 : (0 : Int) ≤ (t : Int) := by omega
          have FX := Lib.hid (fun (u : World) (h : Below wr.drew.heap.size wr.drew u) => (show u.cell? ⟨bx, ox + j, none⟩ = some (.int .u64 x) ∧ u.cell? ⟨bw, ow + m, none⟩ = some (.int .u64 y) ∧ u.cell? ⟨Y, t, none⟩ = some (.int .u64 s) ∧ u.frozen? ⟨Y, t, none⟩ = false ∧ RowAt u Y 62 (tab n (nvt xs ws n t j)) from
            have hr : RowAt u Y 62 (tab n (nvt xs ws n t j)) := (show RowAt wr.drew Y _ _ from RJ.out).below h
            ⟨(h.cell (p := ⟨bx, ox + j, none⟩) (by show bx < wr.heap.size; omega)).trans hx3, (h.cell (p := ⟨bw, ow + m, none⟩) (by show bw < wr.heap.size; omega)).trans hw3, (h.cell (p := ⟨Y, t, none⟩) YL).trans hy3, hr.free t, hr⟩))
          have HYL := Lib.hid YL
          clear hjt hm hs hx hy kx kw hw3 hy3 fy lx lw YL
          go_wp2_with fail
          clear hx3
          refine region_gate (fun w' => Below wr.drew.heap.size wr.drew w') 19 (by kernel_rfl) (Below.refl _ _) (fun hHeld => ?_)
          refine gate_takeF (i := 0) (v := ?v1) rfl (by kernel_rfl) (by kernel_rfl) (by kernel_rfl) (by kernel_rfl) (fun _ _ _ h => h) (Or.inl ⟨by rfl, ?hy1⟩) (by assumption) ?rest1
          case hy1 => intro w hSw; clear hSw; go_simp; (first | done | with_reducible rfl)
          (try simp only [Act.put, List.getElem_toArray, List.getElem_cons_zero, List.getElem_cons_succ, List.setIfInBounds_toArray, List.set_cons_zero, List.set_cons_succ])
          refine gate_takeF (i := 1) (v := ?v2) rfl (by kernel_rfl) (by kernel_rfl) (by kernel_rfl) (by kernel_rfl) (fun _ _ _ h => h) (Or.inl ⟨by rfl, ?hy2⟩) (by assumption) ?rest2
          case hy2 => intro w hSw; clear hSw; go_simp; (first | done | with_reducible rfl)
          (try simp only [Act.put, List.getElem_toArray, List.getElem_cons_zero, List.getElem_cons_succ, List.setIfInBounds_toArray, List.set_cons_zero, List.set_cons_succ])
          refine gate_takeF (i := 2) (v := ?v3) rfl (by kernel_rfl) (by kernel_rfl) (by kernel_rfl) (by kernel_rfl) (fun _ _ _ h => h) (Or.inl ⟨by rfl, ?hy3⟩) (by assumption) ?rest3
          case hy3 => intro w hSw; clear hSw; go_simp; (first | done | with_reducible rfl)
          (try simp only [Act.put, List.getElem_toArray, List.getElem_cons_zero, List.getElem_cons_succ, List.setIfInBounds_toArray, List.set_cons_zero, List.set_cons_succ])
          refine gate_takeF (i := 3) (v := ?v4) rfl (by kernel_rfl) (by kernel_rfl) (by kernel_rfl) (by kernel_rfl) (fun _ _ _ h => h) (Or.inl ⟨by rfl, ?hy4⟩) (by assumption) ?rest4
          case hy4 => intro w hSw; clear hSw; go_simp; (first | done | with_reducible rfl)
          (try simp only [Act.put, List.getElem_toArray, List.getElem_cons_zero, List.getElem_cons_succ, List.setIfInBounds_toArray, List.set_cons_zero, List.set_cons_succ])
          refine gate_takeF (i := 4) (v := ?v5) rfl (by kernel_rfl) (by kernel_rfl) (by kernel_rfl) (by kernel_rfl) (fun _ _ _ h => h) (Or.inl ⟨by rfl, ?hy5⟩) (by assumption) ?rest5
          case hy5 => intro w hSw; clear hSw; go_simp; (first | done | with_reducible rfl)
          (try simp only [Act.put, List.getElem_toArray, List.getElem_cons_zero, List.getElem_cons_succ, List.setIfInBounds_toArray, List.set_cons_zero, List.set_cons_succ])
          refine gate_take (i := 5) (v := ?v6) rfl (by kernel_rfl) (by kernel_rfl) (by kernel_rfl) (by kernel_rfl) (by kernel_rfl) (fun _ _ _ h => h) (Or.inl ⟨by rfl, ?hy6⟩) (by assumption) ?rest6
          case hy6 => intro w hSw; (try dsimp only at hSw); obtain ⟨g1, g2, g3, g4, g5⟩ := FX.out w hSw; go_simp; (first | done | with_reducible rfl)
          (try simp only [Act.put, List.getElem_toArray, List.getElem_cons_zero, List.getElem_cons_succ, List.setIfInBounds_toArray, List.set_cons_zero, List.set_cons_succ])
          refine gate_takeF (i := 6) (v := ?v7) rfl (by kernel_rfl) (by kernel_rfl) (by kernel_rfl) (by kernel_rfl) (fun _ _ _ h => h) (Or.inl ⟨by rfl, ?hy7⟩) (by assumption) ?rest7
          case hy7 => intro w hSw; clear hSw; go_simp; (first | done | with_reducible rfl)
          (try simp only [Act.put, List.getElem_toArray, List.getElem_cons_zero, List.getElem_cons_succ, List.setIfInBounds_toArray, List.set_cons_zero, List.set_cons_succ])
          refine gate_takeF (i := 7) (v := ?v8) rfl (by kernel_rfl) (by kernel_rfl) (by kernel_rfl) (by kernel_rfl) (fun _ _ _ h => h) (Or.inl ⟨by rfl, ?hy8⟩) (by assumption) ?rest8
          case hy8 => intro w hSw; clear hSw; go_simp; (first | done | with_reducible rfl)
          (try simp only [Act.put, List.getElem_toArray, List.getElem_cons_zero, List.getElem_cons_succ, List.setIfInBounds_toArray, List.set_cons_zero, List.set_cons_succ])
          refine gate_takeF (i := 8) (v := ?v9) rfl (by kernel_rfl) (by kernel_rfl) (by kernel_rfl) (by kernel_rfl) (fun _ _ _ h => h) (Or.inl ⟨by rfl, ?hy9⟩) (by assumption) ?rest9
          case hy9 => intro w hSw; clear hSw; go_simp; (first | done | with_reducible rfl)
          (try simp only [Act.put, List.getElem_toArray, List.getElem_cons_zero, List.getElem_cons_succ, List.setIfInBounds_toArray, List.set_cons_zero, List.set_cons_succ])
          refine gate_takeF (i := 9) (v := ?v10) rfl (by kernel_rfl) (by kernel_rfl) (by kernel_rfl) (by kernel_rfl) (fun _ _ _ h => h) (Or.inl ⟨by rfl, ?hy10⟩) (by assumption) ?rest10
          case hy10 => intro w hSw; clear hSw; go_simp; (first | done | with_reducible rfl)
          (try simp only [Act.put, List.getElem_toArray, List.getElem_cons_zero, List.getElem_cons_succ, List.setIfInBounds_toArray, List.set_cons_zero, List.set_cons_succ])
          refine gate_takeF (i := 10) (v := ?v11) rfl (by kernel_rfl) (by kernel_rfl) (by kernel_rfl) (by kernel_rfl) (fun _ _ _ h => h) (Or.inl ⟨by rfl, ?hy11⟩) (by assumption) ?rest11
          case hy11 => intro w hSw; clear hSw; go_simp; (first | done | with_reducible rfl)
          (try simp only [Act.put, List.getElem_toArray, List.getElem_cons_zero, List.getElem_cons_succ, List.setIfInBounds_toArray, List.set_cons_zero, List.set_cons_succ])
          refine gate_takeF (i := 11) (v := ?v12) rfl (by kernel_rfl) (by kernel_rfl) (by kernel_rfl) (by kernel_rfl) (fun _ _ _ h => h) (Or.inl ⟨by rfl, ?hy12⟩) (by assumption) ?rest12
          case hy12 => intro w hSw; clear hSw; go_simp; (first | done | with_reducible rfl)
          (try simp only [Act.put, List.getElem_toArray, List.getElem_cons_zero, List.getElem_cons_succ, List.setIfInBounds_toArray, List.set_cons_zero, List.set_cons_succ])
          refine gate_takeF (i := 12) (v := ?v13) rfl (by kernel_rfl) (by kernel_rfl) (by kernel_rfl) (by kernel_rfl) (fun _ _ _ h => h) (Or.inl ⟨by rfl, ?hy13⟩) (by assumption) ?rest13
          case hy13 => intro w hSw; clear hSw; go_simp; (first | done | with_reducible rfl)
          (try simp only [Act.put, List.getElem_toArray, List.getElem_cons_zero, List.getElem_cons_succ, List.setIfInBounds_toArray, List.set_cons_zero, List.set_cons_succ])
          refine gate_takeF (i := 13) (v := ?v14) rfl (by kernel_rfl) (by kernel_rfl) (by kernel_rfl) (by kernel_rfl) (fun _ _ _ h => h) (Or.inl ⟨by rfl, ?hy14⟩) (by assumption) ?rest14
          case hy14 => intro w hSw; clear hSw; go_simp; (first | done | with_reducible rfl)
          (try simp only [Act.put, List.getElem_toArray, List.getElem_cons_zero, List.getElem_cons_succ, List.setIfInBounds_toArray, List.set_cons_zero, List.set_cons_succ])
          refine gate_takeF (i := 14) (v := ?v15) rfl (by kernel_rfl) (by kernel_rfl) (by kernel_rfl) (by kernel_rfl) (fun _ _ _ h => h) (Or.inl ⟨by rfl, ?hy15⟩) (by assumption) ?rest15
          case hy15 => intro w hSw; clear hSw; go_simp; (first | done | with_reducible rfl)
          (try simp only [Act.put, List.getElem_toArray, List.getElem_cons_zero, List.getElem_cons_succ, List.setIfInBounds_toArray, List.set_cons_zero, List.set_cons_succ])
          refine gate_take (i := 15) (v := ?v16) rfl (by kernel_rfl) (by kernel_rfl) (by kernel_rfl) (by kernel_rfl) (by kernel_rfl) (fun _ _ _ h => h) (Or.inl ⟨by rfl, ?hy16⟩) (by assumption) ?rest16
          case hy16 => intro w hSw; (try dsimp only at hSw); obtain ⟨g1, g2, g3, g4, g5⟩ := FX.out w hSw; go_simp; (first | done | with_reducible rfl)
          (try simp only [Act.put, List.getElem_toArray, List.getElem_cons_zero, List.getElem_cons_succ, List.setIfInBounds_toArray, List.set_cons_zero, List.set_cons_succ])
          refine gate_one (i := 16) rfl (by kernel_rfl) (fun K hK => ?_)
          go_simp
          refine (HMUL.out _).mono ?_
          rintro e u ⟨rfl, hb⟩
          (try go_wp2_with fail)
          refine hK.out _ _ (hHeld.trans (hb.mono hHeld.size)) (fun hHeld2 => ?_)
          clear hK K hHeld
          have hHeld := hHeld2
          clear hHeld2
          (try simp only [Act.put, List.getElem_toArray, List.getElem_cons_zero, List.getElem_cons_succ, List.setIfInBounds_toArray, List.set_cons_zero, List.set_cons_succ])
          refine gate_one (i := 17) rfl (by kernel_rfl) (fun K hK => ?_)
          go_simp
          refine (HADD.out _).mono ?_
          rintro e u ⟨rfl, rfl⟩
          (try go_wp2_with fail)
          refine hK.out _ _ hHeld (fun hHeld2 => ?_)
          clear hK K hHeld
          have hHeld := hHeld2
          clear hHeld2
          (try simp only [Act.put, List.getElem_toArray, List.getElem_cons_zero, List.getElem_cons_succ, List.setIfInBounds_toArray, List.set_cons_zero, List.set_cons_succ])
          refine gate_takeF (i := 18) (v := ?v19) rfl (by kernel_rfl) (by kernel_rfl) (by kernel_rfl) (by kernel_rfl) (fun _ _ _ h => h) (Or.inl ⟨by rfl, ?hy19⟩) (by assumption) ?rest19
          case hy19 => intro w hSw; clear hSw; go_simp; (first | done | with_reducible rfl)
          (try simp only [Act.put, List.getElem_toArray, List.getElem_cons_zero, List.getElem_cons_succ, List.setIfInBounds_toArray, List.set_cons_zero, List.set_cons_succ])
          obtain ⟨g1, g2, g3, g4, g5⟩ := FX.out _ hHeld
          refine gate_past (i := 19) rfl (by kernel_rfl) (by kernel_rfl) (fun K hK => ?_)
          go_simp
          refine hK.out _ _ ?_
          clear hK K
          (try simp only [Act.put, List.getElem_toArray, List.getElem_cons_zero, List.getElem_cons_succ, List.setIfInBounds_toArray, List.set_cons_zero, List.set_cons_succ])
          refine gate_done (by kernel_rfl) ?_ _
          have RN2 := Lib.hid (show RowAt (u.setCell ⟨Y, t, none⟩ (.int .u64 (fm (s + fm (x * y))))) Y 62 (tab n (nvt xs ws n t (j + 1))) from by
            have := g5.set t (fm (s + fm (x * y)))
            rwa [NS.out] at this)
          have HB5 := Lib.hid (show Below Y w3 (u.setCell ⟨Y, t, none⟩ (.int .u64 (fm (s + fm (x * y))))) from (HBJ.out.trans ((Below.refl wr.heap.size wr).drew.mono (Nat.le_of_lt HYL.out))).trans ((hHeld.mono (Nat.le_of_lt HYL.out)).setCell (Nat.le_refl _) _))
          clear g1 g2 g3 g4 g5 hHeld FX
          go_wp2_with fail
          go_roundw
          case rel => exact ⟨j + 1, by omega, by first | rw [WJ.out] | go_num, RN2, HB5⟩
          case measure => first | (first | (simp [intOf]; done) | (simp [intOf]; omega) | (simp only [intOf]; omega)) | (rw [WJ.out]; simp only [intOf]; omega)
        · have hji : ¬ (j : Int) < (n : Int) := by omega
          obtain rfl : j = n := by omega
          have RJ2 := Lib.hid (show RowAt wr Y 62 (tab j (nvt xs ws j (t + 1) 0)) from by rw [← nvt_row]; exact RJ.out)
          clear hjn
          go_wp2_with fail
          go_roundw
          case rel => exact ⟨t + 1, by omega, by first | rw [WT.out] | go_num, RJ2, HBJ⟩
          case measure => first | (first | (simp [intOf]; done) | (simp [intOf]; omega) | (simp only [intOf]; omega)) | (rw [WT.out]; simp only [intOf]; omega)
    · have hti : ¬ (t : Int) < (n : Int) := by omega
      obtain rfl : t = n := by omega
      go_wp2_with fail
      go_ret
      exact givesNw_at rfl RL.out (YW.out t 0) (tab_len _ _) (by have := HN.out; omega) (HB3.out.trans (HB.out.mono HYW.out)) HYW.out
end Go.Proofs.YtbhnlfgccldmaaaGreat
/- Package small: base, Twist; the document's. -/
namespace Go.Proofs.YtbhnlfgccldmaaaGreat
open Go.ChangeShapes Go.WideShapes Go.ChangeAt Go.RowKit
set_option linter.unusedVariables false
open rootTells
theorem hasb_five {n : Nat} (h : 1 ≤ n) (h5 : n ≤ 5) : hasb n = true := by
  have : n = 1 ∨ n = 2 ∨ n = 3 ∨ n = 4 ∨ n = 5 := by omega
  rcases this with rfl | rfl | rfl | rfl | rfl <;> decide +kernel
theorem small_base (n : Nat) (dir : Int) (W : World) (h : 1 ≤ n) (h5 : n ≤ 5) (hd : dir = 0 ∨ dir = 1) :
    Calls Tryz.prog 204 #[.int .i64 n, .int .i64 dir] W fun e w' => e = .returned (.int .u64 (rdir n dir)) ∧ Below W.heap.size W w' := by
  have hB := Below.refl W.heap.size W
  have R := Lib.hid (fun w => root_root n w (by omega) (by omega) (hasb_five h h5))
  rcases hd with rfl | rfl
  · have E := Lib.hid (show rdir n 0 = rt n from rfl)
    go_enter Tryz.func204, Tryz.ntmps204
    go_wp2_with fail
    refine (R.out _).mono ?_
    rintro e w1 ⟨rfl, b1⟩
    have hB := hB.trans (b1.mono hB.size); clear b1
    go_wp2_with fail
    go_ret
    exact ⟨ret_u64 E.out.symm, hB⟩
  · have K := Lib.hid (fun w => root_back n w (by omega) (by omega) (hasb_five h h5))
    have E := Lib.hid (show rdir n 1 = finv (rt n) from rfl)
    go_enter Tryz.func204, Tryz.ntmps204
    go_wp2_with fail
    refine (R.out _).mono ?_
    rintro e w1 ⟨rfl, b1⟩
    have hB := hB.trans (b1.mono hB.size); clear b1
    go_wp2_with fail
    refine (K.out _).mono ?_
    rintro e w1 ⟨rfl, b1⟩
    have hB := hB.trans (b1.mono hB.size); clear b1
    go_wp2_with fail
    go_ret
    exact ⟨ret_u64 E.out.symm, hB⟩
end Go.Proofs.YtbhnlfgccldmaaaGreat
/- A scope whose gotos go forward, to labels 0 and 1. -/
namespace Go.Proofs.YtbhnlfgccldmaaaGreat
open Go.ChangeShapes Go.WideShapes Go.ChangeAt Go.RowKit
set_option linter.unusedVariables false
section
variable {P : Program} {a : Act} {w : World} {Q : Exit → Act → World → Prop}
/-- As Q; by a goto: J of its label. -/
def jumps (J : Nat → Act → World → Prop) (Q : Exit → Act → World → Prop) : Exit → Act → World → Prop
  | .goto l, a, w => J l a w
  | e, a, w => Q e a w
/-- From code r within the scope of c the run comes to Q. -/
def Ends (P : Program) (c r : Code) (Q : Exit → Act → World → Prop) (a : Act) (w : World) : Prop :=
  ∀ b k cs, ∃ e a' w', Q e a' w' ∧ Arrives P (lone (b.at a (.code r :: .inScope c :: k)) cs w) b k cs e a' w'
theorem ends_of {c r : Code} (J : Nat → Act → World → Prop) (hJ : ∀ l a w, J l a w → ∃ r', findLabel c l = some r' ∧ Ends P c r' Q a w) (h : r.wp P (jumps J Q) a w) : Ends P c r Q a w := by
  intro b k cs
  obtain ⟨e, a₁, w₁, hq, harr⟩ := h b (.inScope c :: k) cs
  cases e with
  | normal => exact ⟨.normal, a₁, w₁, hq, Steps.trans harr (.one step_inScope)⟩
  | exit id => exact ⟨.exit id, a₁, w₁, hq, fun k' hk => harr k' (by simp [exitTo, hk])⟩
  | goto l =>
    obtain ⟨r', hf, he⟩ := hJ l a₁ w₁ hq
    obtain ⟨e₂, a₂, w₂, hq₂, harr₂⟩ := he b k cs
    have hg : gotoIn l (.inScope c :: k) = some (.code r' :: .inScope c :: k) := by simp [gotoIn, hf]
    exact ⟨e₂, a₂, w₂, hq₂, .of_steps (harr _ hg) harr₂⟩
  | ret => exact ⟨_, a₁, w₁, hq, harr⟩
  | panic ch => exact ⟨_, a₁, w₁, hq, harr⟩
  | outgrown => exact ⟨_, a₁, w₁, hq, harr⟩
theorem scope_of {c : Code} (J : Nat → Act → World → Prop) (hJ : ∀ l a w, J l a w → ∃ r', findLabel c l = some r' ∧ Ends P c r' Q a w) (h : c.wp P (jumps J Q) a w) : (Code.scope c).wp P Q a w := by
  intro b k cs
  obtain ⟨e, a₁, w₁, hq, harr⟩ := h b (.inScope c :: k) cs
  cases e with
  | normal => exact ⟨.normal, a₁, w₁, hq, .head step_scope (Steps.trans harr (.one step_inScope))⟩
  | exit id => exact ⟨.exit id, a₁, w₁, hq, fun k' hk => .head step_scope (harr k' (by simp [exitTo, hk]))⟩
  | goto l =>
    obtain ⟨r', hf, he⟩ := hJ l a₁ w₁ hq
    obtain ⟨e₂, a₂, w₂, hq₂, harr₂⟩ := he b k cs
    have hg : gotoIn l (.inScope c :: k) = some (.code r' :: .inScope c :: k) := by simp [gotoIn, hf]
    exact ⟨e₂, a₂, w₂, hq₂, .of_steps (.head step_scope (harr _ hg)) harr₂⟩
  | ret => exact ⟨_, a₁, w₁, hq, .of_steps (.one step_scope) harr⟩
  | panic ch => exact ⟨_, a₁, w₁, hq, .of_steps (.one step_scope) harr⟩
  | outgrown => exact ⟨_, a₁, w₁, hq, .of_steps (.one step_scope) harr⟩
/-- No goto any more; to 0, behind which there is none; to 1, behind which there is one to 0 at most. -/
def noJ : Nat → Act → World → Prop := fun _ _ _ => False
def toZero (P : Program) (r0 : Code) (Q : Exit → Act → World → Prop) : Nat → Act → World → Prop
  | 0, a, w => r0.wp P (jumps noJ Q) a w
  | _, _, _ => False
def toOne (P : Program) (r0 r1 : Code) (Q : Exit → Act → World → Prop) : Nat → Act → World → Prop
  | 0, a, w => r0.wp P (jumps noJ Q) a w
  | 1, a, w => r1.wp P (jumps (toZero P r0 Q) Q) a w
  | _, _, _ => False
theorem scope_two {c r0 r1 : Code} (h0 : findLabel c 0 = some r0) (h1 : findLabel c 1 = some r1) (h : c.wp P (jumps (toOne P r0 r1 Q) Q) a w) : (Code.scope c).wp P Q a w := by
  have e0 : ∀ a w, r0.wp P (jumps noJ Q) a w → Ends P c r0 Q a w := fun a w h => ends_of noJ (fun _ _ _ f => f.elim) h
  have ez : ∀ l a w, toZero P r0 Q l a w → ∃ r', findLabel c l = some r' ∧ Ends P c r' Q a w := by
    intro l a w hl
    match l, hl with
    | 0, hl => exact ⟨r0, h0, e0 a w hl⟩
  refine scope_of (toOne P r0 r1 Q) ?_ h
  intro l a w hl
  match l, hl with
  | 0, hl => exact ⟨r0, h0, e0 a w hl⟩
  | 1, hl => exact ⟨r1, h1, ends_of _ ez hl⟩
theorem jumps_one {r0 r1 : Code} (h : r1.wp P (jumps (toZero P r0 Q) Q) a w) : jumps (toOne P r0 r1 Q) Q (.goto 1) a w := h
theorem jumps_zero1 {r0 r1 : Code} (h : r0.wp P (jumps noJ Q) a w) : jumps (toOne P r0 r1 Q) Q (.goto 0) a w := h
theorem jumps_zero2 {r0 : Code} (h : r0.wp P (jumps noJ Q) a w) : jumps (toZero P r0 Q) Q (.goto 0) a w := h
theorem jumps_normal {J : Nat → Act → World → Prop} (h : Q .normal a w) : jumps J Q .normal a w := h
end
end Go.Proofs.YtbhnlfgccldmaaaGreat
/- Package small: a pair, in place. -/
namespace Go.Proofs.YtbhnlfgccldmaaaGreat
open Go.ChangeShapes Go.WideShapes Go.ChangeAt Go.RowKit
set_option linter.unusedVariables false
structure InRow (W w : World) (B : Nat) (zs : List Int) : Prop where
  r : RowAt w B 62 zs
  b : But W w B
theorem InRow.set {W w : World} {B : Nat} {zs : List Int} (h : InRow W w B zs) (k : Nat) (y : Int) : InRow W (w.setCell ⟨B, k, none⟩ (.int .u64 y)) B (zs.set k y) := ⟨h.r.set k y, h.b.trans (But.set _ _ _ _)⟩
theorem InRow.below {W w w' : World} {B : Nat} {zs : List Int} (h : InRow W w B zs) (hb : Below w.heap.size w w') : InRow W w' B zs := ⟨h.r.below hb, h.b.trans (But.of_below _ hb)⟩
theorem InRow.drew {W w : World} {B : Nat} {zs : List Int} (h : InRow W w B zs) : InRow W w.drew B zs := ⟨h.r, h.b.trans (But.drew _ _)⟩
set_option maxRecDepth 100000 in
theorem small_two (B o c : Nat) (dir : Int) (zs : List Int) (x y : Int) (W : World) (hr : RowAt W B 62 zs) (ho : o + 2 ≤ zs.length) (hx : zs.getD o 0 = x) (hy : zs.getD (o + 1) 0 = y) (x0 : 0 ≤ x) (x1 : x ≤ 18446744073709551615) (y0 : 0 ≤ y) (y1 : y ≤ 18446744073709551615) (hd : dir = 0 ∨ dir = 1) :
    Calls Tryz.prog 192 #[.slice (some ⟨B, o, none⟩) 2 c, .int .i64 dir] W fun e w' => e = .returned (.tuple #[]) ∧ InRow W w' B ((zs.set o (fm (x + y))).set (o + 1) (fm (x - y))) := by
  have R := Lib.hid (show ∀ w, Calls Tryz.prog 204 #[.int .i64 2, .int .i64 dir] w fun e w' => e = .returned (.int .u64 (rdir (2 : Nat) dir)) ∧ Below w.heap.size w w' from fun w => small_base 2 dir w (by omega) (by omega) hd)
  have C0 := Lib.hid (fun w (h : InRow W w B zs) => show w.cell? ⟨B, o, none⟩ = some (.int .u64 x) by rw [h.r.cell (by omega), hx])
  have C1 := Lib.hid (fun w (h : InRow W w B zs) => show w.cell? ⟨B, o + 1, none⟩ = some (.int .u64 y) by rw [h.r.cell (by omega), hy])
  have F := Lib.hid (fun (w : World) (zs' : List Int) (h : InRow W w B zs') k => show w.frozen? ⟨B, k, none⟩ = false from h.r.free k)
  have I0 := Lib.hid (show InRow W W B zs from ⟨hr, But.refl _ _⟩)
  generalize rdir (2 : Nat) dir = r at *
  clear hd hr
  go_enter Tryz.func192, Tryz.ntmps192
  refine scope_two rfl rfl ?_
  go_wp2_with fail
  refine (R.out _).mono ?_
  rintro e w1 ⟨rfl, b1⟩
  have I1 := Lib.hid (I0.out.below b1)
  clear I0 b1
  go_wp2_with fail
  apply wp_goto
  go_wp2_with fail
  refine jumps_one ?_
  go_wp2_with fail
  refine region_gate (fun w' => InRow W w' B zs) 17 (by kernel_rfl) I1.out.drew (fun hHeld => ?_)
  refine gate_takeF (i := 0) (v := ?v1) rfl (by kernel_rfl) (by kernel_rfl) (by kernel_rfl) (by kernel_rfl) (fun _ _ _ h => h) (Or.inl ⟨by rfl, ?hy1⟩) (by assumption) ?rest1
  case hy1 => intro w hSw; clear hSw; go_simp; with_reducible rfl
  simp only [Act.put, List.setIfInBounds_toArray]
  refine gate_takeF (i := 1) (v := ?v2) rfl (by kernel_rfl) (by kernel_rfl) (by kernel_rfl) (by kernel_rfl) (fun _ _ _ h => h) (Or.inl ⟨by rfl, ?hy2⟩) (by assumption) ?rest2
  case hy2 => intro w hSw; clear hSw; go_simp; with_reducible rfl
  simp only [Act.put]
  refine gate_takeF (i := 2) (v := ?v3) rfl (by kernel_rfl) (by kernel_rfl) (by kernel_rfl) (by kernel_rfl) (fun _ _ _ h => h) (Or.inl ⟨by rfl, ?hy3⟩) (by assumption) ?rest3
  case hy3 => intro w hSw; clear hSw; go_simp; with_reducible rfl
  simp only [Act.put]
  refine gate_takeF (i := 3) (v := ?v4) rfl (by kernel_rfl) (by kernel_rfl) (by kernel_rfl) (by kernel_rfl) (fun _ _ _ h => h) (Or.inl ⟨by rfl, ?hy4⟩) (by assumption) ?rest4
  case hy4 => intro w hSw; clear hSw; go_simp; with_reducible rfl
  simp only [Act.put]
  refine gate_take (i := 4) (v := ?v5) rfl (by kernel_rfl) (by kernel_rfl) (by kernel_rfl) (by kernel_rfl) (by kernel_rfl) (fun _ _ _ h => h) (Or.inl ⟨by rfl, ?hy5⟩) (by assumption) ?rest5
  case hy5 => intro w hSw; have hcl := C0.out w hSw; go_simp; with_reducible rfl
  simp only [Act.put]
  refine gate_takeF (i := 5) (v := ?v6) rfl (by kernel_rfl) (by kernel_rfl) (by kernel_rfl) (by kernel_rfl) (fun _ _ _ h => h) (Or.inl ⟨by rfl, ?hy6⟩) (by assumption) ?rest6
  case hy6 => intro w hSw; clear hSw; go_simp; with_reducible rfl
  simp only [Act.put]
  refine gate_takeF (i := 6) (v := ?v7) rfl (by kernel_rfl) (by kernel_rfl) (by kernel_rfl) (by kernel_rfl) (fun _ _ _ h => h) (Or.inl ⟨by rfl, ?hy7⟩) (by assumption) ?rest7
  case hy7 => intro w hSw; clear hSw; go_simp; with_reducible rfl
  simp only [Act.put]
  refine gate_take (i := 7) (v := ?v8) rfl (by kernel_rfl) (by kernel_rfl) (by kernel_rfl) (by kernel_rfl) (by kernel_rfl) (fun _ _ _ h => h) (Or.inl ⟨by rfl, ?hy8⟩) (by assumption) ?rest8
  case hy8 => intro w hSw; have hcl := C1.out w hSw; go_simp; with_reducible rfl
  simp only [Act.put]
  refine gate_takeF (i := 9) (v := ?v9) rfl (by kernel_rfl) (by kernel_rfl) (by kernel_rfl) (by kernel_rfl) (fun _ _ _ h => h) (Or.inl ⟨by rfl, ?hy9⟩) (by assumption) ?rest9
  case hy9 => intro w hSw; clear hSw; go_simp; with_reducible rfl
  simp only [Act.put]
  refine gate_takeF (i := 10) (v := ?v10) rfl (by kernel_rfl) (by kernel_rfl) (by kernel_rfl) (by kernel_rfl) (fun _ _ _ h => h) (Or.inl ⟨by rfl, ?hy10⟩) (by assumption) ?rest10
  case hy10 => intro w hSw; clear hSw; go_simp; with_reducible rfl
  simp only [Act.put]
  refine gate_take (i := 11) (v := ?v11) rfl (by kernel_rfl) (by kernel_rfl) (by kernel_rfl) (by kernel_rfl) (by kernel_rfl) (fun _ _ _ h => h) (Or.inl ⟨by rfl, ?hy11⟩) (by assumption) ?rest11
  case hy11 => intro w hSw; have hcl := C0.out w hSw; go_simp; with_reducible rfl
  simp only [Act.put]
  refine gate_takeF (i := 12) (v := ?v12) rfl (by kernel_rfl) (by kernel_rfl) (by kernel_rfl) (by kernel_rfl) (fun _ _ _ h => h) (Or.inl ⟨by rfl, ?hy12⟩) (by assumption) ?rest12
  case hy12 => intro w hSw; clear hSw; go_simp; with_reducible rfl
  simp only [Act.put]
  refine gate_takeF (i := 13) (v := ?v13) rfl (by kernel_rfl) (by kernel_rfl) (by kernel_rfl) (by kernel_rfl) (fun _ _ _ h => h) (Or.inl ⟨by rfl, ?hy13⟩) (by assumption) ?rest13
  case hy13 => intro w hSw; clear hSw; go_simp; with_reducible rfl
  simp only [Act.put]
  refine gate_take (i := 14) (v := ?v14) rfl (by kernel_rfl) (by kernel_rfl) (by kernel_rfl) (by kernel_rfl) (by kernel_rfl) (fun _ _ _ h => h) (Or.inl ⟨by rfl, ?hy14⟩) (by assumption) ?rest14
  case hy14 => intro w hSw; have hcl := C1.out w hSw; go_simp; with_reducible rfl
  simp only [Act.put]
  refine gate_one (i := 8) rfl (by kernel_rfl) (fun K hK => ?_)
  go_simp
  refine (gold_add x y _ x0 x1 y0 y1).mono ?_
  rintro e w' ⟨rfl, rfl⟩
  go_wp2_with fail
  refine hK.out _ _ (by assumption) (fun hHeld2 => ?_)
  clear hK K
  try simp only [Act.put]
  refine gate_one (i := 15) rfl (by kernel_rfl) (fun K hK => ?_)
  go_simp
  refine (gold_sub x y _ x0 x1 y0 y1).mono ?_
  rintro e w' ⟨rfl, rfl⟩
  go_wp2_with fail
  refine hK.out _ _ (by assumption) (fun hHeld2 => ?_)
  clear hK K
  try simp only [Act.put]
  refine gate_takeF (i := 16) (v := ?v15) rfl (by kernel_rfl) (by kernel_rfl) (by kernel_rfl) (by kernel_rfl) (fun _ _ _ h => h) (Or.inl ⟨by rfl, ?hy15⟩) (by assumption) ?rest15
  case hy15 => intro w hSw; clear hSw; go_simp; with_reducible rfl
  simp only [Act.put]
  have f0 := F.out _ _ hHeld o
  have cc0 := C0.out _ hHeld
  have cc1 := C1.out _ hHeld
  have hlt := hHeld.r.lt
  refine gate_past (i := 17) rfl (by kernel_rfl) (by kernel_rfl) (fun K hK => ?_)
  go_simp
  refine hK.out _ _ ?_
  clear hK K
  try simp only [Act.put, List.setIfInBounds_toArray, List.set_cons_zero, List.set_cons_succ]
  have h1 : InRow W (w1.setCell ⟨B, o, none⟩ (.int .u64 (fm (x + y)))).drew B (zs.set o (fm (x + y))) := hHeld.set o (fm (x + y))
  have hlt1 := h1.r.lt
  have f1 := h1.r.free (o + 1)
  have cc2 : ((w1.setCell ⟨B, o, none⟩ (.int .u64 (fm (x + y)))).drew.cell? ⟨B, o + 1, none⟩) = some (.int .u64 ((zs.set o (fm (x + y))).getD (o + 1) 0)) := h1.r.cell (by rw [List.length_set]; omega)
  refine gate_past (i := 18) rfl (by kernel_rfl) (by kernel_rfl) (fun K hK => ?_)
  go_simp
  refine hK.out _ _ ?_
  clear hK K
  try simp only [Act.put, List.setIfInBounds_toArray, List.set_cons_zero, List.set_cons_succ]
  refine gate_past (i := 19) rfl (by kernel_rfl) (by kernel_rfl) (fun K hK => ?_)
  go_simp
  refine hK.out _ _ ?_
  clear hK K
  try simp only [Act.put, List.setIfInBounds_toArray, List.set_cons_zero, List.set_cons_succ]
  have E := Lib.hid (h1.set (o + 1) (fm (x - y)))
  clear h1 hHeld cc0 cc1 f0 hlt hlt1 f1 cc2
  refine gate_done (by kernel_rfl) ?_ _
  go_wp2_with fail
  apply wp_goto
  go_wp2_with fail
  refine jumps_zero2 ?_
  go_wp2_with fail
  refine jumps_normal ?_
  go_wp2_with fail
  go_end0
  exact ⟨rfl, E.out⟩
end Go.Proofs.YtbhnlfgccldmaaaGreat
/- Half of an order; vec.Red as a row of the call's own; the document's Dir. -/
namespace Go.Proofs.YtbhnlfgccldmaaaGreat
open Go.ChangeShapes Go.WideShapes Go.ChangeAt Go.RowKit
set_option linter.unusedVariables false
/-- Half of the order: -1. -/
theorem half_rt {r : Int} {n : Nat} (h1 : fm (r ^ n) = 1) (ho : ∀ m, 0 < m → m < n → fm (r ^ m) ≠ 1) (he : n % 2 = 0) (hn : 0 < n) : fm (r ^ (n / 2)) = fm (-1) := by
  have hu := ho (n / 2) (by omega) (by omega)
  have h2 : fm (r ^ (n / 2) * r ^ (n / 2)) = 1 := by
    rw [← Int.pow_add, show n / 2 + n / 2 = n by omega, h1]
  generalize r ^ (n / 2) = u at *
  have h3 : fm ((u - 1) * (u + 1)) = 0 := by
    have : (u - 1) * (u + 1) = u * u - 1 := by grind
    rw [this, ← fm_sub_l, h2]; rfl
  have h4 : fm (u - 1) ≠ 0 := by
    intro e
    apply hu
    have : fm u = fm (fm (u - 1) + 1) := by rw [fm_add_l]; congr 1; omega
    rw [this, e]; rfl
  have h5 := fm_zero_of_mul h3 h4
  have : fm u = fm (fm (u + 1) + (-1)) := by rw [fm_add_l]; congr 1; omega
  rw [this, h5, Int.zero_add]
theorem c_redown (p : Option Addr) (n c : Nat) (xs : List Int) (w : World) (h : Row w p n xs) : Calls Tryz.prog 88 #[.slice p n c] w fun e w' => e = .returned (.slice (some ⟨w.heap.size, 0, none⟩) n n) ∧ RowAt w' w.heap.size 62 (redl xs) ∧ Below w.heap.size w w' := by
  obtain ⟨rfl, hr, hw, hs⟩ := h
  refine (vec_red p c xs w hr hw (by omega)).mono fun e w' ⟨he, hq, hb⟩ => ?_
  rw [scl_one] at hq
  exact ⟨he, hq, hb⟩
end Go.Proofs.YtbhnlfgccldmaaaGreat
/- Package small: Do, of two; the page's example; the document's Twist. -/
namespace Go.Proofs.YtbhnlfgccldmaaaGreat
open Go.ChangeShapes Go.WideShapes Go.ChangeAt Go.RowKit
set_option linter.unusedVariables false
end Go.Proofs.YtbhnlfgccldmaaaGreat
