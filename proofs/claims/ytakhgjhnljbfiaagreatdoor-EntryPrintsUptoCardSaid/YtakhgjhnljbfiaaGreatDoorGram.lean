/- A grammar of trees over whatever signs: a reader, the texts; the reader reads just the texts. -/
import Derived.Test.YtakhgjhnljbfiaaGreatDoorD11
namespace Go.Proofs.YtakhgjhnljbfiaaGreatDoor
open Go.ChangeShapes Go.WideShapes Go.ChangeAt Go.RowKit
set_option linter.unusedVariables false
set_option linter.unusedSimpArgs false
/-- A node that has a text. -/
def okT1 (k n : Int) : Prop := (1 ≤ k ∧ k ≤ 7) ∧ 0 ≤ n ∧ n ≤ 999999999
def Fo.okT : Fo → Prop
  | .nil => True
  | .cons k n ks r => okT1 k n ∧ ks.okT ∧ r.okT
theorem Fo.len_zero : ∀ {f : Fo}, f.len = 0 → f = .nil
  | .nil, _ => rfl
  | .cons _ _ _ _, h => by simp [Fo.len] at h

namespace Gr
/-- One node. -/
def one {σ : Type} [DecidableEq σ] (p : List σ → Option (Fo × List σ)) (H : List σ → Option (Int × Int × List σ)) (op cl : σ) (ts : List σ) : Option ((Int × Int × Fo) × List σ) :=
  match H ts with
  | none => none
  | some (k, n, []) => some ((k, n, .nil), [])
  | some (k, n, t :: z) => if t = op then (match p z with
      | some (ks, c :: y) => if c = cl then some ((k, n, ks), y) else none
      | _ => none) else some ((k, n, .nil), t :: z)
/-- One or more. -/
def many {σ : Type} [DecidableEq σ] (H : List σ → Option (Int × Int × List σ)) (op cl cm : σ) : Nat → List σ → Option (Fo × List σ)
  | 0, _ => none
  | f + 1, ts => match one (many H op cl cm f) H op cl ts with
    | none => none
    | some ((k, n, ks), []) => some (.cons k n ks .nil, [])
    | some ((k, n, ks), t :: z) => if t = cm then (match many H op cl cm f z with
        | some (r, y) => some (.cons k n ks r, y)
        | none => none) else some (.cons k n ks .nil, t :: z)

theorem one_less {σ : Type} [DecidableEq σ] {p : List σ → Option (Fo × List σ)} {H : List σ → Option (Int × Int × List σ)} {op cl : σ} (hp : ∀ ts x z, p ts = some (x, z) → z.length < ts.length) (hH : ∀ ts k n z, H ts = some (k, n, z) → z.length < ts.length)
    {ts : List σ} {x : Int × Int × Fo} {z : List σ} (h : one p H op cl ts = some (x, z)) : z.length < ts.length := by
  unfold one at h
  rcases hh : H ts with _ | ⟨k, n, _ | ⟨t, r⟩⟩
  · simp [hh] at h
  · simp [hh] at h
    have := hH _ _ _ _ hh
    rw [h.2]; exact this
  · have h1 := hH _ _ _ _ hh
    simp only [hh] at h
    by_cases ht : t = op
    · rw [if_pos ht] at h
      rcases hq : p r with _ | ⟨ks, _ | ⟨c, y⟩⟩
      · simp [hq] at h
      · simp [hq] at h
      · have h2 := hp _ _ _ hq
        simp only [hq] at h
        by_cases hc : c = cl
        · rw [if_pos hc] at h
          simp only [Option.some.injEq, Prod.mk.injEq] at h
          rw [← h.2]; simp at h1 h2; omega
        · rw [if_neg hc] at h; cases h
    · rw [if_neg ht] at h
      simp only [Option.some.injEq, Prod.mk.injEq] at h
      rw [← h.2]; exact h1
theorem many_less {σ : Type} [DecidableEq σ] {H : List σ → Option (Int × Int × List σ)} {op cl cm : σ} (hH : ∀ ts k n z, H ts = some (k, n, z) → z.length < ts.length) :
    ∀ (f : Nat) (ts : List σ) (x : Fo) (z : List σ), many H op cl cm f ts = some (x, z) → z.length < ts.length := by
  intro f
  induction f with
  | zero => intro ts x z h; simp [many] at h
  | succ f ih =>
    intro ts x z h
    unfold many at h
    rcases ho : one (many H op cl cm f) H op cl ts with _ | ⟨⟨k, n, ks⟩, _ | ⟨t, r⟩⟩
    · simp [ho] at h
    · have := one_less ih hH ho
      simp [ho] at h
      rw [h.2]; exact this
    · have h1 := one_less ih hH ho
      simp only [ho] at h
      by_cases ht : t = cm
      · rw [if_pos ht] at h
        rcases hq : many H op cl cm f r with _ | ⟨r2, y⟩
        · simp [hq] at h
        · have h2 := ih _ _ _ hq
          simp only [hq, Option.some.injEq, Prod.mk.injEq] at h
          rw [← h.2]; simp at h1; omega
      · rw [if_neg ht] at h
        simp only [Option.some.injEq, Prod.mk.injEq] at h
        rw [← h.2]; exact h1
theorem one_congr {σ : Type} [DecidableEq σ] {p q : List σ → Option (Fo × List σ)} {H : List σ → Option (Int × Int × List σ)} {op cl : σ} (hH : ∀ ts k n z, H ts = some (k, n, z) → z.length < ts.length)
    {ts : List σ} (h : ∀ z, z.length < ts.length → p z = q z) : one p H op cl ts = one q H op cl ts := by
  unfold one
  rcases hh : H ts with _ | ⟨k, n, _ | ⟨t, r⟩⟩
  · rfl
  · rfl
  · have h1 := hH _ _ _ _ hh
    simp only [List.length_cons] at h1
    simp only [h r (by omega)]
theorem many_fuel {σ : Type} [DecidableEq σ] {H : List σ → Option (Int × Int × List σ)} {op cl cm : σ} (hH : ∀ ts k n z, H ts = some (k, n, z) → z.length < ts.length) :
    ∀ (f g : Nat) (ts : List σ), ts.length < f → ts.length < g → many H op cl cm f ts = many H op cl cm g ts := by
  intro f
  induction f with
  | zero => intro g ts h; omega
  | succ f ih =>
    intro g ts h1 h2
    cases g with
    | zero => omega
    | succ g =>
      unfold many
      have ho : one (many H op cl cm f) H op cl ts = one (many H op cl cm g) H op cl ts := one_congr hH (fun z hz => ih g z (by omega) (by omega))
      rw [← ho]
      rcases hq : one (many H op cl cm f) H op cl ts with _ | ⟨⟨k, n, ks⟩, _ | ⟨t, r⟩⟩
      · rfl
      · rfl
      · have h3 := one_less (many_less hH f) hH hq
        simp only [List.length_cons] at h3
        simp only [ih g r (by omega) (by omega)]

/-- One or more, and one. -/
def S {σ : Type} [DecidableEq σ] (H : List σ → Option (Int × Int × List σ)) (op cl cm : σ) (ts : List σ) : Option (Fo × List σ) := many H op cl cm (ts.length + 1) ts
def N {σ : Type} [DecidableEq σ] (H : List σ → Option (Int × Int × List σ)) (op cl cm : σ) (ts : List σ) : Option ((Int × Int × Fo) × List σ) := one (S H op cl cm) H op cl ts
theorem S_less {σ : Type} [DecidableEq σ] {H : List σ → Option (Int × Int × List σ)} {op cl cm : σ} (hH : ∀ ts k n z, H ts = some (k, n, z) → z.length < ts.length) {ts : List σ} {x : Fo} {z : List σ} (h : S H op cl cm ts = some (x, z)) : z.length < ts.length := many_less hH _ _ _ _ h
theorem N_less {σ : Type} [DecidableEq σ] {H : List σ → Option (Int × Int × List σ)} {op cl cm : σ} (hH : ∀ ts k n z, H ts = some (k, n, z) → z.length < ts.length) {ts : List σ} {x : Int × Int × Fo} {z : List σ} (h : N H op cl cm ts = some (x, z)) : z.length < ts.length :=
  one_less (fun _ _ _ h => S_less hH h) hH h
theorem S_one {σ : Type} [DecidableEq σ] {H : List σ → Option (Int × Int × List σ)} {op cl cm : σ} (hH : ∀ ts k n z, H ts = some (k, n, z) → z.length < ts.length) (ts : List σ) :
    one (many H op cl cm ts.length) H op cl ts = N H op cl cm ts :=
  one_congr hH (fun z hz => many_fuel hH _ _ z hz (Nat.lt_succ_self _))
theorem S_none {σ : Type} [DecidableEq σ] {H : List σ → Option (Int × Int × List σ)} {op cl cm : σ} (hH : ∀ ts k n z, H ts = some (k, n, z) → z.length < ts.length) {ts : List σ} (h : N H op cl cm ts = none) : S H op cl cm ts = none := by
  unfold S many; rw [S_one hH, h]
theorem S_end {σ : Type} [DecidableEq σ] {H : List σ → Option (Int × Int × List σ)} {op cl cm : σ} (hH : ∀ ts k n z, H ts = some (k, n, z) → z.length < ts.length) {ts z : List σ} {k n : Int} {ks : Fo} (h : N H op cl cm ts = some ((k, n, ks), z)) (hz : ∀ y, z ≠ cm :: y) : S H op cl cm ts = some (.cons k n ks .nil, z) := by
  unfold S many; rw [S_one hH, h]
  cases z with
  | nil => rfl
  | cons t r => simp only []; rw [if_neg (fun e => hz r (by rw [e]))]
theorem S_more {σ : Type} [DecidableEq σ] {H : List σ → Option (Int × Int × List σ)} {op cl cm : σ} (hH : ∀ ts k n z, H ts = some (k, n, z) → z.length < ts.length) {ts z : List σ} {k n : Int} {ks : Fo} (h : N H op cl cm ts = some ((k, n, ks), cm :: z)) :
    S H op cl cm ts = (match S H op cl cm z with | some (r, y) => some (.cons k n ks r, y) | none => none) := by
  have h1 := N_less hH h
  simp only [List.length_cons] at h1
  unfold S; rw [many, S_one hH, h]
  simp only [if_true]
  rw [many_fuel hH ts.length (z.length + 1) z (by omega) (by omega)]
theorem N_none {σ : Type} [DecidableEq σ] {H : List σ → Option (Int × Int × List σ)} {op cl cm : σ} {ts : List σ} (h : H ts = none) : N H op cl cm ts = none := by unfold N one; rw [h]
theorem N_leaf {σ : Type} [DecidableEq σ] {H : List σ → Option (Int × Int × List σ)} {op cl cm : σ} {ts z : List σ} {k n : Int} (h : H ts = some (k, n, z)) (hz : ∀ y, z ≠ op :: y) : N H op cl cm ts = some ((k, n, .nil), z) := by
  unfold N one; rw [h]
  cases z with
  | nil => rfl
  | cons t r => simp only []; rw [if_neg (fun e => hz r (by rw [e]))]
theorem N_open {σ : Type} [DecidableEq σ] {H : List σ → Option (Int × Int × List σ)} {op cl cm : σ} {ts z : List σ} {k n : Int} (h : H ts = some (k, n, op :: z)) :
    N H op cl cm ts = (match S H op cl cm z with | some (ks, c :: y) => if c = cl then some ((k, n, ks), y) else none | _ => none) := by
  unfold N one; rw [h]
  simp only [if_true]

/-- The texts. -/
def tx {σ : Type} (hd : Int → Int → List σ) (op cl cm : σ) : Fo → List σ
  | .nil => []
  | .cons k n ks r => hd k n ++ ((if ks.len = 0 then [] else op :: (tx hd op cl cm ks ++ [cl])) ++ (if r.len = 0 then [] else cm :: tx hd op cl cm r))

theorem many_sound {σ : Type} [DecidableEq σ] {H : List σ → Option (Int × Int × List σ)} {hd : Int → Int → List σ} {op cl cm : σ} (hS : ∀ ts k n z, H ts = some (k, n, z) → ts = hd k n ++ z ∧ okT1 k n) :
    ∀ (f : Nat) (ts : List σ) (x : Fo) (z : List σ), many H op cl cm f ts = some (x, z) → ts = tx hd op cl cm x ++ z ∧ x.okT ∧ x.len ≠ 0 := by
  intro f
  induction f with
  | zero => intro ts x z h; simp [many] at h
  | succ f ih =>
    intro ts x z h
    have hone : ∀ k n ks y, one (many H op cl cm f) H op cl ts = some ((k, n, ks), y) → ts = hd k n ++ ((if ks.len = 0 then [] else op :: (tx hd op cl cm ks ++ [cl])) ++ y) ∧ okT1 k n ∧ ks.okT := fun k n ks y ho => by
      unfold one at ho
      rcases hh : H ts with _ | ⟨k', n', _ | ⟨t, r⟩⟩
      · simp [hh] at ho
      · have h1 := hS _ _ _ _ hh
        simp only [hh, Option.some.injEq, Prod.mk.injEq] at ho
        obtain ⟨⟨rfl, rfl, rfl⟩, rfl⟩ := ho
        exact ⟨by simpa [Fo.len] using h1.1, h1.2, trivial⟩
      · have h1 := hS _ _ _ _ hh
        simp only [hh] at ho
        by_cases ht : t = op
        · rw [if_pos ht] at ho
          rcases hq : many H op cl cm f r with _ | ⟨ks', _ | ⟨c, y'⟩⟩
          · simp [hq] at ho
          · simp [hq] at ho
          · have h2 := ih _ _ _ hq
            simp only [hq] at ho
            by_cases hc : c = cl
            · rw [if_pos hc] at ho
              simp only [Option.some.injEq, Prod.mk.injEq] at ho
              obtain ⟨⟨rfl, rfl, rfl⟩, rfl⟩ := ho
              refine ⟨?_, h1.2, h2.2.1⟩
              rw [if_neg h2.2.2, h1.1, h2.1, ht, hc]; simp
            · rw [if_neg hc] at ho; cases ho
        · rw [if_neg ht] at ho
          simp only [Option.some.injEq, Prod.mk.injEq] at ho
          obtain ⟨⟨rfl, rfl, rfl⟩, rfl⟩ := ho
          exact ⟨by simpa [Fo.len] using h1.1, h1.2, trivial⟩
    unfold many at h
    rcases ho : one (many H op cl cm f) H op cl ts with _ | ⟨⟨k, n, ks⟩, _ | ⟨t, r⟩⟩
    · simp [ho] at h
    · have h1 := hone _ _ _ _ ho
      simp only [ho, Option.some.injEq, Prod.mk.injEq] at h
      obtain ⟨rfl, rfl⟩ := h
      exact ⟨by simpa [tx, Fo.len] using h1.1, ⟨h1.2.1, h1.2.2, trivial⟩, by simp [Fo.len]⟩
    · have h1 := hone _ _ _ _ ho
      simp only [ho] at h
      by_cases ht : t = cm
      · rw [if_pos ht] at h
        rcases hq : many H op cl cm f r with _ | ⟨r2, y⟩
        · simp [hq] at h
        · have h2 := ih _ _ _ hq
          simp only [hq, Option.some.injEq, Prod.mk.injEq] at h
          obtain ⟨rfl, rfl⟩ := h
          refine ⟨?_, ⟨h1.2.1, h1.2.2, h2.2.1⟩, by simp [Fo.len]⟩
          rw [h1.1, h2.1, ht, tx, if_neg h2.2.2]; simp
      · rw [if_neg ht] at h
        simp only [Option.some.injEq, Prod.mk.injEq] at h
        obtain ⟨rfl, rfl⟩ := h
        refine ⟨?_, ⟨h1.2.1, h1.2.2, trivial⟩, by simp [Fo.len]⟩
        rw [h1.1, tx]; simp [Fo.len]

theorem many_all {σ : Type} [DecidableEq σ] {H : List σ → Option (Int × Int × List σ)} {hd : Int → Int → List σ} {op cl cm : σ} (hoc : cm ≠ op) (hlo : cl ≠ op) (hlc : cl ≠ cm)
    (hC : ∀ k n z, okT1 k n → (z = [] ∨ ∃ c y, z = c :: y ∧ (c = op ∨ c = cl ∨ c = cm)) → H (hd k n ++ z) = some (k, n, z)) (hL : ∀ k n, okT1 k n → 0 < (hd k n).length) :
    ∀ (x : Fo) (z : List σ) (f : Nat), x.okT → x.len ≠ 0 → (z = [] ∨ ∃ y, z = cl :: y) → (tx hd op cl cm x ++ z).length < f → many H op cl cm f (tx hd op cl cm x ++ z) = some (x, z) := by
  intro x
  induction x with
  | nil => intro z f _ h; simp [Fo.len] at h
  | cons k n ks r ihk ihr =>
    intro z f hok _ hz hf
    obtain ⟨ok1, okk, okr⟩ := hok
    cases f with
    | zero => omega
    | succ f =>
      have hl := hL k n ok1
      obtain ⟨B, hB⟩ : ∃ B, (if r.len = 0 then [] else cm :: tx hd op cl cm r) = B := ⟨_, rfl⟩
      obtain ⟨A, hA⟩ : ∃ A, (if ks.len = 0 then [] else op :: (tx hd op cl cm ks ++ [cl])) = A := ⟨_, rfl⟩
      have et : tx hd op cl cm (.cons k n ks r) ++ z = hd k n ++ (A ++ (B ++ z)) := by rw [tx, hA, hB]; simp
      rw [et] at hf ⊢
      simp only [List.length_append] at hf
      have hBz : (B ++ z = [] ∨ ∃ c y, B ++ z = c :: y ∧ (c = cl ∨ c = cm)) := by
        by_cases hr : r.len = 0
        · rw [if_pos hr] at hB
          rw [← hB, List.nil_append]
          rcases hz with hz | ⟨y, hz⟩
          · exact .inl hz
          · exact .inr ⟨cl, y, hz, .inl rfl⟩
        · rw [if_neg hr] at hB
          rw [← hB]
          exact .inr ⟨cm, _, rfl, .inr rfl⟩
      have hone : one (many H op cl cm f) H op cl (hd k n ++ (A ++ (B ++ z))) = some ((k, n, ks), B ++ z) := by
        unfold one
        by_cases hk : ks.len = 0
        · rw [if_pos hk] at hA
          rw [← hA, List.nil_append, hC k n _ ok1 (by
            rcases hBz with h | ⟨c, y, h1, h2⟩
            · exact .inl h
            · exact .inr ⟨c, y, h1, .inr h2⟩), Fo.len_zero hk]
          rcases hBz with h | ⟨c, y, h1, h2⟩
          · rw [h]
          · rw [h1]
            simp only []
            rw [if_neg (by rintro rfl; rcases h2 with h2 | h2
                           · exact hlo h2.symm
                           · exact hoc h2.symm)]
        · rw [if_neg hk] at hA
          have hz1 : A ++ (B ++ z) = op :: (tx hd op cl cm ks ++ (cl :: (B ++ z))) := by rw [← hA]; simp
          rw [hz1, hC k n _ ok1 (.inr ⟨op, _, rfl, .inl rfl⟩)]
          simp only [if_true]
          rw [ihk (cl :: (B ++ z)) f okk hk (.inr ⟨_, rfl⟩) (by
            have := congrArg List.length hz1
            simp only [List.length_append, List.length_cons] at this ⊢
            omega)]
          simp
      unfold many
      rw [hone]
      by_cases hr : r.len = 0
      · rw [if_pos hr] at hB
        rw [← hB, List.nil_append, Fo.len_zero hr]
        rcases hz with rfl | ⟨y, rfl⟩
        · rfl
        · simp only []
          rw [if_neg hlc]
      · rw [if_neg hr] at hB
        rw [← hB, List.cons_append]
        simp only [if_true]
        rw [ihr z f okr hr hz (by rw [← hB] at hf; simp only [List.length_append, List.length_cons] at hf ⊢; omega)]

theorem many_len {σ : Type} [DecidableEq σ] {H : List σ → Option (Int × Int × List σ)} {op cl cm : σ} {ts : List σ} {x : Fo} {z : List σ} (h : S H op cl cm ts = some (x, z)) : x.len ≠ 0 := by
  unfold S many at h
  rcases ho : one (many H op cl cm ts.length) H op cl ts with _ | ⟨⟨k, n, ks⟩, _ | ⟨t, r⟩⟩
  · simp [ho] at h
  · simp only [ho, Option.some.injEq, Prod.mk.injEq] at h
    rw [← h.1]; simp [Fo.len]
  · simp only [ho] at h
    by_cases ht : t = cm
    · rw [if_pos ht] at h
      rcases hq : many H op cl cm ts.length r with _ | ⟨r2, y⟩
      · simp [hq] at h
      · simp only [hq, Option.some.injEq, Prod.mk.injEq] at h
        rw [← h.1]; simp [Fo.len]
    · rw [if_neg ht] at h
      simp only [Option.some.injEq, Prod.mk.injEq] at h
      rw [← h.1]; simp [Fo.len]
theorem N_sound {σ : Type} [DecidableEq σ] {H : List σ → Option (Int × Int × List σ)} {hd : Int → Int → List σ} {op cl cm : σ} (hS : ∀ ts k n z, H ts = some (k, n, z) → ts = hd k n ++ z ∧ okT1 k n) (hH : ∀ ts k n z, H ts = some (k, n, z) → z.length < ts.length)
    {ts : List σ} {k n : Int} {ks : Fo} (h : N H op cl cm ts = some ((k, n, ks), [])) : ts = tx hd op cl cm (.cons k n ks .nil) ∧ (Fo.cons k n ks .nil).okT := by
  have h1 := S_end hH h (by simp)
  have h2 := many_sound hS _ _ _ _ h1
  exact ⟨by simpa using h2.1, h2.2.1⟩
theorem N_all {σ : Type} [DecidableEq σ] {H : List σ → Option (Int × Int × List σ)} {hd : Int → Int → List σ} {op cl cm : σ} (hoc : cm ≠ op) (hlo : cl ≠ op) (hlc : cl ≠ cm)
    (hC : ∀ k n z, okT1 k n → (z = [] ∨ ∃ c y, z = c :: y ∧ (c = op ∨ c = cl ∨ c = cm)) → H (hd k n ++ z) = some (k, n, z)) (hL : ∀ k n, okT1 k n → 0 < (hd k n).length) (hH : ∀ ts k n z, H ts = some (k, n, z) → z.length < ts.length)
    {k n : Int} {ks : Fo} (ho : (Fo.cons k n ks .nil).okT) : N H op cl cm (tx hd op cl cm (.cons k n ks .nil)) = some ((k, n, ks), []) := by
  have h1 := many_all hoc hlo hlc hC hL (.cons k n ks .nil) [] ((tx hd op cl cm (.cons k n ks .nil)).length + 1) ho (by simp [Fo.len]) (.inl rfl) (by simp)
  rw [List.append_nil] at h1
  have h2 : S H op cl cm (tx hd op cl cm (.cons k n ks .nil)) = some (.cons k n ks .nil, []) := h1
  generalize tx hd op cl cm (.cons k n ks .nil) = ts at h2 ⊢
  rcases hn : N H op cl cm ts with _ | ⟨⟨k', n', ks'⟩, z⟩
  · rw [S_none hH hn] at h2; cases h2
  · by_cases hz : ∃ y, z = cm :: y
    · obtain ⟨y, rfl⟩ := hz
      rw [S_more hH hn] at h2
      rcases hs : S H op cl cm y with _ | ⟨r, y'⟩
      · simp [hs] at h2
      · simp only [hs, Option.some.injEq, Prod.mk.injEq, Fo.cons.injEq] at h2
        have := many_len hs
        rw [h2.1.2.2.2] at this
        simp [Fo.len] at this
    · rw [S_end hH hn (fun y e => hz ⟨y, e⟩)] at h2
      simp only [Option.some.injEq, Prod.mk.injEq, Fo.cons.injEq] at h2
      obtain ⟨⟨rfl, rfl, rfl, -⟩, rfl⟩ := h2
      rfl
end Gr
end Go.Proofs.YtakhgjhnljbfiaaGreatDoor
