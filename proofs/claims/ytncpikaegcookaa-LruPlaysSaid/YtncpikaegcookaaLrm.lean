/- lru: Peek, Get. -/
import Derived.Test.YtncpikaegcookaaLrl
namespace Go.Proofs.Ytncpikaegcookaa
open Go.ChangeShapes Go.WideShapes Go.ChangeAt Go.RowKit
set_option linter.unusedVariables false
open Go.WideMaps Go.MapKept Go.WideElems Go.ChangeMaps Go.Maps
set_option linter.unusedSimpArgs false
theorem l_nothing (W : World) : Calls Try.prog 22 #[] W fun e w' => e = .returned (.tuple #[.int .i64 0, .bool false]) ∧ w' = W := by
  go_enter Try.func22, Try.ntmps22
  go_wp2
  go_ret2
  exact ⟨rfl, rfl⟩
def valN (s : List (Int × Int)) (k : Int) : Int × Bool := match (vidx s k).bind (fun j => s[j]?) with | some p => (p.2, true) | none => (0, false)
def getN (s : List (Int × Int)) (k : Int) : List (Int × Int) := match vidx s k with | some j => (match s[j]? with | some p => p :: s.eraseIdx j | none => s) | none => s
theorem valN_none {s : List (Int × Int)} {k : Int} (h : vidx s k = none) : valN s k = (0, false) := by unfold valN; rw [h]; rfl
theorem valN_some {s : List (Int × Int)} {k : Int} {j : Nat} {p : Int × Int} (h : vidx s k = some j) (hp : s[j]? = some p) : valN s k = (p.2, true) := by unfold valN; rw [h, Option.bind_some, hp]
theorem getN_none {s : List (Int × Int)} {k : Int} (h : vidx s k = none) : getN s k = s := by unfold getN; rw [h]
theorem getN_some {s : List (Int × Int)} {k : Int} {j : Nat} {p : Int × Int} (h : vidx s k = some j) (hp : s[j]? = some p) : getN s k = p :: s.eraseIdx j := by unfold getN; rw [h]; simp only [hp]
theorem map_get {zs : List (Nat × Int × Int)} {j : Nat} {z : Nat × Int × Int} (h : zs[j]? = some z) : (zs.map Prod.snd)[j]? = some z.2 ∧ (zs.map Prod.fst)[j]? = some z.1 := by rw [List.getElem?_map, List.getElem?_map, h]; exact ⟨rfl, rfl⟩
theorem LA.val {w : World} {B0 Lb F M : Nat} {room : Int} {v : Value} {zs : List (Nat × Int × Int)} {es : List MapEntry} {ck : Nat} (h : LA w B0 Lb F M room v zs es ck) {z : Nat × Int × Int} (hz : z ∈ zs) : w.cell? ⟨z.1, 0, none⟩ = some (.int .i64 z.2.1) ∧ w.cell? ⟨z.1, 1, none⟩ = some (.int .i64 z.2.2) ∧ z.1 < w.heap.size ∧ w.frozen? ⟨z.1, 1, none⟩ = false :=
  ⟨by rw [cell_of_row _ _ _ _ _ _ (h.t z hz)]; rfl, by rw [cell_of_row _ _ _ _ _ _ (h.t z hz)]; rfl, g_lt (h.t z hz), frozen_of_row _ _ _ _ _ (h.t z hz)⟩
set_option maxRecDepth 100000 in
set_option maxHeartbeats 4000000 in
theorem l_peek (B0 Lb : Nat) (room : Int) (s : List (Int × Int)) (k : Int) (W : World) (h : Lru W B0 Lb room s) (hk : -9223372036854775808 ≤ k ∧ k ≤ 9223372036854775807) :
    Calls Try.prog 12 #[.pointer (some ⟨Lb, 0, none⟩), .int .i64 k] W fun e w' => e = .returned (.tuple #[.int .i64 (valN s k).1, .bool (valN s k).2]) ∧ Below W.heap.size W w' := by
  obtain ⟨F, M, v, zs, es, ck, h, rfl⟩ := h
  have CF := Lib.hid (l_find B0 Lb F M room v zs es ck k W h hk)
  have H := Lib.hid h
  clear h hk
  go_enter Try.func12, Try.ntmps12
  go_wp2_with fail
  refine (CF.out).mono ?_
  rintro e w1 ⟨rfl, hb1⟩
  have H1 := Lib.hid (H.out.below hb1)
  have HB := Lib.hid hb1
  clear hb1
  cases hv : vidx (zs.map Prod.snd) k with
  | none =>
    have HV := Lib.hid (valN_none hv)
    rw [show pfind zs none = .pointer none from rfl]
    clear hv
    go_wp2_with fail
    refine (l_nothing _).mono ?_
    rintro e w2 ⟨rfl, rfl⟩
    go_wp2_with fail
    go_ret2
    exact ⟨by rw [HV.out]; rfl, HB.out⟩
  | some j =>
    obtain ⟨z, hz, hzk⟩ := zidx hv
    have HV := Lib.hid (valN_some hv (map_get hz).1)
    obtain ⟨c0, c1, hlt, -⟩ := H1.out.val (List.mem_of_getElem? hz)
    rw [pfind_some hz]
    unfold ptr
    clear hz hv hzk
    go_wp2_with fail
    go_ret2
    exact ⟨by rw [HV.out]; rfl, HB.out⟩
set_option maxRecDepth 100000 in
set_option maxHeartbeats 4000000 in
theorem l_get (B0 Lb : Nat) (room : Int) (s : List (Int × Int)) (k : Int) (W : World) (h : Lru W B0 Lb room s) (hk : -9223372036854775808 ≤ k ∧ k ≤ 9223372036854775807) :
    Calls Try.prog 10 #[.pointer (some ⟨Lb, 0, none⟩), .int .i64 k] W fun e w' => e = .returned (.tuple #[.int .i64 (valN s k).1, .bool (valN s k).2]) ∧ Lru w' B0 Lb room (getN s k) ∧ Below B0 W w' := by
  obtain ⟨F, M, v, zs, es, ck, h, rfl⟩ := h
  have CF := Lib.hid (l_find B0 Lb F M room v zs es ck k W h hk)
  have H := Lib.hid h
  clear h hk
  have hB0 : B0 ≤ W.heap.size := by have := H.out.lo.1; have := H.out.l.lt; omega
  have HB0 := Lib.hid hB0
  clear hB0
  go_enter Try.func10, Try.ntmps10
  go_wp2_with fail
  refine (CF.out).mono ?_
  rintro e w1 ⟨rfl, hb1⟩
  have H1 := Lib.hid (H.out.below hb1)
  have HB := Lib.hid hb1
  clear hb1
  cases hv : vidx (zs.map Prod.snd) k with
  | none =>
    have HV := Lib.hid (valN_none hv)
    have HG := Lib.hid (getN_none hv)
    rw [show pfind zs none = .pointer none from rfl]
    clear hv
    go_wp2_with fail
    refine (l_nothing _).mono ?_
    rintro e w2 ⟨rfl, rfl⟩
    go_wp2_with fail
    go_ret2
    exact ⟨by rw [HV.out]; rfl, by rw [HG.out]; exact ⟨F, M, v, zs, es, ck, H1.out, rfl⟩, HB.out.mono HB0.out⟩
  | some j =>
    obtain ⟨z, hz, hzk⟩ := zidx hv
    have HV := Lib.hid (valN_some hv (map_get hz).1)
    have HG := Lib.hid (getN_some hv (map_get hz).1)
    have HZ := Lib.hid hz
    have CR := Lib.hid (l_remove Lb M F j z.1 room v (zs.map Prod.fst) w1 H1.out.l H1.out.f (by rw [List.length_map]; exact H1.out.sz) (map_get hz).2 H1.out.d H1.out.things)
    rw [pfind_some hz]
    unfold ptr at CR ⊢
    clear hz hv hzk
    go_wp2_with fail
    refine (CR.out).mono ?_
    rintro e w2 ⟨rfl, v2, hl2, hf2, hv2, hb2⟩
    have HL2 := Lib.hid hl2
    have HF2 := Lib.hid hf2
    have HV2 := Lib.hid hv2
    have HB2 := Lib.hid hb2
    clear hl2 hf2 hv2 hb2
    have CA := Lib.hid (l_ahead Lb M F z.1 room v2 ((zs.map Prod.fst).eraseIdx j) w2 HL2.out HF2.out (by have := H1.out.sz; rw [List.length_eraseIdx]; split <;> simp <;> omega))
    unfold ptr at CA
    go_wp2_with fail
    refine (CA.out).mono ?_
    rintro e w3 ⟨rfl, v3, F3, hl3, hf3, hv3, hb3⟩
    have H3 := Lib.hid (show LA w3 B0 Lb F3 M room v3 (z :: zs.eraseIdx j) es ck from
      H1.out.moved (erase_perm HZ.out) hl3 (by rw [List.map_cons, map_erase]; exact hf3)
        (fun x hx h1 h2 => (hb3.o x (by have := HB2.out.z; omega) h1 (by rw [HV2.out]; exact h2)).trans (HB2.out.o x hx h1 h2))
        (fun X hX => by
          have hlo := H1.out.lo
          rcases hf3.blk with h9 | h9
          · rw [h9] at hX; cases hX
          · rw [h9] at hX
            cases hX
            rcases hv3 with ⟨rfl, h8⟩ | h8
            · exact hlo.2.2.1 _ (by rw [← HV2.out]; exact h8)
            · have := HB2.out.z; have := HB.out.size; have := HB0.out; omega))
    have HBB := Lib.hid (show Below B0 W w3 from by
      have hlo := H1.out.lo
      have b1 := HB.out.mono HB0.out
      have b2 := HB2.out.b B0 hlo.1 hlo.2.2.1 (by have := HB.out.size; have := HB0.out; omega)
      have b3 := hb3.b B0 hlo.1 (fun X hX => hlo.2.2.1 X (by rw [← HV2.out]; exact hX)) (by have := HB2.out.z; have := HB.out.size; have := HB0.out; omega)
      exact (b1.trans b2).trans b3)
    clear hl3 hf3 hv3 hb3
    obtain ⟨c0, c1, hlt, -⟩ := H3.out.val (List.mem_cons_self ..)
    go_wp2_with fail
    go_ret2
    exact ⟨by rw [HV.out]; rfl, by rw [HG.out]; exact ⟨F3, M, v3, _, es, ck, H3.out, by rw [List.map_cons, map_erase]⟩, HBB.out⟩
end Go.Proofs.Ytncpikaegcookaa
