/- Two calls are not the same: place 8 of hist.same. By program (genhob.py). -/
import Derived.Test.YtofgkhoemgimeaaHob
namespace Go.Proofs.Ytofgkhoemgimeaa
open Go.ChangeShapes Go.WideShapes Go.ChangeAt Go.RowKit
set_option linter.unusedVariables false
set_option linter.unusedSimpArgs false
set_option maxRecDepth 100000 in
set_option maxHeartbeats 32000000 in
theorem same_f8 (a b : Ov) (kv kv' : Value) (p q p2 q2 : Option Addr) (k j k2 j2 lim : Nat) (W : World) (hK : Kids W lim kv a.t.ks) (hK' : Kids W lim kv' b.t.ks) (hl : lim ≤ W.heap.size) (hx : Reads .u64 W p a.xs) (hy : Reads .u64 W q b.xs) (hx2 : Reads .u64 W p2 a.t.ys) (hy2 : Reads .u64 W q2 b.t.ys) (hn : a.xs.length ≤ 9223372036854775807) (hn2 : a.t.ys.length ≤ 9223372036854775807) (h0 : a.w = b.w) (h1 : a.a = b.a) (h2 : a.fr = b.fr) (h3 : a.to = b.to) (h4 : a.kd = b.kd) (h5 : a.n = b.n) (h6 : a.dir = b.dir) (h7 : a.s.data.toList = b.s.data.toList) (h8 : ¬ a.cw = b.cw) (ht : TlP a.t b.t) :
    Calls Try.prog 38 #[.agg #[.int .i64 a.w, .int .i64 a.a, .int .i64 a.kd, .int .i64 a.n, .int .i64 a.dir, .string a.s, .int .i64 a.cw, .int .i64 a.ca, .slice p a.xs.length k, .int .i64 a.t.er, .int .i64 a.t.dk, .int .i64 a.t.dn, kv, .int .i64 a.t.dN, .int .i64 a.t.ln, .string a.t.tx, .slice p2 a.t.ys.length k2, .int .i64 a.fr, .int .i64 a.to], .agg #[.int .i64 b.w, .int .i64 b.a, .int .i64 b.kd, .int .i64 b.n, .int .i64 b.dir, .string b.s, .int .i64 b.cw, .int .i64 b.ca, .slice q b.xs.length j, .int .i64 b.t.er, .int .i64 b.t.dk, .int .i64 b.t.dn, kv', .int .i64 b.t.dN, .int .i64 b.t.ln, .string b.t.tx, .slice q2 b.t.ys.length j2, .int .i64 b.fr, .int .i64 b.to]] W fun e w' => e = .returned (.bool false) ∧ Below W.heap.size W w' := by
  obtain ⟨w0, hw0, r0, hB0, hs0⟩ := boxH W #[.int .i64 a.w, .int .i64 a.a, .int .i64 a.kd, .int .i64 a.n, .int .i64 a.dir, .string a.s, .int .i64 a.cw, .int .i64 a.ca, .slice p a.xs.length k, .int .i64 a.t.er, .int .i64 a.t.dk, .int .i64 a.t.dn, kv, .int .i64 a.t.dN, .int .i64 a.t.ln, .string a.t.tx, .slice p2 a.t.ys.length k2, .int .i64 a.fr, .int .i64 a.to] 41
  obtain ⟨w1, hw1, r1, hB1, hs1⟩ := boxH w0 #[.int .i64 b.w, .int .i64 b.a, .int .i64 b.kd, .int .i64 b.n, .int .i64 b.dir, .string b.s, .int .i64 b.cw, .int .i64 b.ca, .slice q b.xs.length j, .int .i64 b.t.er, .int .i64 b.t.dk, .int .i64 b.t.dn, kv', .int .i64 b.t.dN, .int .i64 b.t.ln, .string b.t.tx, .slice q2 b.t.ys.length j2, .int .i64 b.fr, .int .i64 b.to] 41
  have HB := Lib.hid (hB0.trans (hB1.mono hB0.size))
  have AL := Lib.hid (fun (w : World) (h : Below w1.heap.size w1 w) => model_alike a.t b.t kv kv' p2 q2 k2 j2 lim w (hK.below hl (HB.out.trans (h.mono HB.out.size))) (hK'.below hl (HB.out.trans (h.mono HB.out.size))) (Nat.le_trans hl (Nat.le_trans HB.out.size h.size)) (hx2.below (HB.out.trans (h.mono HB.out.size))) (hy2.below (HB.out.trans (h.mono HB.out.size))) hn2)
  have FS := Lib.hid (fun (w : World) (h : Below w1.heap.size w1 w) => eq64 p q k j a.xs b.xs w (hx.below (HB.out.trans (h.mono HB.out.size))) (hy.below (HB.out.trans (h.mono HB.out.size))) hn)
  obtain ⟨kp, km, kc, rfl, -⟩ := hK.shape
  obtain ⟨kp', km', kc', rfl, -⟩ := hK'.shape
  rw [hs0] at r1
  have HF := Lib.hid (fun (w : World) (h : Below w1.heap.size w1 w) => And.intro (cells19H ((h.block W.heap.size (by omega)).trans ((hB1.block W.heap.size (by omega)).trans r0))) (cells19H ((h.block (W.heap.size + 1) (by omega)).trans r1)))
  obtain ⟨⟨a0, a1, a2, a3, a4, a5, a6, a7, a8, a9, a10, a11, a12, a13, a14, a15, a16, a17, a18⟩, c0, c1, c2, c3, c4, c5, c6, c7, c8, c9, c10, c11, c12, c13, c14, c15, c16, c17, c18⟩ := HF.out w1 (Below.refl _ _)
  have HT := Lib.hid ht
  have q0 : (a.w == b.w) = true := by simpa using h0
  have q1 : (a.a == b.a) = true := by simpa using h1
  have q2 : (a.fr == b.fr) = true := by simpa using h2
  have q3 : (a.to == b.to) = true := by simpa using h3
  have q4 : (a.kd == b.kd) = true := by simpa using h4
  have q5 : (a.n == b.n) = true := by simpa using h5
  have q6 : (a.dir == b.dir) = true := by simpa using h6
  have q7 : (a.s.toList == b.s.toList) = true := by rw [Lib.toList_data, Lib.toList_data]; simpa using h7
  have q8 : (a.cw == b.cw) = false := by simpa using h8
  clear r0 r1 hB0 hB1 hK hK' hx hy hx2 hy2 ht a2 c2 a3 c3 a4 c4 a5 c5 a6 c6 a7 c7 a8 c8 h0 h1 h2 h3 h4 h5 h6 h7 h8
  go_enter Try.func38, Try.ntmps38
  go_wp2_with fail
  clear hw0 hw1 hs0 hs1 a0 c0 a1 c1 a17 c17 a18 c18 a9 c9 a10 c10 a11 c11 a12 c12 a13 c13 a14 c14 a15 c15 a16 c16
  refine (AL.out _ (Below.refl _ _)).mono ?_
  rintro e z1 ⟨rfl, hb⟩
  have HB1 := Lib.hid (HB.out.trans (hb.mono HB.out.size))
  obtain ⟨⟨a0, a1, a2, a3, a4, a5, a6, a7, a8, a9, a10, a11, a12, a13, a14, a15, a16, a17, a18⟩, c0, c1, c2, c3, c4, c5, c6, c7, c8, c9, c10, c11, c12, c13, c14, c15, c16, c17, c18⟩ := HF.out z1 hb
  clear hb a0 c0 a1 c1 a8 c8 a9 c9 a10 c10 a11 c11 a12 c12 a13 c13 a14 c14 a15 c15 a16 c16 a17 c17 a18 c18
  rw [decide_eq_true HT.out]
  go_wp2_with fail
  go_ret
  exact ⟨rfl, HB1.out⟩
end Go.Proofs.Ytofgkhoemgimeaa
