/- Two calls are not the same: place 2 of hist.same. By program (genhob.py). -/
import Derived.Test.YtofgkhoemgimeaaHob
namespace Go.Proofs.Ytofgkhoemgimeaa
open Go.ChangeShapes Go.WideShapes Go.ChangeAt Go.RowKit
set_option linter.unusedVariables false
set_option linter.unusedSimpArgs false
set_option maxRecDepth 100000 in
set_option maxHeartbeats 32000000 in
theorem same_f2 (a b : Ov) (kp kp' p q p2 q2 : Option Addr) (km kc km' kc' la lb la2 lb2 k j k2 j2 : Nat) (W : World) (h0 : a.w = b.w) (h1 : a.a = b.a) (h2 : ¬ a.fr = b.fr) :
    Calls Try.prog 38 #[.agg #[.int .i64 a.w, .int .i64 a.a, .int .i64 a.kd, .int .i64 a.n, .int .i64 a.dir, .string a.s, .int .i64 a.cw, .int .i64 a.ca, (.slice p la k), .int .i64 a.t.er, .int .i64 a.t.dk, .int .i64 a.t.dn, (.slice kp km kc), .int .i64 a.t.dN, .int .i64 a.t.ln, .string a.t.tx, (.slice p2 la2 k2), .int .i64 a.fr, .int .i64 a.to], .agg #[.int .i64 b.w, .int .i64 b.a, .int .i64 b.kd, .int .i64 b.n, .int .i64 b.dir, .string b.s, .int .i64 b.cw, .int .i64 b.ca, (.slice q lb j), .int .i64 b.t.er, .int .i64 b.t.dk, .int .i64 b.t.dn, (.slice kp' km' kc'), .int .i64 b.t.dN, .int .i64 b.t.ln, .string b.t.tx, (.slice q2 lb2 j2), .int .i64 b.fr, .int .i64 b.to]] W fun e w' => e = .returned (.bool false) ∧ Below W.heap.size W w' := by
  obtain ⟨w0, hw0, r0, hB0, hs0⟩ := boxH W #[.int .i64 a.w, .int .i64 a.a, .int .i64 a.kd, .int .i64 a.n, .int .i64 a.dir, .string a.s, .int .i64 a.cw, .int .i64 a.ca, (.slice p la k), .int .i64 a.t.er, .int .i64 a.t.dk, .int .i64 a.t.dn, (.slice kp km kc), .int .i64 a.t.dN, .int .i64 a.t.ln, .string a.t.tx, (.slice p2 la2 k2), .int .i64 a.fr, .int .i64 a.to] 41
  obtain ⟨w1, hw1, r1, hB1, hs1⟩ := boxH w0 #[.int .i64 b.w, .int .i64 b.a, .int .i64 b.kd, .int .i64 b.n, .int .i64 b.dir, .string b.s, .int .i64 b.cw, .int .i64 b.ca, (.slice q lb j), .int .i64 b.t.er, .int .i64 b.t.dk, .int .i64 b.t.dn, (.slice kp' km' kc'), .int .i64 b.t.dN, .int .i64 b.t.ln, .string b.t.tx, (.slice q2 lb2 j2), .int .i64 b.fr, .int .i64 b.to] 41
  have HB := Lib.hid (hB0.trans (hB1.mono hB0.size))
  rw [hs0] at r1
  obtain ⟨a0, a1, a2, a3, a4, a5, a6, a7, a8, a9, a10, a11, a12, a13, a14, a15, a16, a17, a18⟩ := cells19H ((hB1.block W.heap.size (by omega)).trans r0)
  obtain ⟨c0, c1, c2, c3, c4, c5, c6, c7, c8, c9, c10, c11, c12, c13, c14, c15, c16, c17, c18⟩ := cells19H r1
  have q0 : (a.w == b.w) = true := by simpa using h0
  have q1 : (a.a == b.a) = true := by simpa using h1
  have q2 : (a.fr == b.fr) = false := by simpa using h2
  clear r0 r1 hB0 hB1 a2 c2 a3 c3 a4 c4 a5 c5 a6 c6 a7 c7 a8 c8 a9 c9 a10 c10 a11 c11 a12 c12 a13 c13 a14 c14 a15 c15 a16 c16 a18 c18 h0 h1 h2
  go_enter Try.func38, Try.ntmps38
  go_wp2_with fail
  go_ret
  exact ⟨rfl, HB.out⟩
end Go.Proofs.Ytofgkhoemgimeaa
