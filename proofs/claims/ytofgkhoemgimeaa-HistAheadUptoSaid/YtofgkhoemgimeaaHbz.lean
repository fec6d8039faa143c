/- Two calls with all that belongs to them: reference 37's One, hist.same. By program (genhob.py). -/
import Derived.Test.YtofgkhoemgimeaaHbt
import Derived.Test.YtofgkhoemgimeaaHbu
import Derived.Test.YtofgkhoemgimeaaHbv
import Derived.Test.YtofgkhoemgimeaaHbo0
import Derived.Test.YtofgkhoemgimeaaHbo1
import Derived.Test.YtofgkhoemgimeaaHbo2
import Derived.Test.YtofgkhoemgimeaaHbo3
import Derived.Test.YtofgkhoemgimeaaHbo4
import Derived.Test.YtofgkhoemgimeaaHbo5
import Derived.Test.YtofgkhoemgimeaaHbo6
import Derived.Test.YtofgkhoemgimeaaHbo7
import Derived.Test.YtofgkhoemgimeaaHbo8
import Derived.Test.YtofgkhoemgimeaaHbo9
import Derived.Test.YtofgkhoemgimeaaHbs0
import Derived.Test.YtofgkhoemgimeaaHbs1
import Derived.Test.YtofgkhoemgimeaaHbs2
import Derived.Test.YtofgkhoemgimeaaHbs3
import Derived.Test.YtofgkhoemgimeaaHbs4
import Derived.Test.YtofgkhoemgimeaaHbs5
import Derived.Test.YtofgkhoemgimeaaHbs6
import Derived.Test.YtofgkhoemgimeaaHbs7
import Derived.Test.YtofgkhoemgimeaaHbs8
import Derived.Test.YtofgkhoemgimeaaHbs9
namespace Go.Proofs.Ytofgkhoemgimeaa
open Go.ChangeShapes Go.WideShapes Go.ChangeAt Go.RowKit
set_option linter.unusedVariables false
set_option linter.unusedSimpArgs false
theorem r37_one (a b : Ov) (kv kv' : Value) (p q p2 q2 : Option Addr) (k j k2 j2 lim : Nat) (W : World) (hK : Kids W lim kv a.t.ks) (hK' : Kids W lim kv' b.t.ks) (hl : lim ≤ W.heap.size) (hx : Reads .u64 W p a.xs) (hy : Reads .u64 W q b.xs) (hx2 : Reads .u64 W p2 a.t.ys) (hy2 : Reads .u64 W q2 b.t.ys) (hn : a.xs.length ≤ 9223372036854775807) (hn2 : a.t.ys.length ≤ 9223372036854775807) :
    Calls Try.prog 22 #[.agg #[.int .i64 a.w, .int .i64 a.a, .int .i64 a.kd, .int .i64 a.n, .int .i64 a.dir, .string a.s, .int .i64 a.cw, .int .i64 a.ca, .slice p a.xs.length k, .int .i64 a.t.er, .int .i64 a.t.dk, .int .i64 a.t.dn, kv, .int .i64 a.t.dN, .int .i64 a.t.ln, .string a.t.tx, .slice p2 a.t.ys.length k2, .int .i64 a.fr, .int .i64 a.to], .agg #[.int .i64 b.w, .int .i64 b.a, .int .i64 b.kd, .int .i64 b.n, .int .i64 b.dir, .string b.s, .int .i64 b.cw, .int .i64 b.ca, .slice q b.xs.length j, .int .i64 b.t.er, .int .i64 b.t.dk, .int .i64 b.t.dn, kv', .int .i64 b.t.dN, .int .i64 b.t.ln, .string b.t.tx, .slice q2 b.t.ys.length j2, .int .i64 b.fr, .int .i64 b.to]] W fun e w' => e = .returned (.bool (decide (OvP a b))) ∧ Below W.heap.size W w' := by
  have sh := hK.shape
  have sh' := hK'.shape
  by_cases hp : OvP a b
  · rw [decide_eq_true hp]
    refine (one_t a b kv kv' p q p2 q2 k j k2 j2 lim W hK hK' hl hx hy hx2 hy2 hn hn2 hp.1 hp.2.1 hp.2.2.1 hp.2.2.2.1 hp.2.2.2.2.1 hp.2.2.2.2.2.1 hp.2.2.2.2.2.2.1 hp.2.2.2.2.2.2.2.1 hp.2.2.2.2.2.2.2.2.1 hp.2.2.2.2.2.2.2.2.2.1).mono ?_
    rintro e w' ⟨rfl, h⟩
    exact ⟨by rw [decide_eq_true hp.2.2.2.2.2.2.2.2.2.2], h⟩
  · rw [decide_eq_false hp]
    obtain ⟨kp, km, kc, hkv, -⟩ := sh
    obtain ⟨kp', km', kc', hkv', -⟩ := sh'
    by_cases h0 : a.w = b.w
    rotate_left
    · subst hkv hkv'; exact one_f0 a b kp kp' p q p2 q2 km kc km' kc' _ _ _ _ k j k2 j2 W h0
    by_cases h1 : a.a = b.a
    rotate_left
    · subst hkv hkv'; exact one_f1 a b kp kp' p q p2 q2 km kc km' kc' _ _ _ _ k j k2 j2 W h0 h1
    by_cases h2 : a.fr = b.fr
    rotate_left
    · subst hkv hkv'; exact one_f2 a b kp kp' p q p2 q2 km kc km' kc' _ _ _ _ k j k2 j2 W h0 h1 h2
    by_cases h3 : a.to = b.to
    rotate_left
    · subst hkv hkv'; exact one_f3 a b kp kp' p q p2 q2 km kc km' kc' _ _ _ _ k j k2 j2 W h0 h1 h2 h3
    by_cases h4 : a.kd = b.kd
    rotate_left
    · subst hkv hkv'; exact one_f4 a b kp kp' p q p2 q2 km kc km' kc' _ _ _ _ k j k2 j2 W h0 h1 h2 h3 h4
    by_cases h5 : a.n = b.n
    rotate_left
    · subst hkv hkv'; exact one_f5 a b kp kp' p q p2 q2 km kc km' kc' _ _ _ _ k j k2 j2 W h0 h1 h2 h3 h4 h5
    by_cases h6 : a.dir = b.dir
    rotate_left
    · subst hkv hkv'; exact one_f6 a b kp kp' p q p2 q2 km kc km' kc' _ _ _ _ k j k2 j2 W h0 h1 h2 h3 h4 h5 h6
    by_cases h7 : a.s.data.toList = b.s.data.toList
    rotate_left
    · subst hkv hkv'; exact one_f7 a b kp kp' p q p2 q2 km kc km' kc' _ _ _ _ k j k2 j2 W h0 h1 h2 h3 h4 h5 h6 h7
    by_cases h8 : a.cw = b.cw
    rotate_left
    · subst hkv hkv'; exact one_f8 a b kp kp' p q p2 q2 km kc km' kc' _ _ _ _ k j k2 j2 W h0 h1 h2 h3 h4 h5 h6 h7 h8
    by_cases h9 : a.ca = b.ca
    rotate_left
    · subst hkv hkv'; exact one_f9 a b kp kp' p q p2 q2 km kc km' kc' _ _ _ _ k j k2 j2 W h0 h1 h2 h3 h4 h5 h6 h7 h8 h9
    refine (one_t a b kv kv' p q p2 q2 k j k2 j2 lim W hK hK' hl hx hy hx2 hy2 hn hn2 h0 h1 h2 h3 h4 h5 h6 h7 h8 h9).mono ?_
    rintro e w' ⟨rfl, h⟩
    exact ⟨by rw [decide_eq_false (fun g => hp ⟨h0, h1, h2, h3, h4, h5, h6, h7, h8, h9, g⟩)], h⟩
theorem hist_same (a b : Ov) (kv kv' : Value) (p q p2 q2 : Option Addr) (k j k2 j2 lim : Nat) (W : World) (hK : Kids W lim kv a.t.ks) (hK' : Kids W lim kv' b.t.ks) (hl : lim ≤ W.heap.size) (hx : Reads .u64 W p a.xs) (hy : Reads .u64 W q b.xs) (hx2 : Reads .u64 W p2 a.t.ys) (hy2 : Reads .u64 W q2 b.t.ys) (hn : a.xs.length ≤ 9223372036854775807) (hn2 : a.t.ys.length ≤ 9223372036854775807) :
    Calls Try.prog 38 #[.agg #[.int .i64 a.w, .int .i64 a.a, .int .i64 a.kd, .int .i64 a.n, .int .i64 a.dir, .string a.s, .int .i64 a.cw, .int .i64 a.ca, .slice p a.xs.length k, .int .i64 a.t.er, .int .i64 a.t.dk, .int .i64 a.t.dn, kv, .int .i64 a.t.dN, .int .i64 a.t.ln, .string a.t.tx, .slice p2 a.t.ys.length k2, .int .i64 a.fr, .int .i64 a.to], .agg #[.int .i64 b.w, .int .i64 b.a, .int .i64 b.kd, .int .i64 b.n, .int .i64 b.dir, .string b.s, .int .i64 b.cw, .int .i64 b.ca, .slice q b.xs.length j, .int .i64 b.t.er, .int .i64 b.t.dk, .int .i64 b.t.dn, kv', .int .i64 b.t.dN, .int .i64 b.t.ln, .string b.t.tx, .slice q2 b.t.ys.length j2, .int .i64 b.fr, .int .i64 b.to]] W fun e w' => e = .returned (.bool (decide (OvP a b))) ∧ Below W.heap.size W w' := by
  have sh := hK.shape
  have sh' := hK'.shape
  by_cases hp : OvP a b
  · rw [decide_eq_true hp]
    refine (same_t a b kv kv' p q p2 q2 k j k2 j2 lim W hK hK' hl hx hy hx2 hy2 hn hn2 hp.1 hp.2.1 hp.2.2.1 hp.2.2.2.1 hp.2.2.2.2.1 hp.2.2.2.2.2.1 hp.2.2.2.2.2.2.1 hp.2.2.2.2.2.2.2.1 hp.2.2.2.2.2.2.2.2.1 hp.2.2.2.2.2.2.2.2.2.1).mono ?_
    rintro e w' ⟨rfl, h⟩
    exact ⟨by rw [decide_eq_true hp.2.2.2.2.2.2.2.2.2.2], h⟩
  · rw [decide_eq_false hp]
    obtain ⟨kp, km, kc, hkv, -⟩ := sh
    obtain ⟨kp', km', kc', hkv', -⟩ := sh'
    by_cases h0 : a.w = b.w
    rotate_left
    · subst hkv hkv'; exact same_f0 a b kp kp' p q p2 q2 km kc km' kc' _ _ _ _ k j k2 j2 W h0
    by_cases h1 : a.a = b.a
    rotate_left
    · subst hkv hkv'; exact same_f1 a b kp kp' p q p2 q2 km kc km' kc' _ _ _ _ k j k2 j2 W h0 h1
    by_cases h2 : a.fr = b.fr
    rotate_left
    · subst hkv hkv'; exact same_f2 a b kp kp' p q p2 q2 km kc km' kc' _ _ _ _ k j k2 j2 W h0 h1 h2
    by_cases h3 : a.to = b.to
    rotate_left
    · subst hkv hkv'; exact same_f3 a b kp kp' p q p2 q2 km kc km' kc' _ _ _ _ k j k2 j2 W h0 h1 h2 h3
    by_cases ht : TlP a.t b.t
    rotate_left
    · exact same_ft a b kv kv' p q p2 q2 k j k2 j2 lim W hK hK' hl hx hy hx2 hy2 hn hn2 h0 h1 h2 h3 ht
    by_cases h4 : a.kd = b.kd
    rotate_left
    · exact same_f4 a b kv kv' p q p2 q2 k j k2 j2 lim W hK hK' hl hx hy hx2 hy2 hn hn2 h0 h1 h2 h3 h4 ht
    by_cases h5 : a.n = b.n
    rotate_left
    · exact same_f5 a b kv kv' p q p2 q2 k j k2 j2 lim W hK hK' hl hx hy hx2 hy2 hn hn2 h0 h1 h2 h3 h4 h5 ht
    by_cases h6 : a.dir = b.dir
    rotate_left
    · exact same_f6 a b kv kv' p q p2 q2 k j k2 j2 lim W hK hK' hl hx hy hx2 hy2 hn hn2 h0 h1 h2 h3 h4 h5 h6 ht
    by_cases h7 : a.s.data.toList = b.s.data.toList
    rotate_left
    · exact same_f7 a b kv kv' p q p2 q2 k j k2 j2 lim W hK hK' hl hx hy hx2 hy2 hn hn2 h0 h1 h2 h3 h4 h5 h6 h7 ht
    by_cases h8 : a.cw = b.cw
    rotate_left
    · exact same_f8 a b kv kv' p q p2 q2 k j k2 j2 lim W hK hK' hl hx hy hx2 hy2 hn hn2 h0 h1 h2 h3 h4 h5 h6 h7 h8 ht
    by_cases h9 : a.ca = b.ca
    rotate_left
    · exact same_f9 a b kv kv' p q p2 q2 k j k2 j2 lim W hK hK' hl hx hy hx2 hy2 hn hn2 h0 h1 h2 h3 h4 h5 h6 h7 h8 h9 ht
    refine (same_t a b kv kv' p q p2 q2 k j k2 j2 lim W hK hK' hl hx hy hx2 hy2 hn hn2 h0 h1 h2 h3 h4 h5 h6 h7 h8 h9).mono ?_
    rintro e w' ⟨rfl, h⟩
    exact ⟨by rw [decide_eq_false (fun g => hp ⟨h0, h1, h2, h3, h4, h5, h6, h7, h8, h9, g⟩)], h⟩
end Go.Proofs.Ytofgkhoemgimeaa
