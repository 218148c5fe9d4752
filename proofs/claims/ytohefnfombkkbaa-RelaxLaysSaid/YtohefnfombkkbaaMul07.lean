/- Contracts of the answers by definition for layer 7: products of 128 bits. No condition beside the numbers' range. -/
import Derived.Test.YtohefnfombkkbaaS2I
import Derived.Test.YtohefnfombkkbaaRef01
import Derived.Test.YtohefnfombkkbaaPlain07
namespace Go.Proofs.Ytohefnfombkkbaa
open Go.RowKit Sim S2
set_option linter.unusedVariables false
set_option linter.unusedSimpArgs false

/-- A whole call without a loop to stop at. -/
theorem ret7 {E : S2.Env} (HC : CallOk E) {f : FuncId} {fls : List (List Bool)} {args : List XV} {v : Value} (orc : List Bool) (l : List (Bool × Bool))
    (h : simF E 1000 10 [] orc f fls args = some (false, [.inl v], l, [])) (hl : ∀ p ∈ l, p.1 = p.2) {fn : Func} (hfn : E.P.funcs[f]? = some fn) (w : World) (vals : List Value) (hG : S2.Glob E w) (ha : ArgsOk w args vals) : Ret E.P f vals.toArray v w :=
  (fn_ok HC h hl hfn w vals hG ha fun t ht => by cases ht).plain
def i64C (v : Int) : Bool := decide (-9223372036854775808 ≤ v ∧ v ≤ 9223372036854775807)
def u64C (v : Int) : Bool := decide (0 ≤ v ∧ v < 18446744073709551616)
theorem i64C_iff {v : Int} : i64C v = true ↔ -9223372036854775808 ≤ v ∧ v ≤ 9223372036854775807 := by unfold i64C; exact decide_eq_true_iff
theorem u64C_iff {v : Int} : u64C v = true ↔ 0 ≤ v ∧ v < 18446744073709551616 := by unfold u64C; exact decide_eq_true_iff
theorem u64C_wrap (x : Int) : u64C (IntKind.u64.wrap x) = true := by rw [u64C_iff, IntKind.wrap_u64]; omega
noncomputable def env7 : S2.Env := envq Try.prog (fun _ => none) noT noP noL
theorem env7_ok : CallOk env7 := envq_ok (.none _ _) (.none _ _) (.none _ _)
/-! ### Atoms over numbers without a sign -/
theorem lo_n {z : Int} {n : Nat} (h : z = n) (c : Nat) : arZ .rem .u64 z c = ((n % c : Nat) : Int) := by
  rw [h, arZ_eq]
  show (n : Int).tmod c = _
  rw [Int.tmod_eq_emod_of_nonneg (by omega)]; rfl
theorem up_n {z : Int} {n : Nat} (h : z = n) (c : Nat) (hn : n < 18446744073709551616) : arZ .quo .u64 z c = ((n / c : Nat) : Int) := by
  rw [h, arZ_eq]
  show (n : Int).tdiv c % 18446744073709551616 = _
  rw [Int.tdiv_eq_ediv_of_nonneg (by omega)]
  have := Nat.div_le_self n c
  have e : (n : Int) / c = ((n / c : Nat) : Int) := rfl
  rw [e]
  generalize n / c = q at *
  omega
theorem mm_n {z y : Int} {m n : Nat} (h : z = m) (k : y = n) (hb : m * n < 18446744073709551616) : arZ .mul .u64 z y = ((m * n : Nat) : Int) := by
  rw [h, k, arZ_eq]
  show ((m : Int) * n) % 18446744073709551616 = _
  rw [← Int.natCast_mul]
  omega
theorem ad_n {z y : Int} {m n : Nat} (h : z = m) (k : y = n) (hb : m + n < 18446744073709551616) : arZ .add .u64 z y = ((m + n : Nat) : Int) := by
  rw [h, k, arZ_eq]
  show ((m : Int) + n) % 18446744073709551616 = _
  omega
theorem sh_n {z : Int} {n : Nat} (h : z = n) (c : Nat) (hc : c ≤ 64) (hb : n * 2 ^ c < 18446744073709551616) : arZ .shl .u64 z c = ((n * 2 ^ c : Nat) : Int) := by
  rw [h, arZ_eq]
  show ((n : Int) * 2 ^ (min (c : Int).toNat 64)) % 18446744073709551616 = _
  rw [Int.toNat_natCast, Nat.min_eq_left hc]
  have e : (n : Int) * 2 ^ c = ((n * 2 ^ c : Nat) : Int) := by rw [Int.natCast_mul, Int.natCast_pow]; rfl
  rw [e]; omega
/-! ### ref07.Mul -/
noncomputable def dgA (a : Int) : Int := arZ .rem .u64 a 65536
noncomputable def dgB (a : Int) : Int := arZ .rem .u64 (arZ .quo .u64 a 65536) 65536
noncomputable def dgC (a : Int) : Int := arZ .rem .u64 (arZ .quo .u64 a 4294967296) 65536
noncomputable def dgD (a : Int) : Int := arZ .quo .u64 a 281474976710656
noncomputable def mmZ (x y : Int) : Int := arZ .mul .u64 x y
noncomputable def loZ (x : Int) : Int := arZ .rem .u64 x 65536
noncomputable def upZ (x : Int) : Int := arZ .quo .u64 x 65536
noncomputable def adZ (x y : Int) : Int := arZ .add .u64 x y
noncomputable def col0 (a b : Int) : Int := adZ 0 (loZ (mmZ (dgA a) (dgA b)))
noncomputable def col1 (a b : Int) : Int := adZ (adZ (adZ 0 (upZ (mmZ (dgA a) (dgA b)))) (loZ (mmZ (dgA a) (dgB b)))) (loZ (mmZ (dgB a) (dgA b)))
noncomputable def col2 (a b : Int) : Int := adZ (adZ (adZ (adZ (adZ 0 (upZ (mmZ (dgA a) (dgB b)))) (loZ (mmZ (dgA a) (dgC b)))) (upZ (mmZ (dgB a) (dgA b)))) (loZ (mmZ (dgB a) (dgB b)))) (loZ (mmZ (dgC a) (dgA b)))
noncomputable def col3 (a b : Int) : Int := adZ (adZ (adZ (adZ (adZ (adZ (adZ 0 (upZ (mmZ (dgA a) (dgC b)))) (loZ (mmZ (dgA a) (dgD b)))) (upZ (mmZ (dgB a) (dgB b)))) (loZ (mmZ (dgB a) (dgC b)))) (upZ (mmZ (dgC a) (dgA b)))) (loZ (mmZ (dgC a) (dgB b)))) (loZ (mmZ (dgD a) (dgA b)))
noncomputable def col4 (a b : Int) : Int := adZ (adZ (adZ (adZ (adZ (adZ (adZ 0 (upZ (mmZ (dgA a) (dgD b)))) (upZ (mmZ (dgB a) (dgC b)))) (loZ (mmZ (dgB a) (dgD b)))) (upZ (mmZ (dgC a) (dgB b)))) (loZ (mmZ (dgC a) (dgC b)))) (upZ (mmZ (dgD a) (dgA b)))) (loZ (mmZ (dgD a) (dgB b)))
noncomputable def col5 (a b : Int) : Int := adZ (adZ (adZ (adZ (adZ 0 (upZ (mmZ (dgB a) (dgD b)))) (upZ (mmZ (dgC a) (dgC b)))) (loZ (mmZ (dgC a) (dgD b)))) (upZ (mmZ (dgD a) (dgB b)))) (loZ (mmZ (dgD a) (dgC b)))
noncomputable def col6 (a b : Int) : Int := adZ (adZ (adZ 0 (upZ (mmZ (dgC a) (dgD b)))) (upZ (mmZ (dgD a) (dgC b)))) (loZ (mmZ (dgD a) (dgD b)))
noncomputable def col7 (a b : Int) : Int := adZ 0 (upZ (mmZ (dgD a) (dgD b)))
noncomputable def car0 (a b : Int) : Int := adZ (col0 a b) 0
noncomputable def car1 (a b : Int) : Int := adZ (col1 a b) (upZ (car0 a b))
noncomputable def car2 (a b : Int) : Int := adZ (col2 a b) (upZ (car1 a b))
noncomputable def car3 (a b : Int) : Int := adZ (col3 a b) (upZ (car2 a b))
noncomputable def car4 (a b : Int) : Int := adZ (col4 a b) (upZ (car3 a b))
noncomputable def car5 (a b : Int) : Int := adZ (col5 a b) (upZ (car4 a b))
noncomputable def car6 (a b : Int) : Int := adZ (col6 a b) (upZ (car5 a b))
noncomputable def car7 (a b : Int) : Int := adZ (col7 a b) (upZ (car6 a b))
noncomputable def foZ (x y z u : Int) : Int := adZ (adZ (adZ (loZ x) (arZ .shl .u64 (loZ y) 16)) (arZ .shl .u64 (loZ z) 32)) (arZ .shl .u64 (loZ u) 48)
theorem mulP_ex : ∃ f : Int → Int → Int, ∀ a b, f a b = a * b % 18446744073709551616 := ⟨_, fun _ _ => rfl⟩
/-- The lower 64 bits of a product. -/
noncomputable def mulP : Int → Int → Int := Classical.choose mulP_ex
theorem mulP_eq (a b : Int) : mulP a b = a * b % 18446744073709551616 := Classical.choose_spec mulP_ex a b
theorem mulQ_ex : ∃ f : Int → Int → Int, ∀ a b, f a b = a * b / 18446744073709551616 := ⟨_, fun _ _ => rfl⟩
/-- .. and what lies above. -/
noncomputable def mulQ : Int → Int → Int := Classical.choose mulQ_ex
theorem mulQ_eq (a b : Int) : mulQ a b = a * b / 18446744073709551616 := Classical.choose_spec mulQ_ex a b
theorem pq_n {z y : Int} {m n : Nat} (hz : z = m) (hy : y = n) (hm : m < 65536) (hn : n < 65536) : ∃ p : Nat, mmZ z y = p ∧ p = m * n ∧ p ≤ 4294836225 := by
  have h : m * n ≤ 65535 * 65535 := Nat.mul_le_mul (by omega) (by omega)
  exact ⟨m * n, mm_n hz hy (by omega), rfl, by omega⟩
theorem fo_n {x y z u : Int} {n0 n1 n2 n3 : Nat} (h0 : x = n0) (h1 : y = n1) (h2 : z = n2) (h3 : u = n3) : foZ x y z u = ((n0 % 65536 + 65536 * (n1 % 65536) + 4294967296 * (n2 % 65536) + 281474976710656 * (n3 % 65536) : Nat) : Int) := by
  have e0 : loZ x = ((n0 % 65536 : Nat) : Int) := lo_n h0 65536
  have e1 : arZ .shl .u64 (loZ y) 16 = ((n1 % 65536 * 65536 : Nat) : Int) := sh_n (lo_n h1 65536) 16 (by omega) (by omega)
  have e2 : arZ .shl .u64 (loZ z) 32 = ((n2 % 65536 * 4294967296 : Nat) : Int) := sh_n (lo_n h2 65536) 32 (by omega) (by omega)
  have e3 : arZ .shl .u64 (loZ u) 48 = ((n3 % 65536 * 281474976710656 : Nat) : Int) := sh_n (lo_n h3 65536) 48 (by omega) (by omega)
  unfold foZ
  refine (ad_n (ad_n (ad_n e0 e1 (by omega)) e2 (by omega)) e3 (by omega)).trans ?_
  omega
/-- A sum of which is known what it is, and a bound of it. -/
def Sm (z : Int) (n B : Nat) : Prop := z = n ∧ n ≤ B
theorem Sm.ad {z y : Int} {m n A B : Nat} (h : Sm z m A) (k : Sm y n B) (hb : A + B < 18446744073709551616) : Sm (adZ z y) (m + n) (A + B) := ⟨ad_n h.1 k.1 (by have := h.2; have := k.2; omega), Nat.add_le_add h.2 k.2⟩
theorem Sm.z0 {y : Int} {n B : Nat} (k : Sm y n B) (hb : B < 18446744073709551616) : Sm (adZ 0 y) n B := ⟨(ad_n (m := 0) rfl k.1 (by have := k.2; omega)).trans (by rw [Nat.zero_add]), k.2⟩
theorem Sm.y0 {y : Int} {n B : Nat} (k : Sm y n B) (hb : B < 18446744073709551616) : Sm (adZ y 0) n B := ⟨(ad_n (n := 0) k.1 rfl (by have := k.2; omega)).trans (by rw [Nat.add_zero]), k.2⟩
theorem Sm.lo {z : Int} {n B : Nat} (h : Sm z n B) : Sm (loZ z) (n % 65536) 65535 := ⟨lo_n h.1 65536, by omega⟩
theorem Sm.up {z : Int} {n B : Nat} (h : Sm z n B) (hb : B < 18446744073709551616) : Sm (upZ z) (n / 65536) (B / 65536) := ⟨up_n h.1 65536 (by have := h.2; omega), Nat.div_le_div_right h.2⟩
theorem Sm.mm {z y : Int} {m n : Nat} (h : Sm z m 65535) (k : Sm y n 65535) : Sm (mmZ z y) (m * n) 4294836225 := by
  have hb : m * n ≤ 65535 * 65535 := Nat.mul_le_mul h.2 k.2
  exact ⟨mm_n h.1 k.1 (by omega), hb⟩
theorem cast_md (m : Nat) : ((m % 18446744073709551616 : Nat) : Int) = (m : Int) % 18446744073709551616 ∧ ((m / 18446744073709551616 : Nat) : Int) = (m : Int) / 18446744073709551616 := by omega
theorem mul_fo (a b : Nat) (ha : a < 18446744073709551616) (hb : b < 18446744073709551616) :
    foZ (car0 a b) (car1 a b) (car2 a b) (car3 a b) = mulP a b ∧ foZ (car4 a b) (car5 a b) (car6 a b) (car7 a b) = mulQ a b := by
  have dg : ∀ a : Nat, a < 18446744073709551616 → Sm (dgA a) (a % 65536) 65535 ∧ Sm (dgB a) (a / 65536 % 65536) 65535 ∧ Sm (dgC a) (a / 4294967296 % 65536) 65535 ∧ Sm (dgD a) (a / 281474976710656) 65535 := fun a ha =>
    ⟨⟨lo_n rfl 65536, by omega⟩, ⟨lo_n (up_n rfl 65536 ha) 65536, by omega⟩, ⟨lo_n (up_n rfl 4294967296 ha) 65536, by omega⟩, ⟨up_n rfl 281474976710656 ha, by omega⟩⟩
  obtain ⟨hx0, hx1, hx2, hx3⟩ := dg a ha
  obtain ⟨hy0, hy1, hy2, hy3⟩ := dg b hb
  have hT : a * b < 340282366920938463463374607431768211456 := by
    have := Nat.mul_lt_mul'' ha hb
    simpa using this
  obtain ⟨x0, ex0⟩ : ∃ n, n = a % 65536 := ⟨_, rfl⟩
  rw [← ex0] at hx0
  obtain ⟨x1, ex1⟩ : ∃ n, n = a / 65536 % 65536 := ⟨_, rfl⟩
  rw [← ex1] at hx1
  obtain ⟨x2, ex2⟩ : ∃ n, n = a / 4294967296 % 65536 := ⟨_, rfl⟩
  rw [← ex2] at hx2
  obtain ⟨x3, ex3⟩ : ∃ n, n = a / 281474976710656 := ⟨_, rfl⟩
  rw [← ex3] at hx3
  obtain ⟨y0, ey0⟩ : ∃ n, n = b % 65536 := ⟨_, rfl⟩
  rw [← ey0] at hy0
  obtain ⟨y1, ey1⟩ : ∃ n, n = b / 65536 % 65536 := ⟨_, rfl⟩
  rw [← ey1] at hy1
  obtain ⟨y2, ey2⟩ : ∃ n, n = b / 4294967296 % 65536 := ⟨_, rfl⟩
  rw [← ey2] at hy2
  obtain ⟨y3, ey3⟩ : ∃ n, n = b / 281474976710656 := ⟨_, rfl⟩
  rw [← ey3] at hy3
  obtain ⟨p00, h00, e00⟩ : ∃ p, Sm (mmZ (dgA a) (dgA b)) p 4294836225 ∧ p = x0 * y0 := ⟨_, hx0.mm hy0, rfl⟩
  obtain ⟨p01, h01, e01⟩ : ∃ p, Sm (mmZ (dgA a) (dgB b)) p 4294836225 ∧ p = x0 * y1 := ⟨_, hx0.mm hy1, rfl⟩
  obtain ⟨p02, h02, e02⟩ : ∃ p, Sm (mmZ (dgA a) (dgC b)) p 4294836225 ∧ p = x0 * y2 := ⟨_, hx0.mm hy2, rfl⟩
  obtain ⟨p03, h03, e03⟩ : ∃ p, Sm (mmZ (dgA a) (dgD b)) p 4294836225 ∧ p = x0 * y3 := ⟨_, hx0.mm hy3, rfl⟩
  obtain ⟨p10, h10, e10⟩ : ∃ p, Sm (mmZ (dgB a) (dgA b)) p 4294836225 ∧ p = x1 * y0 := ⟨_, hx1.mm hy0, rfl⟩
  obtain ⟨p11, h11, e11⟩ : ∃ p, Sm (mmZ (dgB a) (dgB b)) p 4294836225 ∧ p = x1 * y1 := ⟨_, hx1.mm hy1, rfl⟩
  obtain ⟨p12, h12, e12⟩ : ∃ p, Sm (mmZ (dgB a) (dgC b)) p 4294836225 ∧ p = x1 * y2 := ⟨_, hx1.mm hy2, rfl⟩
  obtain ⟨p13, h13, e13⟩ : ∃ p, Sm (mmZ (dgB a) (dgD b)) p 4294836225 ∧ p = x1 * y3 := ⟨_, hx1.mm hy3, rfl⟩
  obtain ⟨p20, h20, e20⟩ : ∃ p, Sm (mmZ (dgC a) (dgA b)) p 4294836225 ∧ p = x2 * y0 := ⟨_, hx2.mm hy0, rfl⟩
  obtain ⟨p21, h21, e21⟩ : ∃ p, Sm (mmZ (dgC a) (dgB b)) p 4294836225 ∧ p = x2 * y1 := ⟨_, hx2.mm hy1, rfl⟩
  obtain ⟨p22, h22, e22⟩ : ∃ p, Sm (mmZ (dgC a) (dgC b)) p 4294836225 ∧ p = x2 * y2 := ⟨_, hx2.mm hy2, rfl⟩
  obtain ⟨p23, h23, e23⟩ : ∃ p, Sm (mmZ (dgC a) (dgD b)) p 4294836225 ∧ p = x2 * y3 := ⟨_, hx2.mm hy3, rfl⟩
  obtain ⟨p30, h30, e30⟩ : ∃ p, Sm (mmZ (dgD a) (dgA b)) p 4294836225 ∧ p = x3 * y0 := ⟨_, hx3.mm hy0, rfl⟩
  obtain ⟨p31, h31, e31⟩ : ∃ p, Sm (mmZ (dgD a) (dgB b)) p 4294836225 ∧ p = x3 * y1 := ⟨_, hx3.mm hy1, rfl⟩
  obtain ⟨p32, h32, e32⟩ : ∃ p, Sm (mmZ (dgD a) (dgC b)) p 4294836225 ∧ p = x3 * y2 := ⟨_, hx3.mm hy2, rfl⟩
  obtain ⟨p33, h33, e33⟩ : ∃ p, Sm (mmZ (dgD a) (dgD b)) p 4294836225 ∧ p = x3 * y3 := ⟨_, hx3.mm hy3, rfl⟩
  obtain ⟨s0, hs0, es0⟩ : ∃ s, Sm (col0 a b) s 65535 ∧ s = p00 % 65536 := ⟨_, (h00.lo.z0 (by decide)), rfl⟩
  obtain ⟨s1, hs1, es1⟩ : ∃ s, Sm (col1 a b) s 196604 ∧ s = p00 / 65536 + p01 % 65536 + p10 % 65536 := ⟨_, ((((h00.up (by decide)).z0 (by decide)).ad h01.lo (by decide)).ad h10.lo (by decide)), rfl⟩
  obtain ⟨s2, hs2, es2⟩ : ∃ s, Sm (col2 a b) s 327673 ∧ s = p01 / 65536 + p02 % 65536 + p10 / 65536 + p11 % 65536 + p20 % 65536 := ⟨_, ((((((h01.up (by decide)).z0 (by decide)).ad h02.lo (by decide)).ad (h10.up (by decide)) (by decide)).ad h11.lo (by decide)).ad h20.lo (by decide)), rfl⟩
  obtain ⟨s3, hs3, es3⟩ : ∃ s, Sm (col3 a b) s 458742 ∧ s = p02 / 65536 + p03 % 65536 + p11 / 65536 + p12 % 65536 + p20 / 65536 + p21 % 65536 + p30 % 65536 := ⟨_, ((((((((h02.up (by decide)).z0 (by decide)).ad h03.lo (by decide)).ad (h11.up (by decide)) (by decide)).ad h12.lo (by decide)).ad (h20.up (by decide)) (by decide)).ad h21.lo (by decide)).ad h30.lo (by decide)), rfl⟩
  obtain ⟨s4, hs4, es4⟩ : ∃ s, Sm (col4 a b) s 458741 ∧ s = p03 / 65536 + p12 / 65536 + p13 % 65536 + p21 / 65536 + p22 % 65536 + p30 / 65536 + p31 % 65536 := ⟨_, ((((((((h03.up (by decide)).z0 (by decide)).ad (h12.up (by decide)) (by decide)).ad h13.lo (by decide)).ad (h21.up (by decide)) (by decide)).ad h22.lo (by decide)).ad (h30.up (by decide)) (by decide)).ad h31.lo (by decide)), rfl⟩
  obtain ⟨s5, hs5, es5⟩ : ∃ s, Sm (col5 a b) s 327672 ∧ s = p13 / 65536 + p22 / 65536 + p23 % 65536 + p31 / 65536 + p32 % 65536 := ⟨_, ((((((h13.up (by decide)).z0 (by decide)).ad (h22.up (by decide)) (by decide)).ad h23.lo (by decide)).ad (h31.up (by decide)) (by decide)).ad h32.lo (by decide)), rfl⟩
  obtain ⟨s6, hs6, es6⟩ : ∃ s, Sm (col6 a b) s 196603 ∧ s = p23 / 65536 + p32 / 65536 + p33 % 65536 := ⟨_, ((((h23.up (by decide)).z0 (by decide)).ad (h32.up (by decide)) (by decide)).ad h33.lo (by decide)), rfl⟩
  obtain ⟨s7, hs7, es7⟩ : ∃ s, Sm (col7 a b) s 65534 ∧ s = p33 / 65536 := ⟨_, ((h33.up (by decide)).z0 (by decide)), rfl⟩
  obtain ⟨n0, hn0, en0⟩ : ∃ n, Sm (car0 a b) n 65535 ∧ n = s0 := ⟨_, hs0.y0 (by decide), rfl⟩
  obtain ⟨n1, hn1, en1⟩ : ∃ n, Sm (car1 a b) n 196604 ∧ n = s1 + n0 / 65536 := ⟨_, hs1.ad (hn0.up (by decide)) (by decide), rfl⟩
  obtain ⟨n2, hn2, en2⟩ : ∃ n, Sm (car2 a b) n 327675 ∧ n = s2 + n1 / 65536 := ⟨_, hs2.ad (hn1.up (by decide)) (by decide), rfl⟩
  obtain ⟨n3, hn3, en3⟩ : ∃ n, Sm (car3 a b) n 458746 ∧ n = s3 + n2 / 65536 := ⟨_, hs3.ad (hn2.up (by decide)) (by decide), rfl⟩
  obtain ⟨n4, hn4, en4⟩ : ∃ n, Sm (car4 a b) n 458747 ∧ n = s4 + n3 / 65536 := ⟨_, hs4.ad (hn3.up (by decide)) (by decide), rfl⟩
  obtain ⟨n5, hn5, en5⟩ : ∃ n, Sm (car5 a b) n 327678 ∧ n = s5 + n4 / 65536 := ⟨_, hs5.ad (hn4.up (by decide)) (by decide), rfl⟩
  obtain ⟨n6, hn6, en6⟩ : ∃ n, Sm (car6 a b) n 196607 ∧ n = s6 + n5 / 65536 := ⟨_, hs6.ad (hn5.up (by decide)) (by decide), rfl⟩
  obtain ⟨n7, hn7, en7⟩ : ∃ n, Sm (car7 a b) n 65536 ∧ n = s7 + n6 / 65536 := ⟨_, hs7.ad (hn6.up (by decide)) (by decide), rfl⟩
  have hcols := cols16 ex0 ex1 ex2 ex3 ey0 ey1 ey2 ey3 e00 e01 e02 e03 e10 e11 e12 e13 e20 e21 e22 e23 e30 e31 e32 e33 es0 es1 es2 es3 es4 es5 es6 es7
  obtain ⟨r1, r2⟩ := carry8 s0 s1 s2 s3 s4 s5 s6 s7 n0 n1 n2 n3 n4 n5 n6 n7 (a * b) en0 en1 en2 en3 en4 en5 en6 en7 hcols.symm hT
  rw [fo_n hn0.1 hn1.1 hn2.1 hn3.1, fo_n hn4.1 hn5.1 hn6.1 hn7.1, r1, r2, mulP_eq, mulQ_eq]
  constructor
  · rw [← Int.natCast_mul]; exact (cast_md _).1
  · rw [← Int.natCast_mul]; exact (cast_md _).2
end Go.Proofs.Ytohefnfombkkbaa
