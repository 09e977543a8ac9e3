import PyProof.Rows.All
import Wide.All
import OpenK.AllK
import Wide.FinOn
import PyProof.EqAt
import PyProof.EqKinds
import PyProof.TupleCall
import Open.SpecLaws
import KE.OsGo
import PySem.Challenge.RW_abacusways_s01_method
import HandS.ForSpec
import HandS.Comp
import HandS.Iter
import HandS.Walk
import HandS.Text
import HandS.More
import HandS.Dict
import HandS.ExcInit
import HandS.ExcField
import HandS.Flow
import HandS.Steps
import HandS.Codes
import HandS.ClsMeth
set_option linter.all false
namespace AbM
open Na

/-! ## Expressions: a reader that goes through an E sign by sign -/
inductive Md where
  | f
  | d (n : Nat)
def closer (c : UInt8) : UInt8 := if c = 91 then 93 else 41
def isOp (c : UInt8) : Bool := c == 43 || (c == 45 || c == 42)
def isLet (c : UInt8) : Bool := (decide (97 ≤ c.toNat) && decide (c.toNat ≤ 104)) || (decide (65 ≤ c.toNat) && decide (c.toNat ≤ 72))
def isBr (c : UInt8) : Bool := c == 91 || c == 40
/-- cs: what closes the brackets that are open, the innermost first -/
def scan : Bytes → Md → List UInt8 → Nat → Except Nat (Nat × Bytes)
  | [], .f, _, p => .error p
  | [], .d _, cs, p => if cs.isEmpty = true then .ok (p, []) else .error p
  | c :: l, .f, cs, p =>
    if isBr c = true then (if cs.length < 16 then scan l .f (closer c :: cs) (p + 1) else .error p)
    else if c = 48 then scan l (.d 0) cs (p + 1)
    else if isDigit c = true then scan l (.d 3) cs (p + 1)
    else if isLet c = true then scan l (.d 0) cs (p + 1)
    else .error p
  | c :: l, .d n, cs, p =>
    if isDigit c = true ∧ 0 < n then scan l (.d (n - 1)) cs (p + 1)
    else match cs with
      | [] => if isOp c = true then scan l .f [] (p + 1) else .ok (p, c :: l)
      | k :: r => if c = k then scan l (.d 0) r (p + 1) else if isOp c = true then scan l .f (k :: r) (p + 1) else .error p
/-- behind a number, a letter, a closed bracket -/
abbrev aft (cs : List UInt8) (p : Nat) (b : Bytes) : Except Nat (Nat × Bytes) := scan b (.d 0) cs p
def andThen {α : Type} (x : Except Nat (α × (Nat × Bytes))) (g : Nat → Bytes → Except Nat (Nat × Bytes)) : Except Nat (Nat × Bytes) := match x with
  | .error k => .error k
  | .ok (_, q, c) => g q c
/-- what closes brackets -/
def Cl (cs : List UInt8) : Prop := ∀ k ∈ cs, k = 93 ∨ k = 41
def NotHd (k : UInt8) (c : Bytes) : Prop := c.head? ≠ some k

theorem scan_digits : ∀ (n v p : Nat) (b : Bytes) (cs : List UInt8), scan b (.d n) cs p = aft cs (digitsAt n v p b).2.1 (digitsAt n v p b).2.2
  | 0, v, p, b, cs => rfl
  | n + 1, v, p, [], cs => rfl
  | n + 1, v, p, c :: l, cs => by
    by_cases h : isDigit c = true
    · have e : digitsAt (n + 1) v p (c :: l) = digitsAt n (10 * v + (c.toNat - 48)) (p + 1) l := by
        show (if isDigit c = true then _ else _) = _
        rw [if_pos h]
      rw [e, ← scan_digits n _ (p + 1) l cs]
      show (if isDigit c = true ∧ 0 < n + 1 then _ else _) = _
      rw [if_pos ⟨h, Nat.succ_pos n⟩]
      rfl
    · have e : digitsAt (n + 1) v p (c :: l) = (v, p, c :: l) := by
        show (if isDigit c = true then _ else _) = _
        rw [if_neg h]
      rw [e]
      show (if isDigit c = true ∧ 0 < n + 1 then _ else _) = (if isDigit c = true ∧ 0 < 0 then _ else _)
      rw [if_neg (fun x : isDigit c = true ∧ 0 < n + 1 => h x.1), if_neg (fun x : isDigit c = true ∧ 0 < 0 => h x.1)]
theorem digits_len : ∀ (n v p : Nat) (b : Bytes), (digitsAt n v p b).2.2.length ≤ b.length
  | 0, v, p, b => Nat.le_refl _
  | n + 1, v, p, [] => Nat.le_refl _
  | n + 1, v, p, c :: l => by
    show (if isDigit c = true then digitsAt n (10 * v + (c.toNat - 48)) (p + 1) l else (v, p, c :: l)).2.2.length ≤ _
    by_cases h : isDigit c = true
    · rw [if_pos h]
      exact Nat.le_trans (digits_len n _ _ l) (Nat.le_succ _)
    · rw [if_neg h]
      exact Nat.le_refl _

/-- what the spec's readers come to, against the scan -/
structure Good (f : Nat) : Prop where
  ex : ∀ (d p : Nat) (b : Bytes) (cs : List UInt8), Cl cs → cs.length = d → 3 * b.length + 3 ≤ f → scan b .f cs p = andThen (exAt f d p b) (aft cs) ∧ ∀ x q c, exAt f d p b = .ok (x, q, c) → c.length < b.length ∧ NotHd 42 c ∧ NotHd 43 c ∧ NotHd 45 c
  sum : ∀ (d : Nat) (x : Ex) (p : Nat) (b : Bytes) (cs : List UInt8), Cl cs → cs.length = d → 3 * b.length + 2 ≤ f → NotHd 42 b → aft cs p b = andThen (sumAt f d x p b) (aft cs) ∧ ∀ x' q c, sumAt f d x p b = .ok (x', q, c) → c.length ≤ b.length ∧ NotHd 42 c ∧ NotHd 43 c ∧ NotHd 45 c
  term : ∀ (d p : Nat) (b : Bytes) (cs : List UInt8), Cl cs → cs.length = d → 3 * b.length + 2 ≤ f → scan b .f cs p = andThen (termAt f d p b) (aft cs) ∧ ∀ x q c, termAt f d p b = .ok (x, q, c) → c.length < b.length ∧ NotHd 42 c
  times : ∀ (d : Nat) (x : Ex) (p : Nat) (b : Bytes) (cs : List UInt8), Cl cs → cs.length = d → 3 * b.length + 1 ≤ f → aft cs p b = andThen (timesAt f d x p b) (aft cs) ∧ ∀ x' q c, timesAt f d x p b = .ok (x', q, c) → c.length ≤ b.length ∧ NotHd 42 c
  fac : ∀ (d p : Nat) (b : Bytes) (cs : List UInt8), Cl cs → cs.length = d → 3 * b.length + 1 ≤ f → scan b .f cs p = andThen (factorAt f d p b) (aft cs) ∧ ∀ x q c, factorAt f d p b = .ok (x, q, c) → c.length < b.length

/-- an operator behind a number: what is read goes on with a factor -/
theorem aft_op {cs : List UInt8} (hc : Cl cs) {c : UInt8} (h : isOp c = true) (p : Nat) (l : Bytes) : aft cs p (c :: l) = scan l .f cs (p + 1) := by
  have hd : ¬ (isDigit c = true ∧ 0 < 0) := fun x => absurd x.2 (Nat.lt_irrefl _)
  show (if isDigit c = true ∧ 0 < 0 then _ else _) = _
  rw [if_neg hd]
  cases cs with
  | nil =>
    show (if isOp c = true then _ else _) = _
    rw [if_pos h]
  | cons k r =>
    have hk : c ≠ k := fun e => by
      subst e
      rcases hc c List.mem_cons_self with e | e <;> (subst e; revert h; decide)
    show (if c = k then _ else if isOp c = true then _ else _) = _
    rw [if_neg hk, if_pos h]

theorem good_zero : Good 0 where
  ex := fun d p b cs _ _ h => absurd h (by omega)
  sum := fun d x p b cs _ _ h => absurd h (by omega)
  term := fun d p b cs _ _ h => absurd h (by omega)
  times := fun d x p b cs _ _ h => absurd h (by omega)
  fac := fun d p b cs _ _ h => absurd h (by omega)

theorem hd_of {k : UInt8} {c : UInt8} {l : Bytes} (h : NotHd k (c :: l)) : c ≠ k := fun e => h (by rw [e]; rfl)
theorem nothd_cons {k : UInt8} {c : UInt8} {l : Bytes} (h : c ≠ k) : NotHd k (c :: l) := fun e => h (Option.some.inj e)
theorem nothd_nil {k : UInt8} : NotHd k [] := fun e => nomatch e

theorem good_times {f : Nat} (G : Good f) (d : Nat) (x : Ex) (p : Nat) (b : Bytes) (cs : List UInt8) (hc : Cl cs) (hd : cs.length = d) (hf : 3 * b.length + 1 ≤ f + 1) :
    aft cs p b = andThen (timesAt (f + 1) d x p b) (aft cs) ∧ ∀ x' q c, timesAt (f + 1) d x p b = .ok (x', q, c) → c.length ≤ b.length ∧ NotHd 42 c := by
  cases b with
  | nil =>
    have e : timesAt (f + 1) d x p [] = .ok (x, p, []) := by unfold timesAt; rfl
    rw [e]
    exact ⟨rfl, fun x' q c h => by cases h; exact ⟨Nat.le_refl _, nothd_nil⟩⟩
  | cons c l =>
    by_cases h : c = 42
    · subst h
      rw [aft_op hc (by decide)]
      have hl : 3 * l.length + 1 ≤ f := by rw [List.length_cons] at hf; omega
      obtain ⟨e1, h1⟩ := G.fac d (p + 1) l cs hc hd hl
      rw [e1]
      cases hz : factorAt f d (p + 1) l with
      | error k =>
        have e : timesAt (f + 1) d x p (42 :: l) = .error k := by rw [timesAt, hz]
        rw [e]
        exact ⟨rfl, fun x' q c h => by cases h⟩
      | ok z =>
        obtain ⟨y, q, c⟩ := z
        have e : timesAt (f + 1) d x p (42 :: l) = timesAt f d (.times x y) q c := by rw [timesAt, hz]
        rw [e]
        have hlt := h1 y q c hz
        obtain ⟨e2, h2⟩ := G.times d (.times x y) q c cs hc hd (by omega)
        refine ⟨e2, fun x' q' c' h => ?_⟩
        obtain ⟨h3, h4⟩ := h2 x' q' c' h
        exact ⟨by rw [List.length_cons]; omega, h4⟩
    · have e : timesAt (f + 1) d x p (c :: l) = .ok (x, p, c :: l) := by
        rw [timesAt]
        intro l' e
        exact h (List.cons.inj e).1
      rw [e]
      exact ⟨rfl, fun x' q c' h' => by cases h'; exact ⟨Nat.le_refl _, nothd_cons h⟩⟩
theorem good_term {f : Nat} (G : Good f) (d p : Nat) (b : Bytes) (cs : List UInt8) (hc : Cl cs) (hd : cs.length = d) (hf : 3 * b.length + 2 ≤ f + 1) :
    scan b .f cs p = andThen (termAt (f + 1) d p b) (aft cs) ∧ ∀ x q c, termAt (f + 1) d p b = .ok (x, q, c) → c.length < b.length ∧ NotHd 42 c := by
  obtain ⟨e1, h1⟩ := G.fac d p b cs hc hd (by omega)
  rw [e1]
  cases hz : factorAt f d p b with
  | error k =>
    have e : termAt (f + 1) d p b = .error k := by rw [termAt, hz]
    rw [e]
    exact ⟨rfl, fun x' q c h => by cases h⟩
  | ok z =>
    obtain ⟨y, q, c⟩ := z
    have e : termAt (f + 1) d p b = timesAt f d y q c := by rw [termAt, hz]
    rw [e]
    have hlt := h1 y q c hz
    obtain ⟨e2, h2⟩ := G.times d y q c cs hc hd (by omega)
    refine ⟨e2, fun x' q' c' h => ?_⟩
    obtain ⟨h3, h4⟩ := h2 x' q' c' h
    exact ⟨by omega, h4⟩
theorem good_ex {f : Nat} (G : Good f) (d p : Nat) (b : Bytes) (cs : List UInt8) (hc : Cl cs) (hd : cs.length = d) (hf : 3 * b.length + 3 ≤ f + 1) :
    scan b .f cs p = andThen (exAt (f + 1) d p b) (aft cs) ∧ ∀ x q c, exAt (f + 1) d p b = .ok (x, q, c) → c.length < b.length ∧ NotHd 42 c ∧ NotHd 43 c ∧ NotHd 45 c := by
  obtain ⟨e1, h1⟩ := G.term d p b cs hc hd (by omega)
  rw [e1]
  cases hz : termAt f d p b with
  | error k =>
    have e : exAt (f + 1) d p b = .error k := by rw [exAt, hz]
    rw [e]
    exact ⟨rfl, fun x' q c h => by cases h⟩
  | ok z =>
    obtain ⟨y, q, c⟩ := z
    have e : exAt (f + 1) d p b = sumAt f d y q c := by rw [exAt, hz]
    rw [e]
    obtain ⟨hlt, hn⟩ := h1 y q c hz
    obtain ⟨e2, h2⟩ := G.sum d y q c cs hc hd (by omega) hn
    refine ⟨e2, fun x' q' c' h => ?_⟩
    obtain ⟨h3, h4⟩ := h2 x' q' c' h
    exact ⟨by omega, h4⟩
theorem good_sum_op {f : Nat} (G : Good f) (d : Nat) (p : Nat) (l : Bytes) (cs : List UInt8) (hc : Cl cs) (hd : cs.length = d) (k : UInt8) (g : Ex → Ex) (s : Except Nat (Ex × (Nat × Bytes)))
    (es : s = match termAt f d (p + 1) l with
      | .error k => .error k
      | .ok (y, q, c) => sumAt f d (g y) q c) (hk : isOp k = true) (hf : 3 * (k :: l).length + 2 ≤ f + 1) :
    aft cs p (k :: l) = andThen s (aft cs) ∧ ∀ x' q c, s = .ok (x', q, c) → c.length ≤ (k :: l).length ∧ NotHd 42 c ∧ NotHd 43 c ∧ NotHd 45 c := by
  subst es
  rw [aft_op hc hk]
  have hl : 3 * l.length + 2 ≤ f := by rw [List.length_cons] at hf; omega
  obtain ⟨e1, h1⟩ := G.term d (p + 1) l cs hc hd hl
  rw [e1]
  cases hz : termAt f d (p + 1) l with
  | error k => exact ⟨rfl, fun x' q c h => by cases h⟩
  | ok z =>
    obtain ⟨y, q, c⟩ := z
    obtain ⟨hlt, hn⟩ := h1 y q c hz
    obtain ⟨e2, h2⟩ := G.sum d (g y) q c cs hc hd (by omega) hn
    refine ⟨e2, fun x' q' c' h => ?_⟩
    obtain ⟨h3, h4⟩ := h2 x' q' c' h
    exact ⟨by rw [List.length_cons]; omega, h4⟩
theorem good_sum {f : Nat} (G : Good f) (d : Nat) (x : Ex) (p : Nat) (b : Bytes) (cs : List UInt8) (hc : Cl cs) (hd : cs.length = d) (hf : 3 * b.length + 2 ≤ f + 1) (hn : NotHd 42 b) :
    aft cs p b = andThen (sumAt (f + 1) d x p b) (aft cs) ∧ ∀ x' q c, sumAt (f + 1) d x p b = .ok (x', q, c) → c.length ≤ b.length ∧ NotHd 42 c ∧ NotHd 43 c ∧ NotHd 45 c := by
  cases b with
  | nil =>
    have e : sumAt (f + 1) d x p [] = .ok (x, p, []) := by unfold sumAt; rfl
    rw [e]
    exact ⟨rfl, fun x' q c h => by cases h; exact ⟨Nat.le_refl _, nothd_nil, nothd_nil, nothd_nil⟩⟩
  | cons c l =>
    by_cases h : c = 43
    · subst h
      exact good_sum_op G d p l cs hc hd 43 (fun y => .plus x y) _ (by rw [sumAt]; rfl) (by decide) hf
    · by_cases h2 : c = 45
      · subst h2
        exact good_sum_op G d p l cs hc hd 45 (fun y => .minus x y) _ (by rw [sumAt]; rfl) (by decide) hf
      · have e : sumAt (f + 1) d x p (c :: l) = .ok (x, p, c :: l) := by
          rw [sumAt]
          · intro l' e
            exact h (List.cons.inj e).1
          · intro l' e
            exact h2 (List.cons.inj e).1
        rw [e]
        exact ⟨rfl, fun x' q c' h' => by cases h'; exact ⟨Nat.le_refl _, hn, nothd_cons h, nothd_cons h2⟩⟩
theorem closer_cl {cs : List UInt8} (hc : Cl cs) (c : UInt8) : Cl (closer c :: cs) := fun k hk => by
  rcases List.mem_cons.mp hk with e | e
  · subst e
    unfold closer
    by_cases h : c = 91
    · rw [if_pos h]
      exact .inl rfl
    · rw [if_neg h]
      exact .inr rfl
  · exact hc k e
/-- behind an E in brackets, where no operator stands: what closes it, or nothing -/
theorem aft_close (k : UInt8) (cs : List UInt8) (q : Nat) (c : Bytes) (h1 : NotHd 42 c) (h2 : NotHd 43 c) (h3 : NotHd 45 c) : aft (k :: cs) q c = andThen (expect [k] q c) (aft cs) := by
  cases c with
  | nil => rfl
  | cons c l =>
    have hd : ¬ (isDigit c = true ∧ 0 < 0) := fun x => absurd x.2 (Nat.lt_irrefl _)
    show (if isDigit c = true ∧ 0 < 0 then _ else if c = k then _ else if isOp c = true then _ else _) = andThen (if k = c then expect [] (q + 1) l else .error q) (aft cs)
    rw [if_neg hd]
    by_cases h : c = k
    · rw [if_pos h, if_pos h.symm]
      rfl
    · have ho : ¬ isOp c = true := fun x => by
        have e1 : (c == 43) = false := by simpa using hd_of h2
        have e2 : (c == 45) = false := by simpa using hd_of h3
        have e3 : (c == 42) = false := by simpa using hd_of h1
        unfold isOp at x
        rw [e1, e2, e3] at x
        cases x
      rw [if_neg h, if_neg ho, if_neg (fun z => h z.symm)]
      rfl
theorem expect_len : ∀ (w : Bytes) (p : Nat) (b : Bytes) (u : Unit) (q : Nat) (c : Bytes), expect w p b = .ok (u, q, c) → c.length + w.length = b.length
  | [], p, b, u, q, c, h => by
    cases h
    rfl
  | k :: w, p, [], u, q, c, h => by cases h
  | k :: w, p, d :: l, u, q, c, h => by
    have h' : (if k = d then expect w (p + 1) l else .error p) = .ok (u, q, c) := h
    by_cases e : k = d
    · rw [if_pos e] at h'
      have := expect_len w (p + 1) l u q c h'
      rw [List.length_cons, List.length_cons]
      omega
    · rw [if_neg e] at h'
      cases h'
theorem good_fac {f : Nat} (G : Good f) (d p : Nat) (b : Bytes) (cs : List UInt8) (hc : Cl cs) (hd : cs.length = d) (hf : 3 * b.length + 1 ≤ f + 1) :
    scan b .f cs p = andThen (factorAt (f + 1) d p b) (aft cs) ∧ ∀ x q c, factorAt (f + 1) d p b = .ok (x, q, c) → c.length < b.length := by
  cases b with
  | nil =>
    have e : factorAt (f + 1) d p [] = .error p := by unfold factorAt; rfl
    rw [e]
    exact ⟨rfl, fun x' q c h => by cases h⟩
  | cons c l =>
    rw [factorAt]
    have sc : scan (c :: l) .f cs p = if isBr c = true then (if cs.length < 16 then scan l .f (closer c :: cs) (p + 1) else .error p)
      else if c = 48 then scan l (.d 0) cs (p + 1)
      else if isDigit c = true then scan l (.d 3) cs (p + 1)
      else if isLet c = true then scan l (.d 0) cs (p + 1)
      else .error p := rfl
    rw [sc]
    by_cases h0 : c = 48
    · subst h0
      rw [if_neg (by decide), if_pos rfl, if_pos rfl]
      exact ⟨rfl, fun x q c h => by cases h; exact Nat.lt_succ_self _⟩
    · rw [if_neg h0, if_neg h0]
      by_cases h1 : isDigit c = true
      · have hb : ¬ isBr c = true := fun z => by
          unfold isBr at z
          rcases (Bool.or_eq_true _ _).mp z with e | e <;> (rw [beq_iff_eq] at e; subst e; revert h1; decide)
        rw [if_neg hb, if_pos h1, if_pos h1]
        refine ⟨scan_digits 3 (c.toNat - 48) (p + 1) l cs, fun x q c' h => ?_⟩
        have e2 : (digitsAt 3 (c.toNat - 48) (p + 1) l).2 = (q, c') := (Prod.mk.inj (Except.ok.inj h)).2
        have e3 : (digitsAt 3 (c.toNat - 48) (p + 1) l).2.2 = c' := congrArg Prod.snd e2
        rw [← e3]
        exact Nat.lt_of_le_of_lt (digits_len 3 _ _ l) (Nat.lt_succ_self _)
      · rw [if_neg h1, if_neg h1]
        by_cases h2 : 97 ≤ c.toNat ∧ c.toNat ≤ 104
        · have hb : ¬ isBr c = true := fun z => by
            unfold isBr at z
            rcases (Bool.or_eq_true _ _).mp z with e | e <;> (rw [beq_iff_eq] at e; subst e; revert h2; decide)
          have hl : isLet c = true := by
            unfold isLet
            rw [decide_eq_true h2.1, decide_eq_true h2.2]
            rfl
          rw [if_neg hb, if_pos hl, if_pos h2]
          exact ⟨rfl, fun x q c h => by cases h; exact Nat.lt_succ_self _⟩
        · rw [if_neg h2]
          by_cases h3 : 65 ≤ c.toNat ∧ c.toNat ≤ 72
          · have hb : ¬ isBr c = true := fun z => by
              unfold isBr at z
              rcases (Bool.or_eq_true _ _).mp z with e | e <;> (rw [beq_iff_eq] at e; subst e; revert h3; decide)
            have hl : isLet c = true := by
              unfold isLet
              rw [decide_eq_true h3.1, decide_eq_true h3.2, Bool.and_self, Bool.or_true]
            rw [if_neg hb, if_pos hl, if_pos h3]
            exact ⟨rfl, fun x q c h => by cases h; exact Nat.lt_succ_self _⟩
          · rw [if_neg h3]
            have hl : ¬ isLet c = true := fun z => by
              unfold isLet at z
              rcases (Bool.or_eq_true _ _).mp z with e | e
              · exact h2 ⟨of_decide_eq_true ((Bool.and_eq_true _ _).mp e).1, of_decide_eq_true ((Bool.and_eq_true _ _).mp e).2⟩
              · exact h3 ⟨of_decide_eq_true ((Bool.and_eq_true _ _).mp e).1, of_decide_eq_true ((Bool.and_eq_true _ _).mp e).2⟩
            rw [if_neg hl]
            by_cases h4 : c = 91 ∨ c = 40
            · have hb : isBr c = true := by
                unfold isBr
                rcases h4 with e | e <;> (subst e; rfl)
              rw [if_pos hb, if_pos h4]
              by_cases h5 : OPEN ≤ d
              · rw [if_pos h5, if_neg (by rw [hd]; exact Nat.not_lt.mpr h5)]
                exact ⟨rfl, fun x q c h => by cases h⟩
              · rw [if_neg h5, if_pos (by rw [hd]; exact Nat.lt_of_not_le h5)]
                have hl3 : 3 * l.length + 3 ≤ f := by rw [List.length_cons] at hf; omega
                obtain ⟨e1, g1⟩ := G.ex (d + 1) (p + 1) l (closer c :: cs) (closer_cl hc c) (by rw [List.length_cons, hd]) hl3
                rw [e1]
                cases hz : exAt f (d + 1) (p + 1) l with
                | error k => exact ⟨rfl, fun x' q c h => by cases h⟩
                | ok z =>
                  obtain ⟨y, q, r⟩ := z
                  obtain ⟨hlt, n1, n2, n3⟩ := g1 y q r hz
                  show aft (closer c :: cs) q r = andThen (match expect [closer c] q r with
                    | .error k => .error k
                    | .ok (_, q, r) => .ok (if c = 91 then Ex.rod y else .par y, q, r)) (aft cs) ∧ _
                  rw [aft_close _ _ _ _ n1 n2 n3]
                  cases hw : expect [closer c] q r with
                  | error k =>
                    refine ⟨rfl, fun x' q' c' h => ?_⟩
                    have hw' : expect [if c = 91 then 93 else 41] q r = .error k := hw
                    simp only [hw'] at h
                    cases h
                  | ok z =>
                    obtain ⟨u, q2, r2⟩ := z
                    refine ⟨rfl, fun x' q' c' h => ?_⟩
                    have hw' : expect [if c = 91 then 93 else 41] q r = .ok (u, q2, r2) := hw
                    simp only [hw'] at h
                    have h6 := expect_len _ _ _ _ _ _ hw
                    cases h
                    rw [List.length_cons]
                    simp only [List.length_cons, List.length_nil] at h6
                    omega
            · have hb : ¬ isBr c = true := fun z => by
                unfold isBr at z
                rcases (Bool.or_eq_true _ _).mp z with e | e
                · exact h4 (.inl (by simpa using e))
                · exact h4 (.inr (by simpa using e))
              rw [if_neg hb, if_neg h4]
              exact ⟨rfl, fun x q c h => by cases h⟩
theorem good : ∀ f, Good f
  | 0 => good_zero
  | f + 1 => ⟨good_ex (good f), good_sum (good f), good_term (good f), good_times (good f), good_fac (good f)⟩
/-- an E, read by the scan -/
theorem scan_ex (p : Nat) (b : Bytes) : scan b .f [] p = andThen (exHere p b) (aft []) := ((good (6 * b.length + 8)).ex 0 p b [] (fun k h => nomatch h) rfl (by omega)).1
theorem ex_len {p : Nat} {b : Bytes} {x : Ex} {q : Nat} {c : Bytes} (h : exHere p b = .ok (x, q, c)) : c.length < b.length ∧ NotHd 42 c ∧ NotHd 43 c ∧ NotHd 45 c := ((good (6 * b.length + 8)).ex 0 p b [] (fun k h => nomatch h) rfl (by omega)).2 x q c h
theorem aft_end {q : Nat} {c : Bytes} (n1 : NotHd 42 c) (n2 : NotHd 43 c) (n3 : NotHd 45 c) : aft [] q c = .ok (q, c) := by
  cases c with
  | nil => rfl
  | cons c l =>
    have hd : ¬ (isDigit c = true ∧ 0 < 0) := fun x => absurd x.2 (Nat.lt_irrefl _)
    have ho : ¬ isOp c = true := fun x => by
      have e1 : (c == 43) = false := by simpa using hd_of n2
      have e2 : (c == 45) = false := by simpa using hd_of n3
      have e3 : (c == 42) = false := by simpa using hd_of n1
      unfold isOp at x
      rw [e1, e2, e3] at x
      cases x
    show (if isDigit c = true ∧ 0 < 0 then _ else if isOp c = true then _ else _) = _
    rw [if_neg hd, if_neg ho]
theorem scan_error {p k : Nat} {b : Bytes} (h : exHere p b = .error k) : scan b .f [] p = .error k := by rw [scan_ex, h]; rfl
theorem scan_ok {p : Nat} {b : Bytes} {x : Ex} {q : Nat} {c : Bytes} (h : exHere p b = .ok (x, q, c)) : scan b .f [] p = .ok (q, c) := by
  obtain ⟨_, n1, n2, n3⟩ := ex_len h
  rw [scan_ex, h]
  exact aft_end n1 n2 n3
end AbM

set_option linter.all false
/-! Of the specification alone: what a text that's read is: heads and marks below eight, numbers to 9,999, brackets to sixteen deep, ends where they belong. -/
namespace AbG
open Na
structure Fit (e : Ex) (d L : Nat) : Prop where
  ok : e.ok = true
  dep : e.depth + d ≤ OPEN
  lev : e.level ≤ L
theorem Fit.up {e : Ex} {d L M : Nat} (h : Fit e d L) (l : L ≤ M) : Fit e d M := ⟨h.ok, h.dep, Nat.le_trans h.lev l⟩
theorem digits_lt : ∀ (f n p : Nat) (b : Bytes), (digitsAt f n p b).1 < (n + 1) * 10 ^ f
  | 0, n, p, b => by
    show n < (n + 1) * 1
    omega
  | f + 1, n, p, [] => by
    show n < _
    have : 1 ≤ 10 ^ (f + 1) := Nat.one_le_pow _ _ (by decide)
    calc n < (n + 1) * 1 := by omega
      _ ≤ _ := Nat.mul_le_mul_left _ this
  | f + 1, n, p, c :: l => by
    show (if isDigit c = true then digitsAt f (10 * n + (c.toNat - 48)) (p + 1) l else (n, p, c :: l)).1 < _
    by_cases h : isDigit c = true
    · rw [if_pos h]
      have h2 : c.toNat ≤ 57 := by
        unfold isDigit at h
        rw [Bool.and_eq_true] at h
        exact of_decide_eq_true h.2
      calc (digitsAt f (10 * n + (c.toNat - 48)) (p + 1) l).1 < (10 * n + (c.toNat - 48) + 1) * 10 ^ f := digits_lt f _ _ _
        _ ≤ (10 * (n + 1)) * 10 ^ f := Nat.mul_le_mul_right _ (by omega)
        _ = (n + 1) * 10 ^ (f + 1) := by rw [Nat.pow_succ, Nat.mul_comm 10 (n + 1), Nat.mul_assoc, Nat.mul_comm 10]
    · rw [if_neg h]
      show n < _
      have : 1 ≤ 10 ^ (f + 1) := Nat.one_le_pow _ _ (by decide)
      calc n < (n + 1) * 1 := by omega
        _ ≤ _ := Nat.mul_le_mul_left _ this
theorem leaf {e : Ex} {d : Nat} (h : e.ok = true) (h0 : e.depth = 0) (h1 : e.level = 0) (hd : d ≤ OPEN) : Fit e d 0 := ⟨h, by omega, by omega⟩
structure All (f : Nat) : Prop where
  ex : ∀ d p b r, d ≤ OPEN → exAt f d p b = .ok r → Fit r.1 d 2
  sum : ∀ d x p b r, d ≤ OPEN → Fit x d 2 → sumAt f d x p b = .ok r → Fit r.1 d 2
  term : ∀ d p b r, d ≤ OPEN → termAt f d p b = .ok r → Fit r.1 d 1
  times : ∀ d x p b r, d ≤ OPEN → Fit x d 1 → timesAt f d x p b = .ok r → Fit r.1 d 1
  factor : ∀ d p b r, d ≤ OPEN → factorAt f d p b = .ok r → Fit r.1 d 0
theorem fit_two {g : Ex → Ex → Ex} {x y : Ex} {d L : Nat} (hx : x.depth + d ≤ OPEN) (hy : y.depth + d ≤ OPEN) (h : (g x y).depth = max x.depth y.depth) (ho : (g x y).ok = true) (hl : (g x y).level ≤ L) : Fit (g x y) d L := ⟨ho, by rw [h]; omega, hl⟩
theorem sum_rest {f d : Nat} {x : Ex} {p : Nat} {b : Bytes} {r : Ex × (Nat × Bytes)} (ih : All f) (hd : d ≤ OPEN) (hx : Fit x d 2) (h : sumAt (f + 1) d x p b = .ok r) : Fit r.1 d 2 := by
  unfold sumAt at h
  split at h
  · cases e : termAt f d (p + 1) ‹_› with
    | error k => rw [e] at h; cases h
    | ok y =>
      rw [e] at h
      have hy := ih.term _ _ _ _ hd e
      refine ih.sum _ _ _ _ _ hd (fit_two (g := .plus) hx.dep hy.dep rfl ?_ (Nat.le_refl 2)) h
      show (x.ok && (y.1.ok && decide (y.1.level ≤ 1))) = true
      rw [hx.ok, hy.ok, decide_eq_true hy.lev]
      rfl
  · cases e : termAt f d (p + 1) ‹_› with
    | error k => rw [e] at h; cases h
    | ok y =>
      rw [e] at h
      have hy := ih.term _ _ _ _ hd e
      refine ih.sum _ _ _ _ _ hd (fit_two (g := .minus) hx.dep hy.dep rfl ?_ (Nat.le_refl 2)) h
      show (x.ok && (y.1.ok && decide (y.1.level ≤ 1))) = true
      rw [hx.ok, hy.ok, decide_eq_true hy.lev]
      rfl
  · cases h
    exact hx
theorem times_rest {f d : Nat} {x : Ex} {p : Nat} {b : Bytes} {r : Ex × (Nat × Bytes)} (ih : All f) (hd : d ≤ OPEN) (hx : Fit x d 1) (h : timesAt (f + 1) d x p b = .ok r) : Fit r.1 d 1 := by
  unfold timesAt at h
  split at h
  · cases e : factorAt f d (p + 1) ‹_› with
    | error k => rw [e] at h; cases h
    | ok y =>
      rw [e] at h
      have hy := ih.factor _ _ _ _ hd e
      refine ih.times _ _ _ _ _ hd (fit_two (g := .times) hx.dep hy.dep rfl ?_ (Nat.le_refl 1)) h
      show (x.ok && (y.1.ok && (decide (x.level ≤ 1) && decide (y.1.level = 0)))) = true
      rw [hx.ok, hy.ok, decide_eq_true hx.lev, decide_eq_true (Nat.le_zero.mp hy.lev)]
      rfl
  · cases h
    exact hx
theorem factor_rest {f d p : Nat} {b : Bytes} {r : Ex × (Nat × Bytes)} (ih : All f) (hd : d ≤ OPEN) (h : factorAt (f + 1) d p b = .ok r) : Fit r.1 d 0 := by
  cases b with
  | nil =>
    unfold factorAt at h
    cases h
  | cons c l =>
    unfold factorAt at h
    dsimp only at h
    by_cases h1 : c = 48
    · rw [if_pos h1] at h
      cases h
      exact leaf rfl rfl rfl hd
    · rw [if_neg h1] at h
      by_cases h2 : isDigit c = true
      · rw [if_pos h2] at h
        cases h
        refine leaf (decide_eq_true ?_) rfl rfl hd
        have h3 : c.toNat ≤ 57 := by
          unfold isDigit at h2
          rw [Bool.and_eq_true] at h2
          exact of_decide_eq_true h2.2
        have := digits_lt 3 (c.toNat - 48) (p + 1) l
        omega
      · rw [if_neg h2] at h
        by_cases h3 : 97 ≤ c.toNat ∧ c.toNat ≤ 104
        · rw [if_pos h3] at h
          cases h
          exact leaf (decide_eq_true (by omega)) rfl rfl hd
        · rw [if_neg h3] at h
          by_cases h4 : 65 ≤ c.toNat ∧ c.toNat ≤ 72
          · rw [if_pos h4] at h
            cases h
            exact leaf (decide_eq_true (by omega)) rfl rfl hd
          · rw [if_neg h4] at h
            by_cases h5 : c = 91 ∨ c = 40
            · rw [if_pos h5] at h
              by_cases h6 : OPEN ≤ d
              · rw [if_pos h6] at h
                cases h
              · rw [if_neg h6] at h
                cases e : exAt f (d + 1) (p + 1) l with
                | error k => rw [e] at h; cases h
                | ok y =>
                  rw [e] at h
                  obtain ⟨x, q, rr⟩ := y
                  dsimp only at h
                  have hx := ih.ex (d + 1) _ _ _ (by omega) e
                  cases e2 : expect [if c = 91 then 93 else 41] q rr with
                  | error k => rw [e2] at h; cases h
                  | ok z =>
                    rw [e2] at h
                    obtain ⟨_, q2, r2⟩ := z
                    dsimp only at h
                    cases h
                    have hdep := hx.dep
                    dsimp only at hdep
                    by_cases h7 : c = 91
                    · show Fit (if c = 91 then .rod x else .par x) d 0
                      rw [if_pos h7]
                      exact ⟨hx.ok, by show x.depth + 1 + d ≤ _; omega, Nat.le_refl 0⟩
                    · show Fit (if c = 91 then .rod x else .par x) d 0
                      rw [if_neg h7]
                      exact ⟨hx.ok, by show x.depth + 1 + d ≤ _; omega, Nat.le_refl 0⟩
            · rw [if_neg h5] at h
              cases h
theorem all_fit : ∀ f, All f
  | 0 => ⟨fun _ _ _ _ _ h => (by unfold exAt at h; cases h), fun _ _ _ _ _ _ _ h => (by unfold sumAt at h; cases h), fun _ _ _ _ _ h => (by unfold termAt at h; cases h), fun _ _ _ _ _ _ _ h => (by unfold timesAt at h; cases h), fun _ _ _ _ _ h => (by unfold factorAt at h; cases h)⟩
  | f + 1 => by
    have ih := all_fit f
    refine ⟨fun d p b r hd h => ?_, fun d x p b r hd hx h => sum_rest ih hd hx h, fun d p b r hd h => ?_, fun d x p b r hd hx h => times_rest ih hd hx h, fun d p b r hd h => factor_rest ih hd h⟩
    · unfold exAt at h
      cases e : termAt f d p b with
      | error k => rw [e] at h; cases h
      | ok y =>
        rw [e] at h
        exact ih.sum _ _ _ _ _ hd ((ih.term _ _ _ _ hd e).up (by decide)) h
    · unfold termAt at h
      cases e : factorAt f d p b with
      | error k => rw [e] at h; cases h
      | ok y =>
        rw [e] at h
        exact ih.times _ _ _ _ _ hd ((ih.factor _ _ _ _ hd e).up (by decide)) h
theorem ex_good {p : Nat} {b : Bytes} {r : Ex × (Nat × Bytes)} (h : exHere p b = .ok r) : r.1.good = true := by
  have := (all_fit _).ex 0 p b r (Nat.zero_le _) h
  unfold Ex.good
  rw [this.ok, decide_eq_true (by have := this.dep; omega)]
  rfl
/-! ## tests, lines -/
theorem bind_ok {α β : Type} {x : Except Nat α} {g : α → Except Nat β} {r : β} (h : (x >>= g) = .ok r) : ∃ a, x = .ok a ∧ g a = .ok r := by
  cases x with
  | error k => cases h
  | ok a => exact ⟨a, rfl, h⟩
theorem test_good {p : Nat} {b : Bytes} {r : Test × (Nat × Bytes)} (h : testAt p b = .ok r) : (r.1.a.good && r.1.b.good) = true := by
  unfold testAt at h
  obtain ⟨x, ex, h⟩ := bind_ok h
  obtain ⟨c, ec, h⟩ := bind_ok h
  obtain ⟨y, ey, h⟩ := bind_ok h
  cases h
  show (x.1.good && y.1.good) = true
  rw [ex_good ex, ex_good ey]
  rfl
theorem tests_good : ∀ (f p : Nat) (b : Bytes) (r : List Test × (Nat × Bytes)), testsAt f p b = .ok r → goodTests r.1 = true
  | 0, _, _, _, h => by cases h
  | f + 1, p, b, r, h => by
    unfold testsAt at h
    obtain ⟨t, et, h⟩ := bind_ok h
    have ht := test_good et
    split at h
    · obtain ⟨w, ew, h⟩ := bind_ok h
      obtain ⟨r2, er, h⟩ := bind_ok h
      cases h
      have := tests_good f _ _ _ er
      unfold goodTests at this ⊢
      rw [Bool.and_eq_true] at this
      show (!(t.1 :: r2.1).isEmpty && ((t.1.a.good && t.1.b.good) && r2.1.all _)) = true
      rw [ht, this.2]
      rfl
    · cases h
      show (!([t.1] : List Test).isEmpty && ((t.1.a.good && t.1.b.good) && ([] : List Test).all _)) = true
      rw [ht]
      rfl
theorem head_lt {p : Nat} {b : Bytes} {r : Nat × (Nat × Bytes)} (h : headAt p b = .ok r) : r.1 < 8 := by
  unfold headAt at h
  split at h
  · split at h
    · cases h
      show _ - 97 < 8
      omega
    · cases h
  · cases h
theorem one_mem {α : Type} : ∀ (f : Nat) (ks : List (Bytes × α)) (p : Nat) (b : Bytes) (r : α × (Nat × Bytes)), oneOf f ks p b = .ok r → ∃ w, (w, r.1) ∈ ks
  | 0, _, _, _, _, h => by cases h
  | f + 1, ks, p, b, r, h => by
    unfold oneOf at h
    cases e : ks.find? fun (x : Bytes × α) => x.1.isEmpty with
    | some x =>
      rw [e] at h
      cases h
      exact ⟨x.1, List.mem_of_find?_eq_some e⟩
    | none =>
      rw [e] at h
      cases b with
      | nil => cases h
      | cons c l =>
        dsimp only at h
        split at h
        · cases h
        · obtain ⟨w, hw⟩ := one_mem f _ _ _ _ h
          rw [List.mem_filterMap] at hw
          obtain ⟨x, hx, hy⟩ := hw
          obtain ⟨xw, xa⟩ := x
          cases xw with
          | nil => cases hy
          | cons d r2 =>
            dsimp only at hy
            split at hy
            · cases hy
              exact ⟨_, hx⟩
            · cases hy
/-- what the words say of what is open -/
theorem words_say {o : List Nat} {w : Bytes} {k : Kw} (h : (w, k) ∈ words_ o) : (k = .if_ ∨ k = .while_ → o.length < OPEN) ∧ (k = .else_ → o.head? = some 1) ∧ (k = .end_ → o ≠ []) := by
  unfold words_ at h
  rw [List.mem_append, List.mem_append, List.mem_append] at h
  rcases h with h | h | h | h
  · have : k = .add ∨ k = .take ∨ k = .set ∨ k = .halt_ ∨ k = .fail := by
      simp only [List.mem_cons, Prod.mk.injEq, List.not_mem_nil, or_false] at h
      rcases h with ⟨_, h⟩ | ⟨_, h⟩ | ⟨_, h⟩ | ⟨_, h⟩ | ⟨_, h⟩ <;> simp [h]
    rcases this with rfl | rfl | rfl | rfl | rfl <;> exact ⟨fun h => (by rcases h with h | h <;> cases h), fun h => (by cases h), fun h => (by cases h)⟩
  · by_cases hl : o.length < OPEN
    · rw [if_pos hl] at h
      refine ⟨fun _ => hl, fun hk => ?_, fun hk => ?_⟩
      · subst hk
        simp at h
      · subst hk
        simp at h
    · rw [if_neg hl] at h
      cases h
  · by_cases hh : o.head? = some 1
    · rw [if_pos hh] at h
      have : k = .else_ := by simpa using (show k = .else_ from by simp only [List.mem_singleton, Prod.mk.injEq] at h; exact h.2)
      subst this
      exact ⟨fun h => (by rcases h with h | h <;> cases h), fun _ => hh, fun h => (by cases h)⟩
    · rw [if_neg hh] at h
      cases h
  · by_cases hh : o.isEmpty = true
    · rw [if_pos hh] at h
      cases h
    · rw [if_neg hh] at h
      have : k = .end_ := by simp only [List.mem_singleton, Prod.mk.injEq] at h; exact h.2
      subst this
      exact ⟨fun h => (by rcases h with h | h <;> cases h), fun h => (by cases h), fun _ => (by simpa using hh)⟩
theorem line_good {o : List Nat} {p : Nat} {b : Bytes} {r : Line × (Nat × Bytes)} (h : lineAt o p b = .ok r) : r.1.good = true ∧ ∀ m, nested m (openBehind o r.1) = true → nested (r.1 :: m) o = true := by
  unfold lineAt at h
  obtain ⟨k, ek, h⟩ := bind_ok h
  obtain ⟨w, hw⟩ := one_mem _ _ _ _ _ ek
  obtain ⟨wi, we, wn⟩ := words_say hw
  obtain ⟨kk, kp, kb⟩ := k
  cases kk with
  | add =>
    obtain ⟨e, ee, h⟩ := bind_ok h
    obtain ⟨w, _, h⟩ := bind_ok h
    obtain ⟨r, er, h⟩ := bind_ok h
    cases h
    refine ⟨?_, fun _ h => h⟩
    show (e.1.good && r.1.good) = true
    rw [ex_good ee, ex_good er]
    rfl
  | take =>
    obtain ⟨e, ee, h⟩ := bind_ok h
    obtain ⟨w, _, h⟩ := bind_ok h
    obtain ⟨r, er, h⟩ := bind_ok h
    cases h
    refine ⟨?_, fun _ h => h⟩
    show (e.1.good && r.1.good) = true
    rw [ex_good ee, ex_good er]
    rfl
  | set =>
    obtain ⟨hd, eh, h⟩ := bind_ok h
    obtain ⟨w, _, h⟩ := bind_ok h
    obtain ⟨e, ee, h⟩ := bind_ok h
    cases h
    refine ⟨?_, fun _ h => h⟩
    show (decide (hd.1 < 8) && e.1.good) = true
    rw [decide_eq_true (head_lt eh), ex_good ee]
    rfl
  | if_ =>
    obtain ⟨c, ec, h⟩ := bind_ok h
    cases h
    refine ⟨tests_good _ _ _ _ ec, fun m hm => ?_⟩
    show (decide (o.length < OPEN) && nested m (1 :: o)) = true
    rw [decide_eq_true (wi (.inl rfl))]
    exact hm
  | while_ =>
    obtain ⟨c, ec, h⟩ := bind_ok h
    cases h
    refine ⟨tests_good _ _ _ _ ec, fun m hm => ?_⟩
    show (decide (o.length < OPEN) && nested m (0 :: o)) = true
    rw [decide_eq_true (wi (.inr rfl))]
    exact hm
  | else_ =>
    cases h
    refine ⟨rfl, fun m hm => ?_⟩
    have h1 := we rfl
    cases o with
    | nil => cases h1
    | cons a o =>
      cases h1
      exact hm
  | end_ =>
    cases h
    refine ⟨rfl, fun m hm => ?_⟩
    have h1 := wn rfl
    cases o with
    | nil => exact absurd rfl h1
    | cons a o => exact hm
  | halt_ =>
    cases h
    exact ⟨rfl, fun _ h => h⟩
  | fail =>
    cases h
    exact ⟨rfl, fun _ h => h⟩
theorem lines_good : ∀ (f : Nat) (o : List Nat) (p : Nat) (b : Bytes) (m : Method), linesAt f o p b = .ok m → (∀ l ∈ m, Line.good l = true) ∧ nested m o = true
  | 0, _, _, _, _, h => by cases h
  | f + 1, o, p, b, m, h => by
    unfold linesAt at h
    split at h
    · split at h
      · cases h
        exact ⟨fun _ hl => absurd hl List.not_mem_nil, ‹_›⟩
      · cases h
    · obtain ⟨x, ex, h⟩ := bind_ok h
      obtain ⟨e, ee, h⟩ := bind_ok h
      obtain ⟨r, er, h⟩ := bind_ok h
      cases h
      obtain ⟨g1, g2⟩ := line_good ex
      obtain ⟨i1, i2⟩ := lines_good f _ _ _ _ er
      refine ⟨fun l hl => ?_, g2 _ i2⟩
      rcases List.mem_cons.mp hl with rfl | hl
      · exact g1
      · exact i1 l hl
theorem read_good {t : Bytes} {m : Method} (h : readMethod t = .ok m) : (∀ l ∈ m, Line.good l = true) ∧ nested m [] = true := lines_good _ _ _ _ _ h
end AbG

set_option linter.all false
namespace AbM
open Na

/-! ## An E sign by sign: what stands there as a list of numbers and signs -/
abbrev Tk := Sum Nat Nat
def lex1 : Bytes → Option (Tk × Bytes)
  | [] => none
  | c :: l => if c = 48 then some (.inl 0, l)
    else if isDigit c = true then some (.inl (digitsAt 3 (c.toNat - 48) 0 l).1, (digitsAt 3 (c.toNat - 48) 0 l).2.2)
    else some (.inr c.toNat, l)
theorem lex1_cons (c : UInt8) (l : Bytes) : lex1 (c :: l) = if c = 48 then some (.inl 0, l) else if isDigit c = true then some (.inl (digitsAt 3 (c.toNat - 48) 0 l).1, (digitsAt 3 (c.toNat - 48) 0 l).2.2) else some (.inr c.toNat, l) := rfl
inductive Lex : Bytes → List Tk → Bytes → Prop
  | nil (b : Bytes) : Lex b [] b
  | cons {b : Bytes} {k : Tk} {b' : Bytes} {L : List Tk} {c : Bytes} : lex1 b = some (k, b') → Lex b' L c → Lex b (k :: L) c
theorem Lex.append {b : Bytes} {L : List Tk} {c : Bytes} {M : List Tk} {d : Bytes} (h : Lex b L c) (g : Lex c M d) : Lex b (L ++ M) d := by
  induction h with
  | nil b => exact g
  | cons e _ ih => exact .cons e (ih g)
theorem Lex.one {b : Bytes} {k : Tk} {c : Bytes} (h : lex1 b = some (k, c)) : Lex b [k] c := .cons h (.nil _)
theorem lex1_len {b : Bytes} {k : Tk} {c : Bytes} (h : lex1 b = some (k, c)) : c.length < b.length := by
  cases b with
  | nil => cases h
  | cons d l =>
    rw [lex1_cons] at h
    by_cases h0 : d = 48
    · rw [if_pos h0] at h
      cases h
      exact Nat.lt_succ_self _
    · rw [if_neg h0] at h
      by_cases h1 : isDigit d = true
      · rw [if_pos h1] at h
        cases h
        exact Nat.lt_succ_of_le (digits_len _ _ _ _)
      · rw [if_neg h1] at h
        cases h
        exact Nat.lt_succ_self _
theorem Lex.len {b : Bytes} {L : List Tk} {c : Bytes} (h : Lex b L c) : c.length + L.length ≤ b.length := by
  induction h with
  | nil b => exact Nat.le_refl _
  | cons e _ ih =>
    have := lex1_len e
    rw [List.length_cons]
    omega
theorem Lex.det {b : Bytes} {L : List Tk} {c : Bytes} (h : Lex b L c) : ∀ {M : List Tk}, Lex b M c → L = M := by
  induction h with
  | nil b =>
    intro M g
    have := g.len
    cases M with
    | nil => rfl
    | cons k M => rw [List.length_cons] at this; omega
  | @cons b k b' L c e g ih =>
    intro M h2
    cases h2 with
    | nil _ =>
      have h1 := lex1_len e
      have h3 := g.len
      omega
    | cons e2 g2 =>
      rw [e] at e2
      cases e2
      rw [ih g2]
theorem digits_at : ∀ (n v p q : Nat) (b : Bytes), (digitsAt n v p b).1 = (digitsAt n v q b).1 ∧ (digitsAt n v p b).2.2 = (digitsAt n v q b).2.2
  | 0, v, p, q, b => ⟨rfl, rfl⟩
  | n + 1, v, p, q, [] => ⟨rfl, rfl⟩
  | n + 1, v, p, q, c :: l => by
    show (if isDigit c = true then digitsAt n (10 * v + (c.toNat - 48)) (p + 1) l else (v, p, c :: l)).1 = (if isDigit c = true then digitsAt n (10 * v + (c.toNat - 48)) (q + 1) l else (v, q, c :: l)).1 ∧
      (if isDigit c = true then digitsAt n (10 * v + (c.toNat - 48)) (p + 1) l else (v, p, c :: l)).2.2 = (if isDigit c = true then digitsAt n (10 * v + (c.toNat - 48)) (q + 1) l else (v, q, c :: l)).2.2
    by_cases h : isDigit c = true
    · rw [if_pos h, if_pos h]
      exact digits_at n _ _ _ l
    · rw [if_neg h, if_neg h]
      exact ⟨rfl, rfl⟩
theorem lex_sign {c : UInt8} {l : Bytes} (h : isDigit c = false) : lex1 (c :: l) = some (.inr c.toNat, l) := by
  rw [lex1_cons]
  have h0 : c ≠ 48 := fun e => by subst e; revert h; decide
  rw [if_neg h0, if_neg (by rw [h]; decide)]
def toks : Ex → List Tk
  | .num n => [.inl n]
  | .head k => [.inr (97 + k)]
  | .mark k => [.inr (65 + k)]
  | .rod e => .inr 91 :: (toks e ++ [.inr 93])
  | .par e => .inr 40 :: (toks e ++ [.inr 41])
  | .times a b => toks a ++ .inr 42 :: toks b
  | .plus a b => toks a ++ .inr 43 :: toks b
  | .minus a b => toks a ++ .inr 45 :: toks b
/-- in the order in which it is worked out -/
def post : Ex → List Tk
  | .num n => [.inl n]
  | .head k => [.inr (97 + k)]
  | .mark k => [.inr (65 + k)]
  | .rod e => post e ++ [.inr 91]
  | .par e => post e
  | .times a b => post a ++ (post b ++ [.inr 42])
  | .plus a b => post a ++ (post b ++ [.inr 43])
  | .minus a b => post a ++ (post b ++ [.inr 45])
structure LexG (f : Nat) : Prop where
  ex : ∀ d p b x q c, exAt f d p b = .ok (x, q, c) → Lex b (toks x) c
  sum : ∀ d x p b x' q c, sumAt f d x p b = .ok (x', q, c) → ∃ L, toks x' = toks x ++ L ∧ Lex b L c
  term : ∀ d p b x q c, termAt f d p b = .ok (x, q, c) → Lex b (toks x) c
  times : ∀ d x p b x' q c, timesAt f d x p b = .ok (x', q, c) → ∃ L, toks x' = toks x ++ L ∧ Lex b L c
  fac : ∀ d p b x q c, factorAt f d p b = .ok (x, q, c) → Lex b (toks x) c
theorem expect1 {k : UInt8} {q : Nat} {r : Bytes} {u : Unit} {q' : Nat} {r' : Bytes} (h : expect [k] q r = .ok (u, q', r')) : r = k :: r' := by
  cases r with
  | nil => cases h
  | cons d l =>
    have h' : (if k = d then Except.ok ((), q + 1, l) else .error q) = .ok (u, q', r') := h
    by_cases e : k = d
    · rw [if_pos e] at h'
      cases h'
      rw [e]
    · rw [if_neg e] at h'
      cases h'
theorem lexG_zero : LexG 0 where
  ex := fun _ _ _ _ _ _ h => by rw [exAt] at h; cases h
  sum := fun _ _ _ _ _ _ _ h => by rw [sumAt] at h; cases h
  term := fun _ _ _ _ _ _ h => by rw [termAt] at h; cases h
  times := fun _ _ _ _ _ _ _ h => by rw [timesAt] at h; cases h
  fac := fun _ _ _ _ _ _ h => by rw [factorAt] at h; cases h
theorem lexG_succ {f : Nat} (G : LexG f) : LexG (f + 1) where
  ex := fun d p b x q c h => by
    rw [exAt] at h
    cases e : termAt f d p b with
    | error k => rw [e] at h; cases h
    | ok z =>
      obtain ⟨y, q1, c1⟩ := z
      rw [e] at h
      obtain ⟨L, e1, l1⟩ := G.sum _ _ _ _ _ _ _ h
      rw [e1]
      exact (G.term _ _ _ _ _ _ e).append l1
  term := fun d p b x q c h => by
    rw [termAt] at h
    cases e : factorAt f d p b with
    | error k => rw [e] at h; cases h
    | ok z =>
      obtain ⟨y, q1, c1⟩ := z
      rw [e] at h
      obtain ⟨L, e1, l1⟩ := G.times _ _ _ _ _ _ _ h
      rw [e1]
      exact (G.fac _ _ _ _ _ _ e).append l1
  sum := fun d x p b x' q c h => by
    unfold sumAt at h
    split at h
    · rename_i l
      cases e : termAt f d (p + 1) l with
      | error k => rw [e] at h; cases h
      | ok z =>
        obtain ⟨y, q1, c1⟩ := z
        rw [e] at h
        obtain ⟨L, e1, l1⟩ := G.sum _ _ _ _ _ _ _ h
        refine ⟨.inr 43 :: (toks y ++ L), ?_, .cons (lex_sign (by decide)) ((G.term _ _ _ _ _ _ e).append l1)⟩
        rw [e1]
        simp [toks]
    · rename_i l
      cases e : termAt f d (p + 1) l with
      | error k => rw [e] at h; cases h
      | ok z =>
        obtain ⟨y, q1, c1⟩ := z
        rw [e] at h
        obtain ⟨L, e1, l1⟩ := G.sum _ _ _ _ _ _ _ h
        refine ⟨.inr 45 :: (toks y ++ L), ?_, .cons (lex_sign (by decide)) ((G.term _ _ _ _ _ _ e).append l1)⟩
        rw [e1]
        simp [toks]
    · cases h
      exact ⟨[], by simp, .nil _⟩
  times := fun d x p b x' q c h => by
    unfold timesAt at h
    split at h
    · rename_i l
      cases e : factorAt f d (p + 1) l with
      | error k => rw [e] at h; cases h
      | ok z =>
        obtain ⟨y, q1, c1⟩ := z
        rw [e] at h
        obtain ⟨L, e1, l1⟩ := G.times _ _ _ _ _ _ _ h
        refine ⟨.inr 42 :: (toks y ++ L), ?_, .cons (lex_sign (by decide)) ((G.fac _ _ _ _ _ _ e).append l1)⟩
        rw [e1]
        simp [toks]
    · cases h
      exact ⟨[], by simp, .nil _⟩
  fac := fun d p b x q c h => by
    cases b with
    | nil =>
      unfold factorAt at h
      cases h
    | cons k l =>
      unfold factorAt at h
      dsimp only at h
      by_cases h0 : k = 48
      · rw [if_pos h0] at h
        cases h
        refine .one ?_
        rw [lex1_cons, if_pos h0]
      · rw [if_neg h0] at h
        by_cases h1 : isDigit k = true
        · rw [if_pos h1] at h
          have h' := Prod.mk.inj (Except.ok.inj h)
          have e1 : (digitsAt 3 (k.toNat - 48) (p + 1) l).2.2 = c := congrArg Prod.snd h'.2
          rw [← h'.1, ← e1]
          refine .one ?_
          show lex1 (k :: l) = some (Sum.inl (digitsAt 3 (k.toNat - 48) (p + 1) l).1, _)
          rw [lex1_cons, if_neg h0, if_pos h1, (digits_at 3 _ (p + 1) 0 l).1, (digits_at 3 _ (p + 1) 0 l).2]
        · rw [if_neg h1] at h
          have hs : lex1 (k :: l) = some (.inr k.toNat, l) := lex_sign (by simpa using h1)
          by_cases h2 : 97 ≤ k.toNat ∧ k.toNat ≤ 104
          · rw [if_pos h2] at h
            cases h
            refine .one ?_
            rw [hs]
            congr 3
            omega
          · rw [if_neg h2] at h
            by_cases h3 : 65 ≤ k.toNat ∧ k.toNat ≤ 72
            · rw [if_pos h3] at h
              cases h
              refine .one ?_
              rw [hs]
              congr 3
              omega
            · rw [if_neg h3] at h
              by_cases h4 : k = 91 ∨ k = 40
              · rw [if_pos h4] at h
                by_cases h5 : OPEN ≤ d
                · rw [if_pos h5] at h
                  cases h
                · rw [if_neg h5] at h
                  cases e : exAt f (d + 1) (p + 1) l with
                  | error j => rw [e] at h; cases h
                  | ok z =>
                    obtain ⟨y, q1, c1⟩ := z
                    rw [e] at h
                    dsimp only at h
                    cases e2 : expect [if k = 91 then 93 else 41] q1 c1 with
                    | error j => rw [e2] at h; cases h
                    | ok z2 =>
                      obtain ⟨u, q2, c2⟩ := z2
                      rw [e2] at h
                      have ec := expect1 e2
                      have lx := G.ex _ _ _ _ _ _ e
                      rcases h4 with h4 | h4
                      · subst h4
                        cases h
                        refine .cons hs (lx.append ?_)
                        rw [ec]
                        exact .one (lex_sign (by decide))
                      · subst h4
                        cases h
                        refine .cons hs (lx.append ?_)
                        rw [ec]
                        exact .one (lex_sign (by decide))
              · rw [if_neg h4] at h
                cases h
theorem lexG : ∀ f, LexG f
  | 0 => lexG_zero
  | f + 1 => lexG_succ (lexG f)
theorem ex_lex {p : Nat} {b : Bytes} {x : Ex} {q : Nat} {c : Bytes} (h : exHere p b = .ok (x, q, c)) : Lex b (toks x) c := (lexG _).ex _ _ _ _ _ _ h

/-! ## Put in order -/
def flush (ss : List Nat) : List Nat → List Tk → List Nat × List Tk
  | [], o => ([], o)
  | k :: w, o => if k ∈ ss then flush ss w (o ++ [.inr k]) else (k :: w, o)
abbrev all3 : List Nat := [42, 43, 45]
def step1 (k : Tk) (w : List Nat) (o : List Tk) : Option (List Nat × List Tk) := match k with
  | .inl n => some (w, o ++ [.inl n])
  | .inr c => if c = 40 ∨ c = 91 then some (c :: w, o)
    else if c = 41 ∨ c = 93 then (match (flush all3 w o).1 with
      | [] => none
      | k :: r => some (r, if k = 91 then (flush all3 w o).2 ++ [.inr 91] else (flush all3 w o).2))
    else if c = 42 then some (42 :: (flush [42] w o).1, (flush [42] w o).2)
    else if c = 43 ∨ c = 45 then some (c :: (flush all3 w o).1, (flush all3 w o).2)
    else some (w, o ++ [.inr c])
def steps : List Tk → List Nat → List Tk → Option (List Nat × List Tk)
  | [], w, o => some (w, o)
  | k :: l, w, o => (step1 k w o).bind fun s => steps l s.1 s.2
theorem steps_append : ∀ (l m : List Tk) (w : List Nat) (o : List Tk), steps (l ++ m) w o = (steps l w o).bind fun s => steps m s.1 s.2
  | [], m, w, o => rfl
  | k :: l, m, w, o => by
    show (step1 k w o).bind (fun s => steps (l ++ m) s.1 s.2) = ((step1 k w o).bind fun s => steps l s.1 s.2).bind _
    cases step1 k w o with
    | none => rfl
    | some s => exact steps_append l m s.1 s.2
/-- the sign that waits last is none of these -/
def Off (ss : List Nat) (w : List Nat) : Prop := ∀ k r, w = k :: r → k ∉ ss
theorem flush_all : ∀ (ss m w : List Nat) (o : List Tk), (∀ k ∈ m, k ∈ ss) → Off ss w → flush ss (m ++ w) o = (w, o ++ m.map .inr)
  | ss, [], w, o, _, hw => by
    cases w with
    | nil => simp [flush]
    | cons k r =>
      show (if k ∈ ss then _ else _) = _
      rw [if_neg (hw k r rfl)]
      simp
  | ss, k :: m, w, o, hm, hw => by
    show (if k ∈ ss then flush ss (m ++ w) (o ++ [.inr k]) else _) = _
    rw [if_pos (hm k List.mem_cons_self), flush_all ss m w _ (fun j hj => hm j (List.mem_cons_of_mem _ hj)) hw]
    simp
theorem off_cons {ss : List Nat} {k : Nat} {w : List Nat} (h : k ∉ ss) : Off ss (k :: w) := fun j r e => by
  cases e
  exact h
theorem off_nil {ss : List Nat} : Off ss [] := fun j r e => nomatch e
def P2 (e : Ex) : Prop := ∀ w o, Off all3 w → ∃ m o', steps (toks e) w o = some (m ++ w, o') ∧ o' ++ m.map .inr = o ++ post e ∧ ∀ k ∈ m, k ∈ all3
def P1 (e : Ex) : Prop := ∀ w o, Off [42] w → ∃ m o', steps (toks e) w o = some (m ++ w, o') ∧ o' ++ m.map .inr = o ++ post e ∧ ∀ k ∈ m, k ∈ [42]
def P0 (e : Ex) : Prop := ∀ w o, steps (toks e) w o = some (w, o ++ post e)
theorem P0.p1 {e : Ex} (h : P0 e) : P1 e := fun w o _ => ⟨[], _, h w o, by simp, fun k hk => nomatch hk⟩
theorem off_sub {w : List Nat} (h : Off all3 w) : Off [42] w := fun k r e z => h k r e (by
  have := List.mem_singleton.mp z
  subst this
  decide)
theorem P1.p2 {e : Ex} (h : P1 e) : P2 e := fun w o hw => by
  obtain ⟨m, o', h1, h2, h3⟩ := h w o (off_sub hw)
  exact ⟨m, o', h1, h2, fun k hk => by
    have := List.mem_singleton.mp (h3 k hk)
    subst this
    decide⟩
theorem step_let {c : Nat} (h : (97 ≤ c ∧ c ≤ 104) ∨ (65 ≤ c ∧ c ≤ 72)) (w : List Nat) (o : List Tk) : step1 (.inr c) w o = some (w, o ++ [.inr c]) := by
  show (if c = 40 ∨ c = 91 then _ else if c = 41 ∨ c = 93 then _ else if c = 42 then _ else if c = 43 ∨ c = 45 then _ else _) = _
  rw [if_neg (by omega), if_neg (by omega), if_neg (by omega), if_neg (by omega)]
theorem sum_p2 {a b : Ex} (c : Nat) (hc : c = 43 ∨ c = 45) (ha : P2 a) (hb : P1 b) (w : List Nat) (o : List Tk) (hw : Off all3 w) :
    ∃ m o', steps (toks a ++ .inr c :: toks b) w o = some (m ++ w, o') ∧ o' ++ m.map .inr = o ++ (post a ++ (post b ++ [.inr c])) ∧ ∀ k ∈ m, k ∈ all3 := by
  obtain ⟨m, o1, h1, h2, h3⟩ := ha w o hw
  rw [steps_append, h1]
  have hs : step1 (.inr c) (m ++ w) o1 = some (c :: w, o ++ post a) := by
    show (if c = 40 ∨ c = 91 then _ else if c = 41 ∨ c = 93 then _ else if c = 42 then _ else if c = 43 ∨ c = 45 then _ else _) = _
    rw [if_neg (by omega), if_neg (by omega), if_neg (by omega), if_pos hc, flush_all _ _ _ _ h3 hw, h2]
  have hn : c ∉ [42] := fun z => by
    have := List.mem_singleton.mp z
    omega
  obtain ⟨m2, o2, g1, g2, g3⟩ := hb (c :: w) (o ++ post a) (off_cons hn)
  refine ⟨m2 ++ [c], o2, ?_, ?_, fun k hk => ?_⟩
  · show (step1 (.inr c) (m ++ w) o1).bind (fun s => steps (toks b) s.1 s.2) = _
    rw [hs]
    show steps (toks b) (c :: w) (o ++ post a) = _
    rw [g1]
    simp
  · rw [List.map_append, ← List.append_assoc, g2]
    simp
  · rcases List.mem_append.mp hk with hk | hk
    · have := List.mem_singleton.mp (g3 k hk)
      subst this
      decide
    · have := List.mem_singleton.mp hk
      subst this
      rcases hc with e | e <;> (subst e; decide)
theorem br_p0 {e : Ex} (a z : Nat) (ha : a = 40 ∨ a = 91) (hz : z = 41 ∨ z = 93) (he : P2 e) (w : List Nat) (o : List Tk) :
    steps (.inr a :: (toks e ++ [.inr z])) w o = some (w, o ++ (if a = 91 then post e ++ [.inr 91] else post e)) := by
  have h1 : step1 (.inr a) w o = some (a :: w, o) := by
    show (if a = 40 ∨ a = 91 then _ else _) = _
    rw [if_pos ha]
  have hn : a ∉ all3 := fun h => by
    rcases ha with e | e <;> (subst e; revert h; decide)
  obtain ⟨m, o1, h2, h3, h4⟩ := he (a :: w) o (off_cons hn)
  show (step1 (.inr a) w o).bind (fun s => steps (toks e ++ [.inr z]) s.1 s.2) = _
  rw [h1]
  show steps (toks e ++ [.inr z]) (a :: w) o = _
  rw [steps_append, h2]
  show (step1 (.inr z) (m ++ a :: w) o1).bind (fun s => some s) = _
  have hs : step1 (.inr z) (m ++ a :: w) o1 = some (w, if a = 91 then (o ++ post e) ++ [.inr 91] else o ++ post e) := by
    show (if z = 40 ∨ z = 91 then _ else if z = 41 ∨ z = 93 then _ else _) = _
    rw [if_neg (by omega), if_pos hz, flush_all _ _ _ _ h4 (off_cons hn), h3]
  rw [hs]
  by_cases h : a = 91
  · rw [if_pos h, if_pos h]
    simp
  · rw [if_neg h, if_neg h]
    rfl
theorem order : ∀ (e : Ex), e.ok = true → (e.level = 0 → P0 e) ∧ (e.level ≤ 1 → P1 e) ∧ P2 e
  | .num n, _ => by
    have h : P0 (.num n) := fun w o => rfl
    exact ⟨fun _ => h, fun _ => h.p1, h.p1.p2⟩
  | .head k, hk => by
    have hk8 : k < 8 := of_decide_eq_true hk
    have h : P0 (.head k) := fun w o => by
      show (step1 (.inr (97 + k)) w o).bind (fun s => some s) = _
      rw [step_let (by omega)]
      rfl
    exact ⟨fun _ => h, fun _ => h.p1, h.p1.p2⟩
  | .mark k, hk => by
    have hk8 : k < 8 := of_decide_eq_true hk
    have h : P0 (.mark k) := fun w o => by
      show (step1 (.inr (65 + k)) w o).bind (fun s => some s) = _
      rw [step_let (by omega)]
      rfl
    exact ⟨fun _ => h, fun _ => h.p1, h.p1.p2⟩
  | .rod e, hk => by
    have h : P0 (.rod e) := fun w o => by
      have := br_p0 91 93 (.inr rfl) (.inr rfl) (order e hk).2.2 w o
      rw [if_pos rfl] at this
      exact this
    exact ⟨fun _ => h, fun _ => h.p1, h.p1.p2⟩
  | .par e, hk => by
    have h : P0 (.par e) := fun w o => by
      have := br_p0 40 41 (.inl rfl) (.inl rfl) (order e hk).2.2 w o
      rw [if_neg (by decide)] at this
      exact this
    exact ⟨fun _ => h, fun _ => h.p1, h.p1.p2⟩
  | .times a b, hk => by
    have hk' : (a.ok && (b.ok && (decide (a.level ≤ 1) && decide (b.level = 0)))) = true := hk
    simp only [Bool.and_eq_true, decide_eq_true_eq] at hk'
    obtain ⟨k1, k2, k3, k4⟩ := hk'
    have h : P1 (.times a b) := fun w o hw => by
      obtain ⟨m, o1, h1, h2, h3⟩ := (order a k1).2.1 k3 w o hw
      have h0 := (order b k2).1 k4
      refine ⟨[42], o ++ (post a ++ post b), ?_, by simp [post], fun k hk => hk⟩
      show steps (toks a ++ .inr 42 :: toks b) w o = _
      rw [steps_append, h1]
      have hs : step1 (.inr 42) (m ++ w) o1 = some (42 :: w, o ++ post a) := by
        show some (42 :: (flush [42] (m ++ w) o1).1, (flush [42] (m ++ w) o1).2) = _
        rw [flush_all _ _ _ _ h3 hw, h2]
      show (step1 (.inr 42) (m ++ w) o1).bind (fun s => steps (toks b) s.1 s.2) = _
      rw [hs]
      show steps (toks b) (42 :: w) (o ++ post a) = _
      rw [h0]
      simp
    exact ⟨fun z => absurd (show (1 : Nat) = 0 from z) (by decide), fun _ => h, h.p2⟩
  | .plus a b, hk => by
    have hk' : (a.ok && (b.ok && decide (b.level ≤ 1))) = true := hk
    simp only [Bool.and_eq_true, decide_eq_true_eq] at hk'
    exact ⟨fun z => absurd (show (2 : Nat) = 0 from z) (by decide), fun z => absurd (show (2 : Nat) ≤ 1 from z) (by decide), fun w o hw => sum_p2 43 (.inl rfl) (order a hk'.1).2.2 ((order b hk'.2.1).2.1 hk'.2.2) w o hw⟩
  | .minus a b, hk => by
    have hk' : (a.ok && (b.ok && decide (b.level ≤ 1))) = true := hk
    simp only [Bool.and_eq_true, decide_eq_true_eq] at hk'
    exact ⟨fun z => absurd (show (2 : Nat) = 0 from z) (by decide), fun z => absurd (show (2 : Nat) ≤ 1 from z) (by decide), fun w o hw => sum_p2 45 (.inr rfl) (order a hk'.1).2.2 ((order b hk'.2.1).2.1 hk'.2.2) w o hw⟩
/-- all put in order -/
theorem order_all {e : Ex} (h : e.ok = true) : ∃ w o, steps (toks e) [] [] = some (w, o) ∧ flush all3 w o = ([], post e) := by
  obtain ⟨m, o, h1, h2, h3⟩ := (order e h).2.2 [] [] off_nil
  refine ⟨m ++ [], o, h1, ?_⟩
  rw [flush_all _ _ _ _ h3 off_nil, h2]
  rfl
end AbM

set_option linter.all false
namespace AbM
open Na

/-! ## Words -/
def strip {β : Type} (c : Nat) (ks : List (List Nat × β)) : List (List Nat × β) := ks.filterMap fun x => match x.1 with
  | d :: r => if c = d then some (r, x.2) else none
  | [] => none
def done? {β : Type} (ks : List (List Nat × β)) : Option (List Nat × β) := ks.find? fun x => x.1.isEmpty
def ends {β : Type} (o : Option (List Nat × β)) (p : Nat) (b : Bytes) : Except Nat (β × (Nat × Bytes)) := match o with
  | some x => .ok (x.2, p, b)
  | none => .error p
def bindX {α γ : Type} (x : Except Nat (α × (Nat × Bytes))) (g : α → Nat → Bytes → Except Nat γ) : Except Nat γ := match x with
  | .error k => .error k
  | .ok (a, q, c) => g a q c
/-- of some words the longest that stands here -/
def munch {β : Type} : Bytes → List (List Nat × β) → Nat → Except Nat (β × (Nat × Bytes))
  | [], ks, p => ends (done? ks) p []
  | c :: l, ks, p => if (strip c.toNat ks).isEmpty = true then ends (done? ks) p (c :: l) else munch l (strip c.toNat ks) (p + 1)
/-- the words that begin so: what is left of them -/
def tag (acc : List Nat) (ws : List (List Nat)) : List (List Nat × List Nat) := ws.filterMap fun w => if acc <+: w then some (w.drop acc.length, w) else none
def heads {β : Type} (ks : List (List Nat × β)) : List Nat := ks.filterMap fun x => x.1.head?

theorem strip_cons {β : Type} (c : Nat) (x : List Nat × β) (ks : List (List Nat × β)) : strip c (x :: ks) = (match x.1 with
  | d :: r => if c = d then [(r, x.2)] else []
  | [] => []) ++ strip c ks := by
  unfold strip
  rw [List.filterMap_cons]
  obtain ⟨w, a⟩ := x
  cases w with
  | nil => rfl
  | cons d r =>
    by_cases h : c = d
    · simp [h]
    · simp [h]
theorem drop_len_append {acc r : List Nat} {c : Nat} {w : List Nat} (e : w = acc ++ c :: r) : w.drop acc.length = c :: r ∧ w.drop (acc ++ [c]).length = r := by
  subst e
  constructor
  · simp
  · rw [show acc ++ c :: r = (acc ++ [c]) ++ r by simp, List.drop_left]
theorem tag_strip (acc : List Nat) (c : Nat) : ∀ ws : List (List Nat), strip c (tag acc ws) = tag (acc ++ [c]) ws
  | [] => rfl
  | w :: ws => by
    have ih := tag_strip acc c ws
    by_cases h : acc <+: w
    · obtain ⟨r, e⟩ := h
      have e1 : tag acc (w :: ws) = (w.drop acc.length, w) :: tag acc ws := by
        unfold tag
        rw [List.filterMap_cons, if_pos ⟨r, e⟩]
      rw [e1, strip_cons, ih]
      have ed : w.drop acc.length = r := by rw [← e, List.drop_left]
      dsimp only
      rw [ed]
      cases r with
      | nil =>
        have hn : ¬ (acc ++ [c]) <+: w := fun ⟨s, es⟩ => by
          rw [← es] at e
          have := congrArg List.length e
          simp at this
        show [] ++ tag (acc ++ [c]) ws = _
        unfold tag
        rw [List.filterMap_cons, if_neg hn]
        rfl
      | cons d r =>
        by_cases hc : c = d
        · subst hc
          have hp : (acc ++ [c]) <+: w := ⟨r, by rw [← e]; simp⟩
          show (if c = c then [(r, w)] else []) ++ _ = _
          rw [if_pos rfl]
          unfold tag
          rw [List.filterMap_cons, if_pos hp, (drop_len_append e.symm).2]
          rfl
        · have hn : ¬ (acc ++ [c]) <+: w := fun ⟨s, es⟩ => by
            rw [← es] at e
            have e2 : acc ++ (d :: r) = acc ++ (c :: s) := by rw [e]; simp
            have := List.append_cancel_left e2
            exact hc (List.cons.inj this).1.symm
          show (if c = d then [(r, w)] else []) ++ _ = _
          rw [if_neg hc]
          unfold tag
          rw [List.filterMap_cons, if_neg hn]
          rfl
    · have hn : ¬ (acc ++ [c]) <+: w := fun ⟨s, es⟩ => h ⟨c :: s, by rw [← es]; simp⟩
      have e1 : tag acc (w :: ws) = tag acc ws := by
        unfold tag
        rw [List.filterMap_cons, if_neg h]
      have e2 : tag (acc ++ [c]) (w :: ws) = tag (acc ++ [c]) ws := by
        unfold tag
        rw [List.filterMap_cons, if_neg hn]
      rw [e1, e2, ih]
theorem heads_iff {β : Type} (c : Nat) : ∀ ks : List (List Nat × β), c ∈ heads ks ↔ (strip c ks).isEmpty = false
  | [] => by simp [heads, strip]
  | (w, a) :: ks => by
    have ih := heads_iff c ks
    rw [strip_cons]
    cases w with
    | nil =>
      have e : heads (([], a) :: ks) = heads ks := rfl
      rw [e]
      exact ih
    | cons d r =>
      have e : heads ((d :: r, a) :: ks) = d :: heads ks := rfl
      rw [e]
      by_cases h : c = d
      · subst h
        simp
      · simp [h, ih]
theorem done_tag (acc : List Nat) : ∀ ws : List (List Nat), (acc ∈ ws → ∃ x, done? (tag acc ws) = some x ∧ x.2 = acc) ∧ (acc ∉ ws → done? (tag acc ws) = none)
  | [] => ⟨fun h => absurd h List.not_mem_nil, fun _ => rfl⟩
  | w :: ws => by
    obtain ⟨i1, i2⟩ := done_tag acc ws
    by_cases h : acc <+: w
    · have e1 : tag acc (w :: ws) = (w.drop acc.length, w) :: tag acc ws := by
        unfold tag
        rw [List.filterMap_cons, if_pos h]
      obtain ⟨r, e⟩ := h
      have ed : w.drop acc.length = r := by rw [← e, List.drop_left]
      rw [e1, ed]
      cases r with
      | nil =>
        have ew : w = acc := by rw [← e]; simp
        refine ⟨fun _ => ⟨([], w), rfl, ew⟩, fun hn => absurd (by rw [ew]; exact List.mem_cons_self) hn⟩
      | cons d r =>
        have hne : acc ≠ w := fun z => by
          rw [← z] at e
          have := congrArg List.length e
          simp at this
        have ef : done? ((d :: r, w) :: tag acc ws) = done? (tag acc ws) := by
          unfold done?
          rw [List.find?_cons]
          rfl
        rw [ef]
        exact ⟨fun hm => (List.mem_cons.mp hm).elim (fun z => absurd z hne) i1, fun hn => i2 fun z => hn (List.mem_cons_of_mem _ z)⟩
    · have e1 : tag acc (w :: ws) = tag acc ws := by
        unfold tag
        rw [List.filterMap_cons, if_neg h]
      have hne : acc ≠ w := fun z => h (by rw [← z]; exact List.prefix_refl acc)
      rw [e1]
      exact ⟨fun hm => (List.mem_cons.mp hm).elim (fun z => absurd z hne) i1, fun hn => i2 fun z => hn (List.mem_cons_of_mem _ z)⟩
/-- what a walk over the text does: a sign that goes on .. -/
theorem munch_go {ws : List (List Nat)} {acc : List Nat} {c : UInt8} {l : Bytes} {p : Nat} (h : c.toNat ∈ heads (tag acc ws)) : munch (c :: l) (tag acc ws) p = munch l (tag (acc ++ [c.toNat]) ws) (p + 1) := by
  rw [munch, if_neg (by rw [(heads_iff _ _).mp h]; exact Bool.false_ne_true), tag_strip]
/-- .. or none -/
theorem munch_stop {ws : List (List Nat)} {acc : List Nat} {b : Bytes} {p : Nat} (h : ∀ c l, b = c :: l → c.toNat ∉ heads (tag acc ws)) : munch b (tag acc ws) p = if acc ∈ ws then .ok (acc, p, b) else .error p := by
  have fin : ends (done? (tag acc ws)) p b = if acc ∈ ws then Except.ok (acc, p, b) else .error p := by
    by_cases hm : acc ∈ ws
    · obtain ⟨x, e, e2⟩ := (done_tag acc ws).1 hm
      rw [e, if_pos hm]
      show Except.ok (x.2, p, b) = _
      rw [e2]
    · rw [(done_tag acc ws).2 hm, if_neg hm]
      rfl
  cases b with
  | nil =>
    rw [munch]
    exact fin
  | cons c l =>
    have h1 := h c l rfl
    have h2 : (strip c.toNat (tag acc ws)).isEmpty = true := by
      cases e : (strip c.toNat (tag acc ws)).isEmpty with
      | true => rfl
      | false => exact absurd ((heads_iff _ _).mpr e) h1
    rw [munch, if_pos h2]
    exact fin
theorem tag_nil : ∀ ws : List (List Nat), tag [] ws = ws.map fun w => (w, w)
  | [] => rfl
  | w :: ws => by
    have ih := tag_nil ws
    show ((w :: ws).filterMap fun w => if [] <+: w then some (w.drop 0, w) else none) = _
    rw [List.filterMap_cons, if_pos (List.nil_prefix), List.map_cons, ← ih]
    rfl
theorem munch_len {β : Type} : ∀ (b : Bytes) (ks : List (List Nat × β)) (p : Nat) (w : β) (q : Nat) (c : Bytes), munch b ks p = .ok (w, q, c) → c.length ≤ b.length ∧ (done? ks = none → c.length < b.length)
  | [], ks, p, w, q, c, h => by
    rw [munch] at h
    cases e : done? ks with
    | none => rw [e] at h; cases h
    | some x =>
      rw [e] at h
      cases h
      exact ⟨Nat.le_refl _, fun z => by cases z⟩
  | d :: l, ks, p, w, q, c, h => by
    rw [munch] at h
    by_cases hs : (strip d.toNat ks).isEmpty = true
    · rw [if_pos hs] at h
      cases e : done? ks with
      | none => rw [e] at h; cases h
      | some x =>
        rw [e] at h
        cases h
        exact ⟨Nat.le_refl _, fun z => by cases z⟩
    · rw [if_neg hs] at h
      have := (munch_len l _ _ _ _ _ h).1
      rw [List.length_cons]
      exact ⟨by omega, fun _ => by omega⟩
/-- one word alone -/
theorem munch_one {β : Type} (w : β) : ∀ (s b : Bytes) (p : Nat), munch b [(s.map UInt8.toNat, w)] p = bindX (expect s p b) fun _ q c => .ok (w, q, c)
  | [], [], p => rfl
  | [], c :: l, p => rfl
  | k :: s, [], p => rfl
  | k :: s, c :: l, p => by
    rw [munch]
    have e1 : strip c.toNat [((k :: s).map UInt8.toNat, w)] = if c.toNat = k.toNat then [(s.map UInt8.toNat, w)] else [] := by
      rw [strip_cons]
      show (if c.toNat = k.toNat then [(s.map UInt8.toNat, w)] else []) ++ [] = _
      rw [List.append_nil]
    rw [e1]
    show _ = bindX (if k = c then expect s (p + 1) l else .error p) fun _ q c => .ok (w, q, c)
    by_cases h : k = c
    · subst h
      rw [if_pos rfl, if_pos rfl]
      exact munch_one w s l (p + 1)
    · have h2 : ¬ c.toNat = k.toNat := fun z => h (UInt8.toNat_inj.mp z.symm)
      rw [if_neg h2, if_neg h]
      rfl
/-- none begins another -/
def PF {α : Type} (ks : List (Bytes × α)) : Prop := ks.Pairwise fun x y => ¬ x.1 <+: y.1 ∧ ¬ y.1 <+: x.1
theorem pf_single {α : Type} {x : Bytes × α} (hx : x.1 = []) : ∀ ks : List (Bytes × α), PF ks → x ∈ ks → ks = [x]
  | y :: r, h, hm => by
    have h' := List.pairwise_cons.mp h
    rcases List.mem_cons.mp hm with e | e
    · subst e
      cases r with
      | nil => rfl
      | cons z r => exact absurd (by rw [hx]; exact List.nil_prefix) (h'.1 z List.mem_cons_self).1
    · exact absurd (by rw [hx]; exact List.nil_prefix) (h'.1 x e).2
/-- the spec's step over some words -/
def stepW {α : Type} (c : UInt8) (ks : List (Bytes × α)) : List (Bytes × α) := ks.filterMap fun (x : Bytes × α) => match x.1 with
  | d :: r => if c = d then some (r, x.2) else none
  | [] => none
theorem stepW_cons {α : Type} (c : UInt8) (x : Bytes × α) (ks : List (Bytes × α)) : stepW c (x :: ks) = (match x.1 with
  | d :: r => if c = d then [(r, x.2)] else []
  | [] => []) ++ stepW c ks := by
  unfold stepW
  rw [List.filterMap_cons]
  obtain ⟨w, a⟩ := x
  cases w with
  | nil => rfl
  | cons d r =>
    by_cases h : c = d
    · simp [h]
    · simp [h]
theorem mem_stepW {α : Type} {c : UInt8} {ks : List (Bytes × α)} {y : Bytes × α} (h : y ∈ stepW c ks) : (c :: y.1, y.2) ∈ ks := by
  unfold stepW at h
  obtain ⟨x, hx, e⟩ := List.mem_filterMap.mp h
  obtain ⟨w, a⟩ := x
  cases w with
  | nil => cases e
  | cons d r =>
    by_cases hc : c = d
    · subst hc
      have e' : (if c = c then some (r, a) else none) = some y := e
      rw [if_pos rfl] at e'
      cases e'
      exact hx
    · have e' : (if c = d then some (r, a) else none) = some y := e
      rw [if_neg hc] at e'
      cases e'
theorem pf_step {α : Type} (c : UInt8) : ∀ ks : List (Bytes × α), PF ks → PF (stepW c ks)
  | [], _ => List.Pairwise.nil
  | x :: ks, h => by
    have h' := List.pairwise_cons.mp h
    have ih := pf_step c ks h'.2
    rw [stepW_cons]
    obtain ⟨w, a⟩ := x
    cases w with
    | nil => exact ih
    | cons d r =>
      by_cases hc : c = d
      · subst hc
        show PF ((if c = c then [(r, a)] else []) ++ stepW c ks)
        rw [if_pos rfl]
        refine List.pairwise_cons.mpr ⟨fun y hy => ?_, ih⟩
        have q := h'.1 _ (mem_stepW hy)
        exact ⟨fun z => q.1 ((List.prefix_cons_inj c).mpr z), fun z => q.2 ((List.prefix_cons_inj c).mpr z)⟩
      · show PF ((if c = d then [(r, a)] else []) ++ stepW c ks)
        rw [if_neg hc]
        exact ih
theorem oneOf_succ {α : Type} (f : Nat) (ks : List (Bytes × α)) (p : Nat) (b : Bytes) : oneOf (f + 1) ks p b = match ks.find? (fun (x : Bytes × α) => x.1.isEmpty) with
    | some x => .ok (x.2, p, b)
    | none => match b with
      | [] => .error p
      | c :: l => if (stepW c ks).isEmpty = true then .error p else oneOf f (stepW c ks) (p + 1) l := rfl
section
variable {α β : Type} (sfx : α → Bytes) (word : α → β)
def asks (ks : List (Bytes × α)) : List (List Nat × β) := ks.map fun x => ((x.1 ++ sfx x.2).map UInt8.toNat, word x.2)
theorem strip_asks (c : UInt8) : ∀ ks : List (Bytes × α), (∀ x ∈ ks, x.1 ≠ []) → strip c.toNat (asks sfx word ks) = asks sfx word (stepW c ks)
  | [], _ => rfl
  | (w, a) :: ks, h => by
    have ih := strip_asks c ks fun x hx => h x (List.mem_cons_of_mem _ hx)
    cases w with
    | nil => exact absurd rfl (h _ List.mem_cons_self)
    | cons d r =>
      have e1 : asks sfx word ((d :: r, a) :: ks) = (d.toNat :: (r ++ sfx a).map UInt8.toNat, word a) :: asks sfx word ks := rfl
      rw [e1, strip_cons, stepW_cons, ih]
      by_cases hc : c = d
      · subst hc
        show (if c.toNat = c.toNat then [((r ++ sfx a).map UInt8.toNat, word a)] else []) ++ _ = asks sfx word ((if c = c then [(r, a)] else []) ++ _)
        rw [if_pos rfl, if_pos rfl]
        rfl
      · have hc2 : ¬ c.toNat = d.toNat := fun z => hc (UInt8.toNat_inj.mp z)
        show (if c.toNat = d.toNat then [((r ++ sfx a).map UInt8.toNat, word a)] else []) ++ _ = asks sfx word ((if c = d then [(r, a)] else []) ++ _)
        rw [if_neg hc2, if_neg hc]
        rfl
theorem find_none {ks : List (Bytes × α)} (h : ks.find? (fun (x : Bytes × α) => x.1.isEmpty) = none) : ∀ x ∈ ks, x.1 ≠ [] := fun x hx e => by
  have := List.find?_eq_none.mp h x hx
  rw [e] at this
  exact this rfl
theorem done_perm {ks ks' : List (List Nat × β)} (hp : ks'.Perm ks) (h : ∀ x ∈ ks, x.1 ≠ []) : done? ks' = none := by
  unfold done?
  rw [List.find?_eq_none]
  intro x hx
  have := h x (hp.mem_iff.mp hx)
  cases e : x.1 with
  | nil => exact absurd e this
  | cons d r => exact Bool.false_ne_true
theorem asks_ne {ks : List (Bytes × α)} (h : ∀ x ∈ ks, x.1 ≠ []) : ∀ y ∈ asks sfx word ks, y.1 ≠ [] := fun y hy => by
  obtain ⟨x, hx, e⟩ := List.mem_map.mp hy
  subst e
  intro z
  have z' : (x.1 ++ sfx x.2).map UInt8.toNat = [] := z
  exact h x hx (List.append_eq_nil_iff.mp (List.map_eq_nil_iff.mp z')).1
theorem munch_oneOf : ∀ (f : Nat) (ks : List (Bytes × α)) (ks' : List (List Nat × β)) (p : Nat) (b : Bytes), ks'.Perm (asks sfx word ks) → PF ks → (∀ x ∈ ks, x.1.length < f) →
    munch b ks' p = bindX (oneOf f ks p b) fun a q c => munch c [((sfx a).map UInt8.toNat, word a)] q
  | 0, ks, ks', p, b, hp, _, hl => by
    have e : ks = [] := by
      cases ks with
      | nil => rfl
      | cons x r => exact absurd (hl x List.mem_cons_self) (Nat.not_lt_zero _)
    subst e
    have e' : ks' = [] := List.perm_nil.mp hp
    subst e'
    cases b <;> rfl
  | f + 1, ks, ks', p, b, hp, hpf, hl => by
    rw [oneOf_succ]
    cases hf : ks.find? (fun (x : Bytes × α) => x.1.isEmpty) with
    | some x =>
      have hx := List.mem_of_find?_eq_some hf
      have he : x.1 = [] := by
        have := List.find?_some hf
        exact List.isEmpty_iff.mp this
      have e := pf_single he ks hpf hx
      subst e
      have e2 : ks' = asks sfx word [x] := List.perm_singleton.mp hp
      rw [e2]
      show munch b [((x.1 ++ sfx x.2).map UInt8.toNat, word x.2)] p = munch b [((sfx x.2).map UInt8.toNat, word x.2)] p
      rw [he]
      rfl
    | none =>
      have hne := find_none hf
      have hd : done? ks' = none := done_perm hp (asks_ne sfx word hne)
      cases b with
      | nil =>
        rw [munch, hd]
        rfl
      | cons c l =>
        have hs : (strip c.toNat ks').Perm (asks sfx word (stepW c ks)) := by
          rw [← strip_asks sfx word c ks hne]
          exact hp.filterMap _
        show munch (c :: l) ks' p = bindX (if (stepW c ks).isEmpty = true then .error p else oneOf f (stepW c ks) (p + 1) l) fun a q c => munch c [((sfx a).map UInt8.toNat, word a)] q
        rw [munch]
        by_cases he : (stepW c ks).isEmpty = true
        · have e0 : stepW c ks = [] := List.isEmpty_iff.mp he
          rw [e0] at hs
          have e1 : strip c.toNat ks' = [] := List.perm_nil.mp hs
          rw [if_pos he, e1, hd]
          rfl
        · have e1 : ¬ (strip c.toNat ks').isEmpty = true := fun z => by
            have z0 : strip c.toNat ks' = [] := List.isEmpty_iff.mp z
            rw [z0] at hs
            have z1 := List.perm_nil.mp hs.symm
            cases e2 : stepW c ks with
            | nil => exact he (by rw [e2]; rfl)
            | cons y r =>
              rw [e2] at z1
              cases z1
          rw [if_neg he, if_neg e1]
          exact munch_oneOf f _ _ _ _ hs (pf_step c ks hpf) fun y hy => by
            have := hl _ (mem_stepW hy)
            simp only [List.length_cons] at this
            omega
end
end AbM

set_option linter.all false
namespace AbM
open Na

abbrev wAdd : List Nat := [97, 100, 100, 32]
abbrev wTake : List Nat := [116, 97, 107, 101, 32]
abbrev wSet : List Nat := [115, 101, 116, 32]
abbrev wStop : List Nat := [115, 116, 111, 112, 10]
abbrev wFail : List Nat := [102, 97, 105, 108, 10]
abbrev wIf : List Nat := [105, 102, 32]
abbrev wWhile : List Nat := [119, 104, 105, 108, 101, 32]
abbrev wEnd : List Nat := [101, 110, 100, 10]
abbrev wElse : List Nat := [101, 108, 115, 101, 10]
abbrev wAt : List Nat := [32, 97, 116, 32]
abbrev wAnd : List Nat := [32, 97, 110, 100, 32]
abbrev wLf : List Nat := [10]
abbrev wCmps : List (List Nat) := [[61], [60], [62], [60, 61], [62, 61], [60, 62]]

/-- the words with which a line may begin, o being open -/
def lineWords (o : List Nat) : List (List Nat) :=
  ([wAdd, wTake, wSet, wStop, wFail] ++ (if o.length < 16 then [wIf, wWhile] else [])) ++ (if o.isEmpty = true then [] else wEnd :: (if o.head? = some 1 then [wElse] else []))
def sfx : Kw → Bytes
  | .halt_ => [10]
  | .fail => [10]
  | .else_ => [10]
  | .end_ => [10]
  | _ => []
def word : Kw → List Nat
  | .add => wAdd
  | .take => wTake
  | .set => wSet
  | .if_ => wIf
  | .else_ => wElse
  | .end_ => wEnd
  | .while_ => wWhile
  | .halt_ => wStop
  | .fail => wFail
def kBase : List (Bytes × Kw) := [(ascii "add ", .add), (ascii "take ", .take), (ascii "set ", .set), (ascii "stop", .halt_), (ascii "fail", .fail)]
def kIf : List (Bytes × Kw) := [(ascii "if ", .if_), (ascii "while ", .while_)]
def kElse : List (Bytes × Kw) := [(ascii "else", .else_)]
def kEnd : List (Bytes × Kw) := [(ascii "end", .end_)]
theorem words_eq (o : List Nat) : words_ o = kBase ++ ((if o.length < OPEN then kIf else []) ++ ((if o.head? = some 1 then kElse else []) ++ if o.isEmpty = true then [] else kEnd)) := rfl
theorem asks_append {α β : Type} (s : α → Bytes) (w : α → β) (a b : List (Bytes × α)) : asks s w (a ++ b) = asks s w a ++ asks s w b := List.map_append
def allW : List (Bytes × Kw) := kBase ++ (kIf ++ (kElse ++ kEnd))
theorem words_sub (o : List Nat) : (words_ o).Sublist allW := by
  rw [words_eq]
  refine (List.Sublist.refl _).append (List.Sublist.append ?_ (List.Sublist.append ?_ ?_))
  · split
    · exact List.Sublist.refl _
    · exact List.nil_sublist _
  · split
    · exact List.Sublist.refl _
    · exact List.nil_sublist _
  · split
    · exact List.nil_sublist _
    · exact List.Sublist.refl _
theorem allW_pf : PF allW := by
  have h : (allW.map (·.1)).Pairwise (fun x y => ¬ x <+: y ∧ ¬ y <+: x) := by decide +kernel
  exact List.pairwise_map.mp h
theorem words_pf (o : List Nat) : PF (words_ o) := List.Pairwise.sublist (words_sub o) allW_pf
theorem words_short (o : List Nat) : ∀ x ∈ words_ o, x.1.length < 8 := fun x hx => by
  have h : ∀ y ∈ allW.map (·.1), y.length < 8 := by decide +kernel
  exact h x.1 (List.mem_map.mpr ⟨x, (words_sub o).mem hx, rfl⟩)
theorem words_perm (o : List Nat) : (tag [] (lineWords o)).Perm (asks sfx word (words_ o)) := by
  rw [tag_nil, words_eq, asks_append, asks_append, asks_append]
  unfold lineWords
  rw [List.map_append, List.map_append, List.append_assoc]
  have e1 : ([wAdd, wTake, wSet, wStop, wFail] : List (List Nat)).map (fun w => (w, w)) = asks sfx word kBase := by decide +kernel
  have e2 : (if o.length < 16 then [wIf, wWhile] else []).map (fun w => (w, w)) = asks sfx word (if o.length < OPEN then kIf else []) := by
    show _ = asks sfx word (if o.length < 16 then kIf else [])
    split
    · decide +kernel
    · rfl
  rw [e1, e2]
  refine List.Perm.append_left _ (List.Perm.append_left _ ?_)
  cases o with
  | nil => exact List.Perm.refl _
  | cons k r =>
    have e3 : (if (k :: r).isEmpty = true then [] else wEnd :: (if (k :: r).head? = some 1 then [wElse] else [])) = wEnd :: (if some k = some 1 then [wElse] else []) := rfl
    have e4 : (if (k :: r).isEmpty = true then [] else kEnd) = kEnd := rfl
    rw [e3, e4]
    show List.Perm _ (asks sfx word (if some k = some 1 then kElse else []) ++ asks sfx word kEnd)
    by_cases h : some k = some 1
    · rw [if_pos h, if_pos h]
      have e5 : ([wEnd, wElse] : List (List Nat)).map (fun w => (w, w)) = asks sfx word kEnd ++ asks sfx word kElse := by decide +kernel
      rw [e5]
      exact List.perm_append_comm
    · rw [if_neg h, if_neg h]
      have e5 : ([wEnd] : List (List Nat)).map (fun w => (w, w)) = asks sfx word kEnd := by decide +kernel
      rw [e5]
      exact List.Perm.refl _

/-! ## Lines -/
theorem bindX_error {α γ : Type} (k : Nat) (g : α → Nat → Bytes → Except Nat γ) : bindX (.error k) g = .error k := rfl
theorem bindX_ok {α γ : Type} (a : α) (q : Nat) (c : Bytes) (g : α → Nat → Bytes → Except Nat γ) : bindX (.ok (a, q, c)) g = g a q c := rfl
theorem bindX_assoc {α β γ : Type} (x : Except Nat (α × (Nat × Bytes))) (g : α → Nat → Bytes → Except Nat (β × (Nat × Bytes))) (h : β → Nat → Bytes → Except Nat γ) : bindX (bindX x g) h = bindX x fun a q c => bindX (g a q c) h := by
  cases x with
  | error k => rfl
  | ok z => rfl
theorem bindX_congr {α γ : Type} {x : Except Nat (α × (Nat × Bytes))} {g h : α → Nat → Bytes → Except Nat γ} (e : ∀ a q c, x = .ok (a, q, c) → g a q c = h a q c) : bindX x g = bindX x h := by
  cases x with
  | error k => rfl
  | ok z => exact e z.1 z.2.1 z.2.2 rfl
theorem bind_eq {α γ : Type} (x : Except Nat (α × (Nat × Bytes))) (g : (α × (Nat × Bytes)) → Except Nat γ) : (x >>= g) = bindX x fun a q c => g (a, q, c) := by
  cases x with
  | error k => rfl
  | ok z => rfl
abbrev lf (p : Nat) (b : Bytes) : Except Nat (Unit × (Nat × Bytes)) := expect [10] p b
def headP (p : Nat) (b : Bytes) : Except Nat (Unit × (Nat × Bytes)) := bindX (headAt p b) fun _ q c => .ok ((), q, c)
/-- add, take: behind the word -/
def atM (g : Ex → Ex → Line) (o : List Nat) (q : Nat) (c : Bytes) : Except Nat ((Line × List Nat) × (Nat × Bytes)) :=
  bindX (exHere q c) fun x q c => bindX (expect (ascii " at ") q c) fun _ q c => bindX (exHere q c) fun y q c => bindX (lf q c) fun _ q c => .ok ((g x y, o), q, c)
def setM (o : List Nat) (q : Nat) (c : Bytes) : Except Nat ((Line × List Nat) × (Nat × Bytes)) :=
  bindX (headAt q c) fun k q c => bindX (expect [32] q c) fun _ q c => bindX (exHere q c) fun x q c => bindX (lf q c) fun _ q c => .ok ((.set k x, o), q, c)
/-- tests with the LF behind them -/
def tstF (f p : Nat) (b : Bytes) : Except Nat (List Test × (Nat × Bytes)) := bindX (testsAt f p b) fun x q c => bindX (lf q c) fun _ q c => .ok (x, q, c)
def tstM (p : Nat) (b : Bytes) : Except Nat (List Test × (Nat × Bytes)) := tstF (b.length + 1) p b
/-- a line with its LF: the line, what is open behind it -/
def lineP (o : List Nat) (p : Nat) (b : Bytes) : Except Nat ((Line × List Nat) × (Nat × Bytes)) := bindX (lineAt o p b) fun x q c => bindX (lf q c) fun _ q c => .ok ((x, openBehind o x), q, c)
/-- behind the word -/
def contW (o : List Nat) (w : List Nat) (q : Nat) (c : Bytes) : Except Nat ((Line × List Nat) × (Nat × Bytes)) :=
  if w = wAdd then atM .add o q c
  else if w = wTake then atM .take o q c
  else if w = wSet then setM o q c
  else if w = wIf then bindX (tstM q c) fun x q c => .ok ((.if_ x, 1 :: o), q, c)
  else if w = wWhile then bindX (tstM q c) fun x q c => .ok ((.while_ x, 0 :: o), q, c)
  else if w = wElse then .ok ((.else_, 2 :: o.drop 1), q, c)
  else if w = wEnd then .ok ((.end_, o.drop 1), q, c)
  else if w = wStop then .ok ((.halt_, o), q, c)
  else .ok ((.fail, o), q, c)
theorem lineP_eq (o : List Nat) (p : Nat) (b : Bytes) : lineP o p b = bindX (munch b (tag [] (lineWords o)) p) (contW o) := by
  rw [munch_oneOf sfx word 8 (words_ o) _ p b (words_perm o) (words_pf o) (words_short o), bindX_assoc]
  have e0 : lineP o p b = bindX (oneOf 8 (words_ o) p b) fun a q c => bindX (munch c [((sfx a).map UInt8.toNat, word a)] q) (contW o) := by
    unfold lineP lineAt
    rw [bind_eq, bindX_assoc]
    refine bindX_congr fun a q c _ => ?_
    rw [munch_one, bindX_assoc]
    cases a with
    | add =>
      show bindX (exHere q c >>= _) _ = atM .add o q c
      simp only [bind_eq, bindX_assoc]
      rfl
    | take =>
      show bindX (exHere q c >>= _) _ = atM .take o q c
      simp only [bind_eq, bindX_assoc]
      rfl
    | set =>
      show bindX (headAt q c >>= _) _ = setM o q c
      simp only [bind_eq, bindX_assoc]
      rfl
    | if_ =>
      show bindX (testsAt _ q c >>= _) _ = bindX (tstM q c) _
      unfold tstM tstF
      simp only [bind_eq, bindX_assoc]
      rfl
    | while_ =>
      show bindX (testsAt _ q c >>= _) _ = bindX (tstM q c) _
      unfold tstM tstF
      simp only [bind_eq, bindX_assoc]
      rfl
    | else_ => rfl
    | end_ => rfl
    | halt_ => rfl
    | fail => rfl
  exact e0
/-- tests: one, then what stands behind it -/
def tst1 (p : Nat) (b : Bytes) : Except Nat (Test × (Nat × Bytes)) := bindX (exHere p b) fun x q c => bindX (cmpAt q c) fun k q c => bindX (exHere q c) fun y q c => .ok (⟨x, k, y⟩, q, c)
theorem testAt_eq (p : Nat) (b : Bytes) {γ : Type} (g : Test → Nat → Bytes → Except Nat γ) : bindX (testAt p b) g = bindX (tst1 p b) g := by
  unfold testAt tst1
  simp only [bind_eq, bindX_assoc]
  refine bindX_congr fun _ q c _ => bindX_congr fun _ q c _ => bindX_congr fun _ q c _ => ?_
  rfl
theorem tstF_succ (f p : Nat) (b : Bytes) : tstF (f + 1) p b = bindX (tst1 p b) fun t q c => if c.head? = some 32 then bindX (expect (ascii " and ") q c) fun _ q c => bindX (tstF f q c) fun l q c => .ok (t :: l, q, c) else bindX (lf q c) fun _ q c => .ok ([t], q, c) := by
  unfold tstF
  rw [testsAt, bind_eq, bindX_assoc, testAt_eq]
  refine bindX_congr fun t q c _ => ?_
  by_cases h : c.head? = some 32
  · rw [if_pos h]
    simp only [h, if_true, bind_eq, bindX_assoc]
    rfl
  · rw [if_neg h]
    simp only [h, if_false]
    rfl
theorem munch_behind (q : Nat) (c : Bytes) : munch c (tag [] [wAnd, wLf]) q = if c.head? = some 32 then bindX (expect (ascii " and ") q c) fun _ q c => .ok (wAnd, q, c) else bindX (lf q c) fun _ q c => .ok (wLf, q, c) := by
  cases c with
  | nil => rfl
  | cons d l =>
    rw [munch, tag_strip]
    by_cases h : d = 32
    · subst h
      have hh : (32 :: l : Bytes).head? = some 32 := rfl
      rw [if_pos hh]
      have e : tag ([] ++ [(32 : UInt8).toNat]) [wAnd, wLf] = [(([97, 110, 100, 32] : Bytes).map UInt8.toNat, wAnd)] := by decide +kernel
      rw [e, munch_one]
      rfl
    · have h1 : ¬ (d :: l).head? = some 32 := fun z => h (Option.some.inj z)
      rw [if_neg h1]
      by_cases h2 : d = 10
      · subst h2
        have e : tag ([] ++ [(10 : UInt8).toNat]) [wAnd, wLf] = [(([] : Bytes).map UInt8.toNat, wLf)] := by decide +kernel
        rw [e, munch_one]
        rfl
      · have n1 : ¬ d.toNat = 32 := fun z => h (UInt8.toNat_inj.mp z)
        have n2 : ¬ d.toNat = 10 := fun z => h2 (UInt8.toNat_inj.mp z)
        have e : tag ([] ++ [d.toNat]) [wAnd, wLf] = [] := by
          rw [← tag_strip, tag_nil]
          simp [strip, n1, n2]
        have e2 : lf q (d :: l) = .error q := by
          show (if (10 : UInt8) = d then _ else _) = _
          rw [if_neg (fun z => h2 z.symm)]
        rw [e, e2]
        rfl
theorem munch_end {β : Type} (w : β) (b : Bytes) (p : Nat) : munch b [([], w)] p = .ok (w, p, b) := by
  have := munch_one w [] b p
  exact this
/-- how a comparison is written -/
def cmpW : Cmp → List Nat
  | .eq => [61]
  | .lt => [60]
  | .gt => [62]
  | .le => [60, 61]
  | .ge => [62, 61]
  | .ne => [60, 62]
theorem munch_cmp (q : Nat) (c : Bytes) : (∀ k, cmpAt q c = .error k → munch c (tag [] wCmps) q = .error k) ∧ ∀ x q' c', cmpAt q c = .ok (x, q', c') → c'.length < c.length ∧ munch c (tag [] wCmps) q = .ok (cmpW x, q', c') := by
  cases c with
  | nil => exact ⟨fun k h => (by cases h; rfl), fun x q' c' h => nomatch h⟩
  | cons d l =>
    have step : munch (d :: l) (tag [] wCmps) q = if (tag ([] ++ [d.toNat]) wCmps).isEmpty = true then ends (done? (tag [] wCmps)) q (d :: l) else munch l (tag ([] ++ [d.toNat]) wCmps) (q + 1) := by
      rw [munch, tag_strip]
    by_cases h1 : d = 61
    · subst h1
      have e : tag ([] ++ [(61 : UInt8).toNat]) wCmps = [([], [61])] := by decide +kernel
      rw [step, e]
      have e2 : cmpAt q (61 :: l) = .ok (.eq, q + 1, l) := rfl
      rw [e2]
      refine ⟨fun k h => (by cases h), fun x q' c' h => ?_⟩
      cases h
      exact ⟨Nat.lt_succ_self _, munch_end _ _ _⟩
    · by_cases h2 : d = 60
      · subst h2
        have e : tag ([] ++ [(60 : UInt8).toNat]) wCmps = [([], [60]), ([61], [60, 61]), ([62], [60, 62])] := by decide +kernel
        rw [step, e]
        show (∀ k, cmpAt q (60 :: l) = .error k → munch l [([], [60]), ([61], [60, 61]), ([62], [60, 62])] (q + 1) = .error k) ∧ ∀ x q' c', cmpAt q (60 :: l) = .ok (x, q', c') → c'.length < (60 :: l).length ∧ munch l [([], [60]), ([61], [60, 61]), ([62], [60, 62])] (q + 1) = .ok (cmpW x, q', c')
        cases l with
        | nil =>
          have e2 : cmpAt q [60] = .ok (.lt, q + 1, []) := rfl
          rw [e2]
          refine ⟨fun k h => (by cases h), fun x q' c' h => ?_⟩
          cases h
          exact ⟨Nat.lt_succ_self _, rfl⟩
        | cons f r =>
          by_cases g1 : f = 61
          · subst g1
            have e2 : cmpAt q (60 :: 61 :: r) = .ok (.le, q + 2, r) := rfl
            rw [e2]
            refine ⟨fun k h => (by cases h), fun x q' c' h => ?_⟩
            cases h
            exact ⟨by simp only [List.length_cons]; omega, munch_end _ _ _⟩
          · by_cases g2 : f = 62
            · subst g2
              have e2 : cmpAt q (60 :: 62 :: r) = .ok (.ne, q + 2, r) := rfl
              rw [e2]
              refine ⟨fun k h => (by cases h), fun x q' c' h => ?_⟩
              cases h
              exact ⟨by simp only [List.length_cons]; omega, munch_end _ _ _⟩
            · have e2 : cmpAt q (60 :: f :: r) = .ok (.lt, q + 1, f :: r) := by
                unfold cmpAt
                split
                · rename_i hh; cases (List.cons.inj hh).1
                · rename_i hh; exact absurd (List.cons.inj (List.cons.inj hh).2).1 g1
                · rename_i hh; exact absurd (List.cons.inj (List.cons.inj hh).2).1 g2
                · rename_i hh; cases (List.cons.inj hh).2; rfl
                · rename_i hh; cases (List.cons.inj hh).1
                · rename_i hh; cases (List.cons.inj hh).1
                · rename_i hh _ _; exact absurd rfl (hh (f :: r))
              have n1 : ¬ f.toNat = 61 := fun z => g1 (UInt8.toNat_inj.mp z)
              have n2 : ¬ f.toNat = 62 := fun z => g2 (UInt8.toNat_inj.mp z)
              have e3 : munch (f :: r) [([], [60]), ([61], [60, 61]), ([62], [60, 62])] (q + 1) = .ok ([60], q + 1, f :: r) := by
                rw [munch, if_pos (by simp [strip, n1, n2])]
                rfl
              rw [e2, e3]
              refine ⟨fun k h => (by cases h), fun x q' c' h => ?_⟩
              cases h
              exact ⟨Nat.lt_succ_self _, rfl⟩
      · by_cases h3 : d = 62
        · subst h3
          have e : tag ([] ++ [(62 : UInt8).toNat]) wCmps = [([], [62]), ([61], [62, 61])] := by decide +kernel
          rw [step, e]
          show (∀ k, cmpAt q (62 :: l) = .error k → munch l [([], [62]), ([61], [62, 61])] (q + 1) = .error k) ∧ ∀ x q' c', cmpAt q (62 :: l) = .ok (x, q', c') → c'.length < (62 :: l).length ∧ munch l [([], [62]), ([61], [62, 61])] (q + 1) = .ok (cmpW x, q', c')
          cases l with
          | nil =>
            have e2 : cmpAt q [62] = .ok (.gt, q + 1, []) := rfl
            rw [e2]
            refine ⟨fun k h => (by cases h), fun x q' c' h => ?_⟩
            cases h
            exact ⟨Nat.lt_succ_self _, rfl⟩
          | cons f r =>
            by_cases g1 : f = 61
            · subst g1
              have e2 : cmpAt q (62 :: 61 :: r) = .ok (.ge, q + 2, r) := rfl
              rw [e2]
              refine ⟨fun k h => (by cases h), fun x q' c' h => ?_⟩
              cases h
              exact ⟨by simp only [List.length_cons]; omega, munch_end _ _ _⟩
            · have e2 : cmpAt q (62 :: f :: r) = .ok (.gt, q + 1, f :: r) := by
                unfold cmpAt
                split
                · rename_i hh; cases (List.cons.inj hh).1
                · rename_i hh; cases (List.cons.inj hh).1
                · rename_i hh; cases (List.cons.inj hh).1
                · rename_i hh; cases (List.cons.inj hh).1
                · rename_i hh; exact absurd (List.cons.inj (List.cons.inj hh).2).1 g1
                · rename_i hh; cases (List.cons.inj hh).2; rfl
                · rename_i hh; exact absurd rfl (hh (f :: r))
              have n1 : ¬ f.toNat = 61 := fun z => g1 (UInt8.toNat_inj.mp z)
              have e3 : munch (f :: r) [([], [62]), ([61], [62, 61])] (q + 1) = .ok ([62], q + 1, f :: r) := by
                rw [munch, if_pos (by simp [strip, n1])]
                rfl
              rw [e2, e3]
              refine ⟨fun k h => (by cases h), fun x q' c' h => ?_⟩
              cases h
              exact ⟨Nat.lt_succ_self _, rfl⟩
        · have e2 : cmpAt q (d :: l) = .error q := by
            unfold cmpAt
            split
            · rename_i hh; exact absurd (List.cons.inj hh).1 h1
            · rename_i hh; exact absurd (List.cons.inj hh).1 h2
            · rename_i hh; exact absurd (List.cons.inj hh).1 h2
            · rename_i hh; exact absurd (List.cons.inj hh).1 h2
            · rename_i hh; exact absurd (List.cons.inj hh).1 h3
            · rename_i hh; exact absurd (List.cons.inj hh).1 h3
            · rfl
          have n1 : ¬ d.toNat = 61 := fun z => h1 (UInt8.toNat_inj.mp z)
          have n2 : ¬ d.toNat = 60 := fun z => h2 (UInt8.toNat_inj.mp z)
          have n3 : ¬ d.toNat = 62 := fun z => h3 (UInt8.toNat_inj.mp z)
          have e3 : munch (d :: l) (tag [] wCmps) q = .error q := by
            rw [munch, if_pos (by rw [tag_nil]; simp [strip, n1, n2, n3])]
            rfl
          rw [e2, e3]
          exact ⟨fun k h => (by cases h; rfl), fun x q' c' h => nomatch h⟩

/-! ## Lengths, lines one behind another -/
theorem bindX_inv {α γ : Type} {x : Except Nat (α × (Nat × Bytes))} {g : α → Nat → Bytes → Except Nat γ} {r : γ} (h : bindX x g = .ok r) : ∃ a q c, x = .ok (a, q, c) ∧ g a q c = .ok r := by
  cases x with
  | error k => cases h
  | ok z => exact ⟨z.1, z.2.1, z.2.2, rfl, h⟩
theorem head_len {q : Nat} {c : Bytes} {k : Nat} {q' : Nat} {c' : Bytes} (h : headAt q c = .ok (k, q', c')) : c'.length < c.length := by
  cases c with
  | nil => cases h
  | cons d l =>
    have h' : (if 97 ≤ d.toNat ∧ d.toNat ≤ 104 then Except.ok (d.toNat - 97, q + 1, l) else .error q) = Except.ok (k, q', c') := h
    by_cases e : 97 ≤ d.toNat ∧ d.toNat ≤ 104
    · rw [if_pos e] at h'
      cases h'
      exact Nat.lt_succ_self _
    · rw [if_neg e] at h'
      cases h'
theorem tst1_len {p : Nat} {b : Bytes} {u : Test} {q : Nat} {c : Bytes} (h : tst1 p b = .ok (u, q, c)) : c.length < b.length := by
  obtain ⟨a, q1, c1, h1, h⟩ := bindX_inv h
  obtain ⟨a2, q2, c2, h2, h⟩ := bindX_inv h
  obtain ⟨a3, q3, c3, h3, h⟩ := bindX_inv h
  have l1 := (ex_len h1).1
  have l2 := ((munch_cmp q1 c1).2 _ _ _ h2).1
  have l3 := (ex_len h3).1
  cases h
  omega
theorem tstF_len : ∀ (f p : Nat) (b : Bytes) (u : List Test) (q : Nat) (c : Bytes), tstF f p b = .ok (u, q, c) → c.length < b.length
  | 0, p, b, u, q, c, h => by cases h
  | f + 1, p, b, u, q, c, h => by
    rw [tstF_succ] at h
    obtain ⟨a, q1, c1, h1, h⟩ := bindX_inv h
    have l1 := tst1_len h1
    by_cases e : c1.head? = some 32
    · rw [if_pos e] at h
      obtain ⟨a2, q2, c2, h2, h⟩ := bindX_inv h
      have l2 := expect_len _ _ _ _ _ _ h2
      obtain ⟨a3, q3, c3, h3, h⟩ := bindX_inv h
      have l3 := tstF_len f _ _ _ _ _ h3
      cases h
      omega
    · rw [if_neg e] at h
      obtain ⟨a2, q2, c2, h2, h⟩ := bindX_inv h
      have l2 := expect_len _ _ _ _ _ _ h2
      cases h
      omega
theorem atM_len {g : Ex → Ex → Line} {o : List Nat} {q : Nat} {c : Bytes} {r : Line × List Nat} {q' : Nat} {c' : Bytes} (h : atM g o q c = .ok (r, q', c')) : c'.length ≤ c.length := by
  obtain ⟨a, q1, c1, h1, h⟩ := bindX_inv h
  obtain ⟨a2, q2, c2, h2, h⟩ := bindX_inv h
  obtain ⟨a3, q3, c3, h3, h⟩ := bindX_inv h
  obtain ⟨a4, q4, c4, h4, h⟩ := bindX_inv h
  have l1 := (ex_len h1).1
  have l2 := expect_len _ _ _ _ _ _ h2
  have l3 := (ex_len h3).1
  have l4 := expect_len _ _ _ _ _ _ h4
  cases h
  omega
theorem contW_len {o w : List Nat} {q : Nat} {c : Bytes} {r : Line × List Nat} {q' : Nat} {c' : Bytes} (h : contW o w q c = .ok (r, q', c')) : c'.length ≤ c.length := by
  unfold contW at h
  by_cases e1 : w = wAdd
  · rw [if_pos e1] at h
    exact atM_len h
  rw [if_neg e1] at h
  by_cases e1 : w = wTake
  · rw [if_pos e1] at h
    exact atM_len h
  rw [if_neg e1] at h
  by_cases e2 : w = wSet
  · rw [if_pos e2] at h
    obtain ⟨a, q1, c1, h1, h⟩ := bindX_inv h
    obtain ⟨a2, q2, c2, h2, h⟩ := bindX_inv h
    obtain ⟨a3, q3, c3, h3, h⟩ := bindX_inv h
    obtain ⟨a4, q4, c4, h4, h⟩ := bindX_inv h
    have l1 := head_len h1
    have l2 := expect_len _ _ _ _ _ _ h2
    have l3 := (ex_len h3).1
    have l4 := expect_len _ _ _ _ _ _ h4
    cases h
    omega
  rw [if_neg e2] at h
  by_cases e3 : w = wIf
  · rw [if_pos e3] at h
    obtain ⟨a, q1, c1, h1, h⟩ := bindX_inv h
    have l1 := tstF_len _ _ _ _ _ _ h1
    cases h
    omega
  rw [if_neg e3] at h
  by_cases e3 : w = wWhile
  · rw [if_pos e3] at h
    obtain ⟨a, q1, c1, h1, h⟩ := bindX_inv h
    have l1 := tstF_len _ _ _ _ _ _ h1
    cases h
    omega
  rw [if_neg e3] at h
  by_cases e4 : w = wElse
  · rw [if_pos e4] at h
    cases h
    exact Nat.le_refl _
  rw [if_neg e4] at h
  by_cases e5 : w = wEnd
  · rw [if_pos e5] at h
    cases h
    exact Nat.le_refl _
  rw [if_neg e5] at h
  by_cases e6 : w = wStop
  · rw [if_pos e6] at h
    cases h
    exact Nat.le_refl _
  rw [if_neg e6] at h
  cases h
  exact Nat.le_refl _
theorem words_done (o : List Nat) : done? (tag [] (lineWords o)) = none := by
  refine done_perm (words_perm o) (asks_ne sfx word fun x hx e => ?_)
  have h : ∀ y ∈ allW.map (·.1), y ≠ [] := by decide +kernel
  exact h x.1 (List.mem_map.mpr ⟨x, (words_sub o).mem hx, rfl⟩) e
theorem lineP_len {o : List Nat} {p : Nat} {b : Bytes} {o' : Line × List Nat} {q : Nat} {c : Bytes} (h : lineP o p b = .ok (o', q, c)) : c.length < b.length := by
  rw [lineP_eq] at h
  obtain ⟨w, q1, c1, h1, h⟩ := bindX_inv h
  have l1 := (munch_len _ _ _ _ _ _ h1).2 (words_done o)
  have l2 := contW_len h
  omega
theorem lineP_nil (o : List Nat) (p : Nat) : lineP o p [] = .error p := by
  rw [lineP_eq, munch, words_done]
  rfl
def consX (x : Line) (r : Except Nat Method) : Except Nat Method := match r with
  | .error k => .error k
  | .ok l => .ok (x :: l)
def preX (a : Method) (r : Except Nat Method) : Except Nat Method := match r with
  | .error k => .error k
  | .ok l => .ok (a ++ l)
theorem preX_cons (a : Method) (x : Line) (r : Except Nat Method) : preX a (consX x r) = preX (a ++ [x]) r := by
  cases r with
  | error k => rfl
  | ok l => exact congrArg Except.ok (by simp)
theorem lins_end (f : Nat) (p : Nat) : linesAt (f + 1) [] p [] = .ok [] := rfl
theorem lins_step (f : Nat) (o : List Nat) (p : Nat) (b : Bytes) (h : ¬ (b = [] ∧ o = [])) : linesAt (f + 1) o p b = bindX (lineP o p b) fun x q c => consX x.1 (linesAt f x.2 q c) := by
  cases b with
  | nil =>
    rw [lineP_nil]
    have ho : ¬ o.isEmpty = true := fun z => h ⟨rfl, List.isEmpty_iff.mp z⟩
    show (if o.isEmpty = true then _ else _) = _
    rw [if_neg ho]
    rfl
  | cons d l =>
    show (if (d :: l).isEmpty = true then _ else (lineAt o p (d :: l) >>= _)) = _
    rw [if_neg (show ¬ (d :: l).isEmpty = true from Bool.false_ne_true), bind_eq]
    unfold lineP
    rw [bindX_assoc]
    refine bindX_congr fun x q c _ => ?_
    rw [bind_eq, bindX_assoc]
    refine bindX_congr fun _ q c _ => ?_
    show (linesAt f (openBehind o x) q c >>= _) = consX x (linesAt f (openBehind o x) q c)
    cases linesAt f (openBehind o x) q c <;> rfl
/-- what the specification answers -/
def answer (t : Bytes) : List Int := if 4096 < t.length then [-6] else match readMethod t with
  | .error k => [-5, 11, (k : Int)]
  | .ok l => [(l.length : Int)]
def asInts (t : Bytes) : List Int := t.map fun c => ((c.toNat : Nat) : Int)
theorem ints_of {ns : List Int} (h : ∀ x ∈ ns, 0 ≤ x ∧ x ≤ 255) : asInts (ns.map fun n => UInt8.ofNat n.toNat) = ns := by
  unfold asInts
  rw [List.map_map]
  have : ∀ l : List Int, (∀ x ∈ l, 0 ≤ x ∧ x ≤ 255) → l.map ((fun c : UInt8 => ((c.toNat : Nat) : Int)) ∘ fun n => UInt8.ofNat n.toNat) = l := by
    intro l
    induction l with
    | nil => intro _; rfl
    | cons x r ih =>
      intro h
      rw [List.map_cons, ih fun y hy => h y (List.mem_cons_of_mem _ hy)]
      obtain ⟨h1, h2⟩ := h x List.mem_cons_self
      have e : (((UInt8.ofNat x.toNat).toNat : Nat) : Int) = x := by
        rw [UInt8.toNat_ofNat']
        have : x.toNat < 256 := by omega
        rw [Nat.mod_eq_of_lt (by simpa using this)]
        omega
      show (((UInt8.ofNat x.toNat).toNat : Nat) : Int) :: r = x :: r
      rw [e]
  exact this ns h
theorem spec_eq {ns : List Int} (h : ∀ x ∈ ns, 0 ≤ x ∧ x ≤ 255) : PyYqacda.method ns = answer (ns.map fun n => UInt8.ofNat n.toNat) := by
  have hb : NeutralIO.bytes ns = true := List.all_eq_true.mpr fun x hx => by
    obtain ⟨h1, h2⟩ := h x hx
    rw [decide_eq_true h1, decide_eq_true h2]
    rfl
  have e : MvNeutral.callOf [[1], ns] = some (.method (ns.map fun n => UInt8.ofNat n.toNat)) := by
    show (MvNeutral.bytesOf ns).map _ = _
    unfold MvNeutral.bytesOf
    rw [if_pos hb]
    rfl
  unfold PyYqacda.method MvNeutral.step
  rw [e]
  generalize (ns.map fun n => UInt8.ofNat n.toNat) = t
  show MvNeutral.told (if Mv.LONGEST < t.length then .refused 6 else Mv.withMethod t fun p => .number p.length) = answer t
  unfold answer
  by_cases h4 : 4096 < t.length
  · rw [if_pos h4, if_pos (show Mv.LONGEST < t.length from h4)]
    rfl
  · rw [if_neg h4, if_neg (show ¬ Mv.LONGEST < t.length from h4)]
    unfold Mv.withMethod
    cases readMethod t <;> rfl
end AbM

set_option linter.all false
namespace AbM
open Na
def digs : Nat → Nat → Bytes → Nat × Bytes
  | 0, p, b => (p, b)
  | n + 1, p, c :: l => if isDigit c = true then digs n (p + 1) l else (p, c :: l)
  | n + 1, p, [] => (p, [])
theorem digs_stop {n p : Nat} {b : Bytes} (h : n = 0 ∨ ∀ c l, b = c :: l → isDigit c = false) : digs n p b = (p, b) := by
  cases n with
  | zero => rfl
  | succ n =>
    cases b with
    | nil => rfl
    | cons c l =>
      have hc : ¬ isDigit c = true := by
        rcases h with h | h
        · cases h
        · rw [h c l rfl]
          exact Bool.false_ne_true
      show (if isDigit c = true then _ else _) = _
      rw [if_neg hc]
theorem digs_go {n p : Nat} {c : UInt8} {l : Bytes} (h : isDigit c = true) : digs (n + 1) p (c :: l) = digs n (p + 1) l := if_pos h
theorem scan_digs : ∀ (n p : Nat) (b : Bytes) (cs : List UInt8), scan b (.d n) cs p = aft cs (digs n p b).1 (digs n p b).2
  | 0, p, b, cs => rfl
  | n + 1, p, [], cs => rfl
  | n + 1, p, c :: l, cs => by
    by_cases h : isDigit c = true
    · rw [digs_go h, ← scan_digs n (p + 1) l cs]
      show (if isDigit c = true ∧ 0 < n + 1 then _ else _) = _
      rw [if_pos ⟨h, Nat.succ_pos n⟩]
      rfl
    · have e : digs (n + 1) p (c :: l) = (p, c :: l) := if_neg h
      rw [e]
      show (if isDigit c = true ∧ 0 < n + 1 then _ else _) = (if isDigit c = true ∧ 0 < 0 then _ else _)
      rw [if_neg (fun x : isDigit c = true ∧ 0 < n + 1 => h x.1), if_neg (fun x : isDigit c = true ∧ 0 < 0 => h x.1)]
def numM (p : Nat) : Bytes → Except Nat (Tk × (Nat × Bytes))
  | [] => .error p
  | c :: l => if c = 48 then .ok (.inl 0, p + 1, l) else if isDigit c = true then .ok (.inl (digitsAt 3 (c.toNat - 48) 0 l).1, digs 3 (p + 1) l) else if isLet c = true then .ok (.inr c.toNat, p + 1, l) else .error p
theorem numM_cons (p : Nat) (c : UInt8) (l : Bytes) : numM p (c :: l) = if c = 48 then .ok (.inl 0, p + 1, l) else if isDigit c = true then .ok (.inl (digitsAt 3 (c.toNat - 48) 0 l).1, digs 3 (p + 1) l) else if isLet c = true then .ok (.inr c.toNat, p + 1, l) else .error p := rfl
theorem digs_digits : ∀ (n v p q : Nat) (b : Bytes), (digs n p b).2 = (digitsAt n v q b).2.2
  | 0, v, p, q, b => rfl
  | n + 1, v, p, q, [] => rfl
  | n + 1, v, p, q, c :: l => by
    show (if isDigit c = true then digs n (p + 1) l else (p, c :: l)).2 = (if isDigit c = true then digitsAt n (10 * v + (c.toNat - 48)) (q + 1) l else (v, q, c :: l)).2.2
    by_cases h : isDigit c = true
    · rw [if_pos h, if_pos h]
      exact digs_digits n _ _ _ l
    · rw [if_neg h, if_neg h]
theorem let_not {c : UInt8} (h : ¬ isDigit c = true) : isDigit c = false := by simpa using h
theorem numM_lex {p : Nat} {b : Bytes} {k : Tk} {q : Nat} {c : Bytes} (h : numM p b = .ok (k, q, c)) : lex1 b = some (k, c) := by
  cases b with
  | nil => cases h
  | cons d l =>
    rw [numM_cons] at h
    rw [lex1_cons]
    by_cases h0 : d = 48
    · rw [if_pos h0] at h ⊢
      cases h
      rfl
    · rw [if_neg h0] at h ⊢
      by_cases h1 : isDigit d = true
      · rw [if_pos h1] at h ⊢
        have h' := Prod.mk.inj (Except.ok.inj h)
        have e2 : (digs 3 (p + 1) l).2 = c := congrArg Prod.snd h'.2
        rw [← h'.1, ← e2, digs_digits 3 (d.toNat - 48) (p + 1) 0 l]
      · rw [if_neg h1] at h ⊢
        by_cases h2 : isLet d = true
        · rw [if_pos h2] at h
          cases h
          rfl
        · rw [if_neg h2] at h
          cases h
theorem br_not {c : UInt8} (h : isBr c = true) : c ≠ 48 ∧ isDigit c = false ∧ isLet c = false := by
  unfold isBr at h
  rcases (Bool.or_eq_true _ _).mp h with e | e <;> (rw [beq_iff_eq] at e; subst e; decide)
theorem scan_num {p : Nat} {b : Bytes} {cs : List UInt8} (h : cs.length < 16 → ∀ c l, b = c :: l → isBr c = false) : scan b .f cs p = bindX (numM p b) fun _ q c => aft cs q c := by
  cases b with
  | nil => rfl
  | cons c l =>
    have sc : scan (c :: l) .f cs p = if isBr c = true then (if cs.length < 16 then scan l .f (closer c :: cs) (p + 1) else .error p)
      else if c = 48 then scan l (.d 0) cs (p + 1)
      else if isDigit c = true then scan l (.d 3) cs (p + 1)
      else if isLet c = true then scan l (.d 0) cs (p + 1)
      else .error p := rfl
    rw [sc]
    by_cases hb : isBr c = true
    · have hl : ¬ cs.length < 16 := fun z => by
        rw [h z c l rfl] at hb
        cases hb
      obtain ⟨b1, b2, b3⟩ := br_not hb
      rw [if_pos hb, if_neg hl]
      rw [numM_cons]
      rw [if_neg b1, if_neg (by rw [b2]; exact Bool.false_ne_true), if_neg (by rw [b3]; exact Bool.false_ne_true)]
      rfl
    · rw [if_neg hb]
      rw [numM_cons]
      by_cases h1 : c = 48
      · rw [if_pos h1, if_pos h1]
        rfl
      · rw [if_neg h1, if_neg h1]
        by_cases h2 : isDigit c = true
        · rw [if_pos h2, if_pos h2]
          exact scan_digs 3 (p + 1) l cs
        · rw [if_neg h2, if_neg h2]
          by_cases h3 : isLet c = true
          · rw [if_pos h3, if_pos h3]
            rfl
          · rw [if_neg h3, if_neg h3]
            rfl
theorem scan_open {p : Nat} {c : UInt8} {l : Bytes} {cs : List UInt8} (h : isBr c = true) (hl : cs.length < 16) : scan (c :: l) .f cs p = scan l .f (closer c :: cs) (p + 1) := by
  show (if isBr c = true then (if cs.length < 16 then _ else _) else _) = _
  rw [if_pos h, if_pos hl]
theorem aft_shut {p : Nat} {k : UInt8} {l : Bytes} {r : List UInt8} : aft (k :: r) p (k :: l) = aft r (p + 1) l := by
  have hd : ¬ (isDigit k = true ∧ 0 < 0) := fun x => absurd x.2 (Nat.lt_irrefl _)
  show (if isDigit k = true ∧ 0 < 0 then _ else if k = k then _ else _) = _
  rw [if_neg hd, if_pos rfl]
theorem aft_stuck {p : Nat} {b : Bytes} {k : UInt8} {r : List UInt8} (h : ∀ c l, b = c :: l → c ≠ k ∧ isOp c = false) : aft (k :: r) p b = .error p := by
  cases b with
  | nil => rfl
  | cons c l =>
    obtain ⟨h1, h2⟩ := h c l rfl
    have hd : ¬ (isDigit c = true ∧ 0 < 0) := fun x => absurd x.2 (Nat.lt_irrefl _)
    show (if isDigit c = true ∧ 0 < 0 then _ else if c = k then _ else if isOp c = true then _ else _) = _
    rw [if_neg hd, if_neg h1, if_neg (by rw [h2]; exact Bool.false_ne_true)]
theorem aft_out {p : Nat} {b : Bytes} (h : ∀ c l, b = c :: l → isOp c = false) : aft [] p b = .ok (p, b) := by
  cases b with
  | nil => rfl
  | cons c l =>
    have h2 := h c l rfl
    have hd : ¬ (isDigit c = true ∧ 0 < 0) := fun x => absurd x.2 (Nat.lt_irrefl _)
    show (if isDigit c = true ∧ 0 < 0 then _ else if isOp c = true then _ else _) = _
    rw [if_neg hd, if_neg (by rw [h2]; exact Bool.false_ne_true)]
theorem ex_of_error {p k : Nat} {b : Bytes} (h : scan b .f [] p = .error k) : exHere p b = .error k := by
  cases e : exHere p b with
  | error j =>
    rw [scan_error e] at h
    cases h
    rfl
  | ok z =>
    obtain ⟨x, q, c⟩ := z
    rw [scan_ok e] at h
    cases h
theorem ex_of_ok {p q : Nat} {b c : Bytes} (h : scan b .f [] p = .ok (q, c)) : ∃ x, exHere p b = .ok (x, q, c) := by
  cases e : exHere p b with
  | error j =>
    rw [scan_error e] at h
    cases h
  | ok z =>
    obtain ⟨x, q', c'⟩ := z
    rw [scan_ok e] at h
    cases h
    exact ⟨x, rfl⟩
theorem isOp_iff (c : UInt8) : isOp c = true ↔ c.toNat ∈ [43, 45, 42] := by
  have h1 : c = 43 ↔ c.toNat = 43 := ⟨fun z => by rw [z]; rfl, fun z => UInt8.toNat_inj.mp z⟩
  have h2 : c = 45 ↔ c.toNat = 45 := ⟨fun z => by rw [z]; rfl, fun z => UInt8.toNat_inj.mp z⟩
  have h3 : c = 42 ↔ c.toNat = 42 := ⟨fun z => by rw [z]; rfl, fun z => UInt8.toNat_inj.mp z⟩
  unfold isOp
  simp only [Bool.or_eq_true, beq_iff_eq, List.mem_cons, List.not_mem_nil, or_false, h1, h2, h3]
theorem isBr_iff (c : UInt8) : isBr c = true ↔ c.toNat ∈ [91, 40] := by
  have h1 : c = 91 ↔ c.toNat = 91 := ⟨fun z => by rw [z]; rfl, fun z => UInt8.toNat_inj.mp z⟩
  have h2 : c = 40 ↔ c.toNat = 40 := ⟨fun z => by rw [z]; rfl, fun z => UInt8.toNat_inj.mp z⟩
  unfold isBr
  simp only [Bool.or_eq_true, beq_iff_eq, List.mem_cons, List.not_mem_nil, or_false, h1, h2]
abbrev nDig : List Nat := [48, 49, 50, 51, 52, 53, 54, 55, 56, 57]
abbrev nHead : List Nat := [97, 98, 99, 100, 101, 102, 103, 104]
abbrev nMark : List Nat := [65, 66, 67, 68, 69, 70, 71, 72]
theorem isDigit_iff (c : UInt8) : isDigit c = true ↔ c.toNat ∈ nDig := by
  unfold isDigit
  simp only [Bool.and_eq_true, decide_eq_true_eq, List.mem_cons, List.not_mem_nil, or_false]
  omega
theorem isLet_iff (c : UInt8) : isLet c = true ↔ c.toNat ∈ nHead ++ nMark := by
  unfold isLet
  simp only [Bool.and_eq_true, Bool.or_eq_true, decide_eq_true_eq, List.mem_append, List.mem_cons, List.not_mem_nil, or_false]
  omega
theorem digs_len : ∀ (n p : Nat) (b : Bytes), ∃ k, (digs n p b).1 = p + k ∧ (digs n p b).2 = b.drop k
  | 0, p, b => ⟨0, rfl, rfl⟩
  | n + 1, p, [] => ⟨0, rfl, rfl⟩
  | n + 1, p, c :: l => by
    by_cases h : isDigit c = true
    · rw [digs_go h]
      obtain ⟨k, h1, h2⟩ := digs_len n (p + 1) l
      exact ⟨k + 1, by omega, h2⟩
    · have e : digs (n + 1) p (c :: l) = (p, c :: l) := if_neg h
      rw [e]
      exact ⟨0, rfl, rfl⟩
end AbM

set_option Elab.async false
set_option linter.all false
namespace Ab
open PySem PySem.Spec PyProof.Rows L2
/-! ### the text -/
def top (i : Nat) : Stmt := PySem.Challenge.pw_abacusways_s01_method.main.body.getD i (.Pass ⟨0, 0, 0, 0⟩)
abbrev sBI : Stmt := inClass (top 2) 0
abbrev sLI : Stmt := inClass (top 3) 0
abbrev sFI : Stmt := inClass (top 4) 0
abbrev sPO : Stmt := top 8
abbrev sTS : Stmt := top 9
abbrev sRI : Stmt := inClass (top 11) 0
abbrev sEn : Stmt := inClass (top 11) 1
abbrev sSh : Stmt := inClass (top 11) 2
abbrev sRS : Stmt := inClass (top 11) 3
abbrev sRW : Stmt := inClass (top 11) 4
abbrev sSB : Stmt := top 12
abbrev sRD : Stmt := top 19
abbrev sLW : Stmt := top 20
abbrev sRL : Stmt := top 21
abbrev sRT : Stmt := top 22
abbrev sRE : Stmt := top 23
abbrev sRO : Stmt := top 24
abbrev sRC : Stmt := top 25
abbrev sRN : Stmt := top 26
abbrev sMe : Stmt := top 29
abbrev sCS : Stmt := top 30
end Ab

set_option Elab.async false
set_option linter.all false
set_option maxRecDepth 100000
set_option maxHeartbeats 2000000
namespace Ab
open PySem PySem.Spec PyProof.Rows L2

/-! ### C.f(..), f a def that is read off the class C -/
def tClF (C : Addr) (sp : Sp) (dvs : List V) (E : XK) (ta : TE) (t : TA) : TE := fun σ H Q => ta σ H fun x H1 => x = .ref C ∧ t σ H1 fun vs H2 => sp (vs ++ dvs) H2 Q E
theorem pe_clsfn {X : Cx} {CX : CXT} {k : Nat} {C g : Addr} {mc : Value} {sp : Sp} {E : XK} {o e : Expr} {es : List Expr} {m : Str} {pos apos : Pos} {ta : TE} {t : TA} {pl : Sem Bool} {fd : FuncData} {ps : List Str} {ds : List Value} {dvs : List V}
    (he : PE X o ta) (r : ClX.CRead X.K C mc) (c : ClX.CVal X.K C mc m (.ref g) (.ref g)) (hk : PySem.W.keepIn X.K (.ref g) = true) (F : FnOk X.prog X.w X.K X.mg X.base CX k g fd ps sp) (hr : Room k X.A) (hb : Binds X.K fd ps ds) (hd : Vals dvs ds) (hx : Passes CX X E) (ha : PA X (e :: es) t)
    (hst : starEach (e :: es) X.env = (false, eval e X.env) :: starEach es X.env := by rfl) (hpl : (backTo pos (starEach es X.env)).any (·.1) = false := by rfl)
    (ht : eval (.Call (.Attribute o m apos) (e :: es) [] pos) X.env = (do
      let ov ← eval o X.env
      standAt apos.atName
      let (f, first) ← holding [ov] (getMethod ov m pl)
      callWith pos f first (backTo pos (starEach (e :: es) X.env)) (backToKw pos (keywordEach [] X.env))) := by rfl) :
    PE X (.Call (.Attribute o m apos) (e :: es) [] pos) (tClF C sp dvs E ta t) := by
  refine ⟨fun pins s σ H Q I h => ?_⟩
  refine PySem.W.methodCall_KW (pl := pl) (thn (he.run pins s σ H _ I h) fun u s1 ⟨x, H1, I1, rx, ex, q⟩ => ?_) ht
  subst ex
  obtain rfl : u = Value.ref C := rx
  refine PySem.W.method_cls I1.kIn r.ga (ClX.getcval_ok I1 r c fun s2 I2 => ?_)
  refine PySem.W.callWith_K (h₀ := X.base) I2.ok.mod.kin hk (thn (ha.run pos pins s2 σ H1 _ I2 q) fun us s3 ⟨vs, H2, I3, rv, q2⟩ => ⟨I3.kIn, ?_⟩) hst hpl
  exact run_fn F hr hb hd hx I3 rv q2

/-! ### n.f in an except suite, the error being of any class that has what is asked -/
def tXfE (K : PySem.W.Frag) (a : Addr) (cls : Value) (d : Option Addr) (f : Str) (te : TE) : TE := fun σ H Q => te σ H fun x H1 => x = .ref a ∧ ∃ (C dd : Addr) (fs : List (Str × V)) (v : V), cls = .ref C ∧ XfC K C ∧ PySem.W.findIn K (.ref C) f = some none ∧ d = some dd ∧ H1 dd = some (.xd fs) ∧ fs.lookup f = some v ∧ Q v H1
theorem pe_xfE {X : Cx} {a : Addr} {oe : Obj} {cls : Value} {d : Option Addr} {pn : List (Addr × Obj)} {e : Expr} {te : TE} {pos : Pos} {n : Str}
    (hz : Zc cls d oe) (hf : ∃ vs, oe.data = .fields vs) (he : PE (X.suite a ((a, oe) :: pn)) e te) (hb : attributeBase e n X.env (eval e X.env) = eval e X.env := by rfl) :
    PE (X.suite a ((a, oe) :: pn)) (.Attribute e n pos) (tXfE X.K a cls d n te) := by
  refine ⟨fun pins s σ H Q I h => ?_⟩
  refine attr_of hb (thn (he.run pins s σ H _ I h) fun u s1 hh => ?_)
  obtain ⟨x, H1, I1, rx, ex, C, dd, fs, v, ec, T, hno, ed, ea, l, q⟩ := hh
  subst ex
  obtain rfl : u = Value.ref a := rx
  subst ec
  subst ed
  obtain ⟨ha, _⟩ := I1.pin (a, oe) (List.mem_append_left _ List.mem_cons_self)
  obtain ⟨vs, hd⟩ := hf
  have hx : ObjOk X.prog X.w H1 s1.heap dd (.xd fs) := I1.hok dd _ ea
  obtain ⟨mA, hns, hr⟩ := hx
  obtain ⟨od, ho, hl⟩ := lookIn_ns hns
  obtain ⟨u, hu, ru⟩ := RelO.some_of (v := v) (o := mA n) (by rw [← l]; exact hr n)
  have J : PySem.W.InstAt s1.heap a oe C (some od) := ⟨ha, hz.1, by unfold PySem.W.notCls; rw [hd] <;> rfl, by rw [hz.2]; exact ho⟩
  exact HandSPX.exc_get I1.kIn J T.ga T.gg T.exC (PySem.W.findObj_own T.hdC hno rfl (by rw [hl, hu])) (handed_of ru) ⟨v, H1, I1.tok _, ru, q⟩

/-! ### raise C(), C an own error whose __init__ is a def without further parameters -/
def tMkO0 (C : Addr) (sp : Sp) : L2.St → Hp → XK → Prop := fun σ H1 Q => ∀ a, H1 a = none → sp [.ref a] (upd H1 a (exo a C none))
  (fun v H2 => v = .non ∧ ∃ (d : Addr) (fs : List (Str × V)), H2 a = some (exo a C (some d)) ∧ H2 d = some (exd d fs) ∧ H1 d = none ∧ Q (.ref C) (some d) (upd (del H2 a) d (.xd fs))) (fun _ _ _ => False)
theorem pmk_oex0 {X : Cx} {p pos : Pos} {CX : CXT} {x : Str} {C fI : Addr} {k : Nat} {fd : FuncData} {ps : List Str} {sp : Sp} (T : OexC X.K C) (iC : PySem.W.findIn X.K (.ref C) "__init__" = some (some (.ref fI))) (tI : PySem.W.typeIn X.K (.ref fI) = some (.type "function"))
    (F1 : FnOk X.prog X.w X.K X.mg X.base CX k fI fd ps sp) (hr : Room (k + 1) X.A) (hb : Binds X.K fd ps []) (hx : Passes CX X (fun _ _ _ => False)) (hg : Gl X x) (hm : X.mg x = some (.ref C))
    (hdb : (x == ("__debug__" : Str)) = false := by decide) :
    PMk X (.Call (.Name x p) [] [] pos) (tMkO0 C sp) := by
  intro pins s σ H Q I q1
  obtain ⟨nm, q, N, bs, bm, sn, sub, ab, col, dd, k0, k1, k2, k3, k5, hC, hbm⟩ := T.cls
  refine wpAny_Call_Name_kw (ld_glob I hg hm ?_ hdb)
  refine PySem.W.callWith_K0 I.kIn T.kC ?_
  show wpAny _ _ (call (.ref C) []) _ _ _
  obtain ⟨hp, g, dr, tk, os⟩ := s
  have hsz : hp.objs.size ≤ hp.objs.size + 1 := Nat.le_succ _
  have hn : H (hp.objs.size + 1) = none := I.hok.fresh hsz
  have hq := q1 (hp.objs.size + 1) hn
  have kk : ∀ b o, hp.get? b = some o → ((hp.push (PySem.W.kdv_tup [])).push (PySem.HandSPX.excO C hp.objs.size)).get? b = some o := fun b o e => Heap.get?_push_of_some _ (Heap.get?_push_of_some _ e)
  have hget : ((hp.push (PySem.W.kdv_tup [])).push (PySem.HandSPX.excO C hp.objs.size)).get? (hp.objs.size + 1) = some (PySem.HandSPX.excO C hp.objs.size) := by heap_get
  have I2 : Inv X pins σ (upd H (hp.objs.size + 1) (exo (hp.objs.size + 1) C none)) ⟨(hp.push (PySem.W.kdv_tup [])).push (PySem.HandSPX.excO C hp.objs.size), g, dr, tk, os⟩ :=
    I.laid (t' := tk) (a := hp.objs.size + 1) (o := exo (hp.objs.size + 1) C none) (h' := (hp.push (PySem.W.kdv_tup [])).push (PySem.HandSPX.excO C hp.objs.size)) kk hsz (exo_ok hget)
  have r2 : Vals [V.ref (hp.objs.size + 1)] [Value.ref (hp.objs.size + 1)] := .cons rfl .nil
  have hl : ([Value.ref (hp.objs.size + 1)] ++ []).length = ps.length := by
    have e := r2.length
    rw [F1.len _ _ _ _ hq] at e
    exact e.symm
  have hus : ([] : List Value).length ≤ sizeLine := Nat.zero_le _
  refine wpAny_call (PySem.HandSPX.call_own F.excBase_ValueError (fun Y => PySem.HandSPX.refsVE_contains Y bm hbm) (I.kIn _ _ hC) (PySem.W.looks_findIn I.kIn iC) (fun self => PySem.W.bind_fn I.kIn self tI) hus
    (codeAny_mono (F1.run _ X.stack _ _ ⟨[Value.ref (hp.objs.size + 1)], []⟩ [Value.ref (hp.objs.size + 1)] _ _ (fun _ _ _ => False) (hr.make C [] []) (I2.env0.make C [] []) (hb _ [Value.ref (hp.objs.size + 1)] I2.kIn hl) r2 hq) fun r s' hq' => ?_))
  cases r with
  | error er => exact hx pins σ _ _ er s' I2 hq'
  | ok fl =>
    cases fl with
    | ret u =>
      obtain ⟨v, H2, os2, bare2, un2, hok2, rv, ev, d, fs, ea, ed, hd1, q2⟩ := hq'
      subst ev
      obtain ⟨h2, g2, d2, t2, os'⟩ := s'
      exact ⟨rv, mk_end (raises_own T.exC T.tyC) I hsz kk un2 hok2 os2 bare2 ea ed hd1 q2⟩
    | next => exact False.elim hq'
    | brk => exact False.elim hq'
    | cont => exact False.elim hq'
end Ab

set_option Elab.async false
set_option linter.all false
set_option maxRecDepth 100000
set_option maxHeartbeats 2000000
namespace Ab
open PySem PySem.Spec PyProof.Rows L2 AbM
open Na (Bytes)

/-! ### values, objects -/
abbrev S (l : List Nat) : Str := ⟨l.toArray⟩
abbrev sgV (c : Nat) : V := .str ⟨#[c]⟩
abbrev stV (w : List Nat) : V := .str (S w)
abbrev bs (t : Bytes) : List V := t.map fun c => V.int ((c.toNat : Nat) : Int)
abbrev fsR (ta : Addr) (p : Nat) : List (Str × V) := [(("text" : Str), .ref ta), (("place" : Str), .int (p : Int))]
abbrev nmF (n : Addr) : List (Str × V) := [(("numbers" : Str), .ref n)]
/-- what a fault of a method answers -/
abbrev ftL (k : Nat) : List V := [.int (-5), .int 11, .int (k : Int)]
/-- the reader at r has read p bytes of t -/
structure At (K : PySem.W.Frag) (CR r dx ta : Addr) (t : Bytes) (H : Hp) (p : Nat) : Prop where
  ob : H r = some (.ins CR dx (fsR ta p))
  tx : SqL K H ta (bs t)
  le : p ≤ t.length
  sz : t.length ≤ 5000
/-- all but two objects stands -/
def Only (r c : Addr) (H H' : Hp) : Prop := ∀ b o, b ≠ r → b ≠ c → H b = some o → H' b = some o
theorem Only.refl {r c : Addr} {H : Hp} : Only r c H H := fun _ _ _ _ h => h
theorem Only.trans {r c : Addr} {H H1 H2 : Hp} (a : Only r c H H1) (b : Only r c H1 H2) : Only r c H H2 := fun x o h1 h2 h => b x o h1 h2 (a x o h1 h2 h)
theorem Only.same {r c : Addr} {H H1 : Hp} (a : Same H H1) : Only r c H H1 := fun x o _ _ h => a x o h
theorem Only.wide {r c : Addr} {H H1 : Hp} (a : Only r r H H1) : Only r c H H1 := fun x o h1 _ h => a x o h1 h1 h
theorem Only.upd {r c : Addr} {H : Hp} {o : HO} : Only r c H (upd H r o) := fun x u h1 _ h => by
  rw [upd_ne h1]
  exact h
theorem Only.updc {r c : Addr} {H : Hp} {o : HO} : Only r c H (L2.upd H c o) := fun x u _ h2 h => by
  rw [upd_ne h2]
  exact h
theorem same_upd {H : Hp} {p : Addr} {o : HO} (h : H p = none) : Same H (upd H p o) := fun b x e => by
  rw [upd_ne (ne_of_none e h)]
  exact e
theorem seq_upd {K : PySem.W.Frag} {H : Hp} {a b : Addr} {o : HO} {xs : List V} (h : SqL K H a xs) (n : a ≠ b) : SqL K (upd H b o) a xs := by
  rcases h with (h | ⟨u, h⟩) | h
  · exact .inl (.inl (by rw [upd_ne n]; exact h))
  · exact .inl (.inr ⟨u, by rw [upd_ne n]; exact h⟩)
  · exact .inr h
/-- a list is no instance -/
theorem seq_upd_ins {K : PySem.W.Frag} {H : Hp} {a r C dx : Addr} {fs : List (Str × V)} {o : HO} {xs : List V} (h : SqL K H a xs) (e : H r = some (.ins C dx fs)) : SqL K (upd H r o) a xs := by
  rcases h with (h | ⟨u, h⟩) | h
  · exact .inl (.inl (by rw [upd_ne (ne_of h e (by intro z; cases z))]; exact h))
  · exact .inl (.inr ⟨u, by rw [upd_ne (ne_of h e (by intro z; cases z))]; exact h⟩)
  · exact .inr h
/-- the list at a is not the object at c, or it stands in the written part -/
def Apart (K : PySem.W.Frag) (a c : Addr) (xs : List V) : Prop := a ≠ c ∨ ∀ H, SqL K H a xs
theorem Apart.new {K : PySem.W.Frag} {H : Hp} {a c : Addr} {xs : List V} (h : SqL K H a xs) (n : H c = none) : Apart K a c xs := by
  rcases h with (h | ⟨u, h⟩) | h
  · exact .inl (ne_of_none h n)
  · exact .inl (ne_of_none h n)
  · exact .inr fun _ => .inr h
theorem Apart.upd {K : PySem.W.Frag} {H : Hp} {a c : Addr} {o : HO} {xs : List V} (x : Apart K a c xs) (h : SqL K H a xs) : SqL K (upd H c o) a xs := x.elim (seq_upd h) fun k => k _
theorem seq_only1 {K : PySem.W.Frag} {H H' : Hp} {a r C dx : Addr} {fs : List (Str × V)} {xs : List V} (h : SqL K H a xs) (e : H r = some (.ins C dx fs)) (k : Only r r H H') : SqL K H' a xs := by
  rcases h with (h | ⟨u, h⟩) | h
  · have n := ne_of h e (by intro z; cases z)
    exact .inl (.inl (k _ _ n n h))
  · have n := ne_of h e (by intro z; cases z)
    exact .inl (.inr ⟨u, k _ _ n n h⟩)
  · exact .inr h
section
variable {K : PySem.W.Frag} {CR r dx ta : Addr} {t : Bytes} {H H' : Hp} {p : Nat}
theorem At.same (a : At K CR r dx ta t H p) (s : Same H H') : At K CR r dx ta t H' p := ⟨s _ _ a.ob, s.seq a.tx, a.le, a.sz⟩
theorem At.put (a : At K CR r dx ta t H p) {q : Nat} (h : q ≤ t.length) : At K CR r dx ta t (upd H r (.ins CR dx (fsR ta q))) q := ⟨upd_same, seq_upd_ins a.tx a.ob, h, a.sz⟩
theorem At.updc (a : At K CR r dx ta t H p) {c : Addr} {o : HO} (h1 : r ≠ c) (h2 : Apart K ta c (bs t)) : At K CR r dx ta t (upd H c o) p := ⟨by rw [upd_ne h1]; exact a.ob, h2.upd a.tx, a.le, a.sz⟩
end
theorem put_place (ta : Addr) (p q : Nat) : putF "place" (.int (q : Int)) (fsR ta p) = fsR ta q := by rfl
theorem look_place (ta : Addr) (p : Nat) : (fsR ta p).lookup ("place" : Str) = some (.int (p : Int)) := by rfl
theorem look_text (ta : Addr) (p : Nat) : (fsR ta p).lookup ("text" : Str) = some (.ref ta) := by rfl
/-- how a reader's call ends: with the fault's place, or with what is read -/
def Out {α : Type} (K : PySem.W.Frag) (CR CF r dx ta : Addr) (t : Bytes) (res : Except Nat (α × (Nat × Bytes))) (H : Hp) (c : Addr) (val : α → Hp → V → Prop) (Q : VK) (E : XK) : Prop :=
  (∀ k, res = .error k → ∀ (d n : Addr) (H' : Hp), H' d = some (.xd (nmF n)) → H' n = some (.lst (ftL k)) → E (.ref CF) (some d) H') ∧
  ∀ a q, res = .ok (a, q, t.drop q) → ∀ (H' : Hp) (v : V), val a H' v → At K CR r dx ta t H' q → Only r c H H' → Q v H'
/-- some signs, a text or a list of texts of one sign -/
def SigV (K : PySem.W.Frag) (H : Hp) (v : V) (cs : List Nat) : Prop := v = .str (S cs) ∨ ∃ a, v = .ref a ∧ SqL K H a (cs.map sgV)
theorem SigV.same {K : PySem.W.Frag} {H H' : Hp} {v : V} {cs : List Nat} (h : SigV K H v cs) (s : Same H H') : SigV K H' v cs := h.elim .inl fun ⟨a, e, q⟩ => .inr ⟨a, e, s.seq q⟩
def showsM (cs : List Nat) : Bytes → Bool
  | [] => false
  | c :: _ => decide (c.toNat ∈ cs)
def signM (cs : List Nat) (p : Nat) : Bytes → Except Nat (Nat × (Nat × Bytes))
  | [] => .error p
  | c :: l => if c.toNat ∈ cs then .ok (c.toNat, p + 1, l) else .error p

/-! ### the promises -/
/-- Refusal's __init__, of an exception that is being made -/
def spBI (K : PySem.W.Frag) : Sp := fun vs H Q _ => ∃ (a C : Addr) (x : V), vs = [.ref a, x] ∧ OexC K C ∧ PySem.W.findIn K (.ref C) "numbers" = some none ∧ H a = some (exo a C none) ∧
  ∀ (d : Addr) (H' : Hp), H d = none → d ≠ a → H' a = some (exo a C (some d)) → H' d = some (exd d [(("numbers" : Str), x)]) → (∀ b o, b ≠ a → H b = some o → H' b = some o) → Q .non H'
/-- an own __init__ that hands these numbers on -/
def Own (C : Addr) (ls : List V) (a : Addr) (H : Hp) (Q : VK) : Prop := H a = some (exo a C none) ∧
  ∀ (d n : Addr) (H' : Hp), H d = none → d ≠ a → n ≠ a → n ≠ d → H' a = some (exo a C (some d)) → H' d = some (exd d (nmF n)) → H' n = some (.lst ls) → Q .non H'
def spFI (CF : Addr) : Sp := fun vs H Q _ => ∃ (a : Addr) (r k : Int), vs = [.ref a, .int r, .int k] ∧ Own CF [.int (-5), .int r, .int k] a H Q
def spLI (CL : Addr) : Sp := fun vs H Q _ => ∃ (a : Addr), vs = [.ref a] ∧ Own CL [.int (-6)] a H Q
def spRI (CR : Addr) : Sp := fun vs H Q _ => ∃ (r ta dx : Addr), vs = [.ref r, .ref ta] ∧ H r = some (.ins CR dx []) ∧ ∀ H', Only r r H H' → H' r = some (.ins CR dx (fsR ta 0)) → Q .non H'
def spEn (K : PySem.W.Frag) (CR : Addr) : Sp := fun vs H Q _ => ∃ (r dx ta : Addr) (t : Bytes) (p : Nat), vs = [.ref r] ∧ At K CR r dx ta t H p ∧ Q (.bl (decide (p = t.length))) H
def spSh (K : PySem.W.Frag) (CR : Addr) : Sp := fun vs H Q _ => ∃ (r dx ta : Addr) (t : Bytes) (p : Nat) (sv : V) (cs : List Nat), vs = [.ref r, sv] ∧ At K CR r dx ta t H p ∧ SigV K H sv cs ∧ cs.length ≤ 1000 ∧
  ∀ H', Same H H' → Q (.bl (showsM cs (t.drop p))) H'
def spRS (K : PySem.W.Frag) (CR CF : Addr) : Sp := fun vs H Q E => ∃ (r dx ta : Addr) (t : Bytes) (p : Nat) (sv : V) (cs : List Nat), vs = [.ref r, sv] ∧ At K CR r dx ta t H p ∧ SigV K H sv cs ∧ cs.length ≤ 1000 ∧
  Out K CR CF r dx ta t (signM cs p (t.drop p)) H r (fun c _ v => v = sgV c) Q E
def spSB (K : PySem.W.Frag) : Sp := fun vs H Q _ => ∃ (wl : Addr) (acc : List Nat) (ws : List (List Nat)), vs = [stV acc, .ref wl] ∧ SqL K H wl (ws.map stV) ∧ ws.length ≤ 1000 ∧ acc.length ≤ 1000 ∧ (∀ w ∈ ws, w.length ≤ 1000) ∧
  ∀ (H' : Hp) (D : Addr), Same H H' → H D = none → H' D = some (.lst ((heads (tag acc ws)).map sgV)) → Q (.ref D) H'
def spRW (K : PySem.W.Frag) (CR CF : Addr) : Sp := fun vs H Q E => ∃ (r dx ta : Addr) (t : Bytes) (p : Nat) (wl : Addr) (ws : List (List Nat)), vs = [.ref r, .ref wl] ∧ At K CR r dx ta t H p ∧ SqL K H wl (ws.map stV) ∧ ws.length ≤ 1000 ∧ (∀ w ∈ ws, w.length ≤ 100) ∧
  Out K CR CF r dx ta t (munch (t.drop p) (tag [] ws) p) H r (fun w _ v => v = stV w) Q E

/-! ### what the top has written -/
/-- an own error class over Refusal -/
structure RefC (K : PySem.W.Frag) (CE C : Addr) : Prop where
  ox : OexC K C
  xf : XfC K C
  nNum : PySem.W.findIn K (.ref C) "numbers" = some none
  te : PySem.W.exmOne K (.ref C) (.ref CE) = some true
structure Txt (K : PySem.W.Frag) (mg : Str → Option Value) (CE fBI CF fFI CR : Addr) : Prop where
  rf : RefC K CE CF
  iF : PySem.W.findIn K (.ref CF) "__init__" = some (some (.ref fFI))
  tF : PySem.W.typeIn K (.ref fFI) = some (.type "function")
  gF : mg "Fault" = some (.ref CF)
  gE : mg "Refusal" = some (.ref CE)
  rd : ClX.CRead K CE (.type "type")
  ci : ClX.CVal K CE (.type "type") "__init__" (.ref fBI) (.ref fBI)
  kB : PySem.W.keepIn K (.ref fBI) = true
  nVE : mg "ValueError" = none
  vV : PySem.W.findCls K (.type "ValueError") (.type "type") "__init__" = some (.val (.builtin "ValueError.__init__"))
  rule : ∃ u, mg "NO_METHOD" = some (.int 11 u)
  cl : Cls K CR
  gR : mg "Reader" = some (.ref CR)
  nText : NoAttr K CR "text"
  nPlace : NoAttr K CR "place"
  len : mg "len" = none
  ord : mg "ord" = none
  int : mg "int" = none

section
variable {P : Program} {w : World} {K : PySem.W.Frag} {mg : Str → Option Value} {base : Heap} {CE fBI CF fFI CR : Addr}

theorem scBI : FnScope ["self", "numbers"] ["self", "numbers"] (defScope sBI) := ⟨rfl, rfl, rfl, by decide +kernel, rfl, by decide +kernel, by decide +kernel⟩
theorem ok_BI {f : Addr} {fd : FuncData} (F : Fun K "__init__" "Refusal.__init__" sBI f fd) (T : Txt K mg CE fBI CF fFI CR) : FnOk P w K mg base CX0 1 f fd ["self", "numbers"] (spBI K) := by
  refine F.ok scBI (fun vs H Q E h => ?_) (fun cdv A outer s H vs Q E hr h => ?_)
  · obtain ⟨a, C, x, rfl, _⟩ := h
    rfl
  · obtain ⟨a, C, x, rfl, ox, nN, ha, q⟩ := h
    refine ⟨_, pss_cons (ps_expr (pe_veinit rfl T.nVE T.vV (pa_cons (pv 0) (pa_cons (pv 1) pa_nil)))) (pss_one (ps_ost (pv 0) (pv 1))), ?_⟩
    refine ⟨_, rfl, _, rfl, a, C, _, rfl, by show 1 ≤ 1000; decide, ox, ha, ?_⟩
    refine ⟨_, rfl, _, rfl, a, C, rfl, ox, nN, .inl ⟨ha, fun d nd da => ?_⟩⟩
    refine q d _ nd da upd_same ?_ fun b o hb e => ?_
    · rw [upd_ne da, upd_same]
    · rw [upd_ne hb, upd_ne (ne_of_none e nd)]
      exact e
theorem scFI : FnScope ["self", "rule", "place"] ["self", "rule", "place"] (defScope sFI) := ⟨rfl, rfl, rfl, by decide +kernel, rfl, by decide +kernel, by decide +kernel⟩
/-- Refusal.__init__(self, [..]): how its reading goes on -/
theorem own_ok {C : Addr} {ls : List V} {a : Addr} {H : Hp} {Q : VK} {E : XK} (R : RefC K CE C) (h : Own C ls a H Q) (l : Addr) (nl : H l = none) : spBI K [.ref a, .ref l] (upd H l (.lst ls)) Q E := by
  have nla : l ≠ a := fun z => by rw [z, h.1] at nl; cases nl
  refine ⟨a, C, _, rfl, R.ox, R.nNum, by rw [upd_ne (Ne.symm nla)]; exact h.1, fun d H' nd da ea ed k => ?_⟩
  have nld : l ≠ d := fun z => by rw [← z, upd_same] at nd; cases nd
  rw [upd_ne (Ne.symm nld)] at nd
  exact h.2 d l H' nd da nla nld ea ed (k l _ nla upd_same)
theorem ok_FI {f : Addr} {fd fdB : FuncData} (F : Fun K "__init__" "Fault.__init__" sFI f fd) (T : Txt K mg CE fBI CF fFI CR) (GB : FnOk P w K mg base CX0 1 fBI fdB ["self", "numbers"] (spBI K)) (bB : Binds K fdB ["self", "numbers"] []) :
    FnOk P w K mg base CX0 2 f fd ["self", "rule", "place"] (spFI CF) := by
  refine F.ok scFI (fun vs H Q E h => ?_) (fun cdv A outer s H vs Q E hr h => ?_)
  · obtain ⟨a, r, k, rfl, _⟩ := h
    rfl
  · obtain ⟨a, r, k, rfl, q⟩ := h
    refine ⟨_, pss_one (ps_expr (pe_clsfn (pe_glob (v := .ref CE) rfl T.gE rfl) T.rd T.ci T.kB GB hr bB .nil pass0 (pa_cons (pv 0) (pa_cons (pe_lst (pa_cons (pe_un un_neg pe_int) (pa_cons (pv 1) (pa_cons (pv 2) pa_nil)))) pa_nil)))), ?_⟩
    refine ⟨rfl, _, rfl, _, rfl, _, rfl, _, rfl, by show 3 ≤ sizeLine; exact Nat.le_of_lt (small1000 (by decide)), fun l nl => ?_⟩
    exact own_ok (E := E) T.rf q l nl
theorem scLI : FnScope ["self"] ["self"] (defScope sLI) := ⟨rfl, rfl, rfl, by decide +kernel, rfl, by decide +kernel, by decide +kernel⟩
theorem ok_LI {f CL : Addr} {fd fdB : FuncData} (F : Fun K "__init__" "LongText.__init__" sLI f fd) (T : Txt K mg CE fBI CF fFI CR) (R : RefC K CE CL) (GB : FnOk P w K mg base CX0 1 fBI fdB ["self", "numbers"] (spBI K)) (bB : Binds K fdB ["self", "numbers"] []) :
    FnOk P w K mg base CX0 2 f fd ["self"] (spLI CL) := by
  refine F.ok scLI (fun vs H Q E h => ?_) (fun cdv A outer s H vs Q E hr h => ?_)
  · obtain ⟨a, rfl, _⟩ := h
    rfl
  · obtain ⟨a, rfl, q⟩ := h
    refine ⟨_, pss_one (ps_expr (pe_clsfn (pe_glob (v := .ref CE) rfl T.gE rfl) T.rd T.ci T.kB GB hr bB .nil pass0 (pa_cons (pv 0) (pa_cons (pe_lst (pa_cons (pe_un un_neg pe_int) pa_nil)) pa_nil)))), ?_⟩
    refine ⟨rfl, _, rfl, _, rfl, by show 1 ≤ sizeLine; exact Nat.le_of_lt (small1000 (by decide)), fun l nl => ?_⟩
    exact own_ok (E := E) R q l nl
/-- what a made error leaves, when it is let go -/
theorem made {C : Addr} {ls : List V} {a : Addr} {H1 : Hp} {E : XK} (h : ∀ (d n : Addr) (H' : Hp), H' d = some (.xd (nmF n)) → H' n = some (.lst ls) → E (.ref C) (some d) H') :
    Own C ls a (upd H1 a (exo a C none)) (fun v H2 => v = .non ∧ ∃ (d : Addr) (fs : List (Str × V)), H2 a = some (exo a C (some d)) ∧ H2 d = some (exd d fs) ∧ H1 d = none ∧ E (.ref C) (some d) (upd (del H2 a) d (.xd fs))) :=
  ⟨upd_same, fun d n H' nd da na ndn ea ed en => ⟨rfl, d, _, ea, ed, by rw [upd_ne da] at nd; exact nd, h d n _ upd_same (by rw [upd_ne ndn, del_ne na]; exact en)⟩⟩

theorem scRI : FnScope ["self", "text"] ["self", "text"] (defScope sRI) := ⟨rfl, rfl, rfl, by decide +kernel, rfl, by decide +kernel, by decide +kernel⟩
theorem ok_RI {f : Addr} {fd : FuncData} (F : Fun K "__init__" "Reader.__init__" sRI f fd) (T : Txt K mg CE fBI CF fFI CR) : FnOk P w K mg base CX0 1 f fd ["self", "text"] (spRI CR) := by
  refine F.ok scRI (fun vs H Q E h => ?_) (fun cdv A outer s H vs Q E hr h => ?_)
  · obtain ⟨r, ta, dx, rfl, _⟩ := h
    rfl
  · obtain ⟨r, ta, dx, rfl, ha, q⟩ := h
    refine ⟨_, pss_cons (ps_fld (pv 0) (pv 1) rfl) (pss_one (ps_fld (pv 0) pe_int rfl)), ?_⟩
    refine ⟨_, rfl, _, rfl, r, CR, dx, _, rfl, ha, T.cl, T.nText, by decide, ?_⟩
    refine ⟨_, rfl, r, CR, dx, _, rfl, upd_same, T.cl, T.nPlace, by show 1 < 1000; decide, ?_⟩
    refine q _ ?_ ?_
    · rw [upd_upd]
      exact Only.upd
    · rw [upd_same]
      rfl

theorem scEn : FnScope ["self"] ["self"] (defScope sEn) := ⟨rfl, rfl, rfl, by decide +kernel, rfl, by decide +kernel, by decide +kernel⟩
theorem ok_En {f : Addr} {fd : FuncData} (F : Fun K "ended" "Reader.ended" sEn f fd) (T : Txt K mg CE fBI CF fFI CR) : FnOk P w K mg base CX0 1 f fd ["self"] (spEn K CR) := by
  refine F.ok scEn (fun vs H Q E h => ?_) (fun cdv A outer s H vs Q E hr h => ?_)
  · obtain ⟨r, dx, ta, t, p, rfl, _⟩ := h
    rfl
  · obtain ⟨r, dx, ta, t, p, rfl, a, q⟩ := h
    refine ⟨_, pss_one (ps_ret (pe_cmpR op_eq (pe_fld (pv 0) rfl) (pe_callB call_len_seq (by rfl) T.len PySem.boot_len (pa_cons (pe_fld (pv 0) rfl) pa_nil)) (nomark _))), ?_⟩
    refine ⟨_, rfl, r, CR, dx, _, _, rfl, a.ob, T.cl, T.nPlace, look_place ta p, ?_⟩
    refine ⟨_, rfl, r, CR, dx, _, _, rfl, a.ob, T.cl, T.nText, look_text ta p, ?_⟩
    refine ⟨ta, _, rfl, .inl a.tx, rfl, ?_⟩
    have e : (decide (V.int (p : Int) = V.int ((bs t).length : Nat))) = decide (p = t.length) := by
      rw [dec_int, List.length_map]
      by_cases h : p = t.length
      · subst h
        simp
      · rw [decide_eq_false h]
        have h2 : ¬ ((p : Int) = (t.length : Nat)) := fun z => h (Int.ofNat.inj z)
        simpa using h2
    rw [e]
    exact q
end
end Ab

set_option Elab.async false
set_option linter.all false
set_option maxRecDepth 100000
set_option maxHeartbeats 2000000
namespace Ab
open PySem PySem.Spec PyProof.Rows L2 AbM
open Na (Bytes)
theorem pi_sig {X : Cx} {tg l : Expr} {tl : TE} (hl : PE X l tl) : PI X tg l (fun σ H R => iStr tl σ H R ∨ iList X.K tl σ H R) :=
  ⟨fun pins s σ H R I h => h.elim (fun h => (pi_str hl).run pins s σ H R I h) fun h => (pi_list hl).run pins s σ H R I h⟩
theorem any_nat (c : Nat) : ∀ cs : List Nat, inV (.int (c : Int)) (cs.map fun k => V.int ((k : Nat) : Int)) = decide (c ∈ cs)
  | [] => by simp [inV]
  | k :: r => by
    have ih := any_nat c r
    unfold inV at ih ⊢
    rw [List.map_cons, List.any_cons, ih]
    show (((k : Int) == (c : Int)) || decide (c ∈ r)) = _
    by_cases h : c = k
    · subst h
      simp
    · have h2 : ¬ ((k : Int) = (c : Int)) := fun z => h (Int.ofNat.inj z).symm
      have e : ((k : Int) == (c : Int)) = false := by simpa using h2
      rw [e, Bool.false_or]
      by_cases h3 : c ∈ r
      · rw [decide_eq_true h3, decide_eq_true (List.mem_cons_of_mem _ h3)]
      · rw [decide_eq_false h3, decide_eq_false (fun z => (List.mem_cons.mp z).elim h h3)]
theorem flat_nat (cs : List Nat) : (cs.map fun k => V.int ((k : Nat) : Int)).all flatV = true := by
  rw [List.all_map]
  exact List.all_eq_true.mpr fun _ _ => rfl
theorem bs_at {t : Bytes} {p : Nat} {c : UInt8} {l : Bytes} (h : t.drop p = c :: l) : (bs t)[p]? = some (.int ((c.toNat : Nat) : Int)) := by
  have e : t[p]? = some c := by
    have := congrArg List.head? h
    rw [List.head?_drop] at this
    exact this
  rw [List.getElem?_map, e]
  rfl
theorem drop_lt {t : Bytes} {p : Nat} {c : UInt8} {l : Bytes} (h : t.drop p = c :: l) : p < t.length := by
  have := congrArg List.length h
  rw [List.length_drop, List.length_cons] at this
  omega
theorem drop_succ {t : Bytes} {p : Nat} {c : UInt8} {l : Bytes} (h : t.drop p = c :: l) : t.drop (p + 1) = l := by
  rw [← List.tail_drop, h]
  rfl
section
variable {P : Program} {w : World} {K : PySem.W.Frag} {mg : Str → Option Value} {base : Heap} {CE fBI CF fFI CR : Addr}
theorem scSh : FnScope ["self", "signs", "sign"] ["self", "signs"] (defScope sSh) := ⟨rfl, rfl, rfl, by decide +kernel, rfl, by decide +kernel, by decide +kernel⟩
theorem ok_Sh {f fE : Addr} {fd fdE : FuncData} (F : Fun K "shows" "Reader.shows" sSh f fd) (T : Txt K mg CE fBI CF fFI CR) (mE : Meth K CR "ended" fE) (GE : FnOk P w K mg base CX0 1 fE fdE ["self"] (spEn K CR)) (bE : Binds K fdE ["self"] []) :
    FnOk P w K mg base CX0 2 f fd ["self", "signs"] (spSh K CR) := by
  refine F.ok scSh (fun vs H Q E h => ?_) (fun cdv A outer s H vs Q E hr h => ?_)
  · obtain ⟨r, dx, ta, t, p, sv, cs, rfl, _⟩ := h
    rfl
  · obtain ⟨r, dx, ta, t, p, sv, cs, rfl, a, hs, hl, q⟩ := h
    refine ⟨_, pss_one (ps_ret (pe_and (pe_not (pe_meth0 (pv 0) T.cl mE GE hr bE .nil pass0))
      (pe_one (pe_cmpR op_in_seq (pe_ix ix_list (pe_fld (pv 0) rfl) (pe_fld (pv 0) rfl) (fun _ _ => rfl))
        (pe_lc (own := [("sign", 2)]) (g := gName 2) (tt := tYes) rfl scSh.nd (pi_sig (pv 1)) (blkOk_by (N := ["self", "signs", "sign"]) (sc := defScope sSh) (by decide +kernel)) (fun _ _ _ _ _ => pg_name (i := 2) scSh.nd rfl (Or.inl rfl)) (fun _ _ _ _ _ => pts_nil)
          (fun _ _ _ _ _ => pe_callB call_ord (by rfl) T.ord (by decide +kernel) (pa_cons (pv 2) pa_nil))) rfl)))), ?_⟩
    refine ⟨_, rfl, r, dx, _, rfl, a.ob, rfl, r, dx, ta, t, p, rfl, a, _, rfl, _, rfl, ?_⟩
    by_cases he : p = t.length
    · rw [decide_eq_true he]
      refine iteF ?_
      have e : t.drop p = [] := by rw [he, List.drop_length]
      have e2 : showsM cs (t.drop p) = false := by rw [e]; rfl
      rw [← e2]
      exact q H (Same.refl H)
    · rw [decide_eq_false he]
      refine iteT ?_
      obtain ⟨c, l, ed⟩ : ∃ c l, t.drop p = c :: l := by
        cases ed : t.drop p with
        | nil =>
          have := congrArg List.length ed
          rw [List.length_drop] at this
          have := a.le
          exact absurd (by simp at *; omega) he
        | cons c l => exact ⟨c, l, rfl⟩
      refine ⟨_, rfl, r, CR, dx, _, _, rfl, a.ob, T.cl, T.nText, look_text ta p, ?_⟩
      refine ⟨_, rfl, r, CR, dx, _, _, rfl, a.ob, T.cl, T.nPlace, look_place ta p, ?_⟩
      refine ⟨ta, _, _, _, rfl, rfl, a.tx, atI_nat (bs_at ed), ?_⟩
      -- the list of the codes
      have fin : ∀ D, H D = none → ∀ H', H' = upd H D (.lst (cs.map fun k => V.int ((k : Nat) : Int))) →
          rIn K false (.int ((c.toNat : Nat) : Int)) (.ref D) H' Q := fun D hD H' e => by
        subst e
        refine ⟨D, _, rfl, .inl (SqL.of upd_same), rfl, flat_nat cs, ?_⟩
        have e2 : showsM cs (t.drop p) = decide (c.toNat ∈ cs) := by rw [ed]; rfl
        rw [any_nat, ← e2]
        exact q _ (same_upd hD)
      have more : ∀ (i : Nat) (k : Nat), cs[i]? = some k → (cs.take (i + 1)).map (fun k => V.int ((k : Nat) : Int)) = (cs.take i).map (fun k => V.int ((k : Nat) : Int)) ++ [.int ((k : Nat) : Int)] := fun i k h => by
        rw [List.take_add_one, h, List.map_append]
        rfl
      have short : ∀ i, ((cs.take i).map (fun k => V.int ((k : Nat) : Int))).length < sizeLine := fun i => small1000 (by rw [List.length_map, List.length_take]; omega)
      rcases hs with rfl | ⟨al, rfl, hq⟩
      · refine .inl ⟨_, rfl, _, rfl, fun D hD => lc_it walk_str (Pv := fun i H' => H' = upd H D (.lst ((cs.take i).map fun k => V.int ((k : Nat) : Int)))) rfl (fun _ _ _ _ => trivial) ?_ ?_⟩
        · rintro i x H1 H2 hi e ⟨rfl, k, hk, rfl⟩
          have hk' : cs[i]? = some k := by simpa using hk
          refine ⟨rfl, ?_⟩
          refine ⟨_, rfl, _, rfl, rfl, _, by rw [e]; exact upd_same, short i, ?_⟩
          rw [e, upd_upd, more i k hk']
          rfl
        · intro H' e
          refine fin D hD H' ?_
          rw [e]
          have : cs.take (S cs).cps.size = cs := by simp
          rw [this]
      · refine .inr ⟨_, rfl, al, rfl, ⟨_, hq⟩, fun D hD => lc_it (walk_list (xs := cs.map sgV)) (Pv := fun i H' => H' = upd H D (.lst ((cs.take i).map fun k => V.int ((k : Nat) : Int)))) rfl (fun i H' _ e => ?_) ?_ ?_⟩
        · rw [e]
          exact (same_upd hD).seq hq
        · rintro i x H1 H2 hi e ⟨rfl, hx⟩
          obtain ⟨k, hk', rfl⟩ : ∃ k, cs[i]? = some k ∧ x = sgV k := by
            rw [List.getElem?_map] at hx
            cases e : cs[i]? with
            | none => rw [e] at hx; cases hx
            | some k => rw [e] at hx; exact ⟨k, rfl, (Option.some.inj hx).symm⟩
          refine ⟨rfl, ?_⟩
          refine ⟨_, rfl, _, rfl, rfl, _, by rw [e]; exact upd_same, short i, ?_⟩
          rw [e, upd_upd, more i k hk']
          rfl
        · intro H' e
          refine fin D hD H' ?_
          rw [e, List.length_map, List.take_length]
end
end Ab

set_option Elab.async false
set_option linter.all false
set_option maxRecDepth 100000
set_option maxHeartbeats 2000000
namespace Ab
open PySem PySem.Spec PyProof.Rows L2 AbM
open Na (Bytes)
theorem signM_hit {cs : List Nat} {p : Nat} {c : UInt8} {l : Bytes} (h : c.toNat ∈ cs) : signM cs p (c :: l) = .ok (c.toNat, p + 1, l) := if_pos h
theorem signM_miss {cs : List Nat} {p : Nat} {b : Bytes} (h : showsM cs b = false) : signM cs p b = .error p := by
  cases b with
  | nil => rfl
  | cons c l => exact if_neg (of_decide_eq_false h)
theorem shows_hit {k : Nat} {b : Bytes} (h : showsM [k] b = true) : ∃ c l, b = c :: l ∧ c.toNat = k := by
  cases b with
  | nil => cases h
  | cons c l =>
    have := of_decide_eq_true h
    exact ⟨c, l, rfl, by simpa using this⟩
theorem shows_none {cs : List Nat} {b : Bytes} (h : ∀ (i k : Nat), cs[i]? = some k → showsM [k] b = false) : showsM cs b = false := by
  cases b with
  | nil => rfl
  | cons c l =>
    refine decide_eq_false fun hm => ?_
    obtain ⟨i, hi⟩ := List.mem_iff_getElem?.mp hm
    have := of_decide_eq_false (h i _ hi)
    exact this (by simp)
section
variable {P : Program} {w : World} {K : PySem.W.Frag} {mg : Str → Option Value} {base : Heap} {CE fBI CF fFI CR : Addr}
theorem scRS : FnScope ["self", "signs", "sign"] ["self", "signs"] (defScope sRS) := ⟨rfl, rfl, rfl, by decide +kernel, rfl, by decide +kernel, by decide +kernel⟩
/-- raise Fault(NO_METHOD, self.place): how its reading is answered -/
theorem raise_ok {CF : Addr} {H1 : Hp} {p : Nat} {E : XK} (h : ∀ (d n : Addr) (H' : Hp), H' d = some (.xd (nmF n)) → H' n = some (.lst (ftL p)) → E (.ref CF) (some d) H') :
    ([V.int 11, V.int (p : Int)] : List V).length ≤ 1000 ∧ ∀ a, H1 a = none → spFI CF (.ref a :: ([V.int 11, V.int (p : Int)] ++ [])) (upd H1 a (exo a CF none))
      (fun v H2 => v = .non ∧ ∃ (d : Addr) (fs : List (Str × V)), H2 a = some (exo a CF (some d)) ∧ H2 d = some (exd d fs) ∧ H1 d = none ∧ E (.ref CF) (some d) (upd (del H2 a) d (.xd fs))) (fun _ _ _ => False) :=
  ⟨by show 2 ≤ 1000; decide, fun a na => ⟨a, 11, p, rfl, made h⟩⟩
theorem ok_RS {f fS : Addr} {fd fdS fdI : FuncData} (F : Fun K "read_sign" "Reader.read_sign" sRS f fd) (T : Txt K mg CE fBI CF fFI CR) (mS : Meth K CR "shows" fS) (GS : FnOk P w K mg base CX0 2 fS fdS ["self", "signs"] (spSh K CR)) (bS : Binds K fdS ["self", "signs"] [])
    (GI : FnOk P w K mg base CX0 2 fFI fdI ["self", "rule", "place"] (spFI CF)) (bI : Binds K fdI ["self", "rule", "place"] []) :
    FnOk P w K mg base (L2.CX P w) 4 f fd ["self", "signs"] (spRS K CR CF) := by
  refine F.okX scRS (fun vs H Q E h => ?_) (fun cdv A outer s H vs Q E hr h => ?_)
  · obtain ⟨r, dx, ta, t, p, sv, cs, rfl, _⟩ := h
    rfl
  · obtain ⟨r, dx, ta, t, p, sv, cs, rfl, a, hs, hl, q⟩ := h
    obtain ⟨u, hu⟩ := T.rule
    have hr2 : Room 2 _ := hr.mono (by decide)
    refine ⟨_, pss_cons (ps_for (passes_of rfl) rfl (pi_sig (pv 1)) (pg_name (i := 2) scRS.nd rfl (Or.inl rfl))
        (pss_one (ps_if (pt_val (pe_meth (pv 0) T.cl mS GS hr2 bS .nil pass0 (pa_cons (pv 2) pa_nil))) (pss_cons (ps_fldaug (pv 0) pe_int in_add) (pss_one (ps_ret (pv 2)))) pss_nil)))
      (pss_one (ps_raise rfl (takes_of rfl rfl rfl rfl) (pmk_oex T.rf.ox T.iF T.tF GI hr bI .nil pass0 rfl T.gF (pa_cons (pe_glob (v := .int 11) rfl hu ⟨_, rfl⟩) (pa_cons (pe_fld (pv 0) rfl) pa_nil))))), ?_⟩
    rcases hs with rfl | ⟨al, rfl, hq⟩
    · refine .inl ⟨_, rfl, _, rfl, for_it walk_str (fun i σ H1 => (∃ v2, σ = [some (.ref r), some (stV cs), v2]) ∧ Same H H1 ∧ ∀ j k, j < i → cs[j]? = some k → showsM [k] (t.drop p) = false) ⟨⟨_, rfl⟩, Same.refl H, fun j k hj => absurd hj (Nat.not_lt_zero _)⟩ (fun _ _ _ _ _ => trivial) ?_ ?_⟩
      · rintro i x σ H1 H2 hi ⟨⟨v2, rfl⟩, sm, no⟩ ⟨rfl, k, hk, rfl⟩
        have hk' : cs[i]? = some k := by simpa using hk
        refine ⟨_, rfl, r, dx, _, rfl, sm _ _ a.ob, rfl, _, rfl, r, dx, ta, t, p, sgV k, [k], rfl, a.same sm, .inl rfl, by show 1 ≤ 1000; decide, fun H3 sm3 => ⟨_, rfl, ?_⟩⟩
        cases hsh : showsM [k] (t.drop p) with
        | true =>
          refine iteT ?_
          obtain ⟨c, l, ed, ec⟩ := shows_hit hsh
          have a3 := (a.same sm).same sm3
          refine ⟨_, rfl, r, CR, dx, _, _, rfl, a3.ob, T.cl, T.nPlace, look_place ta p, _, _, rfl, rfl, dx, _, a3.ob, by show 2 < 1000; decide, _, rfl, ?_⟩
          have hm : c.toNat ∈ cs := by
            rw [ec]
            exact List.mem_iff_getElem?.mpr ⟨i, hk'⟩
          have e := signM_hit (p := p) (l := l) hm
          rw [← ed] at e
          rw [← drop_succ ed] at e
          have a4 := a3.put (q := p + 1) (drop_lt ed)
          exact q.2 _ _ e _ _ (by rw [ec]) a4 (Only.trans (Only.same sm) (Only.trans (Only.same sm3) Only.upd))
        | false =>
          refine iteF ?_
          refine ⟨⟨_, rfl⟩, sm.trans sm3, fun j k' hj hk2 => ?_⟩
          by_cases hji : j = i
          · subst hji
            rw [hk'] at hk2
            cases hk2
            exact hsh
          · exact no j k' (by omega) hk2
      · rintro σ H1 ⟨⟨v2, rfl⟩, sm, no⟩
        have hn : showsM cs (t.drop p) = false := shows_none fun i k hk => no i k (by have := (List.getElem?_eq_some_iff.mp hk).1; simpa using this) hk
        refine ⟨_, rfl, r, CR, dx, _, _, rfl, sm _ _ a.ob, T.cl, T.nPlace, look_place ta p, ?_⟩
        exact raise_ok (q.1 p (signM_miss hn))
    · refine .inr ⟨_, rfl, al, rfl, ⟨_, hq⟩, for_it (walk_list (xs := cs.map sgV)) (fun i σ H1 => (∃ v2, σ = [some (.ref r), some (.ref al), v2]) ∧ Same H H1 ∧ ∀ j k, j < i → cs[j]? = some k → showsM [k] (t.drop p) = false) ⟨⟨_, rfl⟩, Same.refl H, fun j k hj => absurd hj (Nat.not_lt_zero _)⟩ (fun i σ H1 _ h => h.2.1.seq hq) ?_ ?_⟩
      · rintro i x σ H1 H2 hi ⟨⟨v2, rfl⟩, sm, no⟩ ⟨rfl, hx⟩
        obtain ⟨k, hk', rfl⟩ : ∃ k, cs[i]? = some k ∧ x = sgV k := by
          rw [List.getElem?_map] at hx
          cases e : cs[i]? with
          | none => rw [e] at hx; cases hx
          | some k => rw [e] at hx; exact ⟨k, rfl, (Option.some.inj hx).symm⟩
        refine ⟨_, rfl, r, dx, _, rfl, sm _ _ a.ob, rfl, _, rfl, r, dx, ta, t, p, sgV k, [k], rfl, a.same sm, .inl rfl, by show 1 ≤ 1000; decide, fun H3 sm3 => ⟨_, rfl, ?_⟩⟩
        cases hsh : showsM [k] (t.drop p) with
        | true =>
          refine iteT ?_
          obtain ⟨c, l, ed, ec⟩ := shows_hit hsh
          have a3 := (a.same sm).same sm3
          refine ⟨_, rfl, r, CR, dx, _, _, rfl, a3.ob, T.cl, T.nPlace, look_place ta p, _, _, rfl, rfl, dx, _, a3.ob, by show 2 < 1000; decide, _, rfl, ?_⟩
          have hm : c.toNat ∈ cs := by
            rw [ec]
            exact List.mem_iff_getElem?.mpr ⟨i, hk'⟩
          have e := signM_hit (p := p) (l := l) hm
          rw [← ed] at e
          rw [← drop_succ ed] at e
          have a4 := a3.put (q := p + 1) (drop_lt ed)
          exact q.2 _ _ e _ _ (by rw [ec]) a4 (Only.trans (Only.same sm) (Only.trans (Only.same sm3) Only.upd))
        | false =>
          refine iteF ?_
          refine ⟨⟨_, rfl⟩, sm.trans sm3, fun j k' hj hk2 => ?_⟩
          by_cases hji : j = i
          · subst hji
            rw [hk'] at hk2
            cases hk2
            exact hsh
          · exact no j k' (by omega) hk2
      · rintro σ H1 ⟨⟨v2, rfl⟩, sm, no⟩
        have hn : showsM cs (t.drop p) = false := shows_none fun i k hk => no i k (by have := (List.getElem?_eq_some_iff.mp hk).1; rw [List.length_map]; exact this) hk
        refine ⟨_, rfl, r, CR, dx, _, _, rfl, sm _ _ a.ob, T.cl, T.nPlace, look_place ta p, ?_⟩
        exact raise_ok (q.1 p (signM_miss hn))
end
end Ab

set_option Elab.async false
set_option linter.all false
set_option maxRecDepth 100000
set_option maxHeartbeats 2000000
namespace Ab
open PySem PySem.Spec PyProof.Rows L2 AbM
open Na (Bytes)
theorem if_true_of {c : Bool} {A B : Prop} (hc : c = true) (h : A) : if c = true then A else B := by
  rw [if_pos hc]
  exact h
theorem if_false_of {c : Bool} {A B : Prop} (hc : c = false) (h : B) : if c = true then A else B := by
  rw [hc, if_neg Bool.false_ne_true]
  exact h
theorem S_len (l : List Nat) : (S l).length = l.length := by simp [Str.length]
theorem S_tl (l : List Nat) : (S l).cps.toList = l := by simp
theorem S_inj {a b : List Nat} (h : S a = S b) : a = b := by
  have := congrArg (fun x : Str => x.cps.toList) h
  simpa using this
theorem S_cat (a b : List Nat) : S a ++ S b = S (a ++ b) := SX.S_cat a b
theorem starts_S (w acc : List Nat) : Txt.startswith (S w) (S acc) = decide (acc <+: w) := by
  unfold Txt.startswith
  rw [PySem.StrLaws.subAt_eq, S_len, S_len, S_tl, S_tl]
  by_cases h : acc <+: w
  · rw [decide_eq_true h]
    have e := List.prefix_iff_eq_take.mp h
    have hl := h.length_le
    simp only [Nat.zero_add, List.drop_zero, decide_eq_true hl, Bool.true_and]
    rw [← e]
    exact beq_self_eq_true _
  · rw [decide_eq_false h]
    have e : ¬ ((w.drop 0).take acc.length == acc) = true := fun z => h (List.prefix_iff_eq_take.mpr (by simpa using (eq_of_beq z).symm))
    rw [Bool.not_eq_true] at e
    rw [e, Bool.and_false]
def headOf (acc w : List Nat) : List Nat := if acc <+: w then (w.drop acc.length).head?.toList else []
theorem heads_snoc (acc w : List Nat) (ws : List (List Nat)) : heads (tag acc (ws ++ [w])) = heads (tag acc ws) ++ headOf acc w := by
  unfold tag heads
  rw [List.filterMap_append, List.filterMap_append]
  congr 1
  unfold headOf
  by_cases h : acc <+: w
  · rw [List.filterMap_cons, if_pos h, if_pos h]
    cases w.drop acc.length <;> rfl
  · rw [List.filterMap_cons, if_neg h, if_neg h]
    rfl
theorem headOf_none {acc w : List Nat} (h : ¬ (acc.length < w.length ∧ acc <+: w)) : headOf acc w = [] := by
  unfold headOf
  by_cases hp : acc <+: w
  · rw [if_pos hp]
    have hl : w.length ≤ acc.length := Nat.le_of_not_lt fun z => h ⟨z, hp⟩
    rw [List.drop_eq_nil_of_le hl]
    rfl
  · rw [if_neg hp]
theorem headOf_some {acc w : List Nat} {c : Nat} (hp : acc <+: w) (h : w[acc.length]? = some c) : headOf acc w = [c] := by
  unfold headOf
  rw [if_pos hp, List.head?_drop, h]
  rfl
theorem heads_len (acc : List Nat) (ws : List (List Nat)) : (heads (tag acc ws)).length ≤ ws.length := by
  unfold heads tag
  exact Nat.le_trans (List.length_filterMap_le _ _) (List.length_filterMap_le _ _)
section
variable {P : Program} {w : World} {K : PySem.W.Frag} {mg : Str → Option Value} {base : Heap} {CE fBI CF fFI CR : Addr}
theorem scSB : FnScope ["beginning", "words", "size", "word"] ["beginning", "words"] (defScope sSB) := ⟨rfl, rfl, rfl, by decide +kernel, rfl, by decide +kernel, by decide +kernel⟩
theorem ok_SB {f : Addr} {fd : FuncData} (F : Fun K "signs_behind" "signs_behind" sSB f fd) (T : Txt K mg CE fBI CF fFI CR) : FnOk P w K mg base CX0 1 f fd ["beginning", "words"] (spSB K) := by
  refine F.ok scSB (fun vs H Q E h => ?_) (fun cdv A outer s H vs Q E hr h => ?_)
  · obtain ⟨wl, acc, ws, rfl, _⟩ := h
    rfl
  · obtain ⟨wl, acc, ws, rfl, hq, hl1, hl2, hl3, q⟩ := h
    refine ⟨_, pss_cons (ps_set (i := 2) scSB.nd rfl (Or.inr rfl) (pe_callB call_len_str (by rfl) T.len PySem.boot_len (pa_cons (pv 0) pa_nil)))
      (pss_one (ps_ret (pe_lc (own := [("word", 3)]) (g := gName 3) rfl scSB.nd (pi_list (pv 1)) (blkOk_by (N := ["beginning", "words", "size", "word"]) (sc := defScope sSB) (by decide +kernel)) (fun _ _ _ _ _ => pg_name (i := 3) scSB.nd rfl (Or.inl rfl))
        (fun _ _ _ _ _ => pts_one (PW.pt (pw_and (pt_cmpR op_gt (pe_callB call_len_str (by rfl) T.len PySem.boot_len (pa_cons (pv 3) pa_nil)) (pv 2) (nomark _))
          (pw_and1 (pt_val (pe_m1 PySem.F.slot_str_startswith PySem.F.type_str_startswith mt_startswith (pv 3) (pv 0)))))))
        (fun _ _ _ _ _ => pe_ix ix_str (pv 3) (pv 2) (fun _ _ => rfl))))), ?_⟩
    have small : ∀ l : List Nat, l.length ≤ 1000 → (S l).length ≤ sizeLine := fun l h => by
      rw [S_len]
      exact Nat.le_of_lt (small1000 h)
    refine ⟨_, rfl, _, rfl, small acc hl2, ?_⟩
    refine ⟨_, rfl, wl, rfl, ⟨_, hq⟩, fun D hD => lc_it (walk_list (xs := ws.map stV)) (Pv := fun i H' => H' = upd H D (.lst ((heads (tag acc (ws.take i))).map sgV))) rfl (fun i H' _ e => ?_) ?_ ?_⟩
    · rw [e]
      exact (same_upd hD).seq hq
    · rintro i x H1 H2 hi e ⟨rfl, hx⟩
      obtain ⟨wd, hk, rfl⟩ : ∃ wd, ws[i]? = some wd ∧ x = stV wd := by
        rw [List.getElem?_map] at hx
        cases e : ws[i]? with
        | none => rw [e] at hx; cases hx
        | some k => rw [e] at hx; exact ⟨k, rfl, (Option.some.inj hx).symm⟩
      have hw : wd.length ≤ 1000 := hl3 wd (List.mem_of_getElem? hk)
      have more : heads (tag acc (ws.take (i + 1))) = heads (tag acc (ws.take i)) ++ headOf acc wd := by
        rw [List.take_add_one, hk]
        exact heads_snoc acc wd (ws.take i)
      refine ⟨rfl, ?_⟩
      refine ⟨_, rfl, _, rfl, small wd hw, _, rfl, _, _, rfl, rfl, _, rfl, ?_⟩
      by_cases h1 : acc.length < wd.length
      · have e1 : decide (((S acc).length : Int) < ((S wd).length : Int)) = true := by
          rw [S_len, S_len]
          exact decide_eq_true (by omega)
        refine if_true_of e1 ?_
        refine ⟨_, rfl, ⟨_, rfl⟩, _, rfl, _, _, rfl, rfl, _, rfl, ?_⟩
        by_cases h2 : acc <+: wd
        · refine if_true_of (by rw [starts_S]; exact decide_eq_true h2) ?_
          have hc : wd[acc.length]? = some wd[acc.length] := List.getElem?_eq_getElem h1
          refine ⟨_, rfl, _, rfl, S wd, _, wd[acc.length], rfl, rfl, small wd hw, ?_, _, by rw [e]; exact upd_same, ?_, ?_⟩
          · rw [S_len, S_tl]
            exact atI_nat hc
          · rw [List.length_map]
            refine small1000 (Nat.le_trans (heads_len _ _) ?_)
            rw [List.length_take]
            omega
          · rw [e, upd_upd, more, headOf_some h2 hc, List.map_append]
            rfl
        · refine if_false_of (by rw [starts_S]; exact decide_eq_false h2) ?_
          rw [e, more, headOf_none (fun z => h2 z.2), List.append_nil]
      · have e1 : decide (((S acc).length : Int) < ((S wd).length : Int)) = false := by
          rw [S_len, S_len]
          exact decide_eq_false (by omega)
        refine if_false_of e1 ?_
        refine if_false_of rfl ?_
        rw [e, more, headOf_none (fun z => h1 z.1), List.append_nil]
    · intro H' e
      rw [List.length_map, List.take_length] at e
      subst e
      exact q _ D (same_upd hD) hD upd_same
end
end Ab

set_option Elab.async false
set_option linter.all false
set_option maxRecDepth 100000
set_option maxHeartbeats 2000000
namespace Ab
open PySem PySem.Spec PyProof.Rows L2 AbM
open Na (Bytes)
theorem inV_st (acc : List Nat) : ∀ ws : List (List Nat), inV (stV acc) (ws.map stV) = decide (acc ∈ ws)
  | [] => by simp [inV]
  | k :: r => by
    have ih := inV_st acc r
    unfold inV at ih ⊢
    rw [List.map_cons, List.any_cons, ih]
    show ((S k == S acc) || decide (acc ∈ r)) = _
    by_cases h : acc = k
    · subst h
      simp
    · have e : (S k == S acc) = false := beq_eq_false_iff_ne.mpr fun z => h (S_inj z).symm
      rw [e, Bool.false_or]
      by_cases h3 : acc ∈ r
      · rw [decide_eq_true h3, decide_eq_true (List.mem_cons_of_mem _ h3)]
      · rw [decide_eq_false h3, decide_eq_false (fun z => (List.mem_cons.mp z).elim h h3)]
theorem flat_st (ws : List (List Nat)) : (ws.map stV).all flatV = true := by
  rw [List.all_map]
  exact List.all_eq_true.mpr fun _ _ => rfl
theorem heads_mem {acc : List Nat} {ws : List (List Nat)} {c : Nat} (h : c ∈ heads (tag acc ws)) : ∃ w ∈ ws, acc.length < w.length := by
  unfold heads tag at h
  obtain ⟨x, hx, e⟩ := List.mem_filterMap.mp h
  obtain ⟨w, hw, e2⟩ := List.mem_filterMap.mp hx
  by_cases hp : acc <+: w
  · rw [if_pos hp] at e2
    cases e2
    refine ⟨w, hw, Nat.lt_of_not_le fun hl => ?_⟩
    have e' : (w.drop acc.length).head? = some c := e
    rw [List.drop_eq_nil_of_le hl] at e'
    cases e'
  · rw [if_neg hp] at e2
    cases e2
theorem shows_no {cs : List Nat} {b : Bytes} (h : showsM cs b = false) : ∀ c l, b = c :: l → c.toNat ∉ cs := fun c l e => by
  subst e
  exact of_decide_eq_false h
theorem shows_yes {cs : List Nat} {b : Bytes} (h : showsM cs b = true) : ∃ c l, b = c :: l ∧ c.toNat ∈ cs := by
  cases b with
  | nil => cases h
  | cons c l => exact ⟨c, l, rfl, of_decide_eq_true h⟩
section
variable {P : Program} {w : World} {K : PySem.W.Frag} {mg : Str → Option Value} {base : Heap} {CE fBI CF fFI CR : Addr}
theorem scRW : FnScope ["self", "words", "word", "signs"] ["self", "words"] (defScope sRW) := ⟨rfl, rfl, rfl, by decide +kernel, rfl, by decide +kernel, by decide +kernel⟩
theorem ok_RW {f fS fRS fSB : Addr} {fd fdS fdI fdRS fdSB : FuncData} (F : Fun K "read_word" "Reader.read_word" sRW f fd) (T : Txt K mg CE fBI CF fFI CR) (mS : Meth K CR "shows" fS) (GS : FnOk P w K mg base CX0 2 fS fdS ["self", "signs"] (spSh K CR)) (bS : Binds K fdS ["self", "signs"] [])
    (GI : FnOk P w K mg base CX0 2 fFI fdI ["self", "rule", "place"] (spFI CF)) (bI : Binds K fdI ["self", "rule", "place"] [])
    (mR : Meth K CR "read_sign" fRS) (GR : FnOk P w K mg base (L2.CX P w) 4 fRS fdRS ["self", "signs"] (spRS K CR CF)) (bR : Binds K fdRS ["self", "signs"] [])
    (gB : mg "signs_behind" = some (.ref fSB)) (kB : PySem.W.keepIn K (.ref fSB) = true) (GB : FnOk P w K mg base CX0 1 fSB fdSB ["beginning", "words"] (spSB K)) (bB : Binds K fdSB ["beginning", "words"] []) :
    FnOk P w K mg base (L2.CX P w) 5 f fd ["self", "words"] (spRW K CR CF) := by
  refine F.okX scRW (fun vs H Q E h => ?_) (fun cdv A outer s H vs Q E hr h => ?_)
  · obtain ⟨r, dx, ta, t, p, wl, ws, rfl, _⟩ := h
    rfl
  · obtain ⟨r, dx, ta, t, p0, wl, ws, rfl, a, hq, hl1, hl2, q⟩ := h
    obtain ⟨u, hu⟩ := T.rule
    have hr2 : Room 2 _ := hr.mono (by decide)
    have hr1 : Room 1 _ := hr.mono (by decide)
    have hr3 : Room 3 _ := hr.mono (by decide)
    refine ⟨_, pss_cons (ps_set (i := 2) scRW.nd rfl (Or.inl rfl) pe_str)
      (pss_cons (ps_set (i := 3) scRW.nd rfl (Or.inl rfl) (pe_call GB hr1 rfl gB kB bB .nil pass0 (pa_cons (pv 2) (pa_cons (pv 1) pa_nil))))
      (pss_cons (ps_while (passes_of rfl) (pt_val (pe_meth (pv 0) T.cl mS GS hr2 bS .nil pass0 (pa_cons (pv 3) pa_nil)))
        (pss_cons (ps_aug (i := 2) scRW.nd rfl (Or.inl rfl) (pe_meth (pv 0) T.cl mR GR hr bR .nil (passes_call (takes_of rfl rfl rfl rfl) (fun _ _ _ _ h => h)) (pa_cons (pv 3) pa_nil)) in_addS)
          (pss_one (ps_set (i := 3) scRW.nd rfl (Or.inl rfl) (pe_call GB hr1 rfl gB kB bB .nil pass0 (pa_cons (pv 2) (pa_cons (pv 1) pa_nil)))))))
      (pss_cons (ps_if (pt_cmpR op_notIn_seq (pv 2) (pv 1) rfl)
          (pss_one (ps_raise rfl (takes_of rfl rfl rfl rfl) (pmk_oex T.rf.ox T.iF T.tF GI hr3 bI .nil pass0 rfl T.gF (pa_cons (pe_glob (v := .int 11) rfl hu ⟨_, rfl⟩) (pa_cons (pe_fld (pv 0) rfl) pa_nil))))) pss_nil)
      (pss_one (ps_ret (pv 2)))))), ?_⟩
    refine ⟨_, rfl, _, rfl, wl, [], ws, rfl, hq, hl1, Nat.zero_le _, fun w hw => Nat.le_trans (hl2 w hw) (by decide), fun H1 D sm nD eD => ?_⟩
    refine ⟨fun m σ H1 => ∃ (acc : List Nat) (p : Nat) (sl : Addr), σ = [some (.ref r), some (.ref wl), some (stV acc), some (.ref sl)] ∧ At K CR r dx ta t H1 p ∧ Only r r H H1 ∧ H1 sl = some (.lst ((heads (tag acc ws)).map sgV)) ∧
      munch (t.drop p0) (tag [] ws) p0 = munch (t.drop p) (tag acc ws) p ∧ acc.length ≤ 1000 ∧ m = t.length - p, ⟨_, [], p0, D, rfl, a.same sm, Only.same sm, eD, rfl, Nat.zero_le _, rfl⟩, ?_⟩
    rintro m σ H2 ⟨acc, p, sl, rfl, a2, on, es, em, hacc, rfl⟩
    refine ⟨_, rfl, r, dx, _, rfl, a2.ob, rfl, _, rfl, r, dx, ta, t, p, _, heads (tag acc ws), rfl, a2, .inr ⟨sl, rfl, SqL.of es⟩, Nat.le_trans (heads_len _ _) hl1, fun H3 sm3 => ⟨_, rfl, ?_⟩⟩
    have a3 := a2.same sm3
    have on3 : Only r r H H3 := on.trans (Only.same sm3)
    have hq3 : SqL K H3 wl (ws.map stV) := seq_only1 hq a.ob on3
    cases hsh : showsM (heads (tag acc ws)) (t.drop p) with
    | true =>
      refine iteT ?_
      obtain ⟨c, l, ed, hc⟩ := shows_yes hsh
      refine ⟨fun σ H1 => ∃ (acc : List Nat) (p' : Nat) (sl : Addr), σ = [some (.ref r), some (.ref wl), some (stV acc), some (.ref sl)] ∧ At K CR r dx ta t H1 p' ∧ Only r r H H1 ∧ H1 sl = some (.lst ((heads (tag acc ws)).map sgV)) ∧
        munch (t.drop p0) (tag [] ws) p0 = munch (t.drop p') (tag acc ws) p' ∧ acc.length ≤ 1000 ∧ p' = p + 1, ?_, ?_⟩
      · rintro σ' H' ⟨acc', p', sl', e, a4, on4, es4, em4, hacc4, rfl⟩
        have := drop_lt ed
        exact ⟨_, by omega, acc', p + 1, sl', e, a4, on4, es4, em4, hacc4, rfl⟩
      · refine ⟨_, rfl, _, rfl, r, dx, _, rfl, a3.ob, rfl, _, rfl, r, dx, ta, t, p, _, heads (tag acc ws), rfl, a3, .inr ⟨sl, rfl, SqL.of (sm3 _ _ es)⟩, Nat.le_trans (heads_len _ _) hl1, ?_, ?_⟩
        · intro k hk
          rw [ed, signM_hit hc] at hk
          cases hk
        · intro c' q' hk H4 v ev a4 on4
          subst ev
          rw [ed, signM_hit hc] at hk
          have hk1 := Except.ok.inj hk
          have e1 : c.toNat = c' := (Prod.mk.inj hk1).1
          have e2 : p + 1 = q' := (Prod.mk.inj (Prod.mk.inj hk1).2).1
          subst e1
          subst e2
          obtain ⟨w, hw, hlt⟩ := heads_mem hc
          have hw2 := hl2 w hw
          have on5 : Only r r H H4 := on3.trans on4
          have hq4 : SqL K H4 wl (ws.map stV) := seq_only1 hq a.ob on5
          refine ⟨S acc, _, rfl, rfl, ?_, ?_⟩
          · rw [S_len]
            show acc.length + 1 ≤ sizeLine
            exact Nat.le_of_lt (small1000 (by omega))
          · refine ⟨_, rfl, _, rfl, wl, acc ++ [c.toNat], ws, ?_, hq4, hl1, by rw [List.length_append]; show acc.length + 1 ≤ 1000; omega, fun w hw => Nat.le_trans (hl2 w hw) (by decide), fun H5 D5 sm5 nD5 eD5 => ?_⟩
            · show [V.str (S acc ++ S [c.toNat]), V.ref wl] ++ [] = [stV (acc ++ [c.toNat]), V.ref wl]
              rw [S_cat]
              rfl
            · refine ⟨acc ++ [c.toNat], p + 1, D5, ?_, a4.same sm5, on5.trans (Only.same sm5), eD5, ?_, by rw [List.length_append]; show acc.length + 1 ≤ 1000; omega, rfl⟩
              · show [some (V.ref r), some (V.ref wl), some (V.str (S acc ++ S [c.toNat])), some (V.ref D5)] = _
                rw [S_cat]
              · rw [em, ed, munch_go hc, drop_succ ed]
    | false =>
      refine iteF ?_
      have st := munch_stop (ws := ws) (acc := acc) (p := p) (b := t.drop p) (shows_no hsh)
      rw [← em] at st
      refine ⟨_, rfl, _, rfl, wl, _, rfl, .inl hq3, rfl, flat_st ws, _, rfl, ?_⟩
      rw [inV_st]
      by_cases hm : acc ∈ ws
      · refine if_false_of (by rw [decide_eq_true hm]; rfl) ?_
        rw [if_pos hm] at st
        exact ⟨_, rfl, q.2 acc p st H3 _ rfl a3 on3⟩
      · refine if_true_of (by rw [decide_eq_false hm]; rfl) ?_
        rw [if_neg hm] at st
        refine ⟨_, rfl, r, CR, dx, _, _, rfl, a3.ob, T.cl, T.nPlace, look_place ta p, ?_⟩
        exact raise_ok (q.1 p st)
end
end Ab

set_option Elab.async false
set_option linter.all false
set_option maxRecDepth 100000
set_option maxHeartbeats 2000000
namespace Ab
open PySem PySem.Spec PyProof.Rows L2 AbM
open Na (Bytes)
/-- what is open, as the program keeps it: the innermost last -/
def bkW (k : Nat) : List Nat := if k = 1 then wIf else if k = 0 then wWhile else wElse
abbrev bkV (o : List Nat) : List V := o.reverse.map fun k => stV (bkW k)
def spLW (K : PySem.W.Frag) : Sp := fun vs H Q _ => ∃ (bl : Addr) (o : List Nat), vs = [.ref bl] ∧ H bl = some (.lst (bkV o)) ∧ o.length ≤ 16 ∧
  ∀ (H' : Hp) (D : Addr), Same H H' → H D = none → H' D = some (.lst ((lineWords o).map stV)) → Q (.ref D) H'
/-- what the grammar's top has written -/
structure Gram (mg : Str → Option Value) : Prop where
  blocks : ∃ u, mg "MOST_BLOCKS" = some (.int 16 u)
  bracks : ∃ u, mg "MOST_BRACKETS" = some (.int 16 u)
  mdig : ∃ u, mg "MOST_DIGITS" = some (.int 4 u)
  digits : ∃ u, mg "DIGITS" = some (.str "0123456789" u)
  heads : ∃ u, mg "HEADS" = some (.str "abcdefgh" u)
  marks : ∃ u, mg "MARKS" = some (.str "ABCDEFGH" u)
theorem bkW_if {k : Nat} (h : k ≠ 1) : bkW k ≠ wIf := by
  unfold bkW
  rw [if_neg h]
  split <;> decide
def lwX (o : List Nat) : List (List Nat) := [wAdd, wTake, wSet, wStop, wFail] ++ (if o.length < 16 then [wIf, wWhile] else [])
theorem lwX_len (o : List Nat) : (lwX o).length ≤ 10 := by
  unfold lwX
  split <;> decide
theorem lw_if (r : List Nat) : lineWords (1 :: r) = lwX (1 :: r) ++ [wEnd] ++ [wElse] := by
  rw [List.append_assoc]
  rfl
theorem lw_other {k : Nat} (r : List Nat) (h : k ≠ 1) : lineWords (k :: r) = lwX (k :: r) ++ [wEnd] := by
  show ([wAdd, wTake, wSet, wStop, wFail] ++ (if (k :: r).length < 16 then [wIf, wWhile] else [])) ++ (wEnd :: (if some k = some 1 then [wElse] else [])) = _
  rw [if_neg (fun z => h (Option.some.inj z))]
  rfl
section
variable {P : Program} {w : World} {K : PySem.W.Frag} {mg : Str → Option Value} {base : Heap} {CE fBI CF fFI CR : Addr}
theorem scLW : FnScope ["blocks", "words"] ["blocks"] (defScope sLW) := ⟨rfl, rfl, rfl, by decide +kernel, rfl, by decide +kernel, by decide +kernel⟩
theorem ok_LW {f : Addr} {fd : FuncData} (F : Fun K "line_words" "line_words" sLW f fd) (T : Txt K mg CE fBI CF fFI CR) (G : Gram mg) : FnOk P w K mg base CX0 1 f fd ["blocks"] (spLW K) := by
  refine F.ok scLW (fun vs H Q E h => ?_) (fun cdv A outer s H vs Q E hr h => ?_)
  · obtain ⟨bl, o, rfl, _⟩ := h
    rfl
  · obtain ⟨bl, o, rfl, hb, ho, q⟩ := h
    obtain ⟨u, hu⟩ := G.blocks
    refine ⟨_, pss_cons (ps_set (i := 1) scLW.nd rfl (Or.inl rfl) (pe_lst (pa_cons pe_str (pa_cons pe_str (pa_cons pe_str (pa_cons pe_str (pa_cons pe_str pa_nil)))))))
      (C8.pss_cut (ps_if (pt_cmpR op_lt (pe_callB call_len_seq (by rfl) T.len PySem.boot_len (pa_cons (pv 0) pa_nil)) (pe_glob (v := .int 16) rfl hu ⟨_, rfl⟩) (nomark _))
        (pss_one (ps_expr (pe_bm PySem.F.plainAttrs_list PySem.F.slot_list_extend PySem.F.type_list_extend mt_extend (pv 1) (pa_cons (pe_lst (pa_cons pe_str (pa_cons pe_str pa_nil))) pa_nil)))) pss_nil)
      (C8.pss_cut (ps_if (pt_truth (pv 0) (by intro _; rfl))
        (pss_cons (ps_expr (pe_bm PySem.F.plainAttrs_list PySem.F.slot_list_append PySem.F.type_list_append mt_append (pv 1) (pa_cons pe_str pa_nil)))
          (pss_one (ps_if (pt_cmpR op_eq (pe_ix ix_list (pv 0) (pe_un un_neg pe_int) (fun _ _ => rfl)) pe_str (nomark _))
            (pss_one (ps_expr (pe_bm PySem.F.plainAttrs_list PySem.F.slot_list_append PySem.F.type_list_append mt_append (pv 1) (pa_cons pe_str pa_nil)))) pss_nil))) pss_nil)
      (pss_one (ps_ret (pv 1))))), ?_⟩
    refine ⟨by show 5 ≤ sizeLine; exact Nat.le_of_lt (small1000 (by decide)), fun D nD => ?_⟩
    have e0 : ([V.str "add ", V.str "take ", V.str "set ", V.str "stop\n", V.str "fail\n"] : List V) = ([wAdd, wTake, wSet, wStop, wFail] : List (List Nat)).map stV := by rfl
    refine ⟨fun σ H1 => σ = [some (.ref bl), some (.ref D)] ∧ Same H H1 ∧ H1 D = some (.lst ((lwX o).map stV)), ?_, ?_⟩
    · have hb1 : (upd H D (.lst (([wAdd, wTake, wSet, wStop, wFail] : List (List Nat)).map stV))) bl = some (.lst (bkV o)) := by rw [upd_ne (ne_of_none hb nD)]; exact hb
      refine ⟨_, rfl, bl, _, rfl, .inl (SqL.of hb1), _, _, rfl, rfl, _, rfl, ?_⟩
      have el : ((bkV o).length : Nat) = o.length := by simp
      by_cases hl : o.length < 16
      · refine if_true_of (by rw [el]; exact decide_eq_true (by omega)) ?_
        refine ⟨_, rfl, .inl ⟨rfl, _, SqL.of upd_same⟩, by show 2 ≤ sizeLine; exact Nat.le_of_lt (small1000 (by decide)), fun D2 nD2 => ?_⟩
        have nd : D ≠ D2 := ne_of_none upd_same nD2
        refine ⟨D, D2, _, _, rfl, rfl, by rw [upd_ne nd]; exact upd_same, upd_same, by show 5 + 2 ≤ sizeLine; exact Nat.le_of_lt (small1000 (by decide)), rfl, ?_, ?_⟩
        · refine fun b x e => ?_
          have n1 := ne_of_none e nD
          have n2 : b ≠ D2 := by
            have : (upd H D (.lst (([wAdd, wTake, wSet, wStop, wFail] : List (List Nat)).map stV))) b = some x := by rw [upd_ne n1]; exact e
            exact ne_of_none this nD2
          rw [upd_ne n1, upd_ne n2]
          show upd H D _ b = _
          rw [upd_ne n1]
          exact e
        · rw [upd_same]
          unfold lwX
          rw [if_pos hl]
          rfl
      · refine if_false_of (by rw [el]; exact decide_eq_false (by omega)) ?_
        refine ⟨rfl, same_upd nD, ?_⟩
        unfold lwX
        rw [if_neg hl]
        exact upd_same
    · rintro σ H1 ⟨rfl, sm, eD⟩
      have hb1 := sm _ _ hb
      refine ⟨fun σ H1 => σ = [some (.ref bl), some (.ref D)] ∧ Same H H1 ∧ H1 D = some (.lst ((lineWords o).map stV)), ?_, ?_⟩
      · refine ⟨_, rfl, !(bkV o).isEmpty, .inl ⟨_, SqL.of hb1, rfl⟩, ?_⟩
        cases o with
        | nil =>
          refine if_false_of rfl ?_
          refine ⟨rfl, sm, ?_⟩
          rw [eD]
          rfl
        | cons k r =>
          have hne : (!(bkV (k :: r)).isEmpty) = true := by simp [bkV]
          refine if_true_of hne ?_
          refine ⟨_, rfl, .inl ⟨rfl, _, SqL.of eD⟩, D, _, _, rfl, rfl, eD, ?_, ?_⟩
          · rw [List.length_map]
            have := lwX_len (k :: r)
            exact small1000 (by omega)
          · have nb : bl ≠ D := ne_of_none hb nD
            have hb2 : ∀ o', (upd H1 D o') bl = some (.lst (bkV (k :: r))) := fun o' => by rw [upd_ne nb]; exact hb1
            have elast : bkV (k :: r) = bkV r ++ [stV (bkW k)] := by
              show ((k :: r).reverse.map _) = _
              rw [List.reverse_cons, List.map_append]
              rfl
            refine ⟨_, rfl, _, rfl, bl, _, _, _, rfl, rfl, SqL.of (hb2 _), by rw [elast]; exact atI_last _ _, rfl, _, rfl, ?_⟩
            have sm2 : ∀ o', Same H (upd H1 D o') := fun o' b x e => by
              rw [upd_ne (ne_of_none e nD)]
              exact sm b x e
            by_cases hk : k = 1
            · subst hk
              refine if_true_of (by rfl) ?_
              refine ⟨_, rfl, .inl ⟨rfl, _, SqL.of upd_same⟩, D, _, _, rfl, rfl, upd_same, ?_, rfl, ?_, ?_⟩
              · rw [List.length_append, List.length_map]
                have := lwX_len (1 :: r)
                exact small1000 (by show _ + 1 ≤ 1000; omega)
              · rw [upd_upd]
                exact sm2 _
              · rw [upd_same]
                rw [lw_if, List.map_append, List.map_append]
                rfl
            · refine if_false_of (decide_eq_false fun z => ?_) ?_
              · have z' : S (bkW k) = S wIf := by
                  have := V.str.inj z
                  exact this
                exact bkW_if hk (S_inj z')
              · refine ⟨rfl, sm2 _, ?_⟩
                rw [upd_same]
                rw [lw_other r hk, List.map_append]
                rfl
      · rintro σ H2 ⟨rfl, sm2, eD2⟩
        exact ⟨_, rfl, q H2 D sm2 nD eD2⟩
end
end Ab

set_option Elab.async false
set_option linter.all false
set_option maxRecDepth 100000
set_option maxHeartbeats 2000000
namespace Ab
open PySem PySem.Spec PyProof.Rows L2 AbM
open Na (Bytes isDigit)
/-- what closes the brackets that are open, as the program keeps it: the innermost last -/
abbrev clV (cs : List UInt8) : List V := cs.reverse.map fun c => sgV c.toNat
theorem clV_cons (k : UInt8) (cs : List UInt8) : clV (k :: cs) = clV cs ++ [sgV k.toNat] := by
  show ((k :: cs).reverse.map _) = _
  rw [List.reverse_cons, List.map_append]
  rfl
theorem clV_len (cs : List UInt8) : (clV cs).length = cs.length := by simp
/-- a number, a sign, as the program keeps it -/
def tokV : Tk → V
  | .inl n => .int ((n : Nat) : Int)
  | .inr c => sgV c
abbrev tkV (L : List Tk) : List V := L.map tokV
theorem tkV_snoc (L : List Tk) (c : Nat) : tkV L ++ [sgV c] = tkV (L ++ [.inr c]) := by simp [tkV, tokV]
theorem small5 {n : Nat} (h : n ≤ 100000) : n < sizeLine := by rw [sizeLine_eq]; omega
theorem small5' {n : Nat} (h : n ≤ 100000) : n ≤ sizeLine := Nat.le_of_lt (small5 h)
theorem tk_small {t : Bytes} {p q : Nat} {L : List Tk} (h : Lex (t.drop p) L (t.drop q)) (hs : t.length ≤ 5000) : (tkV L).length ≤ 5000 := by
  have := h.len
  rw [List.length_map]
  rw [List.length_drop, List.length_drop] at this
  omega
theorem Only.upn {r c D : Addr} {H H1 : Hp} {o : HO} (a : Only r c H H1) (n : H D = none) : Only r c H (L2.upd H1 D o) := fun x u h1 h2 h => by
  rw [upd_ne (ne_of_none h n)]
  exact a x u h1 h2 h
theorem Only.thru {r c D : Addr} {H H1 H2 : Hp} (a : Only r c H H1) (n : H D = none) (b : Only r D H1 H2) : Only r c H H2 := fun x u h1 h2 h => b x u h1 (ne_of_none h n) (a x u h1 h2 h)
theorem At.updn {K : PySem.W.Frag} {CR r dx ta : Addr} {t : Bytes} {H : Hp} {p : Nat} (a : At K CR r dx ta t H p) {D : Addr} {o : HO} (n : r ≠ D) (x : Apart K ta D (bs t)) : At K CR r dx ta t (L2.upd H D o) p := a.updc n x
def spRO (K : PySem.W.Frag) (CR : Addr) : Sp := fun vs H Q _ => ∃ (r dx ta cl : Addr) (t : Bytes) (p : Nat) (cs : List UInt8), vs = [.ref r, .ref cl] ∧ At K CR r dx ta t H p ∧ H cl = some (.lst (clV cs)) ∧ Apart K ta cl (bs t) ∧ Cl cs ∧ cs.length ≤ 16 ∧
  ∀ (q : Nat) (cs' : List UInt8) (H' : Hp) (D : Addr) (L : List Tk), p ≤ q → At K CR r dx ta t H' q → Only r cl H H' → H' cl = some (.lst (clV cs')) → Cl cs' → cs'.length ≤ 16 → scan (t.drop p) .f cs p = scan (t.drop q) .f cs' q →
    (cs'.length < 16 → ∀ c l, t.drop q = c :: l → isBr c = false) → H D = none → H' D = some (.lst (tkV L)) → Lex (t.drop p) L (t.drop q) → Q (.ref D) H'
def spRC (K : PySem.W.Frag) (CR : Addr) : Sp := fun vs H Q _ => ∃ (r dx ta cl : Addr) (t : Bytes) (p : Nat) (cs : List UInt8), vs = [.ref r, .ref cl] ∧ At K CR r dx ta t H p ∧ H cl = some (.lst (clV cs)) ∧ Apart K ta cl (bs t) ∧ Cl cs ∧ cs.length ≤ 16 ∧
  ∀ (q : Nat) (cs' : List UInt8) (H' : Hp) (D : Addr) (L : List Tk), p ≤ q → At K CR r dx ta t H' q → Only r cl H H' → H' cl = some (.lst (clV cs')) → Cl cs' → cs'.length ≤ 16 → aft cs p (t.drop p) = aft cs' q (t.drop q) →
    (∀ k r, cs' = k :: r → ∀ c l, t.drop q = c :: l → c ≠ k) → H D = none → H' D = some (.lst (tkV L)) → Lex (t.drop p) L (t.drop q) → Q (.ref D) H'
theorem lex_br {t : Bytes} {p : Nat} {c : UInt8} {l : Bytes} (ed : t.drop p = c :: l) (h : isDigit c = false) : Lex (t.drop p) [.inr c.toNat] (t.drop (p + 1)) := by
  rw [ed, drop_succ ed]
  exact .one (lex_sign h)
theorem cl_dig {c : UInt8} (h : c = 93 ∨ c = 41) : isDigit c = false := by
  rcases h with e | e <;> (subst e; rfl)
/-- the table of brackets -/
structure Brk (K : PySem.W.Frag) (mg : Str → Option Value) (w : World) (aB : Addr) : Prop where
  gB : mg "BRACKETS" = some (.ref aB)
  sq : KDct K w aB ⟨#[91]⟩ (sgV 93)
  rd : KDct K w aB ⟨#[40]⟩ (sgV 41)
section
variable {P : Program} {w : World} {K : PySem.W.Frag} {mg : Str → Option Value} {base : Heap} {CE fBI CF fFI CR aB : Addr}
theorem Brk.at (B : Brk K mg w aB) {c : UInt8} (h : isBr c = true) : KDct K w aB ⟨#[c.toNat]⟩ (sgV (closer c).toNat) := by
  unfold isBr at h
  rcases (Bool.or_eq_true _ _).mp h with e | e
  · rw [beq_iff_eq] at e
    subst e
    exact B.sq
  · rw [beq_iff_eq] at e
    subst e
    exact B.rd
theorem scRO : FnScope ["reader", "closers", "brackets", "bracket"] ["reader", "closers"] (defScope sRO) := ⟨rfl, rfl, rfl, by decide +kernel, rfl, by decide +kernel, by decide +kernel⟩
theorem ok_RO {f fS fRS : Addr} {fd fdS fdRS : FuncData} (F : Fun K "read_opening_brackets" "read_opening_brackets" sRO f fd) (T : Txt K mg CE fBI CF fFI CR) (G : Gram mg) (B : Brk K mg w aB) (mS : Meth K CR "shows" fS) (GS : FnOk P w K mg base CX0 2 fS fdS ["self", "signs"] (spSh K CR)) (bS : Binds K fdS ["self", "signs"] [])
    (mR : Meth K CR "read_sign" fRS) (GR : FnOk P w K mg base (L2.CX P w) 4 fRS fdRS ["self", "signs"] (spRS K CR CF)) (bR : Binds K fdRS ["self", "signs"] []) :
    FnOk P w K mg base (L2.CX P w) 5 f fd ["reader", "closers"] (spRO K CR) := by
  refine F.okX scRO (fun vs H Q E h => ?_) (fun cdv A outer s H vs Q E hr h => ?_)
  · obtain ⟨r, dx, ta, cl, t, p, cs, rfl, _⟩ := h
    rfl
  · obtain ⟨r, dx, ta, cl, t, p0, cs0, rfl, a, hc, nt, hcl, hl, q⟩ := h
    obtain ⟨u, hu⟩ := G.bracks
    have hr2 : Room 2 _ := hr.mono (by decide)
    have nr : r ≠ cl := ne_of a.ob hc (by intro z; cases z)
    refine ⟨_, pss_cons (ps_set (i := 2) scRO.nd rfl (Or.inl rfl) (pe_lst pa_nil)) (pss_cons (ps_while (passes_of rfl) (PW.pt (pw_and (pt_cmpR op_lt (pe_callB call_len_seq (by rfl) T.len PySem.boot_len (pa_cons (pv 1) pa_nil)) (pe_glob (v := .int 16) rfl hu ⟨_, rfl⟩) (nomark _))
        (pw_and1 (pt_val (pe_meth (pv 0) T.cl mS GS hr2 bS .nil pass0 (pa_cons pe_str pa_nil))))))
      (pss_cons (ps_set (i := 3) scRO.nd rfl (Or.inl rfl) (pe_meth (pv 0) T.cl mR GR hr bR .nil (passes_call (takes_of rfl rfl rfl rfl) (fun _ _ _ _ h => h)) (pa_cons pe_str pa_nil)))
      (pss_cons (ps_expr (pe_bm PySem.F.plainAttrs_list PySem.F.slot_list_append PySem.F.type_list_append mt_append (pv 2) (pa_cons (pv 3) pa_nil)))
      (pss_one (ps_expr (pe_bm PySem.F.plainAttrs_list PySem.F.slot_list_append PySem.F.type_list_append mt_append (pv 1)
        (pa_cons (pe_ix ix_kdict (pe_glob (v := .ref aB) rfl B.gB rfl) (pv 3) (fun _ _ => rfl)) pa_nil))))))) (pss_one (ps_ret (pv 2)))), ?_⟩
    refine ⟨Nat.zero_le _, fun D nD => ?_⟩
    have nrD : r ≠ D := ne_of_none a.ob nD
    have ncD : cl ≠ D := ne_of_none hc nD
    have ntD : Apart K ta D (bs t) := Apart.new a.tx nD
    refine ⟨fun m σ H1 => ∃ (cs : List UInt8) (p : Nat) (L : List Tk) (v3 : Option V), σ = [some (.ref r), some (.ref cl), some (.ref D), v3] ∧ At K CR r dx ta t H1 p ∧ Only r cl H H1 ∧ H1 cl = some (.lst (clV cs)) ∧ Cl cs ∧ cs.length ≤ 16 ∧
      scan (t.drop p0) .f cs0 p0 = scan (t.drop p) .f cs p ∧ p0 ≤ p ∧ H1 D = some (.lst (tkV L)) ∧ Lex (t.drop p0) L (t.drop p) ∧ m = t.length - p,
      ⟨_, cs0, p0, [], _, rfl, a.updn nrD ntD, Only.refl.upn nD, by rw [upd_ne ncD]; exact hc, hcl, hl, rfl, Nat.le_refl _, upd_same, .nil _, rfl⟩, ?_⟩
    rintro m σ H2 ⟨cs, p, L, v3, rfl, a2, on, ec, hcs, hlen, es, hp, eD, lx, rfl⟩
    refine ⟨_, rfl, cl, _, rfl, .inl (SqL.of ec), _, _, rfl, rfl, _, rfl, ?_⟩
    by_cases h16 : cs.length < 16
    · refine if_true_of (by rw [clV_len]; exact decide_eq_true (by omega)) ?_
      refine ⟨_, rfl, r, dx, _, rfl, a2.ob, rfl, r, dx, ta, t, p, _, [91, 40], rfl, a2, .inl rfl, by show 2 ≤ 1000; decide, fun H3 sm3 => ⟨_, rfl, ?_⟩⟩
      have a3 := a2.same sm3
      have on3 : Only r cl H H3 := on.trans (Only.same sm3)
      have ec3 := sm3 _ _ ec
      have eD3 := sm3 _ _ eD
      cases hsh : showsM [91, 40] (t.drop p) with
      | true =>
        refine iteT ?_
        obtain ⟨c, l, ed, hm⟩ := shows_yes hsh
        have hb : isBr c = true := (isBr_iff c).mpr hm
        refine ⟨fun σ H1 => ∃ (cs : List UInt8) (p' : Nat) (L : List Tk) (v3 : Option V), σ = [some (.ref r), some (.ref cl), some (.ref D), v3] ∧ At K CR r dx ta t H1 p' ∧ Only r cl H H1 ∧ H1 cl = some (.lst (clV cs)) ∧ Cl cs ∧ cs.length ≤ 16 ∧
          scan (t.drop p0) .f cs0 p0 = scan (t.drop p') .f cs p' ∧ p0 ≤ p' ∧ H1 D = some (.lst (tkV L)) ∧ Lex (t.drop p0) L (t.drop p') ∧ p' = p + 1, ?_, ?_⟩
        · rintro σ' H' ⟨cs', p', L', v3', e, a4, on4, ec4, hcs4, hl4, es4, hp4, eD4, lx4, rfl⟩
          have := drop_lt ed
          exact ⟨_, by omega, cs', p + 1, L', v3', e, a4, on4, ec4, hcs4, hl4, es4, hp4, eD4, lx4, rfl⟩
        · refine ⟨_, rfl, r, dx, _, rfl, a3.ob, rfl, r, dx, ta, t, p, _, [91, 40], rfl, a3, .inl rfl, by show 2 ≤ 1000; decide, ?_, ?_⟩
          · intro k hk
            rw [ed, signM_hit hm] at hk
            cases hk
          · intro c' q' hk H4 v ev a4 on4
            subst ev
            rw [ed, signM_hit hm] at hk
            have hk1 := Except.ok.inj hk
            have e1 : c.toNat = c' := (Prod.mk.inj hk1).1
            have e2 : p + 1 = q' := (Prod.mk.inj (Prod.mk.inj hk1).2).1
            subst e1
            subst e2
            have ec4 := on4 _ _ (Ne.symm nr) (Ne.symm nr) ec3
            have eD4 := on4 _ _ (Ne.symm nrD) (Ne.symm nrD) eD3
            refine ⟨_, rfl, .inl ⟨rfl, _, SqL.of eD4⟩, _, rfl, D, _, _, rfl, rfl, eD4, small5 (Nat.le_trans (tk_small lx a.sz) (by decide)), ?_⟩
            have ec5 : (upd H4 D (.lst (tkV L ++ [sgV c.toNat]))) cl = some (.lst (clV cs)) := by rw [upd_ne ncD]; exact ec4
            refine ⟨_, rfl, .inl ⟨rfl, _, SqL.of ec5⟩, _, rfl, aB, _, _, rfl, rfl, B.at hb, cl, _, _, rfl, rfl, ec5, ?_, ?_⟩
            · rw [clV_len]
              exact small1000 (by omega)
            · refine ⟨closer c :: cs, p + 1, L ++ [.inr c.toNat], _, rfl, (a4.updn nrD ntD).updc nr nt, ((on3.trans (Only.wide on4)).upn nD).trans Only.updc, ?_, closer_cl hcs c, by rw [List.length_cons]; omega, ?_, by omega, ?_, lx.append (lex_br ed (br_not hb).2.1), rfl⟩
              · rw [upd_same, clV_cons]
              · rw [es, ed, scan_open hb h16, drop_succ ed]
              · rw [upd_ne (Ne.symm ncD), upd_same, tkV_snoc]
      | false =>
        refine iteF ?_
        refine ⟨_, rfl, ?_⟩
        refine q p cs H3 D L hp a3 on3 ec3 hcs hlen es (fun _ c l ed => ?_) nD eD3 lx
        have := shows_no hsh c l ed
        cases hb : isBr c with
        | false => rfl
        | true => exact absurd ((isBr_iff c).mp hb) this
    · refine if_false_of (by rw [clV_len]; exact decide_eq_false (by omega)) ?_
      refine if_false_of rfl ?_
      exact ⟨_, rfl, q p cs H2 D L hp a2 on ec hcs hlen es (fun z => absurd z h16) nD eD lx⟩
theorem scRC : FnScope ["reader", "closers", "brackets"] ["reader", "closers"] (defScope sRC) := ⟨rfl, rfl, rfl, by decide +kernel, rfl, by decide +kernel, by decide +kernel⟩
theorem ok_RC {f fS fRS : Addr} {fd fdS fdRS : FuncData} (F : Fun K "read_closing_brackets" "read_closing_brackets" sRC f fd) (T : Txt K mg CE fBI CF fFI CR) (mS : Meth K CR "shows" fS) (GS : FnOk P w K mg base CX0 2 fS fdS ["self", "signs"] (spSh K CR)) (bS : Binds K fdS ["self", "signs"] [])
    (mR : Meth K CR "read_sign" fRS) (GR : FnOk P w K mg base (L2.CX P w) 4 fRS fdRS ["self", "signs"] (spRS K CR CF)) (bR : Binds K fdRS ["self", "signs"] []) :
    FnOk P w K mg base (L2.CX P w) 5 f fd ["reader", "closers"] (spRC K CR) := by
  refine F.okX scRC (fun vs H Q E h => ?_) (fun cdv A outer s H vs Q E hr h => ?_)
  · obtain ⟨r, dx, ta, cl, t, p, cs, rfl, _⟩ := h
    rfl
  · obtain ⟨r, dx, ta, cl, t, p0, cs0, rfl, a, hc, nt, hcl, hl, q⟩ := h
    have hr2 : Room 2 _ := hr.mono (by decide)
    have nr : r ≠ cl := ne_of a.ob hc (by intro z; cases z)
    refine ⟨_, pss_cons (ps_set (i := 2) scRC.nd rfl (Or.inl rfl) (pe_lst pa_nil)) (pss_cons (ps_while (passes_of rfl) (PW.pt (pw_and (pt_truth (pv 1) (by intro _; rfl))
        (pw_and1 (pt_val (pe_meth (pv 0) T.cl mS GS hr2 bS .nil pass0 (pa_cons (pe_ix ix_list (pv 1) (pe_un un_neg pe_int) (fun _ _ => rfl)) pa_nil))))))
      (pss_one (ps_expr (pe_bm PySem.F.plainAttrs_list PySem.F.slot_list_append PySem.F.type_list_append mt_append (pv 2) (pa_cons (pe_meth (pv 0) T.cl mR GR hr bR .nil (passes_call (takes_of rfl rfl rfl rfl) (fun _ _ _ _ h => h)) (pa_cons (pe_bm0 PySem.F.plainAttrs_list PySem.F.slot_list_pop PySem.F.type_list_pop mt_pop (pv 1)) pa_nil)) pa_nil))))) (pss_one (ps_ret (pv 2)))), ?_⟩
    refine ⟨Nat.zero_le _, fun D nD => ?_⟩
    have nrD : r ≠ D := ne_of_none a.ob nD
    have ncD : cl ≠ D := ne_of_none hc nD
    have ntD : Apart K ta D (bs t) := Apart.new a.tx nD
    refine ⟨fun m σ H1 => ∃ (cs : List UInt8) (p : Nat) (L : List Tk), σ = [some (.ref r), some (.ref cl), some (.ref D)] ∧ At K CR r dx ta t H1 p ∧ Only r cl H H1 ∧ H1 cl = some (.lst (clV cs)) ∧ Cl cs ∧ cs.length ≤ 16 ∧
      aft cs0 p0 (t.drop p0) = aft cs p (t.drop p) ∧ p0 ≤ p ∧ H1 D = some (.lst (tkV L)) ∧ Lex (t.drop p0) L (t.drop p) ∧ m = t.length - p,
      ⟨_, cs0, p0, [], rfl, a.updn nrD ntD, Only.refl.upn nD, by rw [upd_ne ncD]; exact hc, hcl, hl, rfl, Nat.le_refl _, upd_same, .nil _, rfl⟩, ?_⟩
    rintro m σ H2 ⟨cs, p, L, rfl, a2, on, ec, hcs, hlen, es, hp, eD, lx, rfl⟩
    refine ⟨_, rfl, !(clV cs).isEmpty, .inl ⟨_, SqL.of ec, rfl⟩, ?_⟩
    cases cs with
    | nil =>
      refine if_false_of rfl ?_
      refine if_false_of rfl ?_
      exact ⟨_, rfl, q p [] H2 D L hp a2 on ec hcs hlen es (fun k r e => by cases e) nD eD lx⟩
    | cons k rest =>
      refine if_true_of (by simp) ?_
      have elast : atI (clV (k :: rest)) (-1) = some (sgV k.toNat) := by
        rw [clV_cons]
        exact atI_last _ _
      refine ⟨_, rfl, r, dx, _, rfl, a2.ob, rfl, _, rfl, _, rfl, cl, _, _, _, rfl, rfl, SqL.of ec, elast, r, dx, ta, t, p, sgV k.toNat, [k.toNat], rfl, a2, .inl rfl, by show 1 ≤ 1000; decide, fun H3 sm3 => ⟨_, rfl, ?_⟩⟩
      have a3 := a2.same sm3
      have on3 : Only r cl H H3 := on.trans (Only.same sm3)
      have ec3 := sm3 _ _ ec
      have eD3 := sm3 _ _ eD
      cases hsh : showsM [k.toNat] (t.drop p) with
      | true =>
        refine iteT ?_
        obtain ⟨c, l, ed, hm⟩ := shows_hit hsh
        have ek : c = k := UInt8.toNat_inj.mp hm
        subst ek
        refine ⟨fun σ H1 => ∃ (cs : List UInt8) (p' : Nat) (L : List Tk), σ = [some (.ref r), some (.ref cl), some (.ref D)] ∧ At K CR r dx ta t H1 p' ∧ Only r cl H H1 ∧ H1 cl = some (.lst (clV cs)) ∧ Cl cs ∧ cs.length ≤ 16 ∧
          aft cs0 p0 (t.drop p0) = aft cs p' (t.drop p') ∧ p0 ≤ p' ∧ H1 D = some (.lst (tkV L)) ∧ Lex (t.drop p0) L (t.drop p') ∧ p' = p + 1, ?_, ?_⟩
        · rintro σ' H' ⟨cs', p', L', e, a4, on4, ec4, hcs4, hl4, es4, hp4, eD4, lx4, rfl⟩
          have := drop_lt ed
          exact ⟨_, by omega, cs', p + 1, L', e, a4, on4, ec4, hcs4, hl4, es4, hp4, eD4, lx4, rfl⟩
        · have a4 := a3.updc (o := .lst (clV rest)) nr nt
          have elast2 : (clV (c :: rest))[(clV (c :: rest)).length - 1]? = some (sgV c.toNat) := by
            rw [clV_cons]
            simp
          have edrop : (clV (c :: rest)).dropLast = clV rest := by
            rw [clV_cons, List.dropLast_concat]
          refine ⟨_, rfl, .inl ⟨rfl, _, SqL.of eD3⟩, _, rfl, r, dx, _, rfl, a3.ob, rfl, _, rfl, .inl ⟨rfl, _, SqL.of ec3⟩, cl, _, _, rfl, rfl, ec3, elast2, ?_⟩
          rw [edrop]
          have hh : c.toNat ∈ [c.toNat] := List.mem_cons_self
          refine ⟨r, dx, ta, t, p, sgV c.toNat, [c.toNat], rfl, a4, .inl rfl, by show 1 ≤ 1000; decide, ?_, ?_⟩
          · intro j hk
            rw [ed, signM_hit hh] at hk
            cases hk
          · intro c' q' hk H4 v ev a5 on4
            subst ev
            rw [ed, signM_hit hh] at hk
            have e1 : c.toNat = c' := (Prod.mk.inj (Except.ok.inj hk)).1
            have e2 : p + 1 = q' := (Prod.mk.inj (Prod.mk.inj (Except.ok.inj hk)).2).1
            subst e1
            subst e2
            have eD4 : H4 D = some (.lst (tkV L)) := on4 _ _ (Ne.symm nrD) (Ne.symm nrD) (by rw [upd_ne (Ne.symm ncD)]; exact eD3)
            refine ⟨D, _, _, rfl, rfl, eD4, small5 (Nat.le_trans (tk_small lx a.sz) (by decide)), ?_⟩
            refine ⟨rest, p + 1, L ++ [.inr c.toNat], rfl, a5.updn nrD ntD, (on3.trans (Only.updc.trans (Only.wide on4))).upn nD, ?_, fun k hk => hcs k (List.mem_cons_of_mem _ hk), by rw [List.length_cons] at hlen; omega, ?_, by omega, ?_, lx.append (lex_br ed (cl_dig (hcs c List.mem_cons_self))), rfl⟩
            · rw [upd_ne ncD]
              exact on4 _ _ (Ne.symm nr) (Ne.symm nr) upd_same
            · rw [es, ed, aft_shut, drop_succ ed]
            · rw [upd_same, tkV_snoc]
      | false =>
        refine iteF ?_
        refine ⟨_, rfl, ?_⟩
        refine q p (k :: rest) H3 D L hp a3 on3 ec3 hcs hlen es (fun k' r' e c l ed z => ?_) nD eD3 lx
        have e1 := (List.cons.inj e).1
        subst e1
        subst z
        exact shows_no hsh c l ed List.mem_cons_self
end
end Ab

set_option Elab.async false
set_option linter.all false
set_option maxRecDepth 100000
set_option maxHeartbeats 2000000
namespace Ab
open PySem PySem.Spec PyProof.Rows L2 AbM
open Na (Bytes isDigit exHere digitsAt)
def spRN (K : PySem.W.Frag) (CR CF : Addr) : Sp := fun vs H Q E => ∃ (r dx ta : Addr) (t : Bytes) (p : Nat), vs = [.ref r] ∧ At K CR r dx ta t H p ∧
  Out K CR CF r dx ta t (numM p (t.drop p)) H r (fun k _ v => v = tokV k) Q E
/-- an E as the program keeps it: a new list of what is worked out, in its order -/
def ExV (H H' : Hp) (v : V) (x : Na.Ex) : Prop := ∃ a, v = .ref a ∧ H a = none ∧ H' a = some (.lst (tkV (post x)))
def spRE (K : PySem.W.Frag) (CR CF : Addr) : Sp := fun vs H Q E => ∃ (r dx ta : Addr) (t : Bytes) (p : Nat), vs = [.ref r] ∧ At K CR r dx ta t H p ∧
  Out K CR CF r dx ta t (exHere p (t.drop p)) H r (fun x H' v => ExV H H' v x) Q E
abbrev dv (acc : List Nat) : Nat := NumText.digitsVal acc
def left (acc : List Nat) : Nat := if acc = [48] then 0 else 4 - acc.length
def numR (acc : List Nat) (p : Nat) (b : Bytes) : Except Nat (Tk × (Nat × Bytes)) := .ok (.inl (digitsAt (left acc) (dv acc) 0 b).1, digs (left acc) p b)
theorem numR_stop {acc : List Nat} {p : Nat} {b : Bytes} (h : left acc = 0 ∨ ∀ c l, b = c :: l → isDigit c = false) : numR acc p b = .ok (.inl (dv acc), p, b) := by
  unfold numR
  rw [digs_stop h]
  have e : (digitsAt (left acc) (dv acc) 0 b).1 = dv acc := by
    cases hn : left acc with
    | zero => rfl
    | succ n =>
      cases b with
      | nil => rfl
      | cons c l =>
        have hc : ¬ isDigit c = true := by
          rcases h with h | h
          · rw [hn] at h; cases h
          · rw [h c l rfl]; exact Bool.false_ne_true
        show (if isDigit c = true then digitsAt n _ _ l else _).1 = _
        rw [if_neg hc]
  rw [e]
theorem numR_go {acc : List Nat} {p : Nat} {d : UInt8} {l : Bytes} (h0 : acc ≠ [48]) (h1 : acc ≠ []) (h4 : acc.length < 4) (hd : isDigit d = true) : numR acc p (d :: l) = numR (acc ++ [d.toNat]) (p + 1) l := by
  have e1 : left acc = left (acc ++ [d.toNat]) + 1 := by
    unfold left
    have hn : acc ++ [d.toNat] ≠ [48] := fun z => by
      have := congrArg List.length z
      rw [List.length_append] at this
      cases acc with
      | nil => exact h1 rfl
      | cons _ _ => simp at this
    rw [if_neg h0, if_neg hn, List.length_append]
    simp only [List.length_cons, List.length_nil]
    omega
  unfold numR
  rw [e1, digs_go hd]
  have e2 : (digitsAt (left (acc ++ [d.toNat]) + 1) (dv acc) 0 (d :: l)).1 = (digitsAt (left (acc ++ [d.toNat])) (dv (acc ++ [d.toNat])) 0 l).1 := by
    show (if isDigit d = true then digitsAt (left (acc ++ [d.toNat])) (10 * dv acc + (d.toNat - 48)) (0 + 1) l else _).1 = _
    rw [if_pos hd, (digits_at _ _ _ 0 l).1]
    have e3 : dv (acc ++ [d.toNat]) = 10 * dv acc + (d.toNat - 48) := by
      show NumText.digitsVal (acc ++ [d.toNat]) = _
      rw [NumText.digitsVal_snoc, Nat.mul_comm]
    rw [e3]
  rw [e2]
theorem numM_digit {p : Nat} {c : UInt8} {l : Bytes} (h : isDigit c = true) : numM p (c :: l) = numR [c.toNat] (p + 1) l := by
  rw [numM_cons]
  have e3 : dv [c.toNat] = c.toNat - 48 := by
    show 0 * 10 + (c.toNat - 48) = _
    omega
  by_cases h0 : c = 48
  · subst h0
    rfl
  · have hn : ([c.toNat] : List Nat) ≠ [48] := fun z => h0 (UInt8.toNat_inj.mp (List.cons.inj z).1)
    have e : left [c.toNat] = 3 := by
      unfold left
      rw [if_neg hn]
      rfl
    rw [if_neg h0, if_pos h]
    unfold numR
    rw [e, e3]
theorem mem_dig {c : Nat} (h : c ∈ nDig) : c ∈ nDig ++ nHead ++ nMark := List.mem_append_left _ (List.mem_append_left _ h)
theorem numM_error {p : Nat} {b : Bytes} (h : showsM (nDig ++ nHead ++ nMark) b = false) : numM p b = .error p := by
  cases b with
  | nil => rfl
  | cons c l =>
    have hn := shows_no h c l rfl
    have h1 : ¬ isDigit c = true := fun z => hn (mem_dig ((isDigit_iff c).mp z))
    have h0 : c ≠ 48 := fun z => h1 (by subst z; rfl)
    have h2 : ¬ isLet c = true := fun z => hn (by rw [List.append_assoc]; exact List.mem_append_right _ ((isLet_iff c).mp z))
    rw [numM_cons, if_neg h0, if_neg h1, if_neg h2]
theorem signM_cases (cs : List Nat) (p : Nat) (b : Bytes) : (∃ c l, b = c :: l ∧ c.toNat ∈ cs ∧ signM cs p b = .ok (c.toNat, p + 1, l)) ∨ (showsM cs b = false ∧ signM cs p b = .error p) := by
  cases h : showsM cs b with
  | true =>
    obtain ⟨c, l, e, hm⟩ := shows_yes h
    subst e
    exact .inl ⟨c, l, rfl, hm, signM_hit hm⟩
  | false => exact .inr ⟨rfl, signM_miss h⟩
section
variable {P : Program} {w : World} {K : PySem.W.Frag} {mg : Str → Option Value} {base : Heap} {CE fBI CF fFI CR aB : Addr}
theorem scRN : FnScope ["reader", "found"] ["reader"] (defScope sRN) := ⟨rfl, rfl, rfl, by decide +kernel, rfl, by decide +kernel, by decide +kernel⟩
theorem ok_RN {f fS fRS : Addr} {fd fdS fdRS : FuncData} (F : Fun K "read_number_or_letter" "read_number_or_letter" sRN f fd) (T : Txt K mg CE fBI CF fFI CR) (G : Gram mg) (mS : Meth K CR "shows" fS) (GS : FnOk P w K mg base CX0 2 fS fdS ["self", "signs"] (spSh K CR)) (bS : Binds K fdS ["self", "signs"] [])
    (mR : Meth K CR "read_sign" fRS) (GR : FnOk P w K mg base (L2.CX P w) 4 fRS fdRS ["self", "signs"] (spRS K CR CF)) (bR : Binds K fdRS ["self", "signs"] []) :
    FnOk P w K mg base (L2.CX P w) 5 f fd ["reader"] (spRN K CR CF) := by
  refine F.okX scRN (fun vs H Q E h => ?_) (fun cdv A outer s H vs Q E hr h => ?_)
  · obtain ⟨r, dx, ta, t, p, rfl, _⟩ := h
    rfl
  · obtain ⟨r, dx, ta, t, p, rfl, a, q⟩ := h
    obtain ⟨uD, hD⟩ := G.digits
    obtain ⟨uH, hH⟩ := G.heads
    obtain ⟨uM, hM⟩ := G.marks
    obtain ⟨uN, hN⟩ := G.mdig
    have hr2 : Room 2 _ := hr.mono (by decide)
    refine ⟨_, pss_cons (ps_set (i := 1) scRN.nd rfl (Or.inl rfl) (pe_meth (pv 0) T.cl mR GR hr bR .nil (passes_call (takes_of rfl rfl rfl rfl) (fun _ _ _ _ h => h))
        (pa_cons (pe_op op_add_str (pe_op op_add_str (pe_glob (v := .str "0123456789") rfl hD ⟨_, rfl⟩) (pe_glob (v := .str "abcdefgh") rfl hH ⟨_, rfl⟩)) (pe_glob (v := .str "ABCDEFGH") rfl hM ⟨_, rfl⟩)) pa_nil)))
      (pss_cons (ps_if (pt_cmpR op_notIn_sign (pv 1) (pe_glob (v := .str "0123456789") rfl hD ⟨_, rfl⟩) rfl) (pss_one (ps_ret (pv 1))) pss_nil)
      (pss_cons (ps_while (passes_of rfl) (PW.pt (pw_and (pt_cmpR op_ne (pv 1) pe_str (nomark _)) (pw_and (pt_cmpR op_lt (pe_callB call_len_str (by rfl) T.len PySem.boot_len (pa_cons (pv 1) pa_nil)) (pe_glob (v := .int 4) rfl hN ⟨_, rfl⟩) (nomark _))
          (pw_and1 (pt_val (pe_meth (pv 0) T.cl mS GS hr2 bS .nil pass0 (pa_cons (pe_glob (v := .str "0123456789") rfl hD ⟨_, rfl⟩) pa_nil)))))))
        (pss_one (ps_aug (i := 1) scRN.nd rfl (Or.inl rfl) (pe_meth (pv 0) T.cl mR GR hr bR .nil (passes_call (takes_of rfl rfl rfl rfl) (fun _ _ _ _ h => h)) (pa_cons (pe_glob (v := .str "0123456789") rfl hD ⟨_, rfl⟩) pa_nil)) in_addS)))
      (pss_one (ps_ret (pe_callTy call_int_str (by rfl) T.int (by decide +kernel) (pa_cons (pv 1) pa_nil)))))), ?_⟩
    refine ⟨_, rfl, r, dx, _, rfl, a.ob, rfl, _, _, rfl, rfl, by show 18 ≤ sizeLine; exact Nat.le_of_lt (small1000 (by decide)), ?_⟩
    refine ⟨_, _, rfl, rfl, by show 26 ≤ sizeLine; exact Nat.le_of_lt (small1000 (by decide)), ?_⟩
    refine ⟨r, dx, ta, t, p, _, nDig ++ nHead ++ nMark, rfl, a, .inl (by rfl), by show 26 ≤ 1000; decide, ?_, ?_⟩
    · intro k hk
      rcases signM_cases (nDig ++ nHead ++ nMark) p (t.drop p) with ⟨c, l, ed, hm, e⟩ | ⟨hs, e⟩
      · rw [e] at hk
        cases hk
      · rw [e] at hk
        cases hk
        exact q.1 p (numM_error hs)
    · intro c' q' hk H1 v ev a1 on1
      subst ev
      rcases signM_cases (nDig ++ nHead ++ nMark) p (t.drop p) with ⟨c, l, ed, hm, e⟩ | ⟨hs, e⟩
      · rw [e] at hk
        have hk1 := Except.ok.inj hk
        have e1 : c.toNat = c' := (Prod.mk.inj hk1).1
        have e2 : p + 1 = q' := (Prod.mk.inj (Prod.mk.inj hk1).2).1
        have e3 : l = t.drop (p + 1) := (drop_succ ed).symm
        subst e1
        subst e2
        refine ⟨_, rfl, c.toNat, _, rfl, rfl, _, rfl, ?_⟩
        by_cases hdg : isDigit c = true
        · refine if_false_of (congrArg Bool.not (decide_eq_true ((isDigit_iff c).mp hdg))) ?_
          have en : numM p (t.drop p) = numR [c.toNat] (p + 1) (t.drop (p + 1)) := by rw [ed, numM_digit hdg, e3]
          refine ⟨fun m σ H2 => ∃ (acc : List Nat) (p' : Nat), σ = [some (.ref r), some (stV acc)] ∧ acc ≠ [] ∧ acc.length ≤ 4 ∧ acc.all (fun c => decide (48 ≤ c) && decide (c ≤ 57)) = true ∧ At K CR r dx ta t H2 p' ∧ Only r r H H2 ∧ numM p (t.drop p) = numR acc p' (t.drop p') ∧ m = 4 - acc.length,
            ⟨3, [c.toNat], p + 1, rfl, by simp, by show 1 ≤ 4; decide, by
              have hdg' := hdg
              unfold isDigit at hdg'
              rw [List.all_cons, hdg']
              rfl, a1, on1, en, rfl⟩, ?_⟩
          rintro m σ H2 ⟨acc, p', rfl, hne, hk4, hall, a2, on2, es, rfl⟩
          have stop : ∀ H3, At K CR r dx ta t H3 p' → Only r r H H3 → (left acc = 0 ∨ ∀ c l, t.drop p' = c :: l → isDigit c = false) → ∃ (aa : Str) (n : Int), [stV acc] = [V.str aa] ∧ PySem.intText? aa = some n ∧ aa.length ≤ 640 ∧ Q (.int n) H3 := fun H3 a3 on3 hs => by
            rw [numR_stop hs] at es
            refine ⟨S acc, _, rfl, SX.int_S hall hne (by omega), by rw [S_len]; omega, ?_⟩
            exact q.2 (.inl (dv acc)) p' es H3 _ rfl a3 on3
          refine ⟨_, rfl, rfl, _, rfl, ?_⟩
          by_cases h0 : acc = [48]
          · have ev : (!decide (stV acc = V.str "0")) = false := by rw [h0]; rfl
            refine if_false_of ev ?_
            refine if_false_of rfl ?_
            exact ⟨_, rfl, stop H2 a2 on2 (.inl (if_pos h0))⟩
          · have ev : (!decide (stV acc = V.str "0")) = true := by
              rw [decide_eq_false]
              · rfl
              · intro z
                exact h0 (S_inj (V.str.inj z : S acc = S [48]))
            refine if_true_of ev ?_
            refine ⟨_, rfl, _, rfl, by rw [S_len]; exact small5' (by omega), _, _, rfl, rfl, _, rfl, ?_⟩
            by_cases hk3 : acc.length < 4
            · refine if_true_of (by rw [S_len]; exact decide_eq_true (by omega)) ?_
              refine ⟨_, rfl, r, dx, _, rfl, a2.ob, rfl, r, dx, ta, t, p', _, nDig, rfl, a2, .inl (by rfl), by show 10 ≤ 1000; decide, fun H3 sm3 => ⟨_, rfl, ?_⟩⟩
              have a3 := a2.same sm3
              have on3 : Only r r H H3 := on2.trans (Only.same sm3)
              cases hsh : showsM nDig (t.drop p') with
              | true =>
                refine iteT ?_
                obtain ⟨d, l2, ed2, hm2⟩ := shows_yes hsh
                refine ⟨fun σ H2 => ∃ (acc' : List Nat) (p2 : Nat), σ = [some (.ref r), some (stV acc')] ∧ acc' ≠ [] ∧ acc'.length ≤ 4 ∧ acc'.all (fun c => decide (48 ≤ c) && decide (c ≤ 57)) = true ∧ At K CR r dx ta t H2 p2 ∧ Only r r H H2 ∧ numM p (t.drop p) = numR acc' p2 (t.drop p2) ∧ acc'.length = acc.length + 1, ?_, ?_⟩
                · rintro σ' H' ⟨acc', p2, e, h1, h2, h3, h4, h5, h6, h7⟩
                  exact ⟨_, by omega, acc', p2, e, h1, h2, h3, h4, h5, h6, rfl⟩
                · refine ⟨_, rfl, _, rfl, r, dx, _, rfl, a3.ob, rfl, r, dx, ta, t, p', _, nDig, rfl, a3, .inl (by rfl), by show 10 ≤ 1000; decide, ?_, ?_⟩
                  · intro j hj
                    rw [ed2, signM_hit hm2] at hj
                    cases hj
                  · intro c2 q2 hk2 H4 v2 ev2 a4 on4
                    subst ev2
                    rw [ed2, signM_hit hm2] at hk2
                    have e5 : d.toNat = c2 := (Prod.mk.inj (Except.ok.inj hk2)).1
                    have e4 : p' + 1 = q2 := (Prod.mk.inj (Prod.mk.inj (Except.ok.inj hk2)).2).1
                    subst e5
                    subst e4
                    refine ⟨S acc, S [d.toNat], rfl, rfl, by rw [S_len, S_len]; exact small5' (by simp only [List.length_cons, List.length_nil]; omega), ?_⟩
                    have hd2 := (isDigit_iff d).mpr hm2
                    refine ⟨acc ++ [d.toNat], p' + 1, ?_, by simp, by rw [List.length_append]; show acc.length + 1 ≤ 4; omega, ?_, a4, on3.trans on4, ?_, by rw [List.length_append]; rfl⟩
                    · show [some (V.ref r), some (V.str (S acc ++ S [d.toNat]))] = _
                      rw [S_cat]
                    · have hdg' := hd2
                      unfold isDigit at hdg'
                      rw [List.all_append, hall, List.all_cons, hdg']
                      rfl
                    · rw [es, ed2, numR_go h0 hne hk3 hd2, drop_succ ed2]
              | false =>
                refine iteF ?_
                refine ⟨_, rfl, stop H3 a3 on3 (.inr fun d l2 ed2 => ?_)⟩
                have := shows_no hsh d l2 ed2
                cases hb : isDigit d with
                | false => rfl
                | true => exact absurd ((isDigit_iff d).mp hb) this
            · refine if_false_of (by rw [S_len]; exact decide_eq_false (by omega)) ?_
              refine if_false_of rfl ?_
              refine ⟨_, rfl, stop H2 a2 on2 (.inl ?_)⟩
              unfold left
              rw [if_neg h0]
              omega
        · refine if_true_of (congrArg Bool.not (decide_eq_false fun z => hdg ((isDigit_iff c).mpr z))) ?_
          have h0 : c ≠ 48 := fun z => hdg (by subst z; rfl)
          have hlt : isLet c = true := (isLet_iff c).mpr (by
            rw [List.append_assoc] at hm
            exact (List.mem_append.mp hm).resolve_left fun z => hdg ((isDigit_iff c).mpr z))
          have en : numM p (t.drop p) = .ok (.inr c.toNat, p + 1, t.drop (p + 1)) := by rw [ed, numM_cons, if_neg h0, if_neg hdg, if_pos hlt, e3]
          exact ⟨_, rfl, q.2 _ (p + 1) en H1 _ rfl a1 on1⟩
      · rw [e] at hk
        cases hk
end
end Ab

set_option Elab.async false
set_option linter.all false
set_option maxRecDepth 100000
set_option maxHeartbeats 2000000
namespace Ab
open PySem PySem.Spec PyProof.Rows L2 AbM
open Na (Bytes isDigit exHere digitsAt)
/-- signs that wait, the last one first here -/
abbrev wtV (w : List Nat) : List V := w.reverse.map sgV
theorem wtV_cons (k : Nat) (w : List Nat) : wtV (k :: w) = wtV w ++ [sgV k] := by
  show ((k :: w).reverse.map _) = _
  rw [List.reverse_cons, List.map_append]
  rfl
theorem wtV_len (w : List Nat) : (wtV w).length = w.length := by simp
theorem wtV_last (k : Nat) (w : List Nat) : (wtV (k :: w))[(wtV (k :: w)).length - 1]? = some (sgV k) := by
  rw [wtV_cons]
  simp
theorem wtV_drop (k : Nat) (w : List Nat) : (wtV (k :: w)).dropLast = wtV w := by rw [wtV_cons, List.dropLast_concat]
theorem sg_eq (c d : Nat) : decide (sgV c = sgV d) = decide (c = d) := by
  by_cases h : c = d
  · subst h
    simp
  · rw [decide_eq_false h]
    refine decide_eq_false fun z => h ?_
    have z1 : S [c] = S [d] := V.str.inj z
    exact (List.cons.inj (S_inj z1)).1
theorem inV_sg (c : Nat) : ∀ cs : List Nat, inV (sgV c) (cs.map sgV) = decide (c ∈ cs)
  | [] => by simp [inV]
  | k :: r => by
    have ih := inV_sg c r
    unfold inV at ih ⊢
    rw [List.map_cons, List.any_cons, ih]
    show ((S [k] == S [c]) || decide (c ∈ r)) = _
    by_cases h : c = k
    · subst h
      simp
    · have e : (S [k] == S [c]) = false := beq_eq_false_iff_ne.mpr fun z => h (List.cons.inj (S_inj z)).1.symm
      rw [e, Bool.false_or]
      by_cases h3 : c ∈ r
      · rw [decide_eq_true h3, decide_eq_true (List.mem_cons_of_mem _ h3)]
      · rw [decide_eq_false h3, decide_eq_false (fun z => (List.mem_cons.mp z).elim h h3)]
theorem flat_sg (cs : List Nat) : (cs.map sgV).all flatV = true := by
  rw [List.all_map]
  exact List.all_eq_true.mpr fun _ _ => rfl
theorem flush_len (ss : List Nat) : ∀ (w : List Nat) (o : List Tk), (flush ss w o).1.length + (flush ss w o).2.length = w.length + o.length
  | [], o => rfl
  | k :: w, o => by
    by_cases h : k ∈ ss
    · have e : flush ss (k :: w) o = flush ss w (o ++ [.inr k]) := if_pos h
      rw [e, flush_len ss w, List.length_append, List.length_cons]
      simp only [List.length_cons, List.length_nil]
      omega
    · have e : flush ss (k :: w) o = (k :: w, o) := if_neg h
      rw [e]
/-- all but two stand -/
def spTS : Sp := fun vs H Q _ => ∃ (W Sg O : Addr) (w ss : List Nat) (o : List Tk), vs = [.ref W, .ref Sg, .ref O] ∧ H W = some (.lst (wtV w)) ∧ H Sg = some (.lst (ss.map sgV)) ∧ H O = some (.lst (tkV o)) ∧ W ≠ O ∧ Sg ≠ W ∧ Sg ≠ O ∧ w.length + o.length ≤ 50000 ∧
  ∀ H', Only W O H H' → H' W = some (.lst (wtV (flush ss w o).1)) → H' O = some (.lst (tkV (flush ss w o).2)) → Q .non H'
def spPO (K : PySem.W.Frag) : Sp := fun vs H Q _ => ∃ (a : Addr) (x : Na.Ex), vs = [.ref a] ∧ SqL K H a (tkV (toks x)) ∧ x.ok = true ∧ (toks x).length ≤ 5000 ∧
  ∀ (H' : Hp) (D : Addr), Same H H' → H D = none → H' D = some (.lst (tkV (post x))) → Q (.ref D) H'
section
variable {P : Program} {w : World} {K : PySem.W.Frag} {mg : Str → Option Value} {base : Heap} {CE fBI CF fFI CR aB : Addr}
theorem scTS : FnScope ["waiting", "signs", "ordered"] ["waiting", "signs", "ordered"] (defScope sTS) := ⟨rfl, rfl, rfl, by decide +kernel, rfl, by decide +kernel, by decide +kernel⟩
theorem ok_TS {f : Addr} {fd : FuncData} (F : Fun K "take_signs" "take_signs" sTS f fd) : FnOk P w K mg base CX0 1 f fd ["waiting", "signs", "ordered"] spTS := by
  refine F.ok scTS (fun vs H Q E h => ?_) (fun cdv A outer s H vs Q E hr h => ?_)
  · obtain ⟨W, Sg, O, w, ss, o, rfl, _⟩ := h
    rfl
  · obtain ⟨W, Sg, O, w0, ss, o0, rfl, eW0, eS0, eO0, nWO, nSW, nSO, hl0, q⟩ := h
    refine ⟨_, pss_one (ps_while PassesOwn.never (PW.pt (pw_and (pt_truth (pv 0) (by intro _; rfl)) (pw_and1 (pt_cmpR op_in_seq (pe_ix ix_list (pv 0) (pe_un un_neg pe_int) (fun _ _ => rfl)) (pv 1) rfl))))
      (pss_one (ps_expr (pe_bm PySem.F.plainAttrs_list PySem.F.slot_list_append PySem.F.type_list_append mt_append (pv 2) (pa_cons (pe_bm0 PySem.F.plainAttrs_list PySem.F.slot_list_pop PySem.F.type_list_pop mt_pop (pv 0)) pa_nil))))), ?_⟩
    refine ⟨fun m σ H1 => ∃ (w : List Nat) (o : List Tk), σ = [some (.ref W), some (.ref Sg), some (.ref O)] ∧ Only W O H H1 ∧ H1 W = some (.lst (wtV w)) ∧ H1 O = some (.lst (tkV o)) ∧ flush ss w0 o0 = flush ss w o ∧ w.length + o.length ≤ 50000 ∧ m = w.length,
      ⟨_, w0, o0, rfl, Only.refl, eW0, eO0, rfl, hl0, rfl⟩, ?_⟩
    rintro m σ H1 ⟨w, o, rfl, on, eW, eO, ef, hl, rfl⟩
    have eS : H1 Sg = some (.lst (ss.map sgV)) := on _ _ nSW nSO eS0
    refine ⟨_, rfl, !(wtV w).isEmpty, .inl ⟨_, SqL.of eW, rfl⟩, ?_⟩
    cases w with
    | nil =>
      refine if_false_of rfl ?_
      refine if_false_of rfl ?_
      have e : flush ss w0 o0 = ([], o) := ef
      refine q H1 on ?_ ?_
      · rw [e]; exact eW
      · rw [e]; exact eO
    | cons k w =>
      refine if_true_of (by simp) ?_
      have elast : atI (wtV (k :: w)) (-1) = some (sgV k) := by
        rw [wtV_cons]
        exact atI_last _ _
      refine ⟨_, rfl, _, rfl, W, _, _, _, rfl, rfl, SqL.of eW, elast, _, rfl, Sg, _, rfl, .inl (SqL.of eS), rfl, flat_sg ss, _, rfl, ?_⟩
      rw [inV_sg]
      by_cases hk : k ∈ ss
      · refine if_true_of (decide_eq_true hk) ?_
        have ef2 : flush ss w0 o0 = flush ss w (o ++ [.inr k]) := ef.trans (if_pos hk)
        refine ⟨fun σ H1 => ∃ (w' : List Nat) (o : List Tk), σ = [some (.ref W), some (.ref Sg), some (.ref O)] ∧ Only W O H H1 ∧ H1 W = some (.lst (wtV w')) ∧ H1 O = some (.lst (tkV o)) ∧ flush ss w0 o0 = flush ss w' o ∧ w'.length + o.length ≤ 50000 ∧ w'.length = w.length, ?_, ?_⟩
        · rintro σ' H' ⟨w', o', e, h1, h2, h3, h4, h5, h6⟩
          exact ⟨_, by rw [List.length_cons]; omega, w', o', e, h1, h2, h3, h4, h5, rfl⟩
        · have eO2 : (upd H1 W (.lst (wtV w))) O = some (.lst (tkV o)) := by rw [upd_ne (Ne.symm nWO)]; exact eO
          refine ⟨_, rfl, .inl ⟨rfl, _, SqL.of eO⟩, _, rfl, .inl ⟨rfl, _, SqL.of eW⟩, W, _, _, rfl, rfl, eW, wtV_last k w, ?_⟩
          rw [wtV_drop]
          refine ⟨O, _, _, rfl, rfl, eO2, small5 (by rw [List.length_map]; rw [List.length_cons] at hl; omega), ?_⟩
          refine ⟨w, o ++ [.inr k], rfl, (on.trans (fun x u h1 h2 h => by rw [upd_ne h1]; exact h)).trans Only.updc, ?_, ?_, ef2, ?_, rfl⟩
          · rw [upd_ne nWO, upd_same]
          · rw [upd_same, tkV_snoc]
          · rw [List.length_append]
            rw [List.length_cons] at hl
            simp only [List.length_cons, List.length_nil]
            omega
      · refine if_false_of (decide_eq_false hk) ?_
        have e : flush ss w0 o0 = (k :: w, o) := ef.trans (if_neg hk)
        refine q H1 on ?_ ?_
        · rw [e]; exact eW
        · rw [e]; exact eO
theorem scPO : FnScope ["parts", "ordered", "waiting", "part"] ["parts"] (defScope sPO) := ⟨rfl, rfl, rfl, by decide +kernel, rfl, by decide +kernel, by decide +kernel⟩
theorem ne_num (n c : Nat) : decide (V.int ((n : Nat) : Int) = sgV c) = false := decide_eq_false fun z => nomatch z
theorem ok_PO {f fTS : Addr} {fd fdTS : FuncData} (F : Fun K "put_in_order" "put_in_order" sPO f fd) (gT : mg "take_signs" = some (.ref fTS)) (kT : PySem.W.keepIn K (.ref fTS) = true) (GT : FnOk P w K mg base CX0 1 fTS fdTS ["waiting", "signs", "ordered"] spTS) (bT : Binds K fdTS ["waiting", "signs", "ordered"] []) :
    FnOk P w K mg base CX0 2 f fd ["parts"] (spPO K) := by
  refine F.ok scPO (fun vs H Q E h => ?_) (fun cdv A outer s H vs Q E hr h => ?_)
  · obtain ⟨a, x, rfl, _⟩ := h
    rfl
  · obtain ⟨a, x, rfl, ha, hok, hlen, q⟩ := h
    refine ⟨_, pss_cons (ps_set (i := 1) scPO.nd rfl (Or.inl rfl) (pe_lst pa_nil))
      (pss_cons (ps_set (i := 2) scPO.nd rfl (Or.inl rfl) (pe_lst pa_nil))
      (pss_cons (ps_for PassesOwn.never rfl (pi_list (pv 0)) (pg_name (i := 3) scPO.nd rfl (Or.inl rfl))
        (pss_one (ps_if (PW.pt (pw_or (pt_cmpR op_eq (pv 3) pe_str (nomark _)) (pw_or1 (pt_cmpR op_eq (pv 3) pe_str (nomark _)))))
          (pss_one (ps_expr (pe_bm PySem.F.plainAttrs_list PySem.F.slot_list_append PySem.F.type_list_append mt_append (pv 2) (pa_cons (pv 3) pa_nil))))
          (pss_one (ps_if (PW.pt (pw_or (pt_cmpR op_eq (pv 3) pe_str (nomark _)) (pw_or1 (pt_cmpR op_eq (pv 3) pe_str (nomark _)))))
            (pss_cons (ps_expr (pe_call GT hr rfl gT kT bT .nil pass0 (pa_cons (pv 2) (pa_cons (pe_lst (pa_cons pe_str (pa_cons pe_str (pa_cons pe_str pa_nil)))) (pa_cons (pv 1) pa_nil)))))
              (pss_one (ps_if (pt_cmpR op_eq (pe_bm0 PySem.F.plainAttrs_list PySem.F.slot_list_pop PySem.F.type_list_pop mt_pop (pv 2)) pe_str (nomark _))
                (pss_one (ps_expr (pe_bm PySem.F.plainAttrs_list PySem.F.slot_list_append PySem.F.type_list_append mt_append (pv 1) (pa_cons pe_str pa_nil)))) pss_nil)))
            (pss_one (ps_if (pt_cmpR op_eq (pv 3) pe_str (nomark _))
              (pss_cons (ps_expr (pe_call GT hr rfl gT kT bT .nil pass0 (pa_cons (pv 2) (pa_cons (pe_lst (pa_cons pe_str pa_nil)) (pa_cons (pv 1) pa_nil)))))
                (pss_one (ps_expr (pe_bm PySem.F.plainAttrs_list PySem.F.slot_list_append PySem.F.type_list_append mt_append (pv 2) (pa_cons (pv 3) pa_nil)))))
              (pss_one (ps_if (PW.pt (pw_or (pt_cmpR op_eq (pv 3) pe_str (nomark _)) (pw_or1 (pt_cmpR op_eq (pv 3) pe_str (nomark _)))))
                (pss_cons (ps_expr (pe_call GT hr rfl gT kT bT .nil pass0 (pa_cons (pv 2) (pa_cons (pe_lst (pa_cons pe_str (pa_cons pe_str (pa_cons pe_str pa_nil)))) (pa_cons (pv 1) pa_nil)))))
                  (pss_one (ps_expr (pe_bm PySem.F.plainAttrs_list PySem.F.slot_list_append PySem.F.type_list_append mt_append (pv 2) (pa_cons (pv 3) pa_nil)))))
                (pss_one (ps_expr (pe_bm PySem.F.plainAttrs_list PySem.F.slot_list_append PySem.F.type_list_append mt_append (pv 1) (pa_cons (pv 3) pa_nil)))))))))))))
      (pss_cons (ps_expr (pe_call GT hr rfl gT kT bT .nil pass0 (pa_cons (pv 2) (pa_cons (pe_lst (pa_cons pe_str (pa_cons pe_str (pa_cons pe_str pa_nil)))) (pa_cons (pv 1) pa_nil)))))
      (pss_one (ps_ret (pv 1)))))), ?_⟩
    refine ⟨Nat.zero_le _, fun O nO => ⟨Nat.zero_le _, fun W nW => ?_⟩⟩
    have nWO : W ≠ O := fun z => by rw [z, upd_same] at nW; cases nW
    have nWH : H W = none := by rw [upd_ne nWO] at nW; exact nW
    obtain ⟨fw, fo, hst, hfl⟩ := order_all hok
    have s3 : ([V.str "*", V.str "+", V.str "-"] : List V) = all3.map sgV := by rfl
    have s1 : ([V.str "*"] : List V) = ([42] : List Nat).map sgV := by rfl
    have keep : ∀ {H1 : Hp} {o : HO} {D : Addr}, Same H H1 → H D = none → Same H (upd H1 D o) := fun h n b x e => by
      rw [upd_ne (ne_of_none e n)]
      exact h b x e
    have keep2 : ∀ {H1 H2 : Hp}, Same H H1 → Only W O H1 H2 → Same H H2 := fun h k b x e => k b x (ne_of_none e nWH) (ne_of_none e nO) (h b x e)
    /- a call of take_signs -/
    have call : ∀ (w ss : List Nat) (o : List Tk) (H1 : Hp), H1 W = some (.lst (wtV w)) → H1 O = some (.lst (tkV o)) → Same H H1 → ∀ Sg, H1 Sg = none →
        (upd H1 Sg (.lst (ss.map sgV))) W = some (.lst (wtV w)) ∧ (upd H1 Sg (.lst (ss.map sgV))) O = some (.lst (tkV o)) ∧ Sg ≠ W ∧ Sg ≠ O ∧ (∀ H2, Only W O (upd H1 Sg (.lst (ss.map sgV))) H2 → Same H H2) := fun w ss o H1 eW eO sm Sg nS => by
      have nSW : Sg ≠ W := fun z => by rw [z, eW] at nS; cases nS
      have nSO : Sg ≠ O := fun z => by rw [z, eO] at nS; cases nS
      have nSH : H Sg = none := by
        cases e : H Sg with
        | none => rfl
        | some u => rw [sm _ _ e] at nS; cases nS
      exact ⟨by rw [upd_ne (Ne.symm nSW)]; exact eW, by rw [upd_ne (Ne.symm nSO)]; exact eO, nSW, nSO, fun H' on => keep2 (keep sm nSH) on⟩
    refine ⟨_, rfl, a, rfl, ⟨_, (keep (same_upd nO) nWH).seq ha⟩, for_list (xs := tkV (toks x)) (fun i σ H1 => ∃ (w : List Nat) (o : List Tk) (v3 : Option V), σ = [some (.ref a), some (.ref O), some (.ref W), v3] ∧ H1 W = some (.lst (wtV w)) ∧ H1 O = some (.lst (tkV o)) ∧ Same H H1 ∧ steps ((toks x).drop i) w o = some (fw, fo) ∧ w.length + o.length ≤ i)
      ⟨[], [], _, rfl, upd_same, by rw [upd_ne (Ne.symm nWO)]; exact upd_same, keep (same_upd nO) nWH, hst, Nat.le_refl _⟩ (fun i σ H1 _ ⟨w, o, v3, _, _, _, sm, _⟩ => sm.seq ha) ?_ ?_⟩
    · rintro i y σ H1 hy ⟨w, o, v3, rfl, eW, eO, sm, est, hl⟩
      obtain ⟨k, hk, rfl⟩ : ∃ k, (toks x)[i]? = some k ∧ y = tokV k := by
        rw [List.getElem?_map] at hy
        cases e : (toks x)[i]? with
        | none => rw [e] at hy; cases hy
        | some k => rw [e] at hy; exact ⟨k, rfl, (Option.some.inj hy).symm⟩
      have hi5 : i < 5000 := by
        have := (List.getElem?_eq_some_iff.mp hk).1
        omega
      have ed : (toks x).drop i = k :: (toks x).drop (i + 1) := by
        rw [List.drop_eq_getElem_cons (List.getElem?_eq_some_iff.mp hk).1, (List.getElem?_eq_some_iff.mp hk).2]
      rw [ed] at est
      have est2 : ∃ s, step1 k w o = some s ∧ steps ((toks x).drop (i + 1)) s.1 s.2 = some (fw, fo) := by
        have e : (step1 k w o).bind (fun s => steps ((toks x).drop (i + 1)) s.1 s.2) = some (fw, fo) := est
        cases e2 : step1 k w o with
        | none => rw [e2] at e; cases e
        | some s => rw [e2] at e; exact ⟨s, rfl, e⟩
      obtain ⟨⟨w2, o2⟩, e1, e2⟩ := est2
      cases k with
      | inl n =>
        have e3 := Prod.mk.inj (Option.some.inj e1)
        refine ⟨_, rfl, rfl, _, rfl, if_false_of (ne_num n 40) ⟨_, rfl, rfl, _, rfl, if_false_of (ne_num n 91) ?_⟩⟩
        refine ⟨_, rfl, rfl, _, rfl, if_false_of (ne_num n 41) ⟨_, rfl, rfl, _, rfl, if_false_of (ne_num n 93) ?_⟩⟩
        refine ⟨_, rfl, rfl, _, rfl, if_false_of (ne_num n 42) ⟨_, rfl, rfl, _, rfl, if_false_of (ne_num n 43) ⟨_, rfl, rfl, _, rfl, if_false_of (ne_num n 45) ?_⟩⟩⟩
        refine ⟨_, rfl, .inl ⟨rfl, _, SqL.of eO⟩, _, rfl, O, _, _, rfl, rfl, eO, small5 (by rw [List.length_map]; omega), ?_⟩
        refine ⟨w, o ++ [.inl n], _, rfl, by rw [upd_ne nWO]; exact eW, ?_, keep sm nO, by rw [← e3.1, ← e3.2] at e2; exact e2, by rw [List.length_append]; simp only [List.length_cons, List.length_nil]; omega⟩
        rw [upd_same]
        simp [tkV, tokV]
      | inr c =>
        have no : ∀ d, c ≠ d → decide (sgV c = sgV d) = false := fun d h => (sg_eq c d).trans (decide_eq_false h)
        have ys : ∀ d, c = d → decide (sgV c = sgV d) = true := fun d h => (sg_eq c d).trans (decide_eq_true h)
        have es : step1 (.inr c) w o = if c = 40 ∨ c = 91 then some (c :: w, o)
            else if c = 41 ∨ c = 93 then (match (flush all3 w o).1 with
              | [] => none
              | k :: r => some (r, if k = 91 then (flush all3 w o).2 ++ [.inr 91] else (flush all3 w o).2))
            else if c = 42 then some (42 :: (flush [42] w o).1, (flush [42] w o).2)
            else if c = 43 ∨ c = 45 then some (c :: (flush all3 w o).1, (flush all3 w o).2)
            else some (w, o ++ [.inr c]) := rfl
        have hfl3 := flush_len all3 w o
        have hfl1 := flush_len [42] w o
        by_cases h1 : c = 40 ∨ c = 91
        · rw [es, if_pos h1] at e1
          have e3 := Prod.mk.inj (Option.some.inj e1)
          rcases h1 with e | e
          case' inl => refine ⟨_, rfl, rfl, _, rfl, if_true_of (ys 40 e) ?_⟩
          case' inr => refine ⟨_, rfl, rfl, _, rfl, if_false_of (no 40 (by omega)) ⟨_, rfl, rfl, _, rfl, if_true_of (ys 91 e) ?_⟩⟩
          all_goals
          (refine ⟨_, rfl, .inl ⟨rfl, _, SqL.of eW⟩, _, rfl, W, _, _, rfl, rfl, eW, small5 (by rw [wtV_len]; omega), ?_⟩
           refine ⟨c :: w, o, _, rfl, ?_, by rw [upd_ne (Ne.symm nWO)]; exact eO, keep sm nWH, by rw [← e3.1, ← e3.2] at e2; exact e2, by rw [List.length_cons]; omega⟩
           rw [upd_same, wtV_cons]
           rfl)
        · rw [es, if_neg h1] at e1
          refine ⟨_, rfl, rfl, _, rfl, if_false_of (no 40 (by omega)) ⟨_, rfl, rfl, _, rfl, if_false_of (no 91 (by omega)) ?_⟩⟩
          by_cases h2 : c = 41 ∨ c = 93
          · rw [if_pos h2] at e1
            rcases h2 with e | e
            case' inl => refine ⟨_, rfl, rfl, _, rfl, if_true_of (ys 41 e) ?_⟩
            case' inr => refine ⟨_, rfl, rfl, _, rfl, if_false_of (no 41 (by omega)) ⟨_, rfl, rfl, _, rfl, if_true_of (ys 93 e) ?_⟩⟩
            all_goals
            (refine ⟨_, rfl, by show 3 ≤ sizeLine; exact small5' (by decide), fun Sg nS => ⟨_, rfl, ?_⟩⟩
             obtain ⟨c1, c2, c3, c4, c5⟩ := call w all3 o H1 eW eO sm Sg nS
             refine ⟨W, Sg, O, w, all3, o, rfl, c1, upd_same, c2, nWO, c3, c4, by omega, fun H2 on2 eW2 eO2 => ?_⟩
             have sm2 := c5 H2 on2
             cases hw : (flush all3 w o).1 with
             | nil => rw [hw] at e1; cases e1
             | cons k r =>
               rw [hw] at e1 eW2 hfl3
               have e3 := Prod.mk.inj (Option.some.inj e1)
               rw [List.length_cons] at hfl3
               refine ⟨_, rfl, .inl ⟨rfl, _, SqL.of eW2⟩, W, _, _, rfl, rfl, eW2, wtV_last k r, rfl, _, rfl, ?_⟩
               rw [wtV_drop]
               have eO3 : (upd H2 W (.lst (wtV r))) O = some (.lst (tkV (flush all3 w o).2)) := by rw [upd_ne (Ne.symm nWO)]; exact eO2
               by_cases hk : k = 91
               · refine if_true_of ((sg_eq k 91).trans (decide_eq_true hk)) ?_
                 rw [if_pos hk] at e3
                 refine ⟨_, rfl, .inl ⟨rfl, _, SqL.of eO3⟩, O, _, _, rfl, rfl, eO3, small5 (by rw [List.length_map]; omega), ?_⟩
                 refine ⟨r, (flush all3 w o).2 ++ [.inr 91], _, rfl, by rw [upd_ne nWO, upd_same], ?_, keep (keep sm2 nWH) nO, by rw [← e3.1, ← e3.2] at e2; exact e2, by rw [List.length_append]; simp only [List.length_cons, List.length_nil]; omega⟩
                 rw [upd_same, ← tkV_snoc]
                 rfl
               · refine if_false_of ((sg_eq k 91).trans (decide_eq_false hk)) ?_
                 rw [if_neg hk] at e3
                 exact ⟨r, (flush all3 w o).2, _, rfl, upd_same, eO3, keep sm2 nWH, by rw [← e3.1, ← e3.2] at e2; exact e2, by omega⟩)
          · rw [if_neg h2] at e1
            refine ⟨_, rfl, rfl, _, rfl, if_false_of (no 41 (by omega)) ⟨_, rfl, rfl, _, rfl, if_false_of (no 93 (by omega)) ?_⟩⟩
            by_cases h3 : c = 42
            · rw [if_pos h3] at e1
              have e3 := Prod.mk.inj (Option.some.inj e1)
              refine ⟨_, rfl, rfl, _, rfl, if_true_of (ys 42 h3) ?_⟩
              refine ⟨_, rfl, by show 1 ≤ sizeLine; exact small5' (by decide), fun Sg nS => ⟨_, rfl, ?_⟩⟩
              obtain ⟨c1, c2, c3, c4, c5⟩ := call w [42] o H1 eW eO sm Sg nS
              refine ⟨W, Sg, O, w, [42], o, rfl, c1, upd_same, c2, nWO, c3, c4, by omega, fun H2 on2 eW2 eO2 => ?_⟩
              have sm2 := c5 H2 on2
              refine ⟨_, rfl, .inl ⟨rfl, _, SqL.of eW2⟩, _, rfl, W, _, _, rfl, rfl, eW2, small5 (by rw [wtV_len]; omega), ?_⟩
              refine ⟨42 :: (flush [42] w o).1, (flush [42] w o).2, _, rfl, ?_, by rw [upd_ne (Ne.symm nWO)]; exact eO2, keep sm2 nWH, by rw [← e3.1, ← e3.2] at e2; exact e2, by rw [List.length_cons]; omega⟩
              rw [upd_same, wtV_cons, h3]
              rfl
            · rw [if_neg h3] at e1
              refine ⟨_, rfl, rfl, _, rfl, if_false_of (no 42 h3) ?_⟩
              by_cases h4 : c = 43 ∨ c = 45
              · rw [if_pos h4] at e1
                have e3 := Prod.mk.inj (Option.some.inj e1)
                rcases h4 with e | e
                case' inl => refine ⟨_, rfl, rfl, _, rfl, if_true_of (ys 43 e) ?_⟩
                case' inr => refine ⟨_, rfl, rfl, _, rfl, if_false_of (no 43 (by omega)) ⟨_, rfl, rfl, _, rfl, if_true_of (ys 45 e) ?_⟩⟩
                all_goals
                (refine ⟨_, rfl, by show 3 ≤ sizeLine; exact small5' (by decide), fun Sg nS => ⟨_, rfl, ?_⟩⟩
                 obtain ⟨c1, c2, c3, c4, c5⟩ := call w all3 o H1 eW eO sm Sg nS
                 refine ⟨W, Sg, O, w, all3, o, rfl, c1, upd_same, c2, nWO, c3, c4, by omega, fun H2 on2 eW2 eO2 => ?_⟩
                 have sm2 := c5 H2 on2
                 refine ⟨_, rfl, .inl ⟨rfl, _, SqL.of eW2⟩, _, rfl, W, _, _, rfl, rfl, eW2, small5 (by rw [wtV_len]; omega), ?_⟩
                 refine ⟨c :: (flush all3 w o).1, (flush all3 w o).2, _, rfl, ?_, by rw [upd_ne (Ne.symm nWO)]; exact eO2, keep sm2 nWH, by rw [← e3.1, ← e3.2] at e2; exact e2, by rw [List.length_cons]; omega⟩
                 rw [upd_same, wtV_cons]
                 rfl)
              · rw [if_neg h4] at e1
                have e3 := Prod.mk.inj (Option.some.inj e1)
                refine ⟨_, rfl, rfl, _, rfl, if_false_of (no 43 (by omega)) ⟨_, rfl, rfl, _, rfl, if_false_of (no 45 (by omega)) ?_⟩⟩
                refine ⟨_, rfl, .inl ⟨rfl, _, SqL.of eO⟩, _, rfl, O, _, _, rfl, rfl, eO, small5 (by rw [List.length_map]; omega), ?_⟩
                refine ⟨w, o ++ [.inr c], _, rfl, by rw [upd_ne nWO]; exact eW, ?_, keep sm nO, by rw [← e3.1, ← e3.2] at e2; exact e2, by rw [List.length_append]; simp only [List.length_cons, List.length_nil]; omega⟩
                rw [upd_same, ← tkV_snoc]
                rfl
    · rintro σ H1 ⟨w, o, v3, rfl, eW, eO, sm, est, hl⟩
      have e0 : (toks x).drop (tkV (toks x)).length = [] := by rw [List.length_map, List.drop_length]
      rw [e0] at est
      have e1 := Prod.mk.inj (Option.some.inj est)
      have hl2 : (tkV (toks x)).length = (toks x).length := List.length_map _
      refine ⟨_, rfl, by show 3 ≤ sizeLine; exact small5' (by decide), fun Sg nS => ⟨_, rfl, ?_⟩⟩
      obtain ⟨c1, c2, c3, c4, c5⟩ := call w all3 o H1 eW eO sm Sg nS
      refine ⟨W, Sg, O, w, all3, o, rfl, c1, upd_same, c2, nWO, c3, c4, by omega, fun H2 on2 eW2 eO2 => ?_⟩
      have sm2 := c5 H2 on2
      refine ⟨_, rfl, q H2 O sm2 nO ?_⟩
      rw [eO2, e1.1, e1.2, hfl]
end
end Ab

set_option Elab.async false
set_option linter.all false
set_option maxRecDepth 100000
set_option maxHeartbeats 2000000
namespace Ab
open PySem PySem.Spec PyProof.Rows L2 AbM
open Na (Bytes isDigit exHere)
section
variable {P : Program} {w : World} {K : PySem.W.Frag} {mg : Str → Option Value} {base : Heap} {CE fBI CF fFI CR aB : Addr}
theorem scRE : FnScope ["reader", "parts", "closers", "going_on"] ["reader"] (defScope sRE) := ⟨rfl, rfl, rfl, by decide +kernel, rfl, by decide +kernel, by decide +kernel⟩
theorem numM_len {p : Nat} {b : Bytes} {u : Tk} {q : Nat} {c : Bytes} (h : numM p b = .ok (u, q, c)) : c.length < b.length := by
  cases b with
  | nil => cases h
  | cons d l =>
    rw [numM_cons] at h
    by_cases h0 : d = 48
    · rw [if_pos h0] at h
      cases h
      exact Nat.lt_succ_self _
    · rw [if_neg h0] at h
      by_cases h1 : isDigit d = true
      · rw [if_pos h1] at h
        obtain ⟨k, e1, e2⟩ := digs_len 3 (p + 1) l
        have e3 : (digs 3 (p + 1) l).2 = c := congrArg Prod.snd (Prod.mk.inj (Except.ok.inj h)).2
        rw [← e3, e2, List.length_drop, List.length_cons]
        omega
      · rw [if_neg h1] at h
        by_cases h2 : isLet d = true
        · rw [if_pos h2] at h
          cases h
          exact Nat.lt_succ_self _
        · rw [if_neg h2] at h
          cases h
theorem none_back {K : PySem.W.Frag} {CR r dx ta : Addr} {t : Bytes} {H H1 : Hp} {p : Nat} {D : Addr} (a : At K CR r dx ta t H1 p) (on : Only r r H H1) (n : H1 D = none) : H D = none := by
  cases e : H D with
  | none => rfl
  | some u =>
    by_cases h : D = r
    · rw [h, a.ob] at n; cases n
    · rw [on _ _ h h e] at n; cases n
theorem tkV_cat (L M : List Tk) : tkV L ++ tkV M = tkV (L ++ M) := by simp [tkV]
theorem tkV_one (L : List Tk) (k : Tk) : tkV L ++ [tokV k] = tkV (L ++ [k]) := by simp [tkV]
theorem lex_small {t : Bytes} {p q : Nat} {L : List Tk} (h : Lex (t.drop p) L (t.drop q)) (hs : t.length ≤ 5000) : L.length ≤ 5000 := by
  have := h.len
  rw [List.length_drop, List.length_drop] at this
  omega
theorem ok_RE {f fS fRS fRO fRN fRC fPO : Addr} {fd fdS fdRS fdRO fdRN fdRC fdPO : FuncData} (F : Fun K "read_expression" "read_expression" sRE f fd) (T : Txt K mg CE fBI CF fFI CR) (mS : Meth K CR "shows" fS) (GS : FnOk P w K mg base CX0 2 fS fdS ["self", "signs"] (spSh K CR)) (bS : Binds K fdS ["self", "signs"] [])
    (mR : Meth K CR "read_sign" fRS) (GR : FnOk P w K mg base (L2.CX P w) 4 fRS fdRS ["self", "signs"] (spRS K CR CF)) (bR : Binds K fdRS ["self", "signs"] [])
    (gO : mg "read_opening_brackets" = some (.ref fRO)) (kO : PySem.W.keepIn K (.ref fRO) = true) (GO : FnOk P w K mg base (L2.CX P w) 5 fRO fdRO ["reader", "closers"] (spRO K CR)) (bO : Binds K fdRO ["reader", "closers"] [])
    (gN : mg "read_number_or_letter" = some (.ref fRN)) (kN : PySem.W.keepIn K (.ref fRN) = true) (GN : FnOk P w K mg base (L2.CX P w) 5 fRN fdRN ["reader"] (spRN K CR CF)) (bN : Binds K fdRN ["reader"] [])
    (gC : mg "read_closing_brackets" = some (.ref fRC)) (kC : PySem.W.keepIn K (.ref fRC) = true) (GC : FnOk P w K mg base (L2.CX P w) 5 fRC fdRC ["reader", "closers"] (spRC K CR)) (bC : Binds K fdRC ["reader", "closers"] [])
    (gP : mg "put_in_order" = some (.ref fPO)) (kP : PySem.W.keepIn K (.ref fPO) = true) (GP : FnOk P w K mg base CX0 2 fPO fdPO ["parts"] (spPO K)) (bP : Binds K fdPO ["parts"] []) :
    FnOk P w K mg base (L2.CX P w) 6 f fd ["reader"] (spRE K CR CF) := by
  refine F.okX scRE (fun vs H Q E h => ?_) (fun cdv A outer s H vs Q E hr h => ?_)
  · obtain ⟨r, dx, ta, t, p, rfl, _⟩ := h
    rfl
  · obtain ⟨r, dx, ta, t, p0, rfl, a, q⟩ := h
    have hr2 : Room 2 _ := hr.mono (by decide)
    have hr4 : Room 4 _ := hr.mono (by decide)
    refine ⟨_, pss_cons (ps_set (i := 1) scRE.nd rfl (Or.inl rfl) (pe_lst pa_nil))
      (pss_cons (ps_set (i := 2) scRE.nd rfl (Or.inl rfl) (pe_lst pa_nil))
      (pss_cons (ps_set (i := 3) scRE.nd rfl (Or.inl rfl) pe_bl)
      (pss_cons (ps_while (passes_of rfl) (pt_val (pv 3))
        (pss_cons (ps_expr (pe_bm PySem.F.plainAttrs_list PySem.F.slot_list_extend PySem.F.type_list_extend mt_extend (pv 1) (pa_cons (pe_call GO hr rfl gO kO bO .nil (passes_call (takes_of rfl rfl rfl rfl) (fun _ _ _ _ h => h)) (pa_cons (pv 0) (pa_cons (pv 2) pa_nil))) pa_nil)))
        (pss_cons (ps_expr (pe_bm PySem.F.plainAttrs_list PySem.F.slot_list_append PySem.F.type_list_append mt_append (pv 1) (pa_cons (pe_call GN hr rfl gN kN bN .nil (passes_call (takes_of rfl rfl rfl rfl) (fun _ _ _ _ h => h)) (pa_cons (pv 0) pa_nil)) pa_nil)))
        (pss_cons (ps_expr (pe_bm PySem.F.plainAttrs_list PySem.F.slot_list_extend PySem.F.type_list_extend mt_extend (pv 1) (pa_cons (pe_call GC hr rfl gC kC bC .nil (passes_call (takes_of rfl rfl rfl rfl) (fun _ _ _ _ h => h)) (pa_cons (pv 0) (pa_cons (pv 2) pa_nil))) pa_nil)))
        (pss_cons (ps_set (i := 3) scRE.nd rfl (Or.inl rfl) (pe_or (pe_meth (pv 0) T.cl mS GS hr2 bS .nil pass0 (pa_cons pe_str pa_nil)) (pe_one (pe_cmpR op_gt (pe_callB call_len_seq (by rfl) T.len PySem.boot_len (pa_cons (pv 2) pa_nil)) pe_int (nomark _)))))
        (pss_one (ps_if (pt_val (pv 3)) (pss_one (ps_expr (pe_bm PySem.F.plainAttrs_list PySem.F.slot_list_append PySem.F.type_list_append mt_append (pv 1) (pa_cons (pe_meth (pv 0) T.cl mR GR hr4 bR .nil (passes_call (takes_of rfl rfl rfl rfl) (fun _ _ _ _ h => h)) (pa_cons pe_str pa_nil)) pa_nil)))) pss_nil)))))))
      (pss_one (ps_ret (pe_call GP hr2 rfl gP kP bP .nil pass0 (pa_cons (pv 1) pa_nil))))))), ?_⟩
    refine ⟨Nat.zero_le _, fun B nB => ⟨Nat.zero_le _, fun cl ncl0 => ?_⟩⟩
    have ncB : cl ≠ B := fun z => by rw [z, upd_same] at ncl0; cases ncl0
    have ncl : H cl = none := by rw [upd_ne ncB] at ncl0; exact ncl0
    have nr : r ≠ cl := ne_of_none a.ob ncl
    have nrB : r ≠ B := ne_of_none a.ob nB
    have nt : Apart K ta cl (bs t) := Apart.new a.tx ncl
    have ntB : Apart K ta B (bs t) := Apart.new a.tx nB
    refine ⟨fun m σ H1 => ∃ (cs : List UInt8) (p : Nat) (g : Bool) (L : List Tk), σ = [some (.ref r), some (.ref B), some (.ref cl), some (.bl g)] ∧ At K CR r dx ta t H1 p ∧ Only r r H H1 ∧ H1 cl = some (.lst (clV cs)) ∧ H1 B = some (.lst (tkV L)) ∧ Cl cs ∧ cs.length ≤ 16 ∧ Lex (t.drop p0) L (t.drop p) ∧
      (g = true → scan (t.drop p0) .f [] p0 = scan (t.drop p) .f cs p ∧ m = t.length - p + 1) ∧ (g = false → scan (t.drop p0) .f [] p0 = .ok (p, t.drop p)),
      ⟨_, [], p0, true, [], rfl, (a.updn nrB ntB).updn nr nt, (Only.refl.upn nB).upn ncl, upd_same, by rw [upd_ne (Ne.symm ncB), upd_same]; rfl, (fun k h => absurd h List.not_mem_nil), by decide, .nil _, fun _ => ⟨rfl, rfl⟩, fun h => Bool.noConfusion h⟩, ?_⟩
    rintro m σ H1 ⟨cs, p, g, L, rfl, a1, on1, ec1, eB1, hcs, hlen, lx, hgt, hgf⟩
    refine ⟨_, rfl, _, rfl, ?_⟩
    cases g with
    | false =>
      refine iteF ?_
      obtain ⟨x, hx⟩ := ex_of_ok (hgf rfl)
      have eL := lx.det (ex_lex hx)
      subst eL
      have hgood : x.ok = true := by
        have h := AbG.ex_good hx
        have h2 : (x.ok && decide (x.depth ≤ Na.OPEN)) = true := h
        exact (Bool.and_eq_true _ _ ▸ h2).1
      refine ⟨_, rfl, B, x, rfl, SqL.of eB1, hgood, lex_small lx a.sz, fun H' D sm nD eD => ?_⟩
      exact q.2 x p hx H' _ ⟨D, rfl, none_back a1 on1 nD, eD⟩ (a1.same sm) (on1.trans (Only.same sm))
    | true =>
      refine iteT ?_
      obtain ⟨es, rfl⟩ := hgt rfl
      refine ⟨fun σ H1 => ∃ (cs : List UInt8) (p' : Nat) (g : Bool) (L : List Tk), σ = [some (.ref r), some (.ref B), some (.ref cl), some (.bl g)] ∧ At K CR r dx ta t H1 p' ∧ Only r r H H1 ∧ H1 cl = some (.lst (clV cs)) ∧ H1 B = some (.lst (tkV L)) ∧ Cl cs ∧ cs.length ≤ 16 ∧ Lex (t.drop p0) L (t.drop p') ∧
        (g = true → scan (t.drop p0) .f [] p0 = scan (t.drop p') .f cs p' ∧ p < p') ∧ (g = false → scan (t.drop p0) .f [] p0 = .ok (p', t.drop p')), ?_, ?_⟩
      · rintro σ' H' ⟨cs', p', g', L', e, b1, b2, b3, b4, b5, b6, b7, b8, b9⟩
        cases g' with
        | true =>
          obtain ⟨e1, lt⟩ := b8 rfl
          have := b1.le
          exact ⟨_, by omega, cs', p', true, L', e, b1, b2, b3, b4, b5, b6, b7, fun _ => ⟨e1, rfl⟩, b9⟩
        | false => exact ⟨0, by omega, cs', p', false, L', e, b1, b2, b3, b4, b5, b6, b7, fun h => Bool.noConfusion h, b9⟩
      · -- the brackets that open
        refine ⟨_, rfl, .inl ⟨rfl, _, SqL.of eB1⟩, _, rfl, _, rfl, r, dx, ta, cl, t, p, cs, rfl, a1, ec1, nt, hcs, hlen, fun p2 cs2 H2 D2 L2' hp2 a2 on2 ec2 hcs2 hl2 es2 nb2 nD2 eD2 lx2 => ?_⟩
        have eB2 : H2 B = some (.lst (tkV L)) := on2 _ _ (Ne.symm nrB) (Ne.symm ncB) eB1
        have lx2' := lx.append lx2
        have s2 := lex_small lx2' a.sz
        rw [List.length_append] at s2
        refine ⟨B, D2, _, _, rfl, rfl, eB2, eD2, small5' (by simp only [tkV, List.length_map]; omega), ?_⟩
        rw [tkV_cat]
        have on2' : Only r r H (upd H2 B (.lst (tkV (L ++ L2')))) := (on1.thru ncl on2).upn nB
        have a2' := a2.updn (o := .lst (tkV (L ++ L2'))) nrB ntB
        have ec2' : (upd H2 B (.lst (tkV (L ++ L2')))) cl = some (.lst (clV cs2)) := by rw [upd_ne ncB]; exact ec2
        generalize hG2 : upd H2 B (.lst (tkV (L ++ L2'))) = G2 at on2' a2' ec2'
        have eB2' : G2 B = some (.lst (tkV (L ++ L2'))) := by rw [← hG2, upd_same]
        rw [es2, scan_num nb2] at es
        -- the number
        refine ⟨_, rfl, .inl ⟨rfl, _, SqL.of eB2'⟩, _, rfl, r, dx, ta, t, p2, rfl, a2', ?_, ?_⟩
        · intro k hk
          rw [hk] at es
          exact q.1 k (ex_of_error es)
        · intro k3 p3 hk H3 v ev a3 on3
          subst ev
          rw [hk] at es
          have es3 : scan (t.drop p0) .f [] p0 = aft cs2 p3 (t.drop p3) := es
          have lt3 : p2 < p3 := by
            cases hd : t.drop p2 with
            | nil =>
              rw [hd] at hk
              cases hk
            | cons c l =>
              have := numM_len hk
              have h1 := a3.le
              have h2 := drop_lt hd
              rw [List.length_drop, List.length_drop] at this
              omega
          have ec3 := on3 _ _ (Ne.symm nr) (Ne.symm nr) ec2'
          have eB3 := on3 _ _ (Ne.symm nrB) (Ne.symm nrB) eB2'
          have lx3 := lx2'.append (Lex.one (numM_lex hk))
          have s3 := lex_small lx3 a.sz
          rw [List.length_append] at s3
          refine ⟨B, _, _, rfl, rfl, eB3, small5 (by simp only [tkV, List.length_map]; omega), ?_⟩
          rw [tkV_one]
          have on3' : Only r r H (upd H3 B (.lst (tkV (L ++ L2' ++ [k3])))) := (on2'.trans on3).upn nB
          have a3' := a3.updn (o := .lst (tkV (L ++ L2' ++ [k3]))) nrB ntB
          have ec3' : (upd H3 B (.lst (tkV (L ++ L2' ++ [k3])))) cl = some (.lst (clV cs2)) := by rw [upd_ne ncB]; exact ec3
          generalize hG3 : upd H3 B (.lst (tkV (L ++ L2' ++ [k3]))) = G3 at on3' a3' ec3'
          have eB3' : G3 B = some (.lst (tkV (L ++ L2' ++ [k3]))) := by rw [← hG3, upd_same]
          -- the brackets that close
          refine ⟨_, rfl, .inl ⟨rfl, _, SqL.of eB3'⟩, _, rfl, _, rfl, r, dx, ta, cl, t, p3, cs2, rfl, a3', ec3', nt, hcs2, hl2, fun p4 cs4 H4 D4 L4 hp4 a4 on4 ec4 hcs4 hl4 es4 nc4 nD4 eD4 lx4 => ?_⟩
          have eB4 := on4 _ _ (Ne.symm nrB) (Ne.symm ncB) eB3'
          have lx4' := lx3.append lx4
          have s4 := lex_small lx4' a.sz
          rw [List.length_append] at s4
          refine ⟨B, D4, _, _, rfl, rfl, eB4, eD4, small5' (by simp only [tkV, List.length_map]; omega), ?_⟩
          rw [tkV_cat]
          generalize hL : L ++ L2' ++ [k3] ++ L4 = LL at lx4'
          have on4' : Only r r H (upd H4 B (.lst (tkV LL))) := (on3'.thru ncl on4).upn nB
          have a4' := a4.updn (o := .lst (tkV LL)) nrB ntB
          have ec4' : (upd H4 B (.lst (tkV LL))) cl = some (.lst (clV cs4)) := by rw [upd_ne ncB]; exact ec4
          generalize hG4 : upd H4 B (.lst (tkV LL)) = G4 at on4' a4' ec4'
          have eB4' : G4 B = some (.lst (tkV LL)) := by rw [← hG4, upd_same]
          rw [es4] at es3
          -- what goes on
          refine ⟨_, rfl, r, dx, _, rfl, a4'.ob, rfl, r, dx, ta, t, p4, _, [43, 45, 42], rfl, a4', .inl (by rfl), by show 3 ≤ 1000; decide, fun H5 sm5 => ⟨_, rfl, ?_⟩⟩
          have a5 := a4'.same sm5
          have on5 := on4'.trans (Only.same sm5)
          have ec5 := sm5 _ _ ec4'
          have eB5 := sm5 _ _ eB4'
          cases hsh : showsM [43, 45, 42] (t.drop p4) with
          | true =>
            refine iteT ?_
            obtain ⟨c, l, ed, hm⟩ := shows_yes hsh
            have ho : isOp c = true := (isOp_iff c).mpr hm
            have hnd : isDigit c = false := by
              have h3 : c.toNat ≠ 48 ∧ c.toNat < 48 := by
                simp only [List.mem_cons, List.not_mem_nil, or_false] at hm
                omega
              unfold isDigit
              rw [decide_eq_false (by omega : ¬ 48 ≤ c.toNat)]
              rfl
            refine ⟨_, rfl, true, rfl, ?_⟩
            refine iteT ?_
            refine ⟨_, rfl, .inl ⟨rfl, _, SqL.of eB5⟩, _, rfl, r, dx, _, rfl, a5.ob, rfl, r, dx, ta, t, p4, _, [43, 45, 42], rfl, a5, .inl (by rfl), by show 3 ≤ 1000; decide, ?_, ?_⟩
            · intro j hj
              rw [ed, signM_hit hm] at hj
              cases hj
            · intro c' q' hk2 H6 v6 ev6 a6 on6
              subst ev6
              rw [ed, signM_hit hm] at hk2
              have e3 : c.toNat = c' := (Prod.mk.inj (Except.ok.inj hk2)).1
              have e4 : p4 + 1 = q' := (Prod.mk.inj (Prod.mk.inj (Except.ok.inj hk2)).2).1
              subst e3
              subst e4
              have eB6 := on6 _ _ (Ne.symm nrB) (Ne.symm nrB) eB5
              have lx6 := lx4'.append (lex_br ed hnd)
              have s6 := lex_small lx6 a.sz
              rw [List.length_append] at s6
              refine ⟨B, _, _, rfl, rfl, eB6, small5 (by simp only [tkV, List.length_map]; omega), ?_⟩
              rw [tkV_snoc]
              refine ⟨cs4, p4 + 1, true, _, rfl, a6.updn nrB ntB, (on5.trans on6).upn nB, by rw [upd_ne ncB]; exact on6 _ _ (Ne.symm nr) (Ne.symm nr) ec5, upd_same, hcs4, hl4, lx6, fun _ => ⟨?_, by omega⟩, fun h => Bool.noConfusion h⟩
              rw [es3, ed, aft_op hcs4 ho, drop_succ ed]
          | false =>
            refine iteF ?_
            have no : ∀ c l, t.drop p4 = c :: l → isOp c = false := fun c l ed => by
              have := shows_no hsh c l ed
              cases hb : isOp c with
              | false => rfl
              | true => exact absurd ((isOp_iff c).mp hb) this
            refine ⟨_, rfl, cl, _, rfl, .inl (SqL.of ec5), _, _, rfl, rfl, ?_⟩
            cases cs4 with
            | nil =>
              refine ⟨_, rfl, false, rfl, ?_⟩
              refine iteF ?_
              exact ⟨[], p4, false, LL, rfl, a5, on5, ec5, eB5, hcs4, hl4, lx4', fun h => Bool.noConfusion h, fun _ => es3.trans (aft_out no)⟩
            | cons k rest =>
              refine ⟨_, rfl, true, ?_, ?_⟩
              · rw [clV_len]
                show V.bl (decide ((0 : Int) < ((rest.length + 1 : Nat) : Int))) = _
                rw [decide_eq_true (by omega)]
              · refine iteT ?_
                refine ⟨_, rfl, .inl ⟨rfl, _, SqL.of eB5⟩, _, rfl, r, dx, _, rfl, a5.ob, rfl, r, dx, ta, t, p4, _, [43, 45, 42], rfl, a5, .inl (by rfl), by show 3 ≤ 1000; decide, ?_, ?_⟩
                · intro j hj
                  rw [signM_miss hsh] at hj
                  cases hj
                  rw [aft_stuck fun c l ed => ⟨nc4 k rest rfl c l ed, no c l ed⟩] at es3
                  exact q.1 p4 (ex_of_error es3)
                · intro c' q' hk2
                  rw [signM_miss hsh] at hk2
                  cases hk2
end
end Ab

set_option Elab.async false
set_option linter.all false
set_option maxRecDepth 100000
set_option maxHeartbeats 2000000
namespace Ab
open PySem PySem.Spec PyProof.Rows L2 AbM
open Na (Bytes isDigit exHere cmpAt expect ascii)
/-! ### what has been read stands -/
inductive All2 {α : Type} (R : V → α → Prop) : List V → List α → Prop
  | nil : All2 R [] []
  | cons {v : V} {x : α} {vs : List V} {xs : List α} : R v x → All2 R vs xs → All2 R (v :: vs) (x :: xs)
theorem All2.snoc {α : Type} {R : V → α → Prop} {vs : List V} {xs : List α} (h : All2 R vs xs) {v : V} {x : α} (g : R v x) : All2 R (vs ++ [v]) (xs ++ [x]) := by
  induction h with
  | nil => exact .cons g .nil
  | cons a _ ih => exact .cons a ih
theorem All2.imp {α : Type} {R S : V → α → Prop} {vs : List V} {xs : List α} (h : All2 R vs xs) (k : ∀ v x, R v x → S v x) : All2 S vs xs := by
  induction h with
  | nil => exact .nil
  | cons a _ ih => exact .cons (k _ _ a) ih
theorem All2.len {α : Type} {R : V → α → Prop} {vs : List V} {xs : List α} (h : All2 R vs xs) : vs.length = xs.length := by
  induction h with
  | nil => rfl
  | cons a _ ih => rw [List.length_cons, List.length_cons, ih]
theorem All2.at {α : Type} {R : V → α → Prop} {vs : List V} {xs : List α} (h : All2 R vs xs) : ∀ {i : Nat} {x : α}, xs[i]? = some x → ∃ v, vs[i]? = some v ∧ R v x := by
  induction h with
  | nil => intro i x e; cases e
  | @cons v y vs xs a _ ih =>
    intro i x e
    cases i with
    | zero =>
      cases e
      exact ⟨v, rfl, a⟩
    | succ i => exact ih e
theorem All2.at' {α : Type} {R : V → α → Prop} {vs : List V} {xs : List α} (h : All2 R vs xs) : ∀ {i : Nat} {v : V}, vs[i]? = some v → ∃ x, xs[i]? = some x ∧ R v x := by
  induction h with
  | nil => intro i x e; cases e
  | @cons v y vs xs a _ ih =>
    intro i x e
    cases i with
    | zero =>
      cases e
      exact ⟨y, rfl, a⟩
    | succ i => exact ih e
/-- what is new since H0 stands from H to H' -/
def KeepN (H0 H H' : Hp) : Prop := ∀ b o, H0 b = none → H b = some o → H' b = some o
/-- what stood in H0 is still there -/
def Grow (H0 H1 : Hp) : Prop := ∀ b, H1 b = none → H0 b = none
theorem KeepN.trans {H0 H H1 H2 : Hp} (a : KeepN H0 H H1) (b : KeepN H0 H1 H2) : KeepN H0 H H2 := fun x o n e => b x o n (a x o n e)
theorem KeepN.only {r c : Addr} {H0 H H' : Hp} (k : Only r c H H') (h1 : H0 r ≠ none) (h2 : H0 c ≠ none) : KeepN H0 H H' := fun b o n e => k b o (fun z => h1 (z ▸ n)) (fun z => h2 (z ▸ n)) e
theorem KeepN.same {H0 H H' : Hp} (k : Same H H') : KeepN H0 H H' := fun b o _ e => k b o e
theorem KeepN.upd {H0 H : Hp} {B : Addr} {o : HO} (h : H0 B ≠ none) : KeepN H0 H (L2.upd H B o) := fun b u n e => by
  rw [upd_ne (fun z : b = B => h (by rw [← z]; exact n))]
  exact e
theorem KeepN.new {H0 H : Hp} {B : Addr} {o : HO} (h : H B = none) : KeepN H0 H (L2.upd H B o) := fun b u _ e => by
  rw [upd_ne (ne_of_none e h)]
  exact e
theorem Grow.trans {H0 H1 H2 : Hp} (a : Grow H0 H1) (b : Grow H1 H2) : Grow H0 H2 := fun x n => a x (b x n)
theorem Grow.refl {H : Hp} : Grow H H := fun _ n => n
theorem Grow.same {H H1 : Hp} (k : Same H H1) : Grow H H1 := fun b n => by
  cases e : H b with
  | none => rfl
  | some u => rw [k _ _ e] at n; cases n
theorem Grow.only {r c : Addr} {H H1 : Hp} (k : Only r c H H1) (h1 : H1 r ≠ none) (h2 : H1 c ≠ none) : Grow H H1 := fun b n => by
  cases e : H b with
  | none => rfl
  | some u =>
    have e1 : b ≠ r := fun z => h1 (z ▸ n)
    have e2 : b ≠ c := fun z => h2 (z ▸ n)
    rw [k _ _ e1 e2 e] at n
    cases n
theorem Grow.upd {H0 H1 : Hp} (a : Grow H0 H1) {B : Addr} {o : HO} : Grow H0 (L2.upd H1 B o) := fun b n => by
  by_cases h : b = B
  · rw [h, upd_same] at n; cases n
  · rw [upd_ne h] at n
    exact a b n
theorem at_some {H : Hp} {a : Addr} {o : HO} (h : H a = some o) : H a ≠ none := fun z => by rw [z] at h; cases h
theorem ExV.keep {H0 H H' : Hp} {v : V} {x : Na.Ex} (h : ExV H0 H v x) (k : KeepN H0 H H') : ExV H0 H' v x :=
  let ⟨a, e, n, g⟩ := h
  ⟨a, e, n, k a _ n g⟩
theorem ExV.old {H0 H1 H : Hp} {v : V} {x : Na.Ex} (h : ExV H1 H v x) (k : Grow H0 H1) : ExV H0 H v x :=
  let ⟨a, e, n, g⟩ := h
  ⟨a, e, k a n, g⟩
/-- a test -/
def TestV (H0 H : Hp) (v : V) (t : Na.Test) : Prop := ∃ (T : Addr) (va vb : V), v = .ref T ∧ H0 T = none ∧ H T = some (.tup [va, stV (cmpW t.cmp), vb]) ∧ ExV H0 H va t.a ∧ ExV H0 H vb t.b
theorem TestV.keep {H0 H H' : Hp} {v : V} {x : Na.Test} (h : TestV H0 H v x) (k : KeepN H0 H H') : TestV H0 H' v x :=
  let ⟨T, va, vb, e, n, g, ea, eb⟩ := h
  ⟨T, va, vb, e, n, k _ _ n g, ea.keep k, eb.keep k⟩
theorem TestV.old {H0 H1 H : Hp} {v : V} {x : Na.Test} (h : TestV H1 H v x) (k : Grow H0 H1) : TestV H0 H v x :=
  let ⟨T, va, vb, e, n, g, ea, eb⟩ := h
  ⟨T, va, vb, e, k _ n, g, ea.old k, eb.old k⟩
def TestsV (H0 H : Hp) (vs : List V) (ts : List Na.Test) : Prop := All2 (TestV H0 H) vs ts
theorem TestsV.keep {H0 H H' : Hp} {vs : List V} {ts : List Na.Test} (h : TestsV H0 H vs ts) (k : KeepN H0 H H') : TestsV H0 H' vs ts := All2.imp h fun _ _ g => g.keep k
theorem TestsV.old {H0 H1 H : Hp} {vs : List V} {ts : List Na.Test} (h : TestsV H1 H vs ts) (k : Grow H0 H1) : TestsV H0 H vs ts := All2.imp h fun _ _ g => g.old k
def spRT (K : PySem.W.Frag) (CR CF : Addr) : Sp := fun vs H Q E => ∃ (r dx ta : Addr) (t : Bytes) (p : Nat), vs = [.ref r] ∧ At K CR r dx ta t H p ∧
  Out K CR CF r dx ta t (tstM p (t.drop p)) H r (fun ts H' v => ∃ (D : Addr) (us : List V), v = .ref D ∧ H D = none ∧ H' D = some (.lst us) ∧ us.length ≤ 5000 ∧ TestsV H H' us ts) Q E
theorem cmp_error {q k : Nat} {c : Bytes} (h : munch c (tag [] wCmps) q = .error k) : cmpAt q c = .error k := by
  cases e : cmpAt q c with
  | error j =>
    rw [(munch_cmp q c).1 j e] at h
    cases h
    rfl
  | ok z =>
    obtain ⟨x, q', c'⟩ := z
    obtain ⟨_, hw⟩ := (munch_cmp q c).2 x q' c' e
    rw [hw] at h
    cases h
theorem cmp_ok {q q' : Nat} {c c' : Bytes} {w : List Nat} (h : munch c (tag [] wCmps) q = .ok (w, q', c')) : ∃ x, cmpAt q c = .ok (x, q', c') ∧ w = cmpW x := by
  cases e : cmpAt q c with
  | error j =>
    rw [(munch_cmp q c).1 j e] at h
    cases h
  | ok z =>
    obtain ⟨x, q2, c2⟩ := z
    obtain ⟨_, hw⟩ := (munch_cmp q c).2 x q2 c2 e
    rw [hw] at h
    cases h
    exact ⟨x, rfl, rfl⟩
def consT (t : Na.Test) (l : List Na.Test) (q : Nat) (c : Bytes) : Except Nat (List Na.Test × (Nat × Bytes)) := .ok (t :: l, q, c)
/-- behind the tests of one line: what stands there -/
def behindM (f : Nat) (t : Na.Test) (q : Nat) (c : Bytes) : Except Nat (List Na.Test × (Nat × Bytes)) := if c.head? = some 32 then bindX (expect (ascii " and ") q c) fun _ q c => bindX (tstF f q c) (consT t) else bindX (lf q c) fun _ q c => .ok ([t], q, c)
theorem behind_error {f q k : Nat} {t : Na.Test} {c : Bytes} (h : munch c (tag [] [wAnd, wLf]) q = .error k) : behindM f t q c = .error k := by
  rw [munch_behind] at h
  unfold behindM
  by_cases e : c.head? = some 32
  · rw [if_pos e] at h ⊢
    cases e2 : expect (ascii " and ") q c with
    | error j => rw [e2] at h; cases h; rfl
    | ok z => rw [e2] at h; cases h
  · rw [if_neg e] at h ⊢
    cases e2 : lf q c with
    | error j => rw [e2] at h; cases h; rfl
    | ok z => rw [e2] at h; cases h
theorem behind_ok {f q q' : Nat} {t : Na.Test} {c c' : Bytes} {w : List Nat} (h : munch c (tag [] [wAnd, wLf]) q = .ok (w, q', c')) : (w = wAnd ∧ c'.length < c.length ∧ behindM f t q c = bindX (tstF f q' c') (consT t)) ∨ (w = wLf ∧ behindM f t q c = .ok ([t], q', c')) := by
  rw [munch_behind] at h
  unfold behindM
  by_cases e : c.head? = some 32
  · rw [if_pos e] at h ⊢
    cases e2 : expect (ascii " and ") q c with
    | error j => rw [e2] at h; cases h
    | ok z =>
      obtain ⟨u, q2, c2⟩ := z
      rw [e2] at h
      cases h
      have := expect_len _ _ _ _ _ _ e2
      have hl : (ascii " and ").length = 5 := by decide +kernel
      exact .inl ⟨rfl, by omega, rfl⟩
  · rw [if_neg e] at h ⊢
    cases e2 : lf q c with
    | error j => rw [e2] at h; cases h
    | ok z =>
      obtain ⟨u, q2, c2⟩ := z
      rw [e2] at h
      cases h
      exact .inr ⟨rfl, rfl⟩
theorem tstF_chain (f p : Nat) (b : Bytes) : tstF (f + 1) p b = bindX (exHere p b) fun x q c => bindX (cmpAt q c) fun k q c => bindX (exHere q c) fun y q c => behindM f ⟨x, k, y⟩ q c := by
  rw [tstF_succ]
  unfold tst1
  simp only [bindX_assoc]
  rfl
/-- tests so far, then the rest -/
def preT (a : List Na.Test) (x : Except Nat (List Na.Test × (Nat × Bytes))) : Except Nat (List Na.Test × (Nat × Bytes)) := bindX x fun l q c => .ok (a ++ l, q, c)
theorem preT_cons (a : List Na.Test) (t : Na.Test) (x : Except Nat (List Na.Test × (Nat × Bytes))) : preT a (bindX x (consT t)) = preT (a ++ [t]) x := by
  cases x with
  | error k => rfl
  | ok z => show Except.ok (a ++ t :: z.1, _) = Except.ok (a ++ [t] ++ z.1, _); simp
theorem preT_nil (x : Except Nat (List Na.Test × (Nat × Bytes))) : preT [] x = x := by
  cases x with
  | error k => rfl
  | ok z => rfl
section
variable {P : Program} {w : World} {K : PySem.W.Frag} {mg : Str → Option Value} {base : Heap} {CE fBI CF fFI CR aB : Addr}
theorem scRT : FnScope ["reader", "tests", "behind", "left", "sign"] ["reader"] (defScope sRT) := ⟨rfl, rfl, rfl, by decide +kernel, rfl, by decide +kernel, by decide +kernel⟩
theorem ok_RT {f fRW fRE : Addr} {fd fdRW fdRE : FuncData} (F : Fun K "read_tests" "read_tests" sRT f fd) (T : Txt K mg CE fBI CF fFI CR)
    (mW : Meth K CR "read_word" fRW) (GW : FnOk P w K mg base (L2.CX P w) 5 fRW fdRW ["self", "words"] (spRW K CR CF)) (bW : Binds K fdRW ["self", "words"] [])
    (gE : mg "read_expression" = some (.ref fRE)) (kE : PySem.W.keepIn K (.ref fRE) = true) (GE : FnOk P w K mg base (L2.CX P w) 6 fRE fdRE ["reader"] (spRE K CR CF)) (bE : Binds K fdRE ["reader"] []) :
    FnOk P w K mg base (L2.CX P w) 7 f fd ["reader"] (spRT K CR CF) := by
  refine F.okX scRT (fun vs H Q E h => ?_) (fun cdv A outer s H vs Q E hr h => ?_)
  · obtain ⟨r, dx, ta, t, p, rfl, _⟩ := h
    rfl
  · obtain ⟨r, dx, ta, t, p0, rfl, a, q⟩ := h
    have hr5 : Room 5 _ := hr.mono (by decide)
    refine ⟨_, pss_cons (ps_set (i := 1) scRT.nd rfl (Or.inl rfl) (pe_lst pa_nil))
      (pss_cons (ps_set (i := 2) scRT.nd rfl (Or.inl rfl) pe_str)
      (pss_cons (ps_while (passes_of rfl) (pt_cmpR op_eq (pv 2) pe_str (nomark _))
        (pss_cons (ps_set (i := 3) scRT.nd rfl (Or.inl rfl) (pe_call GE hr rfl gE kE bE .nil (passes_call (takes_of rfl rfl rfl rfl) (fun _ _ _ _ h => h)) (pa_cons (pv 0) pa_nil)))
        (pss_cons (ps_set (i := 4) scRT.nd rfl (Or.inl rfl) (pe_meth (pv 0) T.cl mW GW hr5 bW .nil (passes_call (takes_of rfl rfl rfl rfl) (fun _ _ _ _ h => h)) (pa_cons (pe_lst (pa_cons pe_str (pa_cons pe_str (pa_cons pe_str (pa_cons pe_str (pa_cons pe_str (pa_cons pe_str pa_nil))))))) pa_nil)))
        (pss_cons (ps_expr (pe_bm PySem.F.plainAttrs_list PySem.F.slot_list_append PySem.F.type_list_append mt_append (pv 1) (pa_cons (pe_tup (pa_cons (pv 3) (pa_cons (pv 4) (pa_cons (pe_call GE hr rfl gE kE bE .nil (passes_call (takes_of rfl rfl rfl rfl) (fun _ _ _ _ h => h)) (pa_cons (pv 0) pa_nil)) pa_nil)))) pa_nil)))
        (pss_one (ps_set (i := 2) scRT.nd rfl (Or.inl rfl) (pe_meth (pv 0) T.cl mW GW hr5 bW .nil (passes_call (takes_of rfl rfl rfl rfl) (fun _ _ _ _ h => h)) (pa_cons (pe_lst (pa_cons pe_str (pa_cons pe_str pa_nil))) pa_nil))))))))
      (pss_one (ps_ret (pv 1))))), ?_⟩
    refine ⟨Nat.zero_le _, fun B nB => ?_⟩
    have nrB : r ≠ B := ne_of_none a.ob nB
    have ntB : Apart K ta B (bs t) := Apart.new a.tx nB
    have hB0 : ∀ b, (upd H B (.lst [])) b = none → H b = none := Grow.refl.upd
    generalize hH0 : upd H B (.lst []) = H0 at hB0
    have r0 : H0 r ≠ none := by rw [← hH0, upd_ne nrB]; exact at_some a.ob
    have b0 : H0 B ≠ none := by rw [← hH0, upd_same]; exact fun z => nomatch z
    have a0 : At K CR r dx ta t H0 p0 := by rw [← hH0]; exact a.updn nrB ntB
    have e0 : H0 B = some (.lst []) := by rw [← hH0, upd_same]
    have on0 : Only r r H H0 := by rw [← hH0]; exact Only.refl.upn nB
    refine ⟨fun m σ H1 => ∃ (wd : List Nat) (p : Nat) (us : List V) (ts : List Na.Test) (v3 v4 : Option V), σ = [some (.ref r), some (.ref B), some (stV wd), v3, v4] ∧ At K CR r dx ta t H1 p ∧ Only r r H H1 ∧ H1 B = some (.lst us) ∧ TestsV H0 H1 us ts ∧ Grow H0 H1 ∧ us.length ≤ p - p0 ∧ p0 ≤ p ∧
      (wd = wAnd → (∃ f, (t.drop p).length < f ∧ tstM p0 (t.drop p0) = preT ts (tstF f p (t.drop p))) ∧ m = t.length - p + 1) ∧ (wd ≠ wAnd → tstM p0 (t.drop p0) = .ok (ts, p, t.drop p)),
      ⟨_, wAnd, p0, [], [], _, _, rfl, a0, on0, e0, .nil, Grow.refl, Nat.zero_le _, Nat.le_refl _, fun _ => ⟨⟨_, Nat.lt_succ_self _, (preT_nil _).symm⟩, rfl⟩, fun h => absurd rfl h⟩, ?_⟩
    rintro m σ H1 ⟨wd, p, us, ts, v3, v4, rfl, a1, on1, eB1, hts, gr1, hul, hpp, ht, hf⟩
    refine ⟨_, rfl, rfl, _, rfl, ?_⟩
    by_cases hw : wd = wAnd
    · obtain ⟨⟨f, hfl, es⟩, rfl⟩ := ht hw
      refine if_true_of (by subst hw; rfl) ?_
      cases f with
      | zero => exact absurd hfl (Nat.not_lt_zero _)
      | succ f =>
        rw [tstF_chain] at es
        refine ⟨fun σ H1 => ∃ (wd : List Nat) (p' : Nat) (us : List V) (ts : List Na.Test) (v3 v4 : Option V), σ = [some (.ref r), some (.ref B), some (stV wd), v3, v4] ∧ At K CR r dx ta t H1 p' ∧ Only r r H H1 ∧ H1 B = some (.lst us) ∧ TestsV H0 H1 us ts ∧ Grow H0 H1 ∧ us.length ≤ p' - p0 ∧ p0 ≤ p' ∧
          (wd = wAnd → (∃ f, (t.drop p').length < f ∧ tstM p0 (t.drop p0) = preT ts (tstF f p' (t.drop p'))) ∧ p < p') ∧ (wd ≠ wAnd → tstM p0 (t.drop p0) = .ok (ts, p', t.drop p')), ?_, ?_⟩
        · rintro σ' H' ⟨wd', p', us', ts', v3', v4', e, b1, b2, c1, c2, c3, c4, c5, b3, b4⟩
          by_cases hw' : wd' = wAnd
          · obtain ⟨b5, lt⟩ := b3 hw'
            have := b1.le
            exact ⟨_, by omega, wd', p', us', ts', v3', v4', e, b1, b2, c1, c2, c3, c4, c5, fun _ => ⟨b5, rfl⟩, b4⟩
          · exact ⟨0, by omega, wd', p', us', ts', v3', v4', e, b1, b2, c1, c2, c3, c4, c5, fun h => absurd h hw', b4⟩
        · refine ⟨_, rfl, r, dx, ta, t, p, rfl, a1, ?_, ?_⟩
          · intro k hk
            rw [hk] at es
            exact q.1 k es
          · intro x q1 hk H2 v ev a2 on2
            rw [hk, bindX_ok] at es
            have l1 := (ex_len hk).1
            have ev0 : ExV H0 H2 v x := ev.old gr1
            have eB2 : H2 B = some (.lst us) := on2 _ _ (Ne.symm nrB) (Ne.symm nrB) eB1
            have hts2 : TestsV H0 H2 us ts := hts.keep (KeepN.only on2 r0 r0)
            have gr2 : Grow H0 H2 := gr1.trans (Grow.only on2 (at_some a2.ob) (at_some a2.ob))
            refine ⟨_, rfl, r, dx, _, rfl, a2.ob, rfl, by show 6 ≤ sizeLine; exact Nat.le_of_lt (small1000 (by decide)), fun D nD => ?_⟩
            refine ⟨r, dx, ta, t, q1, D, wCmps, rfl, a2.same (same_upd nD), SqL.of (xs := wCmps.map stV) upd_same, by decide, by decide, ?_, ?_⟩
            · intro k hk2
              rw [cmp_error hk2] at es
              exact q.1 k es
            · intro wd2 q2 hk2 H3 v3 ev3 a3 on3
              subst ev3
              obtain ⟨x2, hx2, ew⟩ := cmp_ok hk2
              subst ew
              rw [hx2, bindX_ok] at es
              have l2 := ((munch_cmp q1 _).2 _ _ _ hx2).1
              have on3' : Only r r H2 H3 := (Only.same (same_upd nD)).trans on3
              have eB3 : H3 B = some (.lst us) := on3' _ _ (Ne.symm nrB) (Ne.symm nrB) eB2
              have k3 : KeepN H0 H2 H3 := KeepN.only on3' r0 r0
              have gr3 : Grow H0 H3 := gr2.trans (Grow.only on3' (at_some a3.ob) (at_some a3.ob))
              refine ⟨_, rfl, .inl ⟨rfl, _, SqL.of eB3⟩, _, rfl, _, rfl, _, rfl, r, dx, ta, t, q2, rfl, a3, ?_, ?_⟩
              · intro k hk
                rw [hk] at es
                exact q.1 k es
              · intro x3 q3 hk3 H4 v4 ev4 a4 on4
                rw [hk3, bindX_ok] at es
                have l3 := (ex_len hk3).1
                have k4 : KeepN H0 H3 H4 := KeepN.only on4 r0 r0
                have gr4 : Grow H0 H4 := gr3.trans (Grow.only on4 (at_some a4.ob) (at_some a4.ob))
                have eB4 : H4 B = some (.lst us) := on4 _ _ (Ne.symm nrB) (Ne.symm nrB) eB3
                have on4' : Only r r H H4 := (on1.trans on2).trans (on3'.trans on4)
                refine ⟨by show 3 ≤ sizeLine; exact small5' (by decide), fun D3 nD3 => ?_⟩
                have nBD : B ≠ D3 := ne_of_none eB4 nD3
                have nrD : r ≠ D3 := ne_of_none a4.ob nD3
                have e5 : (upd H4 D3 (.tup [v, stV (cmpW x2), v4])) B = some (.lst us) := by rw [upd_ne nBD]; exact eB4
                have hus5 : us.length ≤ 5000 := by have := a1.le; have := a1.sz; omega
                refine ⟨B, _, _, rfl, rfl, e5, small5 (by omega), ?_⟩
                have hnew : TestV H0 (upd H4 D3 (.tup [v, stV (cmpW x2), v4])) (.ref D3) ⟨x, x2, x3⟩ :=
                  ⟨D3, v, v4, rfl, gr4 _ nD3, upd_same, (ev0.keep (k3.trans k4)).keep (KeepN.new nD3), (ev4.old gr3).keep (KeepN.new nD3)⟩
                have hts5 : TestsV H0 (upd (upd H4 D3 (.tup [v, stV (cmpW x2), v4])) B (.lst (us ++ [.ref D3]))) (us ++ [.ref D3]) (ts ++ [⟨x, x2, x3⟩]) :=
                  TestsV.keep (All2.snoc ((hts2.keep (k3.trans k4)).keep (KeepN.new nD3)) hnew) (KeepN.upd b0)
                have a5 : At K CR r dx ta t (upd (upd H4 D3 (.tup [v, stV (cmpW x2), v4])) B (.lst (us ++ [.ref D3]))) q3 := (a4.same (same_upd nD3)).updn nrB ntB
                have on5 : Only r r H (upd (upd H4 D3 (.tup [v, stV (cmpW x2), v4])) B (.lst (us ++ [.ref D3]))) := (on4'.trans (Only.same (same_upd nD3))).upn nB
                have gr5 : Grow H0 (upd (upd H4 D3 (.tup [v, stV (cmpW x2), v4])) B (.lst (us ++ [.ref D3]))) := gr4.upd.upd
                have eB5 : (upd (upd H4 D3 (.tup [v, stV (cmpW x2), v4])) B (.lst (us ++ [.ref D3]))) B = some (.lst (us ++ [.ref D3])) := upd_same
                generalize upd (upd H4 D3 (.tup [v, stV (cmpW x2), v4])) B (.lst (us ++ [.ref D3])) = H5 at hts5 a5 on5 gr5 eB5
                refine ⟨_, rfl, r, dx, _, rfl, a5.ob, rfl, by show 2 ≤ sizeLine; exact Nat.le_of_lt (small1000 (by decide)), fun D2 nD2 => ?_⟩
                refine ⟨r, dx, ta, t, q3, D2, [wAnd, wLf], rfl, a5.same (same_upd nD2), SqL.of (xs := ([wAnd, wLf] : List (List Nat)).map stV) upd_same, by decide, by decide, ?_, ?_⟩
                · intro k hk4
                  rw [behind_error hk4] at es
                  exact q.1 k es
                · intro wd5 q5 hk5 H6 v5 ev5 a6 on6
                  subst ev5
                  have on6' : Only r r H5 H6 := (Only.same (same_upd nD2)).trans on6
                  have hts6 := hts5.keep (KeepN.only on6' r0 r0)
                  have gr6 : Grow H0 H6 := gr5.trans (Grow.only on6' (at_some a6.ob) (at_some a6.ob))
                  have eB6 := on6' _ _ (Ne.symm nrB) (Ne.symm nrB) eB5
                  have h5 := a6.le
                  have h1 := a1.le
                  have h3 := a4.le
                  have h2 := a2.le
                  have h4 := a3.le
                  have l5 : q3 ≤ q5 := by
                    rcases behind_ok (f := f) (t := (⟨x, x2, x3⟩ : Na.Test)) hk5 with ⟨e1, l5, e2⟩ | ⟨e1, e2⟩
                    · simp only [List.length_drop] at l5
                      omega
                    · have := (munch_len _ _ _ _ _ _ hk5).1
                      simp only [List.length_drop] at this
                      omega
                  have hlen : (us ++ [V.ref D3]).length ≤ q5 - p0 ∧ p < q5 := by
                    rw [List.length_append]
                    simp only [List.length_drop] at l1 l2 l3
                    simp only [List.length_cons, List.length_nil]
                    omega
                  rcases behind_ok (f := f) (t := (⟨x, x2, x3⟩ : Na.Test)) hk5 with ⟨e1, l5, e2⟩ | ⟨e1, e2⟩
                  · subst e1
                    rw [e2, preT_cons] at es
                    refine ⟨wAnd, q5, _, _, _, _, rfl, a6, on5.trans on6', eB6, hts6, gr6, hlen.1, by omega, fun _ => ⟨⟨f, ?_, es⟩, hlen.2⟩, fun h => absurd rfl h⟩
                    simp only [List.length_drop] at l1 l2 l3 l5 hfl ⊢
                    omega
                  · subst e1
                    rw [e2] at es
                    exact ⟨wLf, q5, _, _, _, _, rfl, a6, on5.trans on6', eB6, hts6, gr6, hlen.1, by omega, fun h => absurd h (by decide), fun _ => es⟩
    · refine if_false_of ?_ ?_
      · refine decide_eq_false fun z => hw ?_
        have z1 : S wd = S wAnd := V.str.inj z
        exact S_inj z1
      · exact ⟨_, rfl, q.2 ts p (hf hw) H1 _ ⟨B, us, rfl, nB, eB1, by have := a1.le; have := a1.sz; omega, hts.old hB0⟩ a1 on1⟩
end
end Ab

set_option Elab.async false
set_option linter.all false
set_option maxRecDepth 100000
set_option maxHeartbeats 4000000
namespace Ab
open PySem PySem.Spec PyProof.Rows L2 AbM
open Na (Bytes isDigit exHere cmpAt expect ascii headAt)
def OkO (o : List Nat) : Prop := o.length ≤ 16 ∧ ∀ k ∈ o, k = 0 ∨ k = 1 ∨ k = 2
/-- a line's first word, as the program gives it back -/
def nameOf : Na.Line → List Nat
  | .add _ _ => [97, 100, 100]
  | .take _ _ => [116, 97, 107, 101]
  | .set _ _ => [115, 101, 116]
  | .if_ _ => [105, 102]
  | .else_ => [101, 108, 115, 101]
  | .end_ => [101, 110, 100]
  | .while_ _ => [119, 104, 105, 108, 101]
  | .halt_ => [115, 116, 111, 112]
  | .fail => [102, 97, 105, 108]
def PartsV (H0 H : Hp) (us : List V) : Na.Line → Prop
  | .add e r => ∃ a b, us = [a, b] ∧ ExV H0 H a e ∧ ExV H0 H b r
  | .take e r => ∃ a b, us = [a, b] ∧ ExV H0 H a e ∧ ExV H0 H b r
  | .set k e => ∃ a, us = [sgV (97 + k), a] ∧ ExV H0 H a e
  | .if_ ts => TestsV H0 H us ts
  | .while_ ts => TestsV H0 H us ts
  | _ => us = []
theorem PartsV.keep {H0 H H' : Hp} {us : List V} {l : Na.Line} (h : PartsV H0 H us l) (k : KeepN H0 H H') : PartsV H0 H' us l := by
  cases l with
  | add e r => obtain ⟨a, b, e1, e2, e3⟩ := h; exact ⟨a, b, e1, e2.keep k, e3.keep k⟩
  | take e r => obtain ⟨a, b, e1, e2, e3⟩ := h; exact ⟨a, b, e1, e2.keep k, e3.keep k⟩
  | set j e => obtain ⟨a, e1, e2⟩ := h; exact ⟨a, e1, e2.keep k⟩
  | if_ ts => exact TestsV.keep h k
  | while_ ts => exact TestsV.keep h k
  | else_ => exact h
  | end_ => exact h
  | halt_ => exact h
  | fail => exact h
theorem PartsV.old {H0 H1 H : Hp} {us : List V} {l : Na.Line} (h : PartsV H1 H us l) (k : Grow H0 H1) : PartsV H0 H us l := by
  cases l with
  | add e r => obtain ⟨a, b, e1, e2, e3⟩ := h; exact ⟨a, b, e1, e2.old k, e3.old k⟩
  | take e r => obtain ⟨a, b, e1, e2, e3⟩ := h; exact ⟨a, b, e1, e2.old k, e3.old k⟩
  | set j e => obtain ⟨a, e1, e2⟩ := h; exact ⟨a, e1, e2.old k⟩
  | if_ ts => exact TestsV.old h k
  | while_ ts => exact TestsV.old h k
  | else_ => exact h
  | end_ => exact h
  | halt_ => exact h
  | fail => exact h
/-- a line -/
def LineV (H0 H : Hp) (v : V) (l : Na.Line) : Prop := ∃ (T P : Addr) (us : List V), v = .ref T ∧ H0 T = none ∧ H T = some (.tup [stV (nameOf l), .ref P]) ∧ H0 P = none ∧ H P = some (.lst us) ∧ PartsV H0 H us l
theorem LineV.keep {H0 H H' : Hp} {v : V} {x : Na.Line} (h : LineV H0 H v x) (k : KeepN H0 H H') : LineV H0 H' v x :=
  let ⟨T, P, us, e, n, g, n2, g2, ps⟩ := h
  ⟨T, P, us, e, n, k _ _ n g, n2, k _ _ n2 g2, ps.keep k⟩
theorem LineV.old {H0 H1 H : Hp} {v : V} {x : Na.Line} (h : LineV H1 H v x) (k : Grow H0 H1) : LineV H0 H v x :=
  let ⟨T, P, us, e, n, g, n2, g2, ps⟩ := h
  ⟨T, P, us, e, k _ n, g, k _ n2, g2, ps.old k⟩
def spRL (K : PySem.W.Frag) (CR CF : Addr) : Sp := fun vs H Q E => ∃ (r dx ta bl : Addr) (t : Bytes) (p : Nat) (o : List Nat), vs = [.ref r, .ref bl] ∧ At K CR r dx ta t H p ∧ H bl = some (.lst (bkV o)) ∧ Apart K ta bl (bs t) ∧ OkO o ∧
  Out K CR CF r dx ta t (lineP o p (t.drop p)) H bl (fun x H' v => LineV H H' v x.1 ∧ H' bl = some (.lst (bkV x.2)) ∧ OkO x.2) Q E
theorem bkV_cons (k : Nat) (o : List Nat) : bkV (k :: o) = bkV o ++ [stV (bkW k)] := by
  show ((k :: o).reverse.map _) = _
  rw [List.reverse_cons, List.map_append]
  rfl
theorem bkV_len (o : List Nat) : (bkV o).length = o.length := by simp
theorem munch_mem {ws : List (List Nat)} : ∀ (b : Bytes) (acc : List Nat) (p : Nat) (w : List Nat) (q : Nat) (c : Bytes), munch b (tag acc ws) p = .ok (w, q, c) → w ∈ ws
  | [], acc, p, w, q, c, h => by
    rw [munch_stop (fun c l e => by cases e)] at h
    by_cases hm : acc ∈ ws
    · rw [if_pos hm] at h
      cases h
      exact hm
    · rw [if_neg hm] at h
      cases h
  | d :: l, acc, p, w, q, c, h => by
    by_cases hd : d.toNat ∈ heads (tag acc ws)
    · rw [munch_go hd] at h
      exact munch_mem l _ _ _ _ _ h
    · rw [munch_stop (fun c' l' e => by rw [← (List.cons.inj e).1]; exact hd)] at h
      by_cases hm : acc ∈ ws
      · rw [if_pos hm] at h
        cases h
        exact hm
      · rw [if_neg hm] at h
        cases h
theorem sign_expect (k : UInt8) (q : Nat) (c : Bytes) : expect [k] q c = bindX (signM [k.toNat] q c) fun _ q c => .ok ((), q, c) := by
  cases c with
  | nil => rfl
  | cons d l =>
    show (if k = d then Except.ok ((), q + 1, l) else .error q) = bindX (if d.toNat ∈ [k.toNat] then _ else _) _
    by_cases h : k = d
    · subst h
      rw [if_pos rfl, if_pos List.mem_cons_self]
      rfl
    · have h2 : ¬ d.toNat ∈ [k.toNat] := fun z => h (UInt8.toNat_inj.mp (by simpa using z)).symm
      rw [if_neg h, if_neg h2]
      rfl
theorem headAt_X {γ : Type} (q : Nat) (c : Bytes) (g : Nat → Nat → Bytes → Except Nat γ) : bindX (headAt q c) (fun k q c => g k q c) = bindX (signM nHead q c) fun k q c => g (k - 97) q c := by
  cases c with
  | nil => rfl
  | cons d l =>
    show bindX (if 97 ≤ d.toNat ∧ d.toNat ≤ 104 then Except.ok (d.toNat - 97, q + 1, l) else .error q) _ = bindX (if d.toNat ∈ nHead then _ else _) _
    have e : d.toNat ∈ nHead ↔ 97 ≤ d.toNat ∧ d.toNat ≤ 104 := by
      simp only [List.mem_cons, List.not_mem_nil, or_false]
      omega
    by_cases h : 97 ≤ d.toNat ∧ d.toNat ≤ 104
    · rw [if_pos h, if_pos (e.mpr h)]
      rfl
    · rw [if_neg h, if_neg (fun z => h (e.mp z))]
      rfl
theorem sign_in {cs : List Nat} {p : Nat} {b : Bytes} {c q : Nat} {l : Bytes} (h : signM cs p b = .ok (c, q, l)) : c ∈ cs := by
  cases b with
  | nil => cases h
  | cons d r =>
    have h' : (if d.toNat ∈ cs then Except.ok (d.toNat, p + 1, r) else .error p) = .ok (c, q, l) := h
    by_cases e : d.toNat ∈ cs
    · rw [if_pos e] at h'
      cases h'
      exact e
    · rw [if_neg e] at h'
      cases h'
theorem munch_at (q : Nat) (c : Bytes) : munch c (tag [] [wAt]) q = bindX (expect (ascii " at ") q c) fun _ q c => .ok (wAt, q, c) := by
  have e : tag [] [wAt] = [((ascii " at ").map UInt8.toNat, wAt)] := by decide +kernel
  rw [e, munch_one]
theorem atM_eq (g : Na.Ex → Na.Ex → Na.Line) (o : List Nat) (q : Nat) (c : Bytes) : atM g o q c = bindX (exHere q c) fun x q c => bindX (munch c (tag [] [wAt]) q) fun _ q c => bindX (exHere q c) fun y q c => bindX (signM [10] q c) fun _ q c => .ok ((g x y, o), q, c) := by
  unfold atM
  refine bindX_congr fun _ q c _ => ?_
  rw [munch_at, bindX_assoc]
  refine bindX_congr fun _ q c _ => ?_
  refine bindX_congr fun _ q c _ => ?_
  show bindX (expect [10] q c) _ = _
  rw [sign_expect, bindX_assoc]
  rfl
theorem setM_eq (o : List Nat) (q : Nat) (c : Bytes) : setM o q c = bindX (signM nHead q c) fun k q c => bindX (signM [32] q c) fun _ q c => bindX (exHere q c) fun x q c => bindX (signM [10] q c) fun _ q c => .ok ((.set (k - 97) x, o), q, c) := by
  unfold setM
  rw [headAt_X]
  refine bindX_congr fun _ q c _ => ?_
  rw [sign_expect, bindX_assoc]
  refine bindX_congr fun _ q c _ => ?_
  rw [bindX_ok]
  refine bindX_congr fun _ q c _ => ?_
  show bindX (expect [10] q c) _ = _
  rw [sign_expect, bindX_assoc]
  rfl
theorem stV_eq (w v : List Nat) : decide (stV w = stV v) = decide (w = v) := by
  by_cases h : w = v
  · subst h
    simp
  · rw [decide_eq_false h]
    exact decide_eq_false fun z => h (S_inj (V.str.inj z))
/-- the words with which lines begin -/
abbrev nine : List (List Nat) := [wAdd, wTake, wSet, wStop, wFail, wIf, wWhile, wEnd, wElse]
theorem lw_mem {o w : List Nat} (h : w ∈ lineWords o) : w ∈ nine := by
  unfold lineWords at h
  rcases List.mem_append.mp h with hw | hw
  · rcases List.mem_append.mp hw with hw | hw
    · revert hw
      simp only [List.mem_cons, List.not_mem_nil, or_false]
      intro z
      rcases z with z | z | z | z | z <;> simp [z]
    · split at hw
      · revert hw
        simp only [List.mem_cons, List.not_mem_nil, or_false]
        intro z
        rcases z with z | z <;> simp [z]
      · cases hw
  · split at hw
    · cases hw
    · rcases List.mem_cons.mp hw with hw | hw
      · simp [hw]
      · split at hw
        · have := List.mem_singleton.mp hw
          simp [this]
        · cases hw
theorem lw_len (o : List Nat) : (lineWords o).length ≤ 1000 := by
  unfold lineWords
  rw [List.length_append, List.length_append]
  have h1 : (if o.length < 16 then [wIf, wWhile] else []).length ≤ 2 := by split <;> decide
  have h2 : (if o.isEmpty = true then [] else wEnd :: (if o.head? = some 1 then [wElse] else [])).length ≤ 2 := by
    split
    · decide
    · split <;> decide
  have h3 : ([wAdd, wTake, wSet, wStop, wFail] : List (List Nat)).length = 5 := rfl
  omega
theorem lw_room {o : List Nat} (h : wIf ∈ lineWords o ∨ wWhile ∈ lineWords o) : o.length < 16 := by
  by_cases hl : o.length < 16
  · exact hl
  · exfalso
    unfold lineWords at h
    rw [if_neg hl] at h
    cases o with
    | nil => exact hl (by decide)
    | cons k r =>
      have e : (if (k :: r).isEmpty = true then [] else wEnd :: (if (k :: r).head? = some 1 then [wElse] else [])) = wEnd :: (if some k = some 1 then [wElse] else []) := rfl
      rw [e] at h
      by_cases hk : some k = some 1
      · rw [if_pos hk] at h
        revert h
        decide
      · rw [if_neg hk] at h
        revert h
        decide
theorem lw_open {o : List Nat} (h : wEnd ∈ lineWords o ∨ wElse ∈ lineWords o) : ∃ k r, o = k :: r := by
  cases o with
  | nil =>
    exfalso
    revert h
    decide
  | cons k r => exact ⟨k, r, rfl⟩
section
variable {P : Program} {w : World} {K : PySem.W.Frag} {mg : Str → Option Value} {base : Heap} {CE fBI CF fFI CR aB : Addr}
theorem scRL : FnScope ["reader", "blocks", "word", "parts"] ["reader", "blocks"] (defScope sRL) := ⟨rfl, rfl, rfl, by decide +kernel, rfl, by decide +kernel, by decide +kernel⟩
theorem ok_RL {f fLW fRS fRW fRE fRT : Addr} {fd fdLW fdRS fdRW fdRE fdRT : FuncData} (F : Fun K "read_line" "read_line" sRL f fd) (T : Txt K mg CE fBI CF fFI CR) (G : Gram mg)
    (mR : Meth K CR "read_sign" fRS) (GR : FnOk P w K mg base (L2.CX P w) 4 fRS fdRS ["self", "signs"] (spRS K CR CF)) (bR : Binds K fdRS ["self", "signs"] [])
    (mW : Meth K CR "read_word" fRW) (GW : FnOk P w K mg base (L2.CX P w) 5 fRW fdRW ["self", "words"] (spRW K CR CF)) (bW : Binds K fdRW ["self", "words"] [])
    (gL : mg "line_words" = some (.ref fLW)) (kL : PySem.W.keepIn K (.ref fLW) = true) (GL : FnOk P w K mg base CX0 1 fLW fdLW ["blocks"] (spLW K)) (bL : Binds K fdLW ["blocks"] [])
    (gE : mg "read_expression" = some (.ref fRE)) (kE : PySem.W.keepIn K (.ref fRE) = true) (GE : FnOk P w K mg base (L2.CX P w) 6 fRE fdRE ["reader"] (spRE K CR CF)) (bE : Binds K fdRE ["reader"] [])
    (gT : mg "read_tests" = some (.ref fRT)) (kT : PySem.W.keepIn K (.ref fRT) = true) (GT : FnOk P w K mg base (L2.CX P w) 7 fRT fdRT ["reader"] (spRT K CR CF)) (bT : Binds K fdRT ["reader"] []) :
    FnOk P w K mg base (L2.CX P w) 8 f fd ["reader", "blocks"] (spRL K CR CF) := by
  refine F.okX scRL (fun vs H Q E h => ?_) (fun cdv A outer s H vs Q E hr h => ?_)
  · obtain ⟨r, dx, ta, bl, t, p, o, rfl, _⟩ := h
    rfl
  · obtain ⟨r, dx, ta, bl, t, p, o, rfl, a, hb, nt, ho, q⟩ := h
    obtain ⟨uH, hH⟩ := G.heads
    have hr6 : Room 6 _ := hr.mono (by decide)
    have hr5 : Room 5 _ := hr.mono (by decide)
    have hr4 : Room 4 _ := hr.mono (by decide)
    have hr1 : Room 1 _ := hr.mono (by decide)
    have nr : r ≠ bl := ne_of a.ob hb (by intro z; cases z)
    refine ⟨_, pss_cons (ps_set (i := 2) scRL.nd rfl (Or.inl rfl) (pe_meth (pv 0) T.cl mW GW hr5 bW .nil (passes_call (takes_of rfl rfl rfl rfl) (fun _ _ _ _ h => h)) (pa_cons (pe_call GL hr1 rfl gL kL bL .nil pass0 (pa_cons (pv 1) pa_nil)) pa_nil)))
      (pss_cons (ps_set (i := 3) scRL.nd rfl (Or.inl rfl) (pe_lst pa_nil))
      (C8.pss_cut (ps_if (PW.pt (pw_or (pt_cmpR op_eq (pv 2) pe_str (nomark _)) (pw_or1 (pt_cmpR op_eq (pv 2) pe_str (nomark _)))))
        (pss_cons (ps_expr (pe_bm PySem.F.plainAttrs_list PySem.F.slot_list_append PySem.F.type_list_append mt_append (pv 3) (pa_cons (pe_call GE hr6 rfl gE kE bE .nil (passes_call (takes_of rfl rfl rfl rfl) (fun _ _ _ _ h => h)) (pa_cons (pv 0) pa_nil)) pa_nil)))
        (pss_cons (ps_expr (pe_meth (pv 0) T.cl mW GW hr5 bW .nil (passes_call (takes_of rfl rfl rfl rfl) (fun _ _ _ _ h => h)) (pa_cons (pe_lst (pa_cons pe_str pa_nil)) pa_nil)))
        (pss_cons (ps_expr (pe_bm PySem.F.plainAttrs_list PySem.F.slot_list_append PySem.F.type_list_append mt_append (pv 3) (pa_cons (pe_call GE hr6 rfl gE kE bE .nil (passes_call (takes_of rfl rfl rfl rfl) (fun _ _ _ _ h => h)) (pa_cons (pv 0) pa_nil)) pa_nil)))
        (pss_one (ps_expr (pe_meth (pv 0) T.cl mR GR hr4 bR .nil (passes_call (takes_of rfl rfl rfl rfl) (fun _ _ _ _ h => h)) (pa_cons pe_str pa_nil)))))))
        (pss_one (ps_if (pt_cmpR op_eq (pv 2) pe_str (nomark _))
          (pss_cons (ps_expr (pe_bm PySem.F.plainAttrs_list PySem.F.slot_list_append PySem.F.type_list_append mt_append (pv 3) (pa_cons (pe_meth (pv 0) T.cl mR GR hr4 bR .nil (passes_call (takes_of rfl rfl rfl rfl) (fun _ _ _ _ h => h)) (pa_cons (pe_glob (v := .str "abcdefgh") rfl hH ⟨_, rfl⟩) pa_nil)) pa_nil)))
          (pss_cons (ps_expr (pe_meth (pv 0) T.cl mR GR hr4 bR .nil (passes_call (takes_of rfl rfl rfl rfl) (fun _ _ _ _ h => h)) (pa_cons pe_str pa_nil)))
          (pss_cons (ps_expr (pe_bm PySem.F.plainAttrs_list PySem.F.slot_list_append PySem.F.type_list_append mt_append (pv 3) (pa_cons (pe_call GE hr6 rfl gE kE bE .nil (passes_call (takes_of rfl rfl rfl rfl) (fun _ _ _ _ h => h)) (pa_cons (pv 0) pa_nil)) pa_nil)))
          (pss_one (ps_expr (pe_meth (pv 0) T.cl mR GR hr4 bR .nil (passes_call (takes_of rfl rfl rfl rfl) (fun _ _ _ _ h => h)) (pa_cons pe_str pa_nil)))))))
          (pss_one (ps_if (PW.pt (pw_or (pt_cmpR op_eq (pv 2) pe_str (nomark _)) (pw_or1 (pt_cmpR op_eq (pv 2) pe_str (nomark _)))))
            (pss_cons (ps_expr (pe_bm PySem.F.plainAttrs_list PySem.F.slot_list_extend PySem.F.type_list_extend mt_extend (pv 3) (pa_cons (pe_call GT hr rfl gT kT bT .nil (passes_call (takes_of rfl rfl rfl rfl) (fun _ _ _ _ h => h)) (pa_cons (pv 0) pa_nil)) pa_nil)))
              (pss_one (ps_expr (pe_bm PySem.F.plainAttrs_list PySem.F.slot_list_append PySem.F.type_list_append mt_append (pv 1) (pa_cons (pv 2) pa_nil)))))
            (pss_one (ps_if (pt_cmpR op_eq (pv 2) pe_str (nomark _))
              (pss_one (ps_asg (pv 2) (pg_sub (pv 1) (pe_un un_neg pe_int) set_list)))
              (pss_one (ps_if (pt_cmpR op_eq (pv 2) pe_str (nomark _))
                (pss_one (ps_expr (pe_bm0 PySem.F.plainAttrs_list PySem.F.slot_list_pop PySem.F.type_list_pop mt_pop (pv 1)))) pss_nil)))))))))
      (pss_one (ps_ret (pe_tup (pa_cons (pe_strip (pv 2)) (pa_cons (pv 3) pa_nil))))))), ?_⟩
    have es := lineP_eq o p (t.drop p)
    refine ⟨_, rfl, r, dx, _, rfl, a.ob, rfl, _, rfl, bl, o, rfl, hb, ho.1, fun H1 D sm1 nD eD => ?_⟩
    have hws : ∀ w ∈ lineWords o, w.length ≤ 100 := fun w hw => by
      have h : ∀ y ∈ nine, y.length ≤ 100 := by decide
      exact h w (lw_mem hw)
    have a1 := a.same sm1
    refine ⟨r, dx, ta, t, p, D, lineWords o, rfl, a1, SqL.of eD, lw_len o, hws, ?_, ?_⟩
    · intro k hk
      rw [hk] at es
      exact q.1 k es
    · intro wd p1 hk H2 v ev a2 on2
      subst ev
      rw [hk, bindX_ok] at es
      have hmem := munch_mem _ _ _ _ _ _ hk
      have on2' : Only r bl H H2 := (Only.same sm1).trans (Only.wide on2)
      have hb2 : H2 bl = some (.lst (bkV o)) := on2 _ _ (Ne.symm nr) (Ne.symm nr) (sm1 _ _ hb)
      refine ⟨Nat.zero_le _, fun B nB => ?_⟩
      have nrB : r ≠ B := ne_of_none a2.ob nB
      have nbB : bl ≠ B := ne_of_none hb2 nB
      have ntB : Apart K ta B (bs t) := Apart.new a2.tx nB
      have gr0 : Grow H (upd H2 B (.lst [])) := (Grow.only on2' (at_some a2.ob) (at_some hb2)).upd
      have nBH : H B = none := Grow.only on2' (at_some a2.ob) (at_some hb2) _ nB
      have a3 : At K CR r dx ta t (upd H2 B (.lst [])) p1 := a2.updn nrB ntB
      have hb3 : (upd H2 B (.lst [])) bl = some (.lst (bkV o)) := by rw [upd_ne nbB]; exact hb2
      have eB3 : (upd H2 B (.lst [])) B = some (.lst []) := upd_same
      have on3 : Only r bl H (upd H2 B (.lst [])) := on2'.upn nBH
      generalize upd H2 B (.lst []) = H0 at gr0 a3 hb3 eB3 on3
      have r0 : H0 r ≠ none := at_some a3.ob
      have bl0 : H0 bl ≠ none := at_some hb3
      have B0 : H0 B ≠ none := at_some eB3
      refine ⟨fun σ H' => ∃ (x : Na.Line) (o' : List Nat) (p' : Nat) (us : List V), σ = [some (.ref r), some (.ref bl), some (stV wd), some (.ref B)] ∧ lineP o p (t.drop p) = .ok ((x, o'), p', t.drop p') ∧ Txt.strip (S wd) = S (nameOf x) ∧ At K CR r dx ta t H' p' ∧ Only r bl H H' ∧ H' bl = some (.lst (bkV o')) ∧ OkO o' ∧
        H' B = some (.lst us) ∧ PartsV H0 H' us x, ?_, ?_⟩
      case refine_2 =>
        rintro σ H' ⟨x, o', p', us, rfl, hx, est, a', on', eb', ho', eB', ps⟩
        refine ⟨_, rfl, ⟨_, rfl⟩, S wd, rfl, rfl, ?_, _, rfl, by show 2 ≤ sizeLine; exact small5' (by decide), fun Tt nT => ?_⟩
        · rw [S_len]
          exact small5' (Nat.le_trans (hws wd hmem) (by decide))
        · have gr' : Grow H H' := Grow.only on' (at_some a'.ob) (at_some eb')
          have hT : H Tt = none := gr' _ nT
          have nBT : B ≠ Tt := ne_of_none eB' nT
          refine q.2 (x, o') p' hx _ _ ⟨⟨Tt, B, us, rfl, hT, ?_, nBH, by rw [upd_ne nBT]; exact eB', (ps.keep (KeepN.new nT)).old gr0⟩, ?_, ho'⟩ (a'.same (same_upd nT)) (on'.trans (Only.same (same_upd nT)))
          · rw [upd_same, est]
          · rw [upd_ne (ne_of_none eb' nT)]
            exact eb'
      case refine_1 =>
      refine ⟨_, rfl, rfl, _, rfl, ?_⟩
      by_cases hA : wd = wAdd ∨ wd = wTake
      · have es0 : ∃ g, contW o wd p1 (t.drop p1) = atM g o p1 (t.drop p1) ∧ (∀ x y, Txt.strip (S wd) = S (nameOf (g x y))) ∧ ∀ H0 H us x y, (∃ a b, us = [a, b] ∧ ExV H0 H a x ∧ ExV H0 H b y) → PartsV H0 H us (g x y) := by
          rcases hA with e | e
          · exact ⟨.add, by subst e; rfl, fun x y => by subst e; rfl, fun _ _ _ _ _ h => h⟩
          · exact ⟨.take, by subst e; rfl, fun x y => by subst e; rfl, fun _ _ _ _ _ h => h⟩
        obtain ⟨g, e0, hst, hpt⟩ := es0
        rw [e0, atM_eq] at es
        rcases hA with e | e
        case' inl => refine if_true_of (by subst e; rfl) ?_
        case' inr =>
          refine if_false_of (by subst e; rfl) ?_
          refine ⟨_, rfl, rfl, _, rfl, ?_⟩
          have et : decide (stV wd = V.str "take ") = true := by subst e; rfl
          rw [et]
        all_goals
        (refine ⟨_, rfl, .inl ⟨rfl, _, SqL.of eB3⟩, _, rfl, r, dx, ta, t, p1, rfl, a3, fun k hk3 => q.1 k (by rw [es, hk3]; rfl), fun x4 p4 hk4 H4 v4 ev4 a4 on4 => ?_⟩
         rw [hk4, bindX_ok] at es
         have eB4 := on4 _ _ (Ne.symm nrB) (Ne.symm nrB) eB3
         refine ⟨B, _, _, rfl, rfl, eB4, small5 (by decide), ?_⟩
         have a5 : At K CR r dx ta t (upd H4 B (.lst ([] ++ [v4]))) p4 := a4.updn nrB ntB
         have eB5 : (upd H4 B (.lst ([] ++ [v4]))) B = some (.lst [v4]) := upd_same
         have on5 : Only r bl H (upd H4 B (.lst ([] ++ [v4]))) := (on3.trans (Only.wide on4)).upn nBH
         have hb5 : (upd H4 B (.lst ([] ++ [v4]))) bl = some (.lst (bkV o)) := by rw [upd_ne nbB]; exact on4 _ _ (Ne.symm nr) (Ne.symm nr) hb3
         have ex5 : ExV H0 (upd H4 B (.lst ([] ++ [v4]))) v4 x4 := ev4.keep (KeepN.upd B0)
         have gr5 : Grow H0 (upd H4 B (.lst ([] ++ [v4]))) := (Grow.only on4 (at_some a4.ob) (at_some a4.ob)).upd
         generalize upd H4 B (.lst ([] ++ [v4])) = H5 at a5 eB5 on5 hb5 ex5 gr5
         refine ⟨_, rfl, r, dx, _, rfl, a5.ob, rfl, by show 1 ≤ sizeLine; exact small5' (by decide), fun D4 nD4 => ?_⟩
         refine ⟨r, dx, ta, t, p4, D4, [wAt], rfl, a5.same (same_upd nD4), SqL.of (xs := ([wAt] : List (List Nat)).map stV) upd_same, by decide, by decide, fun k hk4 => q.1 k (by rw [es, hk4]; rfl), fun x6 p6 hk6 H6 v6 _ a6 on6 => ?_⟩
         rw [hk6, bindX_ok] at es
         have on6' : Only r r H5 H6 := (Only.same (same_upd nD4)).trans on6
         have eB6 := on6' _ _ (Ne.symm nrB) (Ne.symm nrB) eB5
         refine ⟨_, rfl, .inl ⟨rfl, _, SqL.of eB6⟩, _, rfl, r, dx, ta, t, p6, rfl, a6, fun k hk5 => q.1 k (by rw [es, hk5]; rfl), fun x7 p7 hk7 H7 v7 ev7 a7 on7 => ?_⟩
         rw [hk7, bindX_ok] at es
         have eB7 := on7 _ _ (Ne.symm nrB) (Ne.symm nrB) eB6
         refine ⟨B, _, _, rfl, rfl, eB7, small5 (by show 1 ≤ 100000; decide), ?_⟩
         have k57 : KeepN H0 H5 H7 := (KeepN.only on6' r0 r0).trans (KeepN.only on7 r0 r0)
         have gr6 : Grow H0 H6 := gr5.trans (Grow.only on6' (at_some a6.ob) (at_some a6.ob))
         have a8 : At K CR r dx ta t (upd H7 B (.lst ([v4] ++ [v7]))) p7 := a7.updn nrB ntB
         have eB8 : (upd H7 B (.lst ([v4] ++ [v7]))) B = some (.lst [v4, v7]) := upd_same
         have on8 : Only r bl H (upd H7 B (.lst ([v4] ++ [v7]))) := ((on5.trans (Only.wide on6')).trans (Only.wide on7)).upn nBH
         have hb8 : (upd H7 B (.lst ([v4] ++ [v7]))) bl = some (.lst (bkV o)) := by rw [upd_ne nbB]; exact on7 _ _ (Ne.symm nr) (Ne.symm nr) (on6' _ _ (Ne.symm nr) (Ne.symm nr) hb5)
         have ex8 : ExV H0 (upd H7 B (.lst ([v4] ++ [v7]))) v4 x4 := (ex5.keep k57).keep (KeepN.upd B0)
         have ex9 : ExV H0 (upd H7 B (.lst ([v4] ++ [v7]))) v7 x7 := (ev7.old gr6).keep (KeepN.upd B0)
         generalize upd H7 B (.lst ([v4] ++ [v7])) = H8 at a8 eB8 on8 hb8 ex8 ex9
         refine ⟨_, rfl, r, dx, _, rfl, a8.ob, rfl, r, dx, ta, t, p7, _, [10], rfl, a8, .inl (by rfl), by show 1 ≤ 1000; decide, fun k hk6 => q.1 k (by rw [es, hk6]; rfl), fun x9 p9 hk9 H9 v9 _ a9 on9 => ?_⟩
         rw [hk9, bindX_ok] at es
         have k9 : KeepN H0 H8 H9 := KeepN.only on9 r0 r0
         exact ⟨_, _, p9, _, rfl, es, hst _ _, a9, on8.trans (Only.wide on9), on9 _ _ (Ne.symm nr) (Ne.symm nr) hb8, ho, on9 _ _ (Ne.symm nrB) (Ne.symm nrB) eB8, hpt _ _ _ _ _ ⟨v4, v7, rfl, ex8.keep k9, ex9.keep k9⟩⟩)
      · refine if_false_of ((stV_eq wd wAdd).trans (decide_eq_false fun z => hA (.inl z))) ?_
        refine ⟨_, rfl, rfl, _, rfl, ?_⟩
        have et : decide (stV wd = V.str "take ") = false := (stV_eq wd wTake).trans (decide_eq_false fun z => hA (.inr z))
        rw [et]
        have nA : wd ≠ wAdd := fun z => hA (.inl z)
        have nT : wd ≠ wTake := fun z => hA (.inr z)
        refine ⟨_, rfl, rfl, _, rfl, ?_⟩
        by_cases hS : wd = wSet
        · have e0 : contW o wd p1 (t.drop p1) = setM o p1 (t.drop p1) := by subst hS; rfl
          rw [e0, setM_eq] at es
          refine if_true_of (by subst hS; rfl) ?_
          refine ⟨_, rfl, .inl ⟨rfl, _, SqL.of eB3⟩, _, rfl, r, dx, _, rfl, a3.ob, rfl, r, dx, ta, t, p1, _, nHead, rfl, a3, .inl (by rfl), by show 8 ≤ 1000; decide, fun k hk3 => q.1 k (by rw [es, hk3]; rfl), fun x4 p4 hk4 H4 v4 ev4 a4 on4 => ?_⟩
          subst ev4
          rw [hk4, bindX_ok] at es
          have h97 : 97 + (x4 - 97) = x4 := by
            have := sign_in hk4
            simp only [List.mem_cons, List.not_mem_nil, or_false] at this
            omega
          have eB4 := on4 _ _ (Ne.symm nrB) (Ne.symm nrB) eB3
          refine ⟨B, _, _, rfl, rfl, eB4, small5 (by decide), ?_⟩
          have a5 : At K CR r dx ta t (upd H4 B (.lst ([] ++ [sgV x4]))) p4 := a4.updn nrB ntB
          have eB5 : (upd H4 B (.lst ([] ++ [sgV x4]))) B = some (.lst [sgV x4]) := upd_same
          have on5 : Only r bl H (upd H4 B (.lst ([] ++ [sgV x4]))) := (on3.trans (Only.wide on4)).upn nBH
          have hb5 : (upd H4 B (.lst ([] ++ [sgV x4]))) bl = some (.lst (bkV o)) := by rw [upd_ne nbB]; exact on4 _ _ (Ne.symm nr) (Ne.symm nr) hb3
          have gr5 : Grow H0 (upd H4 B (.lst ([] ++ [sgV x4]))) := (Grow.only on4 (at_some a4.ob) (at_some a4.ob)).upd
          generalize upd H4 B (.lst ([] ++ [sgV x4])) = H5 at a5 eB5 on5 hb5 gr5
          refine ⟨_, rfl, r, dx, _, rfl, a5.ob, rfl, r, dx, ta, t, p4, _, [32], rfl, a5, .inl (by rfl), by show 1 ≤ 1000; decide, fun k hk4 => q.1 k (by rw [es, hk4]; rfl), fun x6 p6 hk6 H6 v6 _ a6 on6 => ?_⟩
          rw [hk6, bindX_ok] at es
          have eB6 := on6 _ _ (Ne.symm nrB) (Ne.symm nrB) eB5
          refine ⟨_, rfl, .inl ⟨rfl, _, SqL.of eB6⟩, _, rfl, r, dx, ta, t, p6, rfl, a6, fun k hk5 => q.1 k (by rw [es, hk5]; rfl), fun x7 p7 hk7 H7 v7 ev7 a7 on7 => ?_⟩
          rw [hk7, bindX_ok] at es
          have eB7 := on7 _ _ (Ne.symm nrB) (Ne.symm nrB) eB6
          refine ⟨B, _, _, rfl, rfl, eB7, small5 (by show 1 ≤ 100000; decide), ?_⟩
          have gr6 : Grow H0 H6 := gr5.trans (Grow.only on6 (at_some a6.ob) (at_some a6.ob))
          have a8 : At K CR r dx ta t (upd H7 B (.lst ([sgV x4] ++ [v7]))) p7 := a7.updn nrB ntB
          have eB8 : (upd H7 B (.lst ([sgV x4] ++ [v7]))) B = some (.lst [sgV x4, v7]) := upd_same
          have on8 : Only r bl H (upd H7 B (.lst ([sgV x4] ++ [v7]))) := ((on5.trans (Only.wide on6)).trans (Only.wide on7)).upn nBH
          have hb8 : (upd H7 B (.lst ([sgV x4] ++ [v7]))) bl = some (.lst (bkV o)) := by rw [upd_ne nbB]; exact on7 _ _ (Ne.symm nr) (Ne.symm nr) (on6 _ _ (Ne.symm nr) (Ne.symm nr) hb5)
          have ex9 : ExV H0 (upd H7 B (.lst ([sgV x4] ++ [v7]))) v7 x7 := (ev7.old gr6).keep (KeepN.upd B0)
          generalize upd H7 B (.lst ([sgV x4] ++ [v7])) = H8 at a8 eB8 on8 hb8 ex9
          refine ⟨_, rfl, r, dx, _, rfl, a8.ob, rfl, r, dx, ta, t, p7, _, [10], rfl, a8, .inl (by rfl), by show 1 ≤ 1000; decide, fun k hk6 => q.1 k (by rw [es, hk6]; rfl), fun x9 p9 hk9 H9 v9 _ a9 on9 => ?_⟩
          rw [hk9, bindX_ok] at es
          have k9 : KeepN H0 H8 H9 := KeepN.only on9 r0 r0
          exact ⟨_, _, p9, _, rfl, es, by subst hS; rfl, a9, on8.trans (Only.wide on9), on9 _ _ (Ne.symm nr) (Ne.symm nr) hb8, ho, on9 _ _ (Ne.symm nrB) (Ne.symm nrB) eB8, ⟨v7, by rw [h97], ex9.keep k9⟩⟩
        · refine if_false_of ((stV_eq wd wSet).trans (decide_eq_false hS)) ?_
          refine ⟨_, rfl, rfl, _, rfl, ?_⟩
          by_cases hI : wd = wIf ∨ wd = wWhile
          · have hroom : o.length < 16 := lw_room (hI.imp (fun e => by rw [← e]; exact hmem) (fun e => by rw [← e]; exact hmem))
            have es0 : ∃ (g : List Na.Test → Na.Line) (k : Nat), contW o wd p1 (t.drop p1) = bindX (tstM p1 (t.drop p1)) (fun x q c => .ok ((g x, k :: o), q, c)) ∧ (∀ x, Txt.strip (S wd) = S (nameOf (g x))) ∧ bkW k = wd ∧ (k = 0 ∨ k = 1 ∨ k = 2) ∧ ∀ H0 H us x, TestsV H0 H us x → PartsV H0 H us (g x) := by
              rcases hI with e | e
              · exact ⟨.if_, 1, by subst e; rfl, fun x => by subst e; rfl, by subst e; rfl, .inr (.inl rfl), fun _ _ _ _ h => h⟩
              · exact ⟨.while_, 0, by subst e; rfl, fun x => by subst e; rfl, by subst e; rfl, .inl rfl, fun _ _ _ _ h => h⟩
            obtain ⟨g, kk, e0, hst, hbk, hk012, hpt⟩ := es0
            rw [e0] at es
            have hok : OkO (kk :: o) := ⟨by rw [List.length_cons]; omega, fun k hk => by
              rcases List.mem_cons.mp hk with e | e
              · rw [e]
                exact hk012
              · exact ho.2 k e⟩
            rcases hI with e | e
            case' inl => refine if_true_of (by subst e; rfl) ?_
            case' inr =>
              refine if_false_of (by subst e; rfl) ?_
              refine ⟨_, rfl, rfl, _, rfl, ?_⟩
              have et : decide (stV wd = V.str "while ") = true := by subst e; rfl
              rw [et]
            all_goals
            (refine ⟨_, rfl, .inl ⟨rfl, _, SqL.of eB3⟩, _, rfl, r, dx, ta, t, p1, rfl, a3, fun k hk3 => q.1 k (by rw [es, hk3]; rfl), fun x4 p4 hk4 H4 v4 ev4 a4 on4 => ?_⟩
             rw [hk4, bindX_ok] at es
             obtain ⟨D4, us, ev, nD4, eD4, hus, hts⟩ := ev4
             subst ev
             have eB4 := on4 _ _ (Ne.symm nrB) (Ne.symm nrB) eB3
             refine ⟨B, D4, _, _, rfl, rfl, eB4, eD4, small5' (by show 0 + us.length ≤ 100000; omega), ?_⟩
             have a5 : At K CR r dx ta t (upd H4 B (.lst ([] ++ us))) p4 := a4.updn nrB ntB
             have eB5 : (upd H4 B (.lst ([] ++ us))) B = some (.lst us) := upd_same
             have on5 : Only r bl H (upd H4 B (.lst ([] ++ us))) := (on3.trans (Only.wide on4)).upn nBH
             have hb5 : (upd H4 B (.lst ([] ++ us))) bl = some (.lst (bkV o)) := by rw [upd_ne nbB]; exact on4 _ _ (Ne.symm nr) (Ne.symm nr) hb3
             have ts5 : TestsV H0 (upd H4 B (.lst ([] ++ us))) us x4 := hts.keep (KeepN.upd B0)
             generalize upd H4 B (.lst ([] ++ us)) = H5 at a5 eB5 on5 hb5 ts5
             refine ⟨_, rfl, .inl ⟨rfl, _, SqL.of hb5⟩, _, rfl, bl, _, _, rfl, rfl, hb5, by rw [bkV_len]; exact small1000 (by omega), ?_⟩
             refine ⟨_, _, p4, _, rfl, es, hst _, a5.updc nr nt, on5.trans Only.updc, ?_, hok, by rw [upd_ne (Ne.symm nbB)]; exact eB5, hpt _ _ _ _ (TestsV.keep ts5 (KeepN.upd bl0))⟩
             rw [upd_same, bkV_cons, hbk])
          · refine if_false_of ((stV_eq wd wIf).trans (decide_eq_false fun z => hI (.inl z))) ?_
            refine ⟨_, rfl, rfl, _, rfl, ?_⟩
            have et : decide (stV wd = V.str "while ") = false := (stV_eq wd wWhile).trans (decide_eq_false fun z => hI (.inr z))
            rw [et]
            refine ⟨_, rfl, rfl, _, rfl, ?_⟩
            by_cases hE : wd = wElse
            · have e0 : contW o wd p1 (t.drop p1) = .ok ((.else_, 2 :: o.drop 1), p1, t.drop p1) := by subst hE; rfl
              rw [e0] at es
              refine if_true_of (by subst hE; rfl) ?_
              obtain ⟨k, rest, eo⟩ := lw_open (o := o) (.inr (by rw [← hE]; exact hmem))
              subst eo
              have eix : ixN (bkV (k :: rest)).length (-1) = some rest.length := by
                rw [bkV_len]
                unfold ixN
                rw [if_neg (by decide), if_pos (by rw [List.length_cons]; omega), List.length_cons]
                congr 1
                omega
              have eset : (bkV (k :: rest)).set rest.length (stV wd) = bkV (2 :: rest) := by
                rw [bkV_cons, bkV_cons, hE]
                have hl : rest.length = (bkV rest).length := (bkV_len rest).symm
                rw [hl, List.set_append_right _ _ (Nat.le_refl _)]
                simp [bkW]
              refine ⟨_, rfl, _, rfl, _, rfl, bl, _, _, _, rfl, rfl, hb3, eix, ?_⟩
              refine ⟨_, _, p1, _, rfl, es, by subst hE; rfl, a3.updc nr nt, on3.trans Only.updc, ?_, ?_, by rw [upd_ne (Ne.symm nbB)]; exact eB3, rfl⟩
              · rw [upd_same, eset]
                rfl
              · refine ⟨ho.1, fun j hj => ?_⟩
                rcases List.mem_cons.mp hj with e | e
                · exact .inr (.inr e)
                · exact ho.2 j (List.mem_cons_of_mem _ e)
            · refine if_false_of ((stV_eq wd wElse).trans (decide_eq_false hE)) ?_
              refine ⟨_, rfl, rfl, _, rfl, ?_⟩
              by_cases hN : wd = wEnd
              · have e0 : contW o wd p1 (t.drop p1) = .ok ((.end_, o.drop 1), p1, t.drop p1) := by subst hN; rfl
                rw [e0] at es
                refine if_true_of (by subst hN; rfl) ?_
                obtain ⟨k, rest, eo⟩ := lw_open (o := o) (.inl (by rw [← hN]; exact hmem))
                subst eo
                have elast2 : (bkV (k :: rest))[(bkV (k :: rest)).length - 1]? = some (stV (bkW k)) := by
                  rw [bkV_cons]
                  simp
                have edrop : (bkV (k :: rest)).dropLast = bkV rest := by
                  rw [bkV_cons, List.dropLast_concat]
                refine ⟨_, rfl, .inl ⟨rfl, _, SqL.of hb3⟩, bl, _, _, rfl, rfl, hb3, elast2, ?_⟩
                refine ⟨_, _, p1, _, rfl, es, by subst hN; rfl, a3.updc nr nt, on3.trans Only.updc, ?_, ?_, by rw [upd_ne (Ne.symm nbB)]; exact eB3, rfl⟩
                · rw [upd_same, edrop]
                  rfl
                · exact ⟨by have := ho.1; rw [List.length_cons] at this; show rest.length ≤ 16; omega, fun j hj => ho.2 j (List.mem_cons_of_mem _ hj)⟩
              · refine if_false_of ((stV_eq wd wEnd).trans (decide_eq_false hN)) ?_
                have h9 := lw_mem hmem
                simp only [List.mem_cons, List.not_mem_nil, or_false] at h9
                have hst : wd = wStop ∨ wd = wFail := by
                  rcases h9 with e | e | e | e | e | e | e | e | e
                  · exact absurd e nA
                  · exact absurd e nT
                  · exact absurd e hS
                  · exact .inl e
                  · exact .inr e
                  · exact absurd (.inl e) hI
                  · exact absurd (.inr e) hI
                  · exact absurd e hN
                  · exact absurd e hE
                rcases hst with e | e
                · have e0 : contW o wd p1 (t.drop p1) = .ok ((.halt_, o), p1, t.drop p1) := by subst e; rfl
                  rw [e0] at es
                  exact ⟨_, _, p1, _, rfl, es, by subst e; rfl, a3, on3, hb3, ho, eB3, rfl⟩
                · have e0 : contW o wd p1 (t.drop p1) = .ok ((.fail, o), p1, t.drop p1) := by subst e; rfl
                  rw [e0] at es
                  exact ⟨_, _, p1, _, rfl, es, by subst e; rfl, a3, on3, hb3, ho, eB3, rfl⟩
end
end Ab

set_option Elab.async false
set_option linter.all false
set_option maxRecDepth 100000
set_option maxHeartbeats 4000000
namespace Ab
open PySem PySem.Spec PyProof.Rows L2 AbM
open Na (Bytes isDigit exHere cmpAt expect ascii headAt linesAt readMethod)
/-- the method that has been read, from H to H', as a list of lines at D -/
def MethV (H H' : Hp) (D : Addr) (m : Na.Method) : Prop := H D = none ∧ ∃ us, H' D = some (.lst us) ∧ All2 (LineV H H') us m
def spRD (K : PySem.W.Frag) (CF : Addr) : Sp := fun vs H Q E => ∃ (ta : Addr) (t : Bytes), vs = [.ref ta] ∧ SqL K H ta (bs t) ∧ t.length ≤ 5000 ∧
  (∀ k, readMethod t = .error k → ∀ (d n : Addr) (H' : Hp), H' d = some (.xd (nmF n)) → H' n = some (.lst (ftL k)) → E (.ref CF) (some d) H') ∧
  ∀ m, readMethod t = .ok m → ∀ (H' : Hp) (D : Addr), Same H H' → MethV H H' D m → Q (.ref D) H'
section
variable {P : Program} {w : World} {K : PySem.W.Frag} {mg : Str → Option Value} {base : Heap} {CE fBI CF fFI CR aB CL fLI : Addr}
theorem scRD : FnScope ["text", "reader", "blocks", "lines"] ["text"] (defScope sRD) := ⟨rfl, rfl, rfl, by decide +kernel, rfl, by decide +kernel, by decide +kernel⟩
theorem preX_nil (x : Except Nat Na.Method) : preX [] x = x := by cases x <;> rfl
theorem ok_RD {f fRI fE fRL : Addr} {fd fdRI fdE fdRL : FuncData} (F : Fun K "read_lines" "read_lines" sRD f fd) (T : Txt K mg CE fBI CF fFI CR) (M : Mk K CR fRI) (GI : FnOk P w K mg base CX0 1 fRI fdRI ["self", "text"] (spRI CR)) (bI : Binds K fdRI ["self", "text"] [])
    (mE : Meth K CR "ended" fE) (GE : FnOk P w K mg base CX0 1 fE fdE ["self"] (spEn K CR)) (bE : Binds K fdE ["self"] [])
    (gL : mg "read_line" = some (.ref fRL)) (kL : PySem.W.keepIn K (.ref fRL) = true) (GL : FnOk P w K mg base (L2.CX P w) 8 fRL fdRL ["reader", "blocks"] (spRL K CR CF)) (bL : Binds K fdRL ["reader", "blocks"] []) :
    FnOk P w K mg base (L2.CX P w) 9 f fd ["text"] (spRD K CF) := by
  refine F.okX scRD (fun vs H Q E h => ?_) (fun cdv A outer s H vs Q E hr h => ?_)
  · obtain ⟨ta, t, rfl, _⟩ := h
    rfl
  · obtain ⟨ta, t, rfl, hx, hsz, qe, qo⟩ := h
    have hr2 : Room 2 _ := hr.mono (by decide)
    have hr1 : Room 1 _ := hr.mono (by decide)
    refine ⟨_, pss_cons (ps_set (i := 1) scRD.nd rfl (Or.inl rfl) (pe_make M GI hr2 rfl T.gR bI .nil pass0 (pa_cons (pv 0) pa_nil)))
      (pss_cons (ps_set (i := 2) scRD.nd rfl (Or.inl rfl) (pe_lst pa_nil))
      (pss_cons (ps_set (i := 3) scRD.nd rfl (Or.inl rfl) (pe_lst pa_nil))
      (pss_cons (ps_while (passes_of rfl) (PW.pt (pw_or (pt_truth (pv 2) (by intro _; rfl)) (pw_or1 (pt_not (pt_val (pe_meth0 (pv 1) T.cl mE GE hr1 bE .nil pass0))))))
        (pss_one (ps_expr (pe_bm PySem.F.plainAttrs_list PySem.F.slot_list_append PySem.F.type_list_append mt_append (pv 3) (pa_cons (pe_call GL hr rfl gL kL bL .nil (passes_call (takes_of rfl rfl rfl rfl) (fun _ _ _ _ h => h)) (pa_cons (pv 1) (pa_cons (pv 2) pa_nil))) pa_nil)))))
      (pss_one (ps_ret (pv 3)))))), ?_⟩
    refine ⟨_, rfl, fun r dx nx ndx nex => ?_⟩
    have sm0 : Same H (upd (upd H dx (.own r)) r (.ins CR dx [])) := fun b o e => by
      rw [upd_ne (ne_of_none e nx), upd_ne (ne_of_none e ndx)]
      exact e
    refine ⟨r, ta, dx, rfl, upd_same, fun H1 on1 er => ⟨rfl, ?_⟩⟩
    have a1 : At K CR r dx ta t H1 0 := ⟨er, seq_only1 (sm0.seq hx) upd_same on1, Nat.zero_le _, hsz⟩
    have sm1 : Same H H1 := fun b o e => on1 b o (ne_of_none e nx) (ne_of_none e nx) (sm0 b o e)
    refine ⟨Nat.zero_le _, fun bl nbl => ⟨Nat.zero_le _, fun B nB0 => ?_⟩⟩
    have nr : r ≠ bl := ne_of_none a1.ob nbl
    have nt : Apart K ta bl (bs t) := Apart.new a1.tx nbl
    have a2 : At K CR r dx ta t (upd H1 bl (.lst [])) 0 := a1.updn nr nt
    have nbB : bl ≠ B := ne_of_none upd_same nB0
    have nrB : r ≠ B := ne_of_none a2.ob nB0
    have ntB : Apart K ta B (bs t) := Apart.new a2.tx nB0
    have a3 : At K CR r dx ta t (upd (upd H1 bl (.lst [])) B (.lst [])) 0 := a2.updn nrB ntB
    have eb3 : (upd (upd H1 bl (.lst [])) B (.lst [])) bl = some (.lst (bkV [])) := by rw [upd_ne nbB]; exact upd_same
    have eB3 : (upd (upd H1 bl (.lst [])) B (.lst [])) B = some (.lst []) := upd_same
    have sm3 : Same H (upd (upd H1 bl (.lst [])) B (.lst [])) := (sm1.trans (same_upd nbl)).trans (same_upd nB0)
    have nBH : H B = none := by
      cases e : H B with
      | none => rfl
      | some u => rw [(sm1.trans (same_upd nbl)) _ _ e] at nB0; cases nB0
    have nrH : H r = none := nx
    have nblH : H bl = none := by
      cases e : H bl with
      | none => rfl
      | some u => rw [sm1 _ _ e] at nbl; cases nbl
    generalize upd (upd H1 bl (.lst [])) B (.lst []) = H0 at a3 eb3 eB3 sm3
    have gr0 : Grow H H0 := Grow.same sm3
    have r0 : H0 r ≠ none := at_some a3.ob
    have bl0 : H0 bl ≠ none := at_some eb3
    have B0 : H0 B ≠ none := at_some eB3
    refine ⟨fun m σ H2 => ∃ (p : Nat) (us : List V) (o : List Nat) (f : Nat) (ls : Na.Method), σ = [some (.ref ta), some (.ref r), some (.ref bl), some (.ref B)] ∧ At K CR r dx ta t H2 p ∧ H2 bl = some (.lst (bkV o)) ∧ OkO o ∧ H2 B = some (.lst us) ∧ All2 (LineV H0 H2) us ls ∧ Same H H2 ∧ Grow H0 H2 ∧ us.length ≤ p ∧
      (t.drop p).length < f ∧ readMethod t = preX ls (linesAt f o p (t.drop p)) ∧ m = t.length - p, ⟨_, 0, [], [], t.length + 1, [], rfl, a3, eb3, ⟨by decide, fun k h => absurd h List.not_mem_nil⟩, eB3, .nil, sm3, Grow.refl, Nat.le_refl _, by rw [List.length_drop]; omega, (preX_nil _).symm, rfl⟩, ?_⟩
    · rintro m σ H2 ⟨p, us, o, f, ls, rfl, a2, eb, ho, eB, hls, sm2, gr2, hul, hf, es, rfl⟩
      cases f with
      | zero => exact absurd hf (Nat.not_lt_zero _)
      | succ f =>
        refine ⟨_, rfl, !(bkV o).isEmpty, .inl ⟨_, SqL.of eb, rfl⟩, ?_⟩
        by_cases hend : t.drop p = [] ∧ o = []
        · obtain ⟨hp, rfl⟩ := hend
          have hpl : p = t.length := by
            have h1 := congrArg List.length hp
            rw [List.length_drop] at h1
            have := a2.le
            simp only [List.length_nil] at h1
            omega
          refine if_false_of rfl ?_
          refine ⟨_, rfl, r, dx, _, rfl, a2.ob, rfl, r, dx, ta, t, p, rfl, a2, _, rfl, ?_⟩
          rw [decide_eq_true hpl]
          rw [hp, lins_end] at es
          refine ⟨_, rfl, ?_⟩
          have es' : readMethod t = .ok ls := by
            rw [es]
            show Except.ok (ls ++ []) = _
            rw [List.append_nil]
          exact qo ls es' H2 B sm2 ⟨nBH, us, eB, hls.imp fun _ _ g => g.old gr0⟩
        · rw [lins_step f o p (t.drop p) hend] at es
          by_cases ho0 : o = []
          case' pos =>
            subst ho0
            have hpl : p ≠ t.length := fun z => hend ⟨by rw [z, List.drop_length], rfl⟩
            refine if_false_of rfl ?_
            refine ⟨_, rfl, r, dx, _, rfl, a2.ob, rfl, r, dx, ta, t, p, rfl, a2, _, rfl, ?_⟩
            rw [decide_eq_false hpl]
          case' neg => refine if_true_of (by cases o with
            | nil => exact absurd rfl ho0
            | cons k r => simp [bkV]) ?_
          all_goals
          (refine ⟨fun σ H2 => ∃ (p' : Nat) (us : List V) (o : List Nat) (f : Nat) (ls : Na.Method), σ = [some (.ref ta), some (.ref r), some (.ref bl), some (.ref B)] ∧ At K CR r dx ta t H2 p' ∧ H2 bl = some (.lst (bkV o)) ∧ OkO o ∧ H2 B = some (.lst us) ∧ All2 (LineV H0 H2) us ls ∧ Same H H2 ∧ Grow H0 H2 ∧ us.length ≤ p' ∧
            (t.drop p').length < f ∧ readMethod t = preX ls (linesAt f o p' (t.drop p')) ∧ p < p', fun σ' H' ⟨p', us', o', f', ls', e, b1, b2, b3, c1, c2, c3, c4, c5, b4, b5, b6⟩ => ⟨_, by have := b1.le; omega, p', us', o', f', ls', e, b1, b2, b3, c1, c2, c3, c4, c5, b4, b5, rfl⟩, ?_⟩
           refine ⟨_, rfl, .inl ⟨rfl, _, SqL.of eB⟩, _, rfl, _, rfl, r, dx, ta, bl, t, p, _, rfl, a2, eb, nt, ho, fun k hk => qe k (by rw [es, hk]; rfl), fun x' p' hk H3 v ev a3 on3 => ?_⟩
           obtain ⟨ev1, eb3, ho3⟩ := ev
           rw [hk, bindX_ok, preX_cons] at es
           have hl := lineP_len hk
           have h3 := a3.le
           have h2 := a2.le
           have hlt : p < p' := by
             rw [List.length_drop, List.length_drop] at hl
             omega
           have eB3 : H3 B = some (.lst us) := on3 _ _ (Ne.symm nrB) (Ne.symm nbB) eB
           have k3 : KeepN H0 H2 H3 := KeepN.only on3 r0 bl0
           have gr3 : Grow H0 H3 := gr2.trans (Grow.only on3 (at_some a3.ob) (at_some eb3))
           have sm3' : Same H H3 := fun b u e => on3 b u (ne_of_none e nrH) (ne_of_none e nblH) (sm2 b u e)
           refine ⟨B, _, _, rfl, rfl, eB3, small5 (by omega), ?_⟩
           refine ⟨p', us ++ [v], x'.2, f, ls ++ [x'.1], rfl, a3.updn nrB ntB, by rw [upd_ne nbB]; exact eb3, ho3, upd_same, All2.snoc (hls.imp fun _ _ g => (g.keep k3).keep (KeepN.upd B0)) ((ev1.old gr2).keep (KeepN.upd B0)), fun b u e => by rw [upd_ne (ne_of_none e nBH)]; exact sm3' b u e, gr3.upd, ?_, by omega, es, hlt⟩
           rw [List.length_append]
           simp only [List.length_cons, List.length_nil]
           omega)
/-! ### check_size -/
def spCS (K : PySem.W.Frag) (CL : Addr) : Sp := fun vs H Q E => ∃ (ta : Addr) (xs : List V), vs = [.ref ta] ∧ SqL K H ta xs ∧
  (4096 < xs.length → ∀ (d n : Addr) (H' : Hp), H' d = some (.xd (nmF n)) → H' n = some (.lst [.int (-6)]) → E (.ref CL) (some d) H') ∧ (xs.length ≤ 4096 → Q .non H)
theorem scCS : FnScope ["text"] ["text"] (defScope sCS) := ⟨rfl, rfl, rfl, by decide +kernel, rfl, by decide +kernel, by decide +kernel⟩
/-- the class of a text that is too long -/
structure LongC (K : PySem.W.Frag) (mg : Str → Option Value) (CE CL fLI : Addr) : Prop where
  rf : RefC K CE CL
  iF : PySem.W.findIn K (.ref CL) "__init__" = some (some (.ref fLI))
  tF : PySem.W.typeIn K (.ref fLI) = some (.type "function")
  gF : mg "LongText" = some (.ref CL)
theorem ok_CS {f : Addr} {fd fdLI : FuncData} (F : Fun K "check_size" "check_size" sCS f fd) (T : Txt K mg CE fBI CF fFI CR) (L : LongC K mg CE CL fLI) (mb : ∃ u, mg "MOST_BYTES" = some (.int 4096 u))
    (GI : FnOk P w K mg base CX0 2 fLI fdLI ["self"] (spLI CL)) (bI : Binds K fdLI ["self"] []) :
    FnOk P w K mg base (L2.CX P w) 4 f fd ["text"] (spCS K CL) := by
  refine F.okX scCS (fun vs H Q E h => ?_) (fun cdv A outer s H vs Q E hr h => ?_)
  · obtain ⟨ta, xs, rfl, _⟩ := h
    rfl
  · obtain ⟨ta, xs, rfl, hx, qe, qo⟩ := h
    obtain ⟨u, hu⟩ := mb
    refine ⟨_, pss_one (ps_if (pt_cmpR op_gt (pe_callB call_len_seq (by rfl) T.len PySem.boot_len (pa_cons (pv 0) pa_nil)) (pe_glob (v := .int 4096) rfl hu ⟨_, rfl⟩) (nomark _))
      (pss_one (ps_raise rfl (takes_of rfl rfl rfl rfl) (pmk_oex0 L.rf.ox L.iF L.tF GI hr bI pass0 rfl L.gF))) pss_nil), ?_⟩
    refine ⟨_, rfl, ta, _, rfl, .inl hx, _, _, rfl, rfl, _, rfl, ?_⟩
    by_cases hl : 4096 < xs.length
    · refine if_true_of (decide_eq_true (by omega)) ?_
      exact fun a na => ⟨a, rfl, made (qe hl)⟩
    · refine if_false_of (decide_eq_false (by omega)) ?_
      exact qo (by omega)
end
end Ab

set_option Elab.async false
set_option linter.all false
set_option maxRecDepth 100000
set_option maxHeartbeats 4000000
namespace Ab
open PySem PySem.Spec PyProof.Rows L2 AbM
open Na (Bytes isDigit exHere cmpAt expect ascii headAt linesAt readMethod)
/-! ### method -/
def spMe (K : PySem.W.Frag) : Sp := fun vs H Q _ => ∃ (ta : Addr) (ns : List Int), vs = [.ref ta] ∧ SqL K H ta (ns.map V.int) ∧ ns.length ≤ 5000 ∧ (∀ x ∈ ns, 0 ≤ x ∧ x ≤ 255) ∧
  ∀ (H' : Hp) (p : Addr), H' p = some (.lst ((PyYqacda.method ns).map V.int)) → Q (.ref p) H'
def rLen (K : PySem.W.Frag) : List V → Hp → VK → Prop := fun xs H Q => ∃ p ys, xs = [.ref p] ∧ (SqL K H p ys ∨ SqT K H p ys) ∧ Q (.int ys.length) H
theorem bytes_of {ns : List Int} (h : ∀ x ∈ ns, 0 ≤ x ∧ x ≤ 255) : ns.map V.int = bs (ns.map fun n => UInt8.ofNat n.toNat) := by
  have e := ints_of h
  conv => lhs; rw [← e]
  show List.map V.int (List.map _ _) = _
  rw [List.map_map]
  rfl
section
variable {P : Program} {w : World} {K : PySem.W.Frag} {mg : Str → Option Value} {base : Heap} {CE fBI CF fFI CR aB CL fLI : Addr}
theorem scMe : FnScope ["text", "refusal"] ["text"] (defScope sMe) := ⟨rfl, rfl, rfl, by decide +kernel, rfl, by decide +kernel, by decide +kernel⟩
theorem ok_Me {f fD fS : Addr} {fd fdD fdS : FuncData} (F : Fun K "method" "method" sMe f fd) (T : Txt K mg CE fBI CF fFI CR) (L : LongC K mg CE CL fLI)
    (gD : mg "read_lines" = some (.ref fD)) (kD : PySem.W.keepIn K (.ref fD) = true) (GD : FnOk P w K mg base (L2.CX P w) 9 fD fdD ["text"] (spRD K CF)) (bD : Binds K fdD ["text"] [])
    (gS : mg "check_size" = some (.ref fS)) (kS : PySem.W.keepIn K (.ref fS) = true) (GS : FnOk P w K mg base (L2.CX P w) 4 fS fdS ["text"] (spCS K CL)) (bS : Binds K fdS ["text"] []) :
    FnOk P w K mg base CX0 10 f fd ["text"] (spMe K) := by
  refine F.ok scMe (fun vs H Q E h => ?_) (fun cdv A outer s H vs Q E hr h => ?_)
  · obtain ⟨ta, ns, rfl, _⟩ := h
    rfl
  · obtain ⟨ta, ns, rfl, hx, hsz, hby, q⟩ := h
    have hr4 : Room 4 _ := hr.mono (by decide)
    rw [spec_eq hby] at q
    have el : (ns.map fun n => UInt8.ofNat n.toNat).length = ns.length := List.length_map _
    rw [bytes_of hby] at hx
    generalize (ns.map fun n => UInt8.ofNat n.toNat) = t at hx q el
    have hsz' : t.length ≤ 5000 := by omega
    refine ⟨_, pss_one (ps_try_as (i := 1) (tb := fun W => tSeq (tDrop (tCallS (spCS K CL) (WE W) (tCons (tVar 0) tNil))) (tRet (tLst (tCons (tCB (rLen K) (tCons (tCallS (spRD K CF) (WE W) (tCons (tVar 0) tNil)) tNil)) tNil)))) (ts := fun a cls d => tRet (tXfE K a cls d "numbers" (tVar 1))) (Wout := fun _ _ _ _ => False) rfl rfl scMe.nd rfl rfl ⟨rfl, by decide, Or.inl T.gE⟩ takes0
        (fun W pn xe tk _ => pss_cons (ps_expr (by exact (pe_callS GS hr4 rfl gS kS bS (fun σ => passAt tk σ) (by exact (pa_cons (pv 0) pa_nil)))))
          (pss_one (ps_ret (pe_lst (pa_cons (pe_callB call_len_seq (by rfl) T.len PySem.boot_len (pa_cons (by exact (pe_callS GD hr rfl gD kD bD (fun σ => passAt tk σ) (by exact (pa_cons (pv 0) pa_nil)))) pa_nil)) pa_nil)))))
        (fun a oe cls d pn hz hf => pss_one (ps_ret (by exact (pe_xfE hz hf (pv 1)))))), ?_⟩
    have lb : (bs t).length = t.length := by simp
    refine ⟨_, rfl, ta, bs t, rfl, hx, fun hl d n H' ed en => ?_, fun hl => ?_⟩
    · rw [lb] at hl
      refine ⟨true, L.rf.te, fun _ a0 na => ?_, fun z => Bool.noConfusion z⟩
      refine ⟨_, rfl, rfl, CL, d, _, .ref n, rfl, L.rf.xf, L.rf.nNum, rfl, ed, rfl, q H' n ?_⟩
      unfold answer
      rw [if_pos hl]
      exact en
    · rw [lb] at hl
      refine ⟨_, rfl, ta, t, rfl, hx, hsz', fun k hk d n H' ed en => ?_, fun m hm H' D sm ⟨nD, us, eD, al⟩ => ?_⟩
      · refine ⟨true, T.rf.te, fun _ a0 na => ?_, fun z => Bool.noConfusion z⟩
        refine ⟨_, rfl, rfl, CF, d, _, .ref n, rfl, T.rf.xf, T.rf.nNum, rfl, ed, rfl, q H' n ?_⟩
        unfold answer
        rw [if_neg (by omega), hk]
        exact en
      · refine ⟨D, us, rfl, .inl (SqL.of eD), by show 1 ≤ sizeLine; exact small5' (by decide), fun p np => ?_⟩
        refine q _ p ?_
        unfold answer
        rw [if_neg (by omega), upd_same, hm, al.len]
        rfl
end
end Ab

set_option Elab.async false
set_option linter.all false
set_option maxRecDepth 100000
set_option maxHeartbeats 4000000
namespace Ab
open PySem PySem.Spec PyProof.Rows L2 AbM
theorem exm_two {K : PySem.W.Frag} {C S : Addr} (h1 : PySem.W.subIn K (.ref S) (.type "BaseException") = some true) (h2 : PySem.W.isClsIn K S = true) (h3 : PySem.W.typeIn K (.ref S) = some (.type "type")) (h4 : PySem.W.subIn K (.ref C) (.ref S) = some true) :
    PySem.W.exmOne K (.ref C) (.ref S) = some true := by
  have e1 : (PySem.W.subIn K (.ref S) (.type "BaseException") == some true) = true := by rw [h1] <;> rfl
  have e2 : ((PySem.W.clsIn K S).isSome && PySem.W.typeIn K (.ref S) == some (.type "type")) = true := by
    have h2' : (PySem.W.clsIn K S).isSome = true := h2
    rw [h2', h3] <;> rfl
  show (if (PySem.W.subIn K (.ref S) (.type "BaseException") == some true) = true then (if ((PySem.W.clsIn K S).isSome && PySem.W.typeIn K (.ref S) == some (.type "type")) = true then PySem.W.subIn K (.ref C) (.ref S) else none) else none) = some true
  rw [if_pos e1, if_pos e2]
  exact h4
theorem all_mk {P : Program} {w : World} {K : PySem.W.Frag} {h : Heap} {mg : Str → Option Value} {fa : Addr}
    {fBI : Addr} {odBI anBI : Option Addr} {slBI : Array (Option Value)} {ocBI kVBI dcBI pmBI cdBI ctBI : Value}
    {fLI : Addr} {odLI anLI : Option Addr} {slLI : Array (Option Value)} {ocLI kVLI dcLI pmLI cdLI ctLI : Value}
    {fFI : Addr} {odFI anFI : Option Addr} {slFI : Array (Option Value)} {ocFI kVFI dcFI pmFI cdFI ctFI : Value}
    {fRI : Addr} {odRI anRI : Option Addr} {slRI : Array (Option Value)} {ocRI kVRI dcRI pmRI cdRI ctRI : Value}
    {fEn : Addr} {odEn anEn : Option Addr} {slEn : Array (Option Value)} {ocEn kVEn dcEn pmEn cdEn ctEn : Value}
    {fSh : Addr} {odSh anSh : Option Addr} {slSh : Array (Option Value)} {ocSh kVSh dcSh pmSh cdSh ctSh : Value}
    {fRS : Addr} {odRS anRS : Option Addr} {slRS : Array (Option Value)} {ocRS kVRS dcRS pmRS cdRS ctRS : Value}
    {fRW : Addr} {odRW anRW : Option Addr} {slRW : Array (Option Value)} {ocRW kVRW dcRW pmRW cdRW ctRW : Value}
    {fSB : Addr} {odSB anSB : Option Addr} {slSB : Array (Option Value)} {ocSB kVSB dcSB pmSB cdSB ctSB : Value}
    {fPO : Addr} {odPO anPO : Option Addr} {slPO : Array (Option Value)} {ocPO kVPO dcPO pmPO cdPO ctPO : Value}
    {fTS : Addr} {odTS anTS : Option Addr} {slTS : Array (Option Value)} {ocTS kVTS dcTS pmTS cdTS ctTS : Value}
    {fRD : Addr} {odRD anRD : Option Addr} {slRD : Array (Option Value)} {ocRD kVRD dcRD pmRD cdRD ctRD : Value}
    {fLW : Addr} {odLW anLW : Option Addr} {slLW : Array (Option Value)} {ocLW kVLW dcLW pmLW cdLW ctLW : Value}
    {fRL : Addr} {odRL anRL : Option Addr} {slRL : Array (Option Value)} {ocRL kVRL dcRL pmRL cdRL ctRL : Value}
    {fRT : Addr} {odRT anRT : Option Addr} {slRT : Array (Option Value)} {ocRT kVRT dcRT pmRT cdRT ctRT : Value}
    {fRE : Addr} {odRE anRE : Option Addr} {slRE : Array (Option Value)} {ocRE kVRE dcRE pmRE cdRE ctRE : Value}
    {fRO : Addr} {odRO anRO : Option Addr} {slRO : Array (Option Value)} {ocRO kVRO dcRO pmRO cdRO ctRO : Value}
    {fRC : Addr} {odRC anRC : Option Addr} {slRC : Array (Option Value)} {ocRC kVRC dcRC pmRC cdRC ctRC : Value}
    {fRN : Addr} {odRN anRN : Option Addr} {slRN : Array (Option Value)} {ocRN kVRN dcRN pmRN cdRN ctRN : Value}
    {fMe : Addr} {odMe anMe : Option Addr} {slMe : Array (Option Value)} {ocMe kVMe dcMe pmMe cdMe ctMe : Value}
    {fCS : Addr} {odCS anCS : Option Addr} {slCS : Array (Option Value)} {ocCS kVCS dcCS pmCS cdCS ctCS : Value}
    {uMR uMB uMK uMD uDG uHD uMA uBY : PySem.Tok}
    {aB : Addr} {esB : Array DictEntry} {nB : Nat} {uB1 uB2 : PySem.Tok}
    {E R : Addr}
    {L : Addr} {nmL qL : Str} {NL : Addr} {bsL : List Value} {snL : List Str} {subL : List Value} {abL : Bool} {colL : Option Bool} {ddL : Option Addr} {m0L m1L m2L m3L m5L : Option Value}
    {C : Addr} {nmC qC : Str} {NC : Addr} {bsC : List Value} {snC : List Str} {subC : List Value} {abC : Bool} {colC : Option Bool} {ddC : Option Addr} {m0C m1C m2C m3C m5C : Option Value}
    (X : K.In h) (G : h.Ns mainGlobals mg) (hfa : mg "method" = some (.ref fa))
    (aBI : PySem.W.findIn K (.ref E) "__init__" = some (some (.ref fBI))) (iBI : PySem.W.typeIn K (.ref fBI) = some (.type "function"))
    (lBI : K.lookup fBI = some ⟨ocBI, odBI, .func (PySem.W.fnOf "__init__" "Refusal.__init__" (defArgs sBI) (defBody sBI) (defScope sBI) .none kVBI dcBI pmBI anBI cdBI ctBI), slBI⟩) (cBI : PySem.W.codeIn K cdBI "Refusal.__init__" = true) (kBI : PySem.W.keepIn K (.ref fBI) = true)
    (aLI : PySem.W.findIn K (.ref L) "__init__" = some (some (.ref fLI))) (iLI : PySem.W.typeIn K (.ref fLI) = some (.type "function"))
    (lLI : K.lookup fLI = some ⟨ocLI, odLI, .func (PySem.W.fnOf "__init__" "LongText.__init__" (defArgs sLI) (defBody sLI) (defScope sLI) .none kVLI dcLI pmLI anLI cdLI ctLI), slLI⟩) (cLI : PySem.W.codeIn K cdLI "LongText.__init__" = true) (kLI : PySem.W.keepIn K (.ref fLI) = true)
    (aFI : PySem.W.findIn K (.ref C) "__init__" = some (some (.ref fFI))) (iFI : PySem.W.typeIn K (.ref fFI) = some (.type "function"))
    (lFI : K.lookup fFI = some ⟨ocFI, odFI, .func (PySem.W.fnOf "__init__" "Fault.__init__" (defArgs sFI) (defBody sFI) (defScope sFI) .none kVFI dcFI pmFI anFI cdFI ctFI), slFI⟩) (cFI : PySem.W.codeIn K cdFI "Fault.__init__" = true) (kFI : PySem.W.keepIn K (.ref fFI) = true)
    (aRI : PySem.W.findIn K (.ref R) "__init__" = some (some (.ref fRI))) (iRI : PySem.W.isFn K (.ref fRI) = true)
    (lRI : K.lookup fRI = some ⟨ocRI, odRI, .func (PySem.W.fnOf "__init__" "Reader.__init__" (defArgs sRI) (defBody sRI) (defScope sRI) .none kVRI dcRI pmRI anRI cdRI ctRI), slRI⟩) (cRI : PySem.W.codeIn K cdRI "Reader.__init__" = true) (kRI : PySem.W.keepIn K (.ref fRI) = true)
    (aEn : PySem.W.findIn K (.ref R) "ended" = some (some (.ref fEn))) (iEn : PySem.W.isFn K (.ref fEn) = true)
    (lEn : K.lookup fEn = some ⟨ocEn, odEn, .func (PySem.W.fnOf "ended" "Reader.ended" (defArgs sEn) (defBody sEn) (defScope sEn) .none kVEn dcEn pmEn anEn cdEn ctEn), slEn⟩) (cEn : PySem.W.codeIn K cdEn "Reader.ended" = true) (kEn : PySem.W.keepIn K (.ref fEn) = true)
    (aSh : PySem.W.findIn K (.ref R) "shows" = some (some (.ref fSh))) (iSh : PySem.W.isFn K (.ref fSh) = true)
    (lSh : K.lookup fSh = some ⟨ocSh, odSh, .func (PySem.W.fnOf "shows" "Reader.shows" (defArgs sSh) (defBody sSh) (defScope sSh) .none kVSh dcSh pmSh anSh cdSh ctSh), slSh⟩) (cSh : PySem.W.codeIn K cdSh "Reader.shows" = true) (kSh : PySem.W.keepIn K (.ref fSh) = true)
    (aRS : PySem.W.findIn K (.ref R) "read_sign" = some (some (.ref fRS))) (iRS : PySem.W.isFn K (.ref fRS) = true)
    (lRS : K.lookup fRS = some ⟨ocRS, odRS, .func (PySem.W.fnOf "read_sign" "Reader.read_sign" (defArgs sRS) (defBody sRS) (defScope sRS) .none kVRS dcRS pmRS anRS cdRS ctRS), slRS⟩) (cRS : PySem.W.codeIn K cdRS "Reader.read_sign" = true) (kRS : PySem.W.keepIn K (.ref fRS) = true)
    (aRW : PySem.W.findIn K (.ref R) "read_word" = some (some (.ref fRW))) (iRW : PySem.W.isFn K (.ref fRW) = true)
    (lRW : K.lookup fRW = some ⟨ocRW, odRW, .func (PySem.W.fnOf "read_word" "Reader.read_word" (defArgs sRW) (defBody sRW) (defScope sRW) .none kVRW dcRW pmRW anRW cdRW ctRW), slRW⟩) (cRW : PySem.W.codeIn K cdRW "Reader.read_word" = true) (kRW : PySem.W.keepIn K (.ref fRW) = true)
    (aSB : PySem.W.nsIn K mainGlobals "signs_behind" = some (some (.ref fSB)))
    (lSB : K.lookup fSB = some ⟨ocSB, odSB, .func (PySem.W.fnOf "signs_behind" "signs_behind" (defArgs sSB) (defBody sSB) (defScope sSB) .none kVSB dcSB pmSB anSB cdSB ctSB), slSB⟩) (cSB : PySem.W.codeIn K cdSB "signs_behind" = true) (kSB : PySem.W.keepIn K (.ref fSB) = true)
    (aPO : PySem.W.nsIn K mainGlobals "put_in_order" = some (some (.ref fPO)))
    (lPO : K.lookup fPO = some ⟨ocPO, odPO, .func (PySem.W.fnOf "put_in_order" "put_in_order" (defArgs sPO) (defBody sPO) (defScope sPO) .none kVPO dcPO pmPO anPO cdPO ctPO), slPO⟩) (cPO : PySem.W.codeIn K cdPO "put_in_order" = true) (kPO : PySem.W.keepIn K (.ref fPO) = true)
    (aTS : PySem.W.nsIn K mainGlobals "take_signs" = some (some (.ref fTS)))
    (lTS : K.lookup fTS = some ⟨ocTS, odTS, .func (PySem.W.fnOf "take_signs" "take_signs" (defArgs sTS) (defBody sTS) (defScope sTS) .none kVTS dcTS pmTS anTS cdTS ctTS), slTS⟩) (cTS : PySem.W.codeIn K cdTS "take_signs" = true) (kTS : PySem.W.keepIn K (.ref fTS) = true)
    (aRD : PySem.W.nsIn K mainGlobals "read_lines" = some (some (.ref fRD)))
    (lRD : K.lookup fRD = some ⟨ocRD, odRD, .func (PySem.W.fnOf "read_lines" "read_lines" (defArgs sRD) (defBody sRD) (defScope sRD) .none kVRD dcRD pmRD anRD cdRD ctRD), slRD⟩) (cRD : PySem.W.codeIn K cdRD "read_lines" = true) (kRD : PySem.W.keepIn K (.ref fRD) = true)
    (aLW : PySem.W.nsIn K mainGlobals "line_words" = some (some (.ref fLW)))
    (lLW : K.lookup fLW = some ⟨ocLW, odLW, .func (PySem.W.fnOf "line_words" "line_words" (defArgs sLW) (defBody sLW) (defScope sLW) .none kVLW dcLW pmLW anLW cdLW ctLW), slLW⟩) (cLW : PySem.W.codeIn K cdLW "line_words" = true) (kLW : PySem.W.keepIn K (.ref fLW) = true)
    (aRL : PySem.W.nsIn K mainGlobals "read_line" = some (some (.ref fRL)))
    (lRL : K.lookup fRL = some ⟨ocRL, odRL, .func (PySem.W.fnOf "read_line" "read_line" (defArgs sRL) (defBody sRL) (defScope sRL) .none kVRL dcRL pmRL anRL cdRL ctRL), slRL⟩) (cRL : PySem.W.codeIn K cdRL "read_line" = true) (kRL : PySem.W.keepIn K (.ref fRL) = true)
    (aRT : PySem.W.nsIn K mainGlobals "read_tests" = some (some (.ref fRT)))
    (lRT : K.lookup fRT = some ⟨ocRT, odRT, .func (PySem.W.fnOf "read_tests" "read_tests" (defArgs sRT) (defBody sRT) (defScope sRT) .none kVRT dcRT pmRT anRT cdRT ctRT), slRT⟩) (cRT : PySem.W.codeIn K cdRT "read_tests" = true) (kRT : PySem.W.keepIn K (.ref fRT) = true)
    (aRE : PySem.W.nsIn K mainGlobals "read_expression" = some (some (.ref fRE)))
    (lRE : K.lookup fRE = some ⟨ocRE, odRE, .func (PySem.W.fnOf "read_expression" "read_expression" (defArgs sRE) (defBody sRE) (defScope sRE) .none kVRE dcRE pmRE anRE cdRE ctRE), slRE⟩) (cRE : PySem.W.codeIn K cdRE "read_expression" = true) (kRE : PySem.W.keepIn K (.ref fRE) = true)
    (aRO : PySem.W.nsIn K mainGlobals "read_opening_brackets" = some (some (.ref fRO)))
    (lRO : K.lookup fRO = some ⟨ocRO, odRO, .func (PySem.W.fnOf "read_opening_brackets" "read_opening_brackets" (defArgs sRO) (defBody sRO) (defScope sRO) .none kVRO dcRO pmRO anRO cdRO ctRO), slRO⟩) (cRO : PySem.W.codeIn K cdRO "read_opening_brackets" = true) (kRO : PySem.W.keepIn K (.ref fRO) = true)
    (aRC : PySem.W.nsIn K mainGlobals "read_closing_brackets" = some (some (.ref fRC)))
    (lRC : K.lookup fRC = some ⟨ocRC, odRC, .func (PySem.W.fnOf "read_closing_brackets" "read_closing_brackets" (defArgs sRC) (defBody sRC) (defScope sRC) .none kVRC dcRC pmRC anRC cdRC ctRC), slRC⟩) (cRC : PySem.W.codeIn K cdRC "read_closing_brackets" = true) (kRC : PySem.W.keepIn K (.ref fRC) = true)
    (aRN : PySem.W.nsIn K mainGlobals "read_number_or_letter" = some (some (.ref fRN)))
    (lRN : K.lookup fRN = some ⟨ocRN, odRN, .func (PySem.W.fnOf "read_number_or_letter" "read_number_or_letter" (defArgs sRN) (defBody sRN) (defScope sRN) .none kVRN dcRN pmRN anRN cdRN ctRN), slRN⟩) (cRN : PySem.W.codeIn K cdRN "read_number_or_letter" = true) (kRN : PySem.W.keepIn K (.ref fRN) = true)
    (aMe : PySem.W.nsIn K mainGlobals "method" = some (some (.ref fMe)))
    (lMe : K.lookup fMe = some ⟨ocMe, odMe, .func (PySem.W.fnOf "method" "method" (defArgs sMe) (defBody sMe) (defScope sMe) .none kVMe dcMe pmMe anMe cdMe ctMe), slMe⟩) (cMe : PySem.W.codeIn K cdMe "method" = true) (kMe : PySem.W.keepIn K (.ref fMe) = true)
    (aCS : PySem.W.nsIn K mainGlobals "check_size" = some (some (.ref fCS)))
    (lCS : K.lookup fCS = some ⟨ocCS, odCS, .func (PySem.W.fnOf "check_size" "check_size" (defArgs sCS) (defBody sCS) (defScope sCS) .none kVCS dcCS pmCS anCS cdCS ctCS), slCS⟩) (cCS : PySem.W.codeIn K cdCS "check_size" = true) (kCS : PySem.W.keepIn K (.ref fCS) = true)
    (guMR : PySem.W.nsIn K mainGlobals "NO_METHOD" = some (some (.int 11 uMR)))
    (guMB : PySem.W.nsIn K mainGlobals "MOST_BLOCKS" = some (some (.int 16 uMB)))
    (guMK : PySem.W.nsIn K mainGlobals "MOST_BRACKETS" = some (some (.int 16 uMK)))
    (guMD : PySem.W.nsIn K mainGlobals "MOST_DIGITS" = some (some (.int 4 uMD)))
    (guDG : PySem.W.nsIn K mainGlobals "DIGITS" = some (some (.str "0123456789" uDG)))
    (guHD : PySem.W.nsIn K mainGlobals "HEADS" = some (some (.str "abcdefgh" uHD)))
    (guMA : PySem.W.nsIn K mainGlobals "MARKS" = some (some (.str "ABCDEFGH" uMA)))
    (guBY : PySem.W.nsIn K mainGlobals "MOST_BYTES" = some (some (.int 4096 uBY)))
    (n_ValueError : PySem.W.nsIn K mainGlobals "ValueError" = some none)
    (n_len : PySem.W.nsIn K mainGlobals "len" = some none)
    (n_ord : PySem.W.nsIn K mainGlobals "ord" = some none)
    (n_int : PySem.W.nsIn K mainGlobals "int" = some none)
    (gB : PySem.W.nsIn K mainGlobals "BRACKETS" = some (some (.ref aB))) (lB : K.lookup aB = some ⟨.type "dict", none, .dict esB nB, #[]⟩) (eB1 : PySem.W.nsIn K aB "[" = some (some (.str "]" uB1))) (eB2 : PySem.W.nsIn K aB "(" = some (some (.str ")" uB2))) (hB : PySem.W.KeysLit w.params esB.toList)
    (aE : PySem.W.nsIn K mainGlobals "Refusal" = some (some (.ref E))) (eE : PySem.W.subIn K (.ref E) (.type "BaseException") = some true) (iE : PySem.W.isClsIn K E = true) (tE : PySem.W.typeIn K (.ref E) = some (.type "type"))
    (rE : PySem.W.readsIn K E (.type "type") = true) (sE : PySem.W.specialIn K (.ref E) "__getattribute__" = some (some (.builtin "type.__getattribute__"))) (fE : PySem.W.findCls K (.ref E) (.type "type") "__init__" = some (.val (.ref fBI)))
    (vV : PySem.W.findCls K (.type "ValueError") (.type "type") "__init__" = some (.val (.builtin "ValueError.__init__")))
    (aL : PySem.W.nsIn K mainGlobals "LongText" = some (some (.ref L)))
    (xLL : K.lookup L = some (excClassObj nmL qL L NL bsL [.ref E, .type "ValueError", .type "Exception", .type "BaseException", .type "object"] true snL subL abL colL ddL m0L m1L m2L m3L m5L "ValueError.__new__"))
    (saL : PySem.W.findIn K (.ref L) "__setattr__" = some (some (.builtin "object.__setattr__"))) (gaL : PySem.W.findIn K (.ref L) "__getattribute__" = some (some (.builtin "BaseException.__getattribute__"))) (ggL : PySem.W.findIn K (.ref L) "__getattr__" = some none)
    (nNL : PySem.W.findIn K (.ref L) "numbers" = some none) (kL : PySem.W.keepIn K (.ref L) = true) (eL : PySem.W.subIn K (.ref L) (.type "BaseException") = some true) (tL : PySem.W.typeIn K (.ref L) = some (.type "type")) (hL : PySem.W.hasDictIn K L = true) (sL : PySem.W.subIn K (.ref L) (.ref E) = some true)
    (aC : PySem.W.nsIn K mainGlobals "Fault" = some (some (.ref C)))
    (xLC : K.lookup C = some (excClassObj nmC qC C NC bsC [.ref E, .type "ValueError", .type "Exception", .type "BaseException", .type "object"] true snC subC abC colC ddC m0C m1C m2C m3C m5C "ValueError.__new__"))
    (saC : PySem.W.findIn K (.ref C) "__setattr__" = some (some (.builtin "object.__setattr__"))) (gaC : PySem.W.findIn K (.ref C) "__getattribute__" = some (some (.builtin "BaseException.__getattribute__"))) (ggC : PySem.W.findIn K (.ref C) "__getattr__" = some none)
    (nNC : PySem.W.findIn K (.ref C) "numbers" = some none) (kC : PySem.W.keepIn K (.ref C) = true) (eC : PySem.W.subIn K (.ref C) (.type "BaseException") = some true) (tC : PySem.W.typeIn K (.ref C) = some (.type "type")) (hC : PySem.W.hasDictIn K C = true) (sC : PySem.W.subIn K (.ref C) (.ref E) = some true)
    (aR : PySem.W.nsIn K mainGlobals "Reader" = some (some (.ref R))) (pgR : PySem.W.plainGet K R Str.empty = true) (hdR : PySem.W.hasDictIn K R = true) (poR : PySem.W.plainOver K R = true) (saR : PySem.W.findIn K (.ref R) "__setattr__" = some (some (.builtin "object.__setattr__"))) (mkR : PySem.W.makesIn K R = true) (kR : PySem.W.keepIn K (.ref R) = true)
    (nText : PySem.W.findIn K (.ref R) "text" = some none) (nPlace : PySem.W.findIn K (.ref R) "place" = some none)
    : ∃ fd : FuncData, (∀ (s : Shared) (us : List Value), us.length = (["text"] : List Str).length → BindsTo s fd ⟨us, []⟩ ((["text"] : List Str).zip us)) ∧ ∀ base : Heap, K.In base → base.Ns mainGlobals mg → FnOk P w K mg base CX0 10 fa fd ["text"] (spMe K) := by
  have e := hfa.symm.trans (PySem.W.mg_of X G aMe)
  cases e
  have RfL : RefC K E L := ⟨⟨⟨nmL, qL, NL, bsL, _, snL, subL, abL, colL, ddL, m0L, m1L, m2L, m3L, m5L, xLL, by rfl⟩, saL, eL, tL, kL⟩, ⟨gaL, ggL, eL, hL⟩, nNL, exm_two eE iE tE sL⟩
  have RfC : RefC K E C := ⟨⟨⟨nmC, qC, NC, bsC, _, snC, subC, abC, colC, ddC, m0C, m1C, m2C, m3C, m5C, xLC, by rfl⟩, saC, eC, tC, kC⟩, ⟨gaC, ggC, eC, hC⟩, nNC, exm_two eE iE tE sC⟩
  have T : Txt K mg E fBI C fFI R :=
    { rf := RfC, iF := aFI, tF := iFI, gF := PySem.W.mg_of X G aC, gE := PySem.W.mg_of X G aE, rd := ⟨rE, sE⟩, ci := ⟨fE, rfl⟩, kB := kBI, nVE := PySem.W.mg_none_of X G n_ValueError, vV := vV,
      rule := ⟨_, PySem.W.mg_of X G guMR⟩, cl := ⟨pgR, hdR, poR, saR⟩, gR := PySem.W.mg_of X G aR, nText := nText, nPlace := nPlace, len := PySem.W.mg_none_of X G n_len, ord := PySem.W.mg_none_of X G n_ord, int := PySem.W.mg_none_of X G n_int }
  have LC : LongC K mg E L fLI := ⟨RfL, aLI, iLI, PySem.W.mg_of X G aL⟩
  have GR : Gram mg := ⟨⟨_, PySem.W.mg_of X G guMB⟩, ⟨_, PySem.W.mg_of X G guMK⟩, ⟨_, PySem.W.mg_of X G guMD⟩, ⟨_, PySem.W.mg_of X G guDG⟩, ⟨_, PySem.W.mg_of X G guHD⟩, ⟨_, PySem.W.mg_of X G guMA⟩⟩
  have BR : Brk K mg w aB := ⟨PySem.W.mg_of X G gB, ⟨esB, nB, _, lB, hB, eB1, ⟨_, rfl⟩⟩, ⟨esB, nB, _, lB, hB, eB2, ⟨_, rfl⟩⟩⟩
  have FBI := fun_mk (st := sBI) lBI cBI kBI
  have bBI := FBI.binds (ps := ["self", "numbers"]) fun _ _ _ _ _ _ us hl => match us, hl with | [_, _], _ => rfl
  have FLI := fun_mk (st := sLI) lLI cLI kLI
  have bLI := FLI.binds (ps := ["self"]) fun _ _ _ _ _ _ us hl => match us, hl with | [_], _ => rfl
  have FFI := fun_mk (st := sFI) lFI cFI kFI
  have bFI := FFI.binds (ps := ["self", "rule", "place"]) fun _ _ _ _ _ _ us hl => match us, hl with | [_, _, _], _ => rfl
  have FRI := fun_mk (st := sRI) lRI cRI kRI
  have bRI := FRI.binds (ps := ["self", "text"]) fun _ _ _ _ _ _ us hl => match us, hl with | [_, _], _ => rfl
  have FEn := fun_mk (st := sEn) lEn cEn kEn
  have bEn := FEn.binds (ps := ["self"]) fun _ _ _ _ _ _ us hl => match us, hl with | [_], _ => rfl
  have FSh := fun_mk (st := sSh) lSh cSh kSh
  have bSh := FSh.binds (ps := ["self", "signs"]) fun _ _ _ _ _ _ us hl => match us, hl with | [_, _], _ => rfl
  have FRS := fun_mk (st := sRS) lRS cRS kRS
  have bRS := FRS.binds (ps := ["self", "signs"]) fun _ _ _ _ _ _ us hl => match us, hl with | [_, _], _ => rfl
  have FRW := fun_mk (st := sRW) lRW cRW kRW
  have bRW := FRW.binds (ps := ["self", "words"]) fun _ _ _ _ _ _ us hl => match us, hl with | [_, _], _ => rfl
  have FSB := fun_mk (st := sSB) lSB cSB kSB
  have bSB := FSB.binds (ps := ["beginning", "words"]) fun _ _ _ _ _ _ us hl => match us, hl with | [_, _], _ => rfl
  have FPO := fun_mk (st := sPO) lPO cPO kPO
  have bPO := FPO.binds (ps := ["parts"]) fun _ _ _ _ _ _ us hl => match us, hl with | [_], _ => rfl
  have FTS := fun_mk (st := sTS) lTS cTS kTS
  have bTS := FTS.binds (ps := ["waiting", "signs", "ordered"]) fun _ _ _ _ _ _ us hl => match us, hl with | [_, _, _], _ => rfl
  have FRD := fun_mk (st := sRD) lRD cRD kRD
  have bRD := FRD.binds (ps := ["text"]) fun _ _ _ _ _ _ us hl => match us, hl with | [_], _ => rfl
  have FLW := fun_mk (st := sLW) lLW cLW kLW
  have bLW := FLW.binds (ps := ["blocks"]) fun _ _ _ _ _ _ us hl => match us, hl with | [_], _ => rfl
  have FRL := fun_mk (st := sRL) lRL cRL kRL
  have bRL := FRL.binds (ps := ["reader", "blocks"]) fun _ _ _ _ _ _ us hl => match us, hl with | [_, _], _ => rfl
  have FRT := fun_mk (st := sRT) lRT cRT kRT
  have bRT := FRT.binds (ps := ["reader"]) fun _ _ _ _ _ _ us hl => match us, hl with | [_], _ => rfl
  have FRE := fun_mk (st := sRE) lRE cRE kRE
  have bRE := FRE.binds (ps := ["reader"]) fun _ _ _ _ _ _ us hl => match us, hl with | [_], _ => rfl
  have FRO := fun_mk (st := sRO) lRO cRO kRO
  have bRO := FRO.binds (ps := ["reader", "closers"]) fun _ _ _ _ _ _ us hl => match us, hl with | [_, _], _ => rfl
  have FRC := fun_mk (st := sRC) lRC cRC kRC
  have bRC := FRC.binds (ps := ["reader", "closers"]) fun _ _ _ _ _ _ us hl => match us, hl with | [_, _], _ => rfl
  have FRN := fun_mk (st := sRN) lRN cRN kRN
  have bRN := FRN.binds (ps := ["reader"]) fun _ _ _ _ _ _ us hl => match us, hl with | [_], _ => rfl
  have FMe := fun_mk (st := sMe) lMe cMe kMe
  have FCS := fun_mk (st := sCS) lCS cCS kCS
  have bCS := FCS.binds (ps := ["text"]) fun _ _ _ _ _ _ us hl => match us, hl with | [_], _ => rfl
  have mE : Meth K R "ended" fEn := ⟨aEn, iEn, kEn⟩
  have mS : Meth K R "shows" fSh := ⟨aSh, iSh, kSh⟩
  have mR : Meth K R "read_sign" fRS := ⟨aRS, iRS, kRS⟩
  have mW : Meth K R "read_word" fRW := ⟨aRW, iRW, kRW⟩
  have M : Mk K R fRI := ⟨mkR, aRI, iRI, kR⟩
  refine ⟨PySem.W.fnOf "method" "method" (defArgs sMe) (defBody sMe) (defScope sMe) .none kVMe dcMe pmMe anMe cdMe ctMe, fun s us hu => match us, hu with | [_], _ => .of_eq rfl, fun base _ _ => ?_⟩
  have GBI : FnOk P w K mg base CX0 1 fBI _ ["self", "numbers"] (spBI K) := ok_BI FBI T
  have GLI : FnOk P w K mg base CX0 2 fLI _ ["self"] (spLI L) := ok_LI FLI T RfL GBI bBI
  have GFI : FnOk P w K mg base CX0 2 fFI _ ["self", "rule", "place"] (spFI C) := ok_FI FFI T GBI bBI
  have GRI : FnOk P w K mg base CX0 1 fRI _ ["self", "text"] (spRI R) := ok_RI FRI T
  have GEn : FnOk P w K mg base CX0 1 fEn _ ["self"] (spEn K R) := ok_En FEn T
  have GSh : FnOk P w K mg base CX0 2 fSh _ ["self", "signs"] (spSh K R) := ok_Sh FSh T mE GEn bEn
  have GRS : FnOk P w K mg base (L2.CX P w) 4 fRS _ ["self", "signs"] (spRS K R C) := ok_RS FRS T mS GSh bSh GFI bFI
  have GSB : FnOk P w K mg base CX0 1 fSB _ ["beginning", "words"] (spSB K) := ok_SB FSB T
  have GRW : FnOk P w K mg base (L2.CX P w) 5 fRW _ ["self", "words"] (spRW K R C) := ok_RW FRW T mS GSh bSh GFI bFI mR GRS bRS (PySem.W.mg_of X G aSB) kSB GSB bSB
  have GLW : FnOk P w K mg base CX0 1 fLW _ ["blocks"] (spLW K) := ok_LW FLW T GR
  have GTS : FnOk P w K mg base CX0 1 fTS _ ["waiting", "signs", "ordered"] spTS := ok_TS FTS
  have GPO : FnOk P w K mg base CX0 2 fPO _ ["parts"] (spPO K) := ok_PO FPO (PySem.W.mg_of X G aTS) kTS GTS bTS
  have GRO : FnOk P w K mg base (L2.CX P w) 5 fRO _ ["reader", "closers"] (spRO K R) := ok_RO FRO T GR BR mS GSh bSh mR GRS bRS
  have GRC : FnOk P w K mg base (L2.CX P w) 5 fRC _ ["reader", "closers"] (spRC K R) := ok_RC FRC T mS GSh bSh mR GRS bRS
  have GRN : FnOk P w K mg base (L2.CX P w) 5 fRN _ ["reader"] (spRN K R C) := ok_RN FRN T GR mS GSh bSh mR GRS bRS
  have GRE : FnOk P w K mg base (L2.CX P w) 6 fRE _ ["reader"] (spRE K R C) := ok_RE FRE T mS GSh bSh mR GRS bRS (PySem.W.mg_of X G aRO) kRO GRO bRO (PySem.W.mg_of X G aRN) kRN GRN bRN (PySem.W.mg_of X G aRC) kRC GRC bRC (PySem.W.mg_of X G aPO) kPO GPO bPO
  have GRT : FnOk P w K mg base (L2.CX P w) 7 fRT _ ["reader"] (spRT K R C) := ok_RT FRT T mW GRW bRW (PySem.W.mg_of X G aRE) kRE GRE bRE
  have GRL : FnOk P w K mg base (L2.CX P w) 8 fRL _ ["reader", "blocks"] (spRL K R C) := ok_RL FRL T GR mR GRS bRS mW GRW bRW (PySem.W.mg_of X G aLW) kLW GLW bLW (PySem.W.mg_of X G aRE) kRE GRE bRE (PySem.W.mg_of X G aRT) kRT GRT bRT
  have GRD : FnOk P w K mg base (L2.CX P w) 9 fRD _ ["text"] (spRD K C) := ok_RD FRD T M GRI bRI mE GEn bEn (PySem.W.mg_of X G aRL) kRL GRL bRL
  have GCS : FnOk P w K mg base (L2.CX P w) 4 fCS _ ["text"] (spCS K L) := ok_CS FCS T LC ⟨_, PySem.W.mg_of X G guBY⟩ GLI bLI
  exact ok_Me FMe T LC (PySem.W.mg_of X G aRD) kRD GRD bRD (PySem.W.mg_of X G aCS) kCS GCS bCS
end Ab
open PySem PySem.W PyProof.Rows
set_option maxRecDepth 100000 in
set_option maxHeartbeats 8000000 in
theorem PySem.Challenge.cw_abacusways_s01_method_holds : PySem.Challenge.rw_abacusways_s01_method.Holds := by
  w_on; k_headS; (case hw => exact ⟨[.list []], by decide +kernel, by decide +kernel⟩)
  k_fillS
  refine L2.walk_specK (r := PySem.Challenge.rw_abacusways_s01_method) (k := 10) (CX := L2.CX0) (ps := ["text"]) (sp := Ab.spMe) (by decide +kernel) rfl rfl ⟨rfl, by decide, by decide⟩ (fun w h Y => PySem.W.kIn_of Y) ?F ?S (fun _ _ _ _ z => z)
  case F =>
    intro w mg fa h Y KX G hmg
    refine' Ab.all_mk KX G hmg ?aBI ?iBI ?lBI ?cBI ?kBI ?aLI ?iLI ?lLI ?cLI ?kLI ?aFI ?iFI ?lFI ?cFI ?kFI ?aRI ?iRI ?lRI ?cRI ?kRI ?aEn ?iEn ?lEn ?cEn ?kEn ?aSh ?iSh ?lSh ?cSh ?kSh ?aRS ?iRS ?lRS ?cRS ?kRS ?aRW ?iRW ?lRW ?cRW ?kRW ?aSB ?lSB ?cSB ?kSB ?aPO ?lPO ?cPO ?kPO ?aTS ?lTS ?cTS ?kTS ?aRD ?lRD ?cRD ?kRD ?aLW ?lLW ?cLW ?kLW ?aRL ?lRL ?cRL ?kRL ?aRT ?lRT ?cRT ?kRT ?aRE ?lRE ?cRE ?kRE ?aRO ?lRO ?cRO ?kRO ?aRC ?lRC ?cRC ?kRC ?aRN ?lRN ?cRN ?kRN ?aMe ?lMe ?cMe ?kMe ?aCS ?lCS ?cCS ?kCS ?guMR ?guMB ?guMK ?guMD ?guDG ?guHD ?guMA ?guBY ?n_ValueError ?n_len ?n_ord ?n_int ?gB ?lB ?eB1 ?eB2 ?hB ?aE ?eE ?iE ?tE ?rE ?sE ?fE ?vV ?aL ?xLL ?saL ?gaL ?ggL ?nNL ?kL ?eL ?tL ?hL ?sL ?aC ?xLC ?saC ?gaC ?ggC ?nNC ?kC ?eC ?tC ?hC ?sC ?aR ?pgR ?hdR ?poR ?saR ?mkR ?kR ?nText ?nPlace
    (case aE => first | k_is | rfl)
    (case aL => first | k_is | rfl)
    (case aC => first | k_is | rfl)
    (case aR => first | k_is | rfl)
    (case aBI => first | k_is | rfl)
    (case iBI => first | k_is | rfl)
    (case lBI => first | k_is | rfl)
    (case cBI => first | k_is | rfl)
    (case kBI => first | k_is | rfl)
    (case aLI => first | k_is | rfl)
    (case iLI => first | k_is | rfl)
    (case lLI => first | k_is | rfl)
    (case cLI => first | k_is | rfl)
    (case kLI => first | k_is | rfl)
    (case aFI => first | k_is | rfl)
    (case iFI => first | k_is | rfl)
    (case lFI => first | k_is | rfl)
    (case cFI => first | k_is | rfl)
    (case kFI => first | k_is | rfl)
    (case aRI => first | k_is | rfl)
    (case iRI => first | k_is | rfl)
    (case lRI => first | k_is | rfl)
    (case cRI => first | k_is | rfl)
    (case kRI => first | k_is | rfl)
    (case aEn => first | k_is | rfl)
    (case iEn => first | k_is | rfl)
    (case lEn => first | k_is | rfl)
    (case cEn => first | k_is | rfl)
    (case kEn => first | k_is | rfl)
    (case aSh => first | k_is | rfl)
    (case iSh => first | k_is | rfl)
    (case lSh => first | k_is | rfl)
    (case cSh => first | k_is | rfl)
    (case kSh => first | k_is | rfl)
    (case aRS => first | k_is | rfl)
    (case iRS => first | k_is | rfl)
    (case lRS => first | k_is | rfl)
    (case cRS => first | k_is | rfl)
    (case kRS => first | k_is | rfl)
    (case aRW => first | k_is | rfl)
    (case iRW => first | k_is | rfl)
    (case lRW => first | k_is | rfl)
    (case cRW => first | k_is | rfl)
    (case kRW => first | k_is | rfl)
    (case aSB => first | k_is | rfl)
    (case lSB => first | k_is | rfl)
    (case cSB => first | k_is | rfl)
    (case kSB => first | k_is | rfl)
    (case aPO => first | k_is | rfl)
    (case lPO => first | k_is | rfl)
    (case cPO => first | k_is | rfl)
    (case kPO => first | k_is | rfl)
    (case aTS => first | k_is | rfl)
    (case lTS => first | k_is | rfl)
    (case cTS => first | k_is | rfl)
    (case kTS => first | k_is | rfl)
    (case aRD => first | k_is | rfl)
    (case lRD => first | k_is | rfl)
    (case cRD => first | k_is | rfl)
    (case kRD => first | k_is | rfl)
    (case aLW => first | k_is | rfl)
    (case lLW => first | k_is | rfl)
    (case cLW => first | k_is | rfl)
    (case kLW => first | k_is | rfl)
    (case aRL => first | k_is | rfl)
    (case lRL => first | k_is | rfl)
    (case cRL => first | k_is | rfl)
    (case kRL => first | k_is | rfl)
    (case aRT => first | k_is | rfl)
    (case lRT => first | k_is | rfl)
    (case cRT => first | k_is | rfl)
    (case kRT => first | k_is | rfl)
    (case aRE => first | k_is | rfl)
    (case lRE => first | k_is | rfl)
    (case cRE => first | k_is | rfl)
    (case kRE => first | k_is | rfl)
    (case aRO => first | k_is | rfl)
    (case lRO => first | k_is | rfl)
    (case cRO => first | k_is | rfl)
    (case kRO => first | k_is | rfl)
    (case aRC => first | k_is | rfl)
    (case lRC => first | k_is | rfl)
    (case cRC => first | k_is | rfl)
    (case kRC => first | k_is | rfl)
    (case aRN => first | k_is | rfl)
    (case lRN => first | k_is | rfl)
    (case cRN => first | k_is | rfl)
    (case kRN => first | k_is | rfl)
    (case aMe => first | k_is | rfl)
    (case lMe => first | k_is | rfl)
    (case cMe => first | k_is | rfl)
    (case kMe => first | k_is | rfl)
    (case aCS => first | k_is | rfl)
    (case lCS => first | k_is | rfl)
    (case cCS => first | k_is | rfl)
    (case kCS => first | k_is | rfl)
    (case guMR => first | k_is | rfl)
    (case guMB => first | k_is | rfl)
    (case guMK => first | k_is | rfl)
    (case guMD => first | k_is | rfl)
    (case guDG => first | k_is | rfl)
    (case guHD => first | k_is | rfl)
    (case guMA => first | k_is | rfl)
    (case guBY => first | k_is | rfl)
    (case n_ValueError => first | k_is | rfl)
    (case n_len => first | k_is | rfl)
    (case n_ord => first | k_is | rfl)
    (case n_int => first | k_is | rfl)
    (case gB => first | k_is | rfl)
    (case lB => first | k_is | rfl)
    (case eB1 => first | k_is | rfl)
    (case eB2 => first | k_is | rfl)
    (case hB => exact ⟨⟨_, _, rfl, rfl⟩, ⟨_, _, rfl, rfl⟩, trivial⟩)
    (case eE => first | k_is | rfl)
    (case iE => first | k_is | rfl)
    (case tE => first | k_is | rfl)
    (case rE => first | k_is | rfl)
    (case sE => first | k_is | rfl)
    (case fE => first | k_is | rfl)
    (case vV => first | k_is | rfl)
    (case xLL => first | k_is | rfl)
    (case saL => first | k_is | rfl)
    (case gaL => first | k_is | rfl)
    (case ggL => first | k_is | rfl)
    (case nNL => first | k_is | rfl)
    (case kL => first | k_is | rfl)
    (case eL => first | k_is | rfl)
    (case tL => first | k_is | rfl)
    (case hL => first | k_is | rfl)
    (case sL => first | k_is | rfl)
    (case xLC => first | k_is | rfl)
    (case saC => first | k_is | rfl)
    (case gaC => first | k_is | rfl)
    (case ggC => first | k_is | rfl)
    (case nNC => first | k_is | rfl)
    (case kC => first | k_is | rfl)
    (case eC => first | k_is | rfl)
    (case tC => first | k_is | rfl)
    (case hC => first | k_is | rfl)
    (case sC => first | k_is | rfl)
    (case pgR => first | k_is | rfl)
    (case hdR => first | k_is | rfl)
    (case poR => first | k_is | rfl)
    (case saR => first | k_is | rfl)
    (case mkR => first | k_is | rfl)
    (case kR => first | k_is | rfl)
    (case nText => first | k_is | rfl)
    (case nPlace => first | k_is | rfl)
  case S =>
    intro K H xs a hO hwi hask hx
    cases hx with
    | cons h1 h2 =>
      cases h2
      cases h1 with
      | lst hs ha =>
        have e := L2.ints_dw a.1 _ ha
        subst e
        have q : ((Codec.inLen 0 5000 a.1 && a.1.all (Codec.inInt 0 255)) && true) = true := hwi
        rw [Bool.and_eq_true, Bool.and_eq_true] at q
        refine ⟨_, a.1, rfl, hs, (Codec.inNat_iff.mp q.1.1).2, fun x hx => ?_, fun H' p hp => .lst (L2.SqL.of hp) (L2.dw_ints _)⟩
        have := List.all_eq_true.mp q.1.2 x hx
        exact Codec.inInt_iff.mp this
#print axioms PySem.Challenge.cw_abacusways_s01_method_holds
