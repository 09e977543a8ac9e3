import PyProof.Rows.All
import Wide.All
import OpenK.AllK
import Wide.FinOn
import PyProof.EqAt
import PyProof.EqKinds
import PyProof.TupleCall
import Open.SpecLaws
import KE.OsGo
import PySem.Challenge.RW_abacusways_s01_method
import HandS.ForSpec
import HandS.Comp
import HandS.Iter
import HandS.Walk
import HandS.Text
import HandS.More
import HandS.ExcInit
import HandS.ExcField
import HandS.Flow
import HandS.Steps
import HandS.Codes
set_option linter.all false
namespace AbM
open Na

/-! ## Expressions: a reader that goes through an E sign by sign -/
inductive Md where
  | f
  | d (n : Nat)
def closer (c : UInt8) : UInt8 := if c = 91 then 93 else 41
def isOp (c : UInt8) : Bool := c == 43 || (c == 45 || c == 42)
def isLet (c : UInt8) : Bool := (decide (97 ≤ c.toNat) && decide (c.toNat ≤ 104)) || (decide (65 ≤ c.toNat) && decide (c.toNat ≤ 72))
def isBr (c : UInt8) : Bool := c == 91 || c == 40
/-- cs: what closes the brackets that are open, the innermost first -/
def scan : Bytes → Md → List UInt8 → Nat → Except Nat (Nat × Bytes)
  | [], .f, _, p => .error p
  | [], .d _, cs, p => if cs.isEmpty = true then .ok (p, []) else .error p
  | c :: l, .f, cs, p =>
    if isBr c = true then (if cs.length < 16 then scan l .f (closer c :: cs) (p + 1) else .error p)
    else if c = 48 then scan l (.d 0) cs (p + 1)
    else if isDigit c = true then scan l (.d 3) cs (p + 1)
    else if isLet c = true then scan l (.d 0) cs (p + 1)
    else .error p
  | c :: l, .d n, cs, p =>
    if isDigit c = true ∧ 0 < n then scan l (.d (n - 1)) cs (p + 1)
    else match cs with
      | [] => if isOp c = true then scan l .f [] (p + 1) else .ok (p, c :: l)
      | k :: r => if c = k then scan l (.d 0) r (p + 1) else if isOp c = true then scan l .f (k :: r) (p + 1) else .error p
/-- behind a number, a letter, a closed bracket -/
abbrev aft (cs : List UInt8) (p : Nat) (b : Bytes) : Except Nat (Nat × Bytes) := scan b (.d 0) cs p
def andThen {α : Type} (x : Except Nat (α × (Nat × Bytes))) (g : Nat → Bytes → Except Nat (Nat × Bytes)) : Except Nat (Nat × Bytes) := match x with
  | .error k => .error k
  | .ok (_, q, c) => g q c
/-- what closes brackets -/
def Cl (cs : List UInt8) : Prop := ∀ k ∈ cs, k = 93 ∨ k = 41
def NotHd (k : UInt8) (c : Bytes) : Prop := c.head? ≠ some k

theorem scan_digits : ∀ (n v p : Nat) (b : Bytes) (cs : List UInt8), scan b (.d n) cs p = aft cs (digitsAt n v p b).2.1 (digitsAt n v p b).2.2
  | 0, v, p, b, cs => rfl
  | n + 1, v, p, [], cs => rfl
  | n + 1, v, p, c :: l, cs => by
    by_cases h : isDigit c = true
    · have e : digitsAt (n + 1) v p (c :: l) = digitsAt n (10 * v + (c.toNat - 48)) (p + 1) l := by
        show (if isDigit c = true then _ else _) = _
        rw [if_pos h]
      rw [e, ← scan_digits n _ (p + 1) l cs]
      show (if isDigit c = true ∧ 0 < n + 1 then _ else _) = _
      rw [if_pos ⟨h, Nat.succ_pos n⟩]
      rfl
    · have e : digitsAt (n + 1) v p (c :: l) = (v, p, c :: l) := by
        show (if isDigit c = true then _ else _) = _
        rw [if_neg h]
      rw [e]
      show (if isDigit c = true ∧ 0 < n + 1 then _ else _) = (if isDigit c = true ∧ 0 < 0 then _ else _)
      rw [if_neg (fun x : isDigit c = true ∧ 0 < n + 1 => h x.1), if_neg (fun x : isDigit c = true ∧ 0 < 0 => h x.1)]
theorem digits_len : ∀ (n v p : Nat) (b : Bytes), (digitsAt n v p b).2.2.length ≤ b.length
  | 0, v, p, b => Nat.le_refl _
  | n + 1, v, p, [] => Nat.le_refl _
  | n + 1, v, p, c :: l => by
    show (if isDigit c = true then digitsAt n (10 * v + (c.toNat - 48)) (p + 1) l else (v, p, c :: l)).2.2.length ≤ _
    by_cases h : isDigit c = true
    · rw [if_pos h]
      exact Nat.le_trans (digits_len n _ _ l) (Nat.le_succ _)
    · rw [if_neg h]
      exact Nat.le_refl _

/-- what the spec's readers come to, against the scan -/
structure Good (f : Nat) : Prop where
  ex : ∀ (d p : Nat) (b : Bytes) (cs : List UInt8), Cl cs → cs.length = d → 3 * b.length + 3 ≤ f → scan b .f cs p = andThen (exAt f d p b) (aft cs) ∧ ∀ x q c, exAt f d p b = .ok (x, q, c) → c.length < b.length ∧ NotHd 42 c ∧ NotHd 43 c ∧ NotHd 45 c
  sum : ∀ (d : Nat) (x : Ex) (p : Nat) (b : Bytes) (cs : List UInt8), Cl cs → cs.length = d → 3 * b.length + 2 ≤ f → NotHd 42 b → aft cs p b = andThen (sumAt f d x p b) (aft cs) ∧ ∀ x' q c, sumAt f d x p b = .ok (x', q, c) → c.length ≤ b.length ∧ NotHd 42 c ∧ NotHd 43 c ∧ NotHd 45 c
  term : ∀ (d p : Nat) (b : Bytes) (cs : List UInt8), Cl cs → cs.length = d → 3 * b.length + 2 ≤ f → scan b .f cs p = andThen (termAt f d p b) (aft cs) ∧ ∀ x q c, termAt f d p b = .ok (x, q, c) → c.length < b.length ∧ NotHd 42 c
  times : ∀ (d : Nat) (x : Ex) (p : Nat) (b : Bytes) (cs : List UInt8), Cl cs → cs.length = d → 3 * b.length + 1 ≤ f → aft cs p b = andThen (timesAt f d x p b) (aft cs) ∧ ∀ x' q c, timesAt f d x p b = .ok (x', q, c) → c.length ≤ b.length ∧ NotHd 42 c
  fac : ∀ (d p : Nat) (b : Bytes) (cs : List UInt8), Cl cs → cs.length = d → 3 * b.length + 1 ≤ f → scan b .f cs p = andThen (factorAt f d p b) (aft cs) ∧ ∀ x q c, factorAt f d p b = .ok (x, q, c) → c.length < b.length

/-- an operator behind a number: what is read goes on with a factor -/
theorem aft_op {cs : List UInt8} (hc : Cl cs) {c : UInt8} (h : isOp c = true) (p : Nat) (l : Bytes) : aft cs p (c :: l) = scan l .f cs (p + 1) := by
  have hd : ¬ (isDigit c = true ∧ 0 < 0) := fun x => absurd x.2 (Nat.lt_irrefl _)
  show (if isDigit c = true ∧ 0 < 0 then _ else _) = _
  rw [if_neg hd]
  cases cs with
  | nil =>
    show (if isOp c = true then _ else _) = _
    rw [if_pos h]
  | cons k r =>
    have hk : c ≠ k := fun e => by
      subst e
      rcases hc c List.mem_cons_self with e | e <;> (subst e; revert h; decide)
    show (if c = k then _ else if isOp c = true then _ else _) = _
    rw [if_neg hk, if_pos h]

theorem good_zero : Good 0 where
  ex := fun d p b cs _ _ h => absurd h (by omega)
  sum := fun d x p b cs _ _ h => absurd h (by omega)
  term := fun d p b cs _ _ h => absurd h (by omega)
  times := fun d x p b cs _ _ h => absurd h (by omega)
  fac := fun d p b cs _ _ h => absurd h (by omega)

theorem hd_of {k : UInt8} {c : UInt8} {l : Bytes} (h : NotHd k (c :: l)) : c ≠ k := fun e => h (by rw [e]; rfl)
theorem nothd_cons {k : UInt8} {c : UInt8} {l : Bytes} (h : c ≠ k) : NotHd k (c :: l) := fun e => h (Option.some.inj e)
theorem nothd_nil {k : UInt8} : NotHd k [] := fun e => nomatch e

theorem good_times {f : Nat} (G : Good f) (d : Nat) (x : Ex) (p : Nat) (b : Bytes) (cs : List UInt8) (hc : Cl cs) (hd : cs.length = d) (hf : 3 * b.length + 1 ≤ f + 1) :
    aft cs p b = andThen (timesAt (f + 1) d x p b) (aft cs) ∧ ∀ x' q c, timesAt (f + 1) d x p b = .ok (x', q, c) → c.length ≤ b.length ∧ NotHd 42 c := by
  cases b with
  | nil =>
    have e : timesAt (f + 1) d x p [] = .ok (x, p, []) := by unfold timesAt; rfl
    rw [e]
    exact ⟨rfl, fun x' q c h => by cases h; exact ⟨Nat.le_refl _, nothd_nil⟩⟩
  | cons c l =>
    by_cases h : c = 42
    · subst h
      rw [aft_op hc (by decide)]
      have hl : 3 * l.length + 1 ≤ f := by rw [List.length_cons] at hf; omega
      obtain ⟨e1, h1⟩ := G.fac d (p + 1) l cs hc hd hl
      rw [e1]
      cases hz : factorAt f d (p + 1) l with
      | error k =>
        have e : timesAt (f + 1) d x p (42 :: l) = .error k := by rw [timesAt, hz]
        rw [e]
        exact ⟨rfl, fun x' q c h => by cases h⟩
      | ok z =>
        obtain ⟨y, q, c⟩ := z
        have e : timesAt (f + 1) d x p (42 :: l) = timesAt f d (.times x y) q c := by rw [timesAt, hz]
        rw [e]
        have hlt := h1 y q c hz
        obtain ⟨e2, h2⟩ := G.times d (.times x y) q c cs hc hd (by omega)
        refine ⟨e2, fun x' q' c' h => ?_⟩
        obtain ⟨h3, h4⟩ := h2 x' q' c' h
        exact ⟨by rw [List.length_cons]; omega, h4⟩
    · have e : timesAt (f + 1) d x p (c :: l) = .ok (x, p, c :: l) := by
        rw [timesAt]
        intro l' e
        exact h (List.cons.inj e).1
      rw [e]
      exact ⟨rfl, fun x' q c' h' => by cases h'; exact ⟨Nat.le_refl _, nothd_cons h⟩⟩
theorem good_term {f : Nat} (G : Good f) (d p : Nat) (b : Bytes) (cs : List UInt8) (hc : Cl cs) (hd : cs.length = d) (hf : 3 * b.length + 2 ≤ f + 1) :
    scan b .f cs p = andThen (termAt (f + 1) d p b) (aft cs) ∧ ∀ x q c, termAt (f + 1) d p b = .ok (x, q, c) → c.length < b.length ∧ NotHd 42 c := by
  obtain ⟨e1, h1⟩ := G.fac d p b cs hc hd (by omega)
  rw [e1]
  cases hz : factorAt f d p b with
  | error k =>
    have e : termAt (f + 1) d p b = .error k := by rw [termAt, hz]
    rw [e]
    exact ⟨rfl, fun x' q c h => by cases h⟩
  | ok z =>
    obtain ⟨y, q, c⟩ := z
    have e : termAt (f + 1) d p b = timesAt f d y q c := by rw [termAt, hz]
    rw [e]
    have hlt := h1 y q c hz
    obtain ⟨e2, h2⟩ := G.times d y q c cs hc hd (by omega)
    refine ⟨e2, fun x' q' c' h => ?_⟩
    obtain ⟨h3, h4⟩ := h2 x' q' c' h
    exact ⟨by omega, h4⟩
theorem good_ex {f : Nat} (G : Good f) (d p : Nat) (b : Bytes) (cs : List UInt8) (hc : Cl cs) (hd : cs.length = d) (hf : 3 * b.length + 3 ≤ f + 1) :
    scan b .f cs p = andThen (exAt (f + 1) d p b) (aft cs) ∧ ∀ x q c, exAt (f + 1) d p b = .ok (x, q, c) → c.length < b.length ∧ NotHd 42 c ∧ NotHd 43 c ∧ NotHd 45 c := by
  obtain ⟨e1, h1⟩ := G.term d p b cs hc hd (by omega)
  rw [e1]
  cases hz : termAt f d p b with
  | error k =>
    have e : exAt (f + 1) d p b = .error k := by rw [exAt, hz]
    rw [e]
    exact ⟨rfl, fun x' q c h => by cases h⟩
  | ok z =>
    obtain ⟨y, q, c⟩ := z
    have e : exAt (f + 1) d p b = sumAt f d y q c := by rw [exAt, hz]
    rw [e]
    obtain ⟨hlt, hn⟩ := h1 y q c hz
    obtain ⟨e2, h2⟩ := G.sum d y q c cs hc hd (by omega) hn
    refine ⟨e2, fun x' q' c' h => ?_⟩
    obtain ⟨h3, h4⟩ := h2 x' q' c' h
    exact ⟨by omega, h4⟩
theorem good_sum_op {f : Nat} (G : Good f) (d : Nat) (p : Nat) (l : Bytes) (cs : List UInt8) (hc : Cl cs) (hd : cs.length = d) (k : UInt8) (g : Ex → Ex) (s : Except Nat (Ex × (Nat × Bytes)))
    (es : s = match termAt f d (p + 1) l with
      | .error k => .error k
      | .ok (y, q, c) => sumAt f d (g y) q c) (hk : isOp k = true) (hf : 3 * (k :: l).length + 2 ≤ f + 1) :
    aft cs p (k :: l) = andThen s (aft cs) ∧ ∀ x' q c, s = .ok (x', q, c) → c.length ≤ (k :: l).length ∧ NotHd 42 c ∧ NotHd 43 c ∧ NotHd 45 c := by
  subst es
  rw [aft_op hc hk]
  have hl : 3 * l.length + 2 ≤ f := by rw [List.length_cons] at hf; omega
  obtain ⟨e1, h1⟩ := G.term d (p + 1) l cs hc hd hl
  rw [e1]
  cases hz : termAt f d (p + 1) l with
  | error k => exact ⟨rfl, fun x' q c h => by cases h⟩
  | ok z =>
    obtain ⟨y, q, c⟩ := z
    obtain ⟨hlt, hn⟩ := h1 y q c hz
    obtain ⟨e2, h2⟩ := G.sum d (g y) q c cs hc hd (by omega) hn
    refine ⟨e2, fun x' q' c' h => ?_⟩
    obtain ⟨h3, h4⟩ := h2 x' q' c' h
    exact ⟨by rw [List.length_cons]; omega, h4⟩
theorem good_sum {f : Nat} (G : Good f) (d : Nat) (x : Ex) (p : Nat) (b : Bytes) (cs : List UInt8) (hc : Cl cs) (hd : cs.length = d) (hf : 3 * b.length + 2 ≤ f + 1) (hn : NotHd 42 b) :
    aft cs p b = andThen (sumAt (f + 1) d x p b) (aft cs) ∧ ∀ x' q c, sumAt (f + 1) d x p b = .ok (x', q, c) → c.length ≤ b.length ∧ NotHd 42 c ∧ NotHd 43 c ∧ NotHd 45 c := by
  cases b with
  | nil =>
    have e : sumAt (f + 1) d x p [] = .ok (x, p, []) := by unfold sumAt; rfl
    rw [e]
    exact ⟨rfl, fun x' q c h => by cases h; exact ⟨Nat.le_refl _, nothd_nil, nothd_nil, nothd_nil⟩⟩
  | cons c l =>
    by_cases h : c = 43
    · subst h
      exact good_sum_op G d p l cs hc hd 43 (fun y => .plus x y) _ (by rw [sumAt]; rfl) (by decide) hf
    · by_cases h2 : c = 45
      · subst h2
        exact good_sum_op G d p l cs hc hd 45 (fun y => .minus x y) _ (by rw [sumAt]; rfl) (by decide) hf
      · have e : sumAt (f + 1) d x p (c :: l) = .ok (x, p, c :: l) := by
          rw [sumAt]
          · intro l' e
            exact h (List.cons.inj e).1
          · intro l' e
            exact h2 (List.cons.inj e).1
        rw [e]
        exact ⟨rfl, fun x' q c' h' => by cases h'; exact ⟨Nat.le_refl _, hn, nothd_cons h, nothd_cons h2⟩⟩
theorem closer_cl {cs : List UInt8} (hc : Cl cs) (c : UInt8) : Cl (closer c :: cs) := fun k hk => by
  rcases List.mem_cons.mp hk with e | e
  · subst e
    unfold closer
    by_cases h : c = 91
    · rw [if_pos h]
      exact .inl rfl
    · rw [if_neg h]
      exact .inr rfl
  · exact hc k e
/-- behind an E in brackets, where no operator stands: what closes it, or nothing -/
theorem aft_close (k : UInt8) (cs : List UInt8) (q : Nat) (c : Bytes) (h1 : NotHd 42 c) (h2 : NotHd 43 c) (h3 : NotHd 45 c) : aft (k :: cs) q c = andThen (expect [k] q c) (aft cs) := by
  cases c with
  | nil => rfl
  | cons c l =>
    have hd : ¬ (isDigit c = true ∧ 0 < 0) := fun x => absurd x.2 (Nat.lt_irrefl _)
    show (if isDigit c = true ∧ 0 < 0 then _ else if c = k then _ else if isOp c = true then _ else _) = andThen (if k = c then expect [] (q + 1) l else .error q) (aft cs)
    rw [if_neg hd]
    by_cases h : c = k
    · rw [if_pos h, if_pos h.symm]
      rfl
    · have ho : ¬ isOp c = true := fun x => by
        have e1 : (c == 43) = false := by simpa using hd_of h2
        have e2 : (c == 45) = false := by simpa using hd_of h3
        have e3 : (c == 42) = false := by simpa using hd_of h1
        unfold isOp at x
        rw [e1, e2, e3] at x
        cases x
      rw [if_neg h, if_neg ho, if_neg (fun z => h z.symm)]
      rfl
theorem expect_len : ∀ (w : Bytes) (p : Nat) (b : Bytes) (u : Unit) (q : Nat) (c : Bytes), expect w p b = .ok (u, q, c) → c.length + w.length = b.length
  | [], p, b, u, q, c, h => by
    cases h
    rfl
  | k :: w, p, [], u, q, c, h => by cases h
  | k :: w, p, d :: l, u, q, c, h => by
    have h' : (if k = d then expect w (p + 1) l else .error p) = .ok (u, q, c) := h
    by_cases e : k = d
    · rw [if_pos e] at h'
      have := expect_len w (p + 1) l u q c h'
      rw [List.length_cons, List.length_cons]
      omega
    · rw [if_neg e] at h'
      cases h'
theorem good_fac {f : Nat} (G : Good f) (d p : Nat) (b : Bytes) (cs : List UInt8) (hc : Cl cs) (hd : cs.length = d) (hf : 3 * b.length + 1 ≤ f + 1) :
    scan b .f cs p = andThen (factorAt (f + 1) d p b) (aft cs) ∧ ∀ x q c, factorAt (f + 1) d p b = .ok (x, q, c) → c.length < b.length := by
  cases b with
  | nil =>
    have e : factorAt (f + 1) d p [] = .error p := by unfold factorAt; rfl
    rw [e]
    exact ⟨rfl, fun x' q c h => by cases h⟩
  | cons c l =>
    rw [factorAt]
    have sc : scan (c :: l) .f cs p = if isBr c = true then (if cs.length < 16 then scan l .f (closer c :: cs) (p + 1) else .error p)
      else if c = 48 then scan l (.d 0) cs (p + 1)
      else if isDigit c = true then scan l (.d 3) cs (p + 1)
      else if isLet c = true then scan l (.d 0) cs (p + 1)
      else .error p := rfl
    rw [sc]
    by_cases h0 : c = 48
    · subst h0
      rw [if_neg (by decide), if_pos rfl, if_pos rfl]
      exact ⟨rfl, fun x q c h => by cases h; exact Nat.lt_succ_self _⟩
    · rw [if_neg h0, if_neg h0]
      by_cases h1 : isDigit c = true
      · have hb : ¬ isBr c = true := fun z => by
          unfold isBr at z
          rcases (Bool.or_eq_true _ _).mp z with e | e <;> (rw [beq_iff_eq] at e; subst e; revert h1; decide)
        rw [if_neg hb, if_pos h1, if_pos h1]
        refine ⟨scan_digits 3 (c.toNat - 48) (p + 1) l cs, fun x q c' h => ?_⟩
        have e2 : (digitsAt 3 (c.toNat - 48) (p + 1) l).2 = (q, c') := (Prod.mk.inj (Except.ok.inj h)).2
        have e3 : (digitsAt 3 (c.toNat - 48) (p + 1) l).2.2 = c' := congrArg Prod.snd e2
        rw [← e3]
        exact Nat.lt_of_le_of_lt (digits_len 3 _ _ l) (Nat.lt_succ_self _)
      · rw [if_neg h1, if_neg h1]
        by_cases h2 : 97 ≤ c.toNat ∧ c.toNat ≤ 104
        · have hb : ¬ isBr c = true := fun z => by
            unfold isBr at z
            rcases (Bool.or_eq_true _ _).mp z with e | e <;> (rw [beq_iff_eq] at e; subst e; revert h2; decide)
          have hl : isLet c = true := by
            unfold isLet
            rw [decide_eq_true h2.1, decide_eq_true h2.2]
            rfl
          rw [if_neg hb, if_pos hl, if_pos h2]
          exact ⟨rfl, fun x q c h => by cases h; exact Nat.lt_succ_self _⟩
        · rw [if_neg h2]
          by_cases h3 : 65 ≤ c.toNat ∧ c.toNat ≤ 72
          · have hb : ¬ isBr c = true := fun z => by
              unfold isBr at z
              rcases (Bool.or_eq_true _ _).mp z with e | e <;> (rw [beq_iff_eq] at e; subst e; revert h3; decide)
            have hl : isLet c = true := by
              unfold isLet
              rw [decide_eq_true h3.1, decide_eq_true h3.2, Bool.and_self, Bool.or_true]
            rw [if_neg hb, if_pos hl, if_pos h3]
            exact ⟨rfl, fun x q c h => by cases h; exact Nat.lt_succ_self _⟩
          · rw [if_neg h3]
            have hl : ¬ isLet c = true := fun z => by
              unfold isLet at z
              rcases (Bool.or_eq_true _ _).mp z with e | e
              · exact h2 ⟨of_decide_eq_true ((Bool.and_eq_true _ _).mp e).1, of_decide_eq_true ((Bool.and_eq_true _ _).mp e).2⟩
              · exact h3 ⟨of_decide_eq_true ((Bool.and_eq_true _ _).mp e).1, of_decide_eq_true ((Bool.and_eq_true _ _).mp e).2⟩
            rw [if_neg hl]
            by_cases h4 : c = 91 ∨ c = 40
            · have hb : isBr c = true := by
                unfold isBr
                rcases h4 with e | e <;> (subst e; rfl)
              rw [if_pos hb, if_pos h4]
              by_cases h5 : OPEN ≤ d
              · rw [if_pos h5, if_neg (by rw [hd]; exact Nat.not_lt.mpr h5)]
                exact ⟨rfl, fun x q c h => by cases h⟩
              · rw [if_neg h5, if_pos (by rw [hd]; exact Nat.lt_of_not_le h5)]
                have hl3 : 3 * l.length + 3 ≤ f := by rw [List.length_cons] at hf; omega
                obtain ⟨e1, g1⟩ := G.ex (d + 1) (p + 1) l (closer c :: cs) (closer_cl hc c) (by rw [List.length_cons, hd]) hl3
                rw [e1]
                cases hz : exAt f (d + 1) (p + 1) l with
                | error k => exact ⟨rfl, fun x' q c h => by cases h⟩
                | ok z =>
                  obtain ⟨y, q, r⟩ := z
                  obtain ⟨hlt, n1, n2, n3⟩ := g1 y q r hz
                  show aft (closer c :: cs) q r = andThen (match expect [closer c] q r with
                    | .error k => .error k
                    | .ok (_, q, r) => .ok (if c = 91 then Ex.rod y else .par y, q, r)) (aft cs) ∧ _
                  rw [aft_close _ _ _ _ n1 n2 n3]
                  cases hw : expect [closer c] q r with
                  | error k =>
                    refine ⟨rfl, fun x' q' c' h => ?_⟩
                    have hw' : expect [if c = 91 then 93 else 41] q r = .error k := hw
                    simp only [hw'] at h
                    cases h
                  | ok z =>
                    obtain ⟨u, q2, r2⟩ := z
                    refine ⟨rfl, fun x' q' c' h => ?_⟩
                    have hw' : expect [if c = 91 then 93 else 41] q r = .ok (u, q2, r2) := hw
                    simp only [hw'] at h
                    have h6 := expect_len _ _ _ _ _ _ hw
                    cases h
                    rw [List.length_cons]
                    simp only [List.length_cons, List.length_nil] at h6
                    omega
            · have hb : ¬ isBr c = true := fun z => by
                unfold isBr at z
                rcases (Bool.or_eq_true _ _).mp z with e | e
                · exact h4 (.inl (by simpa using e))
                · exact h4 (.inr (by simpa using e))
              rw [if_neg hb, if_neg h4]
              exact ⟨rfl, fun x q c h => by cases h⟩
theorem good : ∀ f, Good f
  | 0 => good_zero
  | f + 1 => ⟨good_ex (good f), good_sum (good f), good_term (good f), good_times (good f), good_fac (good f)⟩
/-- an E, read by the scan -/
theorem scan_ex (p : Nat) (b : Bytes) : scan b .f [] p = andThen (exHere p b) (aft []) := ((good (6 * b.length + 8)).ex 0 p b [] (fun k h => nomatch h) rfl (by omega)).1
theorem ex_len {p : Nat} {b : Bytes} {x : Ex} {q : Nat} {c : Bytes} (h : exHere p b = .ok (x, q, c)) : c.length < b.length ∧ NotHd 42 c ∧ NotHd 43 c ∧ NotHd 45 c := ((good (6 * b.length + 8)).ex 0 p b [] (fun k h => nomatch h) rfl (by omega)).2 x q c h
theorem aft_end {q : Nat} {c : Bytes} (n1 : NotHd 42 c) (n2 : NotHd 43 c) (n3 : NotHd 45 c) : aft [] q c = .ok (q, c) := by
  cases c with
  | nil => rfl
  | cons c l =>
    have hd : ¬ (isDigit c = true ∧ 0 < 0) := fun x => absurd x.2 (Nat.lt_irrefl _)
    have ho : ¬ isOp c = true := fun x => by
      have e1 : (c == 43) = false := by simpa using hd_of n2
      have e2 : (c == 45) = false := by simpa using hd_of n3
      have e3 : (c == 42) = false := by simpa using hd_of n1
      unfold isOp at x
      rw [e1, e2, e3] at x
      cases x
    show (if isDigit c = true ∧ 0 < 0 then _ else if isOp c = true then _ else _) = _
    rw [if_neg hd, if_neg ho]
theorem scan_error {p k : Nat} {b : Bytes} (h : exHere p b = .error k) : scan b .f [] p = .error k := by rw [scan_ex, h]; rfl
theorem scan_ok {p : Nat} {b : Bytes} {x : Ex} {q : Nat} {c : Bytes} (h : exHere p b = .ok (x, q, c)) : scan b .f [] p = .ok (q, c) := by
  obtain ⟨_, n1, n2, n3⟩ := ex_len h
  rw [scan_ex, h]
  exact aft_end n1 n2 n3
end AbM

set_option linter.all false
namespace AbM
open Na

/-! ## Words -/
def strip {β : Type} (c : Nat) (ks : List (List Nat × β)) : List (List Nat × β) := ks.filterMap fun x => match x.1 with
  | d :: r => if c = d then some (r, x.2) else none
  | [] => none
def done? {β : Type} (ks : List (List Nat × β)) : Option (List Nat × β) := ks.find? fun x => x.1.isEmpty
def ends {β : Type} (o : Option (List Nat × β)) (p : Nat) (b : Bytes) : Except Nat (β × (Nat × Bytes)) := match o with
  | some x => .ok (x.2, p, b)
  | none => .error p
def bindX {α γ : Type} (x : Except Nat (α × (Nat × Bytes))) (g : α → Nat → Bytes → Except Nat γ) : Except Nat γ := match x with
  | .error k => .error k
  | .ok (a, q, c) => g a q c
/-- of some words the longest that stands here -/
def munch {β : Type} : Bytes → List (List Nat × β) → Nat → Except Nat (β × (Nat × Bytes))
  | [], ks, p => ends (done? ks) p []
  | c :: l, ks, p => if (strip c.toNat ks).isEmpty = true then ends (done? ks) p (c :: l) else munch l (strip c.toNat ks) (p + 1)
/-- the words that begin so: what is left of them -/
def tag (acc : List Nat) (ws : List (List Nat)) : List (List Nat × List Nat) := ws.filterMap fun w => if acc <+: w then some (w.drop acc.length, w) else none
def heads {β : Type} (ks : List (List Nat × β)) : List Nat := ks.filterMap fun x => x.1.head?

theorem strip_cons {β : Type} (c : Nat) (x : List Nat × β) (ks : List (List Nat × β)) : strip c (x :: ks) = (match x.1 with
  | d :: r => if c = d then [(r, x.2)] else []
  | [] => []) ++ strip c ks := by
  unfold strip
  rw [List.filterMap_cons]
  obtain ⟨w, a⟩ := x
  cases w with
  | nil => rfl
  | cons d r =>
    by_cases h : c = d
    · simp [h]
    · simp [h]
theorem drop_len_append {acc r : List Nat} {c : Nat} {w : List Nat} (e : w = acc ++ c :: r) : w.drop acc.length = c :: r ∧ w.drop (acc ++ [c]).length = r := by
  subst e
  constructor
  · simp
  · rw [show acc ++ c :: r = (acc ++ [c]) ++ r by simp, List.drop_left]
theorem tag_strip (acc : List Nat) (c : Nat) : ∀ ws : List (List Nat), strip c (tag acc ws) = tag (acc ++ [c]) ws
  | [] => rfl
  | w :: ws => by
    have ih := tag_strip acc c ws
    by_cases h : acc <+: w
    · obtain ⟨r, e⟩ := h
      have e1 : tag acc (w :: ws) = (w.drop acc.length, w) :: tag acc ws := by
        unfold tag
        rw [List.filterMap_cons, if_pos ⟨r, e⟩]
      rw [e1, strip_cons, ih]
      have ed : w.drop acc.length = r := by rw [← e, List.drop_left]
      dsimp only
      rw [ed]
      cases r with
      | nil =>
        have hn : ¬ (acc ++ [c]) <+: w := fun ⟨s, es⟩ => by
          rw [← es] at e
          have := congrArg List.length e
          simp at this
        show [] ++ tag (acc ++ [c]) ws = _
        unfold tag
        rw [List.filterMap_cons, if_neg hn]
        rfl
      | cons d r =>
        by_cases hc : c = d
        · subst hc
          have hp : (acc ++ [c]) <+: w := ⟨r, by rw [← e]; simp⟩
          show (if c = c then [(r, w)] else []) ++ _ = _
          rw [if_pos rfl]
          unfold tag
          rw [List.filterMap_cons, if_pos hp, (drop_len_append e.symm).2]
          rfl
        · have hn : ¬ (acc ++ [c]) <+: w := fun ⟨s, es⟩ => by
            rw [← es] at e
            have e2 : acc ++ (d :: r) = acc ++ (c :: s) := by rw [e]; simp
            have := List.append_cancel_left e2
            exact hc (List.cons.inj this).1.symm
          show (if c = d then [(r, w)] else []) ++ _ = _
          rw [if_neg hc]
          unfold tag
          rw [List.filterMap_cons, if_neg hn]
          rfl
    · have hn : ¬ (acc ++ [c]) <+: w := fun ⟨s, es⟩ => h ⟨c :: s, by rw [← es]; simp⟩
      have e1 : tag acc (w :: ws) = tag acc ws := by
        unfold tag
        rw [List.filterMap_cons, if_neg h]
      have e2 : tag (acc ++ [c]) (w :: ws) = tag (acc ++ [c]) ws := by
        unfold tag
        rw [List.filterMap_cons, if_neg hn]
      rw [e1, e2, ih]
theorem heads_iff {β : Type} (c : Nat) : ∀ ks : List (List Nat × β), c ∈ heads ks ↔ (strip c ks).isEmpty = false
  | [] => by simp [heads, strip]
  | (w, a) :: ks => by
    have ih := heads_iff c ks
    rw [strip_cons]
    cases w with
    | nil =>
      have e : heads (([], a) :: ks) = heads ks := rfl
      rw [e]
      exact ih
    | cons d r =>
      have e : heads ((d :: r, a) :: ks) = d :: heads ks := rfl
      rw [e]
      by_cases h : c = d
      · subst h
        simp
      · simp [h, ih]
theorem done_tag (acc : List Nat) : ∀ ws : List (List Nat), (acc ∈ ws → ∃ x, done? (tag acc ws) = some x ∧ x.2 = acc) ∧ (acc ∉ ws → done? (tag acc ws) = none)
  | [] => ⟨fun h => absurd h List.not_mem_nil, fun _ => rfl⟩
  | w :: ws => by
    obtain ⟨i1, i2⟩ := done_tag acc ws
    by_cases h : acc <+: w
    · have e1 : tag acc (w :: ws) = (w.drop acc.length, w) :: tag acc ws := by
        unfold tag
        rw [List.filterMap_cons, if_pos h]
      obtain ⟨r, e⟩ := h
      have ed : w.drop acc.length = r := by rw [← e, List.drop_left]
      rw [e1, ed]
      cases r with
      | nil =>
        have ew : w = acc := by rw [← e]; simp
        refine ⟨fun _ => ⟨([], w), rfl, ew⟩, fun hn => absurd (by rw [ew]; exact List.mem_cons_self) hn⟩
      | cons d r =>
        have hne : acc ≠ w := fun z => by
          rw [← z] at e
          have := congrArg List.length e
          simp at this
        have ef : done? ((d :: r, w) :: tag acc ws) = done? (tag acc ws) := by
          unfold done?
          rw [List.find?_cons]
          rfl
        rw [ef]
        exact ⟨fun hm => (List.mem_cons.mp hm).elim (fun z => absurd z hne) i1, fun hn => i2 fun z => hn (List.mem_cons_of_mem _ z)⟩
    · have e1 : tag acc (w :: ws) = tag acc ws := by
        unfold tag
        rw [List.filterMap_cons, if_neg h]
      have hne : acc ≠ w := fun z => h (by rw [← z]; exact List.prefix_refl acc)
      rw [e1]
      exact ⟨fun hm => (List.mem_cons.mp hm).elim (fun z => absurd z hne) i1, fun hn => i2 fun z => hn (List.mem_cons_of_mem _ z)⟩
/-- what a walk over the text does: a sign that goes on .. -/
theorem munch_go {ws : List (List Nat)} {acc : List Nat} {c : UInt8} {l : Bytes} {p : Nat} (h : c.toNat ∈ heads (tag acc ws)) : munch (c :: l) (tag acc ws) p = munch l (tag (acc ++ [c.toNat]) ws) (p + 1) := by
  rw [munch, if_neg (by rw [(heads_iff _ _).mp h]; exact Bool.false_ne_true), tag_strip]
/-- .. or none -/
theorem munch_stop {ws : List (List Nat)} {acc : List Nat} {b : Bytes} {p : Nat} (h : ∀ c l, b = c :: l → c.toNat ∉ heads (tag acc ws)) : munch b (tag acc ws) p = if acc ∈ ws then .ok (acc, p, b) else .error p := by
  have fin : ends (done? (tag acc ws)) p b = if acc ∈ ws then Except.ok (acc, p, b) else .error p := by
    by_cases hm : acc ∈ ws
    · obtain ⟨x, e, e2⟩ := (done_tag acc ws).1 hm
      rw [e, if_pos hm]
      show Except.ok (x.2, p, b) = _
      rw [e2]
    · rw [(done_tag acc ws).2 hm, if_neg hm]
      rfl
  cases b with
  | nil =>
    rw [munch]
    exact fin
  | cons c l =>
    have h1 := h c l rfl
    have h2 : (strip c.toNat (tag acc ws)).isEmpty = true := by
      cases e : (strip c.toNat (tag acc ws)).isEmpty with
      | true => rfl
      | false => exact absurd ((heads_iff _ _).mpr e) h1
    rw [munch, if_pos h2]
    exact fin
theorem tag_nil : ∀ ws : List (List Nat), tag [] ws = ws.map fun w => (w, w)
  | [] => rfl
  | w :: ws => by
    have ih := tag_nil ws
    show ((w :: ws).filterMap fun w => if [] <+: w then some (w.drop 0, w) else none) = _
    rw [List.filterMap_cons, if_pos (List.nil_prefix), List.map_cons, ← ih]
    rfl
theorem munch_len {β : Type} : ∀ (b : Bytes) (ks : List (List Nat × β)) (p : Nat) (w : β) (q : Nat) (c : Bytes), munch b ks p = .ok (w, q, c) → c.length ≤ b.length ∧ (done? ks = none → c.length < b.length)
  | [], ks, p, w, q, c, h => by
    rw [munch] at h
    cases e : done? ks with
    | none => rw [e] at h; cases h
    | some x =>
      rw [e] at h
      cases h
      exact ⟨Nat.le_refl _, fun z => by cases z⟩
  | d :: l, ks, p, w, q, c, h => by
    rw [munch] at h
    by_cases hs : (strip d.toNat ks).isEmpty = true
    · rw [if_pos hs] at h
      cases e : done? ks with
      | none => rw [e] at h; cases h
      | some x =>
        rw [e] at h
        cases h
        exact ⟨Nat.le_refl _, fun z => by cases z⟩
    · rw [if_neg hs] at h
      have := (munch_len l _ _ _ _ _ h).1
      rw [List.length_cons]
      exact ⟨by omega, fun _ => by omega⟩
/-- one word alone -/
theorem munch_one {β : Type} (w : β) : ∀ (s b : Bytes) (p : Nat), munch b [(s.map UInt8.toNat, w)] p = bindX (expect s p b) fun _ q c => .ok (w, q, c)
  | [], [], p => rfl
  | [], c :: l, p => rfl
  | k :: s, [], p => rfl
  | k :: s, c :: l, p => by
    rw [munch]
    have e1 : strip c.toNat [((k :: s).map UInt8.toNat, w)] = if c.toNat = k.toNat then [(s.map UInt8.toNat, w)] else [] := by
      rw [strip_cons]
      show (if c.toNat = k.toNat then [(s.map UInt8.toNat, w)] else []) ++ [] = _
      rw [List.append_nil]
    rw [e1]
    show _ = bindX (if k = c then expect s (p + 1) l else .error p) fun _ q c => .ok (w, q, c)
    by_cases h : k = c
    · subst h
      rw [if_pos rfl, if_pos rfl]
      exact munch_one w s l (p + 1)
    · have h2 : ¬ c.toNat = k.toNat := fun z => h (UInt8.toNat_inj.mp z.symm)
      rw [if_neg h2, if_neg h]
      rfl
/-- none begins another -/
def PF {α : Type} (ks : List (Bytes × α)) : Prop := ks.Pairwise fun x y => ¬ x.1 <+: y.1 ∧ ¬ y.1 <+: x.1
theorem pf_single {α : Type} {x : Bytes × α} (hx : x.1 = []) : ∀ ks : List (Bytes × α), PF ks → x ∈ ks → ks = [x]
  | y :: r, h, hm => by
    have h' := List.pairwise_cons.mp h
    rcases List.mem_cons.mp hm with e | e
    · subst e
      cases r with
      | nil => rfl
      | cons z r => exact absurd (by rw [hx]; exact List.nil_prefix) (h'.1 z List.mem_cons_self).1
    · exact absurd (by rw [hx]; exact List.nil_prefix) (h'.1 x e).2
/-- the spec's step over some words -/
def stepW {α : Type} (c : UInt8) (ks : List (Bytes × α)) : List (Bytes × α) := ks.filterMap fun (x : Bytes × α) => match x.1 with
  | d :: r => if c = d then some (r, x.2) else none
  | [] => none
theorem stepW_cons {α : Type} (c : UInt8) (x : Bytes × α) (ks : List (Bytes × α)) : stepW c (x :: ks) = (match x.1 with
  | d :: r => if c = d then [(r, x.2)] else []
  | [] => []) ++ stepW c ks := by
  unfold stepW
  rw [List.filterMap_cons]
  obtain ⟨w, a⟩ := x
  cases w with
  | nil => rfl
  | cons d r =>
    by_cases h : c = d
    · simp [h]
    · simp [h]
theorem mem_stepW {α : Type} {c : UInt8} {ks : List (Bytes × α)} {y : Bytes × α} (h : y ∈ stepW c ks) : (c :: y.1, y.2) ∈ ks := by
  unfold stepW at h
  obtain ⟨x, hx, e⟩ := List.mem_filterMap.mp h
  obtain ⟨w, a⟩ := x
  cases w with
  | nil => cases e
  | cons d r =>
    by_cases hc : c = d
    · subst hc
      have e' : (if c = c then some (r, a) else none) = some y := e
      rw [if_pos rfl] at e'
      cases e'
      exact hx
    · have e' : (if c = d then some (r, a) else none) = some y := e
      rw [if_neg hc] at e'
      cases e'
theorem pf_step {α : Type} (c : UInt8) : ∀ ks : List (Bytes × α), PF ks → PF (stepW c ks)
  | [], _ => List.Pairwise.nil
  | x :: ks, h => by
    have h' := List.pairwise_cons.mp h
    have ih := pf_step c ks h'.2
    rw [stepW_cons]
    obtain ⟨w, a⟩ := x
    cases w with
    | nil => exact ih
    | cons d r =>
      by_cases hc : c = d
      · subst hc
        show PF ((if c = c then [(r, a)] else []) ++ stepW c ks)
        rw [if_pos rfl]
        refine List.pairwise_cons.mpr ⟨fun y hy => ?_, ih⟩
        have q := h'.1 _ (mem_stepW hy)
        exact ⟨fun z => q.1 ((List.prefix_cons_inj c).mpr z), fun z => q.2 ((List.prefix_cons_inj c).mpr z)⟩
      · show PF ((if c = d then [(r, a)] else []) ++ stepW c ks)
        rw [if_neg hc]
        exact ih
theorem oneOf_succ {α : Type} (f : Nat) (ks : List (Bytes × α)) (p : Nat) (b : Bytes) : oneOf (f + 1) ks p b = match ks.find? (fun (x : Bytes × α) => x.1.isEmpty) with
    | some x => .ok (x.2, p, b)
    | none => match b with
      | [] => .error p
      | c :: l => if (stepW c ks).isEmpty = true then .error p else oneOf f (stepW c ks) (p + 1) l := rfl
section
variable {α β : Type} (sfx : α → Bytes) (word : α → β)
def asks (ks : List (Bytes × α)) : List (List Nat × β) := ks.map fun x => ((x.1 ++ sfx x.2).map UInt8.toNat, word x.2)
theorem strip_asks (c : UInt8) : ∀ ks : List (Bytes × α), (∀ x ∈ ks, x.1 ≠ []) → strip c.toNat (asks sfx word ks) = asks sfx word (stepW c ks)
  | [], _ => rfl
  | (w, a) :: ks, h => by
    have ih := strip_asks c ks fun x hx => h x (List.mem_cons_of_mem _ hx)
    cases w with
    | nil => exact absurd rfl (h _ List.mem_cons_self)
    | cons d r =>
      have e1 : asks sfx word ((d :: r, a) :: ks) = (d.toNat :: (r ++ sfx a).map UInt8.toNat, word a) :: asks sfx word ks := rfl
      rw [e1, strip_cons, stepW_cons, ih]
      by_cases hc : c = d
      · subst hc
        show (if c.toNat = c.toNat then [((r ++ sfx a).map UInt8.toNat, word a)] else []) ++ _ = asks sfx word ((if c = c then [(r, a)] else []) ++ _)
        rw [if_pos rfl, if_pos rfl]
        rfl
      · have hc2 : ¬ c.toNat = d.toNat := fun z => hc (UInt8.toNat_inj.mp z)
        show (if c.toNat = d.toNat then [((r ++ sfx a).map UInt8.toNat, word a)] else []) ++ _ = asks sfx word ((if c = d then [(r, a)] else []) ++ _)
        rw [if_neg hc2, if_neg hc]
        rfl
theorem find_none {ks : List (Bytes × α)} (h : ks.find? (fun (x : Bytes × α) => x.1.isEmpty) = none) : ∀ x ∈ ks, x.1 ≠ [] := fun x hx e => by
  have := List.find?_eq_none.mp h x hx
  rw [e] at this
  exact this rfl
theorem done_perm {ks ks' : List (List Nat × β)} (hp : ks'.Perm ks) (h : ∀ x ∈ ks, x.1 ≠ []) : done? ks' = none := by
  unfold done?
  rw [List.find?_eq_none]
  intro x hx
  have := h x (hp.mem_iff.mp hx)
  cases e : x.1 with
  | nil => exact absurd e this
  | cons d r => exact Bool.false_ne_true
theorem asks_ne {ks : List (Bytes × α)} (h : ∀ x ∈ ks, x.1 ≠ []) : ∀ y ∈ asks sfx word ks, y.1 ≠ [] := fun y hy => by
  obtain ⟨x, hx, e⟩ := List.mem_map.mp hy
  subst e
  intro z
  have z' : (x.1 ++ sfx x.2).map UInt8.toNat = [] := z
  exact h x hx (List.append_eq_nil_iff.mp (List.map_eq_nil_iff.mp z')).1
theorem munch_oneOf : ∀ (f : Nat) (ks : List (Bytes × α)) (ks' : List (List Nat × β)) (p : Nat) (b : Bytes), ks'.Perm (asks sfx word ks) → PF ks → (∀ x ∈ ks, x.1.length < f) →
    munch b ks' p = bindX (oneOf f ks p b) fun a q c => munch c [((sfx a).map UInt8.toNat, word a)] q
  | 0, ks, ks', p, b, hp, _, hl => by
    have e : ks = [] := by
      cases ks with
      | nil => rfl
      | cons x r => exact absurd (hl x List.mem_cons_self) (Nat.not_lt_zero _)
    subst e
    have e' : ks' = [] := List.perm_nil.mp hp
    subst e'
    cases b <;> rfl
  | f + 1, ks, ks', p, b, hp, hpf, hl => by
    rw [oneOf_succ]
    cases hf : ks.find? (fun (x : Bytes × α) => x.1.isEmpty) with
    | some x =>
      have hx := List.mem_of_find?_eq_some hf
      have he : x.1 = [] := by
        have := List.find?_some hf
        exact List.isEmpty_iff.mp this
      have e := pf_single he ks hpf hx
      subst e
      have e2 : ks' = asks sfx word [x] := List.perm_singleton.mp hp
      rw [e2]
      show munch b [((x.1 ++ sfx x.2).map UInt8.toNat, word x.2)] p = munch b [((sfx x.2).map UInt8.toNat, word x.2)] p
      rw [he]
      rfl
    | none =>
      have hne := find_none hf
      have hd : done? ks' = none := done_perm hp (asks_ne sfx word hne)
      cases b with
      | nil =>
        rw [munch, hd]
        rfl
      | cons c l =>
        have hs : (strip c.toNat ks').Perm (asks sfx word (stepW c ks)) := by
          rw [← strip_asks sfx word c ks hne]
          exact hp.filterMap _
        show munch (c :: l) ks' p = bindX (if (stepW c ks).isEmpty = true then .error p else oneOf f (stepW c ks) (p + 1) l) fun a q c => munch c [((sfx a).map UInt8.toNat, word a)] q
        rw [munch]
        by_cases he : (stepW c ks).isEmpty = true
        · have e0 : stepW c ks = [] := List.isEmpty_iff.mp he
          rw [e0] at hs
          have e1 : strip c.toNat ks' = [] := List.perm_nil.mp hs
          rw [if_pos he, e1, hd]
          rfl
        · have e1 : ¬ (strip c.toNat ks').isEmpty = true := fun z => by
            have z0 : strip c.toNat ks' = [] := List.isEmpty_iff.mp z
            rw [z0] at hs
            have z1 := List.perm_nil.mp hs.symm
            cases e2 : stepW c ks with
            | nil => exact he (by rw [e2]; rfl)
            | cons y r =>
              rw [e2] at z1
              cases z1
          rw [if_neg he, if_neg e1]
          exact munch_oneOf f _ _ _ _ hs (pf_step c ks hpf) fun y hy => by
            have := hl _ (mem_stepW hy)
            simp only [List.length_cons] at this
            omega
end
end AbM

set_option linter.all false
namespace AbM
open Na

abbrev wAdd : List Nat := [97, 100, 100, 32]
abbrev wTake : List Nat := [116, 97, 107, 101, 32]
abbrev wSet : List Nat := [115, 101, 116, 32]
abbrev wStop : List Nat := [115, 116, 111, 112, 10]
abbrev wFail : List Nat := [102, 97, 105, 108, 10]
abbrev wIf : List Nat := [105, 102, 32]
abbrev wWhile : List Nat := [119, 104, 105, 108, 101, 32]
abbrev wEnd : List Nat := [101, 110, 100, 10]
abbrev wElse : List Nat := [101, 108, 115, 101, 10]
abbrev wAt : List Nat := [32, 97, 116, 32]
abbrev wAnd : List Nat := [32, 97, 110, 100, 32]
abbrev wLf : List Nat := [10]
abbrev wCmps : List (List Nat) := [[61], [60], [62], [60, 61], [62, 61], [60, 62]]

/-- the words with which a line may begin, o being open -/
def lineWords (o : List Nat) : List (List Nat) :=
  ([wAdd, wTake, wSet, wStop, wFail] ++ (if o.length < 16 then [wIf, wWhile] else [])) ++ (if o.isEmpty = true then [] else wEnd :: (if o.head? = some 1 then [wElse] else []))
def sfx : Kw → Bytes
  | .halt_ => [10]
  | .fail => [10]
  | .else_ => [10]
  | .end_ => [10]
  | _ => []
def word : Kw → List Nat
  | .add => wAdd
  | .take => wTake
  | .set => wSet
  | .if_ => wIf
  | .else_ => wElse
  | .end_ => wEnd
  | .while_ => wWhile
  | .halt_ => wStop
  | .fail => wFail
def kBase : List (Bytes × Kw) := [(ascii "add ", .add), (ascii "take ", .take), (ascii "set ", .set), (ascii "stop", .halt_), (ascii "fail", .fail)]
def kIf : List (Bytes × Kw) := [(ascii "if ", .if_), (ascii "while ", .while_)]
def kElse : List (Bytes × Kw) := [(ascii "else", .else_)]
def kEnd : List (Bytes × Kw) := [(ascii "end", .end_)]
theorem words_eq (o : List Nat) : words_ o = kBase ++ ((if o.length < OPEN then kIf else []) ++ ((if o.head? = some 1 then kElse else []) ++ if o.isEmpty = true then [] else kEnd)) := rfl
theorem asks_append {α β : Type} (s : α → Bytes) (w : α → β) (a b : List (Bytes × α)) : asks s w (a ++ b) = asks s w a ++ asks s w b := List.map_append
def allW : List (Bytes × Kw) := kBase ++ (kIf ++ (kElse ++ kEnd))
theorem words_sub (o : List Nat) : (words_ o).Sublist allW := by
  rw [words_eq]
  refine (List.Sublist.refl _).append (List.Sublist.append ?_ (List.Sublist.append ?_ ?_))
  · split
    · exact List.Sublist.refl _
    · exact List.nil_sublist _
  · split
    · exact List.Sublist.refl _
    · exact List.nil_sublist _
  · split
    · exact List.nil_sublist _
    · exact List.Sublist.refl _
theorem allW_pf : PF allW := by
  have h : (allW.map (·.1)).Pairwise (fun x y => ¬ x <+: y ∧ ¬ y <+: x) := by decide +kernel
  exact List.pairwise_map.mp h
theorem words_pf (o : List Nat) : PF (words_ o) := List.Pairwise.sublist (words_sub o) allW_pf
theorem words_short (o : List Nat) : ∀ x ∈ words_ o, x.1.length < 8 := fun x hx => by
  have h : ∀ y ∈ allW.map (·.1), y.length < 8 := by decide +kernel
  exact h x.1 (List.mem_map.mpr ⟨x, (words_sub o).mem hx, rfl⟩)
theorem words_perm (o : List Nat) : (tag [] (lineWords o)).Perm (asks sfx word (words_ o)) := by
  rw [tag_nil, words_eq, asks_append, asks_append, asks_append]
  unfold lineWords
  rw [List.map_append, List.map_append, List.append_assoc]
  have e1 : ([wAdd, wTake, wSet, wStop, wFail] : List (List Nat)).map (fun w => (w, w)) = asks sfx word kBase := by decide +kernel
  have e2 : (if o.length < 16 then [wIf, wWhile] else []).map (fun w => (w, w)) = asks sfx word (if o.length < OPEN then kIf else []) := by
    show _ = asks sfx word (if o.length < 16 then kIf else [])
    split
    · decide +kernel
    · rfl
  rw [e1, e2]
  refine List.Perm.append_left _ (List.Perm.append_left _ ?_)
  cases o with
  | nil => exact List.Perm.refl _
  | cons k r =>
    have e3 : (if (k :: r).isEmpty = true then [] else wEnd :: (if (k :: r).head? = some 1 then [wElse] else [])) = wEnd :: (if some k = some 1 then [wElse] else []) := rfl
    have e4 : (if (k :: r).isEmpty = true then [] else kEnd) = kEnd := rfl
    rw [e3, e4]
    show List.Perm _ (asks sfx word (if some k = some 1 then kElse else []) ++ asks sfx word kEnd)
    by_cases h : some k = some 1
    · rw [if_pos h, if_pos h]
      have e5 : ([wEnd, wElse] : List (List Nat)).map (fun w => (w, w)) = asks sfx word kEnd ++ asks sfx word kElse := by decide +kernel
      rw [e5]
      exact List.perm_append_comm
    · rw [if_neg h, if_neg h]
      have e5 : ([wEnd] : List (List Nat)).map (fun w => (w, w)) = asks sfx word kEnd := by decide +kernel
      rw [e5]
      exact List.Perm.refl _

/-! ## Lines -/
theorem bindX_error {α γ : Type} (k : Nat) (g : α → Nat → Bytes → Except Nat γ) : bindX (.error k) g = .error k := rfl
theorem bindX_ok {α γ : Type} (a : α) (q : Nat) (c : Bytes) (g : α → Nat → Bytes → Except Nat γ) : bindX (.ok (a, q, c)) g = g a q c := rfl
theorem bindX_assoc {α β γ : Type} (x : Except Nat (α × (Nat × Bytes))) (g : α → Nat → Bytes → Except Nat (β × (Nat × Bytes))) (h : β → Nat → Bytes → Except Nat γ) : bindX (bindX x g) h = bindX x fun a q c => bindX (g a q c) h := by
  cases x with
  | error k => rfl
  | ok z => rfl
theorem bindX_congr {α γ : Type} {x : Except Nat (α × (Nat × Bytes))} {g h : α → Nat → Bytes → Except Nat γ} (e : ∀ a q c, x = .ok (a, q, c) → g a q c = h a q c) : bindX x g = bindX x h := by
  cases x with
  | error k => rfl
  | ok z => exact e z.1 z.2.1 z.2.2 rfl
theorem bind_eq {α γ : Type} (x : Except Nat (α × (Nat × Bytes))) (g : (α × (Nat × Bytes)) → Except Nat γ) : (x >>= g) = bindX x fun a q c => g (a, q, c) := by
  cases x with
  | error k => rfl
  | ok z => rfl
abbrev lf (p : Nat) (b : Bytes) : Except Nat (Unit × (Nat × Bytes)) := expect [10] p b
def headP (p : Nat) (b : Bytes) : Except Nat (Unit × (Nat × Bytes)) := bindX (headAt p b) fun _ q c => .ok ((), q, c)
/-- add, take: behind the word -/
def atM (o : List Nat) (q : Nat) (c : Bytes) : Except Nat (List Nat × (Nat × Bytes)) :=
  bindX (exHere q c) fun _ q c => bindX (expect (ascii " at ") q c) fun _ q c => bindX (exHere q c) fun _ q c => bindX (lf q c) fun _ q c => .ok (o, q, c)
def setM (o : List Nat) (q : Nat) (c : Bytes) : Except Nat (List Nat × (Nat × Bytes)) :=
  bindX (headAt q c) fun _ q c => bindX (expect [32] q c) fun _ q c => bindX (exHere q c) fun _ q c => bindX (lf q c) fun _ q c => .ok (o, q, c)
/-- tests with the LF behind them -/
def tstF (f p : Nat) (b : Bytes) : Except Nat (Unit × (Nat × Bytes)) := bindX (testsAt f p b) fun _ q c => lf q c
def tstM (p : Nat) (b : Bytes) : Except Nat (Unit × (Nat × Bytes)) := tstF (b.length + 1) p b
/-- a line with its LF: what is open behind it -/
def lineP (o : List Nat) (p : Nat) (b : Bytes) : Except Nat (List Nat × (Nat × Bytes)) := bindX (lineAt o p b) fun x q c => bindX (lf q c) fun _ q c => .ok (openBehind o x, q, c)
/-- behind the word -/
def contW (o : List Nat) (w : List Nat) (q : Nat) (c : Bytes) : Except Nat (List Nat × (Nat × Bytes)) :=
  if w = wAdd ∨ w = wTake then atM o q c
  else if w = wSet then setM o q c
  else if w = wIf ∨ w = wWhile then bindX (tstM q c) fun _ q c => .ok ((if w = wIf then 1 else 0) :: o, q, c)
  else if w = wElse then .ok (2 :: o.drop 1, q, c)
  else if w = wEnd then .ok (o.drop 1, q, c)
  else .ok (o, q, c)
theorem lineP_eq (o : List Nat) (p : Nat) (b : Bytes) : lineP o p b = bindX (munch b (tag [] (lineWords o)) p) (contW o) := by
  rw [munch_oneOf sfx word 8 (words_ o) _ p b (words_perm o) (words_pf o) (words_short o), bindX_assoc]
  have e0 : lineP o p b = bindX (oneOf 8 (words_ o) p b) fun a q c => bindX (munch c [((sfx a).map UInt8.toNat, word a)] q) (contW o) := by
    unfold lineP lineAt
    rw [bind_eq, bindX_assoc]
    refine bindX_congr fun a q c _ => ?_
    rw [munch_one, bindX_assoc]
    cases a with
    | add =>
      show bindX (exHere q c >>= _) _ = atM o q c
      simp only [bind_eq, bindX_assoc]
      rfl
    | take =>
      show bindX (exHere q c >>= _) _ = atM o q c
      simp only [bind_eq, bindX_assoc]
      rfl
    | set =>
      show bindX (headAt q c >>= _) _ = setM o q c
      simp only [bind_eq, bindX_assoc]
      rfl
    | if_ =>
      show bindX (testsAt _ q c >>= _) _ = bindX (tstM q c) _
      unfold tstM tstF
      simp only [bind_eq, bindX_assoc]
      rfl
    | while_ =>
      show bindX (testsAt _ q c >>= _) _ = bindX (tstM q c) _
      unfold tstM tstF
      simp only [bind_eq, bindX_assoc]
      rfl
    | else_ => rfl
    | end_ => rfl
    | halt_ => rfl
    | fail => rfl
  exact e0
/-- tests: one, then what stands behind it -/
def tst1 (p : Nat) (b : Bytes) : Except Nat (Unit × (Nat × Bytes)) := bindX (exHere p b) fun _ q c => bindX (cmpAt q c) fun _ q c => bindX (exHere q c) fun _ q c => .ok ((), q, c)
theorem testAt_eq (p : Nat) (b : Bytes) {γ : Type} (g : Test → Nat → Bytes → Except Nat γ) (g' : Unit → Nat → Bytes → Except Nat γ) (h : ∀ t q c, g t q c = g' () q c) : bindX (testAt p b) g = bindX (tst1 p b) g' := by
  unfold testAt tst1
  simp only [bind_eq, bindX_assoc]
  refine bindX_congr fun _ q c _ => bindX_congr fun _ q c _ => bindX_congr fun _ q c _ => ?_
  exact h _ q c
theorem tstF_succ (f p : Nat) (b : Bytes) : tstF (f + 1) p b = bindX (tst1 p b) fun _ q c => if c.head? = some 32 then bindX (expect (ascii " and ") q c) fun _ q c => tstF f q c else lf q c := by
  unfold tstF
  rw [testsAt, bind_eq, bindX_assoc]
  refine testAt_eq p b _ _ fun t q c => ?_
  by_cases h : c.head? = some 32
  · rw [if_pos h]
    simp only [h, if_true, bind_eq, bindX_assoc]
    rfl
  · rw [if_neg h]
    simp only [h, if_false]
    rfl
theorem munch_behind (q : Nat) (c : Bytes) : munch c (tag [] [wAnd, wLf]) q = if c.head? = some 32 then bindX (expect (ascii " and ") q c) fun _ q c => .ok (wAnd, q, c) else bindX (lf q c) fun _ q c => .ok (wLf, q, c) := by
  cases c with
  | nil => rfl
  | cons d l =>
    rw [munch, tag_strip]
    by_cases h : d = 32
    · subst h
      have hh : (32 :: l : Bytes).head? = some 32 := rfl
      rw [if_pos hh]
      have e : tag ([] ++ [(32 : UInt8).toNat]) [wAnd, wLf] = [(([97, 110, 100, 32] : Bytes).map UInt8.toNat, wAnd)] := by decide +kernel
      rw [e, munch_one]
      rfl
    · have h1 : ¬ (d :: l).head? = some 32 := fun z => h (Option.some.inj z)
      rw [if_neg h1]
      by_cases h2 : d = 10
      · subst h2
        have e : tag ([] ++ [(10 : UInt8).toNat]) [wAnd, wLf] = [(([] : Bytes).map UInt8.toNat, wLf)] := by decide +kernel
        rw [e, munch_one]
        rfl
      · have n1 : ¬ d.toNat = 32 := fun z => h (UInt8.toNat_inj.mp z)
        have n2 : ¬ d.toNat = 10 := fun z => h2 (UInt8.toNat_inj.mp z)
        have e : tag ([] ++ [d.toNat]) [wAnd, wLf] = [] := by
          rw [← tag_strip, tag_nil]
          simp [strip, n1, n2]
        have e2 : lf q (d :: l) = .error q := by
          show (if (10 : UInt8) = d then _ else _) = _
          rw [if_neg (fun z => h2 z.symm)]
        rw [e, e2]
        rfl
theorem munch_end {β : Type} (w : β) (b : Bytes) (p : Nat) : munch b [([], w)] p = .ok (w, p, b) := by
  have := munch_one w [] b p
  exact this
theorem munch_cmp (q : Nat) (c : Bytes) : (∀ k, cmpAt q c = .error k → munch c (tag [] wCmps) q = .error k) ∧ ∀ x q' c', cmpAt q c = .ok (x, q', c') → c'.length < c.length ∧ ∃ w, munch c (tag [] wCmps) q = .ok (w, q', c') := by
  cases c with
  | nil => exact ⟨fun k h => (by cases h; rfl), fun x q' c' h => nomatch h⟩
  | cons d l =>
    have step : munch (d :: l) (tag [] wCmps) q = if (tag ([] ++ [d.toNat]) wCmps).isEmpty = true then ends (done? (tag [] wCmps)) q (d :: l) else munch l (tag ([] ++ [d.toNat]) wCmps) (q + 1) := by
      rw [munch, tag_strip]
    by_cases h1 : d = 61
    · subst h1
      have e : tag ([] ++ [(61 : UInt8).toNat]) wCmps = [([], [61])] := by decide +kernel
      rw [step, e]
      have e2 : cmpAt q (61 :: l) = .ok (.eq, q + 1, l) := rfl
      rw [e2]
      refine ⟨fun k h => (by cases h), fun x q' c' h => ?_⟩
      cases h
      exact ⟨Nat.lt_succ_self _, _, munch_end _ _ _⟩
    · by_cases h2 : d = 60
      · subst h2
        have e : tag ([] ++ [(60 : UInt8).toNat]) wCmps = [([], [60]), ([61], [60, 61]), ([62], [60, 62])] := by decide +kernel
        rw [step, e]
        show (∀ k, cmpAt q (60 :: l) = .error k → munch l [([], [60]), ([61], [60, 61]), ([62], [60, 62])] (q + 1) = .error k) ∧ ∀ x q' c', cmpAt q (60 :: l) = .ok (x, q', c') → c'.length < (60 :: l).length ∧ ∃ w, munch l [([], [60]), ([61], [60, 61]), ([62], [60, 62])] (q + 1) = .ok (w, q', c')
        cases l with
        | nil =>
          have e2 : cmpAt q [60] = .ok (.lt, q + 1, []) := rfl
          rw [e2]
          refine ⟨fun k h => (by cases h), fun x q' c' h => ?_⟩
          cases h
          exact ⟨Nat.lt_succ_self _, _, rfl⟩
        | cons f r =>
          by_cases g1 : f = 61
          · subst g1
            have e2 : cmpAt q (60 :: 61 :: r) = .ok (.le, q + 2, r) := rfl
            rw [e2]
            refine ⟨fun k h => (by cases h), fun x q' c' h => ?_⟩
            cases h
            exact ⟨by simp only [List.length_cons]; omega, [60, 61], munch_end _ _ _⟩
          · by_cases g2 : f = 62
            · subst g2
              have e2 : cmpAt q (60 :: 62 :: r) = .ok (.ne, q + 2, r) := rfl
              rw [e2]
              refine ⟨fun k h => (by cases h), fun x q' c' h => ?_⟩
              cases h
              exact ⟨by simp only [List.length_cons]; omega, [60, 62], munch_end _ _ _⟩
            · have e2 : cmpAt q (60 :: f :: r) = .ok (.lt, q + 1, f :: r) := by
                unfold cmpAt
                split
                · rename_i hh; cases (List.cons.inj hh).1
                · rename_i hh; exact absurd (List.cons.inj (List.cons.inj hh).2).1 g1
                · rename_i hh; exact absurd (List.cons.inj (List.cons.inj hh).2).1 g2
                · rename_i hh; cases (List.cons.inj hh).2; rfl
                · rename_i hh; cases (List.cons.inj hh).1
                · rename_i hh; cases (List.cons.inj hh).1
                · rename_i hh _ _; exact absurd rfl (hh (f :: r))
              have n1 : ¬ f.toNat = 61 := fun z => g1 (UInt8.toNat_inj.mp z)
              have n2 : ¬ f.toNat = 62 := fun z => g2 (UInt8.toNat_inj.mp z)
              have e3 : munch (f :: r) [([], [60]), ([61], [60, 61]), ([62], [60, 62])] (q + 1) = .ok ([60], q + 1, f :: r) := by
                rw [munch, if_pos (by simp [strip, n1, n2])]
                rfl
              rw [e2, e3]
              refine ⟨fun k h => (by cases h), fun x q' c' h => ?_⟩
              cases h
              exact ⟨Nat.lt_succ_self _, _, rfl⟩
      · by_cases h3 : d = 62
        · subst h3
          have e : tag ([] ++ [(62 : UInt8).toNat]) wCmps = [([], [62]), ([61], [62, 61])] := by decide +kernel
          rw [step, e]
          show (∀ k, cmpAt q (62 :: l) = .error k → munch l [([], [62]), ([61], [62, 61])] (q + 1) = .error k) ∧ ∀ x q' c', cmpAt q (62 :: l) = .ok (x, q', c') → c'.length < (62 :: l).length ∧ ∃ w, munch l [([], [62]), ([61], [62, 61])] (q + 1) = .ok (w, q', c')
          cases l with
          | nil =>
            have e2 : cmpAt q [62] = .ok (.gt, q + 1, []) := rfl
            rw [e2]
            refine ⟨fun k h => (by cases h), fun x q' c' h => ?_⟩
            cases h
            exact ⟨Nat.lt_succ_self _, _, rfl⟩
          | cons f r =>
            by_cases g1 : f = 61
            · subst g1
              have e2 : cmpAt q (62 :: 61 :: r) = .ok (.ge, q + 2, r) := rfl
              rw [e2]
              refine ⟨fun k h => (by cases h), fun x q' c' h => ?_⟩
              cases h
              exact ⟨by simp only [List.length_cons]; omega, [62, 61], munch_end _ _ _⟩
            · have e2 : cmpAt q (62 :: f :: r) = .ok (.gt, q + 1, f :: r) := by
                unfold cmpAt
                split
                · rename_i hh; cases (List.cons.inj hh).1
                · rename_i hh; cases (List.cons.inj hh).1
                · rename_i hh; cases (List.cons.inj hh).1
                · rename_i hh; cases (List.cons.inj hh).1
                · rename_i hh; exact absurd (List.cons.inj (List.cons.inj hh).2).1 g1
                · rename_i hh; cases (List.cons.inj hh).2; rfl
                · rename_i hh; exact absurd rfl (hh (f :: r))
              have n1 : ¬ f.toNat = 61 := fun z => g1 (UInt8.toNat_inj.mp z)
              have e3 : munch (f :: r) [([], [62]), ([61], [62, 61])] (q + 1) = .ok ([62], q + 1, f :: r) := by
                rw [munch, if_pos (by simp [strip, n1])]
                rfl
              rw [e2, e3]
              refine ⟨fun k h => (by cases h), fun x q' c' h => ?_⟩
              cases h
              exact ⟨Nat.lt_succ_self _, _, rfl⟩
        · have e2 : cmpAt q (d :: l) = .error q := by
            unfold cmpAt
            split
            · rename_i hh; exact absurd (List.cons.inj hh).1 h1
            · rename_i hh; exact absurd (List.cons.inj hh).1 h2
            · rename_i hh; exact absurd (List.cons.inj hh).1 h2
            · rename_i hh; exact absurd (List.cons.inj hh).1 h2
            · rename_i hh; exact absurd (List.cons.inj hh).1 h3
            · rename_i hh; exact absurd (List.cons.inj hh).1 h3
            · rfl
          have n1 : ¬ d.toNat = 61 := fun z => h1 (UInt8.toNat_inj.mp z)
          have n2 : ¬ d.toNat = 60 := fun z => h2 (UInt8.toNat_inj.mp z)
          have n3 : ¬ d.toNat = 62 := fun z => h3 (UInt8.toNat_inj.mp z)
          have e3 : munch (d :: l) (tag [] wCmps) q = .error q := by
            rw [munch, if_pos (by rw [tag_nil]; simp [strip, n1, n2, n3])]
            rfl
          rw [e2, e3]
          exact ⟨fun k h => (by cases h; rfl), fun x q' c' h => nomatch h⟩

/-! ## Lengths, lines one behind another -/
theorem bindX_inv {α γ : Type} {x : Except Nat (α × (Nat × Bytes))} {g : α → Nat → Bytes → Except Nat γ} {r : γ} (h : bindX x g = .ok r) : ∃ a q c, x = .ok (a, q, c) ∧ g a q c = .ok r := by
  cases x with
  | error k => cases h
  | ok z => exact ⟨z.1, z.2.1, z.2.2, rfl, h⟩
theorem head_len {q : Nat} {c : Bytes} {k : Nat} {q' : Nat} {c' : Bytes} (h : headAt q c = .ok (k, q', c')) : c'.length < c.length := by
  cases c with
  | nil => cases h
  | cons d l =>
    have h' : (if 97 ≤ d.toNat ∧ d.toNat ≤ 104 then Except.ok (d.toNat - 97, q + 1, l) else .error q) = Except.ok (k, q', c') := h
    by_cases e : 97 ≤ d.toNat ∧ d.toNat ≤ 104
    · rw [if_pos e] at h'
      cases h'
      exact Nat.lt_succ_self _
    · rw [if_neg e] at h'
      cases h'
theorem tst1_len {p : Nat} {b : Bytes} {u : Unit} {q : Nat} {c : Bytes} (h : tst1 p b = .ok (u, q, c)) : c.length < b.length := by
  obtain ⟨a, q1, c1, h1, h⟩ := bindX_inv h
  obtain ⟨a2, q2, c2, h2, h⟩ := bindX_inv h
  obtain ⟨a3, q3, c3, h3, h⟩ := bindX_inv h
  have l1 := (ex_len h1).1
  have l2 := ((munch_cmp q1 c1).2 _ _ _ h2).1
  have l3 := (ex_len h3).1
  cases h
  omega
theorem tstF_len : ∀ (f p : Nat) (b : Bytes) (u : Unit) (q : Nat) (c : Bytes), tstF f p b = .ok (u, q, c) → c.length < b.length
  | 0, p, b, u, q, c, h => by cases h
  | f + 1, p, b, u, q, c, h => by
    rw [tstF_succ] at h
    obtain ⟨a, q1, c1, h1, h⟩ := bindX_inv h
    have l1 := tst1_len h1
    by_cases e : c1.head? = some 32
    · rw [if_pos e] at h
      obtain ⟨a2, q2, c2, h2, h⟩ := bindX_inv h
      have l2 := expect_len _ _ _ _ _ _ h2
      have l3 := tstF_len f _ _ _ _ _ h
      omega
    · rw [if_neg e] at h
      have l2 := expect_len _ _ _ _ _ _ h
      omega
theorem contW_len {o w : List Nat} {q : Nat} {c : Bytes} {o' : List Nat} {q' : Nat} {c' : Bytes} (h : contW o w q c = .ok (o', q', c')) : c'.length ≤ c.length := by
  unfold contW at h
  by_cases e1 : w = wAdd ∨ w = wTake
  · rw [if_pos e1] at h
    obtain ⟨a, q1, c1, h1, h⟩ := bindX_inv h
    obtain ⟨a2, q2, c2, h2, h⟩ := bindX_inv h
    obtain ⟨a3, q3, c3, h3, h⟩ := bindX_inv h
    obtain ⟨a4, q4, c4, h4, h⟩ := bindX_inv h
    have l1 := (ex_len h1).1
    have l2 := expect_len _ _ _ _ _ _ h2
    have l3 := (ex_len h3).1
    have l4 := expect_len _ _ _ _ _ _ h4
    cases h
    omega
  · rw [if_neg e1] at h
    by_cases e2 : w = wSet
    · rw [if_pos e2] at h
      obtain ⟨a, q1, c1, h1, h⟩ := bindX_inv h
      obtain ⟨a2, q2, c2, h2, h⟩ := bindX_inv h
      obtain ⟨a3, q3, c3, h3, h⟩ := bindX_inv h
      obtain ⟨a4, q4, c4, h4, h⟩ := bindX_inv h
      have l1 := head_len h1
      have l2 := expect_len _ _ _ _ _ _ h2
      have l3 := (ex_len h3).1
      have l4 := expect_len _ _ _ _ _ _ h4
      cases h
      omega
    · rw [if_neg e2] at h
      by_cases e3 : w = wIf ∨ w = wWhile
      · rw [if_pos e3] at h
        obtain ⟨a, q1, c1, h1, h⟩ := bindX_inv h
        have l1 := tstF_len _ _ _ _ _ _ h1
        cases h
        omega
      · rw [if_neg e3] at h
        by_cases e4 : w = wElse
        · rw [if_pos e4] at h
          cases h
          exact Nat.le_refl _
        · rw [if_neg e4] at h
          by_cases e5 : w = wEnd
          · rw [if_pos e5] at h
            cases h
            exact Nat.le_refl _
          · rw [if_neg e5] at h
            cases h
            exact Nat.le_refl _
theorem words_done (o : List Nat) : done? (tag [] (lineWords o)) = none := by
  refine done_perm (words_perm o) (asks_ne sfx word fun x hx e => ?_)
  have h : ∀ y ∈ allW.map (·.1), y ≠ [] := by decide +kernel
  exact h x.1 (List.mem_map.mpr ⟨x, (words_sub o).mem hx, rfl⟩) e
theorem lineP_len {o : List Nat} {p : Nat} {b : Bytes} {o' : List Nat} {q : Nat} {c : Bytes} (h : lineP o p b = .ok (o', q, c)) : c.length < b.length := by
  rw [lineP_eq] at h
  obtain ⟨w, q1, c1, h1, h⟩ := bindX_inv h
  have l1 := (munch_len _ _ _ _ _ _ h1).2 (words_done o)
  have l2 := contW_len h
  omega
theorem lineP_nil (o : List Nat) (p : Nat) : lineP o p [] = .error p := by
  rw [lineP_eq, munch, words_done]
  rfl
/-- how many lines -/
def cnt (f : Nat) (o : List Nat) (p : Nat) (b : Bytes) : Except Nat Nat := match linesAt f o p b with
  | .error k => .error k
  | .ok l => .ok l.length
def plus1 (x : Except Nat Nat) : Except Nat Nat := match x with
  | .error k => .error k
  | .ok n => .ok (n + 1)
theorem cnt_end (f : Nat) (p : Nat) : cnt (f + 1) [] p [] = .ok 0 := rfl
theorem cnt_step (f : Nat) (o : List Nat) (p : Nat) (b : Bytes) (h : ¬ (b = [] ∧ o = [])) : cnt (f + 1) o p b = bindX (lineP o p b) fun o' q c => plus1 (cnt f o' q c) := by
  cases b with
  | nil =>
    rw [lineP_nil]
    have ho : ¬ o.isEmpty = true := fun z => h ⟨rfl, List.isEmpty_iff.mp z⟩
    have e : linesAt (f + 1) o p [] = .error p := by
      show (if o.isEmpty = true then _ else _) = _
      rw [if_neg ho]
    unfold cnt
    rw [e]
    rfl
  | cons d l =>
    have e : linesAt (f + 1) o p (d :: l) = bindX (lineAt o p (d :: l)) fun x q c => bindX (lf q c) fun _ q c => match linesAt f (openBehind o x) q c with
      | .error k => .error k
      | .ok r => .ok (x :: r) := by
      show (if (d :: l).isEmpty = true then _ else (lineAt o p (d :: l) >>= _)) = _
      rw [if_neg (show ¬ (d :: l).isEmpty = true from Bool.false_ne_true), bind_eq]
      refine bindX_congr fun x q c _ => ?_
      rw [bind_eq]
      refine bindX_congr fun _ q c _ => ?_
      show (linesAt f (openBehind o x) q c >>= _) = _
      cases linesAt f (openBehind o x) q c <;> rfl
    unfold cnt lineP
    rw [e]
    cases lineAt o p (d :: l) with
    | error k => rfl
    | ok z =>
      obtain ⟨x, q, c⟩ := z
      dsimp only [bindX_ok]
      cases lf q c with
      | error k => rfl
      | ok z =>
        obtain ⟨u, q, c⟩ := z
        dsimp only [bindX_ok]
        cases linesAt f (openBehind o x) q c <;> rfl
/-- the whole text -/
def whole (t : Bytes) : Except Nat Nat := cnt (t.length + 1) [] 0 t
theorem read_whole (t : Bytes) : (match readMethod t with | .error k => Except.error k | .ok l => Except.ok l.length) = whole t := rfl
/-- what the specification answers -/
def answer (t : Bytes) : List Int := if 4096 < t.length then [-6] else match whole t with
  | .error k => [-5, 11, (k : Int)]
  | .ok n => [(n : Int)]
def asInts (t : Bytes) : List Int := t.map fun c => ((c.toNat : Nat) : Int)
theorem ints_of {ns : List Int} (h : ∀ x ∈ ns, 0 ≤ x ∧ x ≤ 255) : asInts (ns.map fun n => UInt8.ofNat n.toNat) = ns := by
  unfold asInts
  rw [List.map_map]
  have : ∀ l : List Int, (∀ x ∈ l, 0 ≤ x ∧ x ≤ 255) → l.map ((fun c : UInt8 => ((c.toNat : Nat) : Int)) ∘ fun n => UInt8.ofNat n.toNat) = l := by
    intro l
    induction l with
    | nil => intro _; rfl
    | cons x r ih =>
      intro h
      rw [List.map_cons, ih fun y hy => h y (List.mem_cons_of_mem _ hy)]
      obtain ⟨h1, h2⟩ := h x List.mem_cons_self
      have e : (((UInt8.ofNat x.toNat).toNat : Nat) : Int) = x := by
        rw [UInt8.toNat_ofNat']
        have : x.toNat < 256 := by omega
        rw [Nat.mod_eq_of_lt (by simpa using this)]
        omega
      show (((UInt8.ofNat x.toNat).toNat : Nat) : Int) :: r = x :: r
      rw [e]
  exact this ns h
theorem spec_eq {ns : List Int} (h : ∀ x ∈ ns, 0 ≤ x ∧ x ≤ 255) : PyYqacda.method ns = answer (ns.map fun n => UInt8.ofNat n.toNat) := by
  have hb : NeutralIO.bytes ns = true := List.all_eq_true.mpr fun x hx => by
    obtain ⟨h1, h2⟩ := h x hx
    rw [decide_eq_true h1, decide_eq_true h2]
    rfl
  have e : MvNeutral.callOf [[1], ns] = some (.method (ns.map fun n => UInt8.ofNat n.toNat)) := by
    show (MvNeutral.bytesOf ns).map _ = _
    unfold MvNeutral.bytesOf
    rw [if_pos hb]
    rfl
  unfold PyYqacda.method MvNeutral.step
  rw [e]
  generalize (ns.map fun n => UInt8.ofNat n.toNat) = t
  show MvNeutral.told (if Mv.LONGEST < t.length then .refused 6 else Mv.withMethod t fun p => .number p.length) = answer t
  unfold answer
  by_cases h4 : 4096 < t.length
  · rw [if_pos h4, if_pos (show Mv.LONGEST < t.length from h4)]
    rfl
  · rw [if_neg h4, if_neg (show ¬ Mv.LONGEST < t.length from h4), ← read_whole]
    unfold Mv.withMethod
    cases readMethod t <;> rfl
end AbM

set_option linter.all false
namespace AbM
open Na
def digs : Nat → Nat → Bytes → Nat × Bytes
  | 0, p, b => (p, b)
  | n + 1, p, c :: l => if isDigit c = true then digs n (p + 1) l else (p, c :: l)
  | n + 1, p, [] => (p, [])
theorem digs_stop {n p : Nat} {b : Bytes} (h : n = 0 ∨ ∀ c l, b = c :: l → isDigit c = false) : digs n p b = (p, b) := by
  cases n with
  | zero => rfl
  | succ n =>
    cases b with
    | nil => rfl
    | cons c l =>
      have hc : ¬ isDigit c = true := by
        rcases h with h | h
        · cases h
        · rw [h c l rfl]
          exact Bool.false_ne_true
      show (if isDigit c = true then _ else _) = _
      rw [if_neg hc]
theorem digs_go {n p : Nat} {c : UInt8} {l : Bytes} (h : isDigit c = true) : digs (n + 1) p (c :: l) = digs n (p + 1) l := if_pos h
theorem scan_digs : ∀ (n p : Nat) (b : Bytes) (cs : List UInt8), scan b (.d n) cs p = aft cs (digs n p b).1 (digs n p b).2
  | 0, p, b, cs => rfl
  | n + 1, p, [], cs => rfl
  | n + 1, p, c :: l, cs => by
    by_cases h : isDigit c = true
    · rw [digs_go h, ← scan_digs n (p + 1) l cs]
      show (if isDigit c = true ∧ 0 < n + 1 then _ else _) = _
      rw [if_pos ⟨h, Nat.succ_pos n⟩]
      rfl
    · have e : digs (n + 1) p (c :: l) = (p, c :: l) := if_neg h
      rw [e]
      show (if isDigit c = true ∧ 0 < n + 1 then _ else _) = (if isDigit c = true ∧ 0 < 0 then _ else _)
      rw [if_neg (fun x : isDigit c = true ∧ 0 < n + 1 => h x.1), if_neg (fun x : isDigit c = true ∧ 0 < 0 => h x.1)]
def numM (p : Nat) : Bytes → Except Nat (Unit × (Nat × Bytes))
  | [] => .error p
  | c :: l => if c = 48 then .ok ((), p + 1, l) else if isDigit c = true then .ok ((), digs 3 (p + 1) l) else if isLet c = true then .ok ((), p + 1, l) else .error p
theorem numM_cons (p : Nat) (c : UInt8) (l : Bytes) : numM p (c :: l) = if c = 48 then .ok ((), p + 1, l) else if isDigit c = true then .ok ((), digs 3 (p + 1) l) else if isLet c = true then .ok ((), p + 1, l) else .error p := rfl
theorem br_not {c : UInt8} (h : isBr c = true) : c ≠ 48 ∧ isDigit c = false ∧ isLet c = false := by
  unfold isBr at h
  rcases (Bool.or_eq_true _ _).mp h with e | e <;> (rw [beq_iff_eq] at e; subst e; decide)
theorem scan_num {p : Nat} {b : Bytes} {cs : List UInt8} (h : cs.length < 16 → ∀ c l, b = c :: l → isBr c = false) : scan b .f cs p = bindX (numM p b) fun _ q c => aft cs q c := by
  cases b with
  | nil => rfl
  | cons c l =>
    have sc : scan (c :: l) .f cs p = if isBr c = true then (if cs.length < 16 then scan l .f (closer c :: cs) (p + 1) else .error p)
      else if c = 48 then scan l (.d 0) cs (p + 1)
      else if isDigit c = true then scan l (.d 3) cs (p + 1)
      else if isLet c = true then scan l (.d 0) cs (p + 1)
      else .error p := rfl
    rw [sc]
    by_cases hb : isBr c = true
    · have hl : ¬ cs.length < 16 := fun z => by
        rw [h z c l rfl] at hb
        cases hb
      obtain ⟨b1, b2, b3⟩ := br_not hb
      rw [if_pos hb, if_neg hl]
      rw [numM_cons]
      rw [if_neg b1, if_neg (by rw [b2]; exact Bool.false_ne_true), if_neg (by rw [b3]; exact Bool.false_ne_true)]
      rfl
    · rw [if_neg hb]
      rw [numM_cons]
      by_cases h1 : c = 48
      · rw [if_pos h1, if_pos h1]
        rfl
      · rw [if_neg h1, if_neg h1]
        by_cases h2 : isDigit c = true
        · rw [if_pos h2, if_pos h2]
          exact scan_digs 3 (p + 1) l cs
        · rw [if_neg h2, if_neg h2]
          by_cases h3 : isLet c = true
          · rw [if_pos h3, if_pos h3]
            rfl
          · rw [if_neg h3, if_neg h3]
            rfl
theorem scan_open {p : Nat} {c : UInt8} {l : Bytes} {cs : List UInt8} (h : isBr c = true) (hl : cs.length < 16) : scan (c :: l) .f cs p = scan l .f (closer c :: cs) (p + 1) := by
  show (if isBr c = true then (if cs.length < 16 then _ else _) else _) = _
  rw [if_pos h, if_pos hl]
theorem aft_shut {p : Nat} {k : UInt8} {l : Bytes} {r : List UInt8} : aft (k :: r) p (k :: l) = aft r (p + 1) l := by
  have hd : ¬ (isDigit k = true ∧ 0 < 0) := fun x => absurd x.2 (Nat.lt_irrefl _)
  show (if isDigit k = true ∧ 0 < 0 then _ else if k = k then _ else _) = _
  rw [if_neg hd, if_pos rfl]
theorem aft_stuck {p : Nat} {b : Bytes} {k : UInt8} {r : List UInt8} (h : ∀ c l, b = c :: l → c ≠ k ∧ isOp c = false) : aft (k :: r) p b = .error p := by
  cases b with
  | nil => rfl
  | cons c l =>
    obtain ⟨h1, h2⟩ := h c l rfl
    have hd : ¬ (isDigit c = true ∧ 0 < 0) := fun x => absurd x.2 (Nat.lt_irrefl _)
    show (if isDigit c = true ∧ 0 < 0 then _ else if c = k then _ else if isOp c = true then _ else _) = _
    rw [if_neg hd, if_neg h1, if_neg (by rw [h2]; exact Bool.false_ne_true)]
theorem aft_out {p : Nat} {b : Bytes} (h : ∀ c l, b = c :: l → isOp c = false) : aft [] p b = .ok (p, b) := by
  cases b with
  | nil => rfl
  | cons c l =>
    have h2 := h c l rfl
    have hd : ¬ (isDigit c = true ∧ 0 < 0) := fun x => absurd x.2 (Nat.lt_irrefl _)
    show (if isDigit c = true ∧ 0 < 0 then _ else if isOp c = true then _ else _) = _
    rw [if_neg hd, if_neg (by rw [h2]; exact Bool.false_ne_true)]
theorem ex_of_error {p k : Nat} {b : Bytes} (h : scan b .f [] p = .error k) : exHere p b = .error k := by
  cases e : exHere p b with
  | error j =>
    rw [scan_error e] at h
    cases h
    rfl
  | ok z =>
    obtain ⟨x, q, c⟩ := z
    rw [scan_ok e] at h
    cases h
theorem ex_of_ok {p q : Nat} {b c : Bytes} (h : scan b .f [] p = .ok (q, c)) : ∃ x, exHere p b = .ok (x, q, c) := by
  cases e : exHere p b with
  | error j =>
    rw [scan_error e] at h
    cases h
  | ok z =>
    obtain ⟨x, q', c'⟩ := z
    rw [scan_ok e] at h
    cases h
    exact ⟨x, rfl⟩
theorem isOp_iff (c : UInt8) : isOp c = true ↔ c.toNat ∈ [43, 45, 42] := by
  have h1 : c = 43 ↔ c.toNat = 43 := ⟨fun z => by rw [z]; rfl, fun z => UInt8.toNat_inj.mp z⟩
  have h2 : c = 45 ↔ c.toNat = 45 := ⟨fun z => by rw [z]; rfl, fun z => UInt8.toNat_inj.mp z⟩
  have h3 : c = 42 ↔ c.toNat = 42 := ⟨fun z => by rw [z]; rfl, fun z => UInt8.toNat_inj.mp z⟩
  unfold isOp
  simp only [Bool.or_eq_true, beq_iff_eq, List.mem_cons, List.not_mem_nil, or_false, h1, h2, h3]
theorem isBr_iff (c : UInt8) : isBr c = true ↔ c.toNat ∈ [91, 40] := by
  have h1 : c = 91 ↔ c.toNat = 91 := ⟨fun z => by rw [z]; rfl, fun z => UInt8.toNat_inj.mp z⟩
  have h2 : c = 40 ↔ c.toNat = 40 := ⟨fun z => by rw [z]; rfl, fun z => UInt8.toNat_inj.mp z⟩
  unfold isBr
  simp only [Bool.or_eq_true, beq_iff_eq, List.mem_cons, List.not_mem_nil, or_false, h1, h2]
abbrev nDig : List Nat := [48, 49, 50, 51, 52, 53, 54, 55, 56, 57]
abbrev nHead : List Nat := [97, 98, 99, 100, 101, 102, 103, 104]
abbrev nMark : List Nat := [65, 66, 67, 68, 69, 70, 71, 72]
theorem isDigit_iff (c : UInt8) : isDigit c = true ↔ c.toNat ∈ nDig := by
  unfold isDigit
  simp only [Bool.and_eq_true, decide_eq_true_eq, List.mem_cons, List.not_mem_nil, or_false]
  omega
theorem isLet_iff (c : UInt8) : isLet c = true ↔ c.toNat ∈ nHead ++ nMark := by
  unfold isLet
  simp only [Bool.and_eq_true, Bool.or_eq_true, decide_eq_true_eq, List.mem_append, List.mem_cons, List.not_mem_nil, or_false]
  omega
theorem digs_len : ∀ (n p : Nat) (b : Bytes), ∃ k, (digs n p b).1 = p + k ∧ (digs n p b).2 = b.drop k
  | 0, p, b => ⟨0, rfl, rfl⟩
  | n + 1, p, [] => ⟨0, rfl, rfl⟩
  | n + 1, p, c :: l => by
    by_cases h : isDigit c = true
    · rw [digs_go h]
      obtain ⟨k, h1, h2⟩ := digs_len n (p + 1) l
      exact ⟨k + 1, by omega, h2⟩
    · have e : digs (n + 1) p (c :: l) = (p, c :: l) := if_neg h
      rw [e]
      exact ⟨0, rfl, rfl⟩
end AbM

set_option Elab.async false
set_option linter.all false
set_option maxRecDepth 100000
set_option maxHeartbeats 2000000
namespace Ab
open PySem PySem.Spec PyProof.Rows L2 AbM
open Na (Bytes)

/-! ### the text -/
def top (i : Nat) : Stmt := PySem.Challenge.pw_abacusways_s01_method.main.body.getD i (.Pass ⟨0, 0, 0, 0⟩)
abbrev sFI : Stmt := inClass (top 1) 0
abbrev sRI : Stmt := inClass (top 4) 0
abbrev sEn : Stmt := inClass (top 4) 1
abbrev sSh : Stmt := inClass (top 4) 2
abbrev sRS : Stmt := inClass (top 4) 3
abbrev sRW : Stmt := inClass (top 4) 4
abbrev sSB : Stmt := top 5
abbrev sCL : Stmt := top 14
abbrev sLW : Stmt := top 15
abbrev sRL : Stmt := top 16
abbrev sRT : Stmt := top 17
abbrev sRE : Stmt := top 18
abbrev sRO : Stmt := top 19
abbrev sRC : Stmt := top 20
abbrev sRN : Stmt := top 21
abbrev sMe : Stmt := top 24

/-! ### values, objects -/
abbrev S (l : List Nat) : Str := ⟨l.toArray⟩
abbrev sgV (c : Nat) : V := .str ⟨#[c]⟩
abbrev stV (w : List Nat) : V := .str (S w)
abbrev bs (t : Bytes) : List V := t.map fun c => V.int ((c.toNat : Nat) : Int)
abbrev fsR (ta : Addr) (p : Nat) : List (Str × V) := [(("text" : Str), .ref ta), (("place" : Str), .int (p : Int))]
abbrev xdF (k : Nat) : List (Str × V) := [(("place" : Str), .int (k : Int)), (("rule" : Str), .int 11)]
/-- the reader at r has read p bytes of t -/
structure At (K : PySem.W.Frag) (CR r dx ta : Addr) (t : Bytes) (H : Hp) (p : Nat) : Prop where
  ob : H r = some (.ins CR dx (fsR ta p))
  tx : SqL K H ta (bs t)
  le : p ≤ t.length
  sz : t.length ≤ 5000
/-- all but two objects stands -/
def Only (r c : Addr) (H H' : Hp) : Prop := ∀ b o, b ≠ r → b ≠ c → H b = some o → H' b = some o
theorem Only.refl {r c : Addr} {H : Hp} : Only r c H H := fun _ _ _ _ h => h
theorem Only.trans {r c : Addr} {H H1 H2 : Hp} (a : Only r c H H1) (b : Only r c H1 H2) : Only r c H H2 := fun x o h1 h2 h => b x o h1 h2 (a x o h1 h2 h)
theorem Only.same {r c : Addr} {H H1 : Hp} (a : Same H H1) : Only r c H H1 := fun x o _ _ h => a x o h
theorem Only.wide {r c : Addr} {H H1 : Hp} (a : Only r r H H1) : Only r c H H1 := fun x o h1 _ h => a x o h1 h1 h
theorem Only.upd {r c : Addr} {H : Hp} {o : HO} : Only r c H (upd H r o) := fun x u h1 _ h => by
  rw [upd_ne h1]
  exact h
theorem Only.updc {r c : Addr} {H : Hp} {o : HO} : Only r c H (L2.upd H c o) := fun x u _ h2 h => by
  rw [upd_ne h2]
  exact h
theorem same_upd {H : Hp} {p : Addr} {o : HO} (h : H p = none) : Same H (upd H p o) := fun b x e => by
  rw [upd_ne (ne_of_none e h)]
  exact e
theorem seq_upd {K : PySem.W.Frag} {H : Hp} {a b : Addr} {o : HO} {xs : List V} (h : SqL K H a xs) (n : a ≠ b) : SqL K (upd H b o) a xs := by
  rcases h with (h | ⟨u, h⟩) | h
  · exact .inl (.inl (by rw [upd_ne n]; exact h))
  · exact .inl (.inr ⟨u, by rw [upd_ne n]; exact h⟩)
  · exact .inr h
/-- a list is no instance -/
theorem seq_upd_ins {K : PySem.W.Frag} {H : Hp} {a r C dx : Addr} {fs : List (Str × V)} {o : HO} {xs : List V} (h : SqL K H a xs) (e : H r = some (.ins C dx fs)) : SqL K (upd H r o) a xs := by
  rcases h with (h | ⟨u, h⟩) | h
  · exact .inl (.inl (by rw [upd_ne (ne_of h e (by intro z; cases z))]; exact h))
  · exact .inl (.inr ⟨u, by rw [upd_ne (ne_of h e (by intro z; cases z))]; exact h⟩)
  · exact .inr h
/-- the list at a is not the object at c, or it stands in the written part -/
def Apart (K : PySem.W.Frag) (a c : Addr) (xs : List V) : Prop := a ≠ c ∨ ∀ H, SqL K H a xs
theorem Apart.new {K : PySem.W.Frag} {H : Hp} {a c : Addr} {xs : List V} (h : SqL K H a xs) (n : H c = none) : Apart K a c xs := by
  rcases h with (h | ⟨u, h⟩) | h
  · exact .inl (ne_of_none h n)
  · exact .inl (ne_of_none h n)
  · exact .inr fun _ => .inr h
theorem Apart.upd {K : PySem.W.Frag} {H : Hp} {a c : Addr} {o : HO} {xs : List V} (x : Apart K a c xs) (h : SqL K H a xs) : SqL K (upd H c o) a xs := x.elim (seq_upd h) fun k => k _
theorem seq_only1 {K : PySem.W.Frag} {H H' : Hp} {a r C dx : Addr} {fs : List (Str × V)} {xs : List V} (h : SqL K H a xs) (e : H r = some (.ins C dx fs)) (k : Only r r H H') : SqL K H' a xs := by
  rcases h with (h | ⟨u, h⟩) | h
  · have n := ne_of h e (by intro z; cases z)
    exact .inl (.inl (k _ _ n n h))
  · have n := ne_of h e (by intro z; cases z)
    exact .inl (.inr ⟨u, k _ _ n n h⟩)
  · exact .inr h
section
variable {K : PySem.W.Frag} {CR r dx ta : Addr} {t : Bytes} {H H' : Hp} {p : Nat}
theorem At.same (a : At K CR r dx ta t H p) (s : Same H H') : At K CR r dx ta t H' p := ⟨s _ _ a.ob, s.seq a.tx, a.le, a.sz⟩
theorem At.put (a : At K CR r dx ta t H p) {q : Nat} (h : q ≤ t.length) : At K CR r dx ta t (upd H r (.ins CR dx (fsR ta q))) q := ⟨upd_same, seq_upd_ins a.tx a.ob, h, a.sz⟩
theorem At.updc (a : At K CR r dx ta t H p) {c : Addr} {o : HO} (h1 : r ≠ c) (h2 : Apart K ta c (bs t)) : At K CR r dx ta t (upd H c o) p := ⟨by rw [upd_ne h1]; exact a.ob, h2.upd a.tx, a.le, a.sz⟩
end
theorem put_place (ta : Addr) (p q : Nat) : putF "place" (.int (q : Int)) (fsR ta p) = fsR ta q := by rfl
theorem look_place (ta : Addr) (p : Nat) : (fsR ta p).lookup ("place" : Str) = some (.int (p : Int)) := by rfl
theorem look_text (ta : Addr) (p : Nat) : (fsR ta p).lookup ("text" : Str) = some (.ref ta) := by rfl
/-- how a reader's call ends: with the fault's place, or with what is read -/
def Out {α : Type} (K : PySem.W.Frag) (CR CF r dx ta : Addr) (t : Bytes) (res : Except Nat (α × (Nat × Bytes))) (H : Hp) (c : Addr) (val : α → Hp → V → Prop) (Q : VK) (E : XK) : Prop :=
  (∀ k, res = .error k → ∀ (d : Addr) (H' : Hp), H' d = some (.xd (xdF k)) → E (.ref CF) (some d) H') ∧
  ∀ a q, res = .ok (a, q, t.drop q) → ∀ (H' : Hp) (v : V), val a H' v → At K CR r dx ta t H' q → Only r c H H' → Q v H'
/-- some signs, a text or a list of texts of one sign -/
def SigV (K : PySem.W.Frag) (H : Hp) (v : V) (cs : List Nat) : Prop := v = .str (S cs) ∨ ∃ a, v = .ref a ∧ SqL K H a (cs.map sgV)
theorem SigV.same {K : PySem.W.Frag} {H H' : Hp} {v : V} {cs : List Nat} (h : SigV K H v cs) (s : Same H H') : SigV K H' v cs := h.elim .inl fun ⟨a, e, q⟩ => .inr ⟨a, e, s.seq q⟩
def showsM (cs : List Nat) : Bytes → Bool
  | [] => false
  | c :: _ => decide (c.toNat ∈ cs)
def signM (cs : List Nat) (p : Nat) : Bytes → Except Nat (Nat × (Nat × Bytes))
  | [] => .error p
  | c :: l => if c.toNat ∈ cs then .ok (c.toNat, p + 1, l) else .error p

/-! ### the promises -/
/-- Fault's __init__, of an exception that is being made -/
def spFI (CF : Addr) : Sp := fun vs H Q _ => ∃ (a : Addr) (k : Int), vs = [.ref a, .int 11, .int k] ∧ H a = some (exo a CF none) ∧
  ∀ (d : Addr) (H' : Hp), H d = none → d ≠ a → H' a = some (exo a CF (some d)) → H' d = some (exd d [(("place" : Str), .int k), (("rule" : Str), .int 11)]) → Q .non H'
def spRI (CR : Addr) : Sp := fun vs H Q _ => ∃ (r ta dx : Addr), vs = [.ref r, .ref ta] ∧ H r = some (.ins CR dx []) ∧ ∀ H', Only r r H H' → H' r = some (.ins CR dx (fsR ta 0)) → Q .non H'
def spEn (K : PySem.W.Frag) (CR : Addr) : Sp := fun vs H Q _ => ∃ (r dx ta : Addr) (t : Bytes) (p : Nat), vs = [.ref r] ∧ At K CR r dx ta t H p ∧ Q (.bl (decide (p = t.length))) H
def spSh (K : PySem.W.Frag) (CR : Addr) : Sp := fun vs H Q _ => ∃ (r dx ta : Addr) (t : Bytes) (p : Nat) (sv : V) (cs : List Nat), vs = [.ref r, sv] ∧ At K CR r dx ta t H p ∧ SigV K H sv cs ∧ cs.length ≤ 1000 ∧
  ∀ H', Same H H' → Q (.bl (showsM cs (t.drop p))) H'
def spRS (K : PySem.W.Frag) (CR CF : Addr) : Sp := fun vs H Q E => ∃ (r dx ta : Addr) (t : Bytes) (p : Nat) (sv : V) (cs : List Nat), vs = [.ref r, sv] ∧ At K CR r dx ta t H p ∧ SigV K H sv cs ∧ cs.length ≤ 1000 ∧
  Out K CR CF r dx ta t (signM cs p (t.drop p)) H r (fun c _ v => v = sgV c) Q E
def spSB (K : PySem.W.Frag) : Sp := fun vs H Q _ => ∃ (wl : Addr) (acc : List Nat) (ws : List (List Nat)), vs = [stV acc, .ref wl] ∧ SqL K H wl (ws.map stV) ∧ ws.length ≤ 1000 ∧ acc.length ≤ 1000 ∧ (∀ w ∈ ws, w.length ≤ 1000) ∧
  ∀ (H' : Hp) (D : Addr), Same H H' → H D = none → H' D = some (.lst ((heads (tag acc ws)).map sgV)) → Q (.ref D) H'
def spRW (K : PySem.W.Frag) (CR CF : Addr) : Sp := fun vs H Q E => ∃ (r dx ta : Addr) (t : Bytes) (p : Nat) (wl : Addr) (ws : List (List Nat)), vs = [.ref r, .ref wl] ∧ At K CR r dx ta t H p ∧ SqL K H wl (ws.map stV) ∧ ws.length ≤ 1000 ∧ (∀ w ∈ ws, w.length ≤ 100) ∧
  Out K CR CF r dx ta t (munch (t.drop p) (tag [] ws) p) H r (fun w _ v => v = stV w) Q E

/-! ### what the top has written -/
structure Txt (K : PySem.W.Frag) (mg : Str → Option Value) (CF fFI CR : Addr) : Prop where
  ox : OexC K CF
  xf : XfC K CF
  nRule : PySem.W.findIn K (.ref CF) "rule" = some none
  nPlc : PySem.W.findIn K (.ref CF) "place" = some none
  iF : PySem.W.findIn K (.ref CF) "__init__" = some (some (.ref fFI))
  tF : PySem.W.typeIn K (.ref fFI) = some (.type "function")
  gF : mg "Fault" = some (.ref CF)
  te : PySem.W.exmOne K (.ref CF) (.ref CF) = some true
  nVE : mg "ValueError" = none
  vV : PySem.W.findCls K (.type "ValueError") (.type "type") "__init__" = some (.val (.builtin "ValueError.__init__"))
  rule : ∃ u, mg "METHOD_RULE" = some (.int 11 u)
  cl : Cls K CR
  gR : mg "Reader" = some (.ref CR)
  nText : NoAttr K CR "text"
  nPlace : NoAttr K CR "place"
  len : mg "len" = none
  ord : mg "ord" = none

section
variable {P : Program} {w : World} {K : PySem.W.Frag} {mg : Str → Option Value} {base : Heap} {CF fFI CR : Addr}

theorem scFI : FnScope ["self", "rule", "place"] ["self", "rule", "place"] (defScope sFI) := ⟨rfl, rfl, rfl, by decide +kernel, rfl, by decide +kernel, by decide +kernel⟩
theorem ok_FI {f : Addr} {fd : FuncData} (F : Fun K "__init__" "Fault.__init__" sFI f fd) (T : Txt K mg CF fFI CR) : FnOk P w K mg base CX0 1 f fd ["self", "rule", "place"] (spFI CF) := by
  refine F.ok scFI (fun vs H Q E h => ?_) (fun cdv A outer s H vs Q E hr h => ?_)
  · obtain ⟨a, k, rfl, _⟩ := h
    rfl
  · obtain ⟨a, k, rfl, ha, q⟩ := h
    refine ⟨_, pss_cons (ps_expr (pe_veinit rfl T.nVE T.vV (pa_cons (pv 0) (pa_cons (pv 1) (pa_cons (pv 2) pa_nil)))))
      (pss_cons (ps_ost (pv 0) (pv 1)) (pss_one (ps_ost (pv 0) (pv 2)))), ?_⟩
    refine ⟨_, rfl, _, rfl, _, rfl, a, CF, _, rfl, by show 2 ≤ 1000; decide, T.ox, ha, ?_⟩
    refine ⟨_, rfl, _, rfl, a, CF, rfl, T.ox, T.nRule, .inl ⟨ha, fun d nd da => ?_⟩⟩
    have e1 : (upd (upd H d (exd d [(("rule" : Str), .int 11)])) a (exo a CF (some d))) d = some (exd d [(("rule" : Str), .int 11)]) := by rw [upd_ne da, upd_same]
    refine ⟨_, rfl, _, rfl, a, CF, rfl, T.ox, T.nPlc, .inr ⟨d, _, upd_same, e1, by show 1 ≤ 900; decide, ?_⟩⟩
    refine q d _ nd da ?_ upd_same
    rw [upd_ne (Ne.symm da), upd_same]

theorem scRI : FnScope ["self", "text"] ["self", "text"] (defScope sRI) := ⟨rfl, rfl, rfl, by decide +kernel, rfl, by decide +kernel, by decide +kernel⟩
theorem ok_RI {f : Addr} {fd : FuncData} (F : Fun K "__init__" "Reader.__init__" sRI f fd) (T : Txt K mg CF fFI CR) : FnOk P w K mg base CX0 1 f fd ["self", "text"] (spRI CR) := by
  refine F.ok scRI (fun vs H Q E h => ?_) (fun cdv A outer s H vs Q E hr h => ?_)
  · obtain ⟨r, ta, dx, rfl, _⟩ := h
    rfl
  · obtain ⟨r, ta, dx, rfl, ha, q⟩ := h
    refine ⟨_, pss_cons (ps_fld (pv 0) (pv 1) rfl) (pss_one (ps_fld (pv 0) pe_int rfl)), ?_⟩
    refine ⟨_, rfl, _, rfl, r, CR, dx, _, rfl, ha, T.cl, T.nText, by decide, ?_⟩
    refine ⟨_, rfl, r, CR, dx, _, rfl, upd_same, T.cl, T.nPlace, by show 1 < 1000; decide, ?_⟩
    refine q _ ?_ ?_
    · rw [upd_upd]
      exact Only.upd
    · rw [upd_same]
      rfl

theorem scEn : FnScope ["self"] ["self"] (defScope sEn) := ⟨rfl, rfl, rfl, by decide +kernel, rfl, by decide +kernel, by decide +kernel⟩
theorem ok_En {f : Addr} {fd : FuncData} (F : Fun K "ended" "Reader.ended" sEn f fd) (T : Txt K mg CF fFI CR) : FnOk P w K mg base CX0 1 f fd ["self"] (spEn K CR) := by
  refine F.ok scEn (fun vs H Q E h => ?_) (fun cdv A outer s H vs Q E hr h => ?_)
  · obtain ⟨r, dx, ta, t, p, rfl, _⟩ := h
    rfl
  · obtain ⟨r, dx, ta, t, p, rfl, a, q⟩ := h
    refine ⟨_, pss_one (ps_ret (pe_cmpR op_eq (pe_fld (pv 0) rfl) (pe_callB call_len_seq (by rfl) T.len PySem.boot_len (pa_cons (pe_fld (pv 0) rfl) pa_nil)) (nomark _))), ?_⟩
    refine ⟨_, rfl, r, CR, dx, _, _, rfl, a.ob, T.cl, T.nPlace, look_place ta p, ?_⟩
    refine ⟨_, rfl, r, CR, dx, _, _, rfl, a.ob, T.cl, T.nText, look_text ta p, ?_⟩
    refine ⟨ta, _, rfl, .inl a.tx, rfl, ?_⟩
    have e : (decide (V.int (p : Int) = V.int ((bs t).length : Nat))) = decide (p = t.length) := by
      rw [dec_int, List.length_map]
      by_cases h : p = t.length
      · subst h
        simp
      · rw [decide_eq_false h]
        have h2 : ¬ ((p : Int) = (t.length : Nat)) := fun z => h (Int.ofNat.inj z)
        simpa using h2
    rw [e]
    exact q
end
end Ab

set_option Elab.async false
set_option linter.all false
set_option maxRecDepth 100000
set_option maxHeartbeats 2000000
namespace Ab
open PySem PySem.Spec PyProof.Rows L2 AbM
open Na (Bytes)
theorem pi_sig {X : Cx} {tg l : Expr} {tl : TE} (hl : PE X l tl) : PI X tg l (fun σ H R => iStr tl σ H R ∨ iList X.K tl σ H R) :=
  ⟨fun pins s σ H R I h => h.elim (fun h => (pi_str hl).run pins s σ H R I h) fun h => (pi_list hl).run pins s σ H R I h⟩
theorem any_nat (c : Nat) : ∀ cs : List Nat, inV (.int (c : Int)) (cs.map fun k => V.int ((k : Nat) : Int)) = decide (c ∈ cs)
  | [] => by simp [inV]
  | k :: r => by
    have ih := any_nat c r
    unfold inV at ih ⊢
    rw [List.map_cons, List.any_cons, ih]
    show (((k : Int) == (c : Int)) || decide (c ∈ r)) = _
    by_cases h : c = k
    · subst h
      simp
    · have h2 : ¬ ((k : Int) = (c : Int)) := fun z => h (Int.ofNat.inj z).symm
      have e : ((k : Int) == (c : Int)) = false := by simpa using h2
      rw [e, Bool.false_or]
      by_cases h3 : c ∈ r
      · rw [decide_eq_true h3, decide_eq_true (List.mem_cons_of_mem _ h3)]
      · rw [decide_eq_false h3, decide_eq_false (fun z => (List.mem_cons.mp z).elim h h3)]
theorem flat_nat (cs : List Nat) : (cs.map fun k => V.int ((k : Nat) : Int)).all flatV = true := by
  rw [List.all_map]
  exact List.all_eq_true.mpr fun _ _ => rfl
theorem bs_at {t : Bytes} {p : Nat} {c : UInt8} {l : Bytes} (h : t.drop p = c :: l) : (bs t)[p]? = some (.int ((c.toNat : Nat) : Int)) := by
  have e : t[p]? = some c := by
    have := congrArg List.head? h
    rw [List.head?_drop] at this
    exact this
  rw [List.getElem?_map, e]
  rfl
theorem drop_lt {t : Bytes} {p : Nat} {c : UInt8} {l : Bytes} (h : t.drop p = c :: l) : p < t.length := by
  have := congrArg List.length h
  rw [List.length_drop, List.length_cons] at this
  omega
theorem drop_succ {t : Bytes} {p : Nat} {c : UInt8} {l : Bytes} (h : t.drop p = c :: l) : t.drop (p + 1) = l := by
  rw [← List.tail_drop, h]
  rfl
section
variable {P : Program} {w : World} {K : PySem.W.Frag} {mg : Str → Option Value} {base : Heap} {CF fFI CR : Addr}
theorem scSh : FnScope ["self", "signs", "sign"] ["self", "signs"] (defScope sSh) := ⟨rfl, rfl, rfl, by decide +kernel, rfl, by decide +kernel, by decide +kernel⟩
theorem ok_Sh {f fE : Addr} {fd fdE : FuncData} (F : Fun K "shows" "Reader.shows" sSh f fd) (T : Txt K mg CF fFI CR) (mE : Meth K CR "ended" fE) (GE : FnOk P w K mg base CX0 1 fE fdE ["self"] (spEn K CR)) (bE : Binds K fdE ["self"] []) :
    FnOk P w K mg base CX0 2 f fd ["self", "signs"] (spSh K CR) := by
  refine F.ok scSh (fun vs H Q E h => ?_) (fun cdv A outer s H vs Q E hr h => ?_)
  · obtain ⟨r, dx, ta, t, p, sv, cs, rfl, _⟩ := h
    rfl
  · obtain ⟨r, dx, ta, t, p, sv, cs, rfl, a, hs, hl, q⟩ := h
    refine ⟨_, pss_one (ps_ret (pe_and (pe_not (pe_meth0 (pv 0) T.cl mE GE hr bE .nil pass0))
      (pe_one (pe_cmpR op_in_seq (pe_ix ix_list (pe_fld (pv 0) rfl) (pe_fld (pv 0) rfl) (fun _ _ => rfl))
        (pe_lc (own := [("sign", 2)]) (g := gName 2) (tt := tYes) rfl scSh.nd (pi_sig (pv 1)) (blkOk_by (N := ["self", "signs", "sign"]) (sc := defScope sSh) (by decide +kernel)) (fun _ _ _ _ _ => pg_name (i := 2) scSh.nd rfl (Or.inl rfl)) (fun _ _ _ _ _ => pts_nil)
          (fun _ _ _ _ _ => pe_callB call_ord (by rfl) T.ord (by decide +kernel) (pa_cons (pv 2) pa_nil))) rfl)))), ?_⟩
    refine ⟨_, rfl, r, dx, _, rfl, a.ob, rfl, r, dx, ta, t, p, rfl, a, _, rfl, _, rfl, ?_⟩
    by_cases he : p = t.length
    · rw [decide_eq_true he]
      refine iteF ?_
      have e : t.drop p = [] := by rw [he, List.drop_length]
      have e2 : showsM cs (t.drop p) = false := by rw [e]; rfl
      rw [← e2]
      exact q H (Same.refl H)
    · rw [decide_eq_false he]
      refine iteT ?_
      obtain ⟨c, l, ed⟩ : ∃ c l, t.drop p = c :: l := by
        cases ed : t.drop p with
        | nil =>
          have := congrArg List.length ed
          rw [List.length_drop] at this
          have := a.le
          exact absurd (by simp at *; omega) he
        | cons c l => exact ⟨c, l, rfl⟩
      refine ⟨_, rfl, r, CR, dx, _, _, rfl, a.ob, T.cl, T.nText, look_text ta p, ?_⟩
      refine ⟨_, rfl, r, CR, dx, _, _, rfl, a.ob, T.cl, T.nPlace, look_place ta p, ?_⟩
      refine ⟨ta, _, _, _, rfl, rfl, a.tx, atI_nat (bs_at ed), ?_⟩
      -- the list of the codes
      have fin : ∀ D, H D = none → ∀ H', H' = upd H D (.lst (cs.map fun k => V.int ((k : Nat) : Int))) →
          rIn K false (.int ((c.toNat : Nat) : Int)) (.ref D) H' Q := fun D hD H' e => by
        subst e
        refine ⟨D, _, rfl, .inl (SqL.of upd_same), rfl, flat_nat cs, ?_⟩
        have e2 : showsM cs (t.drop p) = decide (c.toNat ∈ cs) := by rw [ed]; rfl
        rw [any_nat, ← e2]
        exact q _ (same_upd hD)
      have more : ∀ (i : Nat) (k : Nat), cs[i]? = some k → (cs.take (i + 1)).map (fun k => V.int ((k : Nat) : Int)) = (cs.take i).map (fun k => V.int ((k : Nat) : Int)) ++ [.int ((k : Nat) : Int)] := fun i k h => by
        rw [List.take_add_one, h, List.map_append]
        rfl
      have short : ∀ i, ((cs.take i).map (fun k => V.int ((k : Nat) : Int))).length < sizeLine := fun i => small1000 (by rw [List.length_map, List.length_take]; omega)
      rcases hs with rfl | ⟨al, rfl, hq⟩
      · refine .inl ⟨_, rfl, _, rfl, fun D hD => lc_it walk_str (Pv := fun i H' => H' = upd H D (.lst ((cs.take i).map fun k => V.int ((k : Nat) : Int)))) rfl (fun _ _ _ _ => trivial) ?_ ?_⟩
        · rintro i x H1 H2 hi e ⟨rfl, k, hk, rfl⟩
          have hk' : cs[i]? = some k := by simpa using hk
          refine ⟨rfl, ?_⟩
          refine ⟨_, rfl, _, rfl, rfl, _, by rw [e]; exact upd_same, short i, ?_⟩
          rw [e, upd_upd, more i k hk']
          rfl
        · intro H' e
          refine fin D hD H' ?_
          rw [e]
          have : cs.take (S cs).cps.size = cs := by simp
          rw [this]
      · refine .inr ⟨_, rfl, al, rfl, ⟨_, hq⟩, fun D hD => lc_it (walk_list (xs := cs.map sgV)) (Pv := fun i H' => H' = upd H D (.lst ((cs.take i).map fun k => V.int ((k : Nat) : Int)))) rfl (fun i H' _ e => ?_) ?_ ?_⟩
        · rw [e]
          exact (same_upd hD).seq hq
        · rintro i x H1 H2 hi e ⟨rfl, hx⟩
          obtain ⟨k, hk', rfl⟩ : ∃ k, cs[i]? = some k ∧ x = sgV k := by
            rw [List.getElem?_map] at hx
            cases e : cs[i]? with
            | none => rw [e] at hx; cases hx
            | some k => rw [e] at hx; exact ⟨k, rfl, (Option.some.inj hx).symm⟩
          refine ⟨rfl, ?_⟩
          refine ⟨_, rfl, _, rfl, rfl, _, by rw [e]; exact upd_same, short i, ?_⟩
          rw [e, upd_upd, more i k hk']
          rfl
        · intro H' e
          refine fin D hD H' ?_
          rw [e, List.length_map, List.take_length]
end
end Ab

set_option Elab.async false
set_option linter.all false
set_option maxRecDepth 100000
set_option maxHeartbeats 2000000
namespace Ab
open PySem PySem.Spec PyProof.Rows L2 AbM
open Na (Bytes)
theorem signM_hit {cs : List Nat} {p : Nat} {c : UInt8} {l : Bytes} (h : c.toNat ∈ cs) : signM cs p (c :: l) = .ok (c.toNat, p + 1, l) := if_pos h
theorem signM_miss {cs : List Nat} {p : Nat} {b : Bytes} (h : showsM cs b = false) : signM cs p b = .error p := by
  cases b with
  | nil => rfl
  | cons c l => exact if_neg (of_decide_eq_false h)
theorem shows_hit {k : Nat} {b : Bytes} (h : showsM [k] b = true) : ∃ c l, b = c :: l ∧ c.toNat = k := by
  cases b with
  | nil => cases h
  | cons c l =>
    have := of_decide_eq_true h
    exact ⟨c, l, rfl, by simpa using this⟩
theorem shows_none {cs : List Nat} {b : Bytes} (h : ∀ (i k : Nat), cs[i]? = some k → showsM [k] b = false) : showsM cs b = false := by
  cases b with
  | nil => rfl
  | cons c l =>
    refine decide_eq_false fun hm => ?_
    obtain ⟨i, hi⟩ := List.mem_iff_getElem?.mp hm
    have := of_decide_eq_false (h i _ hi)
    exact this (by simp)
section
variable {P : Program} {w : World} {K : PySem.W.Frag} {mg : Str → Option Value} {base : Heap} {CF fFI CR : Addr}
theorem scRS : FnScope ["self", "signs", "sign"] ["self", "signs"] (defScope sRS) := ⟨rfl, rfl, rfl, by decide +kernel, rfl, by decide +kernel, by decide +kernel⟩
/-- raise Fault(METHOD_RULE, self.place): how its reading is answered -/
theorem raise_ok {CF : Addr} {H1 : Hp} {p : Nat} {E : XK} (h : ∀ (d : Addr) (H' : Hp), H' d = some (.xd (xdF p)) → E (.ref CF) (some d) H') :
    ([V.int 11, V.int (p : Int)] : List V).length ≤ 1000 ∧ ∀ a, H1 a = none → spFI CF (.ref a :: ([V.int 11, V.int (p : Int)] ++ [])) (upd H1 a (exo a CF none))
      (fun v H2 => v = .non ∧ ∃ (d : Addr) (fs : List (Str × V)), H2 a = some (exo a CF (some d)) ∧ H2 d = some (exd d fs) ∧ H1 d = none ∧ E (.ref CF) (some d) (upd (del H2 a) d (.xd fs))) (fun _ _ _ => False) :=
  ⟨by show 2 ≤ 1000; decide, fun a na => ⟨a, p, rfl, upd_same, fun d H' nd da ea ed => ⟨rfl, d, _, ea, ed, by rw [upd_ne da] at nd; exact nd, h d _ upd_same⟩⟩⟩
theorem ok_RS {f fS : Addr} {fd fdS fdI : FuncData} (F : Fun K "read_sign" "Reader.read_sign" sRS f fd) (T : Txt K mg CF fFI CR) (mS : Meth K CR "shows" fS) (GS : FnOk P w K mg base CX0 2 fS fdS ["self", "signs"] (spSh K CR)) (bS : Binds K fdS ["self", "signs"] [])
    (GI : FnOk P w K mg base CX0 1 fFI fdI ["self", "rule", "place"] (spFI CF)) (bI : Binds K fdI ["self", "rule", "place"] []) :
    FnOk P w K mg base (L2.CX P w) 3 f fd ["self", "signs"] (spRS K CR CF) := by
  refine F.okX scRS (fun vs H Q E h => ?_) (fun cdv A outer s H vs Q E hr h => ?_)
  · obtain ⟨r, dx, ta, t, p, sv, cs, rfl, _⟩ := h
    rfl
  · obtain ⟨r, dx, ta, t, p, sv, cs, rfl, a, hs, hl, q⟩ := h
    obtain ⟨u, hu⟩ := T.rule
    refine ⟨_, pss_cons (ps_for (passes_of rfl) rfl (pi_sig (pv 1)) (pg_name (i := 2) scRS.nd rfl (Or.inl rfl))
        (pss_one (ps_if (pt_val (pe_meth (pv 0) T.cl mS GS hr bS .nil pass0 (pa_cons (pv 2) pa_nil))) (pss_cons (ps_fldaug (pv 0) pe_int in_add) (pss_one (ps_ret (pv 2)))) pss_nil)))
      (pss_one (ps_raise rfl (takes_of rfl rfl rfl rfl) (pmk_oex T.ox T.iF T.tF GI hr bI .nil pass0 rfl T.gF (pa_cons (pe_glob (v := .int 11) rfl hu ⟨_, rfl⟩) (pa_cons (pe_fld (pv 0) rfl) pa_nil))))), ?_⟩
    rcases hs with rfl | ⟨al, rfl, hq⟩
    · refine .inl ⟨_, rfl, _, rfl, for_it walk_str (fun i σ H1 => (∃ v2, σ = [some (.ref r), some (stV cs), v2]) ∧ Same H H1 ∧ ∀ j k, j < i → cs[j]? = some k → showsM [k] (t.drop p) = false) ⟨⟨_, rfl⟩, Same.refl H, fun j k hj => absurd hj (Nat.not_lt_zero _)⟩ (fun _ _ _ _ _ => trivial) ?_ ?_⟩
      · rintro i x σ H1 H2 hi ⟨⟨v2, rfl⟩, sm, no⟩ ⟨rfl, k, hk, rfl⟩
        have hk' : cs[i]? = some k := by simpa using hk
        refine ⟨_, rfl, r, dx, _, rfl, sm _ _ a.ob, rfl, _, rfl, r, dx, ta, t, p, sgV k, [k], rfl, a.same sm, .inl rfl, by show 1 ≤ 1000; decide, fun H3 sm3 => ⟨_, rfl, ?_⟩⟩
        cases hsh : showsM [k] (t.drop p) with
        | true =>
          refine iteT ?_
          obtain ⟨c, l, ed, ec⟩ := shows_hit hsh
          have a3 := (a.same sm).same sm3
          refine ⟨_, rfl, r, CR, dx, _, _, rfl, a3.ob, T.cl, T.nPlace, look_place ta p, _, _, rfl, rfl, dx, _, a3.ob, by show 2 < 1000; decide, _, rfl, ?_⟩
          have hm : c.toNat ∈ cs := by
            rw [ec]
            exact List.mem_iff_getElem?.mpr ⟨i, hk'⟩
          have e := signM_hit (p := p) (l := l) hm
          rw [← ed] at e
          rw [← drop_succ ed] at e
          have a4 := a3.put (q := p + 1) (drop_lt ed)
          exact q.2 _ _ e _ _ (by rw [ec]) a4 (Only.trans (Only.same sm) (Only.trans (Only.same sm3) Only.upd))
        | false =>
          refine iteF ?_
          refine ⟨⟨_, rfl⟩, sm.trans sm3, fun j k' hj hk2 => ?_⟩
          by_cases hji : j = i
          · subst hji
            rw [hk'] at hk2
            cases hk2
            exact hsh
          · exact no j k' (by omega) hk2
      · rintro σ H1 ⟨⟨v2, rfl⟩, sm, no⟩
        have hn : showsM cs (t.drop p) = false := shows_none fun i k hk => no i k (by have := (List.getElem?_eq_some_iff.mp hk).1; simpa using this) hk
        refine ⟨_, rfl, r, CR, dx, _, _, rfl, sm _ _ a.ob, T.cl, T.nPlace, look_place ta p, ?_⟩
        exact raise_ok fun d H' e => q.1 p (signM_miss hn) d H' e
    · refine .inr ⟨_, rfl, al, rfl, ⟨_, hq⟩, for_it (walk_list (xs := cs.map sgV)) (fun i σ H1 => (∃ v2, σ = [some (.ref r), some (.ref al), v2]) ∧ Same H H1 ∧ ∀ j k, j < i → cs[j]? = some k → showsM [k] (t.drop p) = false) ⟨⟨_, rfl⟩, Same.refl H, fun j k hj => absurd hj (Nat.not_lt_zero _)⟩ (fun i σ H1 _ h => h.2.1.seq hq) ?_ ?_⟩
      · rintro i x σ H1 H2 hi ⟨⟨v2, rfl⟩, sm, no⟩ ⟨rfl, hx⟩
        obtain ⟨k, hk', rfl⟩ : ∃ k, cs[i]? = some k ∧ x = sgV k := by
          rw [List.getElem?_map] at hx
          cases e : cs[i]? with
          | none => rw [e] at hx; cases hx
          | some k => rw [e] at hx; exact ⟨k, rfl, (Option.some.inj hx).symm⟩
        refine ⟨_, rfl, r, dx, _, rfl, sm _ _ a.ob, rfl, _, rfl, r, dx, ta, t, p, sgV k, [k], rfl, a.same sm, .inl rfl, by show 1 ≤ 1000; decide, fun H3 sm3 => ⟨_, rfl, ?_⟩⟩
        cases hsh : showsM [k] (t.drop p) with
        | true =>
          refine iteT ?_
          obtain ⟨c, l, ed, ec⟩ := shows_hit hsh
          have a3 := (a.same sm).same sm3
          refine ⟨_, rfl, r, CR, dx, _, _, rfl, a3.ob, T.cl, T.nPlace, look_place ta p, _, _, rfl, rfl, dx, _, a3.ob, by show 2 < 1000; decide, _, rfl, ?_⟩
          have hm : c.toNat ∈ cs := by
            rw [ec]
            exact List.mem_iff_getElem?.mpr ⟨i, hk'⟩
          have e := signM_hit (p := p) (l := l) hm
          rw [← ed] at e
          rw [← drop_succ ed] at e
          have a4 := a3.put (q := p + 1) (drop_lt ed)
          exact q.2 _ _ e _ _ (by rw [ec]) a4 (Only.trans (Only.same sm) (Only.trans (Only.same sm3) Only.upd))
        | false =>
          refine iteF ?_
          refine ⟨⟨_, rfl⟩, sm.trans sm3, fun j k' hj hk2 => ?_⟩
          by_cases hji : j = i
          · subst hji
            rw [hk'] at hk2
            cases hk2
            exact hsh
          · exact no j k' (by omega) hk2
      · rintro σ H1 ⟨⟨v2, rfl⟩, sm, no⟩
        have hn : showsM cs (t.drop p) = false := shows_none fun i k hk => no i k (by have := (List.getElem?_eq_some_iff.mp hk).1; rw [List.length_map]; exact this) hk
        refine ⟨_, rfl, r, CR, dx, _, _, rfl, sm _ _ a.ob, T.cl, T.nPlace, look_place ta p, ?_⟩
        exact raise_ok fun d H' e => q.1 p (signM_miss hn) d H' e
end
end Ab

set_option Elab.async false
set_option linter.all false
set_option maxRecDepth 100000
set_option maxHeartbeats 2000000
namespace Ab
open PySem PySem.Spec PyProof.Rows L2 AbM
open Na (Bytes)
theorem if_true_of {c : Bool} {A B : Prop} (hc : c = true) (h : A) : if c = true then A else B := by
  rw [if_pos hc]
  exact h
theorem if_false_of {c : Bool} {A B : Prop} (hc : c = false) (h : B) : if c = true then A else B := by
  rw [hc, if_neg Bool.false_ne_true]
  exact h
theorem S_len (l : List Nat) : (S l).length = l.length := by simp [Str.length]
theorem S_tl (l : List Nat) : (S l).cps.toList = l := by simp
theorem S_inj {a b : List Nat} (h : S a = S b) : a = b := by
  have := congrArg (fun x : Str => x.cps.toList) h
  simpa using this
theorem S_cat (a b : List Nat) : S a ++ S b = S (a ++ b) := SX.S_cat a b
theorem starts_S (w acc : List Nat) : Txt.startswith (S w) (S acc) = decide (acc <+: w) := by
  unfold Txt.startswith
  rw [PySem.StrLaws.subAt_eq, S_len, S_len, S_tl, S_tl]
  by_cases h : acc <+: w
  · rw [decide_eq_true h]
    have e := List.prefix_iff_eq_take.mp h
    have hl := h.length_le
    simp only [Nat.zero_add, List.drop_zero, decide_eq_true hl, Bool.true_and]
    rw [← e]
    exact beq_self_eq_true _
  · rw [decide_eq_false h]
    have e : ¬ ((w.drop 0).take acc.length == acc) = true := fun z => h (List.prefix_iff_eq_take.mpr (by simpa using (eq_of_beq z).symm))
    rw [Bool.not_eq_true] at e
    rw [e, Bool.and_false]
def headOf (acc w : List Nat) : List Nat := if acc <+: w then (w.drop acc.length).head?.toList else []
theorem heads_snoc (acc w : List Nat) (ws : List (List Nat)) : heads (tag acc (ws ++ [w])) = heads (tag acc ws) ++ headOf acc w := by
  unfold tag heads
  rw [List.filterMap_append, List.filterMap_append]
  congr 1
  unfold headOf
  by_cases h : acc <+: w
  · rw [List.filterMap_cons, if_pos h, if_pos h]
    cases w.drop acc.length <;> rfl
  · rw [List.filterMap_cons, if_neg h, if_neg h]
    rfl
theorem headOf_none {acc w : List Nat} (h : ¬ (acc.length < w.length ∧ acc <+: w)) : headOf acc w = [] := by
  unfold headOf
  by_cases hp : acc <+: w
  · rw [if_pos hp]
    have hl : w.length ≤ acc.length := Nat.le_of_not_lt fun z => h ⟨z, hp⟩
    rw [List.drop_eq_nil_of_le hl]
    rfl
  · rw [if_neg hp]
theorem headOf_some {acc w : List Nat} {c : Nat} (hp : acc <+: w) (h : w[acc.length]? = some c) : headOf acc w = [c] := by
  unfold headOf
  rw [if_pos hp, List.head?_drop, h]
  rfl
theorem heads_len (acc : List Nat) (ws : List (List Nat)) : (heads (tag acc ws)).length ≤ ws.length := by
  unfold heads tag
  exact Nat.le_trans (List.length_filterMap_le _ _) (List.length_filterMap_le _ _)
section
variable {P : Program} {w : World} {K : PySem.W.Frag} {mg : Str → Option Value} {base : Heap} {CF fFI CR : Addr}
theorem scSB : FnScope ["beginning", "words", "size", "word"] ["beginning", "words"] (defScope sSB) := ⟨rfl, rfl, rfl, by decide +kernel, rfl, by decide +kernel, by decide +kernel⟩
theorem ok_SB {f : Addr} {fd : FuncData} (F : Fun K "signs_behind" "signs_behind" sSB f fd) (T : Txt K mg CF fFI CR) : FnOk P w K mg base CX0 1 f fd ["beginning", "words"] (spSB K) := by
  refine F.ok scSB (fun vs H Q E h => ?_) (fun cdv A outer s H vs Q E hr h => ?_)
  · obtain ⟨wl, acc, ws, rfl, _⟩ := h
    rfl
  · obtain ⟨wl, acc, ws, rfl, hq, hl1, hl2, hl3, q⟩ := h
    refine ⟨_, pss_cons (ps_set (i := 2) scSB.nd rfl (Or.inr rfl) (pe_callB call_len_str (by rfl) T.len PySem.boot_len (pa_cons (pv 0) pa_nil)))
      (pss_one (ps_ret (pe_lc (own := [("word", 3)]) (g := gName 3) rfl scSB.nd (pi_list (pv 1)) (blkOk_by (N := ["beginning", "words", "size", "word"]) (sc := defScope sSB) (by decide +kernel)) (fun _ _ _ _ _ => pg_name (i := 3) scSB.nd rfl (Or.inl rfl))
        (fun _ _ _ _ _ => pts_one (PW.pt (pw_and (pt_cmpR op_gt (pe_callB call_len_str (by rfl) T.len PySem.boot_len (pa_cons (pv 3) pa_nil)) (pv 2) (nomark _))
          (pw_and1 (pt_val (pe_m1 PySem.F.slot_str_startswith PySem.F.type_str_startswith mt_startswith (pv 3) (pv 0)))))))
        (fun _ _ _ _ _ => pe_ix ix_str (pv 3) (pv 2) (fun _ _ => rfl))))), ?_⟩
    have small : ∀ l : List Nat, l.length ≤ 1000 → (S l).length ≤ sizeLine := fun l h => by
      rw [S_len]
      exact Nat.le_of_lt (small1000 h)
    refine ⟨_, rfl, _, rfl, small acc hl2, ?_⟩
    refine ⟨_, rfl, wl, rfl, ⟨_, hq⟩, fun D hD => lc_it (walk_list (xs := ws.map stV)) (Pv := fun i H' => H' = upd H D (.lst ((heads (tag acc (ws.take i))).map sgV))) rfl (fun i H' _ e => ?_) ?_ ?_⟩
    · rw [e]
      exact (same_upd hD).seq hq
    · rintro i x H1 H2 hi e ⟨rfl, hx⟩
      obtain ⟨wd, hk, rfl⟩ : ∃ wd, ws[i]? = some wd ∧ x = stV wd := by
        rw [List.getElem?_map] at hx
        cases e : ws[i]? with
        | none => rw [e] at hx; cases hx
        | some k => rw [e] at hx; exact ⟨k, rfl, (Option.some.inj hx).symm⟩
      have hw : wd.length ≤ 1000 := hl3 wd (List.mem_of_getElem? hk)
      have more : heads (tag acc (ws.take (i + 1))) = heads (tag acc (ws.take i)) ++ headOf acc wd := by
        rw [List.take_add_one, hk]
        exact heads_snoc acc wd (ws.take i)
      refine ⟨rfl, ?_⟩
      refine ⟨_, rfl, _, rfl, small wd hw, _, rfl, _, _, rfl, rfl, _, rfl, ?_⟩
      by_cases h1 : acc.length < wd.length
      · have e1 : decide (((S acc).length : Int) < ((S wd).length : Int)) = true := by
          rw [S_len, S_len]
          exact decide_eq_true (by omega)
        refine if_true_of e1 ?_
        refine ⟨_, rfl, ⟨_, rfl⟩, _, rfl, _, _, rfl, rfl, _, rfl, ?_⟩
        by_cases h2 : acc <+: wd
        · refine if_true_of (by rw [starts_S]; exact decide_eq_true h2) ?_
          have hc : wd[acc.length]? = some wd[acc.length] := List.getElem?_eq_getElem h1
          refine ⟨_, rfl, _, rfl, S wd, _, wd[acc.length], rfl, rfl, small wd hw, ?_, _, by rw [e]; exact upd_same, ?_, ?_⟩
          · rw [S_len, S_tl]
            exact atI_nat hc
          · rw [List.length_map]
            refine small1000 (Nat.le_trans (heads_len _ _) ?_)
            rw [List.length_take]
            omega
          · rw [e, upd_upd, more, headOf_some h2 hc, List.map_append]
            rfl
        · refine if_false_of (by rw [starts_S]; exact decide_eq_false h2) ?_
          rw [e, more, headOf_none (fun z => h2 z.2), List.append_nil]
      · have e1 : decide (((S acc).length : Int) < ((S wd).length : Int)) = false := by
          rw [S_len, S_len]
          exact decide_eq_false (by omega)
        refine if_false_of e1 ?_
        refine if_false_of rfl ?_
        rw [e, more, headOf_none (fun z => h1 z.1), List.append_nil]
    · intro H' e
      rw [List.length_map, List.take_length] at e
      subst e
      exact q _ D (same_upd hD) hD upd_same
end
end Ab

set_option Elab.async false
set_option linter.all false
set_option maxRecDepth 100000
set_option maxHeartbeats 2000000
namespace Ab
open PySem PySem.Spec PyProof.Rows L2 AbM
open Na (Bytes)
theorem inV_st (acc : List Nat) : ∀ ws : List (List Nat), inV (stV acc) (ws.map stV) = decide (acc ∈ ws)
  | [] => by simp [inV]
  | k :: r => by
    have ih := inV_st acc r
    unfold inV at ih ⊢
    rw [List.map_cons, List.any_cons, ih]
    show ((S k == S acc) || decide (acc ∈ r)) = _
    by_cases h : acc = k
    · subst h
      simp
    · have e : (S k == S acc) = false := beq_eq_false_iff_ne.mpr fun z => h (S_inj z).symm
      rw [e, Bool.false_or]
      by_cases h3 : acc ∈ r
      · rw [decide_eq_true h3, decide_eq_true (List.mem_cons_of_mem _ h3)]
      · rw [decide_eq_false h3, decide_eq_false (fun z => (List.mem_cons.mp z).elim h h3)]
theorem flat_st (ws : List (List Nat)) : (ws.map stV).all flatV = true := by
  rw [List.all_map]
  exact List.all_eq_true.mpr fun _ _ => rfl
theorem heads_mem {acc : List Nat} {ws : List (List Nat)} {c : Nat} (h : c ∈ heads (tag acc ws)) : ∃ w ∈ ws, acc.length < w.length := by
  unfold heads tag at h
  obtain ⟨x, hx, e⟩ := List.mem_filterMap.mp h
  obtain ⟨w, hw, e2⟩ := List.mem_filterMap.mp hx
  by_cases hp : acc <+: w
  · rw [if_pos hp] at e2
    cases e2
    refine ⟨w, hw, Nat.lt_of_not_le fun hl => ?_⟩
    have e' : (w.drop acc.length).head? = some c := e
    rw [List.drop_eq_nil_of_le hl] at e'
    cases e'
  · rw [if_neg hp] at e2
    cases e2
theorem shows_no {cs : List Nat} {b : Bytes} (h : showsM cs b = false) : ∀ c l, b = c :: l → c.toNat ∉ cs := fun c l e => by
  subst e
  exact of_decide_eq_false h
theorem shows_yes {cs : List Nat} {b : Bytes} (h : showsM cs b = true) : ∃ c l, b = c :: l ∧ c.toNat ∈ cs := by
  cases b with
  | nil => cases h
  | cons c l => exact ⟨c, l, rfl, of_decide_eq_true h⟩
section
variable {P : Program} {w : World} {K : PySem.W.Frag} {mg : Str → Option Value} {base : Heap} {CF fFI CR : Addr}
theorem scRW : FnScope ["self", "words", "word", "signs"] ["self", "words"] (defScope sRW) := ⟨rfl, rfl, rfl, by decide +kernel, rfl, by decide +kernel, by decide +kernel⟩
theorem ok_RW {f fS fRS fSB : Addr} {fd fdS fdI fdRS fdSB : FuncData} (F : Fun K "read_word" "Reader.read_word" sRW f fd) (T : Txt K mg CF fFI CR) (mS : Meth K CR "shows" fS) (GS : FnOk P w K mg base CX0 2 fS fdS ["self", "signs"] (spSh K CR)) (bS : Binds K fdS ["self", "signs"] [])
    (GI : FnOk P w K mg base CX0 1 fFI fdI ["self", "rule", "place"] (spFI CF)) (bI : Binds K fdI ["self", "rule", "place"] [])
    (mR : Meth K CR "read_sign" fRS) (GR : FnOk P w K mg base (L2.CX P w) 3 fRS fdRS ["self", "signs"] (spRS K CR CF)) (bR : Binds K fdRS ["self", "signs"] [])
    (gB : mg "signs_behind" = some (.ref fSB)) (kB : PySem.W.keepIn K (.ref fSB) = true) (GB : FnOk P w K mg base CX0 1 fSB fdSB ["beginning", "words"] (spSB K)) (bB : Binds K fdSB ["beginning", "words"] []) :
    FnOk P w K mg base (L2.CX P w) 4 f fd ["self", "words"] (spRW K CR CF) := by
  refine F.okX scRW (fun vs H Q E h => ?_) (fun cdv A outer s H vs Q E hr h => ?_)
  · obtain ⟨r, dx, ta, t, p, wl, ws, rfl, _⟩ := h
    rfl
  · obtain ⟨r, dx, ta, t, p0, wl, ws, rfl, a, hq, hl1, hl2, q⟩ := h
    obtain ⟨u, hu⟩ := T.rule
    have hr2 : Room 2 _ := hr.mono (by decide)
    have hr1 : Room 1 _ := hr.mono (by decide)
    refine ⟨_, pss_cons (ps_set (i := 2) scRW.nd rfl (Or.inl rfl) pe_str)
      (pss_cons (ps_set (i := 3) scRW.nd rfl (Or.inl rfl) (pe_call GB hr1 rfl gB kB bB .nil pass0 (pa_cons (pv 2) (pa_cons (pv 1) pa_nil))))
      (pss_cons (ps_while (passes_of rfl) (pt_val (pe_meth (pv 0) T.cl mS GS hr2 bS .nil pass0 (pa_cons (pv 3) pa_nil)))
        (pss_cons (ps_aug (i := 2) scRW.nd rfl (Or.inl rfl) (pe_meth (pv 0) T.cl mR GR hr bR .nil (passes_call (takes_of rfl rfl rfl rfl) (fun _ _ _ _ h => h)) (pa_cons (pv 3) pa_nil)) in_addS)
          (pss_one (ps_set (i := 3) scRW.nd rfl (Or.inl rfl) (pe_call GB hr1 rfl gB kB bB .nil pass0 (pa_cons (pv 2) (pa_cons (pv 1) pa_nil)))))))
      (pss_cons (ps_if (pt_cmpR op_notIn_seq (pv 2) (pv 1) rfl)
          (pss_one (ps_raise rfl (takes_of rfl rfl rfl rfl) (pmk_oex T.ox T.iF T.tF GI hr2 bI .nil pass0 rfl T.gF (pa_cons (pe_glob (v := .int 11) rfl hu ⟨_, rfl⟩) (pa_cons (pe_fld (pv 0) rfl) pa_nil))))) pss_nil)
      (pss_one (ps_ret (pv 2)))))), ?_⟩
    refine ⟨_, rfl, _, rfl, wl, [], ws, rfl, hq, hl1, Nat.zero_le _, fun w hw => Nat.le_trans (hl2 w hw) (by decide), fun H1 D sm nD eD => ?_⟩
    refine ⟨fun m σ H1 => ∃ (acc : List Nat) (p : Nat) (sl : Addr), σ = [some (.ref r), some (.ref wl), some (stV acc), some (.ref sl)] ∧ At K CR r dx ta t H1 p ∧ Only r r H H1 ∧ H1 sl = some (.lst ((heads (tag acc ws)).map sgV)) ∧
      munch (t.drop p0) (tag [] ws) p0 = munch (t.drop p) (tag acc ws) p ∧ acc.length ≤ 1000 ∧ m = t.length - p, ⟨_, [], p0, D, rfl, a.same sm, Only.same sm, eD, rfl, Nat.zero_le _, rfl⟩, ?_⟩
    rintro m σ H2 ⟨acc, p, sl, rfl, a2, on, es, em, hacc, rfl⟩
    refine ⟨_, rfl, r, dx, _, rfl, a2.ob, rfl, _, rfl, r, dx, ta, t, p, _, heads (tag acc ws), rfl, a2, .inr ⟨sl, rfl, SqL.of es⟩, Nat.le_trans (heads_len _ _) hl1, fun H3 sm3 => ⟨_, rfl, ?_⟩⟩
    have a3 := a2.same sm3
    have on3 : Only r r H H3 := on.trans (Only.same sm3)
    have hq3 : SqL K H3 wl (ws.map stV) := seq_only1 hq a.ob on3
    cases hsh : showsM (heads (tag acc ws)) (t.drop p) with
    | true =>
      refine iteT ?_
      obtain ⟨c, l, ed, hc⟩ := shows_yes hsh
      refine ⟨fun σ H1 => ∃ (acc : List Nat) (p' : Nat) (sl : Addr), σ = [some (.ref r), some (.ref wl), some (stV acc), some (.ref sl)] ∧ At K CR r dx ta t H1 p' ∧ Only r r H H1 ∧ H1 sl = some (.lst ((heads (tag acc ws)).map sgV)) ∧
        munch (t.drop p0) (tag [] ws) p0 = munch (t.drop p') (tag acc ws) p' ∧ acc.length ≤ 1000 ∧ p' = p + 1, ?_, ?_⟩
      · rintro σ' H' ⟨acc', p', sl', e, a4, on4, es4, em4, hacc4, rfl⟩
        have := drop_lt ed
        exact ⟨_, by omega, acc', p + 1, sl', e, a4, on4, es4, em4, hacc4, rfl⟩
      · refine ⟨_, rfl, _, rfl, r, dx, _, rfl, a3.ob, rfl, _, rfl, r, dx, ta, t, p, _, heads (tag acc ws), rfl, a3, .inr ⟨sl, rfl, SqL.of (sm3 _ _ es)⟩, Nat.le_trans (heads_len _ _) hl1, ?_, ?_⟩
        · intro k hk
          rw [ed, signM_hit hc] at hk
          cases hk
        · intro c' q' hk H4 v ev a4 on4
          subst ev
          rw [ed, signM_hit hc] at hk
          have hk1 := Except.ok.inj hk
          have e1 : c.toNat = c' := (Prod.mk.inj hk1).1
          have e2 : p + 1 = q' := (Prod.mk.inj (Prod.mk.inj hk1).2).1
          subst e1
          subst e2
          obtain ⟨w, hw, hlt⟩ := heads_mem hc
          have hw2 := hl2 w hw
          have on5 : Only r r H H4 := on3.trans on4
          have hq4 : SqL K H4 wl (ws.map stV) := seq_only1 hq a.ob on5
          refine ⟨S acc, _, rfl, rfl, ?_, ?_⟩
          · rw [S_len]
            show acc.length + 1 ≤ sizeLine
            exact Nat.le_of_lt (small1000 (by omega))
          · refine ⟨_, rfl, _, rfl, wl, acc ++ [c.toNat], ws, ?_, hq4, hl1, by rw [List.length_append]; show acc.length + 1 ≤ 1000; omega, fun w hw => Nat.le_trans (hl2 w hw) (by decide), fun H5 D5 sm5 nD5 eD5 => ?_⟩
            · show [V.str (S acc ++ S [c.toNat]), V.ref wl] ++ [] = [stV (acc ++ [c.toNat]), V.ref wl]
              rw [S_cat]
              rfl
            · refine ⟨acc ++ [c.toNat], p + 1, D5, ?_, a4.same sm5, on5.trans (Only.same sm5), eD5, ?_, by rw [List.length_append]; show acc.length + 1 ≤ 1000; omega, rfl⟩
              · show [some (V.ref r), some (V.ref wl), some (V.str (S acc ++ S [c.toNat])), some (V.ref D5)] = _
                rw [S_cat]
              · rw [em, ed, munch_go hc, drop_succ ed]
    | false =>
      refine iteF ?_
      have st := munch_stop (ws := ws) (acc := acc) (p := p) (b := t.drop p) (shows_no hsh)
      rw [← em] at st
      refine ⟨_, rfl, _, rfl, wl, _, rfl, .inl hq3, rfl, flat_st ws, _, rfl, ?_⟩
      rw [inV_st]
      by_cases hm : acc ∈ ws
      · refine if_false_of (by rw [decide_eq_true hm]; rfl) ?_
        rw [if_pos hm] at st
        exact ⟨_, rfl, q.2 acc p st H3 _ rfl a3 on3⟩
      · refine if_true_of (by rw [decide_eq_false hm]; rfl) ?_
        rw [if_neg hm] at st
        refine ⟨_, rfl, r, CR, dx, _, _, rfl, a3.ob, T.cl, T.nPlace, look_place ta p, ?_⟩
        exact raise_ok fun d H' e => q.1 p st d H' e
end
end Ab

set_option Elab.async false
set_option linter.all false
set_option maxRecDepth 100000
set_option maxHeartbeats 2000000
namespace Ab
open PySem PySem.Spec PyProof.Rows L2 AbM
open Na (Bytes)
/-- what is open, as the program keeps it: the innermost last -/
def bkW (k : Nat) : List Nat := if k = 1 then wIf else if k = 0 then wWhile else wElse
abbrev bkV (o : List Nat) : List V := o.reverse.map fun k => stV (bkW k)
def spLW (K : PySem.W.Frag) : Sp := fun vs H Q _ => ∃ (bl : Addr) (o : List Nat), vs = [.ref bl] ∧ H bl = some (.lst (bkV o)) ∧ o.length ≤ 16 ∧
  ∀ (H' : Hp) (D : Addr), Same H H' → H D = none → H' D = some (.lst ((lineWords o).map stV)) → Q (.ref D) H'
/-- what the grammar's top has written -/
structure Gram (mg : Str → Option Value) : Prop where
  blocks : ∃ u, mg "MOST_BLOCKS" = some (.int 16 u)
  bracks : ∃ u, mg "MOST_BRACKETS" = some (.int 16 u)
  mdig : ∃ u, mg "MOST_DIGITS" = some (.int 4 u)
  digits : ∃ u, mg "DIGITS" = some (.str "0123456789" u)
  heads : ∃ u, mg "HEADS" = some (.str "abcdefgh" u)
  marks : ∃ u, mg "MARKS" = some (.str "ABCDEFGH" u)
theorem bkW_if {k : Nat} (h : k ≠ 1) : bkW k ≠ wIf := by
  unfold bkW
  rw [if_neg h]
  split <;> decide
def lwX (o : List Nat) : List (List Nat) := [wAdd, wTake, wSet, wStop, wFail] ++ (if o.length < 16 then [wIf, wWhile] else [])
theorem lwX_len (o : List Nat) : (lwX o).length ≤ 10 := by
  unfold lwX
  split <;> decide
theorem lw_if (r : List Nat) : lineWords (1 :: r) = lwX (1 :: r) ++ [wEnd] ++ [wElse] := by
  rw [List.append_assoc]
  rfl
theorem lw_other {k : Nat} (r : List Nat) (h : k ≠ 1) : lineWords (k :: r) = lwX (k :: r) ++ [wEnd] := by
  show ([wAdd, wTake, wSet, wStop, wFail] ++ (if (k :: r).length < 16 then [wIf, wWhile] else [])) ++ (wEnd :: (if some k = some 1 then [wElse] else [])) = _
  rw [if_neg (fun z => h (Option.some.inj z))]
  rfl
section
variable {P : Program} {w : World} {K : PySem.W.Frag} {mg : Str → Option Value} {base : Heap} {CF fFI CR : Addr}
theorem scLW : FnScope ["blocks", "words"] ["blocks"] (defScope sLW) := ⟨rfl, rfl, rfl, by decide +kernel, rfl, by decide +kernel, by decide +kernel⟩
theorem ok_LW {f : Addr} {fd : FuncData} (F : Fun K "line_words" "line_words" sLW f fd) (T : Txt K mg CF fFI CR) (G : Gram mg) : FnOk P w K mg base CX0 1 f fd ["blocks"] (spLW K) := by
  refine F.ok scLW (fun vs H Q E h => ?_) (fun cdv A outer s H vs Q E hr h => ?_)
  · obtain ⟨bl, o, rfl, _⟩ := h
    rfl
  · obtain ⟨bl, o, rfl, hb, ho, q⟩ := h
    obtain ⟨u, hu⟩ := G.blocks
    refine ⟨_, pss_cons (ps_set (i := 1) scLW.nd rfl (Or.inl rfl) (pe_lst (pa_cons pe_str (pa_cons pe_str (pa_cons pe_str (pa_cons pe_str (pa_cons pe_str pa_nil)))))))
      (C8.pss_cut (ps_if (pt_cmpR op_lt (pe_callB call_len_seq (by rfl) T.len PySem.boot_len (pa_cons (pv 0) pa_nil)) (pe_glob (v := .int 16) rfl hu ⟨_, rfl⟩) (nomark _))
        (pss_one (ps_expr (pe_bm PySem.F.plainAttrs_list PySem.F.slot_list_extend PySem.F.type_list_extend mt_extend (pv 1) (pa_cons (pe_lst (pa_cons pe_str (pa_cons pe_str pa_nil))) pa_nil)))) pss_nil)
      (C8.pss_cut (ps_if (pt_truth (pv 0) (by intro _; rfl))
        (pss_cons (ps_expr (pe_bm PySem.F.plainAttrs_list PySem.F.slot_list_append PySem.F.type_list_append mt_append (pv 1) (pa_cons pe_str pa_nil)))
          (pss_one (ps_if (pt_cmpR op_eq (pe_ix ix_list (pv 0) (pe_un un_neg pe_int) (fun _ _ => rfl)) pe_str (nomark _))
            (pss_one (ps_expr (pe_bm PySem.F.plainAttrs_list PySem.F.slot_list_append PySem.F.type_list_append mt_append (pv 1) (pa_cons pe_str pa_nil)))) pss_nil))) pss_nil)
      (pss_one (ps_ret (pv 1))))), ?_⟩
    refine ⟨by show 5 ≤ sizeLine; exact Nat.le_of_lt (small1000 (by decide)), fun D nD => ?_⟩
    have e0 : ([V.str "add ", V.str "take ", V.str "set ", V.str "stop\n", V.str "fail\n"] : List V) = ([wAdd, wTake, wSet, wStop, wFail] : List (List Nat)).map stV := by rfl
    refine ⟨fun σ H1 => σ = [some (.ref bl), some (.ref D)] ∧ Same H H1 ∧ H1 D = some (.lst ((lwX o).map stV)), ?_, ?_⟩
    · have hb1 : (upd H D (.lst (([wAdd, wTake, wSet, wStop, wFail] : List (List Nat)).map stV))) bl = some (.lst (bkV o)) := by rw [upd_ne (ne_of_none hb nD)]; exact hb
      refine ⟨_, rfl, bl, _, rfl, .inl (SqL.of hb1), _, _, rfl, rfl, _, rfl, ?_⟩
      have el : ((bkV o).length : Nat) = o.length := by simp
      by_cases hl : o.length < 16
      · refine if_true_of (by rw [el]; exact decide_eq_true (by omega)) ?_
        refine ⟨_, rfl, .inl ⟨rfl, _, SqL.of upd_same⟩, by show 2 ≤ sizeLine; exact Nat.le_of_lt (small1000 (by decide)), fun D2 nD2 => ?_⟩
        have nd : D ≠ D2 := ne_of_none upd_same nD2
        refine ⟨D, D2, _, _, rfl, rfl, by rw [upd_ne nd]; exact upd_same, upd_same, by show 5 + 2 ≤ sizeLine; exact Nat.le_of_lt (small1000 (by decide)), rfl, ?_, ?_⟩
        · refine fun b x e => ?_
          have n1 := ne_of_none e nD
          have n2 : b ≠ D2 := by
            have : (upd H D (.lst (([wAdd, wTake, wSet, wStop, wFail] : List (List Nat)).map stV))) b = some x := by rw [upd_ne n1]; exact e
            exact ne_of_none this nD2
          rw [upd_ne n1, upd_ne n2]
          show upd H D _ b = _
          rw [upd_ne n1]
          exact e
        · rw [upd_same]
          unfold lwX
          rw [if_pos hl]
          rfl
      · refine if_false_of (by rw [el]; exact decide_eq_false (by omega)) ?_
        refine ⟨rfl, same_upd nD, ?_⟩
        unfold lwX
        rw [if_neg hl]
        exact upd_same
    · rintro σ H1 ⟨rfl, sm, eD⟩
      have hb1 := sm _ _ hb
      refine ⟨fun σ H1 => σ = [some (.ref bl), some (.ref D)] ∧ Same H H1 ∧ H1 D = some (.lst ((lineWords o).map stV)), ?_, ?_⟩
      · refine ⟨_, rfl, !(bkV o).isEmpty, .inl ⟨_, SqL.of hb1, rfl⟩, ?_⟩
        cases o with
        | nil =>
          refine if_false_of rfl ?_
          refine ⟨rfl, sm, ?_⟩
          rw [eD]
          rfl
        | cons k r =>
          have hne : (!(bkV (k :: r)).isEmpty) = true := by simp [bkV]
          refine if_true_of hne ?_
          refine ⟨_, rfl, .inl ⟨rfl, _, SqL.of eD⟩, D, _, _, rfl, rfl, eD, ?_, ?_⟩
          · rw [List.length_map]
            have := lwX_len (k :: r)
            exact small1000 (by omega)
          · have nb : bl ≠ D := ne_of_none hb nD
            have hb2 : ∀ o', (upd H1 D o') bl = some (.lst (bkV (k :: r))) := fun o' => by rw [upd_ne nb]; exact hb1
            have elast : bkV (k :: r) = bkV r ++ [stV (bkW k)] := by
              show ((k :: r).reverse.map _) = _
              rw [List.reverse_cons, List.map_append]
              rfl
            refine ⟨_, rfl, _, rfl, bl, _, _, _, rfl, rfl, SqL.of (hb2 _), by rw [elast]; exact atI_last _ _, rfl, _, rfl, ?_⟩
            have sm2 : ∀ o', Same H (upd H1 D o') := fun o' b x e => by
              rw [upd_ne (ne_of_none e nD)]
              exact sm b x e
            by_cases hk : k = 1
            · subst hk
              refine if_true_of (by rfl) ?_
              refine ⟨_, rfl, .inl ⟨rfl, _, SqL.of upd_same⟩, D, _, _, rfl, rfl, upd_same, ?_, rfl, ?_, ?_⟩
              · rw [List.length_append, List.length_map]
                have := lwX_len (1 :: r)
                exact small1000 (by show _ + 1 ≤ 1000; omega)
              · rw [upd_upd]
                exact sm2 _
              · rw [upd_same]
                rw [lw_if, List.map_append, List.map_append]
                rfl
            · refine if_false_of (decide_eq_false fun z => ?_) ?_
              · have z' : S (bkW k) = S wIf := by
                  have := V.str.inj z
                  exact this
                exact bkW_if hk (S_inj z')
              · refine ⟨rfl, sm2 _, ?_⟩
                rw [upd_same]
                rw [lw_other r hk, List.map_append]
                rfl
      · rintro σ H2 ⟨rfl, sm2, eD2⟩
        exact ⟨_, rfl, q H2 D sm2 nD eD2⟩
end
end Ab

set_option Elab.async false
set_option linter.all false
set_option maxRecDepth 100000
set_option maxHeartbeats 2000000
namespace Ab
open PySem PySem.Spec PyProof.Rows L2 AbM
open Na (Bytes)
/-- what closes the brackets that are open, as the program keeps it: the innermost last -/
abbrev clV (cs : List UInt8) : List V := cs.reverse.map fun c => sgV c.toNat
theorem clV_cons (k : UInt8) (cs : List UInt8) : clV (k :: cs) = clV cs ++ [sgV k.toNat] := by
  show ((k :: cs).reverse.map _) = _
  rw [List.reverse_cons, List.map_append]
  rfl
theorem clV_len (cs : List UInt8) : (clV cs).length = cs.length := by simp
def spRO (K : PySem.W.Frag) (CR : Addr) : Sp := fun vs H Q _ => ∃ (r dx ta cl : Addr) (t : Bytes) (p : Nat) (cs : List UInt8), vs = [.ref r, .ref cl] ∧ At K CR r dx ta t H p ∧ H cl = some (.lst (clV cs)) ∧ Apart K ta cl (bs t) ∧ Cl cs ∧ cs.length ≤ 16 ∧
  ∀ (q : Nat) (cs' : List UInt8) (H' : Hp), p ≤ q → At K CR r dx ta t H' q → Only r cl H H' → H' cl = some (.lst (clV cs')) → Cl cs' → cs'.length ≤ 16 → scan (t.drop p) .f cs p = scan (t.drop q) .f cs' q →
    (cs'.length < 16 → ∀ c l, t.drop q = c :: l → isBr c = false) → Q .non H'
def spRC (K : PySem.W.Frag) (CR : Addr) : Sp := fun vs H Q _ => ∃ (r dx ta cl : Addr) (t : Bytes) (p : Nat) (cs : List UInt8), vs = [.ref r, .ref cl] ∧ At K CR r dx ta t H p ∧ H cl = some (.lst (clV cs)) ∧ Apart K ta cl (bs t) ∧ Cl cs ∧ cs.length ≤ 16 ∧
  ∀ (q : Nat) (cs' : List UInt8) (H' : Hp), p ≤ q → At K CR r dx ta t H' q → Only r cl H H' → H' cl = some (.lst (clV cs')) → Cl cs' → cs'.length ≤ 16 → aft cs p (t.drop p) = aft cs' q (t.drop q) →
    (∀ k r, cs' = k :: r → ∀ c l, t.drop q = c :: l → c ≠ k) → Q .non H'
/-- the table of brackets -/
structure Brk (K : PySem.W.Frag) (mg : Str → Option Value) (w : World) (aB : Addr) : Prop where
  gB : mg "BRACKETS" = some (.ref aB)
  sq : KDct K w aB ⟨#[91]⟩ (sgV 93)
  rd : KDct K w aB ⟨#[40]⟩ (sgV 41)
section
variable {P : Program} {w : World} {K : PySem.W.Frag} {mg : Str → Option Value} {base : Heap} {CF fFI CR aB : Addr}
theorem Brk.at (B : Brk K mg w aB) {c : UInt8} (h : isBr c = true) : KDct K w aB ⟨#[c.toNat]⟩ (sgV (closer c).toNat) := by
  unfold isBr at h
  rcases (Bool.or_eq_true _ _).mp h with e | e
  · rw [beq_iff_eq] at e
    subst e
    exact B.sq
  · rw [beq_iff_eq] at e
    subst e
    exact B.rd
theorem scRO : FnScope ["reader", "closers"] ["reader", "closers"] (defScope sRO) := ⟨rfl, rfl, rfl, by decide +kernel, rfl, by decide +kernel, by decide +kernel⟩
theorem ok_RO {f fS fRS : Addr} {fd fdS fdRS : FuncData} (F : Fun K "read_opening_brackets" "read_opening_brackets" sRO f fd) (T : Txt K mg CF fFI CR) (G : Gram mg) (B : Brk K mg w aB) (mS : Meth K CR "shows" fS) (GS : FnOk P w K mg base CX0 2 fS fdS ["self", "signs"] (spSh K CR)) (bS : Binds K fdS ["self", "signs"] [])
    (mR : Meth K CR "read_sign" fRS) (GR : FnOk P w K mg base (L2.CX P w) 3 fRS fdRS ["self", "signs"] (spRS K CR CF)) (bR : Binds K fdRS ["self", "signs"] []) :
    FnOk P w K mg base (L2.CX P w) 4 f fd ["reader", "closers"] (spRO K CR) := by
  refine F.okX scRO (fun vs H Q E h => ?_) (fun cdv A outer s H vs Q E hr h => ?_)
  · obtain ⟨r, dx, ta, cl, t, p, cs, rfl, _⟩ := h
    rfl
  · obtain ⟨r, dx, ta, cl, t, p0, cs0, rfl, a, hc, nt, hcl, hl, q⟩ := h
    obtain ⟨u, hu⟩ := G.bracks
    have hr2 : Room 2 _ := hr.mono (by decide)
    have nr : r ≠ cl := ne_of a.ob hc (by intro z; cases z)
    refine ⟨_, pss_one (ps_while (passes_of rfl) (PW.pt (pw_and (pt_cmpR op_lt (pe_callB call_len_seq (by rfl) T.len PySem.boot_len (pa_cons (pv 1) pa_nil)) (pe_glob (v := .int 16) rfl hu ⟨_, rfl⟩) (nomark _))
        (pw_and1 (pt_val (pe_meth (pv 0) T.cl mS GS hr2 bS .nil pass0 (pa_cons pe_str pa_nil))))))
      (pss_one (ps_expr (pe_bm PySem.F.plainAttrs_list PySem.F.slot_list_append PySem.F.type_list_append mt_append (pv 1)
        (pa_cons (pe_ix ix_kdict (pe_glob (v := .ref aB) rfl B.gB rfl) (pe_meth (pv 0) T.cl mR GR hr bR .nil (passes_call (takes_of rfl rfl rfl rfl) (fun _ _ _ _ h => h)) (pa_cons pe_str pa_nil)) (fun _ _ => rfl)) pa_nil))))), ?_⟩
    refine ⟨fun m σ H1 => ∃ (cs : List UInt8) (p : Nat), σ = [some (.ref r), some (.ref cl)] ∧ At K CR r dx ta t H1 p ∧ Only r cl H H1 ∧ H1 cl = some (.lst (clV cs)) ∧ Cl cs ∧ cs.length ≤ 16 ∧
      scan (t.drop p0) .f cs0 p0 = scan (t.drop p) .f cs p ∧ p0 ≤ p ∧ m = t.length - p, ⟨_, cs0, p0, rfl, a, Only.refl, hc, hcl, hl, rfl, Nat.le_refl _, rfl⟩, ?_⟩
    rintro m σ H2 ⟨cs, p, rfl, a2, on, ec, hcs, hlen, es, hp, rfl⟩
    refine ⟨_, rfl, cl, _, rfl, .inl (SqL.of ec), _, _, rfl, rfl, _, rfl, ?_⟩
    by_cases h16 : cs.length < 16
    · refine if_true_of (by rw [clV_len]; exact decide_eq_true (by omega)) ?_
      refine ⟨_, rfl, r, dx, _, rfl, a2.ob, rfl, r, dx, ta, t, p, _, [91, 40], rfl, a2, .inl rfl, by show 2 ≤ 1000; decide, fun H3 sm3 => ⟨_, rfl, ?_⟩⟩
      have a3 := a2.same sm3
      have on3 : Only r cl H H3 := on.trans (Only.same sm3)
      have ec3 := sm3 _ _ ec
      cases hsh : showsM [91, 40] (t.drop p) with
      | true =>
        refine iteT ?_
        obtain ⟨c, l, ed, hm⟩ := shows_yes hsh
        have hb : isBr c = true := (isBr_iff c).mpr hm
        refine ⟨fun σ H1 => ∃ (cs : List UInt8) (p' : Nat), σ = [some (.ref r), some (.ref cl)] ∧ At K CR r dx ta t H1 p' ∧ Only r cl H H1 ∧ H1 cl = some (.lst (clV cs)) ∧ Cl cs ∧ cs.length ≤ 16 ∧
          scan (t.drop p0) .f cs0 p0 = scan (t.drop p') .f cs p' ∧ p0 ≤ p' ∧ p' = p + 1, ?_, ?_⟩
        · rintro σ' H' ⟨cs', p', e, a4, on4, ec4, hcs4, hl4, es4, hp4, rfl⟩
          have := drop_lt ed
          exact ⟨_, by omega, cs', p + 1, e, a4, on4, ec4, hcs4, hl4, es4, hp4, rfl⟩
        · refine ⟨_, rfl, .inl ⟨rfl, _, SqL.of ec3⟩, _, rfl, r, dx, _, rfl, a3.ob, rfl, r, dx, ta, t, p, _, [91, 40], rfl, a3, .inl rfl, by show 2 ≤ 1000; decide, ?_, ?_⟩
          · intro k hk
            rw [ed, signM_hit hm] at hk
            cases hk
          · intro c' q' hk H4 v ev a4 on4
            subst ev
            rw [ed, signM_hit hm] at hk
            have hk1 := Except.ok.inj hk
            have e1 : c.toNat = c' := (Prod.mk.inj hk1).1
            have e2 : p + 1 = q' := (Prod.mk.inj (Prod.mk.inj hk1).2).1
            subst e1
            subst e2
            have ec4 := on4 _ _ (Ne.symm nr) (Ne.symm nr) ec3
            refine ⟨aB, _, _, rfl, rfl, B.at hb, cl, _, _, rfl, rfl, ec4, ?_, ?_⟩
            · rw [clV_len]
              exact small1000 (by omega)
            · refine ⟨closer c :: cs, p + 1, rfl, a4.updc nr nt, on3.trans ((Only.wide on4).trans Only.updc), ?_, closer_cl hcs c, by rw [List.length_cons]; omega, ?_, by omega, rfl⟩
              · rw [upd_same, clV_cons]
              · rw [es, ed, scan_open hb h16, drop_succ ed]
      | false =>
        refine iteF ?_
        refine q p cs H3 hp a3 on3 ec3 hcs hlen es fun _ c l ed => ?_
        have := shows_no hsh c l ed
        cases hb : isBr c with
        | false => rfl
        | true => exact absurd ((isBr_iff c).mp hb) this
    · refine if_false_of (by rw [clV_len]; exact decide_eq_false (by omega)) ?_
      refine if_false_of rfl ?_
      exact q p cs H2 hp a2 on ec hcs hlen es fun z => absurd z h16
theorem scRC : FnScope ["reader", "closers"] ["reader", "closers"] (defScope sRC) := ⟨rfl, rfl, rfl, by decide +kernel, rfl, by decide +kernel, by decide +kernel⟩
theorem ok_RC {f fS fRS : Addr} {fd fdS fdRS : FuncData} (F : Fun K "read_closing_brackets" "read_closing_brackets" sRC f fd) (T : Txt K mg CF fFI CR) (mS : Meth K CR "shows" fS) (GS : FnOk P w K mg base CX0 2 fS fdS ["self", "signs"] (spSh K CR)) (bS : Binds K fdS ["self", "signs"] [])
    (mR : Meth K CR "read_sign" fRS) (GR : FnOk P w K mg base (L2.CX P w) 3 fRS fdRS ["self", "signs"] (spRS K CR CF)) (bR : Binds K fdRS ["self", "signs"] []) :
    FnOk P w K mg base (L2.CX P w) 4 f fd ["reader", "closers"] (spRC K CR) := by
  refine F.okX scRC (fun vs H Q E h => ?_) (fun cdv A outer s H vs Q E hr h => ?_)
  · obtain ⟨r, dx, ta, cl, t, p, cs, rfl, _⟩ := h
    rfl
  · obtain ⟨r, dx, ta, cl, t, p0, cs0, rfl, a, hc, nt, hcl, hl, q⟩ := h
    have hr2 : Room 2 _ := hr.mono (by decide)
    have nr : r ≠ cl := ne_of a.ob hc (by intro z; cases z)
    refine ⟨_, pss_one (ps_while (passes_of rfl) (PW.pt (pw_and (pt_truth (pv 1) (by intro _; rfl))
        (pw_and1 (pt_val (pe_meth (pv 0) T.cl mS GS hr2 bS .nil pass0 (pa_cons (pe_ix ix_list (pv 1) (pe_un un_neg pe_int) (fun _ _ => rfl)) pa_nil))))))
      (pss_one (ps_expr (pe_meth (pv 0) T.cl mR GR hr bR .nil (passes_call (takes_of rfl rfl rfl rfl) (fun _ _ _ _ h => h)) (pa_cons (pe_bm0 PySem.F.plainAttrs_list PySem.F.slot_list_pop PySem.F.type_list_pop mt_pop (pv 1)) pa_nil))))), ?_⟩
    refine ⟨fun m σ H1 => ∃ (cs : List UInt8) (p : Nat), σ = [some (.ref r), some (.ref cl)] ∧ At K CR r dx ta t H1 p ∧ Only r cl H H1 ∧ H1 cl = some (.lst (clV cs)) ∧ Cl cs ∧ cs.length ≤ 16 ∧
      aft cs0 p0 (t.drop p0) = aft cs p (t.drop p) ∧ p0 ≤ p ∧ m = t.length - p, ⟨_, cs0, p0, rfl, a, Only.refl, hc, hcl, hl, rfl, Nat.le_refl _, rfl⟩, ?_⟩
    rintro m σ H2 ⟨cs, p, rfl, a2, on, ec, hcs, hlen, es, hp, rfl⟩
    refine ⟨_, rfl, !(clV cs).isEmpty, .inl ⟨_, SqL.of ec, rfl⟩, ?_⟩
    cases cs with
    | nil =>
      refine if_false_of rfl ?_
      refine if_false_of rfl ?_
      exact q p [] H2 hp a2 on ec hcs hlen es fun k r e => by cases e
    | cons k rest =>
      refine if_true_of (by simp) ?_
      have elast : atI (clV (k :: rest)) (-1) = some (sgV k.toNat) := by
        rw [clV_cons]
        exact atI_last _ _
      refine ⟨_, rfl, r, dx, _, rfl, a2.ob, rfl, _, rfl, _, rfl, cl, _, _, _, rfl, rfl, SqL.of ec, elast, r, dx, ta, t, p, sgV k.toNat, [k.toNat], rfl, a2, .inl rfl, by show 1 ≤ 1000; decide, fun H3 sm3 => ⟨_, rfl, ?_⟩⟩
      have a3 := a2.same sm3
      have on3 : Only r cl H H3 := on.trans (Only.same sm3)
      have ec3 := sm3 _ _ ec
      cases hsh : showsM [k.toNat] (t.drop p) with
      | true =>
        refine iteT ?_
        obtain ⟨c, l, ed, hm⟩ := shows_hit hsh
        have ek : c = k := UInt8.toNat_inj.mp hm
        subst ek
        refine ⟨fun σ H1 => ∃ (cs : List UInt8) (p' : Nat), σ = [some (.ref r), some (.ref cl)] ∧ At K CR r dx ta t H1 p' ∧ Only r cl H H1 ∧ H1 cl = some (.lst (clV cs)) ∧ Cl cs ∧ cs.length ≤ 16 ∧
          aft cs0 p0 (t.drop p0) = aft cs p' (t.drop p') ∧ p0 ≤ p' ∧ p' = p + 1, ?_, ?_⟩
        · rintro σ' H' ⟨cs', p', e, a4, on4, ec4, hcs4, hl4, es4, hp4, rfl⟩
          have := drop_lt ed
          exact ⟨_, by omega, cs', p + 1, e, a4, on4, ec4, hcs4, hl4, es4, hp4, rfl⟩
        · have a4 := a3.updc (o := .lst (clV rest)) nr nt
          have elast2 : (clV (c :: rest))[(clV (c :: rest)).length - 1]? = some (sgV c.toNat) := by
            rw [clV_cons]
            simp
          have edrop : (clV (c :: rest)).dropLast = clV rest := by
            rw [clV_cons, List.dropLast_concat]
          refine ⟨_, rfl, r, dx, _, rfl, a3.ob, rfl, _, rfl, .inl ⟨rfl, _, SqL.of ec3⟩, cl, _, _, rfl, rfl, ec3, elast2, ?_⟩
          rw [edrop]
          have hh : c.toNat ∈ [c.toNat] := List.mem_cons_self
          refine ⟨r, dx, ta, t, p, sgV c.toNat, [c.toNat], rfl, a4, .inl rfl, by show 1 ≤ 1000; decide, ?_, ?_⟩
          · intro j hk
            rw [ed, signM_hit hh] at hk
            cases hk
          · intro c' q' hk H4 v ev a5 on4
            rw [ed, signM_hit hh] at hk
            have e2 : p + 1 = q' := (Prod.mk.inj (Prod.mk.inj (Except.ok.inj hk)).2).1
            subst e2
            refine ⟨rest, p + 1, rfl, a5, on3.trans (Only.updc.trans (Only.wide on4)), ?_, fun k hk => hcs k (List.mem_cons_of_mem _ hk), by rw [List.length_cons] at hlen; omega, ?_, by omega, rfl⟩
            · exact on4 _ _ (Ne.symm nr) (Ne.symm nr) upd_same
            · rw [es, ed, aft_shut, drop_succ ed]
      | false =>
        refine iteF ?_
        refine q p (k :: rest) H3 hp a3 on3 ec3 hcs hlen es fun k' r' e c l ed z => ?_
        have e1 := (List.cons.inj e).1
        subst e1
        subst z
        exact shows_no hsh c l ed List.mem_cons_self
end
end Ab

set_option Elab.async false
set_option linter.all false
set_option maxRecDepth 100000
set_option maxHeartbeats 2000000
namespace Ab
open PySem PySem.Spec PyProof.Rows L2 AbM
open Na (Bytes isDigit exHere)
def spRN (K : PySem.W.Frag) (CR CF : Addr) : Sp := fun vs H Q E => ∃ (r dx ta : Addr) (t : Bytes) (p : Nat), vs = [.ref r] ∧ At K CR r dx ta t H p ∧
  Out K CR CF r dx ta t (numM p (t.drop p)) H r (fun _ _ v => v = .non) Q E
def spRE (K : PySem.W.Frag) (CR CF : Addr) : Sp := fun vs H Q E => ∃ (r dx ta : Addr) (t : Bytes) (p : Nat), vs = [.ref r] ∧ At K CR r dx ta t H p ∧
  Out K CR CF r dx ta t (exHere p (t.drop p)) H r (fun _ _ v => v = .non) Q E
theorem mem_dig {c : Nat} (h : c ∈ nDig) : c ∈ nDig ++ nHead ++ nMark := List.mem_append_left _ (List.mem_append_left _ h)
theorem numM_error {p : Nat} {b : Bytes} (h : showsM (nDig ++ nHead ++ nMark) b = false) : numM p b = .error p := by
  cases b with
  | nil => rfl
  | cons c l =>
    have hn := shows_no h c l rfl
    have h1 : ¬ isDigit c = true := fun z => hn (mem_dig ((isDigit_iff c).mp z))
    have h0 : c ≠ 48 := fun z => h1 (by subst z; rfl)
    have h2 : ¬ isLet c = true := fun z => hn (by rw [List.append_assoc]; exact List.mem_append_right _ ((isLet_iff c).mp z))
    rw [numM_cons, if_neg h0, if_neg h1, if_neg h2]
theorem signM_cases (cs : List Nat) (p : Nat) (b : Bytes) : (∃ c l, b = c :: l ∧ c.toNat ∈ cs ∧ signM cs p b = .ok (c.toNat, p + 1, l)) ∨ (showsM cs b = false ∧ signM cs p b = .error p) := by
  cases h : showsM cs b with
  | true =>
    obtain ⟨c, l, e, hm⟩ := shows_yes h
    subst e
    exact .inl ⟨c, l, rfl, hm, signM_hit hm⟩
  | false => exact .inr ⟨rfl, signM_miss h⟩
section
variable {P : Program} {w : World} {K : PySem.W.Frag} {mg : Str → Option Value} {base : Heap} {CF fFI CR aB : Addr}
theorem scRN : FnScope ["reader", "first", "size"] ["reader"] (defScope sRN) := ⟨rfl, rfl, rfl, by decide +kernel, rfl, by decide +kernel, by decide +kernel⟩
theorem ok_RN {f fS fRS : Addr} {fd fdS fdRS : FuncData} (F : Fun K "read_number_or_letter" "read_number_or_letter" sRN f fd) (T : Txt K mg CF fFI CR) (G : Gram mg) (mS : Meth K CR "shows" fS) (GS : FnOk P w K mg base CX0 2 fS fdS ["self", "signs"] (spSh K CR)) (bS : Binds K fdS ["self", "signs"] [])
    (mR : Meth K CR "read_sign" fRS) (GR : FnOk P w K mg base (L2.CX P w) 3 fRS fdRS ["self", "signs"] (spRS K CR CF)) (bR : Binds K fdRS ["self", "signs"] []) :
    FnOk P w K mg base (L2.CX P w) 4 f fd ["reader"] (spRN K CR CF) := by
  refine F.okX scRN (fun vs H Q E h => ?_) (fun cdv A outer s H vs Q E hr h => ?_)
  · obtain ⟨r, dx, ta, t, p, rfl, _⟩ := h
    rfl
  · obtain ⟨r, dx, ta, t, p, rfl, a, q⟩ := h
    obtain ⟨uD, hD⟩ := G.digits
    obtain ⟨uH, hH⟩ := G.heads
    obtain ⟨uM, hM⟩ := G.marks
    obtain ⟨uN, hN⟩ := G.mdig
    have hr2 : Room 2 _ := hr.mono (by decide)
    refine ⟨_, pss_cons (ps_set (i := 1) scRN.nd rfl (Or.inl rfl) (pe_meth (pv 0) T.cl mR GR hr bR .nil (passes_call (takes_of rfl rfl rfl rfl) (fun _ _ _ _ h => h))
        (pa_cons (pe_op op_add_str (pe_op op_add_str (pe_glob (v := .str "0123456789") rfl hD ⟨_, rfl⟩) (pe_glob (v := .str "abcdefgh") rfl hH ⟨_, rfl⟩)) (pe_glob (v := .str "ABCDEFGH") rfl hM ⟨_, rfl⟩)) pa_nil)))
      (pss_one (ps_if (PW.pt (pw_and (pt_cmpR op_in_sign (pv 1) (pe_glob (v := .str "0123456789") rfl hD ⟨_, rfl⟩) rfl) (pw_and1 (pt_cmpR op_ne (pv 1) pe_str (nomark _)))))
        (pss_cons (ps_set (i := 2) scRN.nd rfl (Or.inl rfl) pe_int)
        (pss_one (ps_while (passes_of rfl) (PW.pt (pw_and (pt_cmpR op_lt (pv 2) (pe_glob (v := .int 4) rfl hN ⟨_, rfl⟩) (nomark _)) (pw_and1 (pt_val (pe_meth (pv 0) T.cl mS GS hr2 bS .nil pass0 (pa_cons (pe_glob (v := .str "0123456789") rfl hD ⟨_, rfl⟩) pa_nil))))))
          (pss_cons (ps_expr (pe_meth (pv 0) T.cl mR GR hr bR .nil (passes_call (takes_of rfl rfl rfl rfl) (fun _ _ _ _ h => h)) (pa_cons (pe_glob (v := .str "0123456789") rfl hD ⟨_, rfl⟩) pa_nil)))
            (pss_one (ps_aug (i := 2) scRN.nd rfl (Or.inl rfl) pe_int in_add)))))) pss_nil)), ?_⟩
    refine ⟨_, rfl, r, dx, _, rfl, a.ob, rfl, _, _, rfl, rfl, by show 18 ≤ sizeLine; exact Nat.le_of_lt (small1000 (by decide)), ?_⟩
    refine ⟨_, _, rfl, rfl, by show 26 ≤ sizeLine; exact Nat.le_of_lt (small1000 (by decide)), ?_⟩
    refine ⟨r, dx, ta, t, p, _, nDig ++ nHead ++ nMark, rfl, a, .inl (by rfl), by show 26 ≤ 1000; decide, ?_, ?_⟩
    · intro k hk
      rcases signM_cases (nDig ++ nHead ++ nMark) p (t.drop p) with ⟨c, l, ed, hm, e⟩ | ⟨hs, e⟩
      · rw [e] at hk
        cases hk
      · rw [e] at hk
        cases hk
        exact q.1 p (numM_error hs)
    · intro c' q' hk H1 v ev a1 on1
      subst ev
      rcases signM_cases (nDig ++ nHead ++ nMark) p (t.drop p) with ⟨c, l, ed, hm, e⟩ | ⟨hs, e⟩
      · rw [e] at hk
        have hk1 := Except.ok.inj hk
        have e1 : c.toNat = c' := (Prod.mk.inj hk1).1
        have e2 : p + 1 = q' := (Prod.mk.inj (Prod.mk.inj hk1).2).1
        have e3 : l = t.drop (p + 1) := (drop_succ ed).symm
        subst e1
        subst e2
        have en : numM p (t.drop p) = if c = 48 then .ok ((), p + 1, l) else if isDigit c = true then .ok ((), digs 3 (p + 1) l) else if isLet c = true then .ok ((), p + 1, l) else .error p := by rw [ed]; rfl
        refine ⟨_, rfl, c.toNat, _, rfl, rfl, _, rfl, ?_⟩
        by_cases hdg : isDigit c = true
        · refine if_true_of (decide_eq_true ((isDigit_iff c).mp hdg)) ?_
          refine ⟨_, rfl, rfl, _, rfl, ?_⟩
          by_cases h0 : c = 48
          · have ev : (!decide (sgV c.toNat = V.str "0")) = false := by rw [h0]; rfl
            refine if_false_of ev ?_
            rw [if_pos h0, e3] at en
            exact q.2 () (p + 1) en H1 _ rfl a1 on1
          · have ev : (!decide (sgV c.toNat = V.str "0")) = true := by
              rw [decide_eq_false]
              · rfl
              · intro z
                have z1 : S [c.toNat] = S [48] := V.str.inj z
                have z2 := List.cons.inj (S_inj z1)
                exact h0 (UInt8.toNat_inj.mp z2.1)
            refine if_true_of ev ?_
            rw [if_neg h0, if_pos hdg, e3] at en
            refine ⟨fun m σ H2 => ∃ (k p' : Nat), σ = [some (.ref r), some (sgV c.toNat), some (.int (k : Nat))] ∧ k ≤ 4 ∧ At K CR r dx ta t H2 p' ∧ Only r r H H2 ∧ digs 3 (p + 1) (t.drop (p + 1)) = digs (4 - k) p' (t.drop p') ∧ m = 4 - k,
              ⟨3, 1, p + 1, rfl, by decide, a1, on1, rfl, rfl⟩, ?_⟩
            rintro m σ H2 ⟨k, p', rfl, hk4, a2, on2, es, rfl⟩
            refine ⟨_, rfl, _, _, rfl, rfl, _, rfl, ?_⟩
            have stop : ∀ H3, At K CR r dx ta t H3 p' → Only r r H H3 → (4 - k = 0 ∨ ∀ c l, t.drop p' = c :: l → isDigit c = false) → Q .non H3 := fun H3 a3 on3 hs => by
              rw [es, digs_stop hs] at en
              exact q.2 () p' en H3 _ rfl a3 on3
            by_cases hk3 : k < 4
            · refine if_true_of (decide_eq_true (by omega)) ?_
              refine ⟨_, rfl, r, dx, _, rfl, a2.ob, rfl, r, dx, ta, t, p', _, nDig, rfl, a2, .inl (by rfl), by show 10 ≤ 1000; decide, fun H3 sm3 => ⟨_, rfl, ?_⟩⟩
              have a3 := a2.same sm3
              have on3 : Only r r H H3 := on2.trans (Only.same sm3)
              cases hsh : showsM nDig (t.drop p') with
              | true =>
                refine iteT ?_
                obtain ⟨d, l2, ed2, hm2⟩ := shows_yes hsh
                refine ⟨fun σ H2 => ∃ (k' p2 : Nat), σ = [some (.ref r), some (sgV c.toNat), some (.int (k' : Nat))] ∧ k' ≤ 4 ∧ At K CR r dx ta t H2 p2 ∧ Only r r H H2 ∧ digs 3 (p + 1) (t.drop (p + 1)) = digs (4 - k') p2 (t.drop p2) ∧ k' = k + 1, ?_, ?_⟩
                · rintro σ' H' ⟨k', p2, e, h1, h2, h3, h4, rfl⟩
                  exact ⟨_, by omega, k + 1, p2, e, h1, h2, h3, h4, rfl⟩
                · refine ⟨_, rfl, r, dx, _, rfl, a3.ob, rfl, r, dx, ta, t, p', _, nDig, rfl, a3, .inl (by rfl), by show 10 ≤ 1000; decide, ?_, ?_⟩
                  · intro j hj
                    rw [ed2, signM_hit hm2] at hj
                    cases hj
                  · intro c2 q2 hk2 H4 v2 ev2 a4 on4
                    rw [ed2, signM_hit hm2] at hk2
                    have e4 : p' + 1 = q2 := (Prod.mk.inj (Prod.mk.inj (Except.ok.inj hk2)).2).1
                    subst e4
                    refine ⟨_, rfl, _, _, rfl, rfl, k + 1, p' + 1, ?_, by omega, a4, on3.trans on4, ?_, rfl⟩
                    · show [some (V.ref r), some (sgV c.toNat), some (V.int ((k : Int) + 1))] = _
                      rfl
                    · have e5 : 4 - k = (4 - (k + 1)) + 1 := by omega
                      rw [es, ed2, e5, digs_go ((isDigit_iff d).mpr hm2), drop_succ ed2]
              | false =>
                refine iteF ?_
                refine stop H3 a3 on3 (.inr fun d l2 ed2 => ?_)
                have := shows_no hsh d l2 ed2
                cases hb : isDigit d with
                | false => rfl
                | true => exact absurd ((isDigit_iff d).mp hb) this
            · refine if_false_of (decide_eq_false (by omega)) ?_
              refine if_false_of rfl ?_
              exact stop H2 a2 on2 (.inl (by omega))
        · refine if_false_of (decide_eq_false fun z => hdg ((isDigit_iff c).mpr z)) ?_
          refine if_false_of rfl ?_
          have h0 : c ≠ 48 := fun z => hdg (by subst z; rfl)
          have hlt : isLet c = true := (isLet_iff c).mpr (by
            rw [List.append_assoc] at hm
            exact (List.mem_append.mp hm).resolve_left fun z => hdg ((isDigit_iff c).mpr z))
          rw [if_neg h0, if_neg hdg, if_pos hlt, e3] at en
          exact q.2 () (p + 1) en H1 _ rfl a1 on1
      · rw [e] at hk
        cases hk
end
end Ab

set_option Elab.async false
set_option linter.all false
set_option maxRecDepth 100000
set_option maxHeartbeats 2000000
namespace Ab
open PySem PySem.Spec PyProof.Rows L2 AbM
open Na (Bytes isDigit exHere)
section
variable {P : Program} {w : World} {K : PySem.W.Frag} {mg : Str → Option Value} {base : Heap} {CF fFI CR aB : Addr}
theorem scRE : FnScope ["reader", "closers", "going_on"] ["reader"] (defScope sRE) := ⟨rfl, rfl, rfl, by decide +kernel, rfl, by decide +kernel, by decide +kernel⟩
theorem numM_len {p : Nat} {b : Bytes} {u : Unit} {q : Nat} {c : Bytes} (h : numM p b = .ok (u, q, c)) : c.length < b.length := by
  cases b with
  | nil => cases h
  | cons d l =>
    rw [numM_cons] at h
    by_cases h0 : d = 48
    · rw [if_pos h0] at h
      cases h
      exact Nat.lt_succ_self _
    · rw [if_neg h0] at h
      by_cases h1 : isDigit d = true
      · rw [if_pos h1] at h
        obtain ⟨k, e1, e2⟩ := digs_len 3 (p + 1) l
        have e3 : (digs 3 (p + 1) l).2 = c := congrArg Prod.snd (Prod.mk.inj (Except.ok.inj h)).2
        rw [← e3, e2, List.length_drop, List.length_cons]
        omega
      · rw [if_neg h1] at h
        by_cases h2 : isLet d = true
        · rw [if_pos h2] at h
          cases h
          exact Nat.lt_succ_self _
        · rw [if_neg h2] at h
          cases h
theorem only_new {r cl : Addr} {H H' : Hp} {o : HO} (n : H cl = none) (k : Only r cl (upd H cl o) H') : Only r r H H' := fun b x h1 _ e => by
  have hb : b ≠ cl := ne_of_none e n
  exact k b x h1 hb (by rw [upd_ne hb]; exact e)
theorem ok_RE {f fS fRS fRO fRN fRC : Addr} {fd fdS fdRS fdRO fdRN fdRC : FuncData} (F : Fun K "read_expression" "read_expression" sRE f fd) (T : Txt K mg CF fFI CR) (mS : Meth K CR "shows" fS) (GS : FnOk P w K mg base CX0 2 fS fdS ["self", "signs"] (spSh K CR)) (bS : Binds K fdS ["self", "signs"] [])
    (mR : Meth K CR "read_sign" fRS) (GR : FnOk P w K mg base (L2.CX P w) 3 fRS fdRS ["self", "signs"] (spRS K CR CF)) (bR : Binds K fdRS ["self", "signs"] [])
    (gO : mg "read_opening_brackets" = some (.ref fRO)) (kO : PySem.W.keepIn K (.ref fRO) = true) (GO : FnOk P w K mg base (L2.CX P w) 4 fRO fdRO ["reader", "closers"] (spRO K CR)) (bO : Binds K fdRO ["reader", "closers"] [])
    (gN : mg "read_number_or_letter" = some (.ref fRN)) (kN : PySem.W.keepIn K (.ref fRN) = true) (GN : FnOk P w K mg base (L2.CX P w) 4 fRN fdRN ["reader"] (spRN K CR CF)) (bN : Binds K fdRN ["reader"] [])
    (gC : mg "read_closing_brackets" = some (.ref fRC)) (kC : PySem.W.keepIn K (.ref fRC) = true) (GC : FnOk P w K mg base (L2.CX P w) 4 fRC fdRC ["reader", "closers"] (spRC K CR)) (bC : Binds K fdRC ["reader", "closers"] []) :
    FnOk P w K mg base (L2.CX P w) 5 f fd ["reader"] (spRE K CR CF) := by
  refine F.okX scRE (fun vs H Q E h => ?_) (fun cdv A outer s H vs Q E hr h => ?_)
  · obtain ⟨r, dx, ta, t, p, rfl, _⟩ := h
    rfl
  · obtain ⟨r, dx, ta, t, p0, rfl, a, q⟩ := h
    have hr2 : Room 2 _ := hr.mono (by decide)
    have hr3 : Room 3 _ := hr.mono (by decide)
    refine ⟨_, pss_cons (ps_set (i := 1) scRE.nd rfl (Or.inl rfl) (pe_lst pa_nil))
      (pss_cons (ps_set (i := 2) scRE.nd rfl (Or.inl rfl) pe_bl)
      (pss_one (ps_while (passes_of rfl) (pt_val (pv 2))
        (pss_cons (ps_expr (pe_call GO hr rfl gO kO bO .nil (passes_call (takes_of rfl rfl rfl rfl) (fun _ _ _ _ h => h)) (pa_cons (pv 0) (pa_cons (pv 1) pa_nil))))
        (pss_cons (ps_expr (pe_call GN hr rfl gN kN bN .nil (passes_call (takes_of rfl rfl rfl rfl) (fun _ _ _ _ h => h)) (pa_cons (pv 0) pa_nil)))
        (pss_cons (ps_expr (pe_call GC hr rfl gC kC bC .nil (passes_call (takes_of rfl rfl rfl rfl) (fun _ _ _ _ h => h)) (pa_cons (pv 0) (pa_cons (pv 1) pa_nil))))
        (pss_cons (ps_set (i := 2) scRE.nd rfl (Or.inl rfl) (pe_or (pe_meth (pv 0) T.cl mS GS hr2 bS .nil pass0 (pa_cons pe_str pa_nil)) (pe_one (pe_cmpR op_gt (pe_callB call_len_seq (by rfl) T.len PySem.boot_len (pa_cons (pv 1) pa_nil)) pe_int (nomark _)))))
        (pss_one (ps_if (pt_val (pv 2)) (pss_one (ps_expr (pe_meth (pv 0) T.cl mR GR hr3 bR .nil (passes_call (takes_of rfl rfl rfl rfl) (fun _ _ _ _ h => h)) (pa_cons pe_str pa_nil)))) pss_nil))))))))), ?_⟩
    refine ⟨Nat.zero_le _, fun cl ncl => ?_⟩
    have nr : r ≠ cl := ne_of_none a.ob ncl
    have nt : Apart K ta cl (bs t) := Apart.new a.tx ncl
    refine ⟨fun m σ H1 => ∃ (cs : List UInt8) (p : Nat) (g : Bool), σ = [some (.ref r), some (.ref cl), some (.bl g)] ∧ At K CR r dx ta t H1 p ∧ Only r cl (upd H cl (.lst [])) H1 ∧ H1 cl = some (.lst (clV cs)) ∧ Cl cs ∧ cs.length ≤ 16 ∧
      (g = true → scan (t.drop p0) .f [] p0 = scan (t.drop p) .f cs p ∧ m = t.length - p + 1) ∧ (g = false → scan (t.drop p0) .f [] p0 = .ok (p, t.drop p)),
      ⟨_, [], p0, true, rfl, a.same (same_upd ncl), Only.refl, upd_same, (fun k h => absurd h List.not_mem_nil), by decide, fun _ => ⟨rfl, rfl⟩, fun h => Bool.noConfusion h⟩, ?_⟩
    rintro m σ H1 ⟨cs, p, g, rfl, a1, on1, ec1, hcs, hlen, hgt, hgf⟩
    refine ⟨_, rfl, _, rfl, ?_⟩
    cases g with
    | false =>
      refine iteF ?_
      obtain ⟨x, hx⟩ := ex_of_ok (hgf rfl)
      exact q.2 x p hx H1 _ rfl a1 (only_new ncl on1)
    | true =>
      refine iteT ?_
      obtain ⟨es, rfl⟩ := hgt rfl
      refine ⟨fun σ H1 => ∃ (cs : List UInt8) (p' : Nat) (g : Bool), σ = [some (.ref r), some (.ref cl), some (.bl g)] ∧ At K CR r dx ta t H1 p' ∧ Only r cl (upd H cl (.lst [])) H1 ∧ H1 cl = some (.lst (clV cs)) ∧ Cl cs ∧ cs.length ≤ 16 ∧
        (g = true → scan (t.drop p0) .f [] p0 = scan (t.drop p') .f cs p' ∧ p < p') ∧ (g = false → scan (t.drop p0) .f [] p0 = .ok (p', t.drop p')), ?_, ?_⟩
      · rintro σ' H' ⟨cs', p', g', e, b1, b2, b3, b4, b5, b6, b7⟩
        cases g' with
        | true =>
          obtain ⟨e1, lt⟩ := b6 rfl
          have := b1.le
          exact ⟨_, by omega, cs', p', true, e, b1, b2, b3, b4, b5, fun _ => ⟨e1, rfl⟩, b7⟩
        | false => exact ⟨0, by omega, cs', p', false, e, b1, b2, b3, b4, b5, fun h => Bool.noConfusion h, b7⟩
      · -- the brackets that open
        refine ⟨_, rfl, _, rfl, r, dx, ta, cl, t, p, cs, rfl, a1, ec1, nt, hcs, hlen, fun p2 cs2 H2 hp2 a2 on2 ec2 hcs2 hl2 es2 nb2 => ?_⟩
        have on2' := on1.trans on2
        rw [es2, scan_num nb2] at es
        -- the number
        refine ⟨_, rfl, r, dx, ta, t, p2, rfl, a2, ?_, ?_⟩
        · intro k hk
          rw [hk] at es
          exact q.1 k (ex_of_error es)
        · intro _ p3 hk H3 v ev a3 on3
          rw [hk] at es
          have es3 : scan (t.drop p0) .f [] p0 = aft cs2 p3 (t.drop p3) := es
          have lt3 : p2 < p3 := by
            cases hd : t.drop p2 with
            | nil =>
              rw [hd] at hk
              cases hk
            | cons c l =>
              have := numM_len hk
              have h1 := a3.le
              have h2 := drop_lt hd
              rw [List.length_drop, List.length_drop] at this
              omega
          have ec3 := on3 _ _ (Ne.symm nr) (Ne.symm nr) ec2
          -- the brackets that close
          refine ⟨_, rfl, _, rfl, r, dx, ta, cl, t, p3, cs2, rfl, a3, ec3, nt, hcs2, hl2, fun p4 cs4 H4 hp4 a4 on4 ec4 hcs4 hl4 es4 nc4 => ?_⟩
          have on4' := (on2'.trans (Only.wide on3)).trans on4
          rw [es4] at es3
          -- what goes on
          refine ⟨_, rfl, r, dx, _, rfl, a4.ob, rfl, r, dx, ta, t, p4, _, [43, 45, 42], rfl, a4, .inl (by rfl), by show 3 ≤ 1000; decide, fun H5 sm5 => ⟨_, rfl, ?_⟩⟩
          have a5 := a4.same sm5
          have on5 := on4'.trans (Only.same sm5)
          have ec5 := sm5 _ _ ec4
          cases hsh : showsM [43, 45, 42] (t.drop p4) with
          | true =>
            refine iteT ?_
            obtain ⟨c, l, ed, hm⟩ := shows_yes hsh
            have ho : isOp c = true := (isOp_iff c).mpr hm
            refine ⟨_, rfl, true, rfl, ?_⟩
            refine iteT ?_
            refine ⟨_, rfl, r, dx, _, rfl, a5.ob, rfl, r, dx, ta, t, p4, _, [43, 45, 42], rfl, a5, .inl (by rfl), by show 3 ≤ 1000; decide, ?_, ?_⟩
            · intro j hj
              rw [ed, signM_hit hm] at hj
              cases hj
            · intro c' q' hk2 H6 v6 ev6 a6 on6
              rw [ed, signM_hit hm] at hk2
              have e4 : p4 + 1 = q' := (Prod.mk.inj (Prod.mk.inj (Except.ok.inj hk2)).2).1
              subst e4
              refine ⟨cs4, p4 + 1, true, rfl, a6, on5.trans (Only.wide on6), on6 _ _ (Ne.symm nr) (Ne.symm nr) ec5, hcs4, hl4, fun _ => ⟨?_, by omega⟩, fun h => Bool.noConfusion h⟩
              rw [es3, ed, aft_op hcs4 ho, drop_succ ed]
          | false =>
            refine iteF ?_
            have no : ∀ c l, t.drop p4 = c :: l → isOp c = false := fun c l ed => by
              have := shows_no hsh c l ed
              cases hb : isOp c with
              | false => rfl
              | true => exact absurd ((isOp_iff c).mp hb) this
            refine ⟨_, rfl, cl, _, rfl, .inl (SqL.of ec5), _, _, rfl, rfl, ?_⟩
            cases cs4 with
            | nil =>
              refine ⟨_, rfl, false, rfl, ?_⟩
              refine iteF ?_
              exact ⟨[], p4, false, rfl, a5, on5, ec5, hcs4, hl4, fun h => Bool.noConfusion h, fun _ => es3.trans (aft_out no)⟩
            | cons k rest =>
              refine ⟨_, rfl, true, ?_, ?_⟩
              · rw [clV_len]
                show V.bl (decide ((0 : Int) < ((rest.length + 1 : Nat) : Int))) = _
                rw [decide_eq_true (by omega)]
              · refine iteT ?_
                refine ⟨_, rfl, r, dx, _, rfl, a5.ob, rfl, r, dx, ta, t, p4, _, [43, 45, 42], rfl, a5, .inl (by rfl), by show 3 ≤ 1000; decide, ?_, ?_⟩
                · intro j hj
                  rw [signM_miss hsh] at hj
                  cases hj
                  rw [aft_stuck fun c l ed => ⟨nc4 k rest rfl c l ed, no c l ed⟩] at es3
                  exact q.1 p4 (ex_of_error es3)
                · intro c' q' hk2
                  rw [signM_miss hsh] at hk2
                  cases hk2
end
end Ab

set_option Elab.async false
set_option linter.all false
set_option maxRecDepth 100000
set_option maxHeartbeats 2000000
namespace Ab
open PySem PySem.Spec PyProof.Rows L2 AbM
open Na (Bytes isDigit exHere cmpAt expect ascii)
def spRT (K : PySem.W.Frag) (CR CF : Addr) : Sp := fun vs H Q E => ∃ (r dx ta : Addr) (t : Bytes) (p : Nat), vs = [.ref r] ∧ At K CR r dx ta t H p ∧
  Out K CR CF r dx ta t (tstM p (t.drop p)) H r (fun _ _ v => v = .non) Q E
theorem cmp_error {q k : Nat} {c : Bytes} (h : munch c (tag [] wCmps) q = .error k) : cmpAt q c = .error k := by
  cases e : cmpAt q c with
  | error j =>
    rw [(munch_cmp q c).1 j e] at h
    cases h
    rfl
  | ok z =>
    obtain ⟨x, q', c'⟩ := z
    obtain ⟨_, w, hw⟩ := (munch_cmp q c).2 x q' c' e
    rw [hw] at h
    cases h
theorem cmp_ok {q q' : Nat} {c c' : Bytes} {w : List Nat} (h : munch c (tag [] wCmps) q = .ok (w, q', c')) : ∃ x, cmpAt q c = .ok (x, q', c') := by
  cases e : cmpAt q c with
  | error j =>
    rw [(munch_cmp q c).1 j e] at h
    cases h
  | ok z =>
    obtain ⟨x, q2, c2⟩ := z
    obtain ⟨_, w2, hw⟩ := (munch_cmp q c).2 x q2 c2 e
    rw [hw] at h
    cases h
    exact ⟨x, rfl⟩
/-- behind the tests of one line: what stands there -/
def behindM (f q : Nat) (c : Bytes) : Except Nat (Unit × (Nat × Bytes)) := if c.head? = some 32 then bindX (expect (ascii " and ") q c) fun _ q c => tstF f q c else lf q c
theorem behind_error {f q k : Nat} {c : Bytes} (h : munch c (tag [] [wAnd, wLf]) q = .error k) : behindM f q c = .error k := by
  rw [munch_behind] at h
  unfold behindM
  by_cases e : c.head? = some 32
  · rw [if_pos e] at h ⊢
    cases e2 : expect (ascii " and ") q c with
    | error j => rw [e2] at h; cases h; rfl
    | ok z => rw [e2] at h; cases h
  · rw [if_neg e] at h ⊢
    cases e2 : lf q c with
    | error j => rw [e2] at h; cases h; rfl
    | ok z => rw [e2] at h; cases h
theorem behind_ok {f q q' : Nat} {c c' : Bytes} {w : List Nat} (h : munch c (tag [] [wAnd, wLf]) q = .ok (w, q', c')) : (w = wAnd ∧ c'.length < c.length ∧ behindM f q c = tstF f q' c') ∨ (w = wLf ∧ behindM f q c = .ok ((), q', c')) := by
  rw [munch_behind] at h
  unfold behindM
  by_cases e : c.head? = some 32
  · rw [if_pos e] at h ⊢
    cases e2 : expect (ascii " and ") q c with
    | error j => rw [e2] at h; cases h
    | ok z =>
      obtain ⟨u, q2, c2⟩ := z
      rw [e2] at h
      cases h
      have := expect_len _ _ _ _ _ _ e2
      have hl : (ascii " and ").length = 5 := by decide +kernel
      exact .inl ⟨rfl, by omega, rfl⟩
  · rw [if_neg e] at h ⊢
    cases e2 : lf q c with
    | error j => rw [e2] at h; cases h
    | ok z =>
      obtain ⟨u, q2, c2⟩ := z
      rw [e2] at h
      cases h
      exact .inr ⟨rfl, rfl⟩
theorem tstF_chain (f p : Nat) (b : Bytes) : tstF (f + 1) p b = bindX (exHere p b) fun _ q c => bindX (cmpAt q c) fun _ q c => bindX (exHere q c) fun _ q c => behindM f q c := by
  rw [tstF_succ]
  unfold tst1
  simp only [bindX_assoc]
  rfl
section
variable {P : Program} {w : World} {K : PySem.W.Frag} {mg : Str → Option Value} {base : Heap} {CF fFI CR aB : Addr}
theorem scRT : FnScope ["reader", "behind"] ["reader"] (defScope sRT) := ⟨rfl, rfl, rfl, by decide +kernel, rfl, by decide +kernel, by decide +kernel⟩
theorem ok_RT {f fRW fRE : Addr} {fd fdRW fdRE : FuncData} (F : Fun K "read_tests" "read_tests" sRT f fd) (T : Txt K mg CF fFI CR)
    (mW : Meth K CR "read_word" fRW) (GW : FnOk P w K mg base (L2.CX P w) 4 fRW fdRW ["self", "words"] (spRW K CR CF)) (bW : Binds K fdRW ["self", "words"] [])
    (gE : mg "read_expression" = some (.ref fRE)) (kE : PySem.W.keepIn K (.ref fRE) = true) (GE : FnOk P w K mg base (L2.CX P w) 5 fRE fdRE ["reader"] (spRE K CR CF)) (bE : Binds K fdRE ["reader"] []) :
    FnOk P w K mg base (L2.CX P w) 6 f fd ["reader"] (spRT K CR CF) := by
  refine F.okX scRT (fun vs H Q E h => ?_) (fun cdv A outer s H vs Q E hr h => ?_)
  · obtain ⟨r, dx, ta, t, p, rfl, _⟩ := h
    rfl
  · obtain ⟨r, dx, ta, t, p0, rfl, a, q⟩ := h
    have hr4 : Room 4 _ := hr.mono (by decide)
    refine ⟨_, pss_cons (ps_set (i := 1) scRT.nd rfl (Or.inl rfl) pe_str)
      (pss_one (ps_while (passes_of rfl) (pt_cmpR op_eq (pv 1) pe_str (nomark _))
        (pss_cons (ps_expr (pe_call GE hr rfl gE kE bE .nil (passes_call (takes_of rfl rfl rfl rfl) (fun _ _ _ _ h => h)) (pa_cons (pv 0) pa_nil)))
        (pss_cons (ps_expr (pe_meth (pv 0) T.cl mW GW hr4 bW .nil (passes_call (takes_of rfl rfl rfl rfl) (fun _ _ _ _ h => h)) (pa_cons (pe_lst (pa_cons pe_str (pa_cons pe_str (pa_cons pe_str (pa_cons pe_str (pa_cons pe_str (pa_cons pe_str pa_nil))))))) pa_nil)))
        (pss_cons (ps_expr (pe_call GE hr rfl gE kE bE .nil (passes_call (takes_of rfl rfl rfl rfl) (fun _ _ _ _ h => h)) (pa_cons (pv 0) pa_nil)))
        (pss_one (ps_set (i := 1) scRT.nd rfl (Or.inl rfl) (pe_meth (pv 0) T.cl mW GW hr4 bW .nil (passes_call (takes_of rfl rfl rfl rfl) (fun _ _ _ _ h => h)) (pa_cons (pe_lst (pa_cons pe_str (pa_cons pe_str pa_nil))) pa_nil))))))))), ?_⟩
    refine ⟨fun m σ H1 => ∃ (wd : List Nat) (p : Nat), σ = [some (.ref r), some (stV wd)] ∧ At K CR r dx ta t H1 p ∧ Only r r H H1 ∧
      (wd = wAnd → (∃ f, (t.drop p).length < f ∧ tstM p0 (t.drop p0) = tstF f p (t.drop p)) ∧ m = t.length - p + 1) ∧ (wd ≠ wAnd → tstM p0 (t.drop p0) = .ok ((), p, t.drop p)),
      ⟨_, wAnd, p0, rfl, a, Only.refl, fun _ => ⟨⟨_, Nat.lt_succ_self _, rfl⟩, rfl⟩, fun h => absurd rfl h⟩, ?_⟩
    rintro m σ H1 ⟨wd, p, rfl, a1, on1, ht, hf⟩
    refine ⟨_, rfl, rfl, _, rfl, ?_⟩
    by_cases hw : wd = wAnd
    · obtain ⟨⟨f, hfl, es⟩, rfl⟩ := ht hw
      refine if_true_of (by subst hw; rfl) ?_
      cases f with
      | zero => exact absurd hfl (Nat.not_lt_zero _)
      | succ f =>
        rw [tstF_chain] at es
        refine ⟨fun σ H1 => ∃ (wd : List Nat) (p' : Nat), σ = [some (.ref r), some (stV wd)] ∧ At K CR r dx ta t H1 p' ∧ Only r r H H1 ∧
          (wd = wAnd → (∃ f, (t.drop p').length < f ∧ tstM p0 (t.drop p0) = tstF f p' (t.drop p')) ∧ p < p') ∧ (wd ≠ wAnd → tstM p0 (t.drop p0) = .ok ((), p', t.drop p')), ?_, ?_⟩
        · rintro σ' H' ⟨wd', p', e, b1, b2, b3, b4⟩
          by_cases hw' : wd' = wAnd
          · obtain ⟨b5, lt⟩ := b3 hw'
            have := b1.le
            exact ⟨_, by omega, wd', p', e, b1, b2, fun _ => ⟨b5, rfl⟩, b4⟩
          · exact ⟨0, by omega, wd', p', e, b1, b2, fun h => absurd h hw', b4⟩
        · refine ⟨_, rfl, r, dx, ta, t, p, rfl, a1, ?_, ?_⟩
          · intro k hk
            rw [hk] at es
            exact q.1 k es
          · intro x q1 hk H2 v ev a2 on2
            rw [hk, bindX_ok] at es
            have l1 := (ex_len hk).1
            refine ⟨_, rfl, r, dx, _, rfl, a2.ob, rfl, by show 6 ≤ sizeLine; exact Nat.le_of_lt (small1000 (by decide)), fun D nD => ?_⟩
            refine ⟨r, dx, ta, t, q1, D, wCmps, rfl, a2.same (same_upd nD), SqL.of (xs := wCmps.map stV) upd_same, by decide, by decide, ?_, ?_⟩
            · intro k hk2
              rw [cmp_error hk2] at es
              exact q.1 k es
            · intro wd2 q2 hk2 H3 v3 ev3 a3 on3
              obtain ⟨x2, hx2⟩ := cmp_ok hk2
              rw [hx2, bindX_ok] at es
              have l2 := ((munch_cmp q1 _).2 _ _ _ hx2).1
              refine ⟨_, rfl, r, dx, ta, t, q2, rfl, a3, ?_, ?_⟩
              · intro k hk
                rw [hk] at es
                exact q.1 k es
              · intro x3 q3 hk3 H4 v4 ev4 a4 on4
                rw [hk3, bindX_ok] at es
                have l3 := (ex_len hk3).1
                have on4' : Only r r H H4 := (on1.trans on2).trans ((Only.same (same_upd nD)).trans (on3.trans on4))
                refine ⟨_, rfl, r, dx, _, rfl, a4.ob, rfl, by show 2 ≤ sizeLine; exact Nat.le_of_lt (small1000 (by decide)), fun D2 nD2 => ?_⟩
                refine ⟨r, dx, ta, t, q3, D2, [wAnd, wLf], rfl, a4.same (same_upd nD2), SqL.of (xs := ([wAnd, wLf] : List (List Nat)).map stV) upd_same, by decide, by decide, ?_, ?_⟩
                · intro k hk4
                  rw [behind_error hk4] at es
                  exact q.1 k es
                · intro wd5 q5 hk5 H5 v5 ev5 a5 on5
                  subst ev5
                  have on5' : Only r r H H5 := on4'.trans ((Only.same (same_upd nD2)).trans on5)
                  rcases behind_ok (f := f) hk5 with ⟨e1, l5, e2⟩ | ⟨e1, e2⟩
                  · subst e1
                    rw [e2] at es
                    have h5 := a5.le
                    have h1 := a1.le
                    refine ⟨wAnd, q5, rfl, a5, on5', fun _ => ⟨⟨f, by omega, es⟩, ?_⟩, fun h => absurd rfl h⟩
                    simp only [List.length_drop] at l1 l2 l3 l5
                    omega
                  · subst e1
                    rw [e2] at es
                    exact ⟨wLf, q5, rfl, a5, on5', fun h => absurd h (by decide), fun _ => es⟩
    · refine if_false_of ?_ ?_
      · refine decide_eq_false fun z => hw ?_
        have z1 : S wd = S wAnd := V.str.inj z
        exact S_inj z1
      · exact q.2 () p (hf hw) H1 _ rfl a1 on1
end
end Ab

set_option Elab.async false
set_option linter.all false
set_option maxRecDepth 100000
set_option maxHeartbeats 4000000
namespace Ab
open PySem PySem.Spec PyProof.Rows L2 AbM
open Na (Bytes isDigit exHere cmpAt expect ascii headAt)
def OkO (o : List Nat) : Prop := o.length ≤ 16 ∧ ∀ k ∈ o, k = 0 ∨ k = 1 ∨ k = 2
def spRL (K : PySem.W.Frag) (CR CF : Addr) : Sp := fun vs H Q E => ∃ (r dx ta bl : Addr) (t : Bytes) (p : Nat) (o : List Nat), vs = [.ref r, .ref bl] ∧ At K CR r dx ta t H p ∧ H bl = some (.lst (bkV o)) ∧ Apart K ta bl (bs t) ∧ OkO o ∧
  Out K CR CF r dx ta t (lineP o p (t.drop p)) H bl (fun o' H' v => v = .non ∧ H' bl = some (.lst (bkV o')) ∧ OkO o') Q E
theorem bkV_cons (k : Nat) (o : List Nat) : bkV (k :: o) = bkV o ++ [stV (bkW k)] := by
  show ((k :: o).reverse.map _) = _
  rw [List.reverse_cons, List.map_append]
  rfl
theorem bkV_len (o : List Nat) : (bkV o).length = o.length := by simp
theorem munch_mem {ws : List (List Nat)} : ∀ (b : Bytes) (acc : List Nat) (p : Nat) (w : List Nat) (q : Nat) (c : Bytes), munch b (tag acc ws) p = .ok (w, q, c) → w ∈ ws
  | [], acc, p, w, q, c, h => by
    rw [munch_stop (fun c l e => by cases e)] at h
    by_cases hm : acc ∈ ws
    · rw [if_pos hm] at h
      cases h
      exact hm
    · rw [if_neg hm] at h
      cases h
  | d :: l, acc, p, w, q, c, h => by
    by_cases hd : d.toNat ∈ heads (tag acc ws)
    · rw [munch_go hd] at h
      exact munch_mem l _ _ _ _ _ h
    · rw [munch_stop (fun c' l' e => by rw [← (List.cons.inj e).1]; exact hd)] at h
      by_cases hm : acc ∈ ws
      · rw [if_pos hm] at h
        cases h
        exact hm
      · rw [if_neg hm] at h
        cases h
theorem sign_expect (k : UInt8) (q : Nat) (c : Bytes) : expect [k] q c = bindX (signM [k.toNat] q c) fun _ q c => .ok ((), q, c) := by
  cases c with
  | nil => rfl
  | cons d l =>
    show (if k = d then Except.ok ((), q + 1, l) else .error q) = bindX (if d.toNat ∈ [k.toNat] then _ else _) _
    by_cases h : k = d
    · subst h
      rw [if_pos rfl, if_pos List.mem_cons_self]
      rfl
    · have h2 : ¬ d.toNat ∈ [k.toNat] := fun z => h (UInt8.toNat_inj.mp (by simpa using z)).symm
      rw [if_neg h, if_neg h2]
      rfl
theorem sign_head (q : Nat) (c : Bytes) : headP q c = bindX (signM nHead q c) fun _ q c => .ok ((), q, c) := by
  unfold headP
  cases c with
  | nil => rfl
  | cons d l =>
    show bindX (if 97 ≤ d.toNat ∧ d.toNat ≤ 104 then Except.ok (d.toNat - 97, q + 1, l) else .error q) _ = bindX (if d.toNat ∈ nHead then _ else _) _
    have e : d.toNat ∈ nHead ↔ 97 ≤ d.toNat ∧ d.toNat ≤ 104 := by
      simp only [List.mem_cons, List.not_mem_nil, or_false]
      omega
    by_cases h : 97 ≤ d.toNat ∧ d.toNat ≤ 104
    · rw [if_pos h, if_pos (e.mpr h)]
      rfl
    · rw [if_neg h, if_neg (fun z => h (e.mp z))]
theorem headAt_X {γ : Type} (q : Nat) (c : Bytes) (g : Nat → Bytes → Except Nat γ) : bindX (headAt q c) (fun _ q c => g q c) = bindX (signM nHead q c) fun _ q c => g q c := by
  have e : bindX (headP q c) (fun _ q c => g q c) = bindX (bindX (signM nHead q c) fun _ q c => .ok ((), q, c)) fun _ q c => g q c := by rw [sign_head]
  unfold headP at e
  rw [bindX_assoc, bindX_assoc] at e
  exact e
theorem munch_at (q : Nat) (c : Bytes) : munch c (tag [] [wAt]) q = bindX (expect (ascii " at ") q c) fun _ q c => .ok (wAt, q, c) := by
  have e : tag [] [wAt] = [((ascii " at ").map UInt8.toNat, wAt)] := by decide +kernel
  rw [e, munch_one]
theorem atM_eq (o : List Nat) (q : Nat) (c : Bytes) : atM o q c = bindX (exHere q c) fun _ q c => bindX (munch c (tag [] [wAt]) q) fun _ q c => bindX (exHere q c) fun _ q c => bindX (signM [10] q c) fun _ q c => .ok (o, q, c) := by
  unfold atM
  refine bindX_congr fun _ q c _ => ?_
  rw [munch_at, bindX_assoc]
  refine bindX_congr fun _ q c _ => ?_
  refine bindX_congr fun _ q c _ => ?_
  show bindX (expect [10] q c) _ = _
  rw [sign_expect, bindX_assoc]
  rfl
theorem setM_eq (o : List Nat) (q : Nat) (c : Bytes) : setM o q c = bindX (signM nHead q c) fun _ q c => bindX (signM [32] q c) fun _ q c => bindX (exHere q c) fun _ q c => bindX (signM [10] q c) fun _ q c => .ok (o, q, c) := by
  unfold setM
  rw [headAt_X]
  refine bindX_congr fun _ q c _ => ?_
  rw [sign_expect, bindX_assoc]
  refine bindX_congr fun _ q c _ => ?_
  rw [bindX_ok]
  refine bindX_congr fun _ q c _ => ?_
  show bindX (expect [10] q c) _ = _
  rw [sign_expect, bindX_assoc]
  rfl
theorem stV_eq (w v : List Nat) : decide (stV w = stV v) = decide (w = v) := by
  by_cases h : w = v
  · subst h
    simp
  · rw [decide_eq_false h]
    exact decide_eq_false fun z => h (S_inj (V.str.inj z))
theorem contW_at {o w : List Nat} (h : w = wAdd ∨ w = wTake) (q : Nat) (c : Bytes) : contW o w q c = atM o q c := if_pos h
theorem contW_set {o w : List Nat} (h : w = wSet) (q : Nat) (c : Bytes) : contW o w q c = setM o q c := by
  subst h
  rfl
theorem contW_tst {o w : List Nat} (h1 : ¬ (w = wAdd ∨ w = wTake)) (h2 : ¬ w = wSet) (h : w = wIf ∨ w = wWhile) (q : Nat) (c : Bytes) : contW o w q c = bindX (tstM q c) fun _ q c => .ok ((if w = wIf then 1 else 0) :: o, q, c) := by
  unfold contW
  rw [if_neg h1, if_neg h2, if_pos h]
theorem contW_else {o w : List Nat} (h : w = wElse) (q : Nat) (c : Bytes) : contW o w q c = .ok (2 :: o.drop 1, q, c) := by
  subst h
  rfl
theorem contW_end {o w : List Nat} (h : w = wEnd) (q : Nat) (c : Bytes) : contW o w q c = .ok (o.drop 1, q, c) := by
  subst h
  rfl
theorem contW_rest {o w : List Nat} (h1 : ¬ (w = wAdd ∨ w = wTake)) (h2 : ¬ w = wSet) (h3 : ¬ (w = wIf ∨ w = wWhile)) (h4 : ¬ w = wElse) (h5 : ¬ w = wEnd) (q : Nat) (c : Bytes) : contW o w q c = .ok (o, q, c) := by
  unfold contW
  rw [if_neg h1, if_neg h2, if_neg h3, if_neg h4, if_neg h5]
theorem lw_room {o : List Nat} (h : wIf ∈ lineWords o ∨ wWhile ∈ lineWords o) : o.length < 16 := by
  by_cases hl : o.length < 16
  · exact hl
  · exfalso
    unfold lineWords at h
    rw [if_neg hl] at h
    cases o with
    | nil => exact hl (by decide)
    | cons k r =>
      have e : (if (k :: r).isEmpty = true then [] else wEnd :: (if (k :: r).head? = some 1 then [wElse] else [])) = wEnd :: (if some k = some 1 then [wElse] else []) := rfl
      rw [e] at h
      by_cases hk : some k = some 1
      · rw [if_pos hk] at h
        revert h
        decide
      · rw [if_neg hk] at h
        revert h
        decide
theorem lw_open {o : List Nat} (h : wEnd ∈ lineWords o ∨ wElse ∈ lineWords o) : ∃ k r, o = k :: r := by
  cases o with
  | nil =>
    exfalso
    revert h
    decide
  | cons k r => exact ⟨k, r, rfl⟩
section
variable {P : Program} {w : World} {K : PySem.W.Frag} {mg : Str → Option Value} {base : Heap} {CF fFI CR aB : Addr}
theorem scRL : FnScope ["reader", "blocks", "word"] ["reader", "blocks"] (defScope sRL) := ⟨rfl, rfl, rfl, by decide +kernel, rfl, by decide +kernel, by decide +kernel⟩
theorem ok_RL {f fLW fRS fRW fRE fRT : Addr} {fd fdLW fdRS fdRW fdRE fdRT : FuncData} (F : Fun K "read_line" "read_line" sRL f fd) (T : Txt K mg CF fFI CR) (G : Gram mg)
    (mR : Meth K CR "read_sign" fRS) (GR : FnOk P w K mg base (L2.CX P w) 3 fRS fdRS ["self", "signs"] (spRS K CR CF)) (bR : Binds K fdRS ["self", "signs"] [])
    (mW : Meth K CR "read_word" fRW) (GW : FnOk P w K mg base (L2.CX P w) 4 fRW fdRW ["self", "words"] (spRW K CR CF)) (bW : Binds K fdRW ["self", "words"] [])
    (gL : mg "line_words" = some (.ref fLW)) (kL : PySem.W.keepIn K (.ref fLW) = true) (GL : FnOk P w K mg base CX0 1 fLW fdLW ["blocks"] (spLW K)) (bL : Binds K fdLW ["blocks"] [])
    (gE : mg "read_expression" = some (.ref fRE)) (kE : PySem.W.keepIn K (.ref fRE) = true) (GE : FnOk P w K mg base (L2.CX P w) 5 fRE fdRE ["reader"] (spRE K CR CF)) (bE : Binds K fdRE ["reader"] [])
    (gT : mg "read_tests" = some (.ref fRT)) (kT : PySem.W.keepIn K (.ref fRT) = true) (GT : FnOk P w K mg base (L2.CX P w) 6 fRT fdRT ["reader"] (spRT K CR CF)) (bT : Binds K fdRT ["reader"] []) :
    FnOk P w K mg base (L2.CX P w) 7 f fd ["reader", "blocks"] (spRL K CR CF) := by
  refine F.okX scRL (fun vs H Q E h => ?_) (fun cdv A outer s H vs Q E hr h => ?_)
  · obtain ⟨r, dx, ta, bl, t, p, o, rfl, _⟩ := h
    rfl
  · obtain ⟨r, dx, ta, bl, t, p, o, rfl, a, hb, nt, ho, q⟩ := h
    obtain ⟨uH, hH⟩ := G.heads
    have hr5 : Room 5 _ := hr.mono (by decide)
    have hr4 : Room 4 _ := hr.mono (by decide)
    have hr3 : Room 3 _ := hr.mono (by decide)
    have hr1 : Room 1 _ := hr.mono (by decide)
    have nr : r ≠ bl := ne_of a.ob hb (by intro z; cases z)
    refine ⟨_, pss_cons (ps_set (i := 2) scRL.nd rfl (Or.inl rfl) (pe_meth (pv 0) T.cl mW GW hr4 bW .nil (passes_call (takes_of rfl rfl rfl rfl) (fun _ _ _ _ h => h)) (pa_cons (pe_call GL hr1 rfl gL kL bL .nil pass0 (pa_cons (pv 1) pa_nil)) pa_nil)))
      (pss_one (ps_if (PW.pt (pw_or (pt_cmpR op_eq (pv 2) pe_str (nomark _)) (pw_or1 (pt_cmpR op_eq (pv 2) pe_str (nomark _)))))
        (pss_cons (ps_expr (pe_call GE hr5 rfl gE kE bE .nil (passes_call (takes_of rfl rfl rfl rfl) (fun _ _ _ _ h => h)) (pa_cons (pv 0) pa_nil)))
        (pss_cons (ps_expr (pe_meth (pv 0) T.cl mW GW hr4 bW .nil (passes_call (takes_of rfl rfl rfl rfl) (fun _ _ _ _ h => h)) (pa_cons (pe_lst (pa_cons pe_str pa_nil)) pa_nil)))
        (pss_cons (ps_expr (pe_call GE hr5 rfl gE kE bE .nil (passes_call (takes_of rfl rfl rfl rfl) (fun _ _ _ _ h => h)) (pa_cons (pv 0) pa_nil)))
        (pss_one (ps_expr (pe_meth (pv 0) T.cl mR GR hr3 bR .nil (passes_call (takes_of rfl rfl rfl rfl) (fun _ _ _ _ h => h)) (pa_cons pe_str pa_nil)))))))
        (pss_one (ps_if (pt_cmpR op_eq (pv 2) pe_str (nomark _))
          (pss_cons (ps_expr (pe_meth (pv 0) T.cl mR GR hr3 bR .nil (passes_call (takes_of rfl rfl rfl rfl) (fun _ _ _ _ h => h)) (pa_cons (pe_glob (v := .str "abcdefgh") rfl hH ⟨_, rfl⟩) pa_nil)))
          (pss_cons (ps_expr (pe_meth (pv 0) T.cl mR GR hr3 bR .nil (passes_call (takes_of rfl rfl rfl rfl) (fun _ _ _ _ h => h)) (pa_cons pe_str pa_nil)))
          (pss_cons (ps_expr (pe_call GE hr5 rfl gE kE bE .nil (passes_call (takes_of rfl rfl rfl rfl) (fun _ _ _ _ h => h)) (pa_cons (pv 0) pa_nil)))
          (pss_one (ps_expr (pe_meth (pv 0) T.cl mR GR hr3 bR .nil (passes_call (takes_of rfl rfl rfl rfl) (fun _ _ _ _ h => h)) (pa_cons pe_str pa_nil)))))))
          (pss_one (ps_if (PW.pt (pw_or (pt_cmpR op_eq (pv 2) pe_str (nomark _)) (pw_or1 (pt_cmpR op_eq (pv 2) pe_str (nomark _)))))
            (pss_cons (ps_expr (pe_call GT hr rfl gT kT bT .nil (passes_call (takes_of rfl rfl rfl rfl) (fun _ _ _ _ h => h)) (pa_cons (pv 0) pa_nil)))
              (pss_one (ps_expr (pe_bm PySem.F.plainAttrs_list PySem.F.slot_list_append PySem.F.type_list_append mt_append (pv 1) (pa_cons (pv 2) pa_nil)))))
            (pss_one (ps_if (pt_cmpR op_eq (pv 2) pe_str (nomark _))
              (pss_one (ps_asg (pv 2) (pg_sub (pv 1) (pe_un un_neg pe_int) set_list)))
              (pss_one (ps_if (pt_cmpR op_eq (pv 2) pe_str (nomark _))
                (pss_one (ps_expr (pe_bm0 PySem.F.plainAttrs_list PySem.F.slot_list_pop PySem.F.type_list_pop mt_pop (pv 1)))) pss_nil)))))))))), ?_⟩
    have es := lineP_eq o p (t.drop p)
    refine ⟨_, rfl, r, dx, _, rfl, a.ob, rfl, _, rfl, bl, o, rfl, hb, ho.1, fun H1 D sm1 nD eD => ?_⟩
    have hws : ∀ w ∈ lineWords o, w.length ≤ 100 := fun w hw => by
      have h : ∀ y ∈ [wAdd, wTake, wSet, wStop, wFail, wIf, wWhile, wEnd, wElse], y.length ≤ 100 := by decide
      refine h w ?_
      unfold lineWords at hw
      rcases List.mem_append.mp hw with hw | hw
      · rcases List.mem_append.mp hw with hw | hw
        · revert hw
          simp only [List.mem_cons, List.not_mem_nil, or_false]
          intro z
          rcases z with z | z | z | z | z <;> simp [z]
        · split at hw
          · revert hw
            simp only [List.mem_cons, List.not_mem_nil, or_false]
            intro z
            rcases z with z | z <;> simp [z]
          · cases hw
      · split at hw
        · cases hw
        · rcases List.mem_cons.mp hw with hw | hw
          · simp [hw]
          · split at hw
            · have := List.mem_singleton.mp hw
              simp [this]
            · cases hw
    have hwl : (lineWords o).length ≤ 1000 := by
      unfold lineWords
      rw [List.length_append, List.length_append]
      have h1 : (if o.length < 16 then [wIf, wWhile] else []).length ≤ 2 := by split <;> decide
      have h2 : (if o.isEmpty = true then [] else wEnd :: (if o.head? = some 1 then [wElse] else [])).length ≤ 2 := by
        split
        · decide
        · split <;> decide
      have h3 : ([wAdd, wTake, wSet, wStop, wFail] : List (List Nat)).length = 5 := rfl
      omega
    have a1 := a.same sm1
    refine ⟨r, dx, ta, t, p, D, lineWords o, rfl, a1, SqL.of eD, hwl, hws, ?_, ?_⟩
    · intro k hk
      rw [hk] at es
      exact q.1 k es
    · intro wd p1 hk H2 v ev a2 on2
      subst ev
      rw [hk, bindX_ok] at es
      have hmem := munch_mem _ _ _ _ _ _ hk
      have on2' : Only r bl H H2 := (Only.same sm1).trans (Only.wide on2)
      have hb2 : H2 bl = some (.lst (bkV o)) := on2 _ _ (Ne.symm nr) (Ne.symm nr) (sm1 _ _ hb)
      refine ⟨_, rfl, rfl, _, rfl, ?_⟩
      by_cases hA : wd = wAdd ∨ wd = wTake
      · rw [contW_at hA, atM_eq] at es
        rcases hA with e | e
        case' inl => refine if_true_of (by subst e; rfl) ?_
        case' inr =>
          refine if_false_of (by subst e; rfl) ?_
          refine ⟨_, rfl, rfl, _, rfl, ?_⟩
          have et : decide (stV wd = V.str "take ") = true := by subst e; rfl
          rw [et]
        all_goals
        (refine ⟨_, rfl, r, dx, ta, t, p1, rfl, a2, fun k hk3 => q.1 k (by rw [es, hk3]; rfl), fun x3 p3 hk3 H3 v3 _ a3 on3 => ?_⟩
         rw [hk3, bindX_ok] at es
         refine ⟨_, rfl, r, dx, _, rfl, a3.ob, rfl, by show 1 ≤ sizeLine; exact Nat.le_of_lt (small1000 (by decide)), fun D4 nD4 => ?_⟩
         refine ⟨r, dx, ta, t, p3, D4, [wAt], rfl, a3.same (same_upd nD4), SqL.of (xs := ([wAt] : List (List Nat)).map stV) upd_same, by decide, by decide, fun k hk4 => q.1 k (by rw [es, hk4]; rfl), fun x4 p4 hk4 H4 v4 _ a4 on4 => ?_⟩
         rw [hk4, bindX_ok] at es
         refine ⟨_, rfl, r, dx, ta, t, p4, rfl, a4, fun k hk5 => q.1 k (by rw [es, hk5]; rfl), fun x5 p5 hk5 H5 v5 _ a5 on5 => ?_⟩
         rw [hk5, bindX_ok] at es
         refine ⟨_, rfl, r, dx, _, rfl, a5.ob, rfl, r, dx, ta, t, p5, _, [10], rfl, a5, .inl (by rfl), by show 1 ≤ 1000; decide, fun k hk6 => q.1 k (by rw [es, hk6]; rfl), fun x6 p6 hk6 H6 v6 _ a6 on6 => ?_⟩
         rw [hk6, bindX_ok] at es
         have onr : Only r r H2 H6 := on3.trans ((Only.same (same_upd nD4)).trans (on4.trans (on5.trans on6)))
         exact q.2 o p6 es H6 _ ⟨rfl, onr _ _ (Ne.symm nr) (Ne.symm nr) hb2, ho⟩ a6 (on2'.trans (Only.wide onr)))
      · refine if_false_of ((stV_eq wd wAdd).trans (decide_eq_false fun z => hA (.inl z))) ?_
        refine ⟨_, rfl, rfl, _, rfl, ?_⟩
        have et : decide (stV wd = V.str "take ") = false := (stV_eq wd wTake).trans (decide_eq_false fun z => hA (.inr z))
        rw [et]
        refine ⟨_, rfl, rfl, _, rfl, ?_⟩
        by_cases hS : wd = wSet
        · rw [contW_set hS, setM_eq] at es
          refine if_true_of (by subst hS; rfl) ?_
          refine ⟨_, rfl, r, dx, _, rfl, a2.ob, rfl, r, dx, ta, t, p1, _, nHead, rfl, a2, .inl (by rfl), by show 8 ≤ 1000; decide, fun k hk3 => q.1 k (by rw [es, hk3]; rfl), fun x3 p3 hk3 H3 v3 _ a3 on3 => ?_⟩
          rw [hk3, bindX_ok] at es
          refine ⟨_, rfl, r, dx, _, rfl, a3.ob, rfl, r, dx, ta, t, p3, _, [32], rfl, a3, .inl (by rfl), by show 1 ≤ 1000; decide, fun k hk4 => q.1 k (by rw [es, hk4]; rfl), fun x4 p4 hk4 H4 v4 _ a4 on4 => ?_⟩
          rw [hk4, bindX_ok] at es
          refine ⟨_, rfl, r, dx, ta, t, p4, rfl, a4, fun k hk5 => q.1 k (by rw [es, hk5]; rfl), fun x5 p5 hk5 H5 v5 _ a5 on5 => ?_⟩
          rw [hk5, bindX_ok] at es
          refine ⟨_, rfl, r, dx, _, rfl, a5.ob, rfl, r, dx, ta, t, p5, _, [10], rfl, a5, .inl (by rfl), by show 1 ≤ 1000; decide, fun k hk6 => q.1 k (by rw [es, hk6]; rfl), fun x6 p6 hk6 H6 v6 _ a6 on6 => ?_⟩
          rw [hk6, bindX_ok] at es
          have onr : Only r r H2 H6 := on3.trans (on4.trans (on5.trans on6))
          exact q.2 o p6 es H6 _ ⟨rfl, onr _ _ (Ne.symm nr) (Ne.symm nr) hb2, ho⟩ a6 (on2'.trans (Only.wide onr))
        · refine if_false_of ((stV_eq wd wSet).trans (decide_eq_false hS)) ?_
          refine ⟨_, rfl, rfl, _, rfl, ?_⟩
          by_cases hI : wd = wIf ∨ wd = wWhile
          · rw [contW_tst hA hS hI] at es
            have hroom : o.length < 16 := lw_room (hI.imp (fun e => by rw [← e]; exact hmem) (fun e => by rw [← e]; exact hmem))
            have hbk : bkW (if wd = wIf then 1 else 0) = wd := by
              rcases hI with e | e <;> (subst e; rfl)
            have hok : OkO ((if wd = wIf then 1 else 0) :: o) := ⟨by rw [List.length_cons]; omega, fun k hk => by
              rcases List.mem_cons.mp hk with e | e
              · rw [e]
                split
                · exact .inr (.inl rfl)
                · exact .inl rfl
              · exact ho.2 k e⟩
            rcases hI with e | e
            case' inl => refine if_true_of (by subst e; rfl) ?_
            case' inr =>
              refine if_false_of (by subst e; rfl) ?_
              refine ⟨_, rfl, rfl, _, rfl, ?_⟩
              have et : decide (stV wd = V.str "while ") = true := by subst e; rfl
              rw [et]
            all_goals
            (refine ⟨_, rfl, r, dx, ta, t, p1, rfl, a2, fun k hk3 => q.1 k (by rw [es, hk3]; rfl), fun x3 p3 hk3 H3 v3 _ a3 on3 => ?_⟩
             rw [hk3, bindX_ok] at es
             have hb3 : H3 bl = some (.lst (bkV o)) := on3 _ _ (Ne.symm nr) (Ne.symm nr) hb2
             refine ⟨_, rfl, .inl ⟨rfl, _, SqL.of hb3⟩, _, rfl, bl, _, _, rfl, rfl, hb3, by rw [bkV_len]; exact small1000 (by omega), ?_⟩
             refine q.2 _ p3 es _ _ ⟨rfl, ?_, hok⟩ (a3.updc nr nt) ((on2'.trans (Only.wide on3)).trans Only.updc)
             rw [upd_same, bkV_cons, hbk])
          · refine if_false_of ((stV_eq wd wIf).trans (decide_eq_false fun z => hI (.inl z))) ?_
            refine ⟨_, rfl, rfl, _, rfl, ?_⟩
            have et : decide (stV wd = V.str "while ") = false := (stV_eq wd wWhile).trans (decide_eq_false fun z => hI (.inr z))
            rw [et]
            refine ⟨_, rfl, rfl, _, rfl, ?_⟩
            by_cases hE : wd = wElse
            · rw [contW_else hE] at es
              refine if_true_of (by subst hE; rfl) ?_
              obtain ⟨k, rest, eo⟩ := lw_open (o := o) (.inr (by rw [← hE]; exact hmem))
              subst eo
              have eix : ixN (bkV (k :: rest)).length (-1) = some rest.length := by
                rw [bkV_len]
                unfold ixN
                rw [if_neg (by decide), if_pos (by rw [List.length_cons]; omega), List.length_cons]
                congr 1
                omega
              have eset : (bkV (k :: rest)).set rest.length (stV wd) = bkV (2 :: rest) := by
                rw [bkV_cons, bkV_cons, hE]
                have hl : rest.length = (bkV rest).length := (bkV_len rest).symm
                rw [hl, List.set_append_right _ _ (Nat.le_refl _)]
                simp [bkW]
              refine ⟨_, rfl, _, rfl, _, rfl, bl, _, _, _, rfl, rfl, hb2, eix, ?_⟩
              refine q.2 _ p1 es _ _ ⟨rfl, ?_, ?_⟩ (a2.updc nr nt) (on2'.trans Only.updc)
              · rw [upd_same, eset]
                rfl
              · refine ⟨ho.1, fun j hj => ?_⟩
                rcases List.mem_cons.mp hj with e | e
                · exact .inr (.inr e)
                · exact ho.2 j (List.mem_cons_of_mem _ e)
            · refine if_false_of ((stV_eq wd wElse).trans (decide_eq_false hE)) ?_
              refine ⟨_, rfl, rfl, _, rfl, ?_⟩
              by_cases hN : wd = wEnd
              · rw [contW_end hN] at es
                refine if_true_of (by subst hN; rfl) ?_
                obtain ⟨k, rest, eo⟩ := lw_open (o := o) (.inl (by rw [← hN]; exact hmem))
                subst eo
                have elast2 : (bkV (k :: rest))[(bkV (k :: rest)).length - 1]? = some (stV (bkW k)) := by
                  rw [bkV_cons]
                  simp
                have edrop : (bkV (k :: rest)).dropLast = bkV rest := by
                  rw [bkV_cons, List.dropLast_concat]
                refine ⟨_, rfl, .inl ⟨rfl, _, SqL.of hb2⟩, bl, _, _, rfl, rfl, hb2, elast2, ?_⟩
                refine q.2 _ p1 es _ _ ⟨rfl, ?_, ?_⟩ (a2.updc nr nt) (on2'.trans Only.updc)
                · rw [upd_same, edrop]
                  rfl
                · exact ⟨by have := ho.1; rw [List.length_cons] at this; show rest.length ≤ 16; omega, fun j hj => ho.2 j (List.mem_cons_of_mem _ hj)⟩
              · refine if_false_of ((stV_eq wd wEnd).trans (decide_eq_false hN)) ?_
                rw [contW_rest hA hS hI hE hN] at es
                exact q.2 o p1 es H2 _ ⟨rfl, hb2, ho⟩ a2 on2'
end
end Ab

set_option Elab.async false
set_option linter.all false
set_option maxRecDepth 100000
set_option maxHeartbeats 4000000
namespace Ab
open PySem PySem.Spec PyProof.Rows L2 AbM
open Na (Bytes isDigit exHere cmpAt expect ascii headAt)
def spCL (K : PySem.W.Frag) (CF : Addr) : Sp := fun vs H Q E => ∃ (ta : Addr) (t : Bytes), vs = [.ref ta] ∧ SqL K H ta (bs t) ∧ t.length ≤ 5000 ∧
  (∀ k, whole t = .error k → ∀ (d : Addr) (H' : Hp), H' d = some (.xd (xdF k)) → E (.ref CF) (some d) H') ∧ ∀ n, whole t = .ok n → ∀ H', Q (.int (n : Nat)) H'
def plusN (n : Nat) (x : Except Nat Nat) : Except Nat Nat := match x with
  | .error k => .error k
  | .ok j => .ok (j + n)
theorem plusN_plus1 (n : Nat) (x : Except Nat Nat) : plusN n (plus1 x) = plusN (n + 1) x := by
  cases x with
  | error k => rfl
  | ok j =>
    show Except.ok (j + 1 + n) = Except.ok (j + (n + 1))
    congr 1
    omega
section
variable {P : Program} {w : World} {K : PySem.W.Frag} {mg : Str → Option Value} {base : Heap} {CF fFI CR aB : Addr}
theorem scCL : FnScope ["text", "reader", "blocks", "lines"] ["text"] (defScope sCL) := ⟨rfl, rfl, rfl, by decide +kernel, rfl, by decide +kernel, by decide +kernel⟩
theorem ok_CL {f fRI fE fRL : Addr} {fd fdRI fdE fdRL : FuncData} (F : Fun K "count_lines" "count_lines" sCL f fd) (T : Txt K mg CF fFI CR) (M : Mk K CR fRI) (GI : FnOk P w K mg base CX0 1 fRI fdRI ["self", "text"] (spRI CR)) (bI : Binds K fdRI ["self", "text"] [])
    (mE : Meth K CR "ended" fE) (GE : FnOk P w K mg base CX0 1 fE fdE ["self"] (spEn K CR)) (bE : Binds K fdE ["self"] [])
    (gL : mg "read_line" = some (.ref fRL)) (kL : PySem.W.keepIn K (.ref fRL) = true) (GL : FnOk P w K mg base (L2.CX P w) 7 fRL fdRL ["reader", "blocks"] (spRL K CR CF)) (bL : Binds K fdRL ["reader", "blocks"] []) :
    FnOk P w K mg base (L2.CX P w) 8 f fd ["text"] (spCL K CF) := by
  refine F.okX scCL (fun vs H Q E h => ?_) (fun cdv A outer s H vs Q E hr h => ?_)
  · obtain ⟨ta, t, rfl, _⟩ := h
    rfl
  · obtain ⟨ta, t, rfl, hx, hsz, qe, qo⟩ := h
    have hr2 : Room 2 _ := hr.mono (by decide)
    have hr1 : Room 1 _ := hr.mono (by decide)
    refine ⟨_, pss_cons (ps_set (i := 1) scCL.nd rfl (Or.inl rfl) (pe_make M GI hr2 rfl T.gR bI .nil pass0 (pa_cons (pv 0) pa_nil)))
      (pss_cons (ps_set (i := 2) scCL.nd rfl (Or.inl rfl) (pe_lst pa_nil))
      (pss_cons (ps_set (i := 3) scCL.nd rfl (Or.inl rfl) pe_int)
      (pss_cons (ps_while (passes_of rfl) (PW.pt (pw_or (pt_truth (pv 2) (by intro _; rfl)) (pw_or1 (pt_not (pt_val (pe_meth0 (pv 1) T.cl mE GE hr1 bE .nil pass0))))))
        (pss_cons (ps_expr (pe_call GL hr rfl gL kL bL .nil (passes_call (takes_of rfl rfl rfl rfl) (fun _ _ _ _ h => h)) (pa_cons (pv 1) (pa_cons (pv 2) pa_nil))))
        (pss_one (ps_aug (i := 3) scCL.nd rfl (Or.inl rfl) pe_int in_add))))
      (pss_one (ps_ret (pv 3)))))), ?_⟩
    refine ⟨_, rfl, fun r dx nx ndx nex => ?_⟩
    have sm0 : Same H (upd (upd H dx (.own r)) r (.ins CR dx [])) := fun b o e => by
      rw [upd_ne (ne_of_none e nx), upd_ne (ne_of_none e ndx)]
      exact e
    refine ⟨r, ta, dx, rfl, upd_same, fun H1 on1 er => ⟨rfl, ?_⟩⟩
    have a1 : At K CR r dx ta t H1 0 := ⟨er, seq_only1 (sm0.seq hx) upd_same on1, Nat.zero_le _, hsz⟩
    refine ⟨Nat.zero_le _, fun bl nbl => ?_⟩
    have nr : r ≠ bl := ne_of_none a1.ob nbl
    have nt : Apart K ta bl (bs t) := Apart.new a1.tx nbl
    refine ⟨fun m σ H2 => ∃ (p n : Nat) (o : List Nat) (f : Nat), σ = [some (.ref ta), some (.ref r), some (.ref bl), some (.int (n : Nat))] ∧ At K CR r dx ta t H2 p ∧ H2 bl = some (.lst (bkV o)) ∧ OkO o ∧
      (t.drop p).length < f ∧ whole t = plusN n (cnt f o p (t.drop p)) ∧ m = t.length - p, ⟨_, 0, 0, [], t.length + 1, rfl, a1.same (same_upd nbl), upd_same, ⟨by decide, fun k h => absurd h List.not_mem_nil⟩, by rw [List.length_drop]; omega, ?_, rfl⟩, ?_⟩
    · show whole t = plusN 0 (whole t)
      cases whole t <;> rfl
    · rintro m σ H2 ⟨p, n, o, f, rfl, a2, eb, ho, hf, es, rfl⟩
      cases f with
      | zero => exact absurd hf (Nat.not_lt_zero _)
      | succ f =>
        refine ⟨_, rfl, !(bkV o).isEmpty, .inl ⟨_, SqL.of eb, rfl⟩, ?_⟩
        by_cases hend : t.drop p = [] ∧ o = []
        · obtain ⟨hp, rfl⟩ := hend
          have hpl : p = t.length := by
            have h1 := congrArg List.length hp
            rw [List.length_drop] at h1
            have := a2.le
            simp only [List.length_nil] at h1
            omega
          refine if_false_of rfl ?_
          refine ⟨_, rfl, r, dx, _, rfl, a2.ob, rfl, r, dx, ta, t, p, rfl, a2, _, rfl, ?_⟩
          rw [decide_eq_true hpl]
          rw [hp, cnt_end] at es
          refine ⟨_, rfl, ?_⟩
          have es' : whole t = .ok n := by
            rw [es]
            show Except.ok (0 + n) = _
            rw [Nat.zero_add]
          exact qo n es' H2
        · rw [cnt_step f o p (t.drop p) hend] at es
          by_cases ho0 : o = []
          case' pos =>
            subst ho0
            have hpl : p ≠ t.length := fun z => hend ⟨by rw [z, List.drop_length], rfl⟩
            refine if_false_of rfl ?_
            refine ⟨_, rfl, r, dx, _, rfl, a2.ob, rfl, r, dx, ta, t, p, rfl, a2, _, rfl, ?_⟩
            rw [decide_eq_false hpl]
          case' neg => refine if_true_of (by cases o with
            | nil => exact absurd rfl ho0
            | cons k r => simp [bkV]) ?_
          all_goals
          (refine ⟨fun σ H2 => ∃ (p' n : Nat) (o : List Nat) (f : Nat), σ = [some (.ref ta), some (.ref r), some (.ref bl), some (.int (n : Nat))] ∧ At K CR r dx ta t H2 p' ∧ H2 bl = some (.lst (bkV o)) ∧ OkO o ∧
            (t.drop p').length < f ∧ whole t = plusN n (cnt f o p' (t.drop p')) ∧ p < p', fun σ' H' ⟨p', n', o', f', e, b1, b2, b3, b4, b5, b6⟩ => ⟨_, by have := b1.le; omega, p', n', o', f', e, b1, b2, b3, b4, b5, rfl⟩, ?_⟩
           refine ⟨_, rfl, _, rfl, r, dx, ta, bl, t, p, _, rfl, a2, eb, nt, ho, fun k hk => qe k (by rw [es, hk]; rfl), fun o' p' hk H3 v ev a3 on3 => ?_⟩
           obtain ⟨_, eb3, ho3⟩ := ev
           rw [hk, bindX_ok, plusN_plus1] at es
           have hl := lineP_len hk
           have h3 := a3.le
           have h2 := a2.le
           refine ⟨_, rfl, _, _, rfl, rfl, p', n + 1, o', f, ?_, a3, eb3, ho3, by omega, es, ?_⟩
           · rfl
           · rw [List.length_drop, List.length_drop] at hl
             omega)
/-! ### method -/
def spMe (K : PySem.W.Frag) : Sp := fun vs H Q _ => ∃ (ta : Addr) (ns : List Int), vs = [.ref ta] ∧ SqL K H ta (ns.map V.int) ∧ ns.length ≤ 5000 ∧ (∀ x ∈ ns, 0 ≤ x ∧ x ≤ 255) ∧
  ∀ (H' : Hp) (p : Addr), H' p = some (.lst ((PyYqacda.method ns).map V.int)) → Q (.ref p) H'
theorem scMe : FnScope ["text", "fault"] ["text"] (defScope sMe) := ⟨rfl, rfl, rfl, by decide +kernel, rfl, by decide +kernel, by decide +kernel⟩
def t_suite (CF : Addr) : Addr → Value → Option Addr → TS := fun a cls d => tRet (tLst (tCons (tUn (rU fun i => .int (-i)) (tC (.int 5))) (tCons (tXf a cls d CF "rule" (tVar 1)) (tCons (tXf a cls d CF "place" (tVar 1)) tNil))))
theorem ok_Me {f fC : Addr} {fd fdC : FuncData} (F : Fun K "method" "method" sMe f fd) (T : Txt K mg CF fFI CR) (mb : ∃ u, mg "MOST_BYTES" = some (.int 4096 u))
    (gC : mg "count_lines" = some (.ref fC)) (kC : PySem.W.keepIn K (.ref fC) = true) (GC : FnOk P w K mg base (L2.CX P w) 8 fC fdC ["text"] (spCL K CF)) (bC : Binds K fdC ["text"] []) :
    FnOk P w K mg base CX0 9 f fd ["text"] (spMe K) := by
  refine F.ok scMe (fun vs H Q E h => ?_) (fun cdv A outer s H vs Q E hr h => ?_)
  · obtain ⟨ta, ns, rfl, _⟩ := h
    rfl
  · obtain ⟨ta, ns, rfl, hx, hsz, hby, q⟩ := h
    obtain ⟨u, hu⟩ := mb
    rw [spec_eq hby] at q
    have ex : ns.map V.int = bs (ns.map fun n => UInt8.ofNat n.toNat) := by
      have e := ints_of hby
      conv => lhs; rw [← e]
      show List.map V.int (List.map _ _) = _
      rw [List.map_map]
      rfl
    have el : (ns.map fun n => UInt8.ofNat n.toNat).length = ns.length := List.length_map _
    rw [ex] at hx
    generalize (ns.map fun n => UInt8.ofNat n.toNat) = t at hx q el
    have hsz' : t.length ≤ 5000 := by omega
    refine ⟨_, pss_cons (ps_if (pt_cmpR op_gt (pe_callB call_len_seq (by rfl) T.len PySem.boot_len (pa_cons (pv 0) pa_nil)) (pe_glob (v := .int 4096) rfl hu ⟨_, rfl⟩) (nomark _)) (pss_one (ps_ret (pe_lst (pa_cons (pe_un un_neg pe_int) pa_nil)))) pss_nil)
      (pss_one (ps_try_as (i := 1) (tb := fun W => tRet (tLst (tCons (tCallS (spCL K CF) (WE W) (tCons (tVar 0) tNil)) tNil))) (ts := t_suite CF) (Wout := fun _ _ _ _ => False) rfl rfl scMe.nd rfl rfl ⟨rfl, by decide, Or.inl T.gF⟩ takes0
        (fun W pn xe tk _ => pss_one (ps_ret (pe_lst (pa_cons (by exact (pe_callS GC hr rfl gC kC bC (fun σ => passAt tk σ) (by exact (pa_cons (pv 0) pa_nil)))) pa_nil))))
        (fun a oe cls d pn hz hf => pss_one (ps_ret (by exact (pe_lst (pa_cons (pe_un un_neg pe_int) (pa_cons (pe_xf T.xf T.nRule hz hf (pv 1)) (pa_cons (pe_xf T.xf T.nPlc hz hf (pv 1)) pa_nil))))))))), ?_⟩
    refine ⟨_, rfl, ta, _, rfl, .inl hx, _, _, rfl, rfl, _, rfl, ?_⟩
    have lb : (bs t).length = t.length := by simp
    by_cases hl : 4096 < t.length
    · refine if_true_of (by rw [lb]; exact decide_eq_true (by omega)) ?_
      refine ⟨_, rfl, by show 1 ≤ sizeLine; exact Nat.le_of_lt (small1000 (by decide)), fun p np => ?_⟩
      refine q _ p ?_
      unfold answer
      rw [if_pos hl, upd_same]
      rfl
    · refine if_false_of (by rw [lb]; exact decide_eq_false (by omega)) ?_
      refine ⟨_, rfl, ta, t, rfl, hx, hsz', fun k hk d H' ed => ?_, fun n hn H' => ?_⟩
      · refine ⟨true, T.te, fun _ a0 na => ?_, fun z => Bool.noConfusion z⟩
        refine ⟨_, rfl, _, rfl, rfl, rfl, d, _, _, rfl, ed, rfl, _, rfl, rfl, rfl, d, _, _, rfl, ed, rfl, ?_⟩
        refine ⟨by show 3 ≤ sizeLine; exact Nat.le_of_lt (small1000 (by decide)), fun p np => ?_⟩
        refine q _ p ?_
        unfold answer
        rw [if_neg hl, upd_same, hk]
        rfl
      · refine ⟨by show 1 ≤ sizeLine; exact Nat.le_of_lt (small1000 (by decide)), fun p np => ?_⟩
        refine q _ p ?_
        unfold answer
        rw [if_neg hl, upd_same, hn]
        rfl
end
end Ab

set_option Elab.async false
set_option linter.all false
set_option maxRecDepth 100000
set_option maxHeartbeats 4000000
namespace Ab
open PySem PySem.Spec PyProof.Rows L2 AbM
theorem exm_self {K : PySem.W.Frag} {S : Addr} (h1 : PySem.W.subIn K (.ref S) (.type "BaseException") = some true) (h2 : PySem.W.isClsIn K S = true) (h3 : PySem.W.typeIn K (.ref S) = some (.type "type")) (h4 : PySem.W.subIn K (.ref S) (.ref S) = some true) :
    PySem.W.exmOne K (.ref S) (.ref S) = some true := by
  have e1 : (PySem.W.subIn K (.ref S) (.type "BaseException") == some true) = true := by rw [h1] <;> rfl
  have e2 : ((PySem.W.clsIn K S).isSome && PySem.W.typeIn K (.ref S) == some (.type "type")) = true := by
    have h2' : (PySem.W.clsIn K S).isSome = true := h2
    rw [h2', h3] <;> rfl
  show (if (PySem.W.subIn K (.ref S) (.type "BaseException") == some true) = true then (if ((PySem.W.clsIn K S).isSome && PySem.W.typeIn K (.ref S) == some (.type "type")) = true then PySem.W.subIn K (.ref S) (.ref S) else none) else none) = some true
  rw [if_pos e1, if_pos e2]
  exact h4
theorem all_mk {P : Program} {w : World} {K : PySem.W.Frag} {h : Heap} {mg : Str → Option Value} {fa : Addr}
    {fFI : Addr} {odFI anFI : Option Addr} {slFI : Array (Option Value)} {ocFI kVFI dcFI pmFI cdFI ctFI : Value}
    {fRI : Addr} {odRI anRI : Option Addr} {slRI : Array (Option Value)} {ocRI kVRI dcRI pmRI cdRI ctRI : Value}
    {fEn : Addr} {odEn anEn : Option Addr} {slEn : Array (Option Value)} {ocEn kVEn dcEn pmEn cdEn ctEn : Value}
    {fSh : Addr} {odSh anSh : Option Addr} {slSh : Array (Option Value)} {ocSh kVSh dcSh pmSh cdSh ctSh : Value}
    {fRS : Addr} {odRS anRS : Option Addr} {slRS : Array (Option Value)} {ocRS kVRS dcRS pmRS cdRS ctRS : Value}
    {fRW : Addr} {odRW anRW : Option Addr} {slRW : Array (Option Value)} {ocRW kVRW dcRW pmRW cdRW ctRW : Value}
    {fSB : Addr} {odSB anSB : Option Addr} {slSB : Array (Option Value)} {ocSB kVSB dcSB pmSB cdSB ctSB : Value}
    {fCL : Addr} {odCL anCL : Option Addr} {slCL : Array (Option Value)} {ocCL kVCL dcCL pmCL cdCL ctCL : Value}
    {fLW : Addr} {odLW anLW : Option Addr} {slLW : Array (Option Value)} {ocLW kVLW dcLW pmLW cdLW ctLW : Value}
    {fRL : Addr} {odRL anRL : Option Addr} {slRL : Array (Option Value)} {ocRL kVRL dcRL pmRL cdRL ctRL : Value}
    {fRT : Addr} {odRT anRT : Option Addr} {slRT : Array (Option Value)} {ocRT kVRT dcRT pmRT cdRT ctRT : Value}
    {fRE : Addr} {odRE anRE : Option Addr} {slRE : Array (Option Value)} {ocRE kVRE dcRE pmRE cdRE ctRE : Value}
    {fRO : Addr} {odRO anRO : Option Addr} {slRO : Array (Option Value)} {ocRO kVRO dcRO pmRO cdRO ctRO : Value}
    {fRC : Addr} {odRC anRC : Option Addr} {slRC : Array (Option Value)} {ocRC kVRC dcRC pmRC cdRC ctRC : Value}
    {fRN : Addr} {odRN anRN : Option Addr} {slRN : Array (Option Value)} {ocRN kVRN dcRN pmRN cdRN ctRN : Value}
    {fMe : Addr} {odMe anMe : Option Addr} {slMe : Array (Option Value)} {ocMe kVMe dcMe pmMe cdMe ctMe : Value}
    {uMR uMB uMK uMD uDG uHD uMA uBY : Tok}
    {aB : Addr} {esB : Array DictEntry} {nB : Nat} {uB1 uB2 : Tok}
    {C R : Addr} {nm q : Str} {N : Addr} {bs0 : List Value} {sn : List Str} {sub : List Value} {ab : Bool} {col : Option Bool} {dd : Option Addr} {m0 m1 m2 m3 m5 : Option Value}
    (X : K.In h) (G : h.Ns mainGlobals mg) (hfa : mg "method" = some (.ref fa))
    (aFI : PySem.W.findIn K (.ref C) "__init__" = some (some (.ref fFI))) (iFI : PySem.W.typeIn K (.ref fFI) = some (.type "function"))
    (lFI : K.lookup fFI = some ⟨ocFI, odFI, .func (PySem.W.fnOf "__init__" "Fault.__init__" (defArgs sFI) (defBody sFI) (defScope sFI) .none kVFI dcFI pmFI anFI cdFI ctFI), slFI⟩) (cFI : PySem.W.codeIn K cdFI "Fault.__init__" = true) (kFI : PySem.W.keepIn K (.ref fFI) = true)
    (aRI : PySem.W.findIn K (.ref R) "__init__" = some (some (.ref fRI))) (iRI : PySem.W.isFn K (.ref fRI) = true)
    (lRI : K.lookup fRI = some ⟨ocRI, odRI, .func (PySem.W.fnOf "__init__" "Reader.__init__" (defArgs sRI) (defBody sRI) (defScope sRI) .none kVRI dcRI pmRI anRI cdRI ctRI), slRI⟩) (cRI : PySem.W.codeIn K cdRI "Reader.__init__" = true) (kRI : PySem.W.keepIn K (.ref fRI) = true)
    (aEn : PySem.W.findIn K (.ref R) "ended" = some (some (.ref fEn))) (iEn : PySem.W.isFn K (.ref fEn) = true)
    (lEn : K.lookup fEn = some ⟨ocEn, odEn, .func (PySem.W.fnOf "ended" "Reader.ended" (defArgs sEn) (defBody sEn) (defScope sEn) .none kVEn dcEn pmEn anEn cdEn ctEn), slEn⟩) (cEn : PySem.W.codeIn K cdEn "Reader.ended" = true) (kEn : PySem.W.keepIn K (.ref fEn) = true)
    (aSh : PySem.W.findIn K (.ref R) "shows" = some (some (.ref fSh))) (iSh : PySem.W.isFn K (.ref fSh) = true)
    (lSh : K.lookup fSh = some ⟨ocSh, odSh, .func (PySem.W.fnOf "shows" "Reader.shows" (defArgs sSh) (defBody sSh) (defScope sSh) .none kVSh dcSh pmSh anSh cdSh ctSh), slSh⟩) (cSh : PySem.W.codeIn K cdSh "Reader.shows" = true) (kSh : PySem.W.keepIn K (.ref fSh) = true)
    (aRS : PySem.W.findIn K (.ref R) "read_sign" = some (some (.ref fRS))) (iRS : PySem.W.isFn K (.ref fRS) = true)
    (lRS : K.lookup fRS = some ⟨ocRS, odRS, .func (PySem.W.fnOf "read_sign" "Reader.read_sign" (defArgs sRS) (defBody sRS) (defScope sRS) .none kVRS dcRS pmRS anRS cdRS ctRS), slRS⟩) (cRS : PySem.W.codeIn K cdRS "Reader.read_sign" = true) (kRS : PySem.W.keepIn K (.ref fRS) = true)
    (aRW : PySem.W.findIn K (.ref R) "read_word" = some (some (.ref fRW))) (iRW : PySem.W.isFn K (.ref fRW) = true)
    (lRW : K.lookup fRW = some ⟨ocRW, odRW, .func (PySem.W.fnOf "read_word" "Reader.read_word" (defArgs sRW) (defBody sRW) (defScope sRW) .none kVRW dcRW pmRW anRW cdRW ctRW), slRW⟩) (cRW : PySem.W.codeIn K cdRW "Reader.read_word" = true) (kRW : PySem.W.keepIn K (.ref fRW) = true)
    (aSB : PySem.W.nsIn K mainGlobals "signs_behind" = some (some (.ref fSB)))
    (lSB : K.lookup fSB = some ⟨ocSB, odSB, .func (PySem.W.fnOf "signs_behind" "signs_behind" (defArgs sSB) (defBody sSB) (defScope sSB) .none kVSB dcSB pmSB anSB cdSB ctSB), slSB⟩) (cSB : PySem.W.codeIn K cdSB "signs_behind" = true) (kSB : PySem.W.keepIn K (.ref fSB) = true)
    (aCL : PySem.W.nsIn K mainGlobals "count_lines" = some (some (.ref fCL)))
    (lCL : K.lookup fCL = some ⟨ocCL, odCL, .func (PySem.W.fnOf "count_lines" "count_lines" (defArgs sCL) (defBody sCL) (defScope sCL) .none kVCL dcCL pmCL anCL cdCL ctCL), slCL⟩) (cCL : PySem.W.codeIn K cdCL "count_lines" = true) (kCL : PySem.W.keepIn K (.ref fCL) = true)
    (aLW : PySem.W.nsIn K mainGlobals "line_words" = some (some (.ref fLW)))
    (lLW : K.lookup fLW = some ⟨ocLW, odLW, .func (PySem.W.fnOf "line_words" "line_words" (defArgs sLW) (defBody sLW) (defScope sLW) .none kVLW dcLW pmLW anLW cdLW ctLW), slLW⟩) (cLW : PySem.W.codeIn K cdLW "line_words" = true) (kLW : PySem.W.keepIn K (.ref fLW) = true)
    (aRL : PySem.W.nsIn K mainGlobals "read_line" = some (some (.ref fRL)))
    (lRL : K.lookup fRL = some ⟨ocRL, odRL, .func (PySem.W.fnOf "read_line" "read_line" (defArgs sRL) (defBody sRL) (defScope sRL) .none kVRL dcRL pmRL anRL cdRL ctRL), slRL⟩) (cRL : PySem.W.codeIn K cdRL "read_line" = true) (kRL : PySem.W.keepIn K (.ref fRL) = true)
    (aRT : PySem.W.nsIn K mainGlobals "read_tests" = some (some (.ref fRT)))
    (lRT : K.lookup fRT = some ⟨ocRT, odRT, .func (PySem.W.fnOf "read_tests" "read_tests" (defArgs sRT) (defBody sRT) (defScope sRT) .none kVRT dcRT pmRT anRT cdRT ctRT), slRT⟩) (cRT : PySem.W.codeIn K cdRT "read_tests" = true) (kRT : PySem.W.keepIn K (.ref fRT) = true)
    (aRE : PySem.W.nsIn K mainGlobals "read_expression" = some (some (.ref fRE)))
    (lRE : K.lookup fRE = some ⟨ocRE, odRE, .func (PySem.W.fnOf "read_expression" "read_expression" (defArgs sRE) (defBody sRE) (defScope sRE) .none kVRE dcRE pmRE anRE cdRE ctRE), slRE⟩) (cRE : PySem.W.codeIn K cdRE "read_expression" = true) (kRE : PySem.W.keepIn K (.ref fRE) = true)
    (aRO : PySem.W.nsIn K mainGlobals "read_opening_brackets" = some (some (.ref fRO)))
    (lRO : K.lookup fRO = some ⟨ocRO, odRO, .func (PySem.W.fnOf "read_opening_brackets" "read_opening_brackets" (defArgs sRO) (defBody sRO) (defScope sRO) .none kVRO dcRO pmRO anRO cdRO ctRO), slRO⟩) (cRO : PySem.W.codeIn K cdRO "read_opening_brackets" = true) (kRO : PySem.W.keepIn K (.ref fRO) = true)
    (aRC : PySem.W.nsIn K mainGlobals "read_closing_brackets" = some (some (.ref fRC)))
    (lRC : K.lookup fRC = some ⟨ocRC, odRC, .func (PySem.W.fnOf "read_closing_brackets" "read_closing_brackets" (defArgs sRC) (defBody sRC) (defScope sRC) .none kVRC dcRC pmRC anRC cdRC ctRC), slRC⟩) (cRC : PySem.W.codeIn K cdRC "read_closing_brackets" = true) (kRC : PySem.W.keepIn K (.ref fRC) = true)
    (aRN : PySem.W.nsIn K mainGlobals "read_number_or_letter" = some (some (.ref fRN)))
    (lRN : K.lookup fRN = some ⟨ocRN, odRN, .func (PySem.W.fnOf "read_number_or_letter" "read_number_or_letter" (defArgs sRN) (defBody sRN) (defScope sRN) .none kVRN dcRN pmRN anRN cdRN ctRN), slRN⟩) (cRN : PySem.W.codeIn K cdRN "read_number_or_letter" = true) (kRN : PySem.W.keepIn K (.ref fRN) = true)
    (aMe : PySem.W.nsIn K mainGlobals "method" = some (some (.ref fMe)))
    (lMe : K.lookup fMe = some ⟨ocMe, odMe, .func (PySem.W.fnOf "method" "method" (defArgs sMe) (defBody sMe) (defScope sMe) .none kVMe dcMe pmMe anMe cdMe ctMe), slMe⟩) (cMe : PySem.W.codeIn K cdMe "method" = true) (kMe : PySem.W.keepIn K (.ref fMe) = true)
    (guMR : PySem.W.nsIn K mainGlobals "METHOD_RULE" = some (some (.int 11 uMR)))
    (guMB : PySem.W.nsIn K mainGlobals "MOST_BLOCKS" = some (some (.int 16 uMB)))
    (guMK : PySem.W.nsIn K mainGlobals "MOST_BRACKETS" = some (some (.int 16 uMK)))
    (guMD : PySem.W.nsIn K mainGlobals "MOST_DIGITS" = some (some (.int 4 uMD)))
    (guDG : PySem.W.nsIn K mainGlobals "DIGITS" = some (some (.str "0123456789" uDG)))
    (guHD : PySem.W.nsIn K mainGlobals "HEADS" = some (some (.str "abcdefgh" uHD)))
    (guMA : PySem.W.nsIn K mainGlobals "MARKS" = some (some (.str "ABCDEFGH" uMA)))
    (guBY : PySem.W.nsIn K mainGlobals "MOST_BYTES" = some (some (.int 4096 uBY)))
    (nVE : PySem.W.nsIn K mainGlobals "ValueError" = some none) (nLen : PySem.W.nsIn K mainGlobals "len" = some none) (nOrd : PySem.W.nsIn K mainGlobals "ord" = some none)
    (gB : PySem.W.nsIn K mainGlobals "BRACKETS" = some (some (.ref aB))) (lB : K.lookup aB = some ⟨.type "dict", none, .dict esB nB, #[]⟩) (eB1 : PySem.W.nsIn K aB "[" = some (some (.str "]" uB1))) (eB2 : PySem.W.nsIn K aB "(" = some (some (.str ")" uB2))) (hB : PySem.W.KeysLit w.params esB.toList)
    (aC : PySem.W.nsIn K mainGlobals "Fault" = some (some (.ref C)))
    (xL : K.lookup C = some (excClassObj nm q C N bs0 [.type "ValueError", .type "Exception", .type "BaseException", .type "object"] true sn sub ab col dd m0 m1 m2 m3 m5 "ValueError.__new__"))
    (saC : PySem.W.findIn K (.ref C) "__setattr__" = some (some (.builtin "object.__setattr__"))) (gaC : PySem.W.findIn K (.ref C) "__getattribute__" = some (some (.builtin "BaseException.__getattribute__"))) (ggC : PySem.W.findIn K (.ref C) "__getattr__" = some none)
    (nRule : PySem.W.findIn K (.ref C) "rule" = some none) (nPlc : PySem.W.findIn K (.ref C) "place" = some none)
    (kC : PySem.W.keepIn K (.ref C) = true) (eC : PySem.W.subIn K (.ref C) (.type "BaseException") = some true) (tC : PySem.W.typeIn K (.ref C) = some (.type "type")) (hC : PySem.W.hasDictIn K C = true) (iC : PySem.W.isClsIn K C = true) (sC : PySem.W.subIn K (.ref C) (.ref C) = some true)
    (vV : PySem.W.findCls K (.type "ValueError") (.type "type") "__init__" = some (.val (.builtin "ValueError.__init__")))
    (aR : PySem.W.nsIn K mainGlobals "Reader" = some (some (.ref R))) (pg : PySem.W.plainGet K R Str.empty = true) (hd : PySem.W.hasDictIn K R = true) (po : PySem.W.plainOver K R = true) (saR : PySem.W.findIn K (.ref R) "__setattr__" = some (some (.builtin "object.__setattr__"))) (mk : PySem.W.makesIn K R = true) (kR : PySem.W.keepIn K (.ref R) = true)
    (nText : PySem.W.findIn K (.ref R) "text" = some none) (nPlace : PySem.W.findIn K (.ref R) "place" = some none)
    : ∃ fd : FuncData, (∀ (s : Shared) (us : List Value), us.length = (["text"] : List Str).length → BindsTo s fd ⟨us, []⟩ ((["text"] : List Str).zip us)) ∧ ∀ base : Heap, K.In base → base.Ns mainGlobals mg → FnOk P w K mg base CX0 9 fa fd ["text"] (spMe K) := by
  have e := hfa.symm.trans (PySem.W.mg_of X G aMe)
  cases e
  have T : Txt K mg C fFI R :=
    { ox := ⟨⟨nm, q, N, bs0, _, sn, sub, ab, col, dd, m0, m1, m2, m3, m5, xL, by decide +kernel⟩, saC, eC, tC, kC⟩, xf := ⟨gaC, ggC, eC, hC⟩, nRule := nRule, nPlc := nPlc, iF := aFI, tF := iFI, gF := PySem.W.mg_of X G aC, te := exm_self eC iC tC sC, nVE := PySem.W.mg_none_of X G nVE, vV := vV,
      rule := ⟨_, PySem.W.mg_of X G guMR⟩, cl := ⟨pg, hd, po, saR⟩, gR := PySem.W.mg_of X G aR, nText := nText, nPlace := nPlace, len := PySem.W.mg_none_of X G nLen, ord := PySem.W.mg_none_of X G nOrd }
  have GR : Gram mg := ⟨⟨_, PySem.W.mg_of X G guMB⟩, ⟨_, PySem.W.mg_of X G guMK⟩, ⟨_, PySem.W.mg_of X G guMD⟩, ⟨_, PySem.W.mg_of X G guDG⟩, ⟨_, PySem.W.mg_of X G guHD⟩, ⟨_, PySem.W.mg_of X G guMA⟩⟩
  have BR : Brk K mg w aB := ⟨PySem.W.mg_of X G gB, ⟨esB, nB, _, lB, hB, eB1, ⟨_, rfl⟩⟩, ⟨esB, nB, _, lB, hB, eB2, ⟨_, rfl⟩⟩⟩
  have FFI := fun_mk (st := sFI) lFI cFI kFI
  have bFI := FFI.binds (ps := ["self", "rule", "place"]) fun _ _ _ _ _ _ us hl => match us, hl with | [_, _, _], _ => rfl
  have FRI := fun_mk (st := sRI) lRI cRI kRI
  have bRI := FRI.binds (ps := ["self", "text"]) fun _ _ _ _ _ _ us hl => match us, hl with | [_, _], _ => rfl
  have FEn := fun_mk (st := sEn) lEn cEn kEn
  have bEn := FEn.binds (ps := ["self"]) fun _ _ _ _ _ _ us hl => match us, hl with | [_], _ => rfl
  have FSh := fun_mk (st := sSh) lSh cSh kSh
  have bSh := FSh.binds (ps := ["self", "signs"]) fun _ _ _ _ _ _ us hl => match us, hl with | [_, _], _ => rfl
  have FRS := fun_mk (st := sRS) lRS cRS kRS
  have bRS := FRS.binds (ps := ["self", "signs"]) fun _ _ _ _ _ _ us hl => match us, hl with | [_, _], _ => rfl
  have FRW := fun_mk (st := sRW) lRW cRW kRW
  have bRW := FRW.binds (ps := ["self", "words"]) fun _ _ _ _ _ _ us hl => match us, hl with | [_, _], _ => rfl
  have FSB := fun_mk (st := sSB) lSB cSB kSB
  have bSB := FSB.binds (ps := ["beginning", "words"]) fun _ _ _ _ _ _ us hl => match us, hl with | [_, _], _ => rfl
  have FCL := fun_mk (st := sCL) lCL cCL kCL
  have bCL := FCL.binds (ps := ["text"]) fun _ _ _ _ _ _ us hl => match us, hl with | [_], _ => rfl
  have FLW := fun_mk (st := sLW) lLW cLW kLW
  have bLW := FLW.binds (ps := ["blocks"]) fun _ _ _ _ _ _ us hl => match us, hl with | [_], _ => rfl
  have FRL := fun_mk (st := sRL) lRL cRL kRL
  have bRL := FRL.binds (ps := ["reader", "blocks"]) fun _ _ _ _ _ _ us hl => match us, hl with | [_, _], _ => rfl
  have FRT := fun_mk (st := sRT) lRT cRT kRT
  have bRT := FRT.binds (ps := ["reader"]) fun _ _ _ _ _ _ us hl => match us, hl with | [_], _ => rfl
  have FRE := fun_mk (st := sRE) lRE cRE kRE
  have bRE := FRE.binds (ps := ["reader"]) fun _ _ _ _ _ _ us hl => match us, hl with | [_], _ => rfl
  have FRO := fun_mk (st := sRO) lRO cRO kRO
  have bRO := FRO.binds (ps := ["reader", "closers"]) fun _ _ _ _ _ _ us hl => match us, hl with | [_, _], _ => rfl
  have FRC := fun_mk (st := sRC) lRC cRC kRC
  have bRC := FRC.binds (ps := ["reader", "closers"]) fun _ _ _ _ _ _ us hl => match us, hl with | [_, _], _ => rfl
  have FRN := fun_mk (st := sRN) lRN cRN kRN
  have bRN := FRN.binds (ps := ["reader"]) fun _ _ _ _ _ _ us hl => match us, hl with | [_], _ => rfl
  have FMe := fun_mk (st := sMe) lMe cMe kMe
  have mE : Meth K R "ended" fEn := ⟨aEn, iEn, kEn⟩
  have mS : Meth K R "shows" fSh := ⟨aSh, iSh, kSh⟩
  have mR : Meth K R "read_sign" fRS := ⟨aRS, iRS, kRS⟩
  have mW : Meth K R "read_word" fRW := ⟨aRW, iRW, kRW⟩
  have M : Mk K R fRI := ⟨mk, aRI, iRI, kR⟩
  refine ⟨PySem.W.fnOf "method" "method" (defArgs sMe) (defBody sMe) (defScope sMe) .none kVMe dcMe pmMe anMe cdMe ctMe, fun s us hu => match us, hu with | [_], _ => .of_eq rfl, fun base _ _ => ?_⟩
  have GFI : FnOk P w K mg base CX0 1 fFI _ ["self", "rule", "place"] (spFI C) := ok_FI FFI T
  have GRI : FnOk P w K mg base CX0 1 fRI _ ["self", "text"] (spRI R) := ok_RI FRI T
  have GEn : FnOk P w K mg base CX0 1 fEn _ ["self"] (spEn K R) := ok_En FEn T
  have GSh : FnOk P w K mg base CX0 2 fSh _ ["self", "signs"] (spSh K R) := ok_Sh FSh T mE GEn bEn
  have GRS : FnOk P w K mg base (L2.CX P w) 3 fRS _ ["self", "signs"] (spRS K R C) := ok_RS FRS T mS GSh bSh GFI bFI
  have GSB : FnOk P w K mg base CX0 1 fSB _ ["beginning", "words"] (spSB K) := ok_SB FSB T
  have GRW : FnOk P w K mg base (L2.CX P w) 4 fRW _ ["self", "words"] (spRW K R C) := ok_RW FRW T mS GSh bSh GFI bFI mR GRS bRS (PySem.W.mg_of X G aSB) kSB GSB bSB
  have GLW : FnOk P w K mg base CX0 1 fLW _ ["blocks"] (spLW K) := ok_LW FLW T GR
  have GRO : FnOk P w K mg base (L2.CX P w) 4 fRO _ ["reader", "closers"] (spRO K R) := ok_RO FRO T GR BR mS GSh bSh mR GRS bRS
  have GRC : FnOk P w K mg base (L2.CX P w) 4 fRC _ ["reader", "closers"] (spRC K R) := ok_RC FRC T mS GSh bSh mR GRS bRS
  have GRN : FnOk P w K mg base (L2.CX P w) 4 fRN _ ["reader"] (spRN K R C) := ok_RN FRN T GR mS GSh bSh mR GRS bRS
  have GRE : FnOk P w K mg base (L2.CX P w) 5 fRE _ ["reader"] (spRE K R C) := ok_RE FRE T mS GSh bSh mR GRS bRS (PySem.W.mg_of X G aRO) kRO GRO bRO (PySem.W.mg_of X G aRN) kRN GRN bRN (PySem.W.mg_of X G aRC) kRC GRC bRC
  have GRT : FnOk P w K mg base (L2.CX P w) 6 fRT _ ["reader"] (spRT K R C) := ok_RT FRT T mW GRW bRW (PySem.W.mg_of X G aRE) kRE GRE bRE
  have GRL : FnOk P w K mg base (L2.CX P w) 7 fRL _ ["reader", "blocks"] (spRL K R C) := ok_RL FRL T GR mR GRS bRS mW GRW bRW (PySem.W.mg_of X G aLW) kLW GLW bLW (PySem.W.mg_of X G aRE) kRE GRE bRE (PySem.W.mg_of X G aRT) kRT GRT bRT
  have GCL : FnOk P w K mg base (L2.CX P w) 8 fCL _ ["text"] (spCL K C) := ok_CL FCL T M GRI bRI mE GEn bEn (PySem.W.mg_of X G aRL) kRL GRL bRL
  exact ok_Me FMe T ⟨_, PySem.W.mg_of X G guBY⟩ (PySem.W.mg_of X G aCL) kCL GCL bCL
end Ab
open PySem PySem.W PyProof.Rows
set_option maxRecDepth 100000 in
set_option maxHeartbeats 8000000 in
theorem PySem.Challenge.cw_abacusways_s01_method_holds : PySem.Challenge.rw_abacusways_s01_method.Holds := by
  w_on; k_headS; (case hw => exact ⟨[.list []], by decide +kernel, by decide +kernel⟩)
  k_fillS
  refine L2.walk_specK (r := PySem.Challenge.rw_abacusways_s01_method) (k := 9) (CX := L2.CX0) (ps := ["text"]) (sp := Ab.spMe) (by decide +kernel) rfl rfl ⟨rfl, by decide, by decide⟩ (fun w h Y => PySem.W.kIn_of Y) ?F ?S (fun _ _ _ _ z => z)
  case F =>
    intro w mg fa h Y KX G hmg
    refine' Ab.all_mk KX G hmg ?aFI ?iFI ?lFI ?cFI ?kFI ?aRI ?iRI ?lRI ?cRI ?kRI ?aEn ?iEn ?lEn ?cEn ?kEn ?aSh ?iSh ?lSh ?cSh ?kSh ?aRS ?iRS ?lRS ?cRS ?kRS ?aRW ?iRW ?lRW ?cRW ?kRW ?aSB ?lSB ?cSB ?kSB ?aCL ?lCL ?cCL ?kCL ?aLW ?lLW ?cLW ?kLW ?aRL ?lRL ?cRL ?kRL ?aRT ?lRT ?cRT ?kRT ?aRE ?lRE ?cRE ?kRE ?aRO ?lRO ?cRO ?kRO ?aRC ?lRC ?cRC ?kRC ?aRN ?lRN ?cRN ?kRN ?aMe ?lMe ?cMe ?kMe ?guMR ?guMB ?guMK ?guMD ?guDG ?guHD ?guMA ?guBY ?nVE ?nLen ?nOrd ?gB ?lB ?eB1 ?eB2 ?hB ?aC ?xL ?saC ?gaC ?ggC ?nRule ?nPlc ?kC ?eC ?tC ?hC ?iC ?sC ?vV ?aR ?pg ?hd ?po ?saR ?mk ?kR ?nText ?nPlace
    (case aC => k_is)
    (case aR => k_is)
    (case aFI => k_is)
    (case iFI => k_is)
    (case lFI => k_is)
    (case cFI => k_is)
    (case kFI => k_is)
    (case aRI => k_is)
    (case iRI => k_is)
    (case lRI => k_is)
    (case cRI => k_is)
    (case kRI => k_is)
    (case aEn => k_is)
    (case iEn => k_is)
    (case lEn => k_is)
    (case cEn => k_is)
    (case kEn => k_is)
    (case aSh => k_is)
    (case iSh => k_is)
    (case lSh => k_is)
    (case cSh => k_is)
    (case kSh => k_is)
    (case aRS => k_is)
    (case iRS => k_is)
    (case lRS => k_is)
    (case cRS => k_is)
    (case kRS => k_is)
    (case aRW => k_is)
    (case iRW => k_is)
    (case lRW => k_is)
    (case cRW => k_is)
    (case kRW => k_is)
    (case aSB => k_is)
    (case lSB => k_is)
    (case cSB => k_is)
    (case kSB => k_is)
    (case aCL => k_is)
    (case lCL => k_is)
    (case cCL => k_is)
    (case kCL => k_is)
    (case aLW => k_is)
    (case lLW => k_is)
    (case cLW => k_is)
    (case kLW => k_is)
    (case aRL => k_is)
    (case lRL => k_is)
    (case cRL => k_is)
    (case kRL => k_is)
    (case aRT => k_is)
    (case lRT => k_is)
    (case cRT => k_is)
    (case kRT => k_is)
    (case aRE => k_is)
    (case lRE => k_is)
    (case cRE => k_is)
    (case kRE => k_is)
    (case aRO => k_is)
    (case lRO => k_is)
    (case cRO => k_is)
    (case kRO => k_is)
    (case aRC => k_is)
    (case lRC => k_is)
    (case cRC => k_is)
    (case kRC => k_is)
    (case aRN => k_is)
    (case lRN => k_is)
    (case cRN => k_is)
    (case kRN => k_is)
    (case aMe => k_is)
    (case lMe => k_is)
    (case cMe => k_is)
    (case kMe => k_is)
    (case guMR => k_is)
    (case guMB => k_is)
    (case guMK => k_is)
    (case guMD => k_is)
    (case guDG => k_is)
    (case guHD => k_is)
    (case guMA => k_is)
    (case guBY => k_is)
    (case nVE => k_is)
    (case nLen => k_is)
    (case nOrd => k_is)
    (case gB => k_is)
    (case lB => k_is)
    (case eB1 => k_is)
    (case eB2 => k_is)
    (case hB => exact ⟨⟨_, _, rfl, rfl⟩, ⟨_, _, rfl, rfl⟩, trivial⟩)
    (case xL => k_is)
    (case saC => k_is)
    (case gaC => k_is)
    (case ggC => k_is)
    (case nRule => k_is)
    (case nPlc => k_is)
    (case kC => k_is)
    (case eC => k_is)
    (case tC => k_is)
    (case hC => k_is)
    (case iC => k_is)
    (case sC => first | rfl | k_is)
    (case vV => k_is)
    (case pg => k_is)
    (case hd => k_is)
    (case po => k_is)
    (case saR => k_is)
    (case mk => k_is)
    (case kR => k_is)
    (case nText => k_is)
    (case nPlace => k_is)
  case S =>
    intro K H xs a hO hwi hask hx
    cases hx with
    | cons h1 h2 =>
      cases h2
      cases h1 with
      | lst hs ha =>
        have e := L2.ints_dw a.1 _ ha
        subst e
        have q : ((Codec.inLen 0 5000 a.1 && a.1.all (Codec.inInt 0 255)) && true) = true := hwi
        rw [Bool.and_eq_true, Bool.and_eq_true] at q
        refine ⟨_, a.1, rfl, hs, (Codec.inNat_iff.mp q.1.1).2, fun x hx => ?_, fun H' p hp => .lst (L2.SqL.of hp) (L2.dw_ints _)⟩
        have := List.all_eq_true.mp q.1.2 x hx
        exact Codec.inInt_iff.mp this
#print axioms PySem.Challenge.cw_abacusways_s01_method_holds
