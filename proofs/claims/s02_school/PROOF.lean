import PyProof.Rows.All
import Wide.All
import OpenK.AllK
import Wide.FinOn
import PyProof.EqAt
import PyProof.EqKinds
import PyProof.TupleCall
import Open.SpecLaws
import KE.OsGo
import PySem.Challenge.RW_abacusways_s02_school
import HandS.ForSpec
import HandS.Comp
import HandS.Iter
import HandS.Walk
import HandS.Text
import HandS.More
import HandS.Flow
import HandS.Steps
import HandS.Codes
set_option Elab.async false
set_option linter.all false
set_option maxRecDepth 100000
set_option maxHeartbeats 2000000
namespace Sc
open PySem PySem.Spec PyProof.Rows L2
def top (i : Nat) : Stmt := PySem.Challenge.pw_abacusways_s02_school.main.body.getD i (.Pass ⟨0, 0, 0, 0⟩)
abbrev sSc : Stmt := top 5
theorem if_true_of {c : Bool} {A B : Prop} (hc : c = true) (h : A) : if c = true then A else B := by
  rw [if_pos hc]
  exact h
theorem if_false_of {c : Bool} {A B : Prop} (hc : c = false) (h : B) : if c = true then A else B := by
  rw [hc, if_neg Bool.false_ne_true]
  exact h
/-- the four texts by their codes -/
def codes (p : Na.Method) : List Nat := Mv.natsOf (Na.Method.text p)
structure Txt (mg : Str → Option Value) (s0 s1 s2 s3 : Str) : Prop where
  p : ∃ u, mg "PLUS" = some (.str s0 u)
  t : ∃ u, mg "TIMES" = some (.str s1 u)
  d : ∃ u, mg "DIVIDE" = some (.str s2 u)
  r : ∃ u, mg "ROOT" = some (.str s3 u)
  e0 : s0.cps.toList = codes Na.plusMethod
  e1 : s1.cps.toList = codes Na.timesMethod
  e2 : s2.cps.toList = codes Na.divideMethod
  e3 : s3.cps.toList = codes Na.rootMethod
  len : mg "len" = none
  ord : mg "ord" = none
theorem due_none {k : Int} (h : 4 ≤ k) : PyYqacda.school k = [-1] := by
  show MvNeutral.told (Mv.answer (.school k.toNat)) = _
  have e : Na.school[k.toNat]? = none := List.getElem?_eq_none (by show 4 ≤ _; omega)
  show MvNeutral.told (match Na.school[k.toNat]? with | none => .refused 1 | some p => .nums (Mv.natsOf (Na.Method.text p))) = _
  rw [e]
  rfl
theorem due_some {k : Int} {p : Na.Method} (h : Na.school[k.toNat]? = some p) : PyYqacda.school k = [0] ++ (codes p).map fun (c : Nat) => (c : Int) := by
  show MvNeutral.told (Mv.answer (.school k.toNat)) = _
  show MvNeutral.told (match Na.school[k.toNat]? with | none => .refused 1 | some p => .nums (Mv.natsOf (Na.Method.text p))) = _
  rw [h]
  rfl
def texts (s0 s1 s2 s3 : Str) : List V := [.str s0, .str s1, .str s2, .str s3]
/-- the text at a place -/
theorem text_at {mg : Str → Option Value} {s0 s1 s2 s3 : Str} (T : Txt mg s0 s1 s2 s3) {k : Int} (h0 : 0 ≤ k) (h : k < 4) : ∃ z p, (texts s0 s1 s2 s3)[k.toNat]? = some (.str z) ∧ Na.school[k.toNat]? = some p ∧ z.cps.toList = codes p := by
  have : k = 0 ∨ k = 1 ∨ k = 2 ∨ k = 3 := by omega
  rcases this with rfl | rfl | rfl | rfl
  · exact ⟨s0, _, rfl, rfl, T.e0⟩
  · exact ⟨s1, _, rfl, rfl, T.e1⟩
  · exact ⟨s2, _, rfl, rfl, T.e2⟩
  · exact ⟨s3, _, rfl, rfl, T.e3⟩
theorem codes_len : ∀ p ∈ Na.school, (codes p).length ≤ 1000 := by decide +kernel
def spSc (_ : PySem.W.Frag) : Sp := fun vs H Q _ => ∃ k : Int, vs = [.int k] ∧ 0 ≤ k ∧ k ≤ 4294967295 ∧ ∀ (H' : Hp) (p : Addr), H' p = some (.lst ((PyYqacda.school k).map V.int)) → Q (.ref p) H'
theorem scSc : FnScope ["k", "texts", "sign"] ["k"] (defScope sSc) := ⟨rfl, rfl, rfl, by decide +kernel, rfl, by decide +kernel, by decide +kernel⟩
theorem small_le (z : Str) (h : z.cps.size ≤ 1000) : ([V.int 0] : List V).length + (z.cps.toList.map fun c => V.int ((c : Nat) : Int)).length < sizeLine := by
  have e : z.cps.size = z.cps.toList.length := by simp
  have : ([V.int 0] : List V).length + (z.cps.toList.map fun c => V.int ((c : Nat) : Int)).length ≤ 1001 := by
    rw [List.length_map]
    show 1 + _ ≤ _
    omega
  exact Nat.lt_of_le_of_lt this (by decide +kernel)
section
variable {P : Program} {w : World} {K : PySem.W.Frag} {mg : Str → Option Value} {base : Heap}
theorem ok_Sc {f : Addr} {fd : FuncData} {s0 s1 s2 s3 : Str} (F : Fun K "school" "school" sSc f fd) (T : Txt mg s0 s1 s2 s3) : FnOk P w K mg base CX0 1 f fd ["k"] (spSc K) := by
  refine F.ok scSc (fun vs H Q E h => ?_) (fun cdv A outer s H vs Q E hr h => ?_)
  · obtain ⟨k, rfl, _⟩ := h
    rfl
  · obtain ⟨k, rfl, hk0, hk1, q⟩ := h
    obtain ⟨u0, g0⟩ := T.p
    obtain ⟨u1, g1⟩ := T.t
    obtain ⟨u2, g2⟩ := T.d
    obtain ⟨u3, g3⟩ := T.r
    refine ⟨_, pss_cons (ps_set (i := 1) scSc.nd rfl (Or.inl rfl) (pe_lst (pa_cons (pe_glob (v := .str s0) rfl g0 ⟨_, rfl⟩) (pa_cons (pe_glob (v := .str s1) rfl g1 ⟨_, rfl⟩) (pa_cons (pe_glob (v := .str s2) rfl g2 ⟨_, rfl⟩) (pa_cons (pe_glob (v := .str s3) rfl g3 ⟨_, rfl⟩) pa_nil))))))
      (pss_cons (ps_if (pt_cmpR op_ge (pv 0) (pe_callB call_len_seq (by rfl) T.len PySem.boot_len (pa_cons (pv 1) pa_nil)) (nomark _)) (pss_one (ps_ret (pe_lst (pa_cons (pe_un un_neg pe_int) pa_nil)))) pss_nil)
      (pss_one (ps_ret (pe_op op_cat (pe_lst (pa_cons pe_int pa_nil))
        (pe_lc (own := [("sign", 2)]) (g := gName 2) (tt := tYes) rfl scSc.nd (pi_str (pe_ix ix_list (pv 1) (pv 0) (fun _ _ => rfl))) (blkOk_by (N := ["k", "texts", "sign"]) (sc := defScope sSc) (by decide +kernel)) (fun _ _ _ _ _ => pg_name (i := 2) scSc.nd rfl (Or.inl rfl)) (fun _ _ _ _ _ => pts_nil)
          (fun _ _ _ _ _ => pe_callB call_ord (by rfl) T.ord (by decide +kernel) (pa_cons (pv 2) pa_nil))))))), ?_⟩
    refine ⟨by show 4 ≤ sizeLine; exact Nat.le_of_lt (small1000 (by decide)), fun l nl => ?_⟩
    generalize hH1 : upd H l (.lst [V.str s0, V.str s1, V.str s2, V.str s3]) = H1
    have el : H1 l = some (.lst (texts s0 s1 s2 s3)) := by rw [← hH1]; exact upd_same
    refine ⟨_, rfl, _, rfl, l, _, rfl, .inl (SqL.of el), _, _, rfl, rfl, _, rfl, ?_⟩
    by_cases h4 : 4 ≤ k
    · refine if_true_of (decide_eq_true h4) ?_
      refine ⟨_, rfl, by show 1 ≤ sizeLine; exact Nat.le_of_lt (small1000 (by decide)), fun p np => ?_⟩
      refine q _ p ?_
      rw [due_none h4, upd_same]
      rfl
    · refine if_false_of (decide_eq_false h4) ?_
      obtain ⟨z, p, hz, hp, ez⟩ := text_at T hk0 (by omega)
      have hzl : z.cps.size ≤ 1000 := by
        have e : z.cps.size = z.cps.toList.length := by simp
        rw [e, ez]
        exact codes_len p (List.mem_of_getElem? hp)
      refine ⟨by show 1 ≤ sizeLine; exact Nat.le_of_lt (small1000 (by decide)), fun a na => ?_⟩
      generalize hH2 : upd H1 a (.lst [V.int 0]) = H2
      have el2 : H2 l = some (.lst (texts s0 s1 s2 s3)) := by rw [← hH2, upd_ne (ne_of_none el na)]; exact el
      have ea : H2 a = some (.lst [V.int 0]) := by rw [← hH2, upd_same]
      have hat : atI (texts s0 s1 s2 s3) k = some (.str z) := by
        have := atI_nat hz
        rwa [Int.toNat_of_nonneg hk0] at this
      have more : ∀ (i : Nat) (c : Nat), z.cps.toList[i]? = some c → (z.cps.toList.take (i + 1)).map (fun c => V.int ((c : Nat) : Int)) = (z.cps.toList.take i).map (fun c => V.int ((c : Nat) : Int)) ++ [.int ((c : Nat) : Int)] := fun i c h => by
        rw [List.take_add_one, h, List.map_append]
        rfl
      have short : ∀ i, ((z.cps.toList.take i).map (fun c => V.int ((c : Nat) : Int))).length < sizeLine := fun i => small1000 (by
        rw [List.length_map, List.length_take]
        have e : z.cps.size = z.cps.toList.length := by simp
        omega)
      refine ⟨_, rfl, _, rfl, l, _, _, _, rfl, rfl, SqL.of el2, hat, _, rfl, fun D hD => lc_it walk_str (Pv := fun i H' => H' = upd H2 D (.lst ((z.cps.toList.take i).map fun c => V.int ((c : Nat) : Int)))) rfl (fun _ _ _ _ => trivial) ?_ ?_⟩
      · rintro i x H3 H4 hi e ⟨rfl, c, hc, rfl⟩
        have hc' : z.cps.toList[i]? = some c := by simpa using hc
        refine ⟨rfl, ?_⟩
        refine ⟨_, rfl, _, rfl, rfl, _, by rw [e]; exact upd_same, short i, ?_⟩
        rw [e, upd_upd, more i c hc']
        rfl
      · intro H' e
        have et : z.cps.toList.take z.cps.size = z.cps.toList := List.take_of_length_le (by rw [(by simp : z.cps.size = z.cps.toList.length)]; exact Nat.le_refl _)
        rw [et] at e
        refine ⟨a, D, _, _, rfl, rfl, by rw [e, upd_ne (ne_of_none ea hD)]; exact ea, by rw [e, upd_same], ?_, fun r nr => ?_⟩
        · exact Nat.le_of_lt (small_le z hzl)
        · refine q _ r ?_
          rw [upd_same, due_some hp, ez, List.map_append, List.map_map]
          rfl
end
end Sc

set_option Elab.async false
set_option linter.all false
set_option maxRecDepth 100000
set_option maxHeartbeats 4000000
namespace Sc
open PySem PySem.Spec PyProof.Rows L2
theorem all_mk {P : Program} {w : World} {K : PySem.W.Frag} {h : Heap} {mg : Str → Option Value} {fa : Addr}
    {fSc : Addr} {od an : Option Addr} {sl : Array (Option Value)} {oc kV dc pm cd ct : Value} {s0 s1 s2 s3 : Str} {u0 u1 u2 u3 : Tok}
    (X : K.In h) (G : h.Ns mainGlobals mg) (hfa : mg "school" = some (.ref fa))
    (aSc : PySem.W.nsIn K mainGlobals "school" = some (some (.ref fSc)))
    (lSc : K.lookup fSc = some ⟨oc, od, .func (PySem.W.fnOf "school" "school" (defArgs sSc) (defBody sSc) (defScope sSc) .none kV dc pm an cd ct), sl⟩) (cSc : PySem.W.codeIn K cd "school" = true) (kSc : PySem.W.keepIn K (.ref fSc) = true)
    (g0 : PySem.W.nsIn K mainGlobals "PLUS" = some (some (.str s0 u0))) (g1 : PySem.W.nsIn K mainGlobals "TIMES" = some (some (.str s1 u1))) (g2 : PySem.W.nsIn K mainGlobals "DIVIDE" = some (some (.str s2 u2))) (g3 : PySem.W.nsIn K mainGlobals "ROOT" = some (some (.str s3 u3)))
    (e0 : s0.cps.toList = codes Na.plusMethod) (e1 : s1.cps.toList = codes Na.timesMethod) (e2 : s2.cps.toList = codes Na.divideMethod) (e3 : s3.cps.toList = codes Na.rootMethod)
    (nLen : PySem.W.nsIn K mainGlobals "len" = some none) (nOrd : PySem.W.nsIn K mainGlobals "ord" = some none)
    : ∃ fd : FuncData, (∀ (s : Shared) (us : List Value), us.length = (["k"] : List Str).length → BindsTo s fd ⟨us, []⟩ ((["k"] : List Str).zip us)) ∧ ∀ base : Heap, K.In base → base.Ns mainGlobals mg → FnOk P w K mg base CX0 1 fa fd ["k"] (spSc K) := by
  have e := hfa.symm.trans (PySem.W.mg_of X G aSc)
  cases e
  have T : Txt mg s0 s1 s2 s3 := ⟨⟨_, PySem.W.mg_of X G g0⟩, ⟨_, PySem.W.mg_of X G g1⟩, ⟨_, PySem.W.mg_of X G g2⟩, ⟨_, PySem.W.mg_of X G g3⟩, e0, e1, e2, e3, PySem.W.mg_none_of X G nLen, PySem.W.mg_none_of X G nOrd⟩
  have FSc := fun_mk (st := sSc) lSc cSc kSc
  refine ⟨PySem.W.fnOf "school" "school" (defArgs sSc) (defBody sSc) (defScope sSc) .none kV dc pm an cd ct, fun s us hu => match us, hu with | [_], _ => .of_eq rfl, fun base _ _ => ok_Sc FSc T⟩
end Sc
open PySem PySem.W PyProof.Rows
set_option maxRecDepth 100000 in
set_option maxHeartbeats 8000000 in
theorem PySem.Challenge.cw_abacusways_s02_school_holds : PySem.Challenge.rw_abacusways_s02_school.Holds := by
  w_on; k_headS; (case hw => exact ⟨[.int 0], by decide +kernel, by decide +kernel⟩)
  k_fillS
  refine L2.walk_specK (r := PySem.Challenge.rw_abacusways_s02_school) (k := 1) (CX := L2.CX0) (ps := ["k"]) (sp := Sc.spSc) (by decide +kernel) rfl rfl ⟨rfl, by decide, by decide⟩ (fun w h Y => PySem.W.kIn_of Y) ?F ?S (fun _ _ _ _ z => z)
  case F =>
    intro w mg fa h Y KX G hmg
    refine' Sc.all_mk KX G hmg ?aSc ?lSc ?cSc ?kSc ?cP ?cT ?cD ?cR ?tP ?tT ?tD ?tR ?nLen ?nOrd
    (case aSc => k_is)
    (case lSc => k_is)
    (case cSc => k_is)
    (case kSc => k_is)
    (case cP => k_is)
    (case cT => k_is)
    (case cD => k_is)
    (case cR => k_is)
    (case tP => decide +kernel)
    (case tT => decide +kernel)
    (case tD => decide +kernel)
    (case tR => decide +kernel)
    (case nLen => k_is)
    (case nOrd => k_is)
  case S =>
    intro K H xs a hO hwi hask hx
    cases hx with
    | cons h1 h2 =>
      cases h2
      cases h1 with
      | int n =>
        have q : (Codec.inInt 0 4294967295 a.1 && true) = true := hwi
        rw [Bool.and_eq_true] at q
        have q2 := Codec.inInt_iff.mp q.1
        exact ⟨a.1, rfl, q2.1, q2.2, fun H' p hp => .lst (L2.SqL.of hp) (L2.dw_ints _)⟩
#print axioms PySem.Challenge.cw_abacusways_s02_school_holds
