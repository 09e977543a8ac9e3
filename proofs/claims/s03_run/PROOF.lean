import PyProof.Rows.All
import Wide.All
import OpenK.AllK
import Wide.FinOn
import PyProof.EqAt
import PyProof.EqKinds
import PyProof.TupleCall
import Open.SpecLaws
import KE.OsGo
import PySem.Challenge.RW_abacusways_s03_run
import HandS.ForSpec
import HandS.Comp
import HandS.Iter
import HandS.Walk
import HandS.Text
import HandS.More
import HandS.Dict
import HandS.ExcInit
import HandS.ExcField
import HandS.Flow
import HandS.Steps
import HandS.Codes
import HandS.ClsMeth
import KE.GoesZip
import KE.GoesMore
import KE.GoesEnum
import KE.KAsSuite
import HandS.SuiteRaise
import HandS.RaiseFrom
import HandS.ExcInitHot
import HandS.WordsExc
import HandS.IsInst
import HandS.Wide
import HandS.TupLe
import KE.KTupSum
import HandS.TupAny
import HandS.TupLen
set_option Elab.async false
set_option linter.all false
namespace Ab
open PySem PySem.Spec PyProof.Rows L2
/-! ### the text -/
def top (i : Nat) : Stmt := PySem.Challenge.pw_abacusways_s03_run.main.body.getD i (.Pass ⟨0, 0, 0, 0⟩)
abbrev sBI : Stmt := inClass (top 10) 0
abbrev sLI : Stmt := inClass (top 11) 0
abbrev sFI : Stmt := inClass (top 12) 0
abbrev sAI : Stmt := inClass (top 13) 0
abbrev sVI : Stmt := inClass (top 14) 0
abbrev sYI : Stmt := inClass (top 15) 0
abbrev sUI : Stmt := inClass (top 16) 0
abbrev sKI : Stmt := inClass (top 17) 0
abbrev sOI : Stmt := inClass (top 26) 0
abbrev sRM : Stmt := top 27
abbrev sCO : Stmt := top 28
abbrev sFF : Stmt := top 29
abbrev sIB : Stmt := top 30
abbrev sFS : Stmt := top 31
abbrev sNF : Stmt := inClass (top 34) 0
abbrev sNL : Stmt := inClass (top 34) 1
abbrev sNC : Stmt := inClass (top 34) 2
abbrev sCT : Stmt := top 35
abbrev sPO : Stmt := top 40
abbrev sTS : Stmt := top 41
abbrev sWO : Stmt := top 42
abbrev sCA : Stmt := top 43
abbrev sIS : Stmt := top 44
abbrev sAS : Stmt := top 45
abbrev sRI : Stmt := inClass (top 47) 0
abbrev sEn : Stmt := inClass (top 47) 1
abbrev sSh : Stmt := inClass (top 47) 2
abbrev sRS : Stmt := inClass (top 47) 3
abbrev sRW : Stmt := inClass (top 47) 4
abbrev sSB : Stmt := top 48
abbrev sRD : Stmt := top 55
abbrev sLW : Stmt := top 56
abbrev sRL : Stmt := top 57
abbrev sRT : Stmt := top 58
abbrev sRE : Stmt := top 59
abbrev sRO : Stmt := top 60
abbrev sRC : Stmt := top 61
abbrev sRN : Stmt := top 62
abbrev sUR : Stmt := inClass (top 66) 0
abbrev sGT : Stmt := inClass (top 66) 1
abbrev sDL : Stmt := inClass (top 66) 2
abbrev sCF : Stmt := inClass (top 66) 3
abbrev sSE : Stmt := inClass (top 66) 4
abbrev sFL : Stmt := top 67
abbrev sFG : Stmt := top 68
abbrev sRun : Stmt := top 74
abbrev sCS : Stmt := top 75
abbrev sCR : Stmt := top 76
end Ab

set_option Elab.async false
set_option linter.all false
set_option maxRecDepth 100000
set_option maxHeartbeats 2000000
namespace Ab
open PySem PySem.Spec PyProof.Rows L2
/-! ### zip of two texts and a list -/
def ItZ3 (K : PySem.W.Frag) (z1 z2 : Str) (a : Addr) : It :=
  ⟨fun i H => ∃ (xs : List V) (x : V), i < z1.cps.size ∧ i < z2.cps.size ∧ SqL K H a xs ∧ xs[i]? = some x,
    fun i H v H' => ∃ (T : Addr) (c d : Nat) (x : V), v = .ref T ∧ H T = none ∧ z1.cps[i]? = some c ∧ z2.cps[i]? = some d ∧ H' = upd H T (.tup [.str ⟨#[c]⟩, .str ⟨#[d]⟩, x]) ∧ ∀ xs, SqL K H a xs → xs[i]? = some x,
    fun i H => ∃ xs : List V, SqL K H a xs ∧ i ≤ z1.cps.size ∧ i ≤ z2.cps.size ∧ i ≤ xs.length ∧ (i = z1.cps.size ∨ i = z2.cps.size ∨ i = xs.length)⟩
theorem turn_zip3 {P : Program} {w : World} {K : PySem.W.Frag} {elts : List Expr} {kk : Nat} {tpos : Pos} {z1 z2 : Str} {t1 t2 : Tok} {a z TI TO i1 i2 i3 : Addr} (D : ZipSep3 z TI TO i1 i2 i3 [i1] [i2] [i3, a]) :
    Turn P w K (.Tuple elts kk tpos) (ItZ3 K z1 z2 a) [z, TI, TO, i1, i2, i3] z (fun i h => IsZip h z TI TO .none ∧ IsTupOf3 h TI (.ref i1) (.ref i2) (.ref i3) ∧ (∃ x y u, IsTupOf3 h TO x y u) ∧ h.IsStrIter i1 (strIterType z1) z1 t1 i ∧ h.IsStrIter i2 (strIterType z2) z2 t2 i ∧ h.IsListIter i3 a i) where
  mem := by simp
  obj := fun i h st c hc => by
    obtain ⟨hz, hTI, ⟨x, y, u, hTO⟩, ⟨o1, e1, _, d1⟩, ⟨o2, e2, _, d2⟩, ⟨o3, e3, _, d3⟩⟩ := st
    have e' : c = z ∨ c = TI ∨ c = TO ∨ c = i1 ∨ c = i2 ∨ c = i3 := by simpa using hc
    rcases e' with q | q | q | q | q | q
    · rw [q]; exact ⟨_, hz, fun v q => nomatch q⟩
    · rw [q]; exact ⟨_, hTI, fun v q => nomatch q⟩
    · rw [q]; exact ⟨_, hTO, fun v q => nomatch q⟩
    · rw [q]; exact ⟨o1, e1, fun v q => by rw [d1] at q; cases q⟩
    · rw [q]; exact ⟨o2, e2, fun v q => by rw [d2] at q; cases q⟩
    · rw [q]; exact ⟨o3, e3, fun v q => by rw [d3] at q; cases q⟩
  keep := fun i h h' st k => by
    obtain ⟨hz, hTI, ⟨x, y, u, hTO⟩, ⟨o1, e1, r1⟩, ⟨o2, e2, r2⟩, h3⟩ := st
    exact ⟨k z (by simp) _ hz, k TI (by simp) _ hTI, ⟨x, y, u, k TO (by simp) _ hTO⟩, ⟨o1, k i1 (by simp) _ e1, r1⟩, ⟨o2, k i2 (by simp) _ e2, r2⟩, h3.at fun o q => k i3 (by simp) o q⟩
  item := by
    intro X hP hw hK hc i pins s σ H E I hf st hg
    subst hP hw hK
    obtain ⟨hz, hTI, ⟨x0, y0, u0, hTO⟩, h1, h2, h3⟩ := st
    obtain ⟨xs, x, hi1, hi2, hqx, hx⟩ := hg
    obtain ⟨its, rv, p, _⟩ := I.list hqx
    obtain ⟨u, hu, ru⟩ := rv.get hx
    have hzl : z < s.heap.objs.size := Heap.lt_size hz
    have hne : a ≠ i3 := fun q => by
      obtain ⟨o3, e3, c3, d3⟩ := h3
      obtain ⟨o', e4, c4, _, d4⟩ := p.isList
      rw [q, e3] at e4
      cases e4
      rw [d3] at d4
      cases d4
    have hcalm : X.A.in1.handled = none := I.ok.hd hc
    have hi3 : i < its.toArray.size := by
      have := (List.getElem?_eq_some_iff.mp hu).1
      simpa using this
    refine wpAny_pyNext_zipD3_item D (Draws.text hcalm i1 z1 t1) (Draws.text hcalm i2 z2 t2) (Draws.list hcalm i3 a hne its.toArray) hz hTI hTO h1 h2 ⟨h3, p.isList⟩ hi1 hi2 hi3 fun y1 y2 y3 h' tk p1 p2 p3 z' TO' h1' h2' h3' hT hsz hk => ?_
    obtain ⟨c, t, hc1, rfl⟩ := p1
    obtain ⟨d, t', hd1, rfl⟩ := p2
    have e3 : y3 = u := by
      have q : its.toArray[i]? = some y3 := p3
      rw [List.getElem?_toArray, hu] at q
      exact (Option.some.inj q).symm
    subst e3
    refine ⟨_, rfl, wpAny_letOwnedTupleGo_zip (s := { s with heap := h', toks := tk }) z' fun h'' z'' sb => ?_⟩
    have hT2 : h''.get? s.heap.objs.size = some { cls := .type "tuple", data := .seq #[.str ⟨#[c]⟩ t, .str ⟨#[d]⟩ t', y3] } := (sb.2 _ (Nat.ne_of_gt hzl)).trans hT
    have new : ObjOk X.prog X.w (upd H s.heap.objs.size (.tup [.str ⟨#[c]⟩, .str ⟨#[d]⟩, x])) h'' s.heap.objs.size (.tup [.str ⟨#[c]⟩, .str ⟨#[d]⟩, x]) :=
      ⟨by show 3 ≤ sizeLine; decide, [.str ⟨#[c]⟩ t, .str ⟨#[d]⟩ t', y3], .cons ⟨_, rfl⟩ (.cons ⟨_, rfl⟩ (.cons ru .nil)), ⟨_, hT2, rfl, _, rfl⟩⟩
    have I1 : Inv X pins σ (upd H s.heap.objs.size (.tup [.str ⟨#[c]⟩, .str ⟨#[d]⟩, x])) { s with heap := h'', toks := tk } :=
      I.turnedNew (ch := [z, TI, TO, i1, i2, i3]) (fun b o hb q => (sb.2 b (fun q' => hb (by simp [q']))).trans (hk b o (fun q' => hb (by simp [q'])) (fun q' => hb (by simp [q'])) (fun q' => hb (by simp [q'])) (fun q' => hb (by simp [q'])) (fun q' => hb (by simp [q'])) q)) hf (Nat.le_refl _) new
    have up : ∀ b o, b ≠ z → h'.get? b = some o → h''.get? b = some o := fun b o hb q => (sb.2 b hb).trans q
    obtain ⟨o1, e1, r1⟩ := h1'
    obtain ⟨o2, e2, r2⟩ := h2'
    refine ⟨.ref s.heap.objs.size, _, I1, rfl, ⟨_, c, d, x, rfl, I.hok.fresh (Nat.le_refl _), hc1, hd1, rfl, fun l hl => by rw [I.list_inj hl hqx]; exact hx⟩, ⟨z'', up _ _ D.TIz (hk _ _ D.TIz D.TITO D.TIi1 D.TIi2 D.TIi3 hTI), ⟨_, _, _, up _ _ D.TOz TO'⟩, ⟨o1, up _ _ (Ne.symm D.zi1) e1, r1⟩, ⟨o2, up _ _ (Ne.symm D.zi2) e2, r2⟩, h3'.1.at fun o q => up _ _ (Ne.symm D.zi3) q⟩, fun b hb => ?_⟩
    have hlt : b < s.heap.objs.size := by
      obtain ⟨o1, e1, _⟩ := h1
      obtain ⟨o2, e2, _⟩ := h2
      obtain ⟨o3, e3, _⟩ := h3
      have e' : b = z ∨ b = TI ∨ b = TO ∨ b = i1 ∨ b = i2 ∨ b = i3 := by simpa using hb
      rcases e' with q | q | q | q | q | q
      · rw [q]; exact hzl
      · rw [q]; exact Heap.lt_size hTI
      · rw [q]; exact Heap.lt_size hTO
      · rw [q]; exact Heap.lt_size e1
      · rw [q]; exact Heap.lt_size e2
      · rw [q]; exact Heap.lt_size e3
    rw [upd_ne (Nat.ne_of_lt hlt)]
    exact (hf b hb).1
  done := by
    intro X hP hw hK hc i pins s σ H E I hf st hg
    subst hP hw hK
    obtain ⟨hz, hTI, ⟨x0, y0, u0, hTO⟩, h1, h2, h3⟩ := st
    obtain ⟨xs, hqx, l1, l2, l3, hend⟩ := hg
    obtain ⟨its, rv, p, _⟩ := I.list hqx
    have hl := rv.length
    have hne : a ≠ i3 := fun q => by
      obtain ⟨o3, e3, c3, d3⟩ := h3
      obtain ⟨o', e4, c4, _, d4⟩ := p.isList
      rw [q, e3] at e4
      cases e4
      rw [d3] at d4
      cases d4
    have hcalm : X.A.in1.handled = none := I.ok.hd hc
    have es : its.toArray.size = xs.length := by rw [List.size_toArray]; exact hl.symm
    exact wpAny_pyNext_zipD3_end D (Draws.text hcalm i1 z1 t1) (Draws.text hcalm i2 z2 t2) (Draws.list hcalm i3 a hne its.toArray) hz hTI hTO h1 h2 ⟨h3, p.isList⟩ l1 l2 (by rw [es]; exact l3) (by rw [es]; exact hend) fun h' tk hk =>
      ⟨rfl, I.turnedL (t' := tk) (ch := [z, TI, TO, i1, i2, i3]) (fun c o hb q => hk c o (fun q' => hb (by simp [q'])) (fun q' => hb (by simp [q'])) (fun q' => hb (by simp [q'])) (fun q' => hb (by simp [q'])) (fun q' => hb (by simp [q'])) q) hf⟩
  self := fun A i s Q E st h => wpAny_pyIter_zip st.1 h
def iZip3 (K : PySem.W.Frag) (ta : TA) : TI := fun σ H R => ta σ H fun vs H1 => ∃ (z1 z2 : Str) (a : Addr) (xs : List V), vs = [.str z1, .str z2, .ref a] ∧ SqL K H1 a xs ∧ R (ItZ3 K z1 z2 a) H1
theorem pi_zip3 {X : Cx} {e e2 e3 : Expr} {ta : TA} {p pos tpos : Pos} {elts : List Expr} {kk : Nat} (hg : Gl X "zip") (hm : X.mg "zip" = none) (ha : PA X [e, e2, e3] ta)
    (hs : starEach [e, e2, e3] X.env = (false, eval e X.env) :: starEach [e2, e3] X.env := by rfl) (hpl : (backTo pos (starEach [e2, e3] X.env)).any (·.1) = false := by rfl) :
    PI X (.Tuple elts kk tpos) (.Call (.Name "zip" p) [e, e2, e3] [] pos) (iZip3 X.K ta) := by
  refine ⟨fun pins s σ H R I h => ?_⟩
  refine Call_ (ld_blt I hg hm PyProof.Rows.boot_zip (PyProof.Rows.callWith_type1 (thn (ha.run pos pins s σ H _ I h) fun us s1 ⟨vs, H1, I1, r1, q1⟩ => ?_) hs hpl))
  obtain ⟨z1, z2, a, xs, ex, hqx, q⟩ := q1
  subst ex
  cases r1 with
  | cons r rr =>
    cases rr with
    | cons r' rr =>
      cases rr with
      | cons r'' rr =>
        cases rr
        obtain ⟨t1, rfl⟩ := r
        obtain ⟨t2, rfl⟩ := r'
        cases r''
        obtain ⟨its, rv, p1, _⟩ := I1.list hqx
        have la : a < s1.heap.objs.size := p1.lt
        refine zip_begins3 (begins_text z1 t1) (begins_text z2 t2) (begins_list a its.toArray) trivial trivial p1.isList fun h' hz hTI hTO g1 g2 g3 hsz hk => wpAny_pyIter_zip hz ?_
        have I2 : Inv X pins σ H1 { s1 with heap := h' } := I1.kept (t' := s1.toks) hk
        refine ⟨s1.heap.objs.size + 5, [s1.heap.objs.size + 5, s1.heap.objs.size + 3, s1.heap.objs.size + 4, s1.heap.objs.size, s1.heap.objs.size + 1, s1.heap.objs.size + 2], _, _, H1, rfl, I2, turn_zip3 (zip_sep3 (fp1 := []) (fp2 := []) (fp3 := [a]) (fun b hb => (nomatch hb)) (fun b hb => (nomatch hb)) (fun b hb => by rw [List.mem_singleton.mp hb]; exact la)), ⟨hz, hTI, ⟨_, _, _, hTO⟩, ⟨_, g1, rfl, rfl⟩, ⟨_, g2, rfl, rfl⟩, ⟨_, g3, rfl, rfl⟩⟩, fun c hcm => ?_, q⟩
        have e' : c = s1.heap.objs.size + 5 ∨ c = s1.heap.objs.size + 3 ∨ c = s1.heap.objs.size + 4 ∨ c = s1.heap.objs.size ∨ c = s1.heap.objs.size + 1 ∨ c = s1.heap.objs.size + 2 := by simpa using hcm
        have hle : s1.heap.objs.size ≤ c := by
          rcases e' with z | z | z | z | z | z
          · rw [z]; exact Nat.le_add_right _ _
          · rw [z]; exact Nat.le_add_right _ _
          · rw [z]; exact Nat.le_add_right _ _
          · rw [z]; exact Nat.le_refl _
          · rw [z]; exact Nat.le_add_right _ _
          · rw [z]; exact Nat.le_add_right _ _
        exact I1.fpOk hle (I1.hok.fresh hle)
theorem walk_zip3 {K : PySem.W.Frag} {z1 z2 : Str} {a : Addr} {xs : List V} {n : Nat} (h1 : z1.cps.size = n) (h2 : z2.cps.size = n) (h3 : xs.length = n) :
    Walk (ItZ3 K z1 z2 a) n (fun H => SqL K H a xs) (fun i H v H' => ∃ (T : Addr) (c d : Nat) (x : V), v = .ref T ∧ H T = none ∧ z1.cps[i]? = some c ∧ z2.cps[i]? = some d ∧ H' = upd H T (.tup [.str ⟨#[c]⟩, .str ⟨#[d]⟩, x]) ∧ xs[i]? = some x) := by
  refine ⟨fun i _ hi q => ?_, fun _ q => ⟨xs, q, by omega, by omega, by omega, .inl h1.symm⟩, fun i H v H' _ q y => ?_⟩
  · exact ⟨xs, xs[i], by omega, by omega, q, by simp⟩
  · obtain ⟨T, c, d, x, e1, e2, e3, e4, e5, e6⟩ := y
    exact ⟨T, c, d, x, e1, e2, e3, e4, e5, e6 xs q⟩
end Ab

set_option Elab.async false
set_option linter.all false
set_option maxRecDepth 100000
set_option maxHeartbeats 2000000
namespace Ab
open PySem PySem.Spec PyProof.Rows L2
/-! ### try .. except C as n, the suite raising -/
section
variable {X : Cx} {pins : List (Addr × Obj)} {σ : L2.St} {H : Hp} {s : Shared} {i : Nat} {n : Str}
theorem gone_at (I : Inv X pins σ H s) (hN : X.N.Nodup) (hi : X.N[i]? = some n) : ∃ m, s.heap.Ns X.env.locals m ∧
    ∀ (h' : Heap) (v : Option Value), h'.Ns X.env.locals (fun x => if x = n then v else m x) → Heap.SameBut X.env.locals s.heap h' → Inv X pins (σ.set i none) H { s with heap := h' } := by
  obtain ⟨m, hn, hlk⟩ := id I.loc
  refine ⟨m, hn, fun h' v hn' hs => ?_⟩
  have neL : ∀ b o, X.s_0.heap.get? b = some o → b ≠ X.env.locals := fun b o e => Nat.ne_of_lt (Nat.lt_of_lt_of_le (Heap.lt_size e) I.ok.above)
  exact {
    ok := I.ok
    os := I.os
    bare := I.bare
    base := {
      keep := fun b o e n hb hx => (hs.2 b (neL b o e)).trans (I.base.keep b o e n hb hx)
      slot := fun b o e n hb hx => let ⟨sl, e1⟩ := I.base.slot b o e n hb hx; ⟨sl, (hs.2 b (neL b o e)).trans e1⟩
      free := I.base.free
      there := fun b o e hx => let ⟨o', e1⟩ := I.base.there b o e hx; ⟨o', (hs.2 b (neL b o e)).trans e1⟩
      tups := I.base.tups
      frzs := I.base.frzs
      tbls := I.base.tbls }
    loc := by
      refine ⟨_, hn', fun j y v' e1 e2 e3 => ?_⟩
      by_cases hj : j = i
      · subst hj
        by_cases hlt : j < σ.length
        · rw [List.getElem?_set_self hlt] at e2; cases e2
        · rw [List.getElem?_eq_none (by rw [List.length_set]; omega)] at e2; cases e2
      · rw [List.getElem?_set_ne (Ne.symm hj)] at e2
        obtain ⟨u', r', q⟩ := hlk j y v' e1 e2 e3
        refine ⟨u', r', q.imp (fun ⟨k, e⟩ => ⟨k, ?_⟩) fun ⟨k, c, e, z⟩ => ⟨k, c, e, z.sameBut hs (I.cne y c e)⟩⟩
        have ny : y ≠ n := fun e => hj (nodup_ix hN e1 (e ▸ hi))
        exact (if_neg ny).trans e
    cell := fun y c e => let ⟨w', z⟩ := I.cell y c e; ⟨w', z.sameBut hs (I.cne y c e)⟩
    free := I.free
    freeC := I.freeC
    pin := fun p hp => let ⟨e, n, ne, nf, d⟩ := I.pin p hp; ⟨(hs.2 p.1 ne).trans e, n, ne, nf, d⟩
    hok := fun b ob e => (I.hok b ob e).stay (fun c w' hc q => (hs.2 c fun z => by
        subst z
        rcases hc with hc | hc
        · rw [← hc, I.free] at e; cases e
        · rw [I.free] at hc; cases hc).trans q) (fun _ q => q) fun _ _ q => q
    len := by rw [List.length_set]; exact I.len }
end
/-- noted by the frame, the frame's names changed -/
theorem held_same {B h h' : Heap} {l : List Env} {a L : Addr} {Z : Obj → Prop} {m m' : Str → Option Value} (hh : HandSPX.HeldZ B l a Z L h) (bL : B.get? L = none) (hn : h.Ns L m) (hn' : h'.Ns L m') (hs : Heap.SameBut L h h') : HandSPX.HeldZ B l a Z L h' := by
  obtain ⟨b1, b0, f1, oe, vs, T, oT, ts, he, hz, hd, h1, hnT, hTe, hT, hdT, h3⟩ := hh
  obtain ⟨oL, es, ep, hoL, hdL, _⟩ := hn
  have neE : a ≠ L := fun q => by
    rw [q, hoL] at he
    cases he
    rw [hdL] at hd
    cases hd
  have neT : T ≠ L := fun q => by
    rw [q, hoL] at hT
    cases hT
    rw [hdL] at hdT
    cases hdT
  exact ⟨fun b o hb => (hs.2 b fun q => by rw [q, bL] at hb; cases hb).trans (b1 b o hb), b0, Heap.FunFrames.sameBut hs hn' f1, oe, vs, T, oT, ts, (hs.2 a neE).trans he, hz, hd, h1, hnT, hTe, (hs.2 T neT).trans hT, hdT, h3⟩
/-- the context of the suite -/
abbrev suiteY (X : Cx) (a : Addr) (pn : List (Addr × Obj)) (xe : Value → Shared → Prop) : Cx := { X with A := X.A.mark (some (.ref a)), calm := false, pn := pn, xe := xe }
/-- what becomes of an exception that the suite lets out -/
def goesOn (X : Cx) (a : Addr) (n : Str) (pos : Pos) (N0 : Value → Shared → Prop) : Value → Shared → Prop := fun x s₃ =>
  wpAny (model X.prog X.w) (X.A.mark (some (.ref a))) (noteFrame x X.env) (fun _ s₃' =>
    wpAny (model X.prog X.w) (X.A.mark (some (.ref a))) (do bindName X.env n .none; unbindBehindTheSuite X.env n pos)
      (fun _ s₄ => wpAny (model X.prog X.w) (X.A.mark (some (.ref a))) (passOn "try.except-as" x X.env : Sem Flow) (fun _ _ => False) (notedBy (model X.prog X.w) (X.A.mark (some (.ref a))) X.env N0) s₄)
      (fun y s₄ => wpAny (model X.prog X.w) (X.A.mark (some (.ref a))) (setFlight x none) (fun _ s₅ => (notedBy (model X.prog X.w) (X.A.mark (some (.ref a))) X.env N0) y s₅) (notedBy (model X.prog X.w) (X.A.mark (some (.ref a))) X.env N0) s₄) s₃') (notedBy (model X.prog X.w) (X.A.mark (some (.ref a))) X.env N0) s₃
section
variable {X : Cx} {pins : List (Addr × Obj)} {n : Str} {i : Nat} {Wout : WX}
theorem unsuiteY {a : Addr} {q : Addr × Obj} {pn' : List (Addr × Obj)} {xe : Value → Shared → Prop} {σ : L2.St} {H : Hp} {s : Shared} (I : Inv (suiteY X a (q :: (X.pn ++ pins)) xe) pn' σ H s) (ok : X.Ok) : Inv X pins σ H s :=
  ⟨ok, I.os, I.bare, I.base, I.loc, I.cell, I.free, I.freeC, fun p hp => I.pin p (List.mem_append_left _ (List.mem_cons_of_mem _ hp)), I.hok, I.len⟩
theorem takesY (ok : X.Ok) (hs : X.stack = X.env :: X.outer) (hf : X.env.frame = some X.env.locals) (hN : X.N.Nodup) (hi : X.N[i]? = some n) (hln : X.env.kindOf n = some .local) (tk : L2.Takes X Wout)
    (hW : ∀ cls d σ H, Wout cls d σ H → Wout cls d (σ.set i none) H) (a0 : Addr) (q0 : Addr × Obj) (pos : Pos) :
    L2.Takes (suiteY X a0 (q0 :: (X.pn ++ pins)) (goesOn X a0 n pos (cameBackBy (model X.prog X.w) X.A X.env X.xe))) Wout := by
  intro u s' x
  obtain ⟨a2, B, sI, pn2, σ, H, cls, d, rfl, I, nb, up, sky, na, os, ag, w⟩ := x
  have J : Inv X pins σ H sI := unsuiteY I ok
  have hfr : (X.A.mark (some (.ref a0))).frames = some (X.env :: X.outer) := by
    have : X.A.frames = some (X.env :: X.outer) := by rw [ok.frames, hs]
    exact this
  have sky' : L2.Sky B (X.env :: X.outer) a2 (Zc cls d) X.env.locals s'.heap := by rw [← hs]; exact sky
  have hcls : (X.env.scope.kind == .class || (X.env.scope.kind == .module && X.env.locals != X.env.globals)) = false := by rw [ok.kind]; rfl
  obtain ⟨m, hn0, gone⟩ := gone_at J hN hi
  have rest : ∀ h1, HandSPX.HeldZ B (X.env :: X.outer) a2 (Zc cls d) X.env.locals h1 → s'.heap.UpToSlots h1 →
      wpAny (model X.prog X.w) (X.A.mark (some (.ref a0))) (do bindName X.env n .none; unbindBehindTheSuite X.env n pos)
      (fun _ s₄ => wpAny (model X.prog X.w) (X.A.mark (some (.ref a0))) (passOn "try.except-as" (.ref a2) X.env : Sem Flow) (fun _ _ => False) (notedBy (model X.prog X.w) (X.A.mark (some (.ref a0))) X.env (cameBackBy (model X.prog X.w) X.A X.env X.xe)) s₄)
      (fun y s₄ => wpAny (model X.prog X.w) (X.A.mark (some (.ref a0))) (setFlight (.ref a2) none) (fun _ s₅ => (notedBy (model X.prog X.w) (X.A.mark (some (.ref a0))) X.env (cameBackBy (model X.prog X.w) X.A X.env X.xe)) y s₅) (notedBy (model X.prog X.w) (X.A.mark (some (.ref a0))) X.env (cameBackBy (model X.prog X.w) X.A X.env X.xe)) s₄) { s' with heap := h1 } := fun h1 held up1 => by
    have bL : B.get? X.env.locals = none := by
      obtain ⟨_, _, f1, _⟩ := held
      obtain ⟨_, ⟨L', _, hf', hb', _⟩, _⟩ := f1
      rw [hf] at hf'
      rw [Option.some.inj hf']
      exact hb'
    have up01 := up.trans up1
    have hn1 : h1.Ns X.env.locals m := by
      obtain ⟨o, es, ep, ho, hd, r⟩ := hn0
      obtain ⟨sl, e⟩ := up01 _ o ho fun vs z => by rw [hd] at z; cases z
      exact ⟨_, es, ep, e, hd, r⟩
    refine wpAny_nameGoes_keeps (s := { s' with heap := h1 }) hln hn1 hcls fun h2 v hn2 hs2 => ?_
    replace hs2 : Heap.SameBut X.env.locals h1 h2 := hs2
    have held2 := held_same held bL hn1 hn2 hs2
    -- the state without it, the name gone
    obtain ⟨oL, es, ep, hoL, hdL, rL⟩ := id hn2
    obtain ⟨o0, _, _, ho0, _⟩ := id hn0
    have eL : (sI.heap.update X.env.locals fun _ => oL).get? X.env.locals = some oL := Heap.get?_update_self (fun _ => oL) ho0 (Heap.get?_some_iff.mp hoL).2
    have eO : ∀ b, b ≠ X.env.locals → (sI.heap.update X.env.locals fun _ => oL).get? b = sI.heap.get? b := fun b hb => Heap.get?_update_other _ _ (Ne.symm hb)
    have J' := gone (sI.heap.update X.env.locals fun _ => oL) v ⟨oL, es, ep, eL, hdL, rL⟩ (Heap.SameBut.update ..)
    have up2 : (sI.heap.update X.env.locals fun _ => oL).UpToSlots h2 := fun b o e hd => by
      by_cases hb : b = X.env.locals
      · subst hb
        rw [eL] at e
        cases e
        exact ⟨oL.slots, hoL⟩
      · rw [eO b hb] at e
        obtain ⟨sl, e1⟩ := up01 b o e hd
        exact ⟨sl, (hs2.2 b hb).trans e1⟩
    have nb2 : ∀ b o, (sI.heap.update X.env.locals fun _ => oL).get? b = some o → b ∉ frs X.stack → B.get? b = some o := fun b o e hb => by
      have hbL : b ≠ X.env.locals := fun z => hb (by
        rw [hs, z]
        exact List.mem_filterMap.mpr ⟨X.env, List.mem_cons_self, hf⟩)
      rw [eO b hbL] at e
      exact nb b o e hb
    have last : ∀ h3, HandSPX.HeldZ B (X.env :: X.outer) a2 (Zc cls d) X.env.locals h3 → h2.UpToSlots h3 → notedBy (model X.prog X.w) (X.A.mark (some (.ref a0))) X.env (cameBackBy (model X.prog X.w) X.A X.env X.xe) (.ref a2) { s' with heap := h3, toks := s'.toks + 1 } := fun h3 held3 up3 => by
      show wpAny _ _ (noteFrame (.ref a2) X.env) _ _ _
      refine HandSPX.againZ hf held3.2.2.2 ?_
      show wpAny (model X.prog X.w) X.A (do
        if (← field (.ref a2) 1) == .none then unsupported "frame.own-activation:exception-without-traceback"
        setFlight (.ref a2) X.env.frame) _ _ _
      obtain ⟨_, _, _, oe, vs, T, oT, ts, he, hz, hd, h1', hr⟩ := id held3
      refine wpAny_bind (wpAny_field he hd h1' ?_)
      rw [if_neg (show ¬ ((Value.ref T == Value.none) = true) from by simp)]
      rw [hf]
      have fin : wpAny (model X.prog X.w) X.A (setFlight (.ref a2) (some X.env.locals)) (fun _ s'' => X.xe (.ref a2) s'') X.xe { s' with heap := h3, toks := s'.toks + 1 } :=
        HandSPX.setFlight_onZ held3 fun h4 held4 up4 => tk _ _ ⟨a2, B, { sI with heap := sI.heap.update X.env.locals fun _ => oL }, pins, σ.set i none, H, cls, d, rfl, J', nb2, (up2.trans up3).trans up4, .inr (.inr (by rw [hs]; exact held4)), na, os, ag, hW _ _ _ _ w⟩
      first
        | exact fin
        | exact wpAny_bind (wpAny_pure fin)
    obtain ⟨_, _, _, oe, vs, T, oT, ts, he, hz, hd, h1', hr⟩ := id held2
    unfold PySem.passOn
    refine wpAny_bind (wpAny_field he hd h1' ?_)
    rw [if_neg (show ¬ ((Value.ref T == Value.none) = true) from by simp)]
    have fin : wpAny (model X.prog X.w) (X.A.mark (some (.ref a0))) (setFlight (.ref a2) X.env.frame) (fun _ s4 => wpAny (model X.prog X.w) (X.A.mark (some (.ref a0))) (throw (.ref a2) : Sem Flow) (fun _ _ => False) (notedBy (model X.prog X.w) (X.A.mark (some (.ref a0))) X.env (cameBackBy (model X.prog X.w) X.A X.env X.xe)) s4)
        (notedBy (model X.prog X.w) (X.A.mark (some (.ref a0))) X.env (cameBackBy (model X.prog X.w) X.A X.env X.xe)) { s' with heap := h2, toks := s'.toks + 1 } := by
      rw [hf]
      exact HandSPX.setFlight_onZ held2 fun h3 held3 up3 => wpAny_throw (last h3 held3 up3)
    first
      | exact wpAny_bind (wpAny_pure (wpAny_bind fin))
      | exact wpAny_bind fin
  show wpAny _ _ (noteFrame (.ref a2) X.env) _ _ s'
  rcases sky' with ⟨hB, hn, hl, oe, vs, he, hz, hd, h1⟩ | fl | hh
  · exact HandSPX.look_newZ Zc.steady hfr hl hf he hB hn hd h1 hz rest
  · exact HandSPX.looks_onZ Zc.steady hfr hf fl rest
  · exact HandSPX.againZ hf hh.2.2.2 (rest s'.heap hh (Heap.UpToSlots.refl _))
end
end Ab

set_option Elab.async false
set_option linter.all false
set_option maxRecDepth 100000
set_option maxHeartbeats 2000000
namespace Ab
open PySem PySem.Spec PyProof.Rows L2

/-! ### C.f(..), f a def that is read off the class C -/
def tClF (C : Addr) (sp : Sp) (dvs : List V) (E : XK) (ta : TE) (t : TA) : TE := fun σ H Q => ta σ H fun x H1 => x = .ref C ∧ t σ H1 fun vs H2 => sp (vs ++ dvs) H2 Q E
theorem pe_clsfn {X : Cx} {CX : CXT} {k : Nat} {C g : Addr} {mc : Value} {sp : Sp} {E : XK} {o e : Expr} {es : List Expr} {m : Str} {pos apos : Pos} {ta : TE} {t : TA} {pl : Sem Bool} {fd : FuncData} {ps : List Str} {ds : List Value} {dvs : List V}
    (he : PE X o ta) (r : ClX.CRead X.K C mc) (c : ClX.CVal X.K C mc m (.ref g) (.ref g)) (hk : PySem.W.keepIn X.K (.ref g) = true) (F : FnOk X.prog X.w X.K X.mg X.base CX k g fd ps sp) (hr : Room k X.A) (hb : Binds X.K fd ps ds) (hd : Vals dvs ds) (hx : Passes CX X E) (ha : PA X (e :: es) t)
    (hst : starEach (e :: es) X.env = (false, eval e X.env) :: starEach es X.env := by rfl) (hpl : (backTo pos (starEach es X.env)).any (·.1) = false := by rfl)
    (ht : eval (.Call (.Attribute o m apos) (e :: es) [] pos) X.env = (do
      let ov ← eval o X.env
      standAt apos.atName
      let (f, first) ← holding [ov] (getMethod ov m pl)
      callWith pos f first (backTo pos (starEach (e :: es) X.env)) (backToKw pos (keywordEach [] X.env))) := by rfl) :
    PE X (.Call (.Attribute o m apos) (e :: es) [] pos) (tClF C sp dvs E ta t) := by
  refine ⟨fun pins s σ H Q I h => ?_⟩
  refine PySem.W.methodCall_KW (pl := pl) (thn (he.run pins s σ H _ I h) fun u s1 ⟨x, H1, I1, rx, ex, q⟩ => ?_) ht
  subst ex
  obtain rfl : u = Value.ref C := rx
  refine PySem.W.method_cls I1.kIn r.ga (ClX.getcval_ok I1 r c fun s2 I2 => ?_)
  refine PySem.W.callWith_K (h₀ := X.base) I2.ok.mod.kin hk (thn (ha.run pos pins s2 σ H1 _ I2 q) fun us s3 ⟨vs, H2, I3, rv, q2⟩ => ⟨I3.kIn, ?_⟩) hst hpl
  exact run_fn F hr hb hd hx I3 rv q2

/-! ### n.f in an except suite, the error being of any class that has what is asked -/
def tXfE (K : PySem.W.Frag) (a : Addr) (cls : Value) (d : Option Addr) (f : Str) (te : TE) : TE := fun σ H Q => te σ H fun x H1 => x = .ref a ∧ ∃ (C dd : Addr) (fs : List (Str × V)) (v : V), cls = .ref C ∧ XfC K C ∧ PySem.W.findIn K (.ref C) f = some none ∧ d = some dd ∧ H1 dd = some (.xd fs) ∧ fs.lookup f = some v ∧ Q v H1
theorem pe_xfE {X : Cx} {a : Addr} {oe : Obj} {cls : Value} {d : Option Addr} {pn : List (Addr × Obj)} {e : Expr} {te : TE} {pos : Pos} {n : Str}
    (hz : Zc cls d oe) (hf : ∃ vs, oe.data = .fields vs) (he : PE (X.suite a ((a, oe) :: pn)) e te) (hb : attributeBase e n X.env (eval e X.env) = eval e X.env := by rfl) :
    PE (X.suite a ((a, oe) :: pn)) (.Attribute e n pos) (tXfE X.K a cls d n te) := by
  refine ⟨fun pins s σ H Q I h => ?_⟩
  refine attr_of hb (thn (he.run pins s σ H _ I h) fun u s1 hh => ?_)
  obtain ⟨x, H1, I1, rx, ex, C, dd, fs, v, ec, T, hno, ed, ea, l, q⟩ := hh
  subst ex
  obtain rfl : u = Value.ref a := rx
  subst ec
  subst ed
  obtain ⟨ha, _⟩ := I1.pin (a, oe) (List.mem_append_left _ List.mem_cons_self)
  obtain ⟨vs, hd⟩ := hf
  have hx : ObjOk X.prog X.w H1 s1.heap dd (.xd fs) := I1.hok dd _ ea
  obtain ⟨mA, hns, hr⟩ := hx
  obtain ⟨od, ho, hl⟩ := lookIn_ns hns
  obtain ⟨u, hu, ru⟩ := RelO.some_of (v := v) (o := mA n) (by rw [← l]; exact hr n)
  have J : PySem.W.InstAt s1.heap a oe C (some od) := ⟨ha, hz.1, by unfold PySem.W.notCls; rw [hd] <;> rfl, by rw [hz.2]; exact ho⟩
  exact HandSPX.exc_get I1.kIn J T.ga T.gg T.exC (PySem.W.findObj_own T.hdC hno rfl (by rw [hl, hu])) (handed_of ru) ⟨v, H1, I1.tok _, ru, q⟩

/-! ### raise C(), C an own error whose __init__ is a def without further parameters -/
def tMkO0 (C : Addr) (sp : Sp) : L2.St → Hp → XK → Prop := fun σ H1 Q => ∀ a, H1 a = none → sp [.ref a] (upd H1 a (exo a C none))
  (fun v H2 => v = .non ∧ ∃ (d : Addr) (fs : List (Str × V)), H2 a = some (exo a C (some d)) ∧ H2 d = some (exd d fs) ∧ H1 d = none ∧ Q (.ref C) (some d) (upd (del H2 a) d (.xd fs))) (fun _ _ _ => False)
theorem pmk_oex0 {X : Cx} {p pos : Pos} {CX : CXT} {x : Str} {C fI : Addr} {k : Nat} {fd : FuncData} {ps : List Str} {sp : Sp} (T : OexC X.K C) (iC : PySem.W.findIn X.K (.ref C) "__init__" = some (some (.ref fI))) (tI : PySem.W.typeIn X.K (.ref fI) = some (.type "function"))
    (F1 : FnOk X.prog X.w X.K X.mg X.base CX k fI fd ps sp) (hr : Room (k + 1) X.A) (hb : Binds X.K fd ps []) (hx : Passes CX X (fun _ _ _ => False)) (hg : Gl X x) (hm : X.mg x = some (.ref C))
    (hdb : (x == ("__debug__" : Str)) = false := by decide) :
    PMk X (.Call (.Name x p) [] [] pos) (tMkO0 C sp) := by
  intro pins s σ H Q I q1
  obtain ⟨nm, q, N, bs, bm, sn, sub, ab, col, dd, k0, k1, k2, k3, k5, hC, hbm⟩ := T.cls
  refine wpAny_Call_Name_kw (ld_glob I hg hm ?_ hdb)
  refine PySem.W.callWith_K0 I.kIn T.kC ?_
  show wpAny _ _ (call (.ref C) []) _ _ _
  obtain ⟨hp, g, dr, tk, os⟩ := s
  have hsz : hp.objs.size ≤ hp.objs.size + 1 := Nat.le_succ _
  have hn : H (hp.objs.size + 1) = none := I.hok.fresh hsz
  have hq := q1 (hp.objs.size + 1) hn
  have kk : ∀ b o, hp.get? b = some o → ((hp.push (PySem.W.kdv_tup [])).push (PySem.HandSPX.excO C hp.objs.size)).get? b = some o := fun b o e => Heap.get?_push_of_some _ (Heap.get?_push_of_some _ e)
  have hget : ((hp.push (PySem.W.kdv_tup [])).push (PySem.HandSPX.excO C hp.objs.size)).get? (hp.objs.size + 1) = some (PySem.HandSPX.excO C hp.objs.size) := by heap_get
  have I2 : Inv X pins σ (upd H (hp.objs.size + 1) (exo (hp.objs.size + 1) C none)) ⟨(hp.push (PySem.W.kdv_tup [])).push (PySem.HandSPX.excO C hp.objs.size), g, dr, tk, os⟩ :=
    I.laid (t' := tk) (a := hp.objs.size + 1) (o := exo (hp.objs.size + 1) C none) (h' := (hp.push (PySem.W.kdv_tup [])).push (PySem.HandSPX.excO C hp.objs.size)) kk hsz (exo_ok hget)
  have r2 : Vals [V.ref (hp.objs.size + 1)] [Value.ref (hp.objs.size + 1)] := .cons rfl .nil
  have hl : ([Value.ref (hp.objs.size + 1)] ++ []).length = ps.length := by
    have e := r2.length
    rw [F1.len _ _ _ _ hq] at e
    exact e.symm
  have hus : ([] : List Value).length ≤ sizeLine := Nat.zero_le _
  refine wpAny_call (PySem.HandSPX.call_own F.excBase_ValueError (fun Y => PySem.HandSPX.refsVE_contains Y bm hbm) (I.kIn _ _ hC) (PySem.W.looks_findIn I.kIn iC) (fun self => PySem.W.bind_fn I.kIn self tI) hus
    (codeAny_mono (F1.run _ X.stack _ _ ⟨[Value.ref (hp.objs.size + 1)], []⟩ [Value.ref (hp.objs.size + 1)] _ _ (fun _ _ _ => False) (hr.make C [] []) (I2.env0.make C [] []) (hb _ [Value.ref (hp.objs.size + 1)] I2.kIn hl) r2 hq) fun r s' hq' => ?_))
  cases r with
  | error er => exact hx pins σ _ _ er s' I2 hq'
  | ok fl =>
    cases fl with
    | ret u =>
      obtain ⟨v, H2, os2, bare2, un2, hok2, rv, ev, d, fs, ea, ed, hd1, q2⟩ := hq'
      subst ev
      obtain ⟨h2, g2, d2, t2, os'⟩ := s'
      exact ⟨rv, mk_end (raises_own T.exC T.tyC) I hsz kk un2 hok2 os2 bare2 ea ed hd1 q2⟩
    | next => exact False.elim hq'
    | brk => exact False.elim hq'
    | cont => exact False.elim hq'
end Ab

set_option Elab.async false
set_option linter.all false
set_option maxRecDepth 100000
set_option maxHeartbeats 2000000
namespace Ab
open PySem PySem.Spec PyProof.Rows L2
/-- the clause 'except c as n', n at slot i, of an exception that it names -/
def wAsX (K : PySem.W.Frag) (c : Value) (i : Nat) (ts : Addr → Value → Option Addr → TS) (D : Ends) : WX := fun cls d σ H =>
  PySem.W.exmOne K cls c = some true ∧ ∀ a, H a = none → ts a cls d { nx := fun σ' H' => D.nx (σ'.set i none) H', rt := D.rt, bk := fun σ' H' => D.bk (σ'.set i none) H', ct := fun σ' H' => D.ct (σ'.set i none) H' } (σ.set i (some (.ref a))) H
section
variable {X : Cx} {x n : Str} {c : Value} {i : Nat} {body suite : List Stmt} {b₀ : Stmt} {np pos pos' : Pos} {tb : WX → TS} {ts : Addr → Value → Option Addr → TS} {Wout : WX}
theorem ps_try_asX (hs : X.stack = X.env :: X.outer) (hf : X.env.frame = some X.env.locals) (hN : X.N.Nodup) (hi : X.N[i]? = some n) (hln : X.env.kindOf n = some .local) (hc : Names X x c) (tk : L2.Takes X Wout) (hW : ∀ cls d σ H, Wout cls d σ H → Wout cls d (σ.set i none) H)
    (hb : ∀ (W : WX) (pn : List (Addr × Obj)) (xe : Value → Shared → Prop), L2N.Takes (X.tr pn xe) W → PassesOwn (model X.prog X.w) X.A X.env xe → PSs (X.tr pn xe) body (tb W))
    (hsu : ∀ (a : Addr) (oe : Obj) (cls : Value) (d : Option Addr) (pn : List (Addr × Obj)) (xe : Value → Shared → Prop), L2N.Zn cls d oe → (∃ vs, oe.data = .fields vs) → L2.Takes (suiteY X a ((a, oe) :: pn) xe) Wout → L2H.HotC (suiteY X a ((a, oe) :: pn) xe) →
      PSs (suiteY X a ((a, oe) :: pn) xe) (b₀ :: suite) (ts a cls d)) :
    PS X (.Try body [.ExceptHandler (some (.Name x np)) (some n) (b₀ :: suite) pos'] [] [] pos) (fun D σ H => tb (wAsX X.K c i ts D) D σ H) := by
  refine ⟨fun pins s σ H D I h => ?_⟩
  have ok := I.ok
  have hfr : X.A.frames = some (X.env :: X.outer) := by rw [ok.frames, hs]
  have hloc : Loc X.env.scope n := .inl hln
  refine wpAny_Try_except ?_
  refine wpAny_mono ((hb (wAsX X.K c i ts D) (X.pn ++ pins) (fun e s₁ => wpAny (model X.prog X.w) X.A (noteFrame e X.env) (fun _ s₂ => wpAny (model X.prog X.w) X.A (setFlight e none) (fun _ s₃ =>
    wpAny (model X.prog X.w) X.A (handleBy e X.env [.ExceptHandler (some (.Name x np)) (some n) (b₀ :: suite) pos']) (SP X pins D) X.xe s₃) X.xe s₂) X.xe s₁) (fun u s' xx => ?_) PassesOwn.looking).run [] s σ H D (I.toTry _) h) (fun f s1 hsp => ?_) (fun e s1 he => he)
  · obtain ⟨a, B, sI, pins', σ', H', cls, d, rfl, J', nb, up, sky, na, os, ag, hb1, hyes⟩ := xx
    have J : Inv X pins σ' H' sI := J'.ofTry ok
    have sky' : L2.Sky B (X.env :: X.outer) a (L2N.Zn cls d) X.env.locals s'.heap := by rw [← hs]; exact sky
    show wpAny (model X.prog X.w) X.A (noteFrame (.ref a) X.env) _ _ _
    refine L2N.Sky.land L2N.Zn.steady hfr hf sky' fun h3 fl3 up3 => ?_
    have J3 : Inv X pins σ' H' { s' with heap := h3 } := J.landed nb fl3.1 (up.trans up3) os ag
    obtain ⟨oe3, vs3, he3, hz3, hd3⟩ := fl3.there
    have nfr : a ∉ frs (X.env :: X.outer) := fun hm => by
      obtain ⟨_, o', e', hnf⟩ := fl3.2.2.1.mem hm
      rw [he3] at e'
      cases e'
      exact hnf _ hd3
    have nL : a ≠ X.env.locals := fun z => nfr (List.mem_filterMap.mpr ⟨X.env, List.mem_cons_self, by rw [hf, z]⟩)
    have nF : a ∉ X.fs := fun hm => by
      obtain ⟨e, he, q⟩ := List.mem_filterMap.mp hm
      exact nfr (List.mem_filterMap.mpr ⟨e, List.mem_cons_of_mem _ he, q⟩)
    have S3 := J3.suite he3 hd3 na nL nF
    refine wpAny_handleBy_cons (codeAny_handlers_test ?_) (by intro q; cases q)
    have LT : PySem.W.Looks (model X.prog X.w) h3 (typeOf (.ref a)) cls := fun A Q E s k q => wpAny_typeOf_ref (k _ _ he3) (by rw [hz3.1]; exact q)
    have LM := PySem.W.exm_one (M := model X.prog X.w) (J3.kIn) LT hb1
    have test : ∀ {Q : Value → Shared → Prop} {E : Value → Shared → Prop}, Q c { s' with heap := h3 } → wpAny (model X.prog X.w) (X.A.mark (some (.ref a))) (eval (.Name x np) X.env) Q E { s' with heap := h3 } := fun {Q E} q => by
      obtain ⟨hg, hdbg, hm | ⟨hm, hv, hnn⟩⟩ := hc
      · exact ld_glob (X := X.suite a ((a, oe3) :: (X.pn ++ pins))) S3 hg hm q hdbg
      · exact ld_blt (X := X.suite a ((a, oe3) :: (X.pn ++ pins))) S3 hg hm hv q hnn hdbg
    refine test (LM.here ?_)
    refine codeAny_handlers_suite_as ?_
    refine HandSPX.lands_againZ fl3 fun h4 fl4 up4 => ?_
    have J4 : Inv X pins σ' H' { s' with heap := h4 } := J.landed nb fl4.1 ((up.trans up3).trans up4) os ag
    obtain ⟨oe4, vs4, he4, hz4, hd4⟩ := fl4.there
    have S4 := J4.suite he4 hd4 na nL nF
    have S4' : Inv (suiteY X a ((a, oe4) :: (X.pn ++ pins)) (goesOn X a n pos' (cameBackBy (model X.prog X.w) X.A X.env X.xe))) [] σ' H' { s' with heap := h4 } := S4.wish _
    refine store_ok (X := suiteY X a ((a, oe4) :: (X.pn ++ pins)) (goesOn X a n pos' (cameBackBy (model X.prog X.w) X.A X.env X.xe))) (v := .ref a) S4' hN hi hloc rfl (fun s5 S5 => ?_) (.inr hln)
    have hot : L2H.HotC (suiteY X a ((a, oe4) :: (X.pn ++ pins)) (goesOn X a n pos' (cameBackBy (model X.prog X.w) X.A X.env X.xe))) := ⟨(a, oe4), ⟨rfl, vs4, hd4, hz4.2.2 vs4 hd4⟩, List.mem_cons_self⟩
    refine wpAny_mono ((hsu a oe4 cls d (X.pn ++ pins) (goesOn X a n pos' (cameBackBy (model X.prog X.w) X.A X.env X.xe)) hz4 ⟨_, hd4⟩ (takesY ok hs hf hN hi hln tk hW a (a, oe4) pos') hot).run [] s5 _ H' _ S5 (hyes a na)) (fun f s6 hsp => ?_) (fun e6 s6 z => z)
    have end_ : ∀ {σ6 : L2.St} {H6 : Hp} {Q : Shared → Prop}, Inv (suiteY X a ((a, oe4) :: (X.pn ++ pins)) (goesOn X a n pos' (cameBackBy (model X.prog X.w) X.A X.env X.xe))) [] σ6 H6 s6 → (∀ s7, Inv X pins (σ6.set i none) H6 s7 → Q s7) →
        wpAny (model X.prog X.w) X.A (do bindName X.env n .none; unbindBehindTheSuite X.env n pos') (fun _ s7 => Q s7) X.xe s6 := fun {σ6 H6 Q} S6 hq => gone_ok (unsuiteY S6 ok) hN hi hln hq
    cases f with
    | next =>
      obtain ⟨σ6, H6, S6, q6⟩ := hsp
      exact end_ S6 fun s7 J7 => ⟨_, _, J7, q6⟩
    | brk =>
      obtain ⟨σ6, H6, S6, q6⟩ := hsp
      exact end_ S6 fun s7 J7 => ⟨_, _, J7, q6⟩
    | cont =>
      obtain ⟨σ6, H6, S6, q6⟩ := hsp
      exact end_ S6 fun s7 J7 => ⟨_, _, J7, q6⟩
    | ret u =>
      obtain ⟨v6, σ6, H6, S6, r6, q6⟩ := hsp
      exact end_ S6 fun s7 J7 => ⟨_, _, _, J7, r6, q6⟩
  · cases f with
    | next =>
      obtain ⟨σ', H', J', q⟩ := hsp
      exact wpAny_execs_nil ⟨σ', H', J'.ofTry ok, q⟩
    | brk =>
      obtain ⟨σ', H', J', q⟩ := hsp
      exact ⟨σ', H', J'.ofTry ok, q⟩
    | cont =>
      obtain ⟨σ', H', J', q⟩ := hsp
      exact ⟨σ', H', J'.ofTry ok, q⟩
    | ret u =>
      obtain ⟨v, σ', H', J', r, q⟩ := hsp
      exact ⟨v, σ', H', J'.ofTry ok, r, q⟩
end
/-! ### C(e, ..), nothing handled: its context is None -/
theorem pmk_oexN {X : Cx} {CX : CXT} {x : Str} {C fI : Addr} {k : Nat} {fd : FuncData} {ps : List Str} {sp : Sp} {e : Expr} {es : List Expr} {ta : TA} {p pos : Pos} (T : OexC X.K C) (iC : PySem.W.findIn X.K (.ref C) "__init__" = some (some (.ref fI))) (tI : PySem.W.typeIn X.K (.ref fI) = some (.type "function"))
    (F1 : FnOk X.prog X.w X.K X.mg X.base CX k fI fd ps sp) (hr : Room (k + 1) X.A) (hb : Binds X.K fd ps []) (hx : Passes CX X (fun _ _ _ => False)) (hg : Gl X x) (hm : X.mg x = some (.ref C)) (ha : PA X (e :: es) ta)
    (hdb : (x == ("__debug__" : Str)) = false := by decide) (he : starEach (e :: es) X.env = (false, eval e X.env) :: starEach es X.env := by rfl) (hpl : (backTo pos (starEach es X.env)).any (·.1) = false := by rfl) :
    L2N.PMk X (.Call (.Name x p) (e :: es) [] pos) (tMkO C sp [] ta) := by
  intro pins s σ H Q I h
  obtain ⟨nm, q, N, bs, bm, sn, sub, ab, col, dd, k0, k1, k2, k3, k5, hC, hbm⟩ := T.cls
  refine wpAny_Call_Name_kw (ld_glob I hg hm ?_ hdb)
  refine PySem.W.callWith_K (h₀ := X.base) I.ok.mod.kin T.kC (thn (ha.run pos pins s σ H _ I h) fun us s1 ⟨vs, H1, I1, r1, hz, q1⟩ => ⟨I1.kIn, ?_⟩) he hpl
  show wpAny _ _ (call (.ref C) us) _ _ _
  obtain ⟨hp, g, dr, tk, os⟩ := s1
  have hsz : hp.objs.size ≤ hp.objs.size + 1 := Nat.le_succ _
  have hq := q1 (hp.objs.size + 1) (I1.hok.fresh hsz)
  rw [List.append_nil] at hq
  have kk : ∀ b o, hp.get? b = some o → ((hp.push (PySem.W.kdv_tup us)).push (PySem.HandSPX.excO C hp.objs.size)).get? b = some o := fun b o e => Heap.get?_push_of_some _ (Heap.get?_push_of_some _ e)
  have hget : ((hp.push (PySem.W.kdv_tup us)).push (PySem.HandSPX.excO C hp.objs.size)).get? (hp.objs.size + 1) = some (PySem.HandSPX.excO C hp.objs.size) := by heap_get
  have I2 : Inv X pins σ (upd H1 (hp.objs.size + 1) (exo (hp.objs.size + 1) C none)) ⟨(hp.push (PySem.W.kdv_tup us)).push (PySem.HandSPX.excO C hp.objs.size), g, dr, tk, os⟩ :=
    I1.laid (t' := tk) (a := hp.objs.size + 1) (o := exo (hp.objs.size + 1) C none) (h' := (hp.push (PySem.W.kdv_tup us)).push (PySem.HandSPX.excO C hp.objs.size)) kk hsz (exo_ok hget)
  have r2 : Vals (V.ref (hp.objs.size + 1) :: vs) (Value.ref (hp.objs.size + 1) :: us) := .cons rfl r1
  have hl : (Value.ref (hp.objs.size + 1) :: us ++ []).length = ps.length := by
    have e := r2.length
    rw [F1.len _ _ _ _ hq] at e
    rw [List.append_nil]
    exact e.symm
  have hus : us.length ≤ sizeLine := by
    rw [← Paired.length r1, sizeLine_eq]
    omega
  have b2 := hb _ (Value.ref (hp.objs.size + 1) :: us) I2.kIn hl
  rw [List.append_nil] at b2
  refine wpAny_call (PySem.HandSPX.call_own F.excBase_ValueError (fun Y => PySem.HandSPX.refsVE_contains Y bm hbm) (I1.kIn _ _ hC) (PySem.W.looks_findIn I1.kIn iC) (fun self => PySem.W.bind_fn I1.kIn self tI) hus
    (codeAny_mono (F1.run _ X.stack _ _ ⟨Value.ref (hp.objs.size + 1) :: us, []⟩ (Value.ref (hp.objs.size + 1) :: us) _ _ (fun _ _ _ => False) (hr.make C us []) (I2.env0.make C us []) b2 r2 hq) fun r s' hq' => ?_))
  cases r with
  | error er => exact hx pins σ _ _ er s' I2 hq'
  | ok fl =>
    cases fl with
    | ret u =>
      obtain ⟨v, H2, os2, bare2, un2, hok2, rv, ev, d, fs, ea, ed, hd1, q2⟩ := hq'
      subst ev
      obtain ⟨h2, g2, d2, t2, os'⟩ := s'
      obtain ⟨t0, G, J, kG, ge, hoe, na⟩ := mk_end0 (d2 := d2) (t2 := t2) I1 hsz kk un2 hok2 os2 bare2 ea ed hd1
      exact ⟨rv, ⟨hp.objs.size + 1, _, _, ⟨G, g2, d2, t2, os'⟩, _, .ref C, some d, rfl, J, kG, ge, hoe, ⟨rfl, rfl, fun vs hv => by cases hv; rfl⟩, rfl, rfl, na, rfl, bare2, raises_own T.exC T.tyC, q2⟩⟩
    | next => exact False.elim hq'
    | brk => exact False.elim hq'
    | cont => exact False.elim hq'
/-- a def whose exceptions have no context -/
theorem fun_okN {P : Program} {w : World} {K : PySem.W.Frag} {mg : Str → Option Value} {base : Heap} {x qual : Str} {st : Stmt} {f : Addr} {fd : FuncData} {N ps : List Str} {k : Nat} {sp : Sp} (F : Fun K x qual st f fd) (S : FnScope N ps (defScope st)) (len : ∀ vs H Q E, sp vs H Q E → vs.length = ps.length)
    (hbody : ∀ (cdv : Value) (A : Around) (outer : List Env) (s : Shared) (H : Hp) (vs : List V) (Q : VK) (E : XK), Room k (A.deeper (envOfC qual (defScope st) s.heap.objs.size f cdv)) → sp vs H Q E →
      ∃ t, PSs (cxOf (L2N.CX P w) P w K mg base N qual (defScope st) f cdv A outer s H E) (defBody st) t ∧ t { nx := fun _ H' => Q .non H', rt := Q } (L2.start N vs) H) : FnOk P w K mg base (L2N.CX P w) (k + 1) f fd ps sp := by
  obtain ⟨oc, od, kV, doc, pm, an, cdv, ct, osl, rfl, lk, hcd⟩ := F.ex
  exact fn_of lk hcd S len fun A outer s H vs Q E hr hsp => hbody cdv A outer s H vs Q E hr hsp
/-- a def that is called while an exception is handled -/
theorem fun_okH {P : Program} {w : World} {K : PySem.W.Frag} {mg : Str → Option Value} {base : Heap} {CX : CXT} {x qual : Str} {st : Stmt} {f : Addr} {fd : FuncData} {N ps : List Str} {k : Nat} {sp : Sp} (F : Fun K x qual st f fd) (S : FnScope N ps (defScope st)) (len : ∀ vs H Q E, sp vs H Q E → vs.length = ps.length)
    (hbody : ∀ (cdv : Value) (A : Around) (outer : List Env) (s : Shared) (H : Hp) (vs : List V) (Q : VK) (E : XK) (p : Addr × Obj), L2H.Hot1 A p → L2H.RoomH k (A.deeper (envOfC qual (defScope st) s.heap.objs.size f cdv)) → sp vs H Q E →
      ∃ t, PSs (L2H.cxH CX P w K mg base N qual (defScope st) f cdv A outer s H E p) (defBody st) t ∧ t { nx := fun _ H' => Q .non H', rt := Q } (L2.start N vs) H) : L2H.FnH P w K mg base CX (k + 1) f fd ps sp := by
  obtain ⟨oc, od, kV, doc, pm, an, cdv, ct, osl, rfl, lk, hcd⟩ := F.ex
  exact L2H.fn_ofH lk hcd S len fun A outer s H vs Q E p hot hr hsp => hbody cdv A outer s H vs Q E p hot hr hsp
end Ab

set_option linter.all false
namespace AbM
open Na

/-! ## Expressions: a reader that goes through an E sign by sign -/
inductive Md where
  | f
  | d (n : Nat)
def closer (c : UInt8) : UInt8 := if c = 91 then 93 else 41
def isOp (c : UInt8) : Bool := c == 43 || (c == 45 || c == 42)
def isLet (c : UInt8) : Bool := (decide (97 ≤ c.toNat) && decide (c.toNat ≤ 104)) || (decide (65 ≤ c.toNat) && decide (c.toNat ≤ 72))
def isBr (c : UInt8) : Bool := c == 91 || c == 40
/-- cs: what closes the brackets that are open, the innermost first -/
def scan : Bytes → Md → List UInt8 → Nat → Except Nat (Nat × Bytes)
  | [], .f, _, p => .error p
  | [], .d _, cs, p => if cs.isEmpty = true then .ok (p, []) else .error p
  | c :: l, .f, cs, p =>
    if isBr c = true then (if cs.length < 16 then scan l .f (closer c :: cs) (p + 1) else .error p)
    else if c = 48 then scan l (.d 0) cs (p + 1)
    else if isDigit c = true then scan l (.d 3) cs (p + 1)
    else if isLet c = true then scan l (.d 0) cs (p + 1)
    else .error p
  | c :: l, .d n, cs, p =>
    if isDigit c = true ∧ 0 < n then scan l (.d (n - 1)) cs (p + 1)
    else match cs with
      | [] => if isOp c = true then scan l .f [] (p + 1) else .ok (p, c :: l)
      | k :: r => if c = k then scan l (.d 0) r (p + 1) else if isOp c = true then scan l .f (k :: r) (p + 1) else .error p
/-- behind a number, a letter, a closed bracket -/
abbrev aft (cs : List UInt8) (p : Nat) (b : Bytes) : Except Nat (Nat × Bytes) := scan b (.d 0) cs p
def andThen {α : Type} (x : Except Nat (α × (Nat × Bytes))) (g : Nat → Bytes → Except Nat (Nat × Bytes)) : Except Nat (Nat × Bytes) := match x with
  | .error k => .error k
  | .ok (_, q, c) => g q c
/-- what closes brackets -/
def Cl (cs : List UInt8) : Prop := ∀ k ∈ cs, k = 93 ∨ k = 41
def NotHd (k : UInt8) (c : Bytes) : Prop := c.head? ≠ some k

theorem scan_digits : ∀ (n v p : Nat) (b : Bytes) (cs : List UInt8), scan b (.d n) cs p = aft cs (digitsAt n v p b).2.1 (digitsAt n v p b).2.2
  | 0, v, p, b, cs => rfl
  | n + 1, v, p, [], cs => rfl
  | n + 1, v, p, c :: l, cs => by
    by_cases h : isDigit c = true
    · have e : digitsAt (n + 1) v p (c :: l) = digitsAt n (10 * v + (c.toNat - 48)) (p + 1) l := by
        show (if isDigit c = true then _ else _) = _
        rw [if_pos h]
      rw [e, ← scan_digits n _ (p + 1) l cs]
      show (if isDigit c = true ∧ 0 < n + 1 then _ else _) = _
      rw [if_pos ⟨h, Nat.succ_pos n⟩]
      rfl
    · have e : digitsAt (n + 1) v p (c :: l) = (v, p, c :: l) := by
        show (if isDigit c = true then _ else _) = _
        rw [if_neg h]
      rw [e]
      show (if isDigit c = true ∧ 0 < n + 1 then _ else _) = (if isDigit c = true ∧ 0 < 0 then _ else _)
      rw [if_neg (fun x : isDigit c = true ∧ 0 < n + 1 => h x.1), if_neg (fun x : isDigit c = true ∧ 0 < 0 => h x.1)]
theorem digits_len : ∀ (n v p : Nat) (b : Bytes), (digitsAt n v p b).2.2.length ≤ b.length
  | 0, v, p, b => Nat.le_refl _
  | n + 1, v, p, [] => Nat.le_refl _
  | n + 1, v, p, c :: l => by
    show (if isDigit c = true then digitsAt n (10 * v + (c.toNat - 48)) (p + 1) l else (v, p, c :: l)).2.2.length ≤ _
    by_cases h : isDigit c = true
    · rw [if_pos h]
      exact Nat.le_trans (digits_len n _ _ l) (Nat.le_succ _)
    · rw [if_neg h]
      exact Nat.le_refl _

/-- what the spec's readers come to, against the scan -/
structure Good (f : Nat) : Prop where
  ex : ∀ (d p : Nat) (b : Bytes) (cs : List UInt8), Cl cs → cs.length = d → 3 * b.length + 3 ≤ f → scan b .f cs p = andThen (exAt f d p b) (aft cs) ∧ ∀ x q c, exAt f d p b = .ok (x, q, c) → c.length < b.length ∧ NotHd 42 c ∧ NotHd 43 c ∧ NotHd 45 c
  sum : ∀ (d : Nat) (x : Ex) (p : Nat) (b : Bytes) (cs : List UInt8), Cl cs → cs.length = d → 3 * b.length + 2 ≤ f → NotHd 42 b → aft cs p b = andThen (sumAt f d x p b) (aft cs) ∧ ∀ x' q c, sumAt f d x p b = .ok (x', q, c) → c.length ≤ b.length ∧ NotHd 42 c ∧ NotHd 43 c ∧ NotHd 45 c
  term : ∀ (d p : Nat) (b : Bytes) (cs : List UInt8), Cl cs → cs.length = d → 3 * b.length + 2 ≤ f → scan b .f cs p = andThen (termAt f d p b) (aft cs) ∧ ∀ x q c, termAt f d p b = .ok (x, q, c) → c.length < b.length ∧ NotHd 42 c
  times : ∀ (d : Nat) (x : Ex) (p : Nat) (b : Bytes) (cs : List UInt8), Cl cs → cs.length = d → 3 * b.length + 1 ≤ f → aft cs p b = andThen (timesAt f d x p b) (aft cs) ∧ ∀ x' q c, timesAt f d x p b = .ok (x', q, c) → c.length ≤ b.length ∧ NotHd 42 c
  fac : ∀ (d p : Nat) (b : Bytes) (cs : List UInt8), Cl cs → cs.length = d → 3 * b.length + 1 ≤ f → scan b .f cs p = andThen (factorAt f d p b) (aft cs) ∧ ∀ x q c, factorAt f d p b = .ok (x, q, c) → c.length < b.length

/-- an operator behind a number: what is read goes on with a factor -/
theorem aft_op {cs : List UInt8} (hc : Cl cs) {c : UInt8} (h : isOp c = true) (p : Nat) (l : Bytes) : aft cs p (c :: l) = scan l .f cs (p + 1) := by
  have hd : ¬ (isDigit c = true ∧ 0 < 0) := fun x => absurd x.2 (Nat.lt_irrefl _)
  show (if isDigit c = true ∧ 0 < 0 then _ else _) = _
  rw [if_neg hd]
  cases cs with
  | nil =>
    show (if isOp c = true then _ else _) = _
    rw [if_pos h]
  | cons k r =>
    have hk : c ≠ k := fun e => by
      subst e
      rcases hc c List.mem_cons_self with e | e <;> (subst e; revert h; decide)
    show (if c = k then _ else if isOp c = true then _ else _) = _
    rw [if_neg hk, if_pos h]

theorem good_zero : Good 0 where
  ex := fun d p b cs _ _ h => absurd h (by omega)
  sum := fun d x p b cs _ _ h => absurd h (by omega)
  term := fun d p b cs _ _ h => absurd h (by omega)
  times := fun d x p b cs _ _ h => absurd h (by omega)
  fac := fun d p b cs _ _ h => absurd h (by omega)

theorem hd_of {k : UInt8} {c : UInt8} {l : Bytes} (h : NotHd k (c :: l)) : c ≠ k := fun e => h (by rw [e]; rfl)
theorem nothd_cons {k : UInt8} {c : UInt8} {l : Bytes} (h : c ≠ k) : NotHd k (c :: l) := fun e => h (Option.some.inj e)
theorem nothd_nil {k : UInt8} : NotHd k [] := fun e => nomatch e

theorem good_times {f : Nat} (G : Good f) (d : Nat) (x : Ex) (p : Nat) (b : Bytes) (cs : List UInt8) (hc : Cl cs) (hd : cs.length = d) (hf : 3 * b.length + 1 ≤ f + 1) :
    aft cs p b = andThen (timesAt (f + 1) d x p b) (aft cs) ∧ ∀ x' q c, timesAt (f + 1) d x p b = .ok (x', q, c) → c.length ≤ b.length ∧ NotHd 42 c := by
  cases b with
  | nil =>
    have e : timesAt (f + 1) d x p [] = .ok (x, p, []) := by unfold timesAt; rfl
    rw [e]
    exact ⟨rfl, fun x' q c h => by cases h; exact ⟨Nat.le_refl _, nothd_nil⟩⟩
  | cons c l =>
    by_cases h : c = 42
    · subst h
      rw [aft_op hc (by decide)]
      have hl : 3 * l.length + 1 ≤ f := by rw [List.length_cons] at hf; omega
      obtain ⟨e1, h1⟩ := G.fac d (p + 1) l cs hc hd hl
      rw [e1]
      cases hz : factorAt f d (p + 1) l with
      | error k =>
        have e : timesAt (f + 1) d x p (42 :: l) = .error k := by rw [timesAt, hz]
        rw [e]
        exact ⟨rfl, fun x' q c h => by cases h⟩
      | ok z =>
        obtain ⟨y, q, c⟩ := z
        have e : timesAt (f + 1) d x p (42 :: l) = timesAt f d (.times x y) q c := by rw [timesAt, hz]
        rw [e]
        have hlt := h1 y q c hz
        obtain ⟨e2, h2⟩ := G.times d (.times x y) q c cs hc hd (by omega)
        refine ⟨e2, fun x' q' c' h => ?_⟩
        obtain ⟨h3, h4⟩ := h2 x' q' c' h
        exact ⟨by rw [List.length_cons]; omega, h4⟩
    · have e : timesAt (f + 1) d x p (c :: l) = .ok (x, p, c :: l) := by
        rw [timesAt]
        intro l' e
        exact h (List.cons.inj e).1
      rw [e]
      exact ⟨rfl, fun x' q c' h' => by cases h'; exact ⟨Nat.le_refl _, nothd_cons h⟩⟩
theorem good_term {f : Nat} (G : Good f) (d p : Nat) (b : Bytes) (cs : List UInt8) (hc : Cl cs) (hd : cs.length = d) (hf : 3 * b.length + 2 ≤ f + 1) :
    scan b .f cs p = andThen (termAt (f + 1) d p b) (aft cs) ∧ ∀ x q c, termAt (f + 1) d p b = .ok (x, q, c) → c.length < b.length ∧ NotHd 42 c := by
  obtain ⟨e1, h1⟩ := G.fac d p b cs hc hd (by omega)
  rw [e1]
  cases hz : factorAt f d p b with
  | error k =>
    have e : termAt (f + 1) d p b = .error k := by rw [termAt, hz]
    rw [e]
    exact ⟨rfl, fun x' q c h => by cases h⟩
  | ok z =>
    obtain ⟨y, q, c⟩ := z
    have e : termAt (f + 1) d p b = timesAt f d y q c := by rw [termAt, hz]
    rw [e]
    have hlt := h1 y q c hz
    obtain ⟨e2, h2⟩ := G.times d y q c cs hc hd (by omega)
    refine ⟨e2, fun x' q' c' h => ?_⟩
    obtain ⟨h3, h4⟩ := h2 x' q' c' h
    exact ⟨by omega, h4⟩
theorem good_ex {f : Nat} (G : Good f) (d p : Nat) (b : Bytes) (cs : List UInt8) (hc : Cl cs) (hd : cs.length = d) (hf : 3 * b.length + 3 ≤ f + 1) :
    scan b .f cs p = andThen (exAt (f + 1) d p b) (aft cs) ∧ ∀ x q c, exAt (f + 1) d p b = .ok (x, q, c) → c.length < b.length ∧ NotHd 42 c ∧ NotHd 43 c ∧ NotHd 45 c := by
  obtain ⟨e1, h1⟩ := G.term d p b cs hc hd (by omega)
  rw [e1]
  cases hz : termAt f d p b with
  | error k =>
    have e : exAt (f + 1) d p b = .error k := by rw [exAt, hz]
    rw [e]
    exact ⟨rfl, fun x' q c h => by cases h⟩
  | ok z =>
    obtain ⟨y, q, c⟩ := z
    have e : exAt (f + 1) d p b = sumAt f d y q c := by rw [exAt, hz]
    rw [e]
    obtain ⟨hlt, hn⟩ := h1 y q c hz
    obtain ⟨e2, h2⟩ := G.sum d y q c cs hc hd (by omega) hn
    refine ⟨e2, fun x' q' c' h => ?_⟩
    obtain ⟨h3, h4⟩ := h2 x' q' c' h
    exact ⟨by omega, h4⟩
theorem good_sum_op {f : Nat} (G : Good f) (d : Nat) (p : Nat) (l : Bytes) (cs : List UInt8) (hc : Cl cs) (hd : cs.length = d) (k : UInt8) (g : Ex → Ex) (s : Except Nat (Ex × (Nat × Bytes)))
    (es : s = match termAt f d (p + 1) l with
      | .error k => .error k
      | .ok (y, q, c) => sumAt f d (g y) q c) (hk : isOp k = true) (hf : 3 * (k :: l).length + 2 ≤ f + 1) :
    aft cs p (k :: l) = andThen s (aft cs) ∧ ∀ x' q c, s = .ok (x', q, c) → c.length ≤ (k :: l).length ∧ NotHd 42 c ∧ NotHd 43 c ∧ NotHd 45 c := by
  subst es
  rw [aft_op hc hk]
  have hl : 3 * l.length + 2 ≤ f := by rw [List.length_cons] at hf; omega
  obtain ⟨e1, h1⟩ := G.term d (p + 1) l cs hc hd hl
  rw [e1]
  cases hz : termAt f d (p + 1) l with
  | error k => exact ⟨rfl, fun x' q c h => by cases h⟩
  | ok z =>
    obtain ⟨y, q, c⟩ := z
    obtain ⟨hlt, hn⟩ := h1 y q c hz
    obtain ⟨e2, h2⟩ := G.sum d (g y) q c cs hc hd (by omega) hn
    refine ⟨e2, fun x' q' c' h => ?_⟩
    obtain ⟨h3, h4⟩ := h2 x' q' c' h
    exact ⟨by rw [List.length_cons]; omega, h4⟩
theorem good_sum {f : Nat} (G : Good f) (d : Nat) (x : Ex) (p : Nat) (b : Bytes) (cs : List UInt8) (hc : Cl cs) (hd : cs.length = d) (hf : 3 * b.length + 2 ≤ f + 1) (hn : NotHd 42 b) :
    aft cs p b = andThen (sumAt (f + 1) d x p b) (aft cs) ∧ ∀ x' q c, sumAt (f + 1) d x p b = .ok (x', q, c) → c.length ≤ b.length ∧ NotHd 42 c ∧ NotHd 43 c ∧ NotHd 45 c := by
  cases b with
  | nil =>
    have e : sumAt (f + 1) d x p [] = .ok (x, p, []) := by unfold sumAt; rfl
    rw [e]
    exact ⟨rfl, fun x' q c h => by cases h; exact ⟨Nat.le_refl _, nothd_nil, nothd_nil, nothd_nil⟩⟩
  | cons c l =>
    by_cases h : c = 43
    · subst h
      exact good_sum_op G d p l cs hc hd 43 (fun y => .plus x y) _ (by rw [sumAt]; rfl) (by decide) hf
    · by_cases h2 : c = 45
      · subst h2
        exact good_sum_op G d p l cs hc hd 45 (fun y => .minus x y) _ (by rw [sumAt]; rfl) (by decide) hf
      · have e : sumAt (f + 1) d x p (c :: l) = .ok (x, p, c :: l) := by
          rw [sumAt]
          · intro l' e
            exact h (List.cons.inj e).1
          · intro l' e
            exact h2 (List.cons.inj e).1
        rw [e]
        exact ⟨rfl, fun x' q c' h' => by cases h'; exact ⟨Nat.le_refl _, hn, nothd_cons h, nothd_cons h2⟩⟩
theorem closer_cl {cs : List UInt8} (hc : Cl cs) (c : UInt8) : Cl (closer c :: cs) := fun k hk => by
  rcases List.mem_cons.mp hk with e | e
  · subst e
    unfold closer
    by_cases h : c = 91
    · rw [if_pos h]
      exact .inl rfl
    · rw [if_neg h]
      exact .inr rfl
  · exact hc k e
/-- behind an E in brackets, where no operator stands: what closes it, or nothing -/
theorem aft_close (k : UInt8) (cs : List UInt8) (q : Nat) (c : Bytes) (h1 : NotHd 42 c) (h2 : NotHd 43 c) (h3 : NotHd 45 c) : aft (k :: cs) q c = andThen (expect [k] q c) (aft cs) := by
  cases c with
  | nil => rfl
  | cons c l =>
    have hd : ¬ (isDigit c = true ∧ 0 < 0) := fun x => absurd x.2 (Nat.lt_irrefl _)
    show (if isDigit c = true ∧ 0 < 0 then _ else if c = k then _ else if isOp c = true then _ else _) = andThen (if k = c then expect [] (q + 1) l else .error q) (aft cs)
    rw [if_neg hd]
    by_cases h : c = k
    · rw [if_pos h, if_pos h.symm]
      rfl
    · have ho : ¬ isOp c = true := fun x => by
        have e1 : (c == 43) = false := by simpa using hd_of h2
        have e2 : (c == 45) = false := by simpa using hd_of h3
        have e3 : (c == 42) = false := by simpa using hd_of h1
        unfold isOp at x
        rw [e1, e2, e3] at x
        cases x
      rw [if_neg h, if_neg ho, if_neg (fun z => h z.symm)]
      rfl
theorem expect_len : ∀ (w : Bytes) (p : Nat) (b : Bytes) (u : Unit) (q : Nat) (c : Bytes), expect w p b = .ok (u, q, c) → c.length + w.length = b.length
  | [], p, b, u, q, c, h => by
    cases h
    rfl
  | k :: w, p, [], u, q, c, h => by cases h
  | k :: w, p, d :: l, u, q, c, h => by
    have h' : (if k = d then expect w (p + 1) l else .error p) = .ok (u, q, c) := h
    by_cases e : k = d
    · rw [if_pos e] at h'
      have := expect_len w (p + 1) l u q c h'
      rw [List.length_cons, List.length_cons]
      omega
    · rw [if_neg e] at h'
      cases h'
theorem good_fac {f : Nat} (G : Good f) (d p : Nat) (b : Bytes) (cs : List UInt8) (hc : Cl cs) (hd : cs.length = d) (hf : 3 * b.length + 1 ≤ f + 1) :
    scan b .f cs p = andThen (factorAt (f + 1) d p b) (aft cs) ∧ ∀ x q c, factorAt (f + 1) d p b = .ok (x, q, c) → c.length < b.length := by
  cases b with
  | nil =>
    have e : factorAt (f + 1) d p [] = .error p := by unfold factorAt; rfl
    rw [e]
    exact ⟨rfl, fun x' q c h => by cases h⟩
  | cons c l =>
    rw [factorAt]
    have sc : scan (c :: l) .f cs p = if isBr c = true then (if cs.length < 16 then scan l .f (closer c :: cs) (p + 1) else .error p)
      else if c = 48 then scan l (.d 0) cs (p + 1)
      else if isDigit c = true then scan l (.d 3) cs (p + 1)
      else if isLet c = true then scan l (.d 0) cs (p + 1)
      else .error p := rfl
    rw [sc]
    by_cases h0 : c = 48
    · subst h0
      rw [if_neg (by decide), if_pos rfl, if_pos rfl]
      exact ⟨rfl, fun x q c h => by cases h; exact Nat.lt_succ_self _⟩
    · rw [if_neg h0, if_neg h0]
      by_cases h1 : isDigit c = true
      · have hb : ¬ isBr c = true := fun z => by
          unfold isBr at z
          rcases (Bool.or_eq_true _ _).mp z with e | e <;> (rw [beq_iff_eq] at e; subst e; revert h1; decide)
        rw [if_neg hb, if_pos h1, if_pos h1]
        refine ⟨scan_digits 3 (c.toNat - 48) (p + 1) l cs, fun x q c' h => ?_⟩
        have e2 : (digitsAt 3 (c.toNat - 48) (p + 1) l).2 = (q, c') := (Prod.mk.inj (Except.ok.inj h)).2
        have e3 : (digitsAt 3 (c.toNat - 48) (p + 1) l).2.2 = c' := congrArg Prod.snd e2
        rw [← e3]
        exact Nat.lt_of_le_of_lt (digits_len 3 _ _ l) (Nat.lt_succ_self _)
      · rw [if_neg h1, if_neg h1]
        by_cases h2 : 97 ≤ c.toNat ∧ c.toNat ≤ 104
        · have hb : ¬ isBr c = true := fun z => by
            unfold isBr at z
            rcases (Bool.or_eq_true _ _).mp z with e | e <;> (rw [beq_iff_eq] at e; subst e; revert h2; decide)
          have hl : isLet c = true := by
            unfold isLet
            rw [decide_eq_true h2.1, decide_eq_true h2.2]
            rfl
          rw [if_neg hb, if_pos hl, if_pos h2]
          exact ⟨rfl, fun x q c h => by cases h; exact Nat.lt_succ_self _⟩
        · rw [if_neg h2]
          by_cases h3 : 65 ≤ c.toNat ∧ c.toNat ≤ 72
          · have hb : ¬ isBr c = true := fun z => by
              unfold isBr at z
              rcases (Bool.or_eq_true _ _).mp z with e | e <;> (rw [beq_iff_eq] at e; subst e; revert h3; decide)
            have hl : isLet c = true := by
              unfold isLet
              rw [decide_eq_true h3.1, decide_eq_true h3.2, Bool.and_self, Bool.or_true]
            rw [if_neg hb, if_pos hl, if_pos h3]
            exact ⟨rfl, fun x q c h => by cases h; exact Nat.lt_succ_self _⟩
          · rw [if_neg h3]
            have hl : ¬ isLet c = true := fun z => by
              unfold isLet at z
              rcases (Bool.or_eq_true _ _).mp z with e | e
              · exact h2 ⟨of_decide_eq_true ((Bool.and_eq_true _ _).mp e).1, of_decide_eq_true ((Bool.and_eq_true _ _).mp e).2⟩
              · exact h3 ⟨of_decide_eq_true ((Bool.and_eq_true _ _).mp e).1, of_decide_eq_true ((Bool.and_eq_true _ _).mp e).2⟩
            rw [if_neg hl]
            by_cases h4 : c = 91 ∨ c = 40
            · have hb : isBr c = true := by
                unfold isBr
                rcases h4 with e | e <;> (subst e; rfl)
              rw [if_pos hb, if_pos h4]
              by_cases h5 : OPEN ≤ d
              · rw [if_pos h5, if_neg (by rw [hd]; exact Nat.not_lt.mpr h5)]
                exact ⟨rfl, fun x q c h => by cases h⟩
              · rw [if_neg h5, if_pos (by rw [hd]; exact Nat.lt_of_not_le h5)]
                have hl3 : 3 * l.length + 3 ≤ f := by rw [List.length_cons] at hf; omega
                obtain ⟨e1, g1⟩ := G.ex (d + 1) (p + 1) l (closer c :: cs) (closer_cl hc c) (by rw [List.length_cons, hd]) hl3
                rw [e1]
                cases hz : exAt f (d + 1) (p + 1) l with
                | error k => exact ⟨rfl, fun x' q c h => by cases h⟩
                | ok z =>
                  obtain ⟨y, q, r⟩ := z
                  obtain ⟨hlt, n1, n2, n3⟩ := g1 y q r hz
                  show aft (closer c :: cs) q r = andThen (match expect [closer c] q r with
                    | .error k => .error k
                    | .ok (_, q, r) => .ok (if c = 91 then Ex.rod y else .par y, q, r)) (aft cs) ∧ _
                  rw [aft_close _ _ _ _ n1 n2 n3]
                  cases hw : expect [closer c] q r with
                  | error k =>
                    refine ⟨rfl, fun x' q' c' h => ?_⟩
                    have hw' : expect [if c = 91 then 93 else 41] q r = .error k := hw
                    simp only [hw'] at h
                    cases h
                  | ok z =>
                    obtain ⟨u, q2, r2⟩ := z
                    refine ⟨rfl, fun x' q' c' h => ?_⟩
                    have hw' : expect [if c = 91 then 93 else 41] q r = .ok (u, q2, r2) := hw
                    simp only [hw'] at h
                    have h6 := expect_len _ _ _ _ _ _ hw
                    cases h
                    rw [List.length_cons]
                    simp only [List.length_cons, List.length_nil] at h6
                    omega
            · have hb : ¬ isBr c = true := fun z => by
                unfold isBr at z
                rcases (Bool.or_eq_true _ _).mp z with e | e
                · exact h4 (.inl (by simpa using e))
                · exact h4 (.inr (by simpa using e))
              rw [if_neg hb, if_neg h4]
              exact ⟨rfl, fun x q c h => by cases h⟩
theorem good : ∀ f, Good f
  | 0 => good_zero
  | f + 1 => ⟨good_ex (good f), good_sum (good f), good_term (good f), good_times (good f), good_fac (good f)⟩
/-- an E, read by the scan -/
theorem scan_ex (p : Nat) (b : Bytes) : scan b .f [] p = andThen (exHere p b) (aft []) := ((good (6 * b.length + 8)).ex 0 p b [] (fun k h => nomatch h) rfl (by omega)).1
theorem ex_len {p : Nat} {b : Bytes} {x : Ex} {q : Nat} {c : Bytes} (h : exHere p b = .ok (x, q, c)) : c.length < b.length ∧ NotHd 42 c ∧ NotHd 43 c ∧ NotHd 45 c := ((good (6 * b.length + 8)).ex 0 p b [] (fun k h => nomatch h) rfl (by omega)).2 x q c h
theorem aft_end {q : Nat} {c : Bytes} (n1 : NotHd 42 c) (n2 : NotHd 43 c) (n3 : NotHd 45 c) : aft [] q c = .ok (q, c) := by
  cases c with
  | nil => rfl
  | cons c l =>
    have hd : ¬ (isDigit c = true ∧ 0 < 0) := fun x => absurd x.2 (Nat.lt_irrefl _)
    have ho : ¬ isOp c = true := fun x => by
      have e1 : (c == 43) = false := by simpa using hd_of n2
      have e2 : (c == 45) = false := by simpa using hd_of n3
      have e3 : (c == 42) = false := by simpa using hd_of n1
      unfold isOp at x
      rw [e1, e2, e3] at x
      cases x
    show (if isDigit c = true ∧ 0 < 0 then _ else if isOp c = true then _ else _) = _
    rw [if_neg hd, if_neg ho]
theorem scan_error {p k : Nat} {b : Bytes} (h : exHere p b = .error k) : scan b .f [] p = .error k := by rw [scan_ex, h]; rfl
theorem scan_ok {p : Nat} {b : Bytes} {x : Ex} {q : Nat} {c : Bytes} (h : exHere p b = .ok (x, q, c)) : scan b .f [] p = .ok (q, c) := by
  obtain ⟨_, n1, n2, n3⟩ := ex_len h
  rw [scan_ex, h]
  exact aft_end n1 n2 n3
end AbM

set_option linter.all false
namespace AbM
open Na

/-! ## Words -/
def strip {β : Type} (c : Nat) (ks : List (List Nat × β)) : List (List Nat × β) := ks.filterMap fun x => match x.1 with
  | d :: r => if c = d then some (r, x.2) else none
  | [] => none
def done? {β : Type} (ks : List (List Nat × β)) : Option (List Nat × β) := ks.find? fun x => x.1.isEmpty
def ends {β : Type} (o : Option (List Nat × β)) (p : Nat) (b : Bytes) : Except Nat (β × (Nat × Bytes)) := match o with
  | some x => .ok (x.2, p, b)
  | none => .error p
def bindX {α γ : Type} (x : Except Nat (α × (Nat × Bytes))) (g : α → Nat → Bytes → Except Nat γ) : Except Nat γ := match x with
  | .error k => .error k
  | .ok (a, q, c) => g a q c
/-- of some words the longest that stands here -/
def munch {β : Type} : Bytes → List (List Nat × β) → Nat → Except Nat (β × (Nat × Bytes))
  | [], ks, p => ends (done? ks) p []
  | c :: l, ks, p => if (strip c.toNat ks).isEmpty = true then ends (done? ks) p (c :: l) else munch l (strip c.toNat ks) (p + 1)
/-- the words that begin so: what is left of them -/
def tag (acc : List Nat) (ws : List (List Nat)) : List (List Nat × List Nat) := ws.filterMap fun w => if acc <+: w then some (w.drop acc.length, w) else none
def heads {β : Type} (ks : List (List Nat × β)) : List Nat := ks.filterMap fun x => x.1.head?

theorem strip_cons {β : Type} (c : Nat) (x : List Nat × β) (ks : List (List Nat × β)) : strip c (x :: ks) = (match x.1 with
  | d :: r => if c = d then [(r, x.2)] else []
  | [] => []) ++ strip c ks := by
  unfold strip
  rw [List.filterMap_cons]
  obtain ⟨w, a⟩ := x
  cases w with
  | nil => rfl
  | cons d r =>
    by_cases h : c = d
    · simp [h]
    · simp [h]
theorem drop_len_append {acc r : List Nat} {c : Nat} {w : List Nat} (e : w = acc ++ c :: r) : w.drop acc.length = c :: r ∧ w.drop (acc ++ [c]).length = r := by
  subst e
  constructor
  · simp
  · rw [show acc ++ c :: r = (acc ++ [c]) ++ r by simp, List.drop_left]
theorem tag_strip (acc : List Nat) (c : Nat) : ∀ ws : List (List Nat), strip c (tag acc ws) = tag (acc ++ [c]) ws
  | [] => rfl
  | w :: ws => by
    have ih := tag_strip acc c ws
    by_cases h : acc <+: w
    · obtain ⟨r, e⟩ := h
      have e1 : tag acc (w :: ws) = (w.drop acc.length, w) :: tag acc ws := by
        unfold tag
        rw [List.filterMap_cons, if_pos ⟨r, e⟩]
      rw [e1, strip_cons, ih]
      have ed : w.drop acc.length = r := by rw [← e, List.drop_left]
      dsimp only
      rw [ed]
      cases r with
      | nil =>
        have hn : ¬ (acc ++ [c]) <+: w := fun ⟨s, es⟩ => by
          rw [← es] at e
          have := congrArg List.length e
          simp at this
        show [] ++ tag (acc ++ [c]) ws = _
        unfold tag
        rw [List.filterMap_cons, if_neg hn]
        rfl
      | cons d r =>
        by_cases hc : c = d
        · subst hc
          have hp : (acc ++ [c]) <+: w := ⟨r, by rw [← e]; simp⟩
          show (if c = c then [(r, w)] else []) ++ _ = _
          rw [if_pos rfl]
          unfold tag
          rw [List.filterMap_cons, if_pos hp, (drop_len_append e.symm).2]
          rfl
        · have hn : ¬ (acc ++ [c]) <+: w := fun ⟨s, es⟩ => by
            rw [← es] at e
            have e2 : acc ++ (d :: r) = acc ++ (c :: s) := by rw [e]; simp
            have := List.append_cancel_left e2
            exact hc (List.cons.inj this).1.symm
          show (if c = d then [(r, w)] else []) ++ _ = _
          rw [if_neg hc]
          unfold tag
          rw [List.filterMap_cons, if_neg hn]
          rfl
    · have hn : ¬ (acc ++ [c]) <+: w := fun ⟨s, es⟩ => h ⟨c :: s, by rw [← es]; simp⟩
      have e1 : tag acc (w :: ws) = tag acc ws := by
        unfold tag
        rw [List.filterMap_cons, if_neg h]
      have e2 : tag (acc ++ [c]) (w :: ws) = tag (acc ++ [c]) ws := by
        unfold tag
        rw [List.filterMap_cons, if_neg hn]
      rw [e1, e2, ih]
theorem heads_iff {β : Type} (c : Nat) : ∀ ks : List (List Nat × β), c ∈ heads ks ↔ (strip c ks).isEmpty = false
  | [] => by simp [heads, strip]
  | (w, a) :: ks => by
    have ih := heads_iff c ks
    rw [strip_cons]
    cases w with
    | nil =>
      have e : heads (([], a) :: ks) = heads ks := rfl
      rw [e]
      exact ih
    | cons d r =>
      have e : heads ((d :: r, a) :: ks) = d :: heads ks := rfl
      rw [e]
      by_cases h : c = d
      · subst h
        simp
      · simp [h, ih]
theorem done_tag (acc : List Nat) : ∀ ws : List (List Nat), (acc ∈ ws → ∃ x, done? (tag acc ws) = some x ∧ x.2 = acc) ∧ (acc ∉ ws → done? (tag acc ws) = none)
  | [] => ⟨fun h => absurd h List.not_mem_nil, fun _ => rfl⟩
  | w :: ws => by
    obtain ⟨i1, i2⟩ := done_tag acc ws
    by_cases h : acc <+: w
    · have e1 : tag acc (w :: ws) = (w.drop acc.length, w) :: tag acc ws := by
        unfold tag
        rw [List.filterMap_cons, if_pos h]
      obtain ⟨r, e⟩ := h
      have ed : w.drop acc.length = r := by rw [← e, List.drop_left]
      rw [e1, ed]
      cases r with
      | nil =>
        have ew : w = acc := by rw [← e]; simp
        refine ⟨fun _ => ⟨([], w), rfl, ew⟩, fun hn => absurd (by rw [ew]; exact List.mem_cons_self) hn⟩
      | cons d r =>
        have hne : acc ≠ w := fun z => by
          rw [← z] at e
          have := congrArg List.length e
          simp at this
        have ef : done? ((d :: r, w) :: tag acc ws) = done? (tag acc ws) := by
          unfold done?
          rw [List.find?_cons]
          rfl
        rw [ef]
        exact ⟨fun hm => (List.mem_cons.mp hm).elim (fun z => absurd z hne) i1, fun hn => i2 fun z => hn (List.mem_cons_of_mem _ z)⟩
    · have e1 : tag acc (w :: ws) = tag acc ws := by
        unfold tag
        rw [List.filterMap_cons, if_neg h]
      have hne : acc ≠ w := fun z => h (by rw [← z]; exact List.prefix_refl acc)
      rw [e1]
      exact ⟨fun hm => (List.mem_cons.mp hm).elim (fun z => absurd z hne) i1, fun hn => i2 fun z => hn (List.mem_cons_of_mem _ z)⟩
/-- what a walk over the text does: a sign that goes on .. -/
theorem munch_go {ws : List (List Nat)} {acc : List Nat} {c : UInt8} {l : Bytes} {p : Nat} (h : c.toNat ∈ heads (tag acc ws)) : munch (c :: l) (tag acc ws) p = munch l (tag (acc ++ [c.toNat]) ws) (p + 1) := by
  rw [munch, if_neg (by rw [(heads_iff _ _).mp h]; exact Bool.false_ne_true), tag_strip]
/-- .. or none -/
theorem munch_stop {ws : List (List Nat)} {acc : List Nat} {b : Bytes} {p : Nat} (h : ∀ c l, b = c :: l → c.toNat ∉ heads (tag acc ws)) : munch b (tag acc ws) p = if acc ∈ ws then .ok (acc, p, b) else .error p := by
  have fin : ends (done? (tag acc ws)) p b = if acc ∈ ws then Except.ok (acc, p, b) else .error p := by
    by_cases hm : acc ∈ ws
    · obtain ⟨x, e, e2⟩ := (done_tag acc ws).1 hm
      rw [e, if_pos hm]
      show Except.ok (x.2, p, b) = _
      rw [e2]
    · rw [(done_tag acc ws).2 hm, if_neg hm]
      rfl
  cases b with
  | nil =>
    rw [munch]
    exact fin
  | cons c l =>
    have h1 := h c l rfl
    have h2 : (strip c.toNat (tag acc ws)).isEmpty = true := by
      cases e : (strip c.toNat (tag acc ws)).isEmpty with
      | true => rfl
      | false => exact absurd ((heads_iff _ _).mpr e) h1
    rw [munch, if_pos h2]
    exact fin
theorem tag_nil : ∀ ws : List (List Nat), tag [] ws = ws.map fun w => (w, w)
  | [] => rfl
  | w :: ws => by
    have ih := tag_nil ws
    show ((w :: ws).filterMap fun w => if [] <+: w then some (w.drop 0, w) else none) = _
    rw [List.filterMap_cons, if_pos (List.nil_prefix), List.map_cons, ← ih]
    rfl
theorem munch_len {β : Type} : ∀ (b : Bytes) (ks : List (List Nat × β)) (p : Nat) (w : β) (q : Nat) (c : Bytes), munch b ks p = .ok (w, q, c) → c.length ≤ b.length ∧ (done? ks = none → c.length < b.length)
  | [], ks, p, w, q, c, h => by
    rw [munch] at h
    cases e : done? ks with
    | none => rw [e] at h; cases h
    | some x =>
      rw [e] at h
      cases h
      exact ⟨Nat.le_refl _, fun z => by cases z⟩
  | d :: l, ks, p, w, q, c, h => by
    rw [munch] at h
    by_cases hs : (strip d.toNat ks).isEmpty = true
    · rw [if_pos hs] at h
      cases e : done? ks with
      | none => rw [e] at h; cases h
      | some x =>
        rw [e] at h
        cases h
        exact ⟨Nat.le_refl _, fun z => by cases z⟩
    · rw [if_neg hs] at h
      have := (munch_len l _ _ _ _ _ h).1
      rw [List.length_cons]
      exact ⟨by omega, fun _ => by omega⟩
/-- one word alone -/
theorem munch_one {β : Type} (w : β) : ∀ (s b : Bytes) (p : Nat), munch b [(s.map UInt8.toNat, w)] p = bindX (expect s p b) fun _ q c => .ok (w, q, c)
  | [], [], p => rfl
  | [], c :: l, p => rfl
  | k :: s, [], p => rfl
  | k :: s, c :: l, p => by
    rw [munch]
    have e1 : strip c.toNat [((k :: s).map UInt8.toNat, w)] = if c.toNat = k.toNat then [(s.map UInt8.toNat, w)] else [] := by
      rw [strip_cons]
      show (if c.toNat = k.toNat then [(s.map UInt8.toNat, w)] else []) ++ [] = _
      rw [List.append_nil]
    rw [e1]
    show _ = bindX (if k = c then expect s (p + 1) l else .error p) fun _ q c => .ok (w, q, c)
    by_cases h : k = c
    · subst h
      rw [if_pos rfl, if_pos rfl]
      exact munch_one w s l (p + 1)
    · have h2 : ¬ c.toNat = k.toNat := fun z => h (UInt8.toNat_inj.mp z.symm)
      rw [if_neg h2, if_neg h]
      rfl
/-- none begins another -/
def PF {α : Type} (ks : List (Bytes × α)) : Prop := ks.Pairwise fun x y => ¬ x.1 <+: y.1 ∧ ¬ y.1 <+: x.1
theorem pf_single {α : Type} {x : Bytes × α} (hx : x.1 = []) : ∀ ks : List (Bytes × α), PF ks → x ∈ ks → ks = [x]
  | y :: r, h, hm => by
    have h' := List.pairwise_cons.mp h
    rcases List.mem_cons.mp hm with e | e
    · subst e
      cases r with
      | nil => rfl
      | cons z r => exact absurd (by rw [hx]; exact List.nil_prefix) (h'.1 z List.mem_cons_self).1
    · exact absurd (by rw [hx]; exact List.nil_prefix) (h'.1 x e).2
/-- the spec's step over some words -/
def stepW {α : Type} (c : UInt8) (ks : List (Bytes × α)) : List (Bytes × α) := ks.filterMap fun (x : Bytes × α) => match x.1 with
  | d :: r => if c = d then some (r, x.2) else none
  | [] => none
theorem stepW_cons {α : Type} (c : UInt8) (x : Bytes × α) (ks : List (Bytes × α)) : stepW c (x :: ks) = (match x.1 with
  | d :: r => if c = d then [(r, x.2)] else []
  | [] => []) ++ stepW c ks := by
  unfold stepW
  rw [List.filterMap_cons]
  obtain ⟨w, a⟩ := x
  cases w with
  | nil => rfl
  | cons d r =>
    by_cases h : c = d
    · simp [h]
    · simp [h]
theorem mem_stepW {α : Type} {c : UInt8} {ks : List (Bytes × α)} {y : Bytes × α} (h : y ∈ stepW c ks) : (c :: y.1, y.2) ∈ ks := by
  unfold stepW at h
  obtain ⟨x, hx, e⟩ := List.mem_filterMap.mp h
  obtain ⟨w, a⟩ := x
  cases w with
  | nil => cases e
  | cons d r =>
    by_cases hc : c = d
    · subst hc
      have e' : (if c = c then some (r, a) else none) = some y := e
      rw [if_pos rfl] at e'
      cases e'
      exact hx
    · have e' : (if c = d then some (r, a) else none) = some y := e
      rw [if_neg hc] at e'
      cases e'
theorem pf_step {α : Type} (c : UInt8) : ∀ ks : List (Bytes × α), PF ks → PF (stepW c ks)
  | [], _ => List.Pairwise.nil
  | x :: ks, h => by
    have h' := List.pairwise_cons.mp h
    have ih := pf_step c ks h'.2
    rw [stepW_cons]
    obtain ⟨w, a⟩ := x
    cases w with
    | nil => exact ih
    | cons d r =>
      by_cases hc : c = d
      · subst hc
        show PF ((if c = c then [(r, a)] else []) ++ stepW c ks)
        rw [if_pos rfl]
        refine List.pairwise_cons.mpr ⟨fun y hy => ?_, ih⟩
        have q := h'.1 _ (mem_stepW hy)
        exact ⟨fun z => q.1 ((List.prefix_cons_inj c).mpr z), fun z => q.2 ((List.prefix_cons_inj c).mpr z)⟩
      · show PF ((if c = d then [(r, a)] else []) ++ stepW c ks)
        rw [if_neg hc]
        exact ih
theorem oneOf_succ {α : Type} (f : Nat) (ks : List (Bytes × α)) (p : Nat) (b : Bytes) : oneOf (f + 1) ks p b = match ks.find? (fun (x : Bytes × α) => x.1.isEmpty) with
    | some x => .ok (x.2, p, b)
    | none => match b with
      | [] => .error p
      | c :: l => if (stepW c ks).isEmpty = true then .error p else oneOf f (stepW c ks) (p + 1) l := rfl
section
variable {α β : Type} (sfx : α → Bytes) (word : α → β)
def asks (ks : List (Bytes × α)) : List (List Nat × β) := ks.map fun x => ((x.1 ++ sfx x.2).map UInt8.toNat, word x.2)
theorem strip_asks (c : UInt8) : ∀ ks : List (Bytes × α), (∀ x ∈ ks, x.1 ≠ []) → strip c.toNat (asks sfx word ks) = asks sfx word (stepW c ks)
  | [], _ => rfl
  | (w, a) :: ks, h => by
    have ih := strip_asks c ks fun x hx => h x (List.mem_cons_of_mem _ hx)
    cases w with
    | nil => exact absurd rfl (h _ List.mem_cons_self)
    | cons d r =>
      have e1 : asks sfx word ((d :: r, a) :: ks) = (d.toNat :: (r ++ sfx a).map UInt8.toNat, word a) :: asks sfx word ks := rfl
      rw [e1, strip_cons, stepW_cons, ih]
      by_cases hc : c = d
      · subst hc
        show (if c.toNat = c.toNat then [((r ++ sfx a).map UInt8.toNat, word a)] else []) ++ _ = asks sfx word ((if c = c then [(r, a)] else []) ++ _)
        rw [if_pos rfl, if_pos rfl]
        rfl
      · have hc2 : ¬ c.toNat = d.toNat := fun z => hc (UInt8.toNat_inj.mp z)
        show (if c.toNat = d.toNat then [((r ++ sfx a).map UInt8.toNat, word a)] else []) ++ _ = asks sfx word ((if c = d then [(r, a)] else []) ++ _)
        rw [if_neg hc2, if_neg hc]
        rfl
theorem find_none {ks : List (Bytes × α)} (h : ks.find? (fun (x : Bytes × α) => x.1.isEmpty) = none) : ∀ x ∈ ks, x.1 ≠ [] := fun x hx e => by
  have := List.find?_eq_none.mp h x hx
  rw [e] at this
  exact this rfl
theorem done_perm {ks ks' : List (List Nat × β)} (hp : ks'.Perm ks) (h : ∀ x ∈ ks, x.1 ≠ []) : done? ks' = none := by
  unfold done?
  rw [List.find?_eq_none]
  intro x hx
  have := h x (hp.mem_iff.mp hx)
  cases e : x.1 with
  | nil => exact absurd e this
  | cons d r => exact Bool.false_ne_true
theorem asks_ne {ks : List (Bytes × α)} (h : ∀ x ∈ ks, x.1 ≠ []) : ∀ y ∈ asks sfx word ks, y.1 ≠ [] := fun y hy => by
  obtain ⟨x, hx, e⟩ := List.mem_map.mp hy
  subst e
  intro z
  have z' : (x.1 ++ sfx x.2).map UInt8.toNat = [] := z
  exact h x hx (List.append_eq_nil_iff.mp (List.map_eq_nil_iff.mp z')).1
theorem munch_oneOf : ∀ (f : Nat) (ks : List (Bytes × α)) (ks' : List (List Nat × β)) (p : Nat) (b : Bytes), ks'.Perm (asks sfx word ks) → PF ks → (∀ x ∈ ks, x.1.length < f) →
    munch b ks' p = bindX (oneOf f ks p b) fun a q c => munch c [((sfx a).map UInt8.toNat, word a)] q
  | 0, ks, ks', p, b, hp, _, hl => by
    have e : ks = [] := by
      cases ks with
      | nil => rfl
      | cons x r => exact absurd (hl x List.mem_cons_self) (Nat.not_lt_zero _)
    subst e
    have e' : ks' = [] := List.perm_nil.mp hp
    subst e'
    cases b <;> rfl
  | f + 1, ks, ks', p, b, hp, hpf, hl => by
    rw [oneOf_succ]
    cases hf : ks.find? (fun (x : Bytes × α) => x.1.isEmpty) with
    | some x =>
      have hx := List.mem_of_find?_eq_some hf
      have he : x.1 = [] := by
        have := List.find?_some hf
        exact List.isEmpty_iff.mp this
      have e := pf_single he ks hpf hx
      subst e
      have e2 : ks' = asks sfx word [x] := List.perm_singleton.mp hp
      rw [e2]
      show munch b [((x.1 ++ sfx x.2).map UInt8.toNat, word x.2)] p = munch b [((sfx x.2).map UInt8.toNat, word x.2)] p
      rw [he]
      rfl
    | none =>
      have hne := find_none hf
      have hd : done? ks' = none := done_perm hp (asks_ne sfx word hne)
      cases b with
      | nil =>
        rw [munch, hd]
        rfl
      | cons c l =>
        have hs : (strip c.toNat ks').Perm (asks sfx word (stepW c ks)) := by
          rw [← strip_asks sfx word c ks hne]
          exact hp.filterMap _
        show munch (c :: l) ks' p = bindX (if (stepW c ks).isEmpty = true then .error p else oneOf f (stepW c ks) (p + 1) l) fun a q c => munch c [((sfx a).map UInt8.toNat, word a)] q
        rw [munch]
        by_cases he : (stepW c ks).isEmpty = true
        · have e0 : stepW c ks = [] := List.isEmpty_iff.mp he
          rw [e0] at hs
          have e1 : strip c.toNat ks' = [] := List.perm_nil.mp hs
          rw [if_pos he, e1, hd]
          rfl
        · have e1 : ¬ (strip c.toNat ks').isEmpty = true := fun z => by
            have z0 : strip c.toNat ks' = [] := List.isEmpty_iff.mp z
            rw [z0] at hs
            have z1 := List.perm_nil.mp hs.symm
            cases e2 : stepW c ks with
            | nil => exact he (by rw [e2]; rfl)
            | cons y r =>
              rw [e2] at z1
              cases z1
          rw [if_neg he, if_neg e1]
          exact munch_oneOf f _ _ _ _ hs (pf_step c ks hpf) fun y hy => by
            have := hl _ (mem_stepW hy)
            simp only [List.length_cons] at this
            omega
end
end AbM

set_option linter.all false
namespace AbM
open Na

abbrev wAdd : List Nat := [97, 100, 100, 32]
abbrev wTake : List Nat := [116, 97, 107, 101, 32]
abbrev wSet : List Nat := [115, 101, 116, 32]
abbrev wStop : List Nat := [115, 116, 111, 112, 10]
abbrev wFail : List Nat := [102, 97, 105, 108, 10]
abbrev wIf : List Nat := [105, 102, 32]
abbrev wWhile : List Nat := [119, 104, 105, 108, 101, 32]
abbrev wEnd : List Nat := [101, 110, 100, 10]
abbrev wElse : List Nat := [101, 108, 115, 101, 10]
abbrev wAt : List Nat := [32, 97, 116, 32]
abbrev wAnd : List Nat := [32, 97, 110, 100, 32]
abbrev wLf : List Nat := [10]
abbrev wCmps : List (List Nat) := [[61], [60], [62], [60, 61], [62, 61], [60, 62]]

/-- the words with which a line may begin, o being open -/
def lineWords (o : List Nat) : List (List Nat) :=
  ([wAdd, wTake, wSet, wStop, wFail] ++ (if o.length < 16 then [wIf, wWhile] else [])) ++ (if o.isEmpty = true then [] else wEnd :: (if o.head? = some 1 then [wElse] else []))
def sfx : Kw → Bytes
  | .halt_ => [10]
  | .fail => [10]
  | .else_ => [10]
  | .end_ => [10]
  | _ => []
def word : Kw → List Nat
  | .add => wAdd
  | .take => wTake
  | .set => wSet
  | .if_ => wIf
  | .else_ => wElse
  | .end_ => wEnd
  | .while_ => wWhile
  | .halt_ => wStop
  | .fail => wFail
def kBase : List (Bytes × Kw) := [(ascii "add ", .add), (ascii "take ", .take), (ascii "set ", .set), (ascii "stop", .halt_), (ascii "fail", .fail)]
def kIf : List (Bytes × Kw) := [(ascii "if ", .if_), (ascii "while ", .while_)]
def kElse : List (Bytes × Kw) := [(ascii "else", .else_)]
def kEnd : List (Bytes × Kw) := [(ascii "end", .end_)]
theorem words_eq (o : List Nat) : words_ o = kBase ++ ((if o.length < OPEN then kIf else []) ++ ((if o.head? = some 1 then kElse else []) ++ if o.isEmpty = true then [] else kEnd)) := rfl
theorem asks_append {α β : Type} (s : α → Bytes) (w : α → β) (a b : List (Bytes × α)) : asks s w (a ++ b) = asks s w a ++ asks s w b := List.map_append
def allW : List (Bytes × Kw) := kBase ++ (kIf ++ (kElse ++ kEnd))
theorem words_sub (o : List Nat) : (words_ o).Sublist allW := by
  rw [words_eq]
  refine (List.Sublist.refl _).append (List.Sublist.append ?_ (List.Sublist.append ?_ ?_))
  · split
    · exact List.Sublist.refl _
    · exact List.nil_sublist _
  · split
    · exact List.Sublist.refl _
    · exact List.nil_sublist _
  · split
    · exact List.nil_sublist _
    · exact List.Sublist.refl _
theorem allW_pf : PF allW := by
  have h : (allW.map (·.1)).Pairwise (fun x y => ¬ x <+: y ∧ ¬ y <+: x) := by decide +kernel
  exact List.pairwise_map.mp h
theorem words_pf (o : List Nat) : PF (words_ o) := List.Pairwise.sublist (words_sub o) allW_pf
theorem words_short (o : List Nat) : ∀ x ∈ words_ o, x.1.length < 8 := fun x hx => by
  have h : ∀ y ∈ allW.map (·.1), y.length < 8 := by decide +kernel
  exact h x.1 (List.mem_map.mpr ⟨x, (words_sub o).mem hx, rfl⟩)
theorem words_perm (o : List Nat) : (tag [] (lineWords o)).Perm (asks sfx word (words_ o)) := by
  rw [tag_nil, words_eq, asks_append, asks_append, asks_append]
  unfold lineWords
  rw [List.map_append, List.map_append, List.append_assoc]
  have e1 : ([wAdd, wTake, wSet, wStop, wFail] : List (List Nat)).map (fun w => (w, w)) = asks sfx word kBase := by decide +kernel
  have e2 : (if o.length < 16 then [wIf, wWhile] else []).map (fun w => (w, w)) = asks sfx word (if o.length < OPEN then kIf else []) := by
    show _ = asks sfx word (if o.length < 16 then kIf else [])
    split
    · decide +kernel
    · rfl
  rw [e1, e2]
  refine List.Perm.append_left _ (List.Perm.append_left _ ?_)
  cases o with
  | nil => exact List.Perm.refl _
  | cons k r =>
    have e3 : (if (k :: r).isEmpty = true then [] else wEnd :: (if (k :: r).head? = some 1 then [wElse] else [])) = wEnd :: (if some k = some 1 then [wElse] else []) := rfl
    have e4 : (if (k :: r).isEmpty = true then [] else kEnd) = kEnd := rfl
    rw [e3, e4]
    show List.Perm _ (asks sfx word (if some k = some 1 then kElse else []) ++ asks sfx word kEnd)
    by_cases h : some k = some 1
    · rw [if_pos h, if_pos h]
      have e5 : ([wEnd, wElse] : List (List Nat)).map (fun w => (w, w)) = asks sfx word kEnd ++ asks sfx word kElse := by decide +kernel
      rw [e5]
      exact List.perm_append_comm
    · rw [if_neg h, if_neg h]
      have e5 : ([wEnd] : List (List Nat)).map (fun w => (w, w)) = asks sfx word kEnd := by decide +kernel
      rw [e5]
      exact List.Perm.refl _

/-! ## Lines -/
theorem bindX_error {α γ : Type} (k : Nat) (g : α → Nat → Bytes → Except Nat γ) : bindX (.error k) g = .error k := rfl
theorem bindX_ok {α γ : Type} (a : α) (q : Nat) (c : Bytes) (g : α → Nat → Bytes → Except Nat γ) : bindX (.ok (a, q, c)) g = g a q c := rfl
theorem bindX_assoc {α β γ : Type} (x : Except Nat (α × (Nat × Bytes))) (g : α → Nat → Bytes → Except Nat (β × (Nat × Bytes))) (h : β → Nat → Bytes → Except Nat γ) : bindX (bindX x g) h = bindX x fun a q c => bindX (g a q c) h := by
  cases x with
  | error k => rfl
  | ok z => rfl
theorem bindX_congr {α γ : Type} {x : Except Nat (α × (Nat × Bytes))} {g h : α → Nat → Bytes → Except Nat γ} (e : ∀ a q c, x = .ok (a, q, c) → g a q c = h a q c) : bindX x g = bindX x h := by
  cases x with
  | error k => rfl
  | ok z => exact e z.1 z.2.1 z.2.2 rfl
theorem bind_eq {α γ : Type} (x : Except Nat (α × (Nat × Bytes))) (g : (α × (Nat × Bytes)) → Except Nat γ) : (x >>= g) = bindX x fun a q c => g (a, q, c) := by
  cases x with
  | error k => rfl
  | ok z => rfl
abbrev lf (p : Nat) (b : Bytes) : Except Nat (Unit × (Nat × Bytes)) := expect [10] p b
def headP (p : Nat) (b : Bytes) : Except Nat (Unit × (Nat × Bytes)) := bindX (headAt p b) fun _ q c => .ok ((), q, c)
/-- add, take: behind the word -/
def atM (g : Ex → Ex → Line) (o : List Nat) (q : Nat) (c : Bytes) : Except Nat ((Line × List Nat) × (Nat × Bytes)) :=
  bindX (exHere q c) fun x q c => bindX (expect (ascii " at ") q c) fun _ q c => bindX (exHere q c) fun y q c => bindX (lf q c) fun _ q c => .ok ((g x y, o), q, c)
def setM (o : List Nat) (q : Nat) (c : Bytes) : Except Nat ((Line × List Nat) × (Nat × Bytes)) :=
  bindX (headAt q c) fun k q c => bindX (expect [32] q c) fun _ q c => bindX (exHere q c) fun x q c => bindX (lf q c) fun _ q c => .ok ((.set k x, o), q, c)
/-- tests with the LF behind them -/
def tstF (f p : Nat) (b : Bytes) : Except Nat (List Test × (Nat × Bytes)) := bindX (testsAt f p b) fun x q c => bindX (lf q c) fun _ q c => .ok (x, q, c)
def tstM (p : Nat) (b : Bytes) : Except Nat (List Test × (Nat × Bytes)) := tstF (b.length + 1) p b
/-- a line with its LF: the line, what is open behind it -/
def lineP (o : List Nat) (p : Nat) (b : Bytes) : Except Nat ((Line × List Nat) × (Nat × Bytes)) := bindX (lineAt o p b) fun x q c => bindX (lf q c) fun _ q c => .ok ((x, openBehind o x), q, c)
/-- behind the word -/
def contW (o : List Nat) (w : List Nat) (q : Nat) (c : Bytes) : Except Nat ((Line × List Nat) × (Nat × Bytes)) :=
  if w = wAdd then atM .add o q c
  else if w = wTake then atM .take o q c
  else if w = wSet then setM o q c
  else if w = wIf then bindX (tstM q c) fun x q c => .ok ((.if_ x, 1 :: o), q, c)
  else if w = wWhile then bindX (tstM q c) fun x q c => .ok ((.while_ x, 0 :: o), q, c)
  else if w = wElse then .ok ((.else_, 2 :: o.drop 1), q, c)
  else if w = wEnd then .ok ((.end_, o.drop 1), q, c)
  else if w = wStop then .ok ((.halt_, o), q, c)
  else .ok ((.fail, o), q, c)
theorem lineP_eq (o : List Nat) (p : Nat) (b : Bytes) : lineP o p b = bindX (munch b (tag [] (lineWords o)) p) (contW o) := by
  rw [munch_oneOf sfx word 8 (words_ o) _ p b (words_perm o) (words_pf o) (words_short o), bindX_assoc]
  have e0 : lineP o p b = bindX (oneOf 8 (words_ o) p b) fun a q c => bindX (munch c [((sfx a).map UInt8.toNat, word a)] q) (contW o) := by
    unfold lineP lineAt
    rw [bind_eq, bindX_assoc]
    refine bindX_congr fun a q c _ => ?_
    rw [munch_one, bindX_assoc]
    cases a with
    | add =>
      show bindX (exHere q c >>= _) _ = atM .add o q c
      simp only [bind_eq, bindX_assoc]
      rfl
    | take =>
      show bindX (exHere q c >>= _) _ = atM .take o q c
      simp only [bind_eq, bindX_assoc]
      rfl
    | set =>
      show bindX (headAt q c >>= _) _ = setM o q c
      simp only [bind_eq, bindX_assoc]
      rfl
    | if_ =>
      show bindX (testsAt _ q c >>= _) _ = bindX (tstM q c) _
      unfold tstM tstF
      simp only [bind_eq, bindX_assoc]
      rfl
    | while_ =>
      show bindX (testsAt _ q c >>= _) _ = bindX (tstM q c) _
      unfold tstM tstF
      simp only [bind_eq, bindX_assoc]
      rfl
    | else_ => rfl
    | end_ => rfl
    | halt_ => rfl
    | fail => rfl
  exact e0
/-- tests: one, then what stands behind it -/
def tst1 (p : Nat) (b : Bytes) : Except Nat (Test × (Nat × Bytes)) := bindX (exHere p b) fun x q c => bindX (cmpAt q c) fun k q c => bindX (exHere q c) fun y q c => .ok (⟨x, k, y⟩, q, c)
theorem testAt_eq (p : Nat) (b : Bytes) {γ : Type} (g : Test → Nat → Bytes → Except Nat γ) : bindX (testAt p b) g = bindX (tst1 p b) g := by
  unfold testAt tst1
  simp only [bind_eq, bindX_assoc]
  refine bindX_congr fun _ q c _ => bindX_congr fun _ q c _ => bindX_congr fun _ q c _ => ?_
  rfl
theorem tstF_succ (f p : Nat) (b : Bytes) : tstF (f + 1) p b = bindX (tst1 p b) fun t q c => if c.head? = some 32 then bindX (expect (ascii " and ") q c) fun _ q c => bindX (tstF f q c) fun l q c => .ok (t :: l, q, c) else bindX (lf q c) fun _ q c => .ok ([t], q, c) := by
  unfold tstF
  rw [testsAt, bind_eq, bindX_assoc, testAt_eq]
  refine bindX_congr fun t q c _ => ?_
  by_cases h : c.head? = some 32
  · rw [if_pos h]
    simp only [h, if_true, bind_eq, bindX_assoc]
    rfl
  · rw [if_neg h]
    simp only [h, if_false]
    rfl
theorem munch_behind (q : Nat) (c : Bytes) : munch c (tag [] [wAnd, wLf]) q = if c.head? = some 32 then bindX (expect (ascii " and ") q c) fun _ q c => .ok (wAnd, q, c) else bindX (lf q c) fun _ q c => .ok (wLf, q, c) := by
  cases c with
  | nil => rfl
  | cons d l =>
    rw [munch, tag_strip]
    by_cases h : d = 32
    · subst h
      have hh : (32 :: l : Bytes).head? = some 32 := rfl
      rw [if_pos hh]
      have e : tag ([] ++ [(32 : UInt8).toNat]) [wAnd, wLf] = [(([97, 110, 100, 32] : Bytes).map UInt8.toNat, wAnd)] := by decide +kernel
      rw [e, munch_one]
      rfl
    · have h1 : ¬ (d :: l).head? = some 32 := fun z => h (Option.some.inj z)
      rw [if_neg h1]
      by_cases h2 : d = 10
      · subst h2
        have e : tag ([] ++ [(10 : UInt8).toNat]) [wAnd, wLf] = [(([] : Bytes).map UInt8.toNat, wLf)] := by decide +kernel
        rw [e, munch_one]
        rfl
      · have n1 : ¬ d.toNat = 32 := fun z => h (UInt8.toNat_inj.mp z)
        have n2 : ¬ d.toNat = 10 := fun z => h2 (UInt8.toNat_inj.mp z)
        have e : tag ([] ++ [d.toNat]) [wAnd, wLf] = [] := by
          rw [← tag_strip, tag_nil]
          simp [strip, n1, n2]
        have e2 : lf q (d :: l) = .error q := by
          show (if (10 : UInt8) = d then _ else _) = _
          rw [if_neg (fun z => h2 z.symm)]
        rw [e, e2]
        rfl
theorem munch_end {β : Type} (w : β) (b : Bytes) (p : Nat) : munch b [([], w)] p = .ok (w, p, b) := by
  have := munch_one w [] b p
  exact this
/-- how a comparison is written -/
def cmpW : Cmp → List Nat
  | .eq => [61]
  | .lt => [60]
  | .gt => [62]
  | .le => [60, 61]
  | .ge => [62, 61]
  | .ne => [60, 62]
theorem munch_cmp (q : Nat) (c : Bytes) : (∀ k, cmpAt q c = .error k → munch c (tag [] wCmps) q = .error k) ∧ ∀ x q' c', cmpAt q c = .ok (x, q', c') → c'.length < c.length ∧ munch c (tag [] wCmps) q = .ok (cmpW x, q', c') := by
  cases c with
  | nil => exact ⟨fun k h => (by cases h; rfl), fun x q' c' h => nomatch h⟩
  | cons d l =>
    have step : munch (d :: l) (tag [] wCmps) q = if (tag ([] ++ [d.toNat]) wCmps).isEmpty = true then ends (done? (tag [] wCmps)) q (d :: l) else munch l (tag ([] ++ [d.toNat]) wCmps) (q + 1) := by
      rw [munch, tag_strip]
    by_cases h1 : d = 61
    · subst h1
      have e : tag ([] ++ [(61 : UInt8).toNat]) wCmps = [([], [61])] := by decide +kernel
      rw [step, e]
      have e2 : cmpAt q (61 :: l) = .ok (.eq, q + 1, l) := rfl
      rw [e2]
      refine ⟨fun k h => (by cases h), fun x q' c' h => ?_⟩
      cases h
      exact ⟨Nat.lt_succ_self _, munch_end _ _ _⟩
    · by_cases h2 : d = 60
      · subst h2
        have e : tag ([] ++ [(60 : UInt8).toNat]) wCmps = [([], [60]), ([61], [60, 61]), ([62], [60, 62])] := by decide +kernel
        rw [step, e]
        show (∀ k, cmpAt q (60 :: l) = .error k → munch l [([], [60]), ([61], [60, 61]), ([62], [60, 62])] (q + 1) = .error k) ∧ ∀ x q' c', cmpAt q (60 :: l) = .ok (x, q', c') → c'.length < (60 :: l).length ∧ munch l [([], [60]), ([61], [60, 61]), ([62], [60, 62])] (q + 1) = .ok (cmpW x, q', c')
        cases l with
        | nil =>
          have e2 : cmpAt q [60] = .ok (.lt, q + 1, []) := rfl
          rw [e2]
          refine ⟨fun k h => (by cases h), fun x q' c' h => ?_⟩
          cases h
          exact ⟨Nat.lt_succ_self _, rfl⟩
        | cons f r =>
          by_cases g1 : f = 61
          · subst g1
            have e2 : cmpAt q (60 :: 61 :: r) = .ok (.le, q + 2, r) := rfl
            rw [e2]
            refine ⟨fun k h => (by cases h), fun x q' c' h => ?_⟩
            cases h
            exact ⟨by simp only [List.length_cons]; omega, munch_end _ _ _⟩
          · by_cases g2 : f = 62
            · subst g2
              have e2 : cmpAt q (60 :: 62 :: r) = .ok (.ne, q + 2, r) := rfl
              rw [e2]
              refine ⟨fun k h => (by cases h), fun x q' c' h => ?_⟩
              cases h
              exact ⟨by simp only [List.length_cons]; omega, munch_end _ _ _⟩
            · have e2 : cmpAt q (60 :: f :: r) = .ok (.lt, q + 1, f :: r) := by
                unfold cmpAt
                split
                · rename_i hh; cases (List.cons.inj hh).1
                · rename_i hh; exact absurd (List.cons.inj (List.cons.inj hh).2).1 g1
                · rename_i hh; exact absurd (List.cons.inj (List.cons.inj hh).2).1 g2
                · rename_i hh; cases (List.cons.inj hh).2; rfl
                · rename_i hh; cases (List.cons.inj hh).1
                · rename_i hh; cases (List.cons.inj hh).1
                · rename_i hh _ _; exact absurd rfl (hh (f :: r))
              have n1 : ¬ f.toNat = 61 := fun z => g1 (UInt8.toNat_inj.mp z)
              have n2 : ¬ f.toNat = 62 := fun z => g2 (UInt8.toNat_inj.mp z)
              have e3 : munch (f :: r) [([], [60]), ([61], [60, 61]), ([62], [60, 62])] (q + 1) = .ok ([60], q + 1, f :: r) := by
                rw [munch, if_pos (by simp [strip, n1, n2])]
                rfl
              rw [e2, e3]
              refine ⟨fun k h => (by cases h), fun x q' c' h => ?_⟩
              cases h
              exact ⟨Nat.lt_succ_self _, rfl⟩
      · by_cases h3 : d = 62
        · subst h3
          have e : tag ([] ++ [(62 : UInt8).toNat]) wCmps = [([], [62]), ([61], [62, 61])] := by decide +kernel
          rw [step, e]
          show (∀ k, cmpAt q (62 :: l) = .error k → munch l [([], [62]), ([61], [62, 61])] (q + 1) = .error k) ∧ ∀ x q' c', cmpAt q (62 :: l) = .ok (x, q', c') → c'.length < (62 :: l).length ∧ munch l [([], [62]), ([61], [62, 61])] (q + 1) = .ok (cmpW x, q', c')
          cases l with
          | nil =>
            have e2 : cmpAt q [62] = .ok (.gt, q + 1, []) := rfl
            rw [e2]
            refine ⟨fun k h => (by cases h), fun x q' c' h => ?_⟩
            cases h
            exact ⟨Nat.lt_succ_self _, rfl⟩
          | cons f r =>
            by_cases g1 : f = 61
            · subst g1
              have e2 : cmpAt q (62 :: 61 :: r) = .ok (.ge, q + 2, r) := rfl
              rw [e2]
              refine ⟨fun k h => (by cases h), fun x q' c' h => ?_⟩
              cases h
              exact ⟨by simp only [List.length_cons]; omega, munch_end _ _ _⟩
            · have e2 : cmpAt q (62 :: f :: r) = .ok (.gt, q + 1, f :: r) := by
                unfold cmpAt
                split
                · rename_i hh; cases (List.cons.inj hh).1
                · rename_i hh; cases (List.cons.inj hh).1
                · rename_i hh; cases (List.cons.inj hh).1
                · rename_i hh; cases (List.cons.inj hh).1
                · rename_i hh; exact absurd (List.cons.inj (List.cons.inj hh).2).1 g1
                · rename_i hh; cases (List.cons.inj hh).2; rfl
                · rename_i hh; exact absurd rfl (hh (f :: r))
              have n1 : ¬ f.toNat = 61 := fun z => g1 (UInt8.toNat_inj.mp z)
              have e3 : munch (f :: r) [([], [62]), ([61], [62, 61])] (q + 1) = .ok ([62], q + 1, f :: r) := by
                rw [munch, if_pos (by simp [strip, n1])]
                rfl
              rw [e2, e3]
              refine ⟨fun k h => (by cases h), fun x q' c' h => ?_⟩
              cases h
              exact ⟨Nat.lt_succ_self _, rfl⟩
        · have e2 : cmpAt q (d :: l) = .error q := by
            unfold cmpAt
            split
            · rename_i hh; exact absurd (List.cons.inj hh).1 h1
            · rename_i hh; exact absurd (List.cons.inj hh).1 h2
            · rename_i hh; exact absurd (List.cons.inj hh).1 h2
            · rename_i hh; exact absurd (List.cons.inj hh).1 h2
            · rename_i hh; exact absurd (List.cons.inj hh).1 h3
            · rename_i hh; exact absurd (List.cons.inj hh).1 h3
            · rfl
          have n1 : ¬ d.toNat = 61 := fun z => h1 (UInt8.toNat_inj.mp z)
          have n2 : ¬ d.toNat = 60 := fun z => h2 (UInt8.toNat_inj.mp z)
          have n3 : ¬ d.toNat = 62 := fun z => h3 (UInt8.toNat_inj.mp z)
          have e3 : munch (d :: l) (tag [] wCmps) q = .error q := by
            rw [munch, if_pos (by rw [tag_nil]; simp [strip, n1, n2, n3])]
            rfl
          rw [e2, e3]
          exact ⟨fun k h => (by cases h; rfl), fun x q' c' h => nomatch h⟩

/-! ## Lengths, lines one behind another -/
theorem bindX_inv {α γ : Type} {x : Except Nat (α × (Nat × Bytes))} {g : α → Nat → Bytes → Except Nat γ} {r : γ} (h : bindX x g = .ok r) : ∃ a q c, x = .ok (a, q, c) ∧ g a q c = .ok r := by
  cases x with
  | error k => cases h
  | ok z => exact ⟨z.1, z.2.1, z.2.2, rfl, h⟩
theorem head_len {q : Nat} {c : Bytes} {k : Nat} {q' : Nat} {c' : Bytes} (h : headAt q c = .ok (k, q', c')) : c'.length < c.length := by
  cases c with
  | nil => cases h
  | cons d l =>
    have h' : (if 97 ≤ d.toNat ∧ d.toNat ≤ 104 then Except.ok (d.toNat - 97, q + 1, l) else .error q) = Except.ok (k, q', c') := h
    by_cases e : 97 ≤ d.toNat ∧ d.toNat ≤ 104
    · rw [if_pos e] at h'
      cases h'
      exact Nat.lt_succ_self _
    · rw [if_neg e] at h'
      cases h'
theorem tst1_len {p : Nat} {b : Bytes} {u : Test} {q : Nat} {c : Bytes} (h : tst1 p b = .ok (u, q, c)) : c.length < b.length := by
  obtain ⟨a, q1, c1, h1, h⟩ := bindX_inv h
  obtain ⟨a2, q2, c2, h2, h⟩ := bindX_inv h
  obtain ⟨a3, q3, c3, h3, h⟩ := bindX_inv h
  have l1 := (ex_len h1).1
  have l2 := ((munch_cmp q1 c1).2 _ _ _ h2).1
  have l3 := (ex_len h3).1
  cases h
  omega
theorem tstF_len : ∀ (f p : Nat) (b : Bytes) (u : List Test) (q : Nat) (c : Bytes), tstF f p b = .ok (u, q, c) → c.length < b.length
  | 0, p, b, u, q, c, h => by cases h
  | f + 1, p, b, u, q, c, h => by
    rw [tstF_succ] at h
    obtain ⟨a, q1, c1, h1, h⟩ := bindX_inv h
    have l1 := tst1_len h1
    by_cases e : c1.head? = some 32
    · rw [if_pos e] at h
      obtain ⟨a2, q2, c2, h2, h⟩ := bindX_inv h
      have l2 := expect_len _ _ _ _ _ _ h2
      obtain ⟨a3, q3, c3, h3, h⟩ := bindX_inv h
      have l3 := tstF_len f _ _ _ _ _ h3
      cases h
      omega
    · rw [if_neg e] at h
      obtain ⟨a2, q2, c2, h2, h⟩ := bindX_inv h
      have l2 := expect_len _ _ _ _ _ _ h2
      cases h
      omega
theorem atM_len {g : Ex → Ex → Line} {o : List Nat} {q : Nat} {c : Bytes} {r : Line × List Nat} {q' : Nat} {c' : Bytes} (h : atM g o q c = .ok (r, q', c')) : c'.length ≤ c.length := by
  obtain ⟨a, q1, c1, h1, h⟩ := bindX_inv h
  obtain ⟨a2, q2, c2, h2, h⟩ := bindX_inv h
  obtain ⟨a3, q3, c3, h3, h⟩ := bindX_inv h
  obtain ⟨a4, q4, c4, h4, h⟩ := bindX_inv h
  have l1 := (ex_len h1).1
  have l2 := expect_len _ _ _ _ _ _ h2
  have l3 := (ex_len h3).1
  have l4 := expect_len _ _ _ _ _ _ h4
  cases h
  omega
theorem contW_len {o w : List Nat} {q : Nat} {c : Bytes} {r : Line × List Nat} {q' : Nat} {c' : Bytes} (h : contW o w q c = .ok (r, q', c')) : c'.length ≤ c.length := by
  unfold contW at h
  by_cases e1 : w = wAdd
  · rw [if_pos e1] at h
    exact atM_len h
  rw [if_neg e1] at h
  by_cases e1 : w = wTake
  · rw [if_pos e1] at h
    exact atM_len h
  rw [if_neg e1] at h
  by_cases e2 : w = wSet
  · rw [if_pos e2] at h
    obtain ⟨a, q1, c1, h1, h⟩ := bindX_inv h
    obtain ⟨a2, q2, c2, h2, h⟩ := bindX_inv h
    obtain ⟨a3, q3, c3, h3, h⟩ := bindX_inv h
    obtain ⟨a4, q4, c4, h4, h⟩ := bindX_inv h
    have l1 := head_len h1
    have l2 := expect_len _ _ _ _ _ _ h2
    have l3 := (ex_len h3).1
    have l4 := expect_len _ _ _ _ _ _ h4
    cases h
    omega
  rw [if_neg e2] at h
  by_cases e3 : w = wIf
  · rw [if_pos e3] at h
    obtain ⟨a, q1, c1, h1, h⟩ := bindX_inv h
    have l1 := tstF_len _ _ _ _ _ _ h1
    cases h
    omega
  rw [if_neg e3] at h
  by_cases e3 : w = wWhile
  · rw [if_pos e3] at h
    obtain ⟨a, q1, c1, h1, h⟩ := bindX_inv h
    have l1 := tstF_len _ _ _ _ _ _ h1
    cases h
    omega
  rw [if_neg e3] at h
  by_cases e4 : w = wElse
  · rw [if_pos e4] at h
    cases h
    exact Nat.le_refl _
  rw [if_neg e4] at h
  by_cases e5 : w = wEnd
  · rw [if_pos e5] at h
    cases h
    exact Nat.le_refl _
  rw [if_neg e5] at h
  by_cases e6 : w = wStop
  · rw [if_pos e6] at h
    cases h
    exact Nat.le_refl _
  rw [if_neg e6] at h
  cases h
  exact Nat.le_refl _
theorem words_done (o : List Nat) : done? (tag [] (lineWords o)) = none := by
  refine done_perm (words_perm o) (asks_ne sfx word fun x hx e => ?_)
  have h : ∀ y ∈ allW.map (·.1), y ≠ [] := by decide +kernel
  exact h x.1 (List.mem_map.mpr ⟨x, (words_sub o).mem hx, rfl⟩) e
theorem lineP_len {o : List Nat} {p : Nat} {b : Bytes} {o' : Line × List Nat} {q : Nat} {c : Bytes} (h : lineP o p b = .ok (o', q, c)) : c.length < b.length := by
  rw [lineP_eq] at h
  obtain ⟨w, q1, c1, h1, h⟩ := bindX_inv h
  have l1 := (munch_len _ _ _ _ _ _ h1).2 (words_done o)
  have l2 := contW_len h
  omega
theorem lineP_nil (o : List Nat) (p : Nat) : lineP o p [] = .error p := by
  rw [lineP_eq, munch, words_done]
  rfl
def consX (x : Line) (r : Except Nat Method) : Except Nat Method := match r with
  | .error k => .error k
  | .ok l => .ok (x :: l)
def preX (a : Method) (r : Except Nat Method) : Except Nat Method := match r with
  | .error k => .error k
  | .ok l => .ok (a ++ l)
theorem preX_cons (a : Method) (x : Line) (r : Except Nat Method) : preX a (consX x r) = preX (a ++ [x]) r := by
  cases r with
  | error k => rfl
  | ok l => exact congrArg Except.ok (by simp)
theorem lins_end (f : Nat) (p : Nat) : linesAt (f + 1) [] p [] = .ok [] := rfl
theorem lins_step (f : Nat) (o : List Nat) (p : Nat) (b : Bytes) (h : ¬ (b = [] ∧ o = [])) : linesAt (f + 1) o p b = bindX (lineP o p b) fun x q c => consX x.1 (linesAt f x.2 q c) := by
  cases b with
  | nil =>
    rw [lineP_nil]
    have ho : ¬ o.isEmpty = true := fun z => h ⟨rfl, List.isEmpty_iff.mp z⟩
    show (if o.isEmpty = true then _ else _) = _
    rw [if_neg ho]
    rfl
  | cons d l =>
    show (if (d :: l).isEmpty = true then _ else (lineAt o p (d :: l) >>= _)) = _
    rw [if_neg (show ¬ (d :: l).isEmpty = true from Bool.false_ne_true), bind_eq]
    unfold lineP
    rw [bindX_assoc]
    refine bindX_congr fun x q c _ => ?_
    rw [bind_eq, bindX_assoc]
    refine bindX_congr fun _ q c _ => ?_
    show (linesAt f (openBehind o x) q c >>= _) = consX x (linesAt f (openBehind o x) q c)
    cases linesAt f (openBehind o x) q c <;> rfl
/-- what the specification answers -/
def answer (t : Bytes) : List Int := if 4096 < t.length then [-6] else match readMethod t with
  | .error k => [-5, 11, (k : Int)]
  | .ok l => [(l.length : Int)]
def asInts (t : Bytes) : List Int := t.map fun c => ((c.toNat : Nat) : Int)
theorem ints_of {ns : List Int} (h : ∀ x ∈ ns, 0 ≤ x ∧ x ≤ 255) : asInts (ns.map fun n => UInt8.ofNat n.toNat) = ns := by
  unfold asInts
  rw [List.map_map]
  have : ∀ l : List Int, (∀ x ∈ l, 0 ≤ x ∧ x ≤ 255) → l.map ((fun c : UInt8 => ((c.toNat : Nat) : Int)) ∘ fun n => UInt8.ofNat n.toNat) = l := by
    intro l
    induction l with
    | nil => intro _; rfl
    | cons x r ih =>
      intro h
      rw [List.map_cons, ih fun y hy => h y (List.mem_cons_of_mem _ hy)]
      obtain ⟨h1, h2⟩ := h x List.mem_cons_self
      have e : (((UInt8.ofNat x.toNat).toNat : Nat) : Int) = x := by
        rw [UInt8.toNat_ofNat']
        have : x.toNat < 256 := by omega
        rw [Nat.mod_eq_of_lt (by simpa using this)]
        omega
      show (((UInt8.ofNat x.toNat).toNat : Nat) : Int) :: r = x :: r
      rw [e]
  exact this ns h
theorem spec_eq {ns : List Int} (h : ∀ x ∈ ns, 0 ≤ x ∧ x ≤ 255) : PyYqacda.method ns = answer (ns.map fun n => UInt8.ofNat n.toNat) := by
  have hb : NeutralIO.bytes ns = true := List.all_eq_true.mpr fun x hx => by
    obtain ⟨h1, h2⟩ := h x hx
    rw [decide_eq_true h1, decide_eq_true h2]
    rfl
  have e : MvNeutral.callOf [[1], ns] = some (.method (ns.map fun n => UInt8.ofNat n.toNat)) := by
    show (MvNeutral.bytesOf ns).map _ = _
    unfold MvNeutral.bytesOf
    rw [if_pos hb]
    rfl
  unfold PyYqacda.method MvNeutral.step
  rw [e]
  generalize (ns.map fun n => UInt8.ofNat n.toNat) = t
  show MvNeutral.told (if Mv.LONGEST < t.length then .refused 6 else Mv.withMethod t fun p => .number p.length) = answer t
  unfold answer
  by_cases h4 : 4096 < t.length
  · rw [if_pos h4, if_pos (show Mv.LONGEST < t.length from h4)]
    rfl
  · rw [if_neg h4, if_neg (show ¬ Mv.LONGEST < t.length from h4)]
    unfold Mv.withMethod
    cases readMethod t <;> rfl
end AbM

set_option linter.all false
/-! Of the specification alone: what a text that's read is: heads and marks below eight, numbers to 9,999, brackets to sixteen deep, ends where they belong. -/
namespace AbG
open Na
structure Fit (e : Ex) (d L : Nat) : Prop where
  ok : e.ok = true
  dep : e.depth + d ≤ OPEN
  lev : e.level ≤ L
theorem Fit.up {e : Ex} {d L M : Nat} (h : Fit e d L) (l : L ≤ M) : Fit e d M := ⟨h.ok, h.dep, Nat.le_trans h.lev l⟩
theorem digits_lt : ∀ (f n p : Nat) (b : Bytes), (digitsAt f n p b).1 < (n + 1) * 10 ^ f
  | 0, n, p, b => by
    show n < (n + 1) * 1
    omega
  | f + 1, n, p, [] => by
    show n < _
    have : 1 ≤ 10 ^ (f + 1) := Nat.one_le_pow _ _ (by decide)
    calc n < (n + 1) * 1 := by omega
      _ ≤ _ := Nat.mul_le_mul_left _ this
  | f + 1, n, p, c :: l => by
    show (if isDigit c = true then digitsAt f (10 * n + (c.toNat - 48)) (p + 1) l else (n, p, c :: l)).1 < _
    by_cases h : isDigit c = true
    · rw [if_pos h]
      have h2 : c.toNat ≤ 57 := by
        unfold isDigit at h
        rw [Bool.and_eq_true] at h
        exact of_decide_eq_true h.2
      calc (digitsAt f (10 * n + (c.toNat - 48)) (p + 1) l).1 < (10 * n + (c.toNat - 48) + 1) * 10 ^ f := digits_lt f _ _ _
        _ ≤ (10 * (n + 1)) * 10 ^ f := Nat.mul_le_mul_right _ (by omega)
        _ = (n + 1) * 10 ^ (f + 1) := by rw [Nat.pow_succ, Nat.mul_comm 10 (n + 1), Nat.mul_assoc, Nat.mul_comm 10]
    · rw [if_neg h]
      show n < _
      have : 1 ≤ 10 ^ (f + 1) := Nat.one_le_pow _ _ (by decide)
      calc n < (n + 1) * 1 := by omega
        _ ≤ _ := Nat.mul_le_mul_left _ this
theorem leaf {e : Ex} {d : Nat} (h : e.ok = true) (h0 : e.depth = 0) (h1 : e.level = 0) (hd : d ≤ OPEN) : Fit e d 0 := ⟨h, by omega, by omega⟩
structure All (f : Nat) : Prop where
  ex : ∀ d p b r, d ≤ OPEN → exAt f d p b = .ok r → Fit r.1 d 2
  sum : ∀ d x p b r, d ≤ OPEN → Fit x d 2 → sumAt f d x p b = .ok r → Fit r.1 d 2
  term : ∀ d p b r, d ≤ OPEN → termAt f d p b = .ok r → Fit r.1 d 1
  times : ∀ d x p b r, d ≤ OPEN → Fit x d 1 → timesAt f d x p b = .ok r → Fit r.1 d 1
  factor : ∀ d p b r, d ≤ OPEN → factorAt f d p b = .ok r → Fit r.1 d 0
theorem fit_two {g : Ex → Ex → Ex} {x y : Ex} {d L : Nat} (hx : x.depth + d ≤ OPEN) (hy : y.depth + d ≤ OPEN) (h : (g x y).depth = max x.depth y.depth) (ho : (g x y).ok = true) (hl : (g x y).level ≤ L) : Fit (g x y) d L := ⟨ho, by rw [h]; omega, hl⟩
theorem sum_rest {f d : Nat} {x : Ex} {p : Nat} {b : Bytes} {r : Ex × (Nat × Bytes)} (ih : All f) (hd : d ≤ OPEN) (hx : Fit x d 2) (h : sumAt (f + 1) d x p b = .ok r) : Fit r.1 d 2 := by
  unfold sumAt at h
  split at h
  · cases e : termAt f d (p + 1) ‹_› with
    | error k => rw [e] at h; cases h
    | ok y =>
      rw [e] at h
      have hy := ih.term _ _ _ _ hd e
      refine ih.sum _ _ _ _ _ hd (fit_two (g := .plus) hx.dep hy.dep rfl ?_ (Nat.le_refl 2)) h
      show (x.ok && (y.1.ok && decide (y.1.level ≤ 1))) = true
      rw [hx.ok, hy.ok, decide_eq_true hy.lev]
      rfl
  · cases e : termAt f d (p + 1) ‹_› with
    | error k => rw [e] at h; cases h
    | ok y =>
      rw [e] at h
      have hy := ih.term _ _ _ _ hd e
      refine ih.sum _ _ _ _ _ hd (fit_two (g := .minus) hx.dep hy.dep rfl ?_ (Nat.le_refl 2)) h
      show (x.ok && (y.1.ok && decide (y.1.level ≤ 1))) = true
      rw [hx.ok, hy.ok, decide_eq_true hy.lev]
      rfl
  · cases h
    exact hx
theorem times_rest {f d : Nat} {x : Ex} {p : Nat} {b : Bytes} {r : Ex × (Nat × Bytes)} (ih : All f) (hd : d ≤ OPEN) (hx : Fit x d 1) (h : timesAt (f + 1) d x p b = .ok r) : Fit r.1 d 1 := by
  unfold timesAt at h
  split at h
  · cases e : factorAt f d (p + 1) ‹_› with
    | error k => rw [e] at h; cases h
    | ok y =>
      rw [e] at h
      have hy := ih.factor _ _ _ _ hd e
      refine ih.times _ _ _ _ _ hd (fit_two (g := .times) hx.dep hy.dep rfl ?_ (Nat.le_refl 1)) h
      show (x.ok && (y.1.ok && (decide (x.level ≤ 1) && decide (y.1.level = 0)))) = true
      rw [hx.ok, hy.ok, decide_eq_true hx.lev, decide_eq_true (Nat.le_zero.mp hy.lev)]
      rfl
  · cases h
    exact hx
theorem factor_rest {f d p : Nat} {b : Bytes} {r : Ex × (Nat × Bytes)} (ih : All f) (hd : d ≤ OPEN) (h : factorAt (f + 1) d p b = .ok r) : Fit r.1 d 0 := by
  cases b with
  | nil =>
    unfold factorAt at h
    cases h
  | cons c l =>
    unfold factorAt at h
    dsimp only at h
    by_cases h1 : c = 48
    · rw [if_pos h1] at h
      cases h
      exact leaf rfl rfl rfl hd
    · rw [if_neg h1] at h
      by_cases h2 : isDigit c = true
      · rw [if_pos h2] at h
        cases h
        refine leaf (decide_eq_true ?_) rfl rfl hd
        have h3 : c.toNat ≤ 57 := by
          unfold isDigit at h2
          rw [Bool.and_eq_true] at h2
          exact of_decide_eq_true h2.2
        have := digits_lt 3 (c.toNat - 48) (p + 1) l
        omega
      · rw [if_neg h2] at h
        by_cases h3 : 97 ≤ c.toNat ∧ c.toNat ≤ 104
        · rw [if_pos h3] at h
          cases h
          exact leaf (decide_eq_true (by omega)) rfl rfl hd
        · rw [if_neg h3] at h
          by_cases h4 : 65 ≤ c.toNat ∧ c.toNat ≤ 72
          · rw [if_pos h4] at h
            cases h
            exact leaf (decide_eq_true (by omega)) rfl rfl hd
          · rw [if_neg h4] at h
            by_cases h5 : c = 91 ∨ c = 40
            · rw [if_pos h5] at h
              by_cases h6 : OPEN ≤ d
              · rw [if_pos h6] at h
                cases h
              · rw [if_neg h6] at h
                cases e : exAt f (d + 1) (p + 1) l with
                | error k => rw [e] at h; cases h
                | ok y =>
                  rw [e] at h
                  obtain ⟨x, q, rr⟩ := y
                  dsimp only at h
                  have hx := ih.ex (d + 1) _ _ _ (by omega) e
                  cases e2 : expect [if c = 91 then 93 else 41] q rr with
                  | error k => rw [e2] at h; cases h
                  | ok z =>
                    rw [e2] at h
                    obtain ⟨_, q2, r2⟩ := z
                    dsimp only at h
                    cases h
                    have hdep := hx.dep
                    dsimp only at hdep
                    by_cases h7 : c = 91
                    · show Fit (if c = 91 then .rod x else .par x) d 0
                      rw [if_pos h7]
                      exact ⟨hx.ok, by show x.depth + 1 + d ≤ _; omega, Nat.le_refl 0⟩
                    · show Fit (if c = 91 then .rod x else .par x) d 0
                      rw [if_neg h7]
                      exact ⟨hx.ok, by show x.depth + 1 + d ≤ _; omega, Nat.le_refl 0⟩
            · rw [if_neg h5] at h
              cases h
theorem all_fit : ∀ f, All f
  | 0 => ⟨fun _ _ _ _ _ h => (by unfold exAt at h; cases h), fun _ _ _ _ _ _ _ h => (by unfold sumAt at h; cases h), fun _ _ _ _ _ h => (by unfold termAt at h; cases h), fun _ _ _ _ _ _ _ h => (by unfold timesAt at h; cases h), fun _ _ _ _ _ h => (by unfold factorAt at h; cases h)⟩
  | f + 1 => by
    have ih := all_fit f
    refine ⟨fun d p b r hd h => ?_, fun d x p b r hd hx h => sum_rest ih hd hx h, fun d p b r hd h => ?_, fun d x p b r hd hx h => times_rest ih hd hx h, fun d p b r hd h => factor_rest ih hd h⟩
    · unfold exAt at h
      cases e : termAt f d p b with
      | error k => rw [e] at h; cases h
      | ok y =>
        rw [e] at h
        exact ih.sum _ _ _ _ _ hd ((ih.term _ _ _ _ hd e).up (by decide)) h
    · unfold termAt at h
      cases e : factorAt f d p b with
      | error k => rw [e] at h; cases h
      | ok y =>
        rw [e] at h
        exact ih.times _ _ _ _ _ hd ((ih.factor _ _ _ _ hd e).up (by decide)) h
theorem ex_good {p : Nat} {b : Bytes} {r : Ex × (Nat × Bytes)} (h : exHere p b = .ok r) : r.1.good = true := by
  have := (all_fit _).ex 0 p b r (Nat.zero_le _) h
  unfold Ex.good
  rw [this.ok, decide_eq_true (by have := this.dep; omega)]
  rfl
/-! ## tests, lines -/
theorem bind_ok {α β : Type} {x : Except Nat α} {g : α → Except Nat β} {r : β} (h : (x >>= g) = .ok r) : ∃ a, x = .ok a ∧ g a = .ok r := by
  cases x with
  | error k => cases h
  | ok a => exact ⟨a, rfl, h⟩
theorem test_good {p : Nat} {b : Bytes} {r : Test × (Nat × Bytes)} (h : testAt p b = .ok r) : (r.1.a.good && r.1.b.good) = true := by
  unfold testAt at h
  obtain ⟨x, ex, h⟩ := bind_ok h
  obtain ⟨c, ec, h⟩ := bind_ok h
  obtain ⟨y, ey, h⟩ := bind_ok h
  cases h
  show (x.1.good && y.1.good) = true
  rw [ex_good ex, ex_good ey]
  rfl
theorem tests_good : ∀ (f p : Nat) (b : Bytes) (r : List Test × (Nat × Bytes)), testsAt f p b = .ok r → goodTests r.1 = true
  | 0, _, _, _, h => by cases h
  | f + 1, p, b, r, h => by
    unfold testsAt at h
    obtain ⟨t, et, h⟩ := bind_ok h
    have ht := test_good et
    split at h
    · obtain ⟨w, ew, h⟩ := bind_ok h
      obtain ⟨r2, er, h⟩ := bind_ok h
      cases h
      have := tests_good f _ _ _ er
      unfold goodTests at this ⊢
      rw [Bool.and_eq_true] at this
      show (!(t.1 :: r2.1).isEmpty && ((t.1.a.good && t.1.b.good) && r2.1.all _)) = true
      rw [ht, this.2]
      rfl
    · cases h
      show (!([t.1] : List Test).isEmpty && ((t.1.a.good && t.1.b.good) && ([] : List Test).all _)) = true
      rw [ht]
      rfl
theorem head_lt {p : Nat} {b : Bytes} {r : Nat × (Nat × Bytes)} (h : headAt p b = .ok r) : r.1 < 8 := by
  unfold headAt at h
  split at h
  · split at h
    · cases h
      show _ - 97 < 8
      omega
    · cases h
  · cases h
theorem one_mem {α : Type} : ∀ (f : Nat) (ks : List (Bytes × α)) (p : Nat) (b : Bytes) (r : α × (Nat × Bytes)), oneOf f ks p b = .ok r → ∃ w, (w, r.1) ∈ ks
  | 0, _, _, _, _, h => by cases h
  | f + 1, ks, p, b, r, h => by
    unfold oneOf at h
    cases e : ks.find? fun (x : Bytes × α) => x.1.isEmpty with
    | some x =>
      rw [e] at h
      cases h
      exact ⟨x.1, List.mem_of_find?_eq_some e⟩
    | none =>
      rw [e] at h
      cases b with
      | nil => cases h
      | cons c l =>
        dsimp only at h
        split at h
        · cases h
        · obtain ⟨w, hw⟩ := one_mem f _ _ _ _ h
          rw [List.mem_filterMap] at hw
          obtain ⟨x, hx, hy⟩ := hw
          obtain ⟨xw, xa⟩ := x
          cases xw with
          | nil => cases hy
          | cons d r2 =>
            dsimp only at hy
            split at hy
            · cases hy
              exact ⟨_, hx⟩
            · cases hy
/-- what the words say of what is open -/
theorem words_say {o : List Nat} {w : Bytes} {k : Kw} (h : (w, k) ∈ words_ o) : (k = .if_ ∨ k = .while_ → o.length < OPEN) ∧ (k = .else_ → o.head? = some 1) ∧ (k = .end_ → o ≠ []) := by
  unfold words_ at h
  rw [List.mem_append, List.mem_append, List.mem_append] at h
  rcases h with h | h | h | h
  · have : k = .add ∨ k = .take ∨ k = .set ∨ k = .halt_ ∨ k = .fail := by
      simp only [List.mem_cons, Prod.mk.injEq, List.not_mem_nil, or_false] at h
      rcases h with ⟨_, h⟩ | ⟨_, h⟩ | ⟨_, h⟩ | ⟨_, h⟩ | ⟨_, h⟩ <;> simp [h]
    rcases this with rfl | rfl | rfl | rfl | rfl <;> exact ⟨fun h => (by rcases h with h | h <;> cases h), fun h => (by cases h), fun h => (by cases h)⟩
  · by_cases hl : o.length < OPEN
    · rw [if_pos hl] at h
      refine ⟨fun _ => hl, fun hk => ?_, fun hk => ?_⟩
      · subst hk
        simp at h
      · subst hk
        simp at h
    · rw [if_neg hl] at h
      cases h
  · by_cases hh : o.head? = some 1
    · rw [if_pos hh] at h
      have : k = .else_ := by simpa using (show k = .else_ from by simp only [List.mem_singleton, Prod.mk.injEq] at h; exact h.2)
      subst this
      exact ⟨fun h => (by rcases h with h | h <;> cases h), fun _ => hh, fun h => (by cases h)⟩
    · rw [if_neg hh] at h
      cases h
  · by_cases hh : o.isEmpty = true
    · rw [if_pos hh] at h
      cases h
    · rw [if_neg hh] at h
      have : k = .end_ := by simp only [List.mem_singleton, Prod.mk.injEq] at h; exact h.2
      subst this
      exact ⟨fun h => (by rcases h with h | h <;> cases h), fun h => (by cases h), fun _ => (by simpa using hh)⟩
theorem line_good {o : List Nat} {p : Nat} {b : Bytes} {r : Line × (Nat × Bytes)} (h : lineAt o p b = .ok r) : r.1.good = true ∧ ∀ m, nested m (openBehind o r.1) = true → nested (r.1 :: m) o = true := by
  unfold lineAt at h
  obtain ⟨k, ek, h⟩ := bind_ok h
  obtain ⟨w, hw⟩ := one_mem _ _ _ _ _ ek
  obtain ⟨wi, we, wn⟩ := words_say hw
  obtain ⟨kk, kp, kb⟩ := k
  cases kk with
  | add =>
    obtain ⟨e, ee, h⟩ := bind_ok h
    obtain ⟨w, _, h⟩ := bind_ok h
    obtain ⟨r, er, h⟩ := bind_ok h
    cases h
    refine ⟨?_, fun _ h => h⟩
    show (e.1.good && r.1.good) = true
    rw [ex_good ee, ex_good er]
    rfl
  | take =>
    obtain ⟨e, ee, h⟩ := bind_ok h
    obtain ⟨w, _, h⟩ := bind_ok h
    obtain ⟨r, er, h⟩ := bind_ok h
    cases h
    refine ⟨?_, fun _ h => h⟩
    show (e.1.good && r.1.good) = true
    rw [ex_good ee, ex_good er]
    rfl
  | set =>
    obtain ⟨hd, eh, h⟩ := bind_ok h
    obtain ⟨w, _, h⟩ := bind_ok h
    obtain ⟨e, ee, h⟩ := bind_ok h
    cases h
    refine ⟨?_, fun _ h => h⟩
    show (decide (hd.1 < 8) && e.1.good) = true
    rw [decide_eq_true (head_lt eh), ex_good ee]
    rfl
  | if_ =>
    obtain ⟨c, ec, h⟩ := bind_ok h
    cases h
    refine ⟨tests_good _ _ _ _ ec, fun m hm => ?_⟩
    show (decide (o.length < OPEN) && nested m (1 :: o)) = true
    rw [decide_eq_true (wi (.inl rfl))]
    exact hm
  | while_ =>
    obtain ⟨c, ec, h⟩ := bind_ok h
    cases h
    refine ⟨tests_good _ _ _ _ ec, fun m hm => ?_⟩
    show (decide (o.length < OPEN) && nested m (0 :: o)) = true
    rw [decide_eq_true (wi (.inr rfl))]
    exact hm
  | else_ =>
    cases h
    refine ⟨rfl, fun m hm => ?_⟩
    have h1 := we rfl
    cases o with
    | nil => cases h1
    | cons a o =>
      cases h1
      exact hm
  | end_ =>
    cases h
    refine ⟨rfl, fun m hm => ?_⟩
    have h1 := wn rfl
    cases o with
    | nil => exact absurd rfl h1
    | cons a o => exact hm
  | halt_ =>
    cases h
    exact ⟨rfl, fun _ h => h⟩
  | fail =>
    cases h
    exact ⟨rfl, fun _ h => h⟩
theorem lines_good : ∀ (f : Nat) (o : List Nat) (p : Nat) (b : Bytes) (m : Method), linesAt f o p b = .ok m → (∀ l ∈ m, Line.good l = true) ∧ nested m o = true
  | 0, _, _, _, _, h => by cases h
  | f + 1, o, p, b, m, h => by
    unfold linesAt at h
    split at h
    · split at h
      · cases h
        exact ⟨fun _ hl => absurd hl List.not_mem_nil, ‹_›⟩
      · cases h
    · obtain ⟨x, ex, h⟩ := bind_ok h
      obtain ⟨e, ee, h⟩ := bind_ok h
      obtain ⟨r, er, h⟩ := bind_ok h
      cases h
      obtain ⟨g1, g2⟩ := line_good ex
      obtain ⟨i1, i2⟩ := lines_good f _ _ _ _ er
      refine ⟨fun l hl => ?_, g2 _ i2⟩
      rcases List.mem_cons.mp hl with rfl | hl
      · exact g1
      · exact i1 l hl
theorem read_good {t : Bytes} {m : Method} (h : readMethod t = .ok m) : (∀ l ∈ m, Line.good l = true) ∧ nested m [] = true := lines_good _ _ _ _ _ h
end AbG

set_option linter.all false
namespace AbM
open Na

/-! ## An E sign by sign: what stands there as a list of numbers and signs -/
abbrev Tk := Sum Nat Nat
def lex1 : Bytes → Option (Tk × Bytes)
  | [] => none
  | c :: l => if c = 48 then some (.inl 0, l)
    else if isDigit c = true then some (.inl (digitsAt 3 (c.toNat - 48) 0 l).1, (digitsAt 3 (c.toNat - 48) 0 l).2.2)
    else some (.inr c.toNat, l)
theorem lex1_cons (c : UInt8) (l : Bytes) : lex1 (c :: l) = if c = 48 then some (.inl 0, l) else if isDigit c = true then some (.inl (digitsAt 3 (c.toNat - 48) 0 l).1, (digitsAt 3 (c.toNat - 48) 0 l).2.2) else some (.inr c.toNat, l) := rfl
inductive Lex : Bytes → List Tk → Bytes → Prop
  | nil (b : Bytes) : Lex b [] b
  | cons {b : Bytes} {k : Tk} {b' : Bytes} {L : List Tk} {c : Bytes} : lex1 b = some (k, b') → Lex b' L c → Lex b (k :: L) c
theorem Lex.append {b : Bytes} {L : List Tk} {c : Bytes} {M : List Tk} {d : Bytes} (h : Lex b L c) (g : Lex c M d) : Lex b (L ++ M) d := by
  induction h with
  | nil b => exact g
  | cons e _ ih => exact .cons e (ih g)
theorem Lex.one {b : Bytes} {k : Tk} {c : Bytes} (h : lex1 b = some (k, c)) : Lex b [k] c := .cons h (.nil _)
theorem lex1_len {b : Bytes} {k : Tk} {c : Bytes} (h : lex1 b = some (k, c)) : c.length < b.length := by
  cases b with
  | nil => cases h
  | cons d l =>
    rw [lex1_cons] at h
    by_cases h0 : d = 48
    · rw [if_pos h0] at h
      cases h
      exact Nat.lt_succ_self _
    · rw [if_neg h0] at h
      by_cases h1 : isDigit d = true
      · rw [if_pos h1] at h
        cases h
        exact Nat.lt_succ_of_le (digits_len _ _ _ _)
      · rw [if_neg h1] at h
        cases h
        exact Nat.lt_succ_self _
theorem Lex.len {b : Bytes} {L : List Tk} {c : Bytes} (h : Lex b L c) : c.length + L.length ≤ b.length := by
  induction h with
  | nil b => exact Nat.le_refl _
  | cons e _ ih =>
    have := lex1_len e
    rw [List.length_cons]
    omega
theorem Lex.det {b : Bytes} {L : List Tk} {c : Bytes} (h : Lex b L c) : ∀ {M : List Tk}, Lex b M c → L = M := by
  induction h with
  | nil b =>
    intro M g
    have := g.len
    cases M with
    | nil => rfl
    | cons k M => rw [List.length_cons] at this; omega
  | @cons b k b' L c e g ih =>
    intro M h2
    cases h2 with
    | nil _ =>
      have h1 := lex1_len e
      have h3 := g.len
      omega
    | cons e2 g2 =>
      rw [e] at e2
      cases e2
      rw [ih g2]
theorem digits_at : ∀ (n v p q : Nat) (b : Bytes), (digitsAt n v p b).1 = (digitsAt n v q b).1 ∧ (digitsAt n v p b).2.2 = (digitsAt n v q b).2.2
  | 0, v, p, q, b => ⟨rfl, rfl⟩
  | n + 1, v, p, q, [] => ⟨rfl, rfl⟩
  | n + 1, v, p, q, c :: l => by
    show (if isDigit c = true then digitsAt n (10 * v + (c.toNat - 48)) (p + 1) l else (v, p, c :: l)).1 = (if isDigit c = true then digitsAt n (10 * v + (c.toNat - 48)) (q + 1) l else (v, q, c :: l)).1 ∧
      (if isDigit c = true then digitsAt n (10 * v + (c.toNat - 48)) (p + 1) l else (v, p, c :: l)).2.2 = (if isDigit c = true then digitsAt n (10 * v + (c.toNat - 48)) (q + 1) l else (v, q, c :: l)).2.2
    by_cases h : isDigit c = true
    · rw [if_pos h, if_pos h]
      exact digits_at n _ _ _ l
    · rw [if_neg h, if_neg h]
      exact ⟨rfl, rfl⟩
theorem lex_sign {c : UInt8} {l : Bytes} (h : isDigit c = false) : lex1 (c :: l) = some (.inr c.toNat, l) := by
  rw [lex1_cons]
  have h0 : c ≠ 48 := fun e => by subst e; revert h; decide
  rw [if_neg h0, if_neg (by rw [h]; decide)]
def toks : Ex → List Tk
  | .num n => [.inl n]
  | .head k => [.inr (97 + k)]
  | .mark k => [.inr (65 + k)]
  | .rod e => .inr 91 :: (toks e ++ [.inr 93])
  | .par e => .inr 40 :: (toks e ++ [.inr 41])
  | .times a b => toks a ++ .inr 42 :: toks b
  | .plus a b => toks a ++ .inr 43 :: toks b
  | .minus a b => toks a ++ .inr 45 :: toks b
/-- in the order in which it is worked out -/
def post : Ex → List Tk
  | .num n => [.inl n]
  | .head k => [.inr (97 + k)]
  | .mark k => [.inr (65 + k)]
  | .rod e => post e ++ [.inr 91]
  | .par e => post e
  | .times a b => post a ++ (post b ++ [.inr 42])
  | .plus a b => post a ++ (post b ++ [.inr 43])
  | .minus a b => post a ++ (post b ++ [.inr 45])
theorem post_len : ∀ e : Ex, (post e).length ≤ (toks e).length
  | .num n => Nat.le_refl _
  | .head k => Nat.le_refl _
  | .mark k => Nat.le_refl _
  | .rod e => by
    have := post_len e
    simp only [post, toks, List.length_append, List.length_cons, List.length_nil]
    omega
  | .par e => by
    have := post_len e
    simp only [post, toks, List.length_append, List.length_cons, List.length_nil]
    omega
  | .times a b => by
    have := post_len a
    have := post_len b
    simp only [post, toks, List.length_append, List.length_cons, List.length_nil]
    omega
  | .plus a b => by
    have := post_len a
    have := post_len b
    simp only [post, toks, List.length_append, List.length_cons, List.length_nil]
    omega
  | .minus a b => by
    have := post_len a
    have := post_len b
    simp only [post, toks, List.length_append, List.length_cons, List.length_nil]
    omega
structure LexG (f : Nat) : Prop where
  ex : ∀ d p b x q c, exAt f d p b = .ok (x, q, c) → Lex b (toks x) c
  sum : ∀ d x p b x' q c, sumAt f d x p b = .ok (x', q, c) → ∃ L, toks x' = toks x ++ L ∧ Lex b L c
  term : ∀ d p b x q c, termAt f d p b = .ok (x, q, c) → Lex b (toks x) c
  times : ∀ d x p b x' q c, timesAt f d x p b = .ok (x', q, c) → ∃ L, toks x' = toks x ++ L ∧ Lex b L c
  fac : ∀ d p b x q c, factorAt f d p b = .ok (x, q, c) → Lex b (toks x) c
theorem expect1 {k : UInt8} {q : Nat} {r : Bytes} {u : Unit} {q' : Nat} {r' : Bytes} (h : expect [k] q r = .ok (u, q', r')) : r = k :: r' := by
  cases r with
  | nil => cases h
  | cons d l =>
    have h' : (if k = d then Except.ok ((), q + 1, l) else .error q) = .ok (u, q', r') := h
    by_cases e : k = d
    · rw [if_pos e] at h'
      cases h'
      rw [e]
    · rw [if_neg e] at h'
      cases h'
theorem lexG_zero : LexG 0 where
  ex := fun _ _ _ _ _ _ h => by rw [exAt] at h; cases h
  sum := fun _ _ _ _ _ _ _ h => by rw [sumAt] at h; cases h
  term := fun _ _ _ _ _ _ h => by rw [termAt] at h; cases h
  times := fun _ _ _ _ _ _ _ h => by rw [timesAt] at h; cases h
  fac := fun _ _ _ _ _ _ h => by rw [factorAt] at h; cases h
theorem lexG_succ {f : Nat} (G : LexG f) : LexG (f + 1) where
  ex := fun d p b x q c h => by
    rw [exAt] at h
    cases e : termAt f d p b with
    | error k => rw [e] at h; cases h
    | ok z =>
      obtain ⟨y, q1, c1⟩ := z
      rw [e] at h
      obtain ⟨L, e1, l1⟩ := G.sum _ _ _ _ _ _ _ h
      rw [e1]
      exact (G.term _ _ _ _ _ _ e).append l1
  term := fun d p b x q c h => by
    rw [termAt] at h
    cases e : factorAt f d p b with
    | error k => rw [e] at h; cases h
    | ok z =>
      obtain ⟨y, q1, c1⟩ := z
      rw [e] at h
      obtain ⟨L, e1, l1⟩ := G.times _ _ _ _ _ _ _ h
      rw [e1]
      exact (G.fac _ _ _ _ _ _ e).append l1
  sum := fun d x p b x' q c h => by
    unfold sumAt at h
    split at h
    · rename_i l
      cases e : termAt f d (p + 1) l with
      | error k => rw [e] at h; cases h
      | ok z =>
        obtain ⟨y, q1, c1⟩ := z
        rw [e] at h
        obtain ⟨L, e1, l1⟩ := G.sum _ _ _ _ _ _ _ h
        refine ⟨.inr 43 :: (toks y ++ L), ?_, .cons (lex_sign (by decide)) ((G.term _ _ _ _ _ _ e).append l1)⟩
        rw [e1]
        simp [toks]
    · rename_i l
      cases e : termAt f d (p + 1) l with
      | error k => rw [e] at h; cases h
      | ok z =>
        obtain ⟨y, q1, c1⟩ := z
        rw [e] at h
        obtain ⟨L, e1, l1⟩ := G.sum _ _ _ _ _ _ _ h
        refine ⟨.inr 45 :: (toks y ++ L), ?_, .cons (lex_sign (by decide)) ((G.term _ _ _ _ _ _ e).append l1)⟩
        rw [e1]
        simp [toks]
    · cases h
      exact ⟨[], by simp, .nil _⟩
  times := fun d x p b x' q c h => by
    unfold timesAt at h
    split at h
    · rename_i l
      cases e : factorAt f d (p + 1) l with
      | error k => rw [e] at h; cases h
      | ok z =>
        obtain ⟨y, q1, c1⟩ := z
        rw [e] at h
        obtain ⟨L, e1, l1⟩ := G.times _ _ _ _ _ _ _ h
        refine ⟨.inr 42 :: (toks y ++ L), ?_, .cons (lex_sign (by decide)) ((G.fac _ _ _ _ _ _ e).append l1)⟩
        rw [e1]
        simp [toks]
    · cases h
      exact ⟨[], by simp, .nil _⟩
  fac := fun d p b x q c h => by
    cases b with
    | nil =>
      unfold factorAt at h
      cases h
    | cons k l =>
      unfold factorAt at h
      dsimp only at h
      by_cases h0 : k = 48
      · rw [if_pos h0] at h
        cases h
        refine .one ?_
        rw [lex1_cons, if_pos h0]
      · rw [if_neg h0] at h
        by_cases h1 : isDigit k = true
        · rw [if_pos h1] at h
          have h' := Prod.mk.inj (Except.ok.inj h)
          have e1 : (digitsAt 3 (k.toNat - 48) (p + 1) l).2.2 = c := congrArg Prod.snd h'.2
          rw [← h'.1, ← e1]
          refine .one ?_
          show lex1 (k :: l) = some (Sum.inl (digitsAt 3 (k.toNat - 48) (p + 1) l).1, _)
          rw [lex1_cons, if_neg h0, if_pos h1, (digits_at 3 _ (p + 1) 0 l).1, (digits_at 3 _ (p + 1) 0 l).2]
        · rw [if_neg h1] at h
          have hs : lex1 (k :: l) = some (.inr k.toNat, l) := lex_sign (by simpa using h1)
          by_cases h2 : 97 ≤ k.toNat ∧ k.toNat ≤ 104
          · rw [if_pos h2] at h
            cases h
            refine .one ?_
            rw [hs]
            congr 3
            omega
          · rw [if_neg h2] at h
            by_cases h3 : 65 ≤ k.toNat ∧ k.toNat ≤ 72
            · rw [if_pos h3] at h
              cases h
              refine .one ?_
              rw [hs]
              congr 3
              omega
            · rw [if_neg h3] at h
              by_cases h4 : k = 91 ∨ k = 40
              · rw [if_pos h4] at h
                by_cases h5 : OPEN ≤ d
                · rw [if_pos h5] at h
                  cases h
                · rw [if_neg h5] at h
                  cases e : exAt f (d + 1) (p + 1) l with
                  | error j => rw [e] at h; cases h
                  | ok z =>
                    obtain ⟨y, q1, c1⟩ := z
                    rw [e] at h
                    dsimp only at h
                    cases e2 : expect [if k = 91 then 93 else 41] q1 c1 with
                    | error j => rw [e2] at h; cases h
                    | ok z2 =>
                      obtain ⟨u, q2, c2⟩ := z2
                      rw [e2] at h
                      have ec := expect1 e2
                      have lx := G.ex _ _ _ _ _ _ e
                      rcases h4 with h4 | h4
                      · subst h4
                        cases h
                        refine .cons hs (lx.append ?_)
                        rw [ec]
                        exact .one (lex_sign (by decide))
                      · subst h4
                        cases h
                        refine .cons hs (lx.append ?_)
                        rw [ec]
                        exact .one (lex_sign (by decide))
              · rw [if_neg h4] at h
                cases h
theorem lexG : ∀ f, LexG f
  | 0 => lexG_zero
  | f + 1 => lexG_succ (lexG f)
theorem ex_lex {p : Nat} {b : Bytes} {x : Ex} {q : Nat} {c : Bytes} (h : exHere p b = .ok (x, q, c)) : Lex b (toks x) c := (lexG _).ex _ _ _ _ _ _ h

/-! ## Put in order -/
def flush (ss : List Nat) : List Nat → List Tk → List Nat × List Tk
  | [], o => ([], o)
  | k :: w, o => if k ∈ ss then flush ss w (o ++ [.inr k]) else (k :: w, o)
abbrev all3 : List Nat := [42, 43, 45]
def step1 (k : Tk) (w : List Nat) (o : List Tk) : Option (List Nat × List Tk) := match k with
  | .inl n => some (w, o ++ [.inl n])
  | .inr c => if c = 40 ∨ c = 91 then some (c :: w, o)
    else if c = 41 ∨ c = 93 then (match (flush all3 w o).1 with
      | [] => none
      | k :: r => some (r, if k = 91 then (flush all3 w o).2 ++ [.inr 91] else (flush all3 w o).2))
    else if c = 42 then some (42 :: (flush [42] w o).1, (flush [42] w o).2)
    else if c = 43 ∨ c = 45 then some (c :: (flush all3 w o).1, (flush all3 w o).2)
    else some (w, o ++ [.inr c])
def steps : List Tk → List Nat → List Tk → Option (List Nat × List Tk)
  | [], w, o => some (w, o)
  | k :: l, w, o => (step1 k w o).bind fun s => steps l s.1 s.2
theorem steps_append : ∀ (l m : List Tk) (w : List Nat) (o : List Tk), steps (l ++ m) w o = (steps l w o).bind fun s => steps m s.1 s.2
  | [], m, w, o => rfl
  | k :: l, m, w, o => by
    show (step1 k w o).bind (fun s => steps (l ++ m) s.1 s.2) = ((step1 k w o).bind fun s => steps l s.1 s.2).bind _
    cases step1 k w o with
    | none => rfl
    | some s => exact steps_append l m s.1 s.2
/-- the sign that waits last is none of these -/
def Off (ss : List Nat) (w : List Nat) : Prop := ∀ k r, w = k :: r → k ∉ ss
theorem flush_all : ∀ (ss m w : List Nat) (o : List Tk), (∀ k ∈ m, k ∈ ss) → Off ss w → flush ss (m ++ w) o = (w, o ++ m.map .inr)
  | ss, [], w, o, _, hw => by
    cases w with
    | nil => simp [flush]
    | cons k r =>
      show (if k ∈ ss then _ else _) = _
      rw [if_neg (hw k r rfl)]
      simp
  | ss, k :: m, w, o, hm, hw => by
    show (if k ∈ ss then flush ss (m ++ w) (o ++ [.inr k]) else _) = _
    rw [if_pos (hm k List.mem_cons_self), flush_all ss m w _ (fun j hj => hm j (List.mem_cons_of_mem _ hj)) hw]
    simp
theorem off_cons {ss : List Nat} {k : Nat} {w : List Nat} (h : k ∉ ss) : Off ss (k :: w) := fun j r e => by
  cases e
  exact h
theorem off_nil {ss : List Nat} : Off ss [] := fun j r e => nomatch e
def P2 (e : Ex) : Prop := ∀ w o, Off all3 w → ∃ m o', steps (toks e) w o = some (m ++ w, o') ∧ o' ++ m.map .inr = o ++ post e ∧ ∀ k ∈ m, k ∈ all3
def P1 (e : Ex) : Prop := ∀ w o, Off [42] w → ∃ m o', steps (toks e) w o = some (m ++ w, o') ∧ o' ++ m.map .inr = o ++ post e ∧ ∀ k ∈ m, k ∈ [42]
def P0 (e : Ex) : Prop := ∀ w o, steps (toks e) w o = some (w, o ++ post e)
theorem P0.p1 {e : Ex} (h : P0 e) : P1 e := fun w o _ => ⟨[], _, h w o, by simp, fun k hk => nomatch hk⟩
theorem off_sub {w : List Nat} (h : Off all3 w) : Off [42] w := fun k r e z => h k r e (by
  have := List.mem_singleton.mp z
  subst this
  decide)
theorem P1.p2 {e : Ex} (h : P1 e) : P2 e := fun w o hw => by
  obtain ⟨m, o', h1, h2, h3⟩ := h w o (off_sub hw)
  exact ⟨m, o', h1, h2, fun k hk => by
    have := List.mem_singleton.mp (h3 k hk)
    subst this
    decide⟩
theorem step_let {c : Nat} (h : (97 ≤ c ∧ c ≤ 104) ∨ (65 ≤ c ∧ c ≤ 72)) (w : List Nat) (o : List Tk) : step1 (.inr c) w o = some (w, o ++ [.inr c]) := by
  show (if c = 40 ∨ c = 91 then _ else if c = 41 ∨ c = 93 then _ else if c = 42 then _ else if c = 43 ∨ c = 45 then _ else _) = _
  rw [if_neg (by omega), if_neg (by omega), if_neg (by omega), if_neg (by omega)]
theorem sum_p2 {a b : Ex} (c : Nat) (hc : c = 43 ∨ c = 45) (ha : P2 a) (hb : P1 b) (w : List Nat) (o : List Tk) (hw : Off all3 w) :
    ∃ m o', steps (toks a ++ .inr c :: toks b) w o = some (m ++ w, o') ∧ o' ++ m.map .inr = o ++ (post a ++ (post b ++ [.inr c])) ∧ ∀ k ∈ m, k ∈ all3 := by
  obtain ⟨m, o1, h1, h2, h3⟩ := ha w o hw
  rw [steps_append, h1]
  have hs : step1 (.inr c) (m ++ w) o1 = some (c :: w, o ++ post a) := by
    show (if c = 40 ∨ c = 91 then _ else if c = 41 ∨ c = 93 then _ else if c = 42 then _ else if c = 43 ∨ c = 45 then _ else _) = _
    rw [if_neg (by omega), if_neg (by omega), if_neg (by omega), if_pos hc, flush_all _ _ _ _ h3 hw, h2]
  have hn : c ∉ [42] := fun z => by
    have := List.mem_singleton.mp z
    omega
  obtain ⟨m2, o2, g1, g2, g3⟩ := hb (c :: w) (o ++ post a) (off_cons hn)
  refine ⟨m2 ++ [c], o2, ?_, ?_, fun k hk => ?_⟩
  · show (step1 (.inr c) (m ++ w) o1).bind (fun s => steps (toks b) s.1 s.2) = _
    rw [hs]
    show steps (toks b) (c :: w) (o ++ post a) = _
    rw [g1]
    simp
  · rw [List.map_append, ← List.append_assoc, g2]
    simp
  · rcases List.mem_append.mp hk with hk | hk
    · have := List.mem_singleton.mp (g3 k hk)
      subst this
      decide
    · have := List.mem_singleton.mp hk
      subst this
      rcases hc with e | e <;> (subst e; decide)
theorem br_p0 {e : Ex} (a z : Nat) (ha : a = 40 ∨ a = 91) (hz : z = 41 ∨ z = 93) (he : P2 e) (w : List Nat) (o : List Tk) :
    steps (.inr a :: (toks e ++ [.inr z])) w o = some (w, o ++ (if a = 91 then post e ++ [.inr 91] else post e)) := by
  have h1 : step1 (.inr a) w o = some (a :: w, o) := by
    show (if a = 40 ∨ a = 91 then _ else _) = _
    rw [if_pos ha]
  have hn : a ∉ all3 := fun h => by
    rcases ha with e | e <;> (subst e; revert h; decide)
  obtain ⟨m, o1, h2, h3, h4⟩ := he (a :: w) o (off_cons hn)
  show (step1 (.inr a) w o).bind (fun s => steps (toks e ++ [.inr z]) s.1 s.2) = _
  rw [h1]
  show steps (toks e ++ [.inr z]) (a :: w) o = _
  rw [steps_append, h2]
  show (step1 (.inr z) (m ++ a :: w) o1).bind (fun s => some s) = _
  have hs : step1 (.inr z) (m ++ a :: w) o1 = some (w, if a = 91 then (o ++ post e) ++ [.inr 91] else o ++ post e) := by
    show (if z = 40 ∨ z = 91 then _ else if z = 41 ∨ z = 93 then _ else _) = _
    rw [if_neg (by omega), if_pos hz, flush_all _ _ _ _ h4 (off_cons hn), h3]
  rw [hs]
  by_cases h : a = 91
  · rw [if_pos h, if_pos h]
    simp
  · rw [if_neg h, if_neg h]
    rfl
theorem order : ∀ (e : Ex), e.ok = true → (e.level = 0 → P0 e) ∧ (e.level ≤ 1 → P1 e) ∧ P2 e
  | .num n, _ => by
    have h : P0 (.num n) := fun w o => rfl
    exact ⟨fun _ => h, fun _ => h.p1, h.p1.p2⟩
  | .head k, hk => by
    have hk8 : k < 8 := of_decide_eq_true hk
    have h : P0 (.head k) := fun w o => by
      show (step1 (.inr (97 + k)) w o).bind (fun s => some s) = _
      rw [step_let (by omega)]
      rfl
    exact ⟨fun _ => h, fun _ => h.p1, h.p1.p2⟩
  | .mark k, hk => by
    have hk8 : k < 8 := of_decide_eq_true hk
    have h : P0 (.mark k) := fun w o => by
      show (step1 (.inr (65 + k)) w o).bind (fun s => some s) = _
      rw [step_let (by omega)]
      rfl
    exact ⟨fun _ => h, fun _ => h.p1, h.p1.p2⟩
  | .rod e, hk => by
    have h : P0 (.rod e) := fun w o => by
      have := br_p0 91 93 (.inr rfl) (.inr rfl) (order e hk).2.2 w o
      rw [if_pos rfl] at this
      exact this
    exact ⟨fun _ => h, fun _ => h.p1, h.p1.p2⟩
  | .par e, hk => by
    have h : P0 (.par e) := fun w o => by
      have := br_p0 40 41 (.inl rfl) (.inl rfl) (order e hk).2.2 w o
      rw [if_neg (by decide)] at this
      exact this
    exact ⟨fun _ => h, fun _ => h.p1, h.p1.p2⟩
  | .times a b, hk => by
    have hk' : (a.ok && (b.ok && (decide (a.level ≤ 1) && decide (b.level = 0)))) = true := hk
    simp only [Bool.and_eq_true, decide_eq_true_eq] at hk'
    obtain ⟨k1, k2, k3, k4⟩ := hk'
    have h : P1 (.times a b) := fun w o hw => by
      obtain ⟨m, o1, h1, h2, h3⟩ := (order a k1).2.1 k3 w o hw
      have h0 := (order b k2).1 k4
      refine ⟨[42], o ++ (post a ++ post b), ?_, by simp [post], fun k hk => hk⟩
      show steps (toks a ++ .inr 42 :: toks b) w o = _
      rw [steps_append, h1]
      have hs : step1 (.inr 42) (m ++ w) o1 = some (42 :: w, o ++ post a) := by
        show some (42 :: (flush [42] (m ++ w) o1).1, (flush [42] (m ++ w) o1).2) = _
        rw [flush_all _ _ _ _ h3 hw, h2]
      show (step1 (.inr 42) (m ++ w) o1).bind (fun s => steps (toks b) s.1 s.2) = _
      rw [hs]
      show steps (toks b) (42 :: w) (o ++ post a) = _
      rw [h0]
      simp
    exact ⟨fun z => absurd (show (1 : Nat) = 0 from z) (by decide), fun _ => h, h.p2⟩
  | .plus a b, hk => by
    have hk' : (a.ok && (b.ok && decide (b.level ≤ 1))) = true := hk
    simp only [Bool.and_eq_true, decide_eq_true_eq] at hk'
    exact ⟨fun z => absurd (show (2 : Nat) = 0 from z) (by decide), fun z => absurd (show (2 : Nat) ≤ 1 from z) (by decide), fun w o hw => sum_p2 43 (.inl rfl) (order a hk'.1).2.2 ((order b hk'.2.1).2.1 hk'.2.2) w o hw⟩
  | .minus a b, hk => by
    have hk' : (a.ok && (b.ok && decide (b.level ≤ 1))) = true := hk
    simp only [Bool.and_eq_true, decide_eq_true_eq] at hk'
    exact ⟨fun z => absurd (show (2 : Nat) = 0 from z) (by decide), fun z => absurd (show (2 : Nat) ≤ 1 from z) (by decide), fun w o hw => sum_p2 45 (.inr rfl) (order a hk'.1).2.2 ((order b hk'.2.1).2.1 hk'.2.2) w o hw⟩
/-- all put in order -/
theorem order_all {e : Ex} (h : e.ok = true) : ∃ w o, steps (toks e) [] [] = some (w, o) ∧ flush all3 w o = ([], post e) := by
  obtain ⟨m, o, h1, h2, h3⟩ := (order e h).2.2 [] [] off_nil
  refine ⟨m ++ [], o, h1, ?_⟩
  rw [flush_all _ _ _ _ h3 off_nil, h2]
  rfl
end AbM

set_option linter.all false
namespace AbM
open Na
def digs : Nat → Nat → Bytes → Nat × Bytes
  | 0, p, b => (p, b)
  | n + 1, p, c :: l => if isDigit c = true then digs n (p + 1) l else (p, c :: l)
  | n + 1, p, [] => (p, [])
theorem digs_stop {n p : Nat} {b : Bytes} (h : n = 0 ∨ ∀ c l, b = c :: l → isDigit c = false) : digs n p b = (p, b) := by
  cases n with
  | zero => rfl
  | succ n =>
    cases b with
    | nil => rfl
    | cons c l =>
      have hc : ¬ isDigit c = true := by
        rcases h with h | h
        · cases h
        · rw [h c l rfl]
          exact Bool.false_ne_true
      show (if isDigit c = true then _ else _) = _
      rw [if_neg hc]
theorem digs_go {n p : Nat} {c : UInt8} {l : Bytes} (h : isDigit c = true) : digs (n + 1) p (c :: l) = digs n (p + 1) l := if_pos h
theorem scan_digs : ∀ (n p : Nat) (b : Bytes) (cs : List UInt8), scan b (.d n) cs p = aft cs (digs n p b).1 (digs n p b).2
  | 0, p, b, cs => rfl
  | n + 1, p, [], cs => rfl
  | n + 1, p, c :: l, cs => by
    by_cases h : isDigit c = true
    · rw [digs_go h, ← scan_digs n (p + 1) l cs]
      show (if isDigit c = true ∧ 0 < n + 1 then _ else _) = _
      rw [if_pos ⟨h, Nat.succ_pos n⟩]
      rfl
    · have e : digs (n + 1) p (c :: l) = (p, c :: l) := if_neg h
      rw [e]
      show (if isDigit c = true ∧ 0 < n + 1 then _ else _) = (if isDigit c = true ∧ 0 < 0 then _ else _)
      rw [if_neg (fun x : isDigit c = true ∧ 0 < n + 1 => h x.1), if_neg (fun x : isDigit c = true ∧ 0 < 0 => h x.1)]
def numM (p : Nat) : Bytes → Except Nat (Tk × (Nat × Bytes))
  | [] => .error p
  | c :: l => if c = 48 then .ok (.inl 0, p + 1, l) else if isDigit c = true then .ok (.inl (digitsAt 3 (c.toNat - 48) 0 l).1, digs 3 (p + 1) l) else if isLet c = true then .ok (.inr c.toNat, p + 1, l) else .error p
theorem numM_cons (p : Nat) (c : UInt8) (l : Bytes) : numM p (c :: l) = if c = 48 then .ok (.inl 0, p + 1, l) else if isDigit c = true then .ok (.inl (digitsAt 3 (c.toNat - 48) 0 l).1, digs 3 (p + 1) l) else if isLet c = true then .ok (.inr c.toNat, p + 1, l) else .error p := rfl
theorem digs_digits : ∀ (n v p q : Nat) (b : Bytes), (digs n p b).2 = (digitsAt n v q b).2.2
  | 0, v, p, q, b => rfl
  | n + 1, v, p, q, [] => rfl
  | n + 1, v, p, q, c :: l => by
    show (if isDigit c = true then digs n (p + 1) l else (p, c :: l)).2 = (if isDigit c = true then digitsAt n (10 * v + (c.toNat - 48)) (q + 1) l else (v, q, c :: l)).2.2
    by_cases h : isDigit c = true
    · rw [if_pos h, if_pos h]
      exact digs_digits n _ _ _ l
    · rw [if_neg h, if_neg h]
theorem let_not {c : UInt8} (h : ¬ isDigit c = true) : isDigit c = false := by simpa using h
theorem numM_lex {p : Nat} {b : Bytes} {k : Tk} {q : Nat} {c : Bytes} (h : numM p b = .ok (k, q, c)) : lex1 b = some (k, c) := by
  cases b with
  | nil => cases h
  | cons d l =>
    rw [numM_cons] at h
    rw [lex1_cons]
    by_cases h0 : d = 48
    · rw [if_pos h0] at h ⊢
      cases h
      rfl
    · rw [if_neg h0] at h ⊢
      by_cases h1 : isDigit d = true
      · rw [if_pos h1] at h ⊢
        have h' := Prod.mk.inj (Except.ok.inj h)
        have e2 : (digs 3 (p + 1) l).2 = c := congrArg Prod.snd h'.2
        rw [← h'.1, ← e2, digs_digits 3 (d.toNat - 48) (p + 1) 0 l]
      · rw [if_neg h1] at h ⊢
        by_cases h2 : isLet d = true
        · rw [if_pos h2] at h
          cases h
          rfl
        · rw [if_neg h2] at h
          cases h
theorem br_not {c : UInt8} (h : isBr c = true) : c ≠ 48 ∧ isDigit c = false ∧ isLet c = false := by
  unfold isBr at h
  rcases (Bool.or_eq_true _ _).mp h with e | e <;> (rw [beq_iff_eq] at e; subst e; decide)
theorem scan_num {p : Nat} {b : Bytes} {cs : List UInt8} (h : cs.length < 16 → ∀ c l, b = c :: l → isBr c = false) : scan b .f cs p = bindX (numM p b) fun _ q c => aft cs q c := by
  cases b with
  | nil => rfl
  | cons c l =>
    have sc : scan (c :: l) .f cs p = if isBr c = true then (if cs.length < 16 then scan l .f (closer c :: cs) (p + 1) else .error p)
      else if c = 48 then scan l (.d 0) cs (p + 1)
      else if isDigit c = true then scan l (.d 3) cs (p + 1)
      else if isLet c = true then scan l (.d 0) cs (p + 1)
      else .error p := rfl
    rw [sc]
    by_cases hb : isBr c = true
    · have hl : ¬ cs.length < 16 := fun z => by
        rw [h z c l rfl] at hb
        cases hb
      obtain ⟨b1, b2, b3⟩ := br_not hb
      rw [if_pos hb, if_neg hl]
      rw [numM_cons]
      rw [if_neg b1, if_neg (by rw [b2]; exact Bool.false_ne_true), if_neg (by rw [b3]; exact Bool.false_ne_true)]
      rfl
    · rw [if_neg hb]
      rw [numM_cons]
      by_cases h1 : c = 48
      · rw [if_pos h1, if_pos h1]
        rfl
      · rw [if_neg h1, if_neg h1]
        by_cases h2 : isDigit c = true
        · rw [if_pos h2, if_pos h2]
          exact scan_digs 3 (p + 1) l cs
        · rw [if_neg h2, if_neg h2]
          by_cases h3 : isLet c = true
          · rw [if_pos h3, if_pos h3]
            rfl
          · rw [if_neg h3, if_neg h3]
            rfl
theorem scan_open {p : Nat} {c : UInt8} {l : Bytes} {cs : List UInt8} (h : isBr c = true) (hl : cs.length < 16) : scan (c :: l) .f cs p = scan l .f (closer c :: cs) (p + 1) := by
  show (if isBr c = true then (if cs.length < 16 then _ else _) else _) = _
  rw [if_pos h, if_pos hl]
theorem aft_shut {p : Nat} {k : UInt8} {l : Bytes} {r : List UInt8} : aft (k :: r) p (k :: l) = aft r (p + 1) l := by
  have hd : ¬ (isDigit k = true ∧ 0 < 0) := fun x => absurd x.2 (Nat.lt_irrefl _)
  show (if isDigit k = true ∧ 0 < 0 then _ else if k = k then _ else _) = _
  rw [if_neg hd, if_pos rfl]
theorem aft_stuck {p : Nat} {b : Bytes} {k : UInt8} {r : List UInt8} (h : ∀ c l, b = c :: l → c ≠ k ∧ isOp c = false) : aft (k :: r) p b = .error p := by
  cases b with
  | nil => rfl
  | cons c l =>
    obtain ⟨h1, h2⟩ := h c l rfl
    have hd : ¬ (isDigit c = true ∧ 0 < 0) := fun x => absurd x.2 (Nat.lt_irrefl _)
    show (if isDigit c = true ∧ 0 < 0 then _ else if c = k then _ else if isOp c = true then _ else _) = _
    rw [if_neg hd, if_neg h1, if_neg (by rw [h2]; exact Bool.false_ne_true)]
theorem aft_out {p : Nat} {b : Bytes} (h : ∀ c l, b = c :: l → isOp c = false) : aft [] p b = .ok (p, b) := by
  cases b with
  | nil => rfl
  | cons c l =>
    have h2 := h c l rfl
    have hd : ¬ (isDigit c = true ∧ 0 < 0) := fun x => absurd x.2 (Nat.lt_irrefl _)
    show (if isDigit c = true ∧ 0 < 0 then _ else if isOp c = true then _ else _) = _
    rw [if_neg hd, if_neg (by rw [h2]; exact Bool.false_ne_true)]
theorem ex_of_error {p k : Nat} {b : Bytes} (h : scan b .f [] p = .error k) : exHere p b = .error k := by
  cases e : exHere p b with
  | error j =>
    rw [scan_error e] at h
    cases h
    rfl
  | ok z =>
    obtain ⟨x, q, c⟩ := z
    rw [scan_ok e] at h
    cases h
theorem ex_of_ok {p q : Nat} {b c : Bytes} (h : scan b .f [] p = .ok (q, c)) : ∃ x, exHere p b = .ok (x, q, c) := by
  cases e : exHere p b with
  | error j =>
    rw [scan_error e] at h
    cases h
  | ok z =>
    obtain ⟨x, q', c'⟩ := z
    rw [scan_ok e] at h
    cases h
    exact ⟨x, rfl⟩
theorem isOp_iff (c : UInt8) : isOp c = true ↔ c.toNat ∈ [43, 45, 42] := by
  have h1 : c = 43 ↔ c.toNat = 43 := ⟨fun z => by rw [z]; rfl, fun z => UInt8.toNat_inj.mp z⟩
  have h2 : c = 45 ↔ c.toNat = 45 := ⟨fun z => by rw [z]; rfl, fun z => UInt8.toNat_inj.mp z⟩
  have h3 : c = 42 ↔ c.toNat = 42 := ⟨fun z => by rw [z]; rfl, fun z => UInt8.toNat_inj.mp z⟩
  unfold isOp
  simp only [Bool.or_eq_true, beq_iff_eq, List.mem_cons, List.not_mem_nil, or_false, h1, h2, h3]
theorem isBr_iff (c : UInt8) : isBr c = true ↔ c.toNat ∈ [91, 40] := by
  have h1 : c = 91 ↔ c.toNat = 91 := ⟨fun z => by rw [z]; rfl, fun z => UInt8.toNat_inj.mp z⟩
  have h2 : c = 40 ↔ c.toNat = 40 := ⟨fun z => by rw [z]; rfl, fun z => UInt8.toNat_inj.mp z⟩
  unfold isBr
  simp only [Bool.or_eq_true, beq_iff_eq, List.mem_cons, List.not_mem_nil, or_false, h1, h2]
abbrev nDig : List Nat := [48, 49, 50, 51, 52, 53, 54, 55, 56, 57]
abbrev nHead : List Nat := [97, 98, 99, 100, 101, 102, 103, 104]
abbrev nMark : List Nat := [65, 66, 67, 68, 69, 70, 71, 72]
theorem isDigit_iff (c : UInt8) : isDigit c = true ↔ c.toNat ∈ nDig := by
  unfold isDigit
  simp only [Bool.and_eq_true, decide_eq_true_eq, List.mem_cons, List.not_mem_nil, or_false]
  omega
theorem isLet_iff (c : UInt8) : isLet c = true ↔ c.toNat ∈ nHead ++ nMark := by
  unfold isLet
  simp only [Bool.and_eq_true, Bool.or_eq_true, decide_eq_true_eq, List.mem_append, List.mem_cons, List.not_mem_nil, or_false]
  omega
theorem digs_len : ∀ (n p : Nat) (b : Bytes), ∃ k, (digs n p b).1 = p + k ∧ (digs n p b).2 = b.drop k
  | 0, p, b => ⟨0, rfl, rfl⟩
  | n + 1, p, [] => ⟨0, rfl, rfl⟩
  | n + 1, p, c :: l => by
    by_cases h : isDigit c = true
    · rw [digs_go h]
      obtain ⟨k, h1, h2⟩ := digs_len n (p + 1) l
      exact ⟨k + 1, by omega, h2⟩
    · have e : digs (n + 1) p (c :: l) = (p, c :: l) := if_neg h
      rw [e]
      exact ⟨0, rfl, rfl⟩
end AbM

set_option Elab.async false
set_option linter.all false
set_option maxRecDepth 100000
set_option maxHeartbeats 2000000
namespace Ab
open PySem PySem.Spec PyProof.Rows L2 AbM
open Na (Bytes)

/-! ### values, objects -/
abbrev S (l : List Nat) : Str := ⟨l.toArray⟩
abbrev sgV (c : Nat) : V := .str ⟨#[c]⟩
abbrev stV (w : List Nat) : V := .str (S w)
abbrev bs (t : Bytes) : List V := t.map fun c => V.int ((c.toNat : Nat) : Int)
abbrev fsR (ta : Addr) (p : Nat) : List (Str × V) := [(("text" : Str), .ref ta), (("place" : Str), .int (p : Int))]
abbrev nmF (n : Addr) : List (Str × V) := [(("numbers" : Str), .ref n)]
/-- what a fault of a method answers -/
abbrev ftL (k : Nat) : List V := [.int (-5), .int 11, .int (k : Int)]
/-- the reader at r has read p bytes of t -/
structure At (K : PySem.W.Frag) (CR r dx ta : Addr) (t : Bytes) (H : Hp) (p : Nat) : Prop where
  ob : H r = some (.ins CR dx (fsR ta p))
  tx : SqL K H ta (bs t)
  le : p ≤ t.length
  sz : t.length ≤ 5000
/-- all but two objects stands -/
def Only (r c : Addr) (H H' : Hp) : Prop := ∀ b o, b ≠ r → b ≠ c → H b = some o → H' b = some o
theorem Only.refl {r c : Addr} {H : Hp} : Only r c H H := fun _ _ _ _ h => h
theorem Only.trans {r c : Addr} {H H1 H2 : Hp} (a : Only r c H H1) (b : Only r c H1 H2) : Only r c H H2 := fun x o h1 h2 h => b x o h1 h2 (a x o h1 h2 h)
theorem Only.same {r c : Addr} {H H1 : Hp} (a : Same H H1) : Only r c H H1 := fun x o _ _ h => a x o h
theorem Only.wide {r c : Addr} {H H1 : Hp} (a : Only r r H H1) : Only r c H H1 := fun x o h1 _ h => a x o h1 h1 h
theorem Only.upd {r c : Addr} {H : Hp} {o : HO} : Only r c H (upd H r o) := fun x u h1 _ h => by
  rw [upd_ne h1]
  exact h
theorem Only.updc {r c : Addr} {H : Hp} {o : HO} : Only r c H (L2.upd H c o) := fun x u _ h2 h => by
  rw [upd_ne h2]
  exact h
theorem same_upd {H : Hp} {p : Addr} {o : HO} (h : H p = none) : Same H (upd H p o) := fun b x e => by
  rw [upd_ne (ne_of_none e h)]
  exact e
theorem seq_upd {K : PySem.W.Frag} {H : Hp} {a b : Addr} {o : HO} {xs : List V} (h : SqL K H a xs) (n : a ≠ b) : SqL K (upd H b o) a xs := by
  rcases h with (h | ⟨u, h⟩) | h
  · exact .inl (.inl (by rw [upd_ne n]; exact h))
  · exact .inl (.inr ⟨u, by rw [upd_ne n]; exact h⟩)
  · exact .inr h
/-- a list is no instance -/
theorem seq_upd_ins {K : PySem.W.Frag} {H : Hp} {a r C dx : Addr} {fs : List (Str × V)} {o : HO} {xs : List V} (h : SqL K H a xs) (e : H r = some (.ins C dx fs)) : SqL K (upd H r o) a xs := by
  rcases h with (h | ⟨u, h⟩) | h
  · exact .inl (.inl (by rw [upd_ne (ne_of h e (by intro z; cases z))]; exact h))
  · exact .inl (.inr ⟨u, by rw [upd_ne (ne_of h e (by intro z; cases z))]; exact h⟩)
  · exact .inr h
/-- the list at a is not the object at c, or it stands in the written part -/
def Apart (K : PySem.W.Frag) (a c : Addr) (xs : List V) : Prop := a ≠ c ∨ ∀ H, SqL K H a xs
theorem Apart.new {K : PySem.W.Frag} {H : Hp} {a c : Addr} {xs : List V} (h : SqL K H a xs) (n : H c = none) : Apart K a c xs := by
  rcases h with (h | ⟨u, h⟩) | h
  · exact .inl (ne_of_none h n)
  · exact .inl (ne_of_none h n)
  · exact .inr fun _ => .inr h
theorem Apart.upd {K : PySem.W.Frag} {H : Hp} {a c : Addr} {o : HO} {xs : List V} (x : Apart K a c xs) (h : SqL K H a xs) : SqL K (upd H c o) a xs := x.elim (seq_upd h) fun k => k _
theorem seq_only1 {K : PySem.W.Frag} {H H' : Hp} {a r C dx : Addr} {fs : List (Str × V)} {xs : List V} (h : SqL K H a xs) (e : H r = some (.ins C dx fs)) (k : Only r r H H') : SqL K H' a xs := by
  rcases h with (h | ⟨u, h⟩) | h
  · have n := ne_of h e (by intro z; cases z)
    exact .inl (.inl (k _ _ n n h))
  · have n := ne_of h e (by intro z; cases z)
    exact .inl (.inr ⟨u, k _ _ n n h⟩)
  · exact .inr h
section
variable {K : PySem.W.Frag} {CR r dx ta : Addr} {t : Bytes} {H H' : Hp} {p : Nat}
theorem At.same (a : At K CR r dx ta t H p) (s : Same H H') : At K CR r dx ta t H' p := ⟨s _ _ a.ob, s.seq a.tx, a.le, a.sz⟩
theorem At.put (a : At K CR r dx ta t H p) {q : Nat} (h : q ≤ t.length) : At K CR r dx ta t (upd H r (.ins CR dx (fsR ta q))) q := ⟨upd_same, seq_upd_ins a.tx a.ob, h, a.sz⟩
theorem At.updc (a : At K CR r dx ta t H p) {c : Addr} {o : HO} (h1 : r ≠ c) (h2 : Apart K ta c (bs t)) : At K CR r dx ta t (upd H c o) p := ⟨by rw [upd_ne h1]; exact a.ob, h2.upd a.tx, a.le, a.sz⟩
end
theorem put_place (ta : Addr) (p q : Nat) : putF "place" (.int (q : Int)) (fsR ta p) = fsR ta q := by rfl
theorem look_place (ta : Addr) (p : Nat) : (fsR ta p).lookup ("place" : Str) = some (.int (p : Int)) := by rfl
theorem look_text (ta : Addr) (p : Nat) : (fsR ta p).lookup ("text" : Str) = some (.ref ta) := by rfl
/-- how a reader's call ends: with the fault's place, or with what is read -/
def Out {α : Type} (K : PySem.W.Frag) (CR CF r dx ta : Addr) (t : Bytes) (res : Except Nat (α × (Nat × Bytes))) (H : Hp) (c : Addr) (val : α → Hp → V → Prop) (Q : VK) (E : XK) : Prop :=
  (∀ k, res = .error k → ∀ (d n : Addr) (H' : Hp), H' d = some (.xd (nmF n)) → H' n = some (.lst (ftL k)) → E (.ref CF) (some d) H') ∧
  ∀ a q, res = .ok (a, q, t.drop q) → ∀ (H' : Hp) (v : V), val a H' v → At K CR r dx ta t H' q → Only r c H H' → Q v H'
/-- some signs, a text or a list of texts of one sign -/
def SigV (K : PySem.W.Frag) (H : Hp) (v : V) (cs : List Nat) : Prop := v = .str (S cs) ∨ ∃ a, v = .ref a ∧ SqL K H a (cs.map sgV)
theorem SigV.same {K : PySem.W.Frag} {H H' : Hp} {v : V} {cs : List Nat} (h : SigV K H v cs) (s : Same H H') : SigV K H' v cs := h.elim .inl fun ⟨a, e, q⟩ => .inr ⟨a, e, s.seq q⟩
def showsM (cs : List Nat) : Bytes → Bool
  | [] => false
  | c :: _ => decide (c.toNat ∈ cs)
def signM (cs : List Nat) (p : Nat) : Bytes → Except Nat (Nat × (Nat × Bytes))
  | [] => .error p
  | c :: l => if c.toNat ∈ cs then .ok (c.toNat, p + 1, l) else .error p

/-! ### the promises -/
/-- Refusal's __init__, of an exception that is being made -/
def spBI (K : PySem.W.Frag) : Sp := fun vs H Q _ => ∃ (a C : Addr) (x : V), vs = [.ref a, x] ∧ OexC K C ∧ PySem.W.findIn K (.ref C) "numbers" = some none ∧ H a = some (exo a C none) ∧
  ∀ (d : Addr) (H' : Hp), H d = none → d ≠ a → H' a = some (exo a C (some d)) → H' d = some (exd d [(("numbers" : Str), x)]) → (∀ b o, b ≠ a → H b = some o → H' b = some o) → Q .non H'
/-- an own __init__ that hands these numbers on -/
def Own (C : Addr) (ls : List V) (a : Addr) (H : Hp) (Q : VK) : Prop := H a = some (exo a C none) ∧
  ∀ (d n : Addr) (H' : Hp), H d = none → d ≠ a → n ≠ a → n ≠ d → H' a = some (exo a C (some d)) → H' d = some (exd d (nmF n)) → H' n = some (.lst ls) → Q .non H'
def spFI (CF : Addr) : Sp := fun vs H Q _ => ∃ (a : Addr) (r k : Int), vs = [.ref a, .int r, .int k] ∧ Own CF [.int (-5), .int r, .int k] a H Q
def spLI (CL : Addr) : Sp := fun vs H Q _ => ∃ (a : Addr), vs = [.ref a] ∧ Own CL [.int (-6)] a H Q
def spRI (CR : Addr) : Sp := fun vs H Q _ => ∃ (r ta dx : Addr), vs = [.ref r, .ref ta] ∧ H r = some (.ins CR dx []) ∧ ∀ H', Only r r H H' → H' r = some (.ins CR dx (fsR ta 0)) → Q .non H'
def spEn (K : PySem.W.Frag) (CR : Addr) : Sp := fun vs H Q _ => ∃ (r dx ta : Addr) (t : Bytes) (p : Nat), vs = [.ref r] ∧ At K CR r dx ta t H p ∧ Q (.bl (decide (p = t.length))) H
def spSh (K : PySem.W.Frag) (CR : Addr) : Sp := fun vs H Q _ => ∃ (r dx ta : Addr) (t : Bytes) (p : Nat) (sv : V) (cs : List Nat), vs = [.ref r, sv] ∧ At K CR r dx ta t H p ∧ SigV K H sv cs ∧ cs.length ≤ 1000 ∧
  ∀ H', Same H H' → Q (.bl (showsM cs (t.drop p))) H'
def spRS (K : PySem.W.Frag) (CR CF : Addr) : Sp := fun vs H Q E => ∃ (r dx ta : Addr) (t : Bytes) (p : Nat) (sv : V) (cs : List Nat), vs = [.ref r, sv] ∧ At K CR r dx ta t H p ∧ SigV K H sv cs ∧ cs.length ≤ 1000 ∧
  Out K CR CF r dx ta t (signM cs p (t.drop p)) H r (fun c _ v => v = sgV c) Q E
def spSB (K : PySem.W.Frag) : Sp := fun vs H Q _ => ∃ (wl : Addr) (acc : List Nat) (ws : List (List Nat)), vs = [stV acc, .ref wl] ∧ SqL K H wl (ws.map stV) ∧ ws.length ≤ 1000 ∧ acc.length ≤ 1000 ∧ (∀ w ∈ ws, w.length ≤ 1000) ∧
  ∀ (H' : Hp) (D : Addr), Same H H' → H D = none → H' D = some (.lst ((heads (tag acc ws)).map sgV)) → Q (.ref D) H'
def spRW (K : PySem.W.Frag) (CR CF : Addr) : Sp := fun vs H Q E => ∃ (r dx ta : Addr) (t : Bytes) (p : Nat) (wl : Addr) (ws : List (List Nat)), vs = [.ref r, .ref wl] ∧ At K CR r dx ta t H p ∧ SqL K H wl (ws.map stV) ∧ ws.length ≤ 1000 ∧ (∀ w ∈ ws, w.length ≤ 100) ∧
  Out K CR CF r dx ta t (munch (t.drop p) (tag [] ws) p) H r (fun w _ v => v = stV w) Q E

/-! ### what the top has written -/
/-- an own error class over Refusal -/
structure RefC (K : PySem.W.Frag) (CE C : Addr) : Prop where
  ox : OexC K C
  xf : XfC K C
  nNum : PySem.W.findIn K (.ref C) "numbers" = some none
  te : PySem.W.exmOne K (.ref C) (.ref CE) = some true
structure Txt (K : PySem.W.Frag) (mg : Str → Option Value) (CE fBI CF fFI CR : Addr) : Prop where
  rf : RefC K CE CF
  iF : PySem.W.findIn K (.ref CF) "__init__" = some (some (.ref fFI))
  tF : PySem.W.typeIn K (.ref fFI) = some (.type "function")
  gF : mg "Fault" = some (.ref CF)
  gE : mg "Refusal" = some (.ref CE)
  rd : ClX.CRead K CE (.type "type")
  ci : ClX.CVal K CE (.type "type") "__init__" (.ref fBI) (.ref fBI)
  kB : PySem.W.keepIn K (.ref fBI) = true
  nVE : mg "ValueError" = none
  vV : PySem.W.findCls K (.type "ValueError") (.type "type") "__init__" = some (.val (.builtin "ValueError.__init__"))
  rule : ∃ u, mg "NO_METHOD" = some (.int 11 u)
  cl : Cls K CR
  gR : mg "Reader" = some (.ref CR)
  nText : NoAttr K CR "text"
  nPlace : NoAttr K CR "place"
  len : mg "len" = none
  ord : mg "ord" = none
  int : mg "int" = none

section
variable {P : Program} {w : World} {K : PySem.W.Frag} {mg : Str → Option Value} {base : Heap} {CE fBI CF fFI CR : Addr}

theorem scBI : FnScope ["self", "numbers"] ["self", "numbers"] (defScope sBI) := ⟨rfl, rfl, rfl, by decide +kernel, rfl, by decide +kernel, by decide +kernel⟩
theorem ok_BI {f : Addr} {fd : FuncData} (F : Fun K "__init__" "Refusal.__init__" sBI f fd) (T : Txt K mg CE fBI CF fFI CR) : FnOk P w K mg base CX0 1 f fd ["self", "numbers"] (spBI K) := by
  refine F.ok scBI (fun vs H Q E h => ?_) (fun cdv A outer s H vs Q E hr h => ?_)
  · obtain ⟨a, C, x, rfl, _⟩ := h
    rfl
  · obtain ⟨a, C, x, rfl, ox, nN, ha, q⟩ := h
    refine ⟨_, pss_cons (ps_expr (pe_veinit rfl T.nVE T.vV (pa_cons (pv 0) (pa_cons (pv 1) pa_nil)))) (pss_one (ps_ost (pv 0) (pv 1))), ?_⟩
    refine ⟨_, rfl, _, rfl, a, C, _, rfl, by show 1 ≤ 1000; decide, ox, ha, ?_⟩
    refine ⟨_, rfl, _, rfl, a, C, rfl, ox, nN, .inl ⟨ha, fun d nd da => ?_⟩⟩
    refine q d _ nd da upd_same ?_ fun b o hb e => ?_
    · rw [upd_ne da, upd_same]
    · rw [upd_ne hb, upd_ne (ne_of_none e nd)]
      exact e
theorem scFI : FnScope ["self", "rule", "place"] ["self", "rule", "place"] (defScope sFI) := ⟨rfl, rfl, rfl, by decide +kernel, rfl, by decide +kernel, by decide +kernel⟩
/-- Refusal.__init__(self, [..]): how its reading goes on -/
theorem own_ok {C : Addr} {ls : List V} {a : Addr} {H : Hp} {Q : VK} {E : XK} (R : RefC K CE C) (h : Own C ls a H Q) (l : Addr) (nl : H l = none) : spBI K [.ref a, .ref l] (upd H l (.lst ls)) Q E := by
  have nla : l ≠ a := fun z => by rw [z, h.1] at nl; cases nl
  refine ⟨a, C, _, rfl, R.ox, R.nNum, by rw [upd_ne (Ne.symm nla)]; exact h.1, fun d H' nd da ea ed k => ?_⟩
  have nld : l ≠ d := fun z => by rw [← z, upd_same] at nd; cases nd
  rw [upd_ne (Ne.symm nld)] at nd
  exact h.2 d l H' nd da nla nld ea ed (k l _ nla upd_same)
theorem ok_FI {f : Addr} {fd fdB : FuncData} (F : Fun K "__init__" "Fault.__init__" sFI f fd) (T : Txt K mg CE fBI CF fFI CR) (GB : FnOk P w K mg base CX0 1 fBI fdB ["self", "numbers"] (spBI K)) (bB : Binds K fdB ["self", "numbers"] []) :
    FnOk P w K mg base CX0 2 f fd ["self", "rule", "place"] (spFI CF) := by
  refine F.ok scFI (fun vs H Q E h => ?_) (fun cdv A outer s H vs Q E hr h => ?_)
  · obtain ⟨a, r, k, rfl, _⟩ := h
    rfl
  · obtain ⟨a, r, k, rfl, q⟩ := h
    refine ⟨_, pss_one (ps_expr (pe_clsfn (pe_glob (v := .ref CE) rfl T.gE rfl) T.rd T.ci T.kB GB hr bB .nil pass0 (pa_cons (pv 0) (pa_cons (pe_lst (pa_cons (pe_un un_neg pe_int) (pa_cons (pv 1) (pa_cons (pv 2) pa_nil)))) pa_nil)))), ?_⟩
    refine ⟨rfl, _, rfl, _, rfl, _, rfl, _, rfl, by show 3 ≤ sizeLine; exact Nat.le_of_lt (small1000 (by decide)), fun l nl => ?_⟩
    exact own_ok (E := E) T.rf q l nl
theorem scLI : FnScope ["self"] ["self"] (defScope sLI) := ⟨rfl, rfl, rfl, by decide +kernel, rfl, by decide +kernel, by decide +kernel⟩
theorem ok_LI {f CL : Addr} {fd fdB : FuncData} (F : Fun K "__init__" "LongText.__init__" sLI f fd) (T : Txt K mg CE fBI CF fFI CR) (R : RefC K CE CL) (GB : FnOk P w K mg base CX0 1 fBI fdB ["self", "numbers"] (spBI K)) (bB : Binds K fdB ["self", "numbers"] []) :
    FnOk P w K mg base CX0 2 f fd ["self"] (spLI CL) := by
  refine F.ok scLI (fun vs H Q E h => ?_) (fun cdv A outer s H vs Q E hr h => ?_)
  · obtain ⟨a, rfl, _⟩ := h
    rfl
  · obtain ⟨a, rfl, q⟩ := h
    refine ⟨_, pss_one (ps_expr (pe_clsfn (pe_glob (v := .ref CE) rfl T.gE rfl) T.rd T.ci T.kB GB hr bB .nil pass0 (pa_cons (pv 0) (pa_cons (pe_lst (pa_cons (pe_un un_neg pe_int) pa_nil)) pa_nil)))), ?_⟩
    refine ⟨rfl, _, rfl, _, rfl, by show 1 ≤ sizeLine; exact Nat.le_of_lt (small1000 (by decide)), fun l nl => ?_⟩
    exact own_ok (E := E) R q l nl
/-- what a made error leaves, when it is let go -/
theorem made {C : Addr} {ls : List V} {a : Addr} {H1 : Hp} {E : XK} (h : ∀ (d n : Addr) (H' : Hp), H' d = some (.xd (nmF n)) → H' n = some (.lst ls) → E (.ref C) (some d) H') :
    Own C ls a (upd H1 a (exo a C none)) (fun v H2 => v = .non ∧ ∃ (d : Addr) (fs : List (Str × V)), H2 a = some (exo a C (some d)) ∧ H2 d = some (exd d fs) ∧ H1 d = none ∧ E (.ref C) (some d) (upd (del H2 a) d (.xd fs))) :=
  ⟨upd_same, fun d n H' nd da na ndn ea ed en => ⟨rfl, d, _, ea, ed, by rw [upd_ne da] at nd; exact nd, h d n _ upd_same (by rw [upd_ne ndn, del_ne na]; exact en)⟩⟩

theorem scRI : FnScope ["self", "text"] ["self", "text"] (defScope sRI) := ⟨rfl, rfl, rfl, by decide +kernel, rfl, by decide +kernel, by decide +kernel⟩
theorem ok_RI {f : Addr} {fd : FuncData} (F : Fun K "__init__" "Reader.__init__" sRI f fd) (T : Txt K mg CE fBI CF fFI CR) : FnOk P w K mg base CX0 1 f fd ["self", "text"] (spRI CR) := by
  refine F.ok scRI (fun vs H Q E h => ?_) (fun cdv A outer s H vs Q E hr h => ?_)
  · obtain ⟨r, ta, dx, rfl, _⟩ := h
    rfl
  · obtain ⟨r, ta, dx, rfl, ha, q⟩ := h
    refine ⟨_, pss_cons (ps_fld (pv 0) (pv 1) rfl) (pss_one (ps_fld (pv 0) pe_int rfl)), ?_⟩
    refine ⟨_, rfl, _, rfl, r, CR, dx, _, rfl, ha, T.cl, T.nText, by decide, ?_⟩
    refine ⟨_, rfl, r, CR, dx, _, rfl, upd_same, T.cl, T.nPlace, by show 1 < 1000; decide, ?_⟩
    refine q _ ?_ ?_
    · rw [upd_upd]
      exact Only.upd
    · rw [upd_same]
      rfl

theorem scEn : FnScope ["self"] ["self"] (defScope sEn) := ⟨rfl, rfl, rfl, by decide +kernel, rfl, by decide +kernel, by decide +kernel⟩
theorem ok_En {f : Addr} {fd : FuncData} (F : Fun K "ended" "Reader.ended" sEn f fd) (T : Txt K mg CE fBI CF fFI CR) : FnOk P w K mg base CX0 1 f fd ["self"] (spEn K CR) := by
  refine F.ok scEn (fun vs H Q E h => ?_) (fun cdv A outer s H vs Q E hr h => ?_)
  · obtain ⟨r, dx, ta, t, p, rfl, _⟩ := h
    rfl
  · obtain ⟨r, dx, ta, t, p, rfl, a, q⟩ := h
    refine ⟨_, pss_one (ps_ret (pe_cmpR op_eq (pe_fld (pv 0) rfl) (pe_callB call_len_seq (by rfl) T.len PySem.boot_len (pa_cons (pe_fld (pv 0) rfl) pa_nil)) (nomark _))), ?_⟩
    refine ⟨_, rfl, r, CR, dx, _, _, rfl, a.ob, T.cl, T.nPlace, look_place ta p, ?_⟩
    refine ⟨_, rfl, r, CR, dx, _, _, rfl, a.ob, T.cl, T.nText, look_text ta p, ?_⟩
    refine ⟨ta, _, rfl, .inl a.tx, rfl, ?_⟩
    have e : (decide (V.int (p : Int) = V.int ((bs t).length : Nat))) = decide (p = t.length) := by
      rw [dec_int, List.length_map]
      by_cases h : p = t.length
      · subst h
        simp
      · rw [decide_eq_false h]
        have h2 : ¬ ((p : Int) = (t.length : Nat)) := fun z => h (Int.ofNat.inj z)
        simpa using h2
    rw [e]
    exact q
end
end Ab

set_option Elab.async false
set_option linter.all false
set_option maxRecDepth 100000
set_option maxHeartbeats 2000000
namespace Ab
open PySem PySem.Spec PyProof.Rows L2 AbM
open Na (Bytes)
theorem pi_sig {X : Cx} {tg l : Expr} {tl : TE} (hl : PE X l tl) : PI X tg l (fun σ H R => iStr tl σ H R ∨ iList X.K tl σ H R) :=
  ⟨fun pins s σ H R I h => h.elim (fun h => (pi_str hl).run pins s σ H R I h) fun h => (pi_list hl).run pins s σ H R I h⟩
theorem any_nat (c : Nat) : ∀ cs : List Nat, inV (.int (c : Int)) (cs.map fun k => V.int ((k : Nat) : Int)) = decide (c ∈ cs)
  | [] => by simp [inV]
  | k :: r => by
    have ih := any_nat c r
    unfold inV at ih ⊢
    rw [List.map_cons, List.any_cons, ih]
    show (((k : Int) == (c : Int)) || decide (c ∈ r)) = _
    by_cases h : c = k
    · subst h
      simp
    · have h2 : ¬ ((k : Int) = (c : Int)) := fun z => h (Int.ofNat.inj z).symm
      have e : ((k : Int) == (c : Int)) = false := by simpa using h2
      rw [e, Bool.false_or]
      by_cases h3 : c ∈ r
      · rw [decide_eq_true h3, decide_eq_true (List.mem_cons_of_mem _ h3)]
      · rw [decide_eq_false h3, decide_eq_false (fun z => (List.mem_cons.mp z).elim h h3)]
theorem flat_nat (cs : List Nat) : (cs.map fun k => V.int ((k : Nat) : Int)).all flatV = true := by
  rw [List.all_map]
  exact List.all_eq_true.mpr fun _ _ => rfl
theorem bs_at {t : Bytes} {p : Nat} {c : UInt8} {l : Bytes} (h : t.drop p = c :: l) : (bs t)[p]? = some (.int ((c.toNat : Nat) : Int)) := by
  have e : t[p]? = some c := by
    have := congrArg List.head? h
    rw [List.head?_drop] at this
    exact this
  rw [List.getElem?_map, e]
  rfl
theorem drop_lt {t : Bytes} {p : Nat} {c : UInt8} {l : Bytes} (h : t.drop p = c :: l) : p < t.length := by
  have := congrArg List.length h
  rw [List.length_drop, List.length_cons] at this
  omega
theorem drop_succ {t : Bytes} {p : Nat} {c : UInt8} {l : Bytes} (h : t.drop p = c :: l) : t.drop (p + 1) = l := by
  rw [← List.tail_drop, h]
  rfl
section
variable {P : Program} {w : World} {K : PySem.W.Frag} {mg : Str → Option Value} {base : Heap} {CE fBI CF fFI CR : Addr}
theorem scSh : FnScope ["self", "signs", "sign"] ["self", "signs"] (defScope sSh) := ⟨rfl, rfl, rfl, by decide +kernel, rfl, by decide +kernel, by decide +kernel⟩
theorem ok_Sh {f fE : Addr} {fd fdE : FuncData} (F : Fun K "shows" "Reader.shows" sSh f fd) (T : Txt K mg CE fBI CF fFI CR) (mE : Meth K CR "ended" fE) (GE : FnOk P w K mg base CX0 1 fE fdE ["self"] (spEn K CR)) (bE : Binds K fdE ["self"] []) :
    FnOk P w K mg base CX0 2 f fd ["self", "signs"] (spSh K CR) := by
  refine F.ok scSh (fun vs H Q E h => ?_) (fun cdv A outer s H vs Q E hr h => ?_)
  · obtain ⟨r, dx, ta, t, p, sv, cs, rfl, _⟩ := h
    rfl
  · obtain ⟨r, dx, ta, t, p, sv, cs, rfl, a, hs, hl, q⟩ := h
    refine ⟨_, pss_one (ps_ret (pe_and (pe_not (pe_meth0 (pv 0) T.cl mE GE hr bE .nil pass0))
      (pe_one (pe_cmpR op_in_seq (pe_ix ix_list (pe_fld (pv 0) rfl) (pe_fld (pv 0) rfl) (fun _ _ => rfl))
        (pe_lc (own := [("sign", 2)]) (g := gName 2) (tt := tYes) rfl scSh.nd (pi_sig (pv 1)) (blkOk_by (N := ["self", "signs", "sign"]) (sc := defScope sSh) (by decide +kernel)) (fun _ _ _ _ _ => pg_name (i := 2) scSh.nd rfl (Or.inl rfl)) (fun _ _ _ _ _ => pts_nil)
          (fun _ _ _ _ _ => pe_callB call_ord (by rfl) T.ord (by decide +kernel) (pa_cons (pv 2) pa_nil))) rfl)))), ?_⟩
    refine ⟨_, rfl, r, dx, _, rfl, a.ob, rfl, r, dx, ta, t, p, rfl, a, _, rfl, _, rfl, ?_⟩
    by_cases he : p = t.length
    · rw [decide_eq_true he]
      refine iteF ?_
      have e : t.drop p = [] := by rw [he, List.drop_length]
      have e2 : showsM cs (t.drop p) = false := by rw [e]; rfl
      rw [← e2]
      exact q H (Same.refl H)
    · rw [decide_eq_false he]
      refine iteT ?_
      obtain ⟨c, l, ed⟩ : ∃ c l, t.drop p = c :: l := by
        cases ed : t.drop p with
        | nil =>
          have := congrArg List.length ed
          rw [List.length_drop] at this
          have := a.le
          exact absurd (by simp at *; omega) he
        | cons c l => exact ⟨c, l, rfl⟩
      refine ⟨_, rfl, r, CR, dx, _, _, rfl, a.ob, T.cl, T.nText, look_text ta p, ?_⟩
      refine ⟨_, rfl, r, CR, dx, _, _, rfl, a.ob, T.cl, T.nPlace, look_place ta p, ?_⟩
      refine ⟨ta, _, _, _, rfl, rfl, a.tx, atI_nat (bs_at ed), ?_⟩
      -- the list of the codes
      have fin : ∀ D, H D = none → ∀ H', H' = upd H D (.lst (cs.map fun k => V.int ((k : Nat) : Int))) →
          rIn K false (.int ((c.toNat : Nat) : Int)) (.ref D) H' Q := fun D hD H' e => by
        subst e
        refine ⟨D, _, rfl, .inl (SqL.of upd_same), rfl, flat_nat cs, ?_⟩
        have e2 : showsM cs (t.drop p) = decide (c.toNat ∈ cs) := by rw [ed]; rfl
        rw [any_nat, ← e2]
        exact q _ (same_upd hD)
      have more : ∀ (i : Nat) (k : Nat), cs[i]? = some k → (cs.take (i + 1)).map (fun k => V.int ((k : Nat) : Int)) = (cs.take i).map (fun k => V.int ((k : Nat) : Int)) ++ [.int ((k : Nat) : Int)] := fun i k h => by
        rw [List.take_add_one, h, List.map_append]
        rfl
      have short : ∀ i, ((cs.take i).map (fun k => V.int ((k : Nat) : Int))).length < sizeLine := fun i => small1000 (by rw [List.length_map, List.length_take]; omega)
      rcases hs with rfl | ⟨al, rfl, hq⟩
      · refine .inl ⟨_, rfl, _, rfl, fun D hD => lc_it walk_str (Pv := fun i H' => H' = upd H D (.lst ((cs.take i).map fun k => V.int ((k : Nat) : Int)))) rfl (fun _ _ _ _ => trivial) ?_ ?_⟩
        · rintro i x H1 H2 hi e ⟨rfl, k, hk, rfl⟩
          have hk' : cs[i]? = some k := by simpa using hk
          refine ⟨rfl, ?_⟩
          refine ⟨_, rfl, _, rfl, rfl, _, by rw [e]; exact upd_same, short i, ?_⟩
          rw [e, upd_upd, more i k hk']
          rfl
        · intro H' e
          refine fin D hD H' ?_
          rw [e]
          have : cs.take (S cs).cps.size = cs := by simp
          rw [this]
      · refine .inr ⟨_, rfl, al, rfl, ⟨_, hq⟩, fun D hD => lc_it (walk_list (xs := cs.map sgV)) (Pv := fun i H' => H' = upd H D (.lst ((cs.take i).map fun k => V.int ((k : Nat) : Int)))) rfl (fun i H' _ e => ?_) ?_ ?_⟩
        · rw [e]
          exact (same_upd hD).seq hq
        · rintro i x H1 H2 hi e ⟨rfl, hx⟩
          obtain ⟨k, hk', rfl⟩ : ∃ k, cs[i]? = some k ∧ x = sgV k := by
            rw [List.getElem?_map] at hx
            cases e : cs[i]? with
            | none => rw [e] at hx; cases hx
            | some k => rw [e] at hx; exact ⟨k, rfl, (Option.some.inj hx).symm⟩
          refine ⟨rfl, ?_⟩
          refine ⟨_, rfl, _, rfl, rfl, _, by rw [e]; exact upd_same, short i, ?_⟩
          rw [e, upd_upd, more i k hk']
          rfl
        · intro H' e
          refine fin D hD H' ?_
          rw [e, List.length_map, List.take_length]
end
end Ab

set_option Elab.async false
set_option linter.all false
set_option maxRecDepth 100000
set_option maxHeartbeats 2000000
namespace Ab
open PySem PySem.Spec PyProof.Rows L2 AbM
open Na (Bytes)
theorem signM_hit {cs : List Nat} {p : Nat} {c : UInt8} {l : Bytes} (h : c.toNat ∈ cs) : signM cs p (c :: l) = .ok (c.toNat, p + 1, l) := if_pos h
theorem signM_miss {cs : List Nat} {p : Nat} {b : Bytes} (h : showsM cs b = false) : signM cs p b = .error p := by
  cases b with
  | nil => rfl
  | cons c l => exact if_neg (of_decide_eq_false h)
theorem shows_hit {k : Nat} {b : Bytes} (h : showsM [k] b = true) : ∃ c l, b = c :: l ∧ c.toNat = k := by
  cases b with
  | nil => cases h
  | cons c l =>
    have := of_decide_eq_true h
    exact ⟨c, l, rfl, by simpa using this⟩
theorem shows_none {cs : List Nat} {b : Bytes} (h : ∀ (i k : Nat), cs[i]? = some k → showsM [k] b = false) : showsM cs b = false := by
  cases b with
  | nil => rfl
  | cons c l =>
    refine decide_eq_false fun hm => ?_
    obtain ⟨i, hi⟩ := List.mem_iff_getElem?.mp hm
    have := of_decide_eq_false (h i _ hi)
    exact this (by simp)
section
variable {P : Program} {w : World} {K : PySem.W.Frag} {mg : Str → Option Value} {base : Heap} {CE fBI CF fFI CR : Addr}
theorem scRS : FnScope ["self", "signs", "sign"] ["self", "signs"] (defScope sRS) := ⟨rfl, rfl, rfl, by decide +kernel, rfl, by decide +kernel, by decide +kernel⟩
/-- raise Fault(NO_METHOD, self.place): how its reading is answered -/
theorem raise_ok {CF : Addr} {H1 : Hp} {p : Nat} {E : XK} (h : ∀ (d n : Addr) (H' : Hp), H' d = some (.xd (nmF n)) → H' n = some (.lst (ftL p)) → E (.ref CF) (some d) H') :
    ([V.int 11, V.int (p : Int)] : List V).length ≤ 1000 ∧ ∀ a, H1 a = none → spFI CF (.ref a :: ([V.int 11, V.int (p : Int)] ++ [])) (upd H1 a (exo a CF none))
      (fun v H2 => v = .non ∧ ∃ (d : Addr) (fs : List (Str × V)), H2 a = some (exo a CF (some d)) ∧ H2 d = some (exd d fs) ∧ H1 d = none ∧ E (.ref CF) (some d) (upd (del H2 a) d (.xd fs))) (fun _ _ _ => False) :=
  ⟨by show 2 ≤ 1000; decide, fun a na => ⟨a, 11, p, rfl, made h⟩⟩
theorem ok_RS {f fS : Addr} {fd fdS fdI : FuncData} (F : Fun K "read_sign" "Reader.read_sign" sRS f fd) (T : Txt K mg CE fBI CF fFI CR) (mS : Meth K CR "shows" fS) (GS : FnOk P w K mg base CX0 2 fS fdS ["self", "signs"] (spSh K CR)) (bS : Binds K fdS ["self", "signs"] [])
    (GI : FnOk P w K mg base CX0 2 fFI fdI ["self", "rule", "place"] (spFI CF)) (bI : Binds K fdI ["self", "rule", "place"] []) :
    FnOk P w K mg base (L2.CX P w) 4 f fd ["self", "signs"] (spRS K CR CF) := by
  refine F.okX scRS (fun vs H Q E h => ?_) (fun cdv A outer s H vs Q E hr h => ?_)
  · obtain ⟨r, dx, ta, t, p, sv, cs, rfl, _⟩ := h
    rfl
  · obtain ⟨r, dx, ta, t, p, sv, cs, rfl, a, hs, hl, q⟩ := h
    obtain ⟨u, hu⟩ := T.rule
    have hr2 : Room 2 _ := hr.mono (by decide)
    refine ⟨_, pss_cons (ps_for (passes_of rfl) rfl (pi_sig (pv 1)) (pg_name (i := 2) scRS.nd rfl (Or.inl rfl))
        (pss_one (ps_if (pt_val (pe_meth (pv 0) T.cl mS GS hr2 bS .nil pass0 (pa_cons (pv 2) pa_nil))) (pss_cons (ps_fldaug (pv 0) pe_int in_add) (pss_one (ps_ret (pv 2)))) pss_nil)))
      (pss_one (ps_raise rfl (takes_of rfl rfl rfl rfl) (pmk_oex T.rf.ox T.iF T.tF GI hr bI .nil pass0 rfl T.gF (pa_cons (pe_glob (v := .int 11) rfl hu ⟨_, rfl⟩) (pa_cons (pe_fld (pv 0) rfl) pa_nil))))), ?_⟩
    rcases hs with rfl | ⟨al, rfl, hq⟩
    · refine .inl ⟨_, rfl, _, rfl, for_it walk_str (fun i σ H1 => (∃ v2, σ = [some (.ref r), some (stV cs), v2]) ∧ Same H H1 ∧ ∀ j k, j < i → cs[j]? = some k → showsM [k] (t.drop p) = false) ⟨⟨_, rfl⟩, Same.refl H, fun j k hj => absurd hj (Nat.not_lt_zero _)⟩ (fun _ _ _ _ _ => trivial) ?_ ?_⟩
      · rintro i x σ H1 H2 hi ⟨⟨v2, rfl⟩, sm, no⟩ ⟨rfl, k, hk, rfl⟩
        have hk' : cs[i]? = some k := by simpa using hk
        refine ⟨_, rfl, r, dx, _, rfl, sm _ _ a.ob, rfl, _, rfl, r, dx, ta, t, p, sgV k, [k], rfl, a.same sm, .inl rfl, by show 1 ≤ 1000; decide, fun H3 sm3 => ⟨_, rfl, ?_⟩⟩
        cases hsh : showsM [k] (t.drop p) with
        | true =>
          refine iteT ?_
          obtain ⟨c, l, ed, ec⟩ := shows_hit hsh
          have a3 := (a.same sm).same sm3
          refine ⟨_, rfl, r, CR, dx, _, _, rfl, a3.ob, T.cl, T.nPlace, look_place ta p, _, _, rfl, rfl, dx, _, a3.ob, by show 2 < 1000; decide, _, rfl, ?_⟩
          have hm : c.toNat ∈ cs := by
            rw [ec]
            exact List.mem_iff_getElem?.mpr ⟨i, hk'⟩
          have e := signM_hit (p := p) (l := l) hm
          rw [← ed] at e
          rw [← drop_succ ed] at e
          have a4 := a3.put (q := p + 1) (drop_lt ed)
          exact q.2 _ _ e _ _ (by rw [ec]) a4 (Only.trans (Only.same sm) (Only.trans (Only.same sm3) Only.upd))
        | false =>
          refine iteF ?_
          refine ⟨⟨_, rfl⟩, sm.trans sm3, fun j k' hj hk2 => ?_⟩
          by_cases hji : j = i
          · subst hji
            rw [hk'] at hk2
            cases hk2
            exact hsh
          · exact no j k' (by omega) hk2
      · rintro σ H1 ⟨⟨v2, rfl⟩, sm, no⟩
        have hn : showsM cs (t.drop p) = false := shows_none fun i k hk => no i k (by have := (List.getElem?_eq_some_iff.mp hk).1; simpa using this) hk
        refine ⟨_, rfl, r, CR, dx, _, _, rfl, sm _ _ a.ob, T.cl, T.nPlace, look_place ta p, ?_⟩
        exact raise_ok (q.1 p (signM_miss hn))
    · refine .inr ⟨_, rfl, al, rfl, ⟨_, hq⟩, for_it (walk_list (xs := cs.map sgV)) (fun i σ H1 => (∃ v2, σ = [some (.ref r), some (.ref al), v2]) ∧ Same H H1 ∧ ∀ j k, j < i → cs[j]? = some k → showsM [k] (t.drop p) = false) ⟨⟨_, rfl⟩, Same.refl H, fun j k hj => absurd hj (Nat.not_lt_zero _)⟩ (fun i σ H1 _ h => h.2.1.seq hq) ?_ ?_⟩
      · rintro i x σ H1 H2 hi ⟨⟨v2, rfl⟩, sm, no⟩ ⟨rfl, hx⟩
        obtain ⟨k, hk', rfl⟩ : ∃ k, cs[i]? = some k ∧ x = sgV k := by
          rw [List.getElem?_map] at hx
          cases e : cs[i]? with
          | none => rw [e] at hx; cases hx
          | some k => rw [e] at hx; exact ⟨k, rfl, (Option.some.inj hx).symm⟩
        refine ⟨_, rfl, r, dx, _, rfl, sm _ _ a.ob, rfl, _, rfl, r, dx, ta, t, p, sgV k, [k], rfl, a.same sm, .inl rfl, by show 1 ≤ 1000; decide, fun H3 sm3 => ⟨_, rfl, ?_⟩⟩
        cases hsh : showsM [k] (t.drop p) with
        | true =>
          refine iteT ?_
          obtain ⟨c, l, ed, ec⟩ := shows_hit hsh
          have a3 := (a.same sm).same sm3
          refine ⟨_, rfl, r, CR, dx, _, _, rfl, a3.ob, T.cl, T.nPlace, look_place ta p, _, _, rfl, rfl, dx, _, a3.ob, by show 2 < 1000; decide, _, rfl, ?_⟩
          have hm : c.toNat ∈ cs := by
            rw [ec]
            exact List.mem_iff_getElem?.mpr ⟨i, hk'⟩
          have e := signM_hit (p := p) (l := l) hm
          rw [← ed] at e
          rw [← drop_succ ed] at e
          have a4 := a3.put (q := p + 1) (drop_lt ed)
          exact q.2 _ _ e _ _ (by rw [ec]) a4 (Only.trans (Only.same sm) (Only.trans (Only.same sm3) Only.upd))
        | false =>
          refine iteF ?_
          refine ⟨⟨_, rfl⟩, sm.trans sm3, fun j k' hj hk2 => ?_⟩
          by_cases hji : j = i
          · subst hji
            rw [hk'] at hk2
            cases hk2
            exact hsh
          · exact no j k' (by omega) hk2
      · rintro σ H1 ⟨⟨v2, rfl⟩, sm, no⟩
        have hn : showsM cs (t.drop p) = false := shows_none fun i k hk => no i k (by have := (List.getElem?_eq_some_iff.mp hk).1; rw [List.length_map]; exact this) hk
        refine ⟨_, rfl, r, CR, dx, _, _, rfl, sm _ _ a.ob, T.cl, T.nPlace, look_place ta p, ?_⟩
        exact raise_ok (q.1 p (signM_miss hn))
end
end Ab

set_option Elab.async false
set_option linter.all false
set_option maxRecDepth 100000
set_option maxHeartbeats 2000000
namespace Ab
open PySem PySem.Spec PyProof.Rows L2 AbM
open Na (Bytes)
theorem if_true_of {c : Bool} {A B : Prop} (hc : c = true) (h : A) : if c = true then A else B := by
  rw [if_pos hc]
  exact h
theorem if_false_of {c : Bool} {A B : Prop} (hc : c = false) (h : B) : if c = true then A else B := by
  rw [hc, if_neg Bool.false_ne_true]
  exact h
theorem S_len (l : List Nat) : (S l).length = l.length := by simp [Str.length]
theorem S_tl (l : List Nat) : (S l).cps.toList = l := by simp
theorem S_inj {a b : List Nat} (h : S a = S b) : a = b := by
  have := congrArg (fun x : Str => x.cps.toList) h
  simpa using this
theorem S_cat (a b : List Nat) : S a ++ S b = S (a ++ b) := SX.S_cat a b
theorem starts_S (w acc : List Nat) : Txt.startswith (S w) (S acc) = decide (acc <+: w) := by
  unfold Txt.startswith
  rw [PySem.StrLaws.subAt_eq, S_len, S_len, S_tl, S_tl]
  by_cases h : acc <+: w
  · rw [decide_eq_true h]
    have e := List.prefix_iff_eq_take.mp h
    have hl := h.length_le
    simp only [Nat.zero_add, List.drop_zero, decide_eq_true hl, Bool.true_and]
    rw [← e]
    exact beq_self_eq_true _
  · rw [decide_eq_false h]
    have e : ¬ ((w.drop 0).take acc.length == acc) = true := fun z => h (List.prefix_iff_eq_take.mpr (by simpa using (eq_of_beq z).symm))
    rw [Bool.not_eq_true] at e
    rw [e, Bool.and_false]
def headOf (acc w : List Nat) : List Nat := if acc <+: w then (w.drop acc.length).head?.toList else []
theorem heads_snoc (acc w : List Nat) (ws : List (List Nat)) : heads (tag acc (ws ++ [w])) = heads (tag acc ws) ++ headOf acc w := by
  unfold tag heads
  rw [List.filterMap_append, List.filterMap_append]
  congr 1
  unfold headOf
  by_cases h : acc <+: w
  · rw [List.filterMap_cons, if_pos h, if_pos h]
    cases w.drop acc.length <;> rfl
  · rw [List.filterMap_cons, if_neg h, if_neg h]
    rfl
theorem headOf_none {acc w : List Nat} (h : ¬ (acc.length < w.length ∧ acc <+: w)) : headOf acc w = [] := by
  unfold headOf
  by_cases hp : acc <+: w
  · rw [if_pos hp]
    have hl : w.length ≤ acc.length := Nat.le_of_not_lt fun z => h ⟨z, hp⟩
    rw [List.drop_eq_nil_of_le hl]
    rfl
  · rw [if_neg hp]
theorem headOf_some {acc w : List Nat} {c : Nat} (hp : acc <+: w) (h : w[acc.length]? = some c) : headOf acc w = [c] := by
  unfold headOf
  rw [if_pos hp, List.head?_drop, h]
  rfl
theorem heads_len (acc : List Nat) (ws : List (List Nat)) : (heads (tag acc ws)).length ≤ ws.length := by
  unfold heads tag
  exact Nat.le_trans (List.length_filterMap_le _ _) (List.length_filterMap_le _ _)
section
variable {P : Program} {w : World} {K : PySem.W.Frag} {mg : Str → Option Value} {base : Heap} {CE fBI CF fFI CR : Addr}
theorem scSB : FnScope ["beginning", "words", "size", "word"] ["beginning", "words"] (defScope sSB) := ⟨rfl, rfl, rfl, by decide +kernel, rfl, by decide +kernel, by decide +kernel⟩
theorem ok_SB {f : Addr} {fd : FuncData} (F : Fun K "signs_behind" "signs_behind" sSB f fd) (T : Txt K mg CE fBI CF fFI CR) : FnOk P w K mg base CX0 1 f fd ["beginning", "words"] (spSB K) := by
  refine F.ok scSB (fun vs H Q E h => ?_) (fun cdv A outer s H vs Q E hr h => ?_)
  · obtain ⟨wl, acc, ws, rfl, _⟩ := h
    rfl
  · obtain ⟨wl, acc, ws, rfl, hq, hl1, hl2, hl3, q⟩ := h
    refine ⟨_, pss_cons (ps_set (i := 2) scSB.nd rfl (Or.inr rfl) (pe_callB call_len_str (by rfl) T.len PySem.boot_len (pa_cons (pv 0) pa_nil)))
      (pss_one (ps_ret (pe_lc (own := [("word", 3)]) (g := gName 3) rfl scSB.nd (pi_list (pv 1)) (blkOk_by (N := ["beginning", "words", "size", "word"]) (sc := defScope sSB) (by decide +kernel)) (fun _ _ _ _ _ => pg_name (i := 3) scSB.nd rfl (Or.inl rfl))
        (fun _ _ _ _ _ => pts_one (PW.pt (pw_and (pt_cmpR op_gt (pe_callB call_len_str (by rfl) T.len PySem.boot_len (pa_cons (pv 3) pa_nil)) (pv 2) (nomark _))
          (pw_and1 (pt_val (pe_m1 PySem.F.slot_str_startswith PySem.F.type_str_startswith mt_startswith (pv 3) (pv 0)))))))
        (fun _ _ _ _ _ => pe_ix ix_str (pv 3) (pv 2) (fun _ _ => rfl))))), ?_⟩
    have small : ∀ l : List Nat, l.length ≤ 1000 → (S l).length ≤ sizeLine := fun l h => by
      rw [S_len]
      exact Nat.le_of_lt (small1000 h)
    refine ⟨_, rfl, _, rfl, small acc hl2, ?_⟩
    refine ⟨_, rfl, wl, rfl, ⟨_, hq⟩, fun D hD => lc_it (walk_list (xs := ws.map stV)) (Pv := fun i H' => H' = upd H D (.lst ((heads (tag acc (ws.take i))).map sgV))) rfl (fun i H' _ e => ?_) ?_ ?_⟩
    · rw [e]
      exact (same_upd hD).seq hq
    · rintro i x H1 H2 hi e ⟨rfl, hx⟩
      obtain ⟨wd, hk, rfl⟩ : ∃ wd, ws[i]? = some wd ∧ x = stV wd := by
        rw [List.getElem?_map] at hx
        cases e : ws[i]? with
        | none => rw [e] at hx; cases hx
        | some k => rw [e] at hx; exact ⟨k, rfl, (Option.some.inj hx).symm⟩
      have hw : wd.length ≤ 1000 := hl3 wd (List.mem_of_getElem? hk)
      have more : heads (tag acc (ws.take (i + 1))) = heads (tag acc (ws.take i)) ++ headOf acc wd := by
        rw [List.take_add_one, hk]
        exact heads_snoc acc wd (ws.take i)
      refine ⟨rfl, ?_⟩
      refine ⟨_, rfl, _, rfl, small wd hw, _, rfl, _, _, rfl, rfl, _, rfl, ?_⟩
      by_cases h1 : acc.length < wd.length
      · have e1 : decide (((S acc).length : Int) < ((S wd).length : Int)) = true := by
          rw [S_len, S_len]
          exact decide_eq_true (by omega)
        refine if_true_of e1 ?_
        refine ⟨_, rfl, ⟨_, rfl⟩, _, rfl, _, _, rfl, rfl, _, rfl, ?_⟩
        by_cases h2 : acc <+: wd
        · refine if_true_of (by rw [starts_S]; exact decide_eq_true h2) ?_
          have hc : wd[acc.length]? = some wd[acc.length] := List.getElem?_eq_getElem h1
          refine ⟨_, rfl, _, rfl, S wd, _, wd[acc.length], rfl, rfl, small wd hw, ?_, _, by rw [e]; exact upd_same, ?_, ?_⟩
          · rw [S_len, S_tl]
            exact atI_nat hc
          · rw [List.length_map]
            refine small1000 (Nat.le_trans (heads_len _ _) ?_)
            rw [List.length_take]
            omega
          · rw [e, upd_upd, more, headOf_some h2 hc, List.map_append]
            rfl
        · refine if_false_of (by rw [starts_S]; exact decide_eq_false h2) ?_
          rw [e, more, headOf_none (fun z => h2 z.2), List.append_nil]
      · have e1 : decide (((S acc).length : Int) < ((S wd).length : Int)) = false := by
          rw [S_len, S_len]
          exact decide_eq_false (by omega)
        refine if_false_of e1 ?_
        refine if_false_of rfl ?_
        rw [e, more, headOf_none (fun z => h1 z.1), List.append_nil]
    · intro H' e
      rw [List.length_map, List.take_length] at e
      subst e
      exact q _ D (same_upd hD) hD upd_same
end
end Ab

set_option Elab.async false
set_option linter.all false
set_option maxRecDepth 100000
set_option maxHeartbeats 2000000
namespace Ab
open PySem PySem.Spec PyProof.Rows L2 AbM
open Na (Bytes)
theorem inV_st (acc : List Nat) : ∀ ws : List (List Nat), inV (stV acc) (ws.map stV) = decide (acc ∈ ws)
  | [] => by simp [inV]
  | k :: r => by
    have ih := inV_st acc r
    unfold inV at ih ⊢
    rw [List.map_cons, List.any_cons, ih]
    show ((S k == S acc) || decide (acc ∈ r)) = _
    by_cases h : acc = k
    · subst h
      simp
    · have e : (S k == S acc) = false := beq_eq_false_iff_ne.mpr fun z => h (S_inj z).symm
      rw [e, Bool.false_or]
      by_cases h3 : acc ∈ r
      · rw [decide_eq_true h3, decide_eq_true (List.mem_cons_of_mem _ h3)]
      · rw [decide_eq_false h3, decide_eq_false (fun z => (List.mem_cons.mp z).elim h h3)]
theorem flat_st (ws : List (List Nat)) : (ws.map stV).all flatV = true := by
  rw [List.all_map]
  exact List.all_eq_true.mpr fun _ _ => rfl
theorem heads_mem {acc : List Nat} {ws : List (List Nat)} {c : Nat} (h : c ∈ heads (tag acc ws)) : ∃ w ∈ ws, acc.length < w.length := by
  unfold heads tag at h
  obtain ⟨x, hx, e⟩ := List.mem_filterMap.mp h
  obtain ⟨w, hw, e2⟩ := List.mem_filterMap.mp hx
  by_cases hp : acc <+: w
  · rw [if_pos hp] at e2
    cases e2
    refine ⟨w, hw, Nat.lt_of_not_le fun hl => ?_⟩
    have e' : (w.drop acc.length).head? = some c := e
    rw [List.drop_eq_nil_of_le hl] at e'
    cases e'
  · rw [if_neg hp] at e2
    cases e2
theorem shows_no {cs : List Nat} {b : Bytes} (h : showsM cs b = false) : ∀ c l, b = c :: l → c.toNat ∉ cs := fun c l e => by
  subst e
  exact of_decide_eq_false h
theorem shows_yes {cs : List Nat} {b : Bytes} (h : showsM cs b = true) : ∃ c l, b = c :: l ∧ c.toNat ∈ cs := by
  cases b with
  | nil => cases h
  | cons c l => exact ⟨c, l, rfl, of_decide_eq_true h⟩
section
variable {P : Program} {w : World} {K : PySem.W.Frag} {mg : Str → Option Value} {base : Heap} {CE fBI CF fFI CR : Addr}
theorem scRW : FnScope ["self", "words", "word", "signs"] ["self", "words"] (defScope sRW) := ⟨rfl, rfl, rfl, by decide +kernel, rfl, by decide +kernel, by decide +kernel⟩
theorem ok_RW {f fS fRS fSB : Addr} {fd fdS fdI fdRS fdSB : FuncData} (F : Fun K "read_word" "Reader.read_word" sRW f fd) (T : Txt K mg CE fBI CF fFI CR) (mS : Meth K CR "shows" fS) (GS : FnOk P w K mg base CX0 2 fS fdS ["self", "signs"] (spSh K CR)) (bS : Binds K fdS ["self", "signs"] [])
    (GI : FnOk P w K mg base CX0 2 fFI fdI ["self", "rule", "place"] (spFI CF)) (bI : Binds K fdI ["self", "rule", "place"] [])
    (mR : Meth K CR "read_sign" fRS) (GR : FnOk P w K mg base (L2.CX P w) 4 fRS fdRS ["self", "signs"] (spRS K CR CF)) (bR : Binds K fdRS ["self", "signs"] [])
    (gB : mg "signs_behind" = some (.ref fSB)) (kB : PySem.W.keepIn K (.ref fSB) = true) (GB : FnOk P w K mg base CX0 1 fSB fdSB ["beginning", "words"] (spSB K)) (bB : Binds K fdSB ["beginning", "words"] []) :
    FnOk P w K mg base (L2.CX P w) 5 f fd ["self", "words"] (spRW K CR CF) := by
  refine F.okX scRW (fun vs H Q E h => ?_) (fun cdv A outer s H vs Q E hr h => ?_)
  · obtain ⟨r, dx, ta, t, p, wl, ws, rfl, _⟩ := h
    rfl
  · obtain ⟨r, dx, ta, t, p0, wl, ws, rfl, a, hq, hl1, hl2, q⟩ := h
    obtain ⟨u, hu⟩ := T.rule
    have hr2 : Room 2 _ := hr.mono (by decide)
    have hr1 : Room 1 _ := hr.mono (by decide)
    have hr3 : Room 3 _ := hr.mono (by decide)
    refine ⟨_, pss_cons (ps_set (i := 2) scRW.nd rfl (Or.inl rfl) pe_str)
      (pss_cons (ps_set (i := 3) scRW.nd rfl (Or.inl rfl) (pe_call GB hr1 rfl gB kB bB .nil pass0 (pa_cons (pv 2) (pa_cons (pv 1) pa_nil))))
      (pss_cons (ps_while (passes_of rfl) (pt_val (pe_meth (pv 0) T.cl mS GS hr2 bS .nil pass0 (pa_cons (pv 3) pa_nil)))
        (pss_cons (ps_aug (i := 2) scRW.nd rfl (Or.inl rfl) (pe_meth (pv 0) T.cl mR GR hr bR .nil (passes_call (takes_of rfl rfl rfl rfl) (fun _ _ _ _ h => h)) (pa_cons (pv 3) pa_nil)) in_addS)
          (pss_one (ps_set (i := 3) scRW.nd rfl (Or.inl rfl) (pe_call GB hr1 rfl gB kB bB .nil pass0 (pa_cons (pv 2) (pa_cons (pv 1) pa_nil)))))))
      (pss_cons (ps_if (pt_cmpR op_notIn_seq (pv 2) (pv 1) rfl)
          (pss_one (ps_raise rfl (takes_of rfl rfl rfl rfl) (pmk_oex T.rf.ox T.iF T.tF GI hr3 bI .nil pass0 rfl T.gF (pa_cons (pe_glob (v := .int 11) rfl hu ⟨_, rfl⟩) (pa_cons (pe_fld (pv 0) rfl) pa_nil))))) pss_nil)
      (pss_one (ps_ret (pv 2)))))), ?_⟩
    refine ⟨_, rfl, _, rfl, wl, [], ws, rfl, hq, hl1, Nat.zero_le _, fun w hw => Nat.le_trans (hl2 w hw) (by decide), fun H1 D sm nD eD => ?_⟩
    refine ⟨fun m σ H1 => ∃ (acc : List Nat) (p : Nat) (sl : Addr), σ = [some (.ref r), some (.ref wl), some (stV acc), some (.ref sl)] ∧ At K CR r dx ta t H1 p ∧ Only r r H H1 ∧ H1 sl = some (.lst ((heads (tag acc ws)).map sgV)) ∧
      munch (t.drop p0) (tag [] ws) p0 = munch (t.drop p) (tag acc ws) p ∧ acc.length ≤ 1000 ∧ m = t.length - p, ⟨_, [], p0, D, rfl, a.same sm, Only.same sm, eD, rfl, Nat.zero_le _, rfl⟩, ?_⟩
    rintro m σ H2 ⟨acc, p, sl, rfl, a2, on, es, em, hacc, rfl⟩
    refine ⟨_, rfl, r, dx, _, rfl, a2.ob, rfl, _, rfl, r, dx, ta, t, p, _, heads (tag acc ws), rfl, a2, .inr ⟨sl, rfl, SqL.of es⟩, Nat.le_trans (heads_len _ _) hl1, fun H3 sm3 => ⟨_, rfl, ?_⟩⟩
    have a3 := a2.same sm3
    have on3 : Only r r H H3 := on.trans (Only.same sm3)
    have hq3 : SqL K H3 wl (ws.map stV) := seq_only1 hq a.ob on3
    cases hsh : showsM (heads (tag acc ws)) (t.drop p) with
    | true =>
      refine iteT ?_
      obtain ⟨c, l, ed, hc⟩ := shows_yes hsh
      refine ⟨fun σ H1 => ∃ (acc : List Nat) (p' : Nat) (sl : Addr), σ = [some (.ref r), some (.ref wl), some (stV acc), some (.ref sl)] ∧ At K CR r dx ta t H1 p' ∧ Only r r H H1 ∧ H1 sl = some (.lst ((heads (tag acc ws)).map sgV)) ∧
        munch (t.drop p0) (tag [] ws) p0 = munch (t.drop p') (tag acc ws) p' ∧ acc.length ≤ 1000 ∧ p' = p + 1, ?_, ?_⟩
      · rintro σ' H' ⟨acc', p', sl', e, a4, on4, es4, em4, hacc4, rfl⟩
        have := drop_lt ed
        exact ⟨_, by omega, acc', p + 1, sl', e, a4, on4, es4, em4, hacc4, rfl⟩
      · refine ⟨_, rfl, _, rfl, r, dx, _, rfl, a3.ob, rfl, _, rfl, r, dx, ta, t, p, _, heads (tag acc ws), rfl, a3, .inr ⟨sl, rfl, SqL.of (sm3 _ _ es)⟩, Nat.le_trans (heads_len _ _) hl1, ?_, ?_⟩
        · intro k hk
          rw [ed, signM_hit hc] at hk
          cases hk
        · intro c' q' hk H4 v ev a4 on4
          subst ev
          rw [ed, signM_hit hc] at hk
          have hk1 := Except.ok.inj hk
          have e1 : c.toNat = c' := (Prod.mk.inj hk1).1
          have e2 : p + 1 = q' := (Prod.mk.inj (Prod.mk.inj hk1).2).1
          subst e1
          subst e2
          obtain ⟨w, hw, hlt⟩ := heads_mem hc
          have hw2 := hl2 w hw
          have on5 : Only r r H H4 := on3.trans on4
          have hq4 : SqL K H4 wl (ws.map stV) := seq_only1 hq a.ob on5
          refine ⟨S acc, _, rfl, rfl, ?_, ?_⟩
          · rw [S_len]
            show acc.length + 1 ≤ sizeLine
            exact Nat.le_of_lt (small1000 (by omega))
          · refine ⟨_, rfl, _, rfl, wl, acc ++ [c.toNat], ws, ?_, hq4, hl1, by rw [List.length_append]; show acc.length + 1 ≤ 1000; omega, fun w hw => Nat.le_trans (hl2 w hw) (by decide), fun H5 D5 sm5 nD5 eD5 => ?_⟩
            · show [V.str (S acc ++ S [c.toNat]), V.ref wl] ++ [] = [stV (acc ++ [c.toNat]), V.ref wl]
              rw [S_cat]
              rfl
            · refine ⟨acc ++ [c.toNat], p + 1, D5, ?_, a4.same sm5, on5.trans (Only.same sm5), eD5, ?_, by rw [List.length_append]; show acc.length + 1 ≤ 1000; omega, rfl⟩
              · show [some (V.ref r), some (V.ref wl), some (V.str (S acc ++ S [c.toNat])), some (V.ref D5)] = _
                rw [S_cat]
              · rw [em, ed, munch_go hc, drop_succ ed]
    | false =>
      refine iteF ?_
      have st := munch_stop (ws := ws) (acc := acc) (p := p) (b := t.drop p) (shows_no hsh)
      rw [← em] at st
      refine ⟨_, rfl, _, rfl, wl, _, rfl, .inl hq3, rfl, flat_st ws, _, rfl, ?_⟩
      rw [inV_st]
      by_cases hm : acc ∈ ws
      · refine if_false_of (by rw [decide_eq_true hm]; rfl) ?_
        rw [if_pos hm] at st
        exact ⟨_, rfl, q.2 acc p st H3 _ rfl a3 on3⟩
      · refine if_true_of (by rw [decide_eq_false hm]; rfl) ?_
        rw [if_neg hm] at st
        refine ⟨_, rfl, r, CR, dx, _, _, rfl, a3.ob, T.cl, T.nPlace, look_place ta p, ?_⟩
        exact raise_ok (q.1 p st)
end
end Ab

set_option Elab.async false
set_option linter.all false
set_option maxRecDepth 100000
set_option maxHeartbeats 2000000
namespace Ab
open PySem PySem.Spec PyProof.Rows L2 AbM
open Na (Bytes)
/-- what is open, as the program keeps it: the innermost last -/
def bkW (k : Nat) : List Nat := if k = 1 then wIf else if k = 0 then wWhile else wElse
abbrev bkV (o : List Nat) : List V := o.reverse.map fun k => stV (bkW k)
def spLW (K : PySem.W.Frag) : Sp := fun vs H Q _ => ∃ (bl : Addr) (o : List Nat), vs = [.ref bl] ∧ H bl = some (.lst (bkV o)) ∧ o.length ≤ 16 ∧
  ∀ (H' : Hp) (D : Addr), Same H H' → H D = none → H' D = some (.lst ((lineWords o).map stV)) → Q (.ref D) H'
/-- what the grammar's top has written -/
structure Gram (mg : Str → Option Value) : Prop where
  blocks : ∃ u, mg "MOST_BLOCKS" = some (.int 16 u)
  bracks : ∃ u, mg "MOST_BRACKETS" = some (.int 16 u)
  mdig : ∃ u, mg "MOST_DIGITS" = some (.int 4 u)
  digits : ∃ u, mg "DIGITS" = some (.str "0123456789" u)
  heads : ∃ u, mg "HEADS" = some (.str "abcdefgh" u)
  marks : ∃ u, mg "MARKS" = some (.str "ABCDEFGH" u)
theorem bkW_if {k : Nat} (h : k ≠ 1) : bkW k ≠ wIf := by
  unfold bkW
  rw [if_neg h]
  split <;> decide
def lwX (o : List Nat) : List (List Nat) := [wAdd, wTake, wSet, wStop, wFail] ++ (if o.length < 16 then [wIf, wWhile] else [])
theorem lwX_len (o : List Nat) : (lwX o).length ≤ 10 := by
  unfold lwX
  split <;> decide
theorem lw_if (r : List Nat) : lineWords (1 :: r) = lwX (1 :: r) ++ [wEnd] ++ [wElse] := by
  rw [List.append_assoc]
  rfl
theorem lw_other {k : Nat} (r : List Nat) (h : k ≠ 1) : lineWords (k :: r) = lwX (k :: r) ++ [wEnd] := by
  show ([wAdd, wTake, wSet, wStop, wFail] ++ (if (k :: r).length < 16 then [wIf, wWhile] else [])) ++ (wEnd :: (if some k = some 1 then [wElse] else [])) = _
  rw [if_neg (fun z => h (Option.some.inj z))]
  rfl
section
variable {P : Program} {w : World} {K : PySem.W.Frag} {mg : Str → Option Value} {base : Heap} {CE fBI CF fFI CR : Addr}
theorem scLW : FnScope ["blocks", "words"] ["blocks"] (defScope sLW) := ⟨rfl, rfl, rfl, by decide +kernel, rfl, by decide +kernel, by decide +kernel⟩
theorem ok_LW {f : Addr} {fd : FuncData} (F : Fun K "line_words" "line_words" sLW f fd) (T : Txt K mg CE fBI CF fFI CR) (G : Gram mg) : FnOk P w K mg base CX0 1 f fd ["blocks"] (spLW K) := by
  refine F.ok scLW (fun vs H Q E h => ?_) (fun cdv A outer s H vs Q E hr h => ?_)
  · obtain ⟨bl, o, rfl, _⟩ := h
    rfl
  · obtain ⟨bl, o, rfl, hb, ho, q⟩ := h
    obtain ⟨u, hu⟩ := G.blocks
    refine ⟨_, pss_cons (ps_set (i := 1) scLW.nd rfl (Or.inl rfl) (pe_lst (pa_cons pe_str (pa_cons pe_str (pa_cons pe_str (pa_cons pe_str (pa_cons pe_str pa_nil)))))))
      (C8.pss_cut (ps_if (pt_cmpR op_lt (pe_callB call_len_seq (by rfl) T.len PySem.boot_len (pa_cons (pv 0) pa_nil)) (pe_glob (v := .int 16) rfl hu ⟨_, rfl⟩) (nomark _))
        (pss_one (ps_expr (pe_bm PySem.F.plainAttrs_list PySem.F.slot_list_extend PySem.F.type_list_extend mt_extend (pv 1) (pa_cons (pe_lst (pa_cons pe_str (pa_cons pe_str pa_nil))) pa_nil)))) pss_nil)
      (C8.pss_cut (ps_if (pt_truth (pv 0) (by intro _; rfl))
        (pss_cons (ps_expr (pe_bm PySem.F.plainAttrs_list PySem.F.slot_list_append PySem.F.type_list_append mt_append (pv 1) (pa_cons pe_str pa_nil)))
          (pss_one (ps_if (pt_cmpR op_eq (pe_ix ix_list (pv 0) (pe_un un_neg pe_int) (fun _ _ => rfl)) pe_str (nomark _))
            (pss_one (ps_expr (pe_bm PySem.F.plainAttrs_list PySem.F.slot_list_append PySem.F.type_list_append mt_append (pv 1) (pa_cons pe_str pa_nil)))) pss_nil))) pss_nil)
      (pss_one (ps_ret (pv 1))))), ?_⟩
    refine ⟨by show 5 ≤ sizeLine; exact Nat.le_of_lt (small1000 (by decide)), fun D nD => ?_⟩
    have e0 : ([V.str "add ", V.str "take ", V.str "set ", V.str "stop\n", V.str "fail\n"] : List V) = ([wAdd, wTake, wSet, wStop, wFail] : List (List Nat)).map stV := by rfl
    refine ⟨fun σ H1 => σ = [some (.ref bl), some (.ref D)] ∧ Same H H1 ∧ H1 D = some (.lst ((lwX o).map stV)), ?_, ?_⟩
    · have hb1 : (upd H D (.lst (([wAdd, wTake, wSet, wStop, wFail] : List (List Nat)).map stV))) bl = some (.lst (bkV o)) := by rw [upd_ne (ne_of_none hb nD)]; exact hb
      refine ⟨_, rfl, bl, _, rfl, .inl (SqL.of hb1), _, _, rfl, rfl, _, rfl, ?_⟩
      have el : ((bkV o).length : Nat) = o.length := by simp
      by_cases hl : o.length < 16
      · refine if_true_of (by rw [el]; exact decide_eq_true (by omega)) ?_
        refine ⟨_, rfl, .inl ⟨rfl, _, SqL.of upd_same⟩, by show 2 ≤ sizeLine; exact Nat.le_of_lt (small1000 (by decide)), fun D2 nD2 => ?_⟩
        have nd : D ≠ D2 := ne_of_none upd_same nD2
        refine ⟨D, D2, _, _, rfl, rfl, by rw [upd_ne nd]; exact upd_same, upd_same, by show 5 + 2 ≤ sizeLine; exact Nat.le_of_lt (small1000 (by decide)), rfl, ?_, ?_⟩
        · refine fun b x e => ?_
          have n1 := ne_of_none e nD
          have n2 : b ≠ D2 := by
            have : (upd H D (.lst (([wAdd, wTake, wSet, wStop, wFail] : List (List Nat)).map stV))) b = some x := by rw [upd_ne n1]; exact e
            exact ne_of_none this nD2
          rw [upd_ne n1, upd_ne n2]
          show upd H D _ b = _
          rw [upd_ne n1]
          exact e
        · rw [upd_same]
          unfold lwX
          rw [if_pos hl]
          rfl
      · refine if_false_of (by rw [el]; exact decide_eq_false (by omega)) ?_
        refine ⟨rfl, same_upd nD, ?_⟩
        unfold lwX
        rw [if_neg hl]
        exact upd_same
    · rintro σ H1 ⟨rfl, sm, eD⟩
      have hb1 := sm _ _ hb
      refine ⟨fun σ H1 => σ = [some (.ref bl), some (.ref D)] ∧ Same H H1 ∧ H1 D = some (.lst ((lineWords o).map stV)), ?_, ?_⟩
      · refine ⟨_, rfl, !(bkV o).isEmpty, .inl ⟨_, SqL.of hb1, rfl⟩, ?_⟩
        cases o with
        | nil =>
          refine if_false_of rfl ?_
          refine ⟨rfl, sm, ?_⟩
          rw [eD]
          rfl
        | cons k r =>
          have hne : (!(bkV (k :: r)).isEmpty) = true := by simp [bkV]
          refine if_true_of hne ?_
          refine ⟨_, rfl, .inl ⟨rfl, _, SqL.of eD⟩, D, _, _, rfl, rfl, eD, ?_, ?_⟩
          · rw [List.length_map]
            have := lwX_len (k :: r)
            exact small1000 (by omega)
          · have nb : bl ≠ D := ne_of_none hb nD
            have hb2 : ∀ o', (upd H1 D o') bl = some (.lst (bkV (k :: r))) := fun o' => by rw [upd_ne nb]; exact hb1
            have elast : bkV (k :: r) = bkV r ++ [stV (bkW k)] := by
              show ((k :: r).reverse.map _) = _
              rw [List.reverse_cons, List.map_append]
              rfl
            refine ⟨_, rfl, _, rfl, bl, _, _, _, rfl, rfl, SqL.of (hb2 _), by rw [elast]; exact atI_last _ _, rfl, _, rfl, ?_⟩
            have sm2 : ∀ o', Same H (upd H1 D o') := fun o' b x e => by
              rw [upd_ne (ne_of_none e nD)]
              exact sm b x e
            by_cases hk : k = 1
            · subst hk
              refine if_true_of (by rfl) ?_
              refine ⟨_, rfl, .inl ⟨rfl, _, SqL.of upd_same⟩, D, _, _, rfl, rfl, upd_same, ?_, rfl, ?_, ?_⟩
              · rw [List.length_append, List.length_map]
                have := lwX_len (1 :: r)
                exact small1000 (by show _ + 1 ≤ 1000; omega)
              · rw [upd_upd]
                exact sm2 _
              · rw [upd_same]
                rw [lw_if, List.map_append, List.map_append]
                rfl
            · refine if_false_of (decide_eq_false fun z => ?_) ?_
              · have z' : S (bkW k) = S wIf := by
                  have := V.str.inj z
                  exact this
                exact bkW_if hk (S_inj z')
              · refine ⟨rfl, sm2 _, ?_⟩
                rw [upd_same]
                rw [lw_other r hk, List.map_append]
                rfl
      · rintro σ H2 ⟨rfl, sm2, eD2⟩
        exact ⟨_, rfl, q H2 D sm2 nD eD2⟩
end
end Ab

set_option Elab.async false
set_option linter.all false
set_option maxRecDepth 100000
set_option maxHeartbeats 2000000
namespace Ab
open PySem PySem.Spec PyProof.Rows L2 AbM
open Na (Bytes isDigit)
/-- what closes the brackets that are open, as the program keeps it: the innermost last -/
abbrev clV (cs : List UInt8) : List V := cs.reverse.map fun c => sgV c.toNat
theorem clV_cons (k : UInt8) (cs : List UInt8) : clV (k :: cs) = clV cs ++ [sgV k.toNat] := by
  show ((k :: cs).reverse.map _) = _
  rw [List.reverse_cons, List.map_append]
  rfl
theorem clV_len (cs : List UInt8) : (clV cs).length = cs.length := by simp
/-- a number, a sign, as the program keeps it -/
def tokV : Tk → V
  | .inl n => .int ((n : Nat) : Int)
  | .inr c => sgV c
abbrev tkV (L : List Tk) : List V := L.map tokV
theorem tkV_snoc (L : List Tk) (c : Nat) : tkV L ++ [sgV c] = tkV (L ++ [.inr c]) := by simp [tkV, tokV]
theorem small5 {n : Nat} (h : n ≤ 100000) : n < sizeLine := by rw [sizeLine_eq]; omega
theorem small5' {n : Nat} (h : n ≤ 100000) : n ≤ sizeLine := Nat.le_of_lt (small5 h)
theorem tk_small {t : Bytes} {p q : Nat} {L : List Tk} (h : Lex (t.drop p) L (t.drop q)) (hs : t.length ≤ 5000) : (tkV L).length ≤ 5000 := by
  have := h.len
  rw [List.length_map]
  rw [List.length_drop, List.length_drop] at this
  omega
theorem Only.upn {r c D : Addr} {H H1 : Hp} {o : HO} (a : Only r c H H1) (n : H D = none) : Only r c H (L2.upd H1 D o) := fun x u h1 h2 h => by
  rw [upd_ne (ne_of_none h n)]
  exact a x u h1 h2 h
theorem Only.thru {r c D : Addr} {H H1 H2 : Hp} (a : Only r c H H1) (n : H D = none) (b : Only r D H1 H2) : Only r c H H2 := fun x u h1 h2 h => b x u h1 (ne_of_none h n) (a x u h1 h2 h)
theorem At.updn {K : PySem.W.Frag} {CR r dx ta : Addr} {t : Bytes} {H : Hp} {p : Nat} (a : At K CR r dx ta t H p) {D : Addr} {o : HO} (n : r ≠ D) (x : Apart K ta D (bs t)) : At K CR r dx ta t (L2.upd H D o) p := a.updc n x
def spRO (K : PySem.W.Frag) (CR : Addr) : Sp := fun vs H Q _ => ∃ (r dx ta cl : Addr) (t : Bytes) (p : Nat) (cs : List UInt8), vs = [.ref r, .ref cl] ∧ At K CR r dx ta t H p ∧ H cl = some (.lst (clV cs)) ∧ Apart K ta cl (bs t) ∧ Cl cs ∧ cs.length ≤ 16 ∧
  ∀ (q : Nat) (cs' : List UInt8) (H' : Hp) (D : Addr) (L : List Tk), p ≤ q → At K CR r dx ta t H' q → Only r cl H H' → H' cl = some (.lst (clV cs')) → Cl cs' → cs'.length ≤ 16 → scan (t.drop p) .f cs p = scan (t.drop q) .f cs' q →
    (cs'.length < 16 → ∀ c l, t.drop q = c :: l → isBr c = false) → H D = none → H' D = some (.lst (tkV L)) → Lex (t.drop p) L (t.drop q) → Q (.ref D) H'
def spRC (K : PySem.W.Frag) (CR : Addr) : Sp := fun vs H Q _ => ∃ (r dx ta cl : Addr) (t : Bytes) (p : Nat) (cs : List UInt8), vs = [.ref r, .ref cl] ∧ At K CR r dx ta t H p ∧ H cl = some (.lst (clV cs)) ∧ Apart K ta cl (bs t) ∧ Cl cs ∧ cs.length ≤ 16 ∧
  ∀ (q : Nat) (cs' : List UInt8) (H' : Hp) (D : Addr) (L : List Tk), p ≤ q → At K CR r dx ta t H' q → Only r cl H H' → H' cl = some (.lst (clV cs')) → Cl cs' → cs'.length ≤ 16 → aft cs p (t.drop p) = aft cs' q (t.drop q) →
    (∀ k r, cs' = k :: r → ∀ c l, t.drop q = c :: l → c ≠ k) → H D = none → H' D = some (.lst (tkV L)) → Lex (t.drop p) L (t.drop q) → Q (.ref D) H'
theorem lex_br {t : Bytes} {p : Nat} {c : UInt8} {l : Bytes} (ed : t.drop p = c :: l) (h : isDigit c = false) : Lex (t.drop p) [.inr c.toNat] (t.drop (p + 1)) := by
  rw [ed, drop_succ ed]
  exact .one (lex_sign h)
theorem cl_dig {c : UInt8} (h : c = 93 ∨ c = 41) : isDigit c = false := by
  rcases h with e | e <;> (subst e; rfl)
/-- the table of brackets -/
structure Brk (K : PySem.W.Frag) (mg : Str → Option Value) (w : World) (aB : Addr) : Prop where
  gB : mg "BRACKETS" = some (.ref aB)
  sq : KDct K w aB ⟨#[91]⟩ (sgV 93)
  rd : KDct K w aB ⟨#[40]⟩ (sgV 41)
section
variable {P : Program} {w : World} {K : PySem.W.Frag} {mg : Str → Option Value} {base : Heap} {CE fBI CF fFI CR aB : Addr}
theorem Brk.at (B : Brk K mg w aB) {c : UInt8} (h : isBr c = true) : KDct K w aB ⟨#[c.toNat]⟩ (sgV (closer c).toNat) := by
  unfold isBr at h
  rcases (Bool.or_eq_true _ _).mp h with e | e
  · rw [beq_iff_eq] at e
    subst e
    exact B.sq
  · rw [beq_iff_eq] at e
    subst e
    exact B.rd
theorem scRO : FnScope ["reader", "closers", "brackets", "bracket"] ["reader", "closers"] (defScope sRO) := ⟨rfl, rfl, rfl, by decide +kernel, rfl, by decide +kernel, by decide +kernel⟩
theorem ok_RO {f fS fRS : Addr} {fd fdS fdRS : FuncData} (F : Fun K "read_opening_brackets" "read_opening_brackets" sRO f fd) (T : Txt K mg CE fBI CF fFI CR) (G : Gram mg) (B : Brk K mg w aB) (mS : Meth K CR "shows" fS) (GS : FnOk P w K mg base CX0 2 fS fdS ["self", "signs"] (spSh K CR)) (bS : Binds K fdS ["self", "signs"] [])
    (mR : Meth K CR "read_sign" fRS) (GR : FnOk P w K mg base (L2.CX P w) 4 fRS fdRS ["self", "signs"] (spRS K CR CF)) (bR : Binds K fdRS ["self", "signs"] []) :
    FnOk P w K mg base (L2.CX P w) 5 f fd ["reader", "closers"] (spRO K CR) := by
  refine F.okX scRO (fun vs H Q E h => ?_) (fun cdv A outer s H vs Q E hr h => ?_)
  · obtain ⟨r, dx, ta, cl, t, p, cs, rfl, _⟩ := h
    rfl
  · obtain ⟨r, dx, ta, cl, t, p0, cs0, rfl, a, hc, nt, hcl, hl, q⟩ := h
    obtain ⟨u, hu⟩ := G.bracks
    have hr2 : Room 2 _ := hr.mono (by decide)
    have nr : r ≠ cl := ne_of a.ob hc (by intro z; cases z)
    refine ⟨_, pss_cons (ps_set (i := 2) scRO.nd rfl (Or.inl rfl) (pe_lst pa_nil)) (pss_cons (ps_while (passes_of rfl) (PW.pt (pw_and (pt_cmpR op_lt (pe_callB call_len_seq (by rfl) T.len PySem.boot_len (pa_cons (pv 1) pa_nil)) (pe_glob (v := .int 16) rfl hu ⟨_, rfl⟩) (nomark _))
        (pw_and1 (pt_val (pe_meth (pv 0) T.cl mS GS hr2 bS .nil pass0 (pa_cons pe_str pa_nil))))))
      (pss_cons (ps_set (i := 3) scRO.nd rfl (Or.inl rfl) (pe_meth (pv 0) T.cl mR GR hr bR .nil (passes_call (takes_of rfl rfl rfl rfl) (fun _ _ _ _ h => h)) (pa_cons pe_str pa_nil)))
      (pss_cons (ps_expr (pe_bm PySem.F.plainAttrs_list PySem.F.slot_list_append PySem.F.type_list_append mt_append (pv 2) (pa_cons (pv 3) pa_nil)))
      (pss_one (ps_expr (pe_bm PySem.F.plainAttrs_list PySem.F.slot_list_append PySem.F.type_list_append mt_append (pv 1)
        (pa_cons (pe_ix ix_kdict (pe_glob (v := .ref aB) rfl B.gB rfl) (pv 3) (fun _ _ => rfl)) pa_nil))))))) (pss_one (ps_ret (pv 2)))), ?_⟩
    refine ⟨Nat.zero_le _, fun D nD => ?_⟩
    have nrD : r ≠ D := ne_of_none a.ob nD
    have ncD : cl ≠ D := ne_of_none hc nD
    have ntD : Apart K ta D (bs t) := Apart.new a.tx nD
    refine ⟨fun m σ H1 => ∃ (cs : List UInt8) (p : Nat) (L : List Tk) (v3 : Option V), σ = [some (.ref r), some (.ref cl), some (.ref D), v3] ∧ At K CR r dx ta t H1 p ∧ Only r cl H H1 ∧ H1 cl = some (.lst (clV cs)) ∧ Cl cs ∧ cs.length ≤ 16 ∧
      scan (t.drop p0) .f cs0 p0 = scan (t.drop p) .f cs p ∧ p0 ≤ p ∧ H1 D = some (.lst (tkV L)) ∧ Lex (t.drop p0) L (t.drop p) ∧ m = t.length - p,
      ⟨_, cs0, p0, [], _, rfl, a.updn nrD ntD, Only.refl.upn nD, by rw [upd_ne ncD]; exact hc, hcl, hl, rfl, Nat.le_refl _, upd_same, .nil _, rfl⟩, ?_⟩
    rintro m σ H2 ⟨cs, p, L, v3, rfl, a2, on, ec, hcs, hlen, es, hp, eD, lx, rfl⟩
    refine ⟨_, rfl, cl, _, rfl, .inl (SqL.of ec), _, _, rfl, rfl, _, rfl, ?_⟩
    by_cases h16 : cs.length < 16
    · refine if_true_of (by rw [clV_len]; exact decide_eq_true (by omega)) ?_
      refine ⟨_, rfl, r, dx, _, rfl, a2.ob, rfl, r, dx, ta, t, p, _, [91, 40], rfl, a2, .inl rfl, by show 2 ≤ 1000; decide, fun H3 sm3 => ⟨_, rfl, ?_⟩⟩
      have a3 := a2.same sm3
      have on3 : Only r cl H H3 := on.trans (Only.same sm3)
      have ec3 := sm3 _ _ ec
      have eD3 := sm3 _ _ eD
      cases hsh : showsM [91, 40] (t.drop p) with
      | true =>
        refine iteT ?_
        obtain ⟨c, l, ed, hm⟩ := shows_yes hsh
        have hb : isBr c = true := (isBr_iff c).mpr hm
        refine ⟨fun σ H1 => ∃ (cs : List UInt8) (p' : Nat) (L : List Tk) (v3 : Option V), σ = [some (.ref r), some (.ref cl), some (.ref D), v3] ∧ At K CR r dx ta t H1 p' ∧ Only r cl H H1 ∧ H1 cl = some (.lst (clV cs)) ∧ Cl cs ∧ cs.length ≤ 16 ∧
          scan (t.drop p0) .f cs0 p0 = scan (t.drop p') .f cs p' ∧ p0 ≤ p' ∧ H1 D = some (.lst (tkV L)) ∧ Lex (t.drop p0) L (t.drop p') ∧ p' = p + 1, ?_, ?_⟩
        · rintro σ' H' ⟨cs', p', L', v3', e, a4, on4, ec4, hcs4, hl4, es4, hp4, eD4, lx4, rfl⟩
          have := drop_lt ed
          exact ⟨_, by omega, cs', p + 1, L', v3', e, a4, on4, ec4, hcs4, hl4, es4, hp4, eD4, lx4, rfl⟩
        · refine ⟨_, rfl, r, dx, _, rfl, a3.ob, rfl, r, dx, ta, t, p, _, [91, 40], rfl, a3, .inl rfl, by show 2 ≤ 1000; decide, ?_, ?_⟩
          · intro k hk
            rw [ed, signM_hit hm] at hk
            cases hk
          · intro c' q' hk H4 v ev a4 on4
            subst ev
            rw [ed, signM_hit hm] at hk
            have hk1 := Except.ok.inj hk
            have e1 : c.toNat = c' := (Prod.mk.inj hk1).1
            have e2 : p + 1 = q' := (Prod.mk.inj (Prod.mk.inj hk1).2).1
            subst e1
            subst e2
            have ec4 := on4 _ _ (Ne.symm nr) (Ne.symm nr) ec3
            have eD4 := on4 _ _ (Ne.symm nrD) (Ne.symm nrD) eD3
            refine ⟨_, rfl, .inl ⟨rfl, _, SqL.of eD4⟩, _, rfl, D, _, _, rfl, rfl, eD4, small5 (Nat.le_trans (tk_small lx a.sz) (by decide)), ?_⟩
            have ec5 : (upd H4 D (.lst (tkV L ++ [sgV c.toNat]))) cl = some (.lst (clV cs)) := by rw [upd_ne ncD]; exact ec4
            refine ⟨_, rfl, .inl ⟨rfl, _, SqL.of ec5⟩, _, rfl, aB, _, _, rfl, rfl, B.at hb, cl, _, _, rfl, rfl, ec5, ?_, ?_⟩
            · rw [clV_len]
              exact small1000 (by omega)
            · refine ⟨closer c :: cs, p + 1, L ++ [.inr c.toNat], _, rfl, (a4.updn nrD ntD).updc nr nt, ((on3.trans (Only.wide on4)).upn nD).trans Only.updc, ?_, closer_cl hcs c, by rw [List.length_cons]; omega, ?_, by omega, ?_, lx.append (lex_br ed (br_not hb).2.1), rfl⟩
              · rw [upd_same, clV_cons]
              · rw [es, ed, scan_open hb h16, drop_succ ed]
              · rw [upd_ne (Ne.symm ncD), upd_same, tkV_snoc]
      | false =>
        refine iteF ?_
        refine ⟨_, rfl, ?_⟩
        refine q p cs H3 D L hp a3 on3 ec3 hcs hlen es (fun _ c l ed => ?_) nD eD3 lx
        have := shows_no hsh c l ed
        cases hb : isBr c with
        | false => rfl
        | true => exact absurd ((isBr_iff c).mp hb) this
    · refine if_false_of (by rw [clV_len]; exact decide_eq_false (by omega)) ?_
      refine if_false_of rfl ?_
      exact ⟨_, rfl, q p cs H2 D L hp a2 on ec hcs hlen es (fun z => absurd z h16) nD eD lx⟩
theorem scRC : FnScope ["reader", "closers", "brackets"] ["reader", "closers"] (defScope sRC) := ⟨rfl, rfl, rfl, by decide +kernel, rfl, by decide +kernel, by decide +kernel⟩
theorem ok_RC {f fS fRS : Addr} {fd fdS fdRS : FuncData} (F : Fun K "read_closing_brackets" "read_closing_brackets" sRC f fd) (T : Txt K mg CE fBI CF fFI CR) (mS : Meth K CR "shows" fS) (GS : FnOk P w K mg base CX0 2 fS fdS ["self", "signs"] (spSh K CR)) (bS : Binds K fdS ["self", "signs"] [])
    (mR : Meth K CR "read_sign" fRS) (GR : FnOk P w K mg base (L2.CX P w) 4 fRS fdRS ["self", "signs"] (spRS K CR CF)) (bR : Binds K fdRS ["self", "signs"] []) :
    FnOk P w K mg base (L2.CX P w) 5 f fd ["reader", "closers"] (spRC K CR) := by
  refine F.okX scRC (fun vs H Q E h => ?_) (fun cdv A outer s H vs Q E hr h => ?_)
  · obtain ⟨r, dx, ta, cl, t, p, cs, rfl, _⟩ := h
    rfl
  · obtain ⟨r, dx, ta, cl, t, p0, cs0, rfl, a, hc, nt, hcl, hl, q⟩ := h
    have hr2 : Room 2 _ := hr.mono (by decide)
    have nr : r ≠ cl := ne_of a.ob hc (by intro z; cases z)
    refine ⟨_, pss_cons (ps_set (i := 2) scRC.nd rfl (Or.inl rfl) (pe_lst pa_nil)) (pss_cons (ps_while (passes_of rfl) (PW.pt (pw_and (pt_truth (pv 1) (by intro _; rfl))
        (pw_and1 (pt_val (pe_meth (pv 0) T.cl mS GS hr2 bS .nil pass0 (pa_cons (pe_ix ix_list (pv 1) (pe_un un_neg pe_int) (fun _ _ => rfl)) pa_nil))))))
      (pss_one (ps_expr (pe_bm PySem.F.plainAttrs_list PySem.F.slot_list_append PySem.F.type_list_append mt_append (pv 2) (pa_cons (pe_meth (pv 0) T.cl mR GR hr bR .nil (passes_call (takes_of rfl rfl rfl rfl) (fun _ _ _ _ h => h)) (pa_cons (pe_bm0 PySem.F.plainAttrs_list PySem.F.slot_list_pop PySem.F.type_list_pop mt_pop (pv 1)) pa_nil)) pa_nil))))) (pss_one (ps_ret (pv 2)))), ?_⟩
    refine ⟨Nat.zero_le _, fun D nD => ?_⟩
    have nrD : r ≠ D := ne_of_none a.ob nD
    have ncD : cl ≠ D := ne_of_none hc nD
    have ntD : Apart K ta D (bs t) := Apart.new a.tx nD
    refine ⟨fun m σ H1 => ∃ (cs : List UInt8) (p : Nat) (L : List Tk), σ = [some (.ref r), some (.ref cl), some (.ref D)] ∧ At K CR r dx ta t H1 p ∧ Only r cl H H1 ∧ H1 cl = some (.lst (clV cs)) ∧ Cl cs ∧ cs.length ≤ 16 ∧
      aft cs0 p0 (t.drop p0) = aft cs p (t.drop p) ∧ p0 ≤ p ∧ H1 D = some (.lst (tkV L)) ∧ Lex (t.drop p0) L (t.drop p) ∧ m = t.length - p,
      ⟨_, cs0, p0, [], rfl, a.updn nrD ntD, Only.refl.upn nD, by rw [upd_ne ncD]; exact hc, hcl, hl, rfl, Nat.le_refl _, upd_same, .nil _, rfl⟩, ?_⟩
    rintro m σ H2 ⟨cs, p, L, rfl, a2, on, ec, hcs, hlen, es, hp, eD, lx, rfl⟩
    refine ⟨_, rfl, !(clV cs).isEmpty, .inl ⟨_, SqL.of ec, rfl⟩, ?_⟩
    cases cs with
    | nil =>
      refine if_false_of rfl ?_
      refine if_false_of rfl ?_
      exact ⟨_, rfl, q p [] H2 D L hp a2 on ec hcs hlen es (fun k r e => by cases e) nD eD lx⟩
    | cons k rest =>
      refine if_true_of (by simp) ?_
      have elast : atI (clV (k :: rest)) (-1) = some (sgV k.toNat) := by
        rw [clV_cons]
        exact atI_last _ _
      refine ⟨_, rfl, r, dx, _, rfl, a2.ob, rfl, _, rfl, _, rfl, cl, _, _, _, rfl, rfl, SqL.of ec, elast, r, dx, ta, t, p, sgV k.toNat, [k.toNat], rfl, a2, .inl rfl, by show 1 ≤ 1000; decide, fun H3 sm3 => ⟨_, rfl, ?_⟩⟩
      have a3 := a2.same sm3
      have on3 : Only r cl H H3 := on.trans (Only.same sm3)
      have ec3 := sm3 _ _ ec
      have eD3 := sm3 _ _ eD
      cases hsh : showsM [k.toNat] (t.drop p) with
      | true =>
        refine iteT ?_
        obtain ⟨c, l, ed, hm⟩ := shows_hit hsh
        have ek : c = k := UInt8.toNat_inj.mp hm
        subst ek
        refine ⟨fun σ H1 => ∃ (cs : List UInt8) (p' : Nat) (L : List Tk), σ = [some (.ref r), some (.ref cl), some (.ref D)] ∧ At K CR r dx ta t H1 p' ∧ Only r cl H H1 ∧ H1 cl = some (.lst (clV cs)) ∧ Cl cs ∧ cs.length ≤ 16 ∧
          aft cs0 p0 (t.drop p0) = aft cs p' (t.drop p') ∧ p0 ≤ p' ∧ H1 D = some (.lst (tkV L)) ∧ Lex (t.drop p0) L (t.drop p') ∧ p' = p + 1, ?_, ?_⟩
        · rintro σ' H' ⟨cs', p', L', e, a4, on4, ec4, hcs4, hl4, es4, hp4, eD4, lx4, rfl⟩
          have := drop_lt ed
          exact ⟨_, by omega, cs', p + 1, L', e, a4, on4, ec4, hcs4, hl4, es4, hp4, eD4, lx4, rfl⟩
        · have a4 := a3.updc (o := .lst (clV rest)) nr nt
          have elast2 : (clV (c :: rest))[(clV (c :: rest)).length - 1]? = some (sgV c.toNat) := by
            rw [clV_cons]
            simp
          have edrop : (clV (c :: rest)).dropLast = clV rest := by
            rw [clV_cons, List.dropLast_concat]
          refine ⟨_, rfl, .inl ⟨rfl, _, SqL.of eD3⟩, _, rfl, r, dx, _, rfl, a3.ob, rfl, _, rfl, .inl ⟨rfl, _, SqL.of ec3⟩, cl, _, _, rfl, rfl, ec3, elast2, ?_⟩
          rw [edrop]
          have hh : c.toNat ∈ [c.toNat] := List.mem_cons_self
          refine ⟨r, dx, ta, t, p, sgV c.toNat, [c.toNat], rfl, a4, .inl rfl, by show 1 ≤ 1000; decide, ?_, ?_⟩
          · intro j hk
            rw [ed, signM_hit hh] at hk
            cases hk
          · intro c' q' hk H4 v ev a5 on4
            subst ev
            rw [ed, signM_hit hh] at hk
            have e1 : c.toNat = c' := (Prod.mk.inj (Except.ok.inj hk)).1
            have e2 : p + 1 = q' := (Prod.mk.inj (Prod.mk.inj (Except.ok.inj hk)).2).1
            subst e1
            subst e2
            have eD4 : H4 D = some (.lst (tkV L)) := on4 _ _ (Ne.symm nrD) (Ne.symm nrD) (by rw [upd_ne (Ne.symm ncD)]; exact eD3)
            refine ⟨D, _, _, rfl, rfl, eD4, small5 (Nat.le_trans (tk_small lx a.sz) (by decide)), ?_⟩
            refine ⟨rest, p + 1, L ++ [.inr c.toNat], rfl, a5.updn nrD ntD, (on3.trans (Only.updc.trans (Only.wide on4))).upn nD, ?_, fun k hk => hcs k (List.mem_cons_of_mem _ hk), by rw [List.length_cons] at hlen; omega, ?_, by omega, ?_, lx.append (lex_br ed (cl_dig (hcs c List.mem_cons_self))), rfl⟩
            · rw [upd_ne ncD]
              exact on4 _ _ (Ne.symm nr) (Ne.symm nr) upd_same
            · rw [es, ed, aft_shut, drop_succ ed]
            · rw [upd_same, tkV_snoc]
      | false =>
        refine iteF ?_
        refine ⟨_, rfl, ?_⟩
        refine q p (k :: rest) H3 D L hp a3 on3 ec3 hcs hlen es (fun k' r' e c l ed z => ?_) nD eD3 lx
        have e1 := (List.cons.inj e).1
        subst e1
        subst z
        exact shows_no hsh c l ed List.mem_cons_self
end
end Ab

set_option Elab.async false
set_option linter.all false
set_option maxRecDepth 100000
set_option maxHeartbeats 2000000
namespace Ab
open PySem PySem.Spec PyProof.Rows L2 AbM
open Na (Bytes isDigit exHere digitsAt)
def spRN (K : PySem.W.Frag) (CR CF : Addr) : Sp := fun vs H Q E => ∃ (r dx ta : Addr) (t : Bytes) (p : Nat), vs = [.ref r] ∧ At K CR r dx ta t H p ∧
  Out K CR CF r dx ta t (numM p (t.drop p)) H r (fun k _ v => v = tokV k) Q E
/-- an E as the program keeps it: a new list of what is worked out, in its order -/
def ExV (H H' : Hp) (v : V) (x : Na.Ex) : Prop := ∃ a, v = .ref a ∧ H a = none ∧ H' a = some (.lst (tkV (post x))) ∧ (post x).length ≤ 5000 ∧ x.ok = true
def spRE (K : PySem.W.Frag) (CR CF : Addr) : Sp := fun vs H Q E => ∃ (r dx ta : Addr) (t : Bytes) (p : Nat), vs = [.ref r] ∧ At K CR r dx ta t H p ∧
  Out K CR CF r dx ta t (exHere p (t.drop p)) H r (fun x H' v => ExV H H' v x) Q E
abbrev dv (acc : List Nat) : Nat := NumText.digitsVal acc
def left (acc : List Nat) : Nat := if acc = [48] then 0 else 4 - acc.length
def numR (acc : List Nat) (p : Nat) (b : Bytes) : Except Nat (Tk × (Nat × Bytes)) := .ok (.inl (digitsAt (left acc) (dv acc) 0 b).1, digs (left acc) p b)
theorem numR_stop {acc : List Nat} {p : Nat} {b : Bytes} (h : left acc = 0 ∨ ∀ c l, b = c :: l → isDigit c = false) : numR acc p b = .ok (.inl (dv acc), p, b) := by
  unfold numR
  rw [digs_stop h]
  have e : (digitsAt (left acc) (dv acc) 0 b).1 = dv acc := by
    cases hn : left acc with
    | zero => rfl
    | succ n =>
      cases b with
      | nil => rfl
      | cons c l =>
        have hc : ¬ isDigit c = true := by
          rcases h with h | h
          · rw [hn] at h; cases h
          · rw [h c l rfl]; exact Bool.false_ne_true
        show (if isDigit c = true then digitsAt n _ _ l else _).1 = _
        rw [if_neg hc]
  rw [e]
theorem numR_go {acc : List Nat} {p : Nat} {d : UInt8} {l : Bytes} (h0 : acc ≠ [48]) (h1 : acc ≠ []) (h4 : acc.length < 4) (hd : isDigit d = true) : numR acc p (d :: l) = numR (acc ++ [d.toNat]) (p + 1) l := by
  have e1 : left acc = left (acc ++ [d.toNat]) + 1 := by
    unfold left
    have hn : acc ++ [d.toNat] ≠ [48] := fun z => by
      have := congrArg List.length z
      rw [List.length_append] at this
      cases acc with
      | nil => exact h1 rfl
      | cons _ _ => simp at this
    rw [if_neg h0, if_neg hn, List.length_append]
    simp only [List.length_cons, List.length_nil]
    omega
  unfold numR
  rw [e1, digs_go hd]
  have e2 : (digitsAt (left (acc ++ [d.toNat]) + 1) (dv acc) 0 (d :: l)).1 = (digitsAt (left (acc ++ [d.toNat])) (dv (acc ++ [d.toNat])) 0 l).1 := by
    show (if isDigit d = true then digitsAt (left (acc ++ [d.toNat])) (10 * dv acc + (d.toNat - 48)) (0 + 1) l else _).1 = _
    rw [if_pos hd, (digits_at _ _ _ 0 l).1]
    have e3 : dv (acc ++ [d.toNat]) = 10 * dv acc + (d.toNat - 48) := by
      show NumText.digitsVal (acc ++ [d.toNat]) = _
      rw [NumText.digitsVal_snoc, Nat.mul_comm]
    rw [e3]
  rw [e2]
theorem numM_digit {p : Nat} {c : UInt8} {l : Bytes} (h : isDigit c = true) : numM p (c :: l) = numR [c.toNat] (p + 1) l := by
  rw [numM_cons]
  have e3 : dv [c.toNat] = c.toNat - 48 := by
    show 0 * 10 + (c.toNat - 48) = _
    omega
  by_cases h0 : c = 48
  · subst h0
    rfl
  · have hn : ([c.toNat] : List Nat) ≠ [48] := fun z => h0 (UInt8.toNat_inj.mp (List.cons.inj z).1)
    have e : left [c.toNat] = 3 := by
      unfold left
      rw [if_neg hn]
      rfl
    rw [if_neg h0, if_pos h]
    unfold numR
    rw [e, e3]
theorem mem_dig {c : Nat} (h : c ∈ nDig) : c ∈ nDig ++ nHead ++ nMark := List.mem_append_left _ (List.mem_append_left _ h)
theorem numM_error {p : Nat} {b : Bytes} (h : showsM (nDig ++ nHead ++ nMark) b = false) : numM p b = .error p := by
  cases b with
  | nil => rfl
  | cons c l =>
    have hn := shows_no h c l rfl
    have h1 : ¬ isDigit c = true := fun z => hn (mem_dig ((isDigit_iff c).mp z))
    have h0 : c ≠ 48 := fun z => h1 (by subst z; rfl)
    have h2 : ¬ isLet c = true := fun z => hn (by rw [List.append_assoc]; exact List.mem_append_right _ ((isLet_iff c).mp z))
    rw [numM_cons, if_neg h0, if_neg h1, if_neg h2]
theorem signM_cases (cs : List Nat) (p : Nat) (b : Bytes) : (∃ c l, b = c :: l ∧ c.toNat ∈ cs ∧ signM cs p b = .ok (c.toNat, p + 1, l)) ∨ (showsM cs b = false ∧ signM cs p b = .error p) := by
  cases h : showsM cs b with
  | true =>
    obtain ⟨c, l, e, hm⟩ := shows_yes h
    subst e
    exact .inl ⟨c, l, rfl, hm, signM_hit hm⟩
  | false => exact .inr ⟨rfl, signM_miss h⟩
section
variable {P : Program} {w : World} {K : PySem.W.Frag} {mg : Str → Option Value} {base : Heap} {CE fBI CF fFI CR aB : Addr}
theorem scRN : FnScope ["reader", "found"] ["reader"] (defScope sRN) := ⟨rfl, rfl, rfl, by decide +kernel, rfl, by decide +kernel, by decide +kernel⟩
theorem ok_RN {f fS fRS : Addr} {fd fdS fdRS : FuncData} (F : Fun K "read_number_or_letter" "read_number_or_letter" sRN f fd) (T : Txt K mg CE fBI CF fFI CR) (G : Gram mg) (mS : Meth K CR "shows" fS) (GS : FnOk P w K mg base CX0 2 fS fdS ["self", "signs"] (spSh K CR)) (bS : Binds K fdS ["self", "signs"] [])
    (mR : Meth K CR "read_sign" fRS) (GR : FnOk P w K mg base (L2.CX P w) 4 fRS fdRS ["self", "signs"] (spRS K CR CF)) (bR : Binds K fdRS ["self", "signs"] []) :
    FnOk P w K mg base (L2.CX P w) 5 f fd ["reader"] (spRN K CR CF) := by
  refine F.okX scRN (fun vs H Q E h => ?_) (fun cdv A outer s H vs Q E hr h => ?_)
  · obtain ⟨r, dx, ta, t, p, rfl, _⟩ := h
    rfl
  · obtain ⟨r, dx, ta, t, p, rfl, a, q⟩ := h
    obtain ⟨uD, hD⟩ := G.digits
    obtain ⟨uH, hH⟩ := G.heads
    obtain ⟨uM, hM⟩ := G.marks
    obtain ⟨uN, hN⟩ := G.mdig
    have hr2 : Room 2 _ := hr.mono (by decide)
    refine ⟨_, pss_cons (ps_set (i := 1) scRN.nd rfl (Or.inl rfl) (pe_meth (pv 0) T.cl mR GR hr bR .nil (passes_call (takes_of rfl rfl rfl rfl) (fun _ _ _ _ h => h))
        (pa_cons (pe_op op_add_str (pe_op op_add_str (pe_glob (v := .str "0123456789") rfl hD ⟨_, rfl⟩) (pe_glob (v := .str "abcdefgh") rfl hH ⟨_, rfl⟩)) (pe_glob (v := .str "ABCDEFGH") rfl hM ⟨_, rfl⟩)) pa_nil)))
      (pss_cons (ps_if (pt_cmpR op_notIn_sign (pv 1) (pe_glob (v := .str "0123456789") rfl hD ⟨_, rfl⟩) rfl) (pss_one (ps_ret (pv 1))) pss_nil)
      (pss_cons (ps_while (passes_of rfl) (PW.pt (pw_and (pt_cmpR op_ne (pv 1) pe_str (nomark _)) (pw_and (pt_cmpR op_lt (pe_callB call_len_str (by rfl) T.len PySem.boot_len (pa_cons (pv 1) pa_nil)) (pe_glob (v := .int 4) rfl hN ⟨_, rfl⟩) (nomark _))
          (pw_and1 (pt_val (pe_meth (pv 0) T.cl mS GS hr2 bS .nil pass0 (pa_cons (pe_glob (v := .str "0123456789") rfl hD ⟨_, rfl⟩) pa_nil)))))))
        (pss_one (ps_aug (i := 1) scRN.nd rfl (Or.inl rfl) (pe_meth (pv 0) T.cl mR GR hr bR .nil (passes_call (takes_of rfl rfl rfl rfl) (fun _ _ _ _ h => h)) (pa_cons (pe_glob (v := .str "0123456789") rfl hD ⟨_, rfl⟩) pa_nil)) in_addS)))
      (pss_one (ps_ret (pe_callTy call_int_str (by rfl) T.int (by decide +kernel) (pa_cons (pv 1) pa_nil)))))), ?_⟩
    refine ⟨_, rfl, r, dx, _, rfl, a.ob, rfl, _, _, rfl, rfl, by show 18 ≤ sizeLine; exact Nat.le_of_lt (small1000 (by decide)), ?_⟩
    refine ⟨_, _, rfl, rfl, by show 26 ≤ sizeLine; exact Nat.le_of_lt (small1000 (by decide)), ?_⟩
    refine ⟨r, dx, ta, t, p, _, nDig ++ nHead ++ nMark, rfl, a, .inl (by rfl), by show 26 ≤ 1000; decide, ?_, ?_⟩
    · intro k hk
      rcases signM_cases (nDig ++ nHead ++ nMark) p (t.drop p) with ⟨c, l, ed, hm, e⟩ | ⟨hs, e⟩
      · rw [e] at hk
        cases hk
      · rw [e] at hk
        cases hk
        exact q.1 p (numM_error hs)
    · intro c' q' hk H1 v ev a1 on1
      subst ev
      rcases signM_cases (nDig ++ nHead ++ nMark) p (t.drop p) with ⟨c, l, ed, hm, e⟩ | ⟨hs, e⟩
      · rw [e] at hk
        have hk1 := Except.ok.inj hk
        have e1 : c.toNat = c' := (Prod.mk.inj hk1).1
        have e2 : p + 1 = q' := (Prod.mk.inj (Prod.mk.inj hk1).2).1
        have e3 : l = t.drop (p + 1) := (drop_succ ed).symm
        subst e1
        subst e2
        refine ⟨_, rfl, c.toNat, _, rfl, rfl, _, rfl, ?_⟩
        by_cases hdg : isDigit c = true
        · refine if_false_of (congrArg Bool.not (decide_eq_true ((isDigit_iff c).mp hdg))) ?_
          have en : numM p (t.drop p) = numR [c.toNat] (p + 1) (t.drop (p + 1)) := by rw [ed, numM_digit hdg, e3]
          refine ⟨fun m σ H2 => ∃ (acc : List Nat) (p' : Nat), σ = [some (.ref r), some (stV acc)] ∧ acc ≠ [] ∧ acc.length ≤ 4 ∧ acc.all (fun c => decide (48 ≤ c) && decide (c ≤ 57)) = true ∧ At K CR r dx ta t H2 p' ∧ Only r r H H2 ∧ numM p (t.drop p) = numR acc p' (t.drop p') ∧ m = 4 - acc.length,
            ⟨3, [c.toNat], p + 1, rfl, by simp, by show 1 ≤ 4; decide, by
              have hdg' := hdg
              unfold isDigit at hdg'
              rw [List.all_cons, hdg']
              rfl, a1, on1, en, rfl⟩, ?_⟩
          rintro m σ H2 ⟨acc, p', rfl, hne, hk4, hall, a2, on2, es, rfl⟩
          have stop : ∀ H3, At K CR r dx ta t H3 p' → Only r r H H3 → (left acc = 0 ∨ ∀ c l, t.drop p' = c :: l → isDigit c = false) → ∃ (aa : Str) (n : Int), [stV acc] = [V.str aa] ∧ PySem.intText? aa = some n ∧ aa.length ≤ 640 ∧ Q (.int n) H3 := fun H3 a3 on3 hs => by
            rw [numR_stop hs] at es
            refine ⟨S acc, _, rfl, SX.int_S hall hne (by omega), by rw [S_len]; omega, ?_⟩
            exact q.2 (.inl (dv acc)) p' es H3 _ rfl a3 on3
          refine ⟨_, rfl, rfl, _, rfl, ?_⟩
          by_cases h0 : acc = [48]
          · have ev : (!decide (stV acc = V.str "0")) = false := by rw [h0]; rfl
            refine if_false_of ev ?_
            refine if_false_of rfl ?_
            exact ⟨_, rfl, stop H2 a2 on2 (.inl (if_pos h0))⟩
          · have ev : (!decide (stV acc = V.str "0")) = true := by
              rw [decide_eq_false]
              · rfl
              · intro z
                exact h0 (S_inj (V.str.inj z : S acc = S [48]))
            refine if_true_of ev ?_
            refine ⟨_, rfl, _, rfl, by rw [S_len]; exact small5' (by omega), _, _, rfl, rfl, _, rfl, ?_⟩
            by_cases hk3 : acc.length < 4
            · refine if_true_of (by rw [S_len]; exact decide_eq_true (by omega)) ?_
              refine ⟨_, rfl, r, dx, _, rfl, a2.ob, rfl, r, dx, ta, t, p', _, nDig, rfl, a2, .inl (by rfl), by show 10 ≤ 1000; decide, fun H3 sm3 => ⟨_, rfl, ?_⟩⟩
              have a3 := a2.same sm3
              have on3 : Only r r H H3 := on2.trans (Only.same sm3)
              cases hsh : showsM nDig (t.drop p') with
              | true =>
                refine iteT ?_
                obtain ⟨d, l2, ed2, hm2⟩ := shows_yes hsh
                refine ⟨fun σ H2 => ∃ (acc' : List Nat) (p2 : Nat), σ = [some (.ref r), some (stV acc')] ∧ acc' ≠ [] ∧ acc'.length ≤ 4 ∧ acc'.all (fun c => decide (48 ≤ c) && decide (c ≤ 57)) = true ∧ At K CR r dx ta t H2 p2 ∧ Only r r H H2 ∧ numM p (t.drop p) = numR acc' p2 (t.drop p2) ∧ acc'.length = acc.length + 1, ?_, ?_⟩
                · rintro σ' H' ⟨acc', p2, e, h1, h2, h3, h4, h5, h6, h7⟩
                  exact ⟨_, by omega, acc', p2, e, h1, h2, h3, h4, h5, h6, rfl⟩
                · refine ⟨_, rfl, _, rfl, r, dx, _, rfl, a3.ob, rfl, r, dx, ta, t, p', _, nDig, rfl, a3, .inl (by rfl), by show 10 ≤ 1000; decide, ?_, ?_⟩
                  · intro j hj
                    rw [ed2, signM_hit hm2] at hj
                    cases hj
                  · intro c2 q2 hk2 H4 v2 ev2 a4 on4
                    subst ev2
                    rw [ed2, signM_hit hm2] at hk2
                    have e5 : d.toNat = c2 := (Prod.mk.inj (Except.ok.inj hk2)).1
                    have e4 : p' + 1 = q2 := (Prod.mk.inj (Prod.mk.inj (Except.ok.inj hk2)).2).1
                    subst e5
                    subst e4
                    refine ⟨S acc, S [d.toNat], rfl, rfl, by rw [S_len, S_len]; exact small5' (by simp only [List.length_cons, List.length_nil]; omega), ?_⟩
                    have hd2 := (isDigit_iff d).mpr hm2
                    refine ⟨acc ++ [d.toNat], p' + 1, ?_, by simp, by rw [List.length_append]; show acc.length + 1 ≤ 4; omega, ?_, a4, on3.trans on4, ?_, by rw [List.length_append]; rfl⟩
                    · show [some (V.ref r), some (V.str (S acc ++ S [d.toNat]))] = _
                      rw [S_cat]
                    · have hdg' := hd2
                      unfold isDigit at hdg'
                      rw [List.all_append, hall, List.all_cons, hdg']
                      rfl
                    · rw [es, ed2, numR_go h0 hne hk3 hd2, drop_succ ed2]
              | false =>
                refine iteF ?_
                refine ⟨_, rfl, stop H3 a3 on3 (.inr fun d l2 ed2 => ?_)⟩
                have := shows_no hsh d l2 ed2
                cases hb : isDigit d with
                | false => rfl
                | true => exact absurd ((isDigit_iff d).mp hb) this
            · refine if_false_of (by rw [S_len]; exact decide_eq_false (by omega)) ?_
              refine if_false_of rfl ?_
              refine ⟨_, rfl, stop H2 a2 on2 (.inl ?_)⟩
              unfold left
              rw [if_neg h0]
              omega
        · refine if_true_of (congrArg Bool.not (decide_eq_false fun z => hdg ((isDigit_iff c).mpr z))) ?_
          have h0 : c ≠ 48 := fun z => hdg (by subst z; rfl)
          have hlt : isLet c = true := (isLet_iff c).mpr (by
            rw [List.append_assoc] at hm
            exact (List.mem_append.mp hm).resolve_left fun z => hdg ((isDigit_iff c).mpr z))
          have en : numM p (t.drop p) = .ok (.inr c.toNat, p + 1, t.drop (p + 1)) := by rw [ed, numM_cons, if_neg h0, if_neg hdg, if_pos hlt, e3]
          exact ⟨_, rfl, q.2 _ (p + 1) en H1 _ rfl a1 on1⟩
      · rw [e] at hk
        cases hk
end
end Ab

set_option Elab.async false
set_option linter.all false
set_option maxRecDepth 100000
set_option maxHeartbeats 2000000
namespace Ab
open PySem PySem.Spec PyProof.Rows L2 AbM
open Na (Bytes isDigit exHere digitsAt)
/-- signs that wait, the last one first here -/
abbrev wtV (w : List Nat) : List V := w.reverse.map sgV
theorem wtV_cons (k : Nat) (w : List Nat) : wtV (k :: w) = wtV w ++ [sgV k] := by
  show ((k :: w).reverse.map _) = _
  rw [List.reverse_cons, List.map_append]
  rfl
theorem wtV_len (w : List Nat) : (wtV w).length = w.length := by simp
theorem wtV_last (k : Nat) (w : List Nat) : (wtV (k :: w))[(wtV (k :: w)).length - 1]? = some (sgV k) := by
  rw [wtV_cons]
  simp
theorem wtV_drop (k : Nat) (w : List Nat) : (wtV (k :: w)).dropLast = wtV w := by rw [wtV_cons, List.dropLast_concat]
theorem sg_eq (c d : Nat) : decide (sgV c = sgV d) = decide (c = d) := by
  by_cases h : c = d
  · subst h
    simp
  · rw [decide_eq_false h]
    refine decide_eq_false fun z => h ?_
    have z1 : S [c] = S [d] := V.str.inj z
    exact (List.cons.inj (S_inj z1)).1
theorem inV_sg (c : Nat) : ∀ cs : List Nat, inV (sgV c) (cs.map sgV) = decide (c ∈ cs)
  | [] => by simp [inV]
  | k :: r => by
    have ih := inV_sg c r
    unfold inV at ih ⊢
    rw [List.map_cons, List.any_cons, ih]
    show ((S [k] == S [c]) || decide (c ∈ r)) = _
    by_cases h : c = k
    · subst h
      simp
    · have e : (S [k] == S [c]) = false := beq_eq_false_iff_ne.mpr fun z => h (List.cons.inj (S_inj z)).1.symm
      rw [e, Bool.false_or]
      by_cases h3 : c ∈ r
      · rw [decide_eq_true h3, decide_eq_true (List.mem_cons_of_mem _ h3)]
      · rw [decide_eq_false h3, decide_eq_false (fun z => (List.mem_cons.mp z).elim h h3)]
theorem flat_sg (cs : List Nat) : (cs.map sgV).all flatV = true := by
  rw [List.all_map]
  exact List.all_eq_true.mpr fun _ _ => rfl
theorem flush_len (ss : List Nat) : ∀ (w : List Nat) (o : List Tk), (flush ss w o).1.length + (flush ss w o).2.length = w.length + o.length
  | [], o => rfl
  | k :: w, o => by
    by_cases h : k ∈ ss
    · have e : flush ss (k :: w) o = flush ss w (o ++ [.inr k]) := if_pos h
      rw [e, flush_len ss w, List.length_append, List.length_cons]
      simp only [List.length_cons, List.length_nil]
      omega
    · have e : flush ss (k :: w) o = (k :: w, o) := if_neg h
      rw [e]
/-- all but two stand -/
def spTS : Sp := fun vs H Q _ => ∃ (W Sg O : Addr) (w ss : List Nat) (o : List Tk), vs = [.ref W, .ref Sg, .ref O] ∧ H W = some (.lst (wtV w)) ∧ H Sg = some (.lst (ss.map sgV)) ∧ H O = some (.lst (tkV o)) ∧ W ≠ O ∧ Sg ≠ W ∧ Sg ≠ O ∧ w.length + o.length ≤ 50000 ∧
  ∀ H', Only W O H H' → H' W = some (.lst (wtV (flush ss w o).1)) → H' O = some (.lst (tkV (flush ss w o).2)) → Q .non H'
def spPO (K : PySem.W.Frag) : Sp := fun vs H Q _ => ∃ (a : Addr) (x : Na.Ex), vs = [.ref a] ∧ SqL K H a (tkV (toks x)) ∧ x.ok = true ∧ (toks x).length ≤ 5000 ∧
  ∀ (H' : Hp) (D : Addr), Same H H' → H D = none → H' D = some (.lst (tkV (post x))) → Q (.ref D) H'
section
variable {P : Program} {w : World} {K : PySem.W.Frag} {mg : Str → Option Value} {base : Heap} {CE fBI CF fFI CR aB : Addr}
theorem scTS : FnScope ["waiting", "signs", "ordered"] ["waiting", "signs", "ordered"] (defScope sTS) := ⟨rfl, rfl, rfl, by decide +kernel, rfl, by decide +kernel, by decide +kernel⟩
theorem ok_TS {f : Addr} {fd : FuncData} (F : Fun K "take_signs" "take_signs" sTS f fd) : FnOk P w K mg base CX0 1 f fd ["waiting", "signs", "ordered"] spTS := by
  refine F.ok scTS (fun vs H Q E h => ?_) (fun cdv A outer s H vs Q E hr h => ?_)
  · obtain ⟨W, Sg, O, w, ss, o, rfl, _⟩ := h
    rfl
  · obtain ⟨W, Sg, O, w0, ss, o0, rfl, eW0, eS0, eO0, nWO, nSW, nSO, hl0, q⟩ := h
    refine ⟨_, pss_one (ps_while PassesOwn.never (PW.pt (pw_and (pt_truth (pv 0) (by intro _; rfl)) (pw_and1 (pt_cmpR op_in_seq (pe_ix ix_list (pv 0) (pe_un un_neg pe_int) (fun _ _ => rfl)) (pv 1) rfl))))
      (pss_one (ps_expr (pe_bm PySem.F.plainAttrs_list PySem.F.slot_list_append PySem.F.type_list_append mt_append (pv 2) (pa_cons (pe_bm0 PySem.F.plainAttrs_list PySem.F.slot_list_pop PySem.F.type_list_pop mt_pop (pv 0)) pa_nil))))), ?_⟩
    refine ⟨fun m σ H1 => ∃ (w : List Nat) (o : List Tk), σ = [some (.ref W), some (.ref Sg), some (.ref O)] ∧ Only W O H H1 ∧ H1 W = some (.lst (wtV w)) ∧ H1 O = some (.lst (tkV o)) ∧ flush ss w0 o0 = flush ss w o ∧ w.length + o.length ≤ 50000 ∧ m = w.length,
      ⟨_, w0, o0, rfl, Only.refl, eW0, eO0, rfl, hl0, rfl⟩, ?_⟩
    rintro m σ H1 ⟨w, o, rfl, on, eW, eO, ef, hl, rfl⟩
    have eS : H1 Sg = some (.lst (ss.map sgV)) := on _ _ nSW nSO eS0
    refine ⟨_, rfl, !(wtV w).isEmpty, .inl ⟨_, SqL.of eW, rfl⟩, ?_⟩
    cases w with
    | nil =>
      refine if_false_of rfl ?_
      refine if_false_of rfl ?_
      have e : flush ss w0 o0 = ([], o) := ef
      refine q H1 on ?_ ?_
      · rw [e]; exact eW
      · rw [e]; exact eO
    | cons k w =>
      refine if_true_of (by simp) ?_
      have elast : atI (wtV (k :: w)) (-1) = some (sgV k) := by
        rw [wtV_cons]
        exact atI_last _ _
      refine ⟨_, rfl, _, rfl, W, _, _, _, rfl, rfl, SqL.of eW, elast, _, rfl, Sg, _, rfl, .inl (SqL.of eS), rfl, flat_sg ss, _, rfl, ?_⟩
      rw [inV_sg]
      by_cases hk : k ∈ ss
      · refine if_true_of (decide_eq_true hk) ?_
        have ef2 : flush ss w0 o0 = flush ss w (o ++ [.inr k]) := ef.trans (if_pos hk)
        refine ⟨fun σ H1 => ∃ (w' : List Nat) (o : List Tk), σ = [some (.ref W), some (.ref Sg), some (.ref O)] ∧ Only W O H H1 ∧ H1 W = some (.lst (wtV w')) ∧ H1 O = some (.lst (tkV o)) ∧ flush ss w0 o0 = flush ss w' o ∧ w'.length + o.length ≤ 50000 ∧ w'.length = w.length, ?_, ?_⟩
        · rintro σ' H' ⟨w', o', e, h1, h2, h3, h4, h5, h6⟩
          exact ⟨_, by rw [List.length_cons]; omega, w', o', e, h1, h2, h3, h4, h5, rfl⟩
        · have eO2 : (upd H1 W (.lst (wtV w))) O = some (.lst (tkV o)) := by rw [upd_ne (Ne.symm nWO)]; exact eO
          refine ⟨_, rfl, .inl ⟨rfl, _, SqL.of eO⟩, _, rfl, .inl ⟨rfl, _, SqL.of eW⟩, W, _, _, rfl, rfl, eW, wtV_last k w, ?_⟩
          rw [wtV_drop]
          refine ⟨O, _, _, rfl, rfl, eO2, small5 (by rw [List.length_map]; rw [List.length_cons] at hl; omega), ?_⟩
          refine ⟨w, o ++ [.inr k], rfl, (on.trans (fun x u h1 h2 h => by rw [upd_ne h1]; exact h)).trans Only.updc, ?_, ?_, ef2, ?_, rfl⟩
          · rw [upd_ne nWO, upd_same]
          · rw [upd_same, tkV_snoc]
          · rw [List.length_append]
            rw [List.length_cons] at hl
            simp only [List.length_cons, List.length_nil]
            omega
      · refine if_false_of (decide_eq_false hk) ?_
        have e : flush ss w0 o0 = (k :: w, o) := ef.trans (if_neg hk)
        refine q H1 on ?_ ?_
        · rw [e]; exact eW
        · rw [e]; exact eO
theorem scPO : FnScope ["parts", "ordered", "waiting", "part"] ["parts"] (defScope sPO) := ⟨rfl, rfl, rfl, by decide +kernel, rfl, by decide +kernel, by decide +kernel⟩
theorem ne_num (n c : Nat) : decide (V.int ((n : Nat) : Int) = sgV c) = false := decide_eq_false fun z => nomatch z
theorem ok_PO {f fTS : Addr} {fd fdTS : FuncData} (F : Fun K "put_in_order" "put_in_order" sPO f fd) (gT : mg "take_signs" = some (.ref fTS)) (kT : PySem.W.keepIn K (.ref fTS) = true) (GT : FnOk P w K mg base CX0 1 fTS fdTS ["waiting", "signs", "ordered"] spTS) (bT : Binds K fdTS ["waiting", "signs", "ordered"] []) :
    FnOk P w K mg base CX0 2 f fd ["parts"] (spPO K) := by
  refine F.ok scPO (fun vs H Q E h => ?_) (fun cdv A outer s H vs Q E hr h => ?_)
  · obtain ⟨a, x, rfl, _⟩ := h
    rfl
  · obtain ⟨a, x, rfl, ha, hok, hlen, q⟩ := h
    refine ⟨_, pss_cons (ps_set (i := 1) scPO.nd rfl (Or.inl rfl) (pe_lst pa_nil))
      (pss_cons (ps_set (i := 2) scPO.nd rfl (Or.inl rfl) (pe_lst pa_nil))
      (pss_cons (ps_for PassesOwn.never rfl (pi_list (pv 0)) (pg_name (i := 3) scPO.nd rfl (Or.inl rfl))
        (pss_one (ps_if (PW.pt (pw_or (pt_cmpR op_eq (pv 3) pe_str (nomark _)) (pw_or1 (pt_cmpR op_eq (pv 3) pe_str (nomark _)))))
          (pss_one (ps_expr (pe_bm PySem.F.plainAttrs_list PySem.F.slot_list_append PySem.F.type_list_append mt_append (pv 2) (pa_cons (pv 3) pa_nil))))
          (pss_one (ps_if (PW.pt (pw_or (pt_cmpR op_eq (pv 3) pe_str (nomark _)) (pw_or1 (pt_cmpR op_eq (pv 3) pe_str (nomark _)))))
            (pss_cons (ps_expr (pe_call GT hr rfl gT kT bT .nil pass0 (pa_cons (pv 2) (pa_cons (pe_lst (pa_cons pe_str (pa_cons pe_str (pa_cons pe_str pa_nil)))) (pa_cons (pv 1) pa_nil)))))
              (pss_one (ps_if (pt_cmpR op_eq (pe_bm0 PySem.F.plainAttrs_list PySem.F.slot_list_pop PySem.F.type_list_pop mt_pop (pv 2)) pe_str (nomark _))
                (pss_one (ps_expr (pe_bm PySem.F.plainAttrs_list PySem.F.slot_list_append PySem.F.type_list_append mt_append (pv 1) (pa_cons pe_str pa_nil)))) pss_nil)))
            (pss_one (ps_if (pt_cmpR op_eq (pv 3) pe_str (nomark _))
              (pss_cons (ps_expr (pe_call GT hr rfl gT kT bT .nil pass0 (pa_cons (pv 2) (pa_cons (pe_lst (pa_cons pe_str pa_nil)) (pa_cons (pv 1) pa_nil)))))
                (pss_one (ps_expr (pe_bm PySem.F.plainAttrs_list PySem.F.slot_list_append PySem.F.type_list_append mt_append (pv 2) (pa_cons (pv 3) pa_nil)))))
              (pss_one (ps_if (PW.pt (pw_or (pt_cmpR op_eq (pv 3) pe_str (nomark _)) (pw_or1 (pt_cmpR op_eq (pv 3) pe_str (nomark _)))))
                (pss_cons (ps_expr (pe_call GT hr rfl gT kT bT .nil pass0 (pa_cons (pv 2) (pa_cons (pe_lst (pa_cons pe_str (pa_cons pe_str (pa_cons pe_str pa_nil)))) (pa_cons (pv 1) pa_nil)))))
                  (pss_one (ps_expr (pe_bm PySem.F.plainAttrs_list PySem.F.slot_list_append PySem.F.type_list_append mt_append (pv 2) (pa_cons (pv 3) pa_nil)))))
                (pss_one (ps_expr (pe_bm PySem.F.plainAttrs_list PySem.F.slot_list_append PySem.F.type_list_append mt_append (pv 1) (pa_cons (pv 3) pa_nil)))))))))))))
      (pss_cons (ps_expr (pe_call GT hr rfl gT kT bT .nil pass0 (pa_cons (pv 2) (pa_cons (pe_lst (pa_cons pe_str (pa_cons pe_str (pa_cons pe_str pa_nil)))) (pa_cons (pv 1) pa_nil)))))
      (pss_one (ps_ret (pv 1)))))), ?_⟩
    refine ⟨Nat.zero_le _, fun O nO => ⟨Nat.zero_le _, fun W nW => ?_⟩⟩
    have nWO : W ≠ O := fun z => by rw [z, upd_same] at nW; cases nW
    have nWH : H W = none := by rw [upd_ne nWO] at nW; exact nW
    obtain ⟨fw, fo, hst, hfl⟩ := order_all hok
    have s3 : ([V.str "*", V.str "+", V.str "-"] : List V) = all3.map sgV := by rfl
    have s1 : ([V.str "*"] : List V) = ([42] : List Nat).map sgV := by rfl
    have keep : ∀ {H1 : Hp} {o : HO} {D : Addr}, Same H H1 → H D = none → Same H (upd H1 D o) := fun h n b x e => by
      rw [upd_ne (ne_of_none e n)]
      exact h b x e
    have keep2 : ∀ {H1 H2 : Hp}, Same H H1 → Only W O H1 H2 → Same H H2 := fun h k b x e => k b x (ne_of_none e nWH) (ne_of_none e nO) (h b x e)
    /- a call of take_signs -/
    have call : ∀ (w ss : List Nat) (o : List Tk) (H1 : Hp), H1 W = some (.lst (wtV w)) → H1 O = some (.lst (tkV o)) → Same H H1 → ∀ Sg, H1 Sg = none →
        (upd H1 Sg (.lst (ss.map sgV))) W = some (.lst (wtV w)) ∧ (upd H1 Sg (.lst (ss.map sgV))) O = some (.lst (tkV o)) ∧ Sg ≠ W ∧ Sg ≠ O ∧ (∀ H2, Only W O (upd H1 Sg (.lst (ss.map sgV))) H2 → Same H H2) := fun w ss o H1 eW eO sm Sg nS => by
      have nSW : Sg ≠ W := fun z => by rw [z, eW] at nS; cases nS
      have nSO : Sg ≠ O := fun z => by rw [z, eO] at nS; cases nS
      have nSH : H Sg = none := by
        cases e : H Sg with
        | none => rfl
        | some u => rw [sm _ _ e] at nS; cases nS
      exact ⟨by rw [upd_ne (Ne.symm nSW)]; exact eW, by rw [upd_ne (Ne.symm nSO)]; exact eO, nSW, nSO, fun H' on => keep2 (keep sm nSH) on⟩
    refine ⟨_, rfl, a, rfl, ⟨_, (keep (same_upd nO) nWH).seq ha⟩, for_list (xs := tkV (toks x)) (fun i σ H1 => ∃ (w : List Nat) (o : List Tk) (v3 : Option V), σ = [some (.ref a), some (.ref O), some (.ref W), v3] ∧ H1 W = some (.lst (wtV w)) ∧ H1 O = some (.lst (tkV o)) ∧ Same H H1 ∧ steps ((toks x).drop i) w o = some (fw, fo) ∧ w.length + o.length ≤ i)
      ⟨[], [], _, rfl, upd_same, by rw [upd_ne (Ne.symm nWO)]; exact upd_same, keep (same_upd nO) nWH, hst, Nat.le_refl _⟩ (fun i σ H1 _ ⟨w, o, v3, _, _, _, sm, _⟩ => sm.seq ha) ?_ ?_⟩
    · rintro i y σ H1 hy ⟨w, o, v3, rfl, eW, eO, sm, est, hl⟩
      obtain ⟨k, hk, rfl⟩ : ∃ k, (toks x)[i]? = some k ∧ y = tokV k := by
        rw [List.getElem?_map] at hy
        cases e : (toks x)[i]? with
        | none => rw [e] at hy; cases hy
        | some k => rw [e] at hy; exact ⟨k, rfl, (Option.some.inj hy).symm⟩
      have hi5 : i < 5000 := by
        have := (List.getElem?_eq_some_iff.mp hk).1
        omega
      have ed : (toks x).drop i = k :: (toks x).drop (i + 1) := by
        rw [List.drop_eq_getElem_cons (List.getElem?_eq_some_iff.mp hk).1, (List.getElem?_eq_some_iff.mp hk).2]
      rw [ed] at est
      have est2 : ∃ s, step1 k w o = some s ∧ steps ((toks x).drop (i + 1)) s.1 s.2 = some (fw, fo) := by
        have e : (step1 k w o).bind (fun s => steps ((toks x).drop (i + 1)) s.1 s.2) = some (fw, fo) := est
        cases e2 : step1 k w o with
        | none => rw [e2] at e; cases e
        | some s => rw [e2] at e; exact ⟨s, rfl, e⟩
      obtain ⟨⟨w2, o2⟩, e1, e2⟩ := est2
      cases k with
      | inl n =>
        have e3 := Prod.mk.inj (Option.some.inj e1)
        refine ⟨_, rfl, rfl, _, rfl, if_false_of (ne_num n 40) ⟨_, rfl, rfl, _, rfl, if_false_of (ne_num n 91) ?_⟩⟩
        refine ⟨_, rfl, rfl, _, rfl, if_false_of (ne_num n 41) ⟨_, rfl, rfl, _, rfl, if_false_of (ne_num n 93) ?_⟩⟩
        refine ⟨_, rfl, rfl, _, rfl, if_false_of (ne_num n 42) ⟨_, rfl, rfl, _, rfl, if_false_of (ne_num n 43) ⟨_, rfl, rfl, _, rfl, if_false_of (ne_num n 45) ?_⟩⟩⟩
        refine ⟨_, rfl, .inl ⟨rfl, _, SqL.of eO⟩, _, rfl, O, _, _, rfl, rfl, eO, small5 (by rw [List.length_map]; omega), ?_⟩
        refine ⟨w, o ++ [.inl n], _, rfl, by rw [upd_ne nWO]; exact eW, ?_, keep sm nO, by rw [← e3.1, ← e3.2] at e2; exact e2, by rw [List.length_append]; simp only [List.length_cons, List.length_nil]; omega⟩
        rw [upd_same]
        simp [tkV, tokV]
      | inr c =>
        have no : ∀ d, c ≠ d → decide (sgV c = sgV d) = false := fun d h => (sg_eq c d).trans (decide_eq_false h)
        have ys : ∀ d, c = d → decide (sgV c = sgV d) = true := fun d h => (sg_eq c d).trans (decide_eq_true h)
        have es : step1 (.inr c) w o = if c = 40 ∨ c = 91 then some (c :: w, o)
            else if c = 41 ∨ c = 93 then (match (flush all3 w o).1 with
              | [] => none
              | k :: r => some (r, if k = 91 then (flush all3 w o).2 ++ [.inr 91] else (flush all3 w o).2))
            else if c = 42 then some (42 :: (flush [42] w o).1, (flush [42] w o).2)
            else if c = 43 ∨ c = 45 then some (c :: (flush all3 w o).1, (flush all3 w o).2)
            else some (w, o ++ [.inr c]) := rfl
        have hfl3 := flush_len all3 w o
        have hfl1 := flush_len [42] w o
        by_cases h1 : c = 40 ∨ c = 91
        · rw [es, if_pos h1] at e1
          have e3 := Prod.mk.inj (Option.some.inj e1)
          rcases h1 with e | e
          case' inl => refine ⟨_, rfl, rfl, _, rfl, if_true_of (ys 40 e) ?_⟩
          case' inr => refine ⟨_, rfl, rfl, _, rfl, if_false_of (no 40 (by omega)) ⟨_, rfl, rfl, _, rfl, if_true_of (ys 91 e) ?_⟩⟩
          all_goals
          (refine ⟨_, rfl, .inl ⟨rfl, _, SqL.of eW⟩, _, rfl, W, _, _, rfl, rfl, eW, small5 (by rw [wtV_len]; omega), ?_⟩
           refine ⟨c :: w, o, _, rfl, ?_, by rw [upd_ne (Ne.symm nWO)]; exact eO, keep sm nWH, by rw [← e3.1, ← e3.2] at e2; exact e2, by rw [List.length_cons]; omega⟩
           rw [upd_same, wtV_cons]
           rfl)
        · rw [es, if_neg h1] at e1
          refine ⟨_, rfl, rfl, _, rfl, if_false_of (no 40 (by omega)) ⟨_, rfl, rfl, _, rfl, if_false_of (no 91 (by omega)) ?_⟩⟩
          by_cases h2 : c = 41 ∨ c = 93
          · rw [if_pos h2] at e1
            rcases h2 with e | e
            case' inl => refine ⟨_, rfl, rfl, _, rfl, if_true_of (ys 41 e) ?_⟩
            case' inr => refine ⟨_, rfl, rfl, _, rfl, if_false_of (no 41 (by omega)) ⟨_, rfl, rfl, _, rfl, if_true_of (ys 93 e) ?_⟩⟩
            all_goals
            (refine ⟨_, rfl, by show 3 ≤ sizeLine; exact small5' (by decide), fun Sg nS => ⟨_, rfl, ?_⟩⟩
             obtain ⟨c1, c2, c3, c4, c5⟩ := call w all3 o H1 eW eO sm Sg nS
             refine ⟨W, Sg, O, w, all3, o, rfl, c1, upd_same, c2, nWO, c3, c4, by omega, fun H2 on2 eW2 eO2 => ?_⟩
             have sm2 := c5 H2 on2
             cases hw : (flush all3 w o).1 with
             | nil => rw [hw] at e1; cases e1
             | cons k r =>
               rw [hw] at e1 eW2 hfl3
               have e3 := Prod.mk.inj (Option.some.inj e1)
               rw [List.length_cons] at hfl3
               refine ⟨_, rfl, .inl ⟨rfl, _, SqL.of eW2⟩, W, _, _, rfl, rfl, eW2, wtV_last k r, rfl, _, rfl, ?_⟩
               rw [wtV_drop]
               have eO3 : (upd H2 W (.lst (wtV r))) O = some (.lst (tkV (flush all3 w o).2)) := by rw [upd_ne (Ne.symm nWO)]; exact eO2
               by_cases hk : k = 91
               · refine if_true_of ((sg_eq k 91).trans (decide_eq_true hk)) ?_
                 rw [if_pos hk] at e3
                 refine ⟨_, rfl, .inl ⟨rfl, _, SqL.of eO3⟩, O, _, _, rfl, rfl, eO3, small5 (by rw [List.length_map]; omega), ?_⟩
                 refine ⟨r, (flush all3 w o).2 ++ [.inr 91], _, rfl, by rw [upd_ne nWO, upd_same], ?_, keep (keep sm2 nWH) nO, by rw [← e3.1, ← e3.2] at e2; exact e2, by rw [List.length_append]; simp only [List.length_cons, List.length_nil]; omega⟩
                 rw [upd_same, ← tkV_snoc]
                 rfl
               · refine if_false_of ((sg_eq k 91).trans (decide_eq_false hk)) ?_
                 rw [if_neg hk] at e3
                 exact ⟨r, (flush all3 w o).2, _, rfl, upd_same, eO3, keep sm2 nWH, by rw [← e3.1, ← e3.2] at e2; exact e2, by omega⟩)
          · rw [if_neg h2] at e1
            refine ⟨_, rfl, rfl, _, rfl, if_false_of (no 41 (by omega)) ⟨_, rfl, rfl, _, rfl, if_false_of (no 93 (by omega)) ?_⟩⟩
            by_cases h3 : c = 42
            · rw [if_pos h3] at e1
              have e3 := Prod.mk.inj (Option.some.inj e1)
              refine ⟨_, rfl, rfl, _, rfl, if_true_of (ys 42 h3) ?_⟩
              refine ⟨_, rfl, by show 1 ≤ sizeLine; exact small5' (by decide), fun Sg nS => ⟨_, rfl, ?_⟩⟩
              obtain ⟨c1, c2, c3, c4, c5⟩ := call w [42] o H1 eW eO sm Sg nS
              refine ⟨W, Sg, O, w, [42], o, rfl, c1, upd_same, c2, nWO, c3, c4, by omega, fun H2 on2 eW2 eO2 => ?_⟩
              have sm2 := c5 H2 on2
              refine ⟨_, rfl, .inl ⟨rfl, _, SqL.of eW2⟩, _, rfl, W, _, _, rfl, rfl, eW2, small5 (by rw [wtV_len]; omega), ?_⟩
              refine ⟨42 :: (flush [42] w o).1, (flush [42] w o).2, _, rfl, ?_, by rw [upd_ne (Ne.symm nWO)]; exact eO2, keep sm2 nWH, by rw [← e3.1, ← e3.2] at e2; exact e2, by rw [List.length_cons]; omega⟩
              rw [upd_same, wtV_cons, h3]
              rfl
            · rw [if_neg h3] at e1
              refine ⟨_, rfl, rfl, _, rfl, if_false_of (no 42 h3) ?_⟩
              by_cases h4 : c = 43 ∨ c = 45
              · rw [if_pos h4] at e1
                have e3 := Prod.mk.inj (Option.some.inj e1)
                rcases h4 with e | e
                case' inl => refine ⟨_, rfl, rfl, _, rfl, if_true_of (ys 43 e) ?_⟩
                case' inr => refine ⟨_, rfl, rfl, _, rfl, if_false_of (no 43 (by omega)) ⟨_, rfl, rfl, _, rfl, if_true_of (ys 45 e) ?_⟩⟩
                all_goals
                (refine ⟨_, rfl, by show 3 ≤ sizeLine; exact small5' (by decide), fun Sg nS => ⟨_, rfl, ?_⟩⟩
                 obtain ⟨c1, c2, c3, c4, c5⟩ := call w all3 o H1 eW eO sm Sg nS
                 refine ⟨W, Sg, O, w, all3, o, rfl, c1, upd_same, c2, nWO, c3, c4, by omega, fun H2 on2 eW2 eO2 => ?_⟩
                 have sm2 := c5 H2 on2
                 refine ⟨_, rfl, .inl ⟨rfl, _, SqL.of eW2⟩, _, rfl, W, _, _, rfl, rfl, eW2, small5 (by rw [wtV_len]; omega), ?_⟩
                 refine ⟨c :: (flush all3 w o).1, (flush all3 w o).2, _, rfl, ?_, by rw [upd_ne (Ne.symm nWO)]; exact eO2, keep sm2 nWH, by rw [← e3.1, ← e3.2] at e2; exact e2, by rw [List.length_cons]; omega⟩
                 rw [upd_same, wtV_cons]
                 rfl)
              · rw [if_neg h4] at e1
                have e3 := Prod.mk.inj (Option.some.inj e1)
                refine ⟨_, rfl, rfl, _, rfl, if_false_of (no 43 (by omega)) ⟨_, rfl, rfl, _, rfl, if_false_of (no 45 (by omega)) ?_⟩⟩
                refine ⟨_, rfl, .inl ⟨rfl, _, SqL.of eO⟩, _, rfl, O, _, _, rfl, rfl, eO, small5 (by rw [List.length_map]; omega), ?_⟩
                refine ⟨w, o ++ [.inr c], _, rfl, by rw [upd_ne nWO]; exact eW, ?_, keep sm nO, by rw [← e3.1, ← e3.2] at e2; exact e2, by rw [List.length_append]; simp only [List.length_cons, List.length_nil]; omega⟩
                rw [upd_same, ← tkV_snoc]
                rfl
    · rintro σ H1 ⟨w, o, v3, rfl, eW, eO, sm, est, hl⟩
      have e0 : (toks x).drop (tkV (toks x)).length = [] := by rw [List.length_map, List.drop_length]
      rw [e0] at est
      have e1 := Prod.mk.inj (Option.some.inj est)
      have hl2 : (tkV (toks x)).length = (toks x).length := List.length_map _
      refine ⟨_, rfl, by show 3 ≤ sizeLine; exact small5' (by decide), fun Sg nS => ⟨_, rfl, ?_⟩⟩
      obtain ⟨c1, c2, c3, c4, c5⟩ := call w all3 o H1 eW eO sm Sg nS
      refine ⟨W, Sg, O, w, all3, o, rfl, c1, upd_same, c2, nWO, c3, c4, by omega, fun H2 on2 eW2 eO2 => ?_⟩
      have sm2 := c5 H2 on2
      refine ⟨_, rfl, q H2 O sm2 nO ?_⟩
      rw [eO2, e1.1, e1.2, hfl]
end
end Ab

set_option Elab.async false
set_option linter.all false
set_option maxRecDepth 100000
set_option maxHeartbeats 2000000
namespace Ab
open PySem PySem.Spec PyProof.Rows L2 AbM
open Na (Bytes isDigit exHere)
section
variable {P : Program} {w : World} {K : PySem.W.Frag} {mg : Str → Option Value} {base : Heap} {CE fBI CF fFI CR aB : Addr}
theorem scRE : FnScope ["reader", "parts", "closers", "going_on"] ["reader"] (defScope sRE) := ⟨rfl, rfl, rfl, by decide +kernel, rfl, by decide +kernel, by decide +kernel⟩
theorem numM_len {p : Nat} {b : Bytes} {u : Tk} {q : Nat} {c : Bytes} (h : numM p b = .ok (u, q, c)) : c.length < b.length := by
  cases b with
  | nil => cases h
  | cons d l =>
    rw [numM_cons] at h
    by_cases h0 : d = 48
    · rw [if_pos h0] at h
      cases h
      exact Nat.lt_succ_self _
    · rw [if_neg h0] at h
      by_cases h1 : isDigit d = true
      · rw [if_pos h1] at h
        obtain ⟨k, e1, e2⟩ := digs_len 3 (p + 1) l
        have e3 : (digs 3 (p + 1) l).2 = c := congrArg Prod.snd (Prod.mk.inj (Except.ok.inj h)).2
        rw [← e3, e2, List.length_drop, List.length_cons]
        omega
      · rw [if_neg h1] at h
        by_cases h2 : isLet d = true
        · rw [if_pos h2] at h
          cases h
          exact Nat.lt_succ_self _
        · rw [if_neg h2] at h
          cases h
theorem none_back {K : PySem.W.Frag} {CR r dx ta : Addr} {t : Bytes} {H H1 : Hp} {p : Nat} {D : Addr} (a : At K CR r dx ta t H1 p) (on : Only r r H H1) (n : H1 D = none) : H D = none := by
  cases e : H D with
  | none => rfl
  | some u =>
    by_cases h : D = r
    · rw [h, a.ob] at n; cases n
    · rw [on _ _ h h e] at n; cases n
theorem tkV_cat (L M : List Tk) : tkV L ++ tkV M = tkV (L ++ M) := by simp [tkV]
theorem tkV_one (L : List Tk) (k : Tk) : tkV L ++ [tokV k] = tkV (L ++ [k]) := by simp [tkV]
theorem lex_small {t : Bytes} {p q : Nat} {L : List Tk} (h : Lex (t.drop p) L (t.drop q)) (hs : t.length ≤ 5000) : L.length ≤ 5000 := by
  have := h.len
  rw [List.length_drop, List.length_drop] at this
  omega
theorem ok_RE {f fS fRS fRO fRN fRC fPO : Addr} {fd fdS fdRS fdRO fdRN fdRC fdPO : FuncData} (F : Fun K "read_expression" "read_expression" sRE f fd) (T : Txt K mg CE fBI CF fFI CR) (mS : Meth K CR "shows" fS) (GS : FnOk P w K mg base CX0 2 fS fdS ["self", "signs"] (spSh K CR)) (bS : Binds K fdS ["self", "signs"] [])
    (mR : Meth K CR "read_sign" fRS) (GR : FnOk P w K mg base (L2.CX P w) 4 fRS fdRS ["self", "signs"] (spRS K CR CF)) (bR : Binds K fdRS ["self", "signs"] [])
    (gO : mg "read_opening_brackets" = some (.ref fRO)) (kO : PySem.W.keepIn K (.ref fRO) = true) (GO : FnOk P w K mg base (L2.CX P w) 5 fRO fdRO ["reader", "closers"] (spRO K CR)) (bO : Binds K fdRO ["reader", "closers"] [])
    (gN : mg "read_number_or_letter" = some (.ref fRN)) (kN : PySem.W.keepIn K (.ref fRN) = true) (GN : FnOk P w K mg base (L2.CX P w) 5 fRN fdRN ["reader"] (spRN K CR CF)) (bN : Binds K fdRN ["reader"] [])
    (gC : mg "read_closing_brackets" = some (.ref fRC)) (kC : PySem.W.keepIn K (.ref fRC) = true) (GC : FnOk P w K mg base (L2.CX P w) 5 fRC fdRC ["reader", "closers"] (spRC K CR)) (bC : Binds K fdRC ["reader", "closers"] [])
    (gP : mg "put_in_order" = some (.ref fPO)) (kP : PySem.W.keepIn K (.ref fPO) = true) (GP : FnOk P w K mg base CX0 2 fPO fdPO ["parts"] (spPO K)) (bP : Binds K fdPO ["parts"] []) :
    FnOk P w K mg base (L2.CX P w) 6 f fd ["reader"] (spRE K CR CF) := by
  refine F.okX scRE (fun vs H Q E h => ?_) (fun cdv A outer s H vs Q E hr h => ?_)
  · obtain ⟨r, dx, ta, t, p, rfl, _⟩ := h
    rfl
  · obtain ⟨r, dx, ta, t, p0, rfl, a, q⟩ := h
    have hr2 : Room 2 _ := hr.mono (by decide)
    have hr4 : Room 4 _ := hr.mono (by decide)
    refine ⟨_, pss_cons (ps_set (i := 1) scRE.nd rfl (Or.inl rfl) (pe_lst pa_nil))
      (pss_cons (ps_set (i := 2) scRE.nd rfl (Or.inl rfl) (pe_lst pa_nil))
      (pss_cons (ps_set (i := 3) scRE.nd rfl (Or.inl rfl) pe_bl)
      (pss_cons (ps_while (passes_of rfl) (pt_val (pv 3))
        (pss_cons (ps_expr (pe_bm PySem.F.plainAttrs_list PySem.F.slot_list_extend PySem.F.type_list_extend mt_extend (pv 1) (pa_cons (pe_call GO hr rfl gO kO bO .nil (passes_call (takes_of rfl rfl rfl rfl) (fun _ _ _ _ h => h)) (pa_cons (pv 0) (pa_cons (pv 2) pa_nil))) pa_nil)))
        (pss_cons (ps_expr (pe_bm PySem.F.plainAttrs_list PySem.F.slot_list_append PySem.F.type_list_append mt_append (pv 1) (pa_cons (pe_call GN hr rfl gN kN bN .nil (passes_call (takes_of rfl rfl rfl rfl) (fun _ _ _ _ h => h)) (pa_cons (pv 0) pa_nil)) pa_nil)))
        (pss_cons (ps_expr (pe_bm PySem.F.plainAttrs_list PySem.F.slot_list_extend PySem.F.type_list_extend mt_extend (pv 1) (pa_cons (pe_call GC hr rfl gC kC bC .nil (passes_call (takes_of rfl rfl rfl rfl) (fun _ _ _ _ h => h)) (pa_cons (pv 0) (pa_cons (pv 2) pa_nil))) pa_nil)))
        (pss_cons (ps_set (i := 3) scRE.nd rfl (Or.inl rfl) (pe_or (pe_meth (pv 0) T.cl mS GS hr2 bS .nil pass0 (pa_cons pe_str pa_nil)) (pe_one (pe_cmpR op_gt (pe_callB call_len_seq (by rfl) T.len PySem.boot_len (pa_cons (pv 2) pa_nil)) pe_int (nomark _)))))
        (pss_one (ps_if (pt_val (pv 3)) (pss_one (ps_expr (pe_bm PySem.F.plainAttrs_list PySem.F.slot_list_append PySem.F.type_list_append mt_append (pv 1) (pa_cons (pe_meth (pv 0) T.cl mR GR hr4 bR .nil (passes_call (takes_of rfl rfl rfl rfl) (fun _ _ _ _ h => h)) (pa_cons pe_str pa_nil)) pa_nil)))) pss_nil)))))))
      (pss_one (ps_ret (pe_call GP hr2 rfl gP kP bP .nil pass0 (pa_cons (pv 1) pa_nil))))))), ?_⟩
    refine ⟨Nat.zero_le _, fun B nB => ⟨Nat.zero_le _, fun cl ncl0 => ?_⟩⟩
    have ncB : cl ≠ B := fun z => by rw [z, upd_same] at ncl0; cases ncl0
    have ncl : H cl = none := by rw [upd_ne ncB] at ncl0; exact ncl0
    have nr : r ≠ cl := ne_of_none a.ob ncl
    have nrB : r ≠ B := ne_of_none a.ob nB
    have nt : Apart K ta cl (bs t) := Apart.new a.tx ncl
    have ntB : Apart K ta B (bs t) := Apart.new a.tx nB
    refine ⟨fun m σ H1 => ∃ (cs : List UInt8) (p : Nat) (g : Bool) (L : List Tk), σ = [some (.ref r), some (.ref B), some (.ref cl), some (.bl g)] ∧ At K CR r dx ta t H1 p ∧ Only r r H H1 ∧ H1 cl = some (.lst (clV cs)) ∧ H1 B = some (.lst (tkV L)) ∧ Cl cs ∧ cs.length ≤ 16 ∧ Lex (t.drop p0) L (t.drop p) ∧
      (g = true → scan (t.drop p0) .f [] p0 = scan (t.drop p) .f cs p ∧ m = t.length - p + 1) ∧ (g = false → scan (t.drop p0) .f [] p0 = .ok (p, t.drop p)),
      ⟨_, [], p0, true, [], rfl, (a.updn nrB ntB).updn nr nt, (Only.refl.upn nB).upn ncl, upd_same, by rw [upd_ne (Ne.symm ncB), upd_same]; rfl, (fun k h => absurd h List.not_mem_nil), by decide, .nil _, fun _ => ⟨rfl, rfl⟩, fun h => Bool.noConfusion h⟩, ?_⟩
    rintro m σ H1 ⟨cs, p, g, L, rfl, a1, on1, ec1, eB1, hcs, hlen, lx, hgt, hgf⟩
    refine ⟨_, rfl, _, rfl, ?_⟩
    cases g with
    | false =>
      refine iteF ?_
      obtain ⟨x, hx⟩ := ex_of_ok (hgf rfl)
      have eL := lx.det (ex_lex hx)
      subst eL
      have hgood : x.ok = true := by
        have h := AbG.ex_good hx
        have h2 : (x.ok && decide (x.depth ≤ Na.OPEN)) = true := h
        exact (Bool.and_eq_true _ _ ▸ h2).1
      refine ⟨_, rfl, B, x, rfl, SqL.of eB1, hgood, lex_small lx a.sz, fun H' D sm nD eD => ?_⟩
      exact q.2 x p hx H' _ ⟨D, rfl, none_back a1 on1 nD, eD, Nat.le_trans (post_len x) (lex_small lx a.sz), hgood⟩ (a1.same sm) (on1.trans (Only.same sm))
    | true =>
      refine iteT ?_
      obtain ⟨es, rfl⟩ := hgt rfl
      refine ⟨fun σ H1 => ∃ (cs : List UInt8) (p' : Nat) (g : Bool) (L : List Tk), σ = [some (.ref r), some (.ref B), some (.ref cl), some (.bl g)] ∧ At K CR r dx ta t H1 p' ∧ Only r r H H1 ∧ H1 cl = some (.lst (clV cs)) ∧ H1 B = some (.lst (tkV L)) ∧ Cl cs ∧ cs.length ≤ 16 ∧ Lex (t.drop p0) L (t.drop p') ∧
        (g = true → scan (t.drop p0) .f [] p0 = scan (t.drop p') .f cs p' ∧ p < p') ∧ (g = false → scan (t.drop p0) .f [] p0 = .ok (p', t.drop p')), ?_, ?_⟩
      · rintro σ' H' ⟨cs', p', g', L', e, b1, b2, b3, b4, b5, b6, b7, b8, b9⟩
        cases g' with
        | true =>
          obtain ⟨e1, lt⟩ := b8 rfl
          have := b1.le
          exact ⟨_, by omega, cs', p', true, L', e, b1, b2, b3, b4, b5, b6, b7, fun _ => ⟨e1, rfl⟩, b9⟩
        | false => exact ⟨0, by omega, cs', p', false, L', e, b1, b2, b3, b4, b5, b6, b7, fun h => Bool.noConfusion h, b9⟩
      · -- the brackets that open
        refine ⟨_, rfl, .inl ⟨rfl, _, SqL.of eB1⟩, _, rfl, _, rfl, r, dx, ta, cl, t, p, cs, rfl, a1, ec1, nt, hcs, hlen, fun p2 cs2 H2 D2 L2' hp2 a2 on2 ec2 hcs2 hl2 es2 nb2 nD2 eD2 lx2 => ?_⟩
        have eB2 : H2 B = some (.lst (tkV L)) := on2 _ _ (Ne.symm nrB) (Ne.symm ncB) eB1
        have lx2' := lx.append lx2
        have s2 := lex_small lx2' a.sz
        rw [List.length_append] at s2
        refine ⟨B, D2, _, _, rfl, rfl, eB2, eD2, small5' (by simp only [tkV, List.length_map]; omega), ?_⟩
        rw [tkV_cat]
        have on2' : Only r r H (upd H2 B (.lst (tkV (L ++ L2')))) := (on1.thru ncl on2).upn nB
        have a2' := a2.updn (o := .lst (tkV (L ++ L2'))) nrB ntB
        have ec2' : (upd H2 B (.lst (tkV (L ++ L2')))) cl = some (.lst (clV cs2)) := by rw [upd_ne ncB]; exact ec2
        generalize hG2 : upd H2 B (.lst (tkV (L ++ L2'))) = G2 at on2' a2' ec2'
        have eB2' : G2 B = some (.lst (tkV (L ++ L2'))) := by rw [← hG2, upd_same]
        rw [es2, scan_num nb2] at es
        -- the number
        refine ⟨_, rfl, .inl ⟨rfl, _, SqL.of eB2'⟩, _, rfl, r, dx, ta, t, p2, rfl, a2', ?_, ?_⟩
        · intro k hk
          rw [hk] at es
          exact q.1 k (ex_of_error es)
        · intro k3 p3 hk H3 v ev a3 on3
          subst ev
          rw [hk] at es
          have es3 : scan (t.drop p0) .f [] p0 = aft cs2 p3 (t.drop p3) := es
          have lt3 : p2 < p3 := by
            cases hd : t.drop p2 with
            | nil =>
              rw [hd] at hk
              cases hk
            | cons c l =>
              have := numM_len hk
              have h1 := a3.le
              have h2 := drop_lt hd
              rw [List.length_drop, List.length_drop] at this
              omega
          have ec3 := on3 _ _ (Ne.symm nr) (Ne.symm nr) ec2'
          have eB3 := on3 _ _ (Ne.symm nrB) (Ne.symm nrB) eB2'
          have lx3 := lx2'.append (Lex.one (numM_lex hk))
          have s3 := lex_small lx3 a.sz
          rw [List.length_append] at s3
          refine ⟨B, _, _, rfl, rfl, eB3, small5 (by simp only [tkV, List.length_map]; omega), ?_⟩
          rw [tkV_one]
          have on3' : Only r r H (upd H3 B (.lst (tkV (L ++ L2' ++ [k3])))) := (on2'.trans on3).upn nB
          have a3' := a3.updn (o := .lst (tkV (L ++ L2' ++ [k3]))) nrB ntB
          have ec3' : (upd H3 B (.lst (tkV (L ++ L2' ++ [k3])))) cl = some (.lst (clV cs2)) := by rw [upd_ne ncB]; exact ec3
          generalize hG3 : upd H3 B (.lst (tkV (L ++ L2' ++ [k3]))) = G3 at on3' a3' ec3'
          have eB3' : G3 B = some (.lst (tkV (L ++ L2' ++ [k3]))) := by rw [← hG3, upd_same]
          -- the brackets that close
          refine ⟨_, rfl, .inl ⟨rfl, _, SqL.of eB3'⟩, _, rfl, _, rfl, r, dx, ta, cl, t, p3, cs2, rfl, a3', ec3', nt, hcs2, hl2, fun p4 cs4 H4 D4 L4 hp4 a4 on4 ec4 hcs4 hl4 es4 nc4 nD4 eD4 lx4 => ?_⟩
          have eB4 := on4 _ _ (Ne.symm nrB) (Ne.symm ncB) eB3'
          have lx4' := lx3.append lx4
          have s4 := lex_small lx4' a.sz
          rw [List.length_append] at s4
          refine ⟨B, D4, _, _, rfl, rfl, eB4, eD4, small5' (by simp only [tkV, List.length_map]; omega), ?_⟩
          rw [tkV_cat]
          generalize hL : L ++ L2' ++ [k3] ++ L4 = LL at lx4'
          have on4' : Only r r H (upd H4 B (.lst (tkV LL))) := (on3'.thru ncl on4).upn nB
          have a4' := a4.updn (o := .lst (tkV LL)) nrB ntB
          have ec4' : (upd H4 B (.lst (tkV LL))) cl = some (.lst (clV cs4)) := by rw [upd_ne ncB]; exact ec4
          generalize hG4 : upd H4 B (.lst (tkV LL)) = G4 at on4' a4' ec4'
          have eB4' : G4 B = some (.lst (tkV LL)) := by rw [← hG4, upd_same]
          rw [es4] at es3
          -- what goes on
          refine ⟨_, rfl, r, dx, _, rfl, a4'.ob, rfl, r, dx, ta, t, p4, _, [43, 45, 42], rfl, a4', .inl (by rfl), by show 3 ≤ 1000; decide, fun H5 sm5 => ⟨_, rfl, ?_⟩⟩
          have a5 := a4'.same sm5
          have on5 := on4'.trans (Only.same sm5)
          have ec5 := sm5 _ _ ec4'
          have eB5 := sm5 _ _ eB4'
          cases hsh : showsM [43, 45, 42] (t.drop p4) with
          | true =>
            refine iteT ?_
            obtain ⟨c, l, ed, hm⟩ := shows_yes hsh
            have ho : isOp c = true := (isOp_iff c).mpr hm
            have hnd : isDigit c = false := by
              have h3 : c.toNat ≠ 48 ∧ c.toNat < 48 := by
                simp only [List.mem_cons, List.not_mem_nil, or_false] at hm
                omega
              unfold isDigit
              rw [decide_eq_false (by omega : ¬ 48 ≤ c.toNat)]
              rfl
            refine ⟨_, rfl, true, rfl, ?_⟩
            refine iteT ?_
            refine ⟨_, rfl, .inl ⟨rfl, _, SqL.of eB5⟩, _, rfl, r, dx, _, rfl, a5.ob, rfl, r, dx, ta, t, p4, _, [43, 45, 42], rfl, a5, .inl (by rfl), by show 3 ≤ 1000; decide, ?_, ?_⟩
            · intro j hj
              rw [ed, signM_hit hm] at hj
              cases hj
            · intro c' q' hk2 H6 v6 ev6 a6 on6
              subst ev6
              rw [ed, signM_hit hm] at hk2
              have e3 : c.toNat = c' := (Prod.mk.inj (Except.ok.inj hk2)).1
              have e4 : p4 + 1 = q' := (Prod.mk.inj (Prod.mk.inj (Except.ok.inj hk2)).2).1
              subst e3
              subst e4
              have eB6 := on6 _ _ (Ne.symm nrB) (Ne.symm nrB) eB5
              have lx6 := lx4'.append (lex_br ed hnd)
              have s6 := lex_small lx6 a.sz
              rw [List.length_append] at s6
              refine ⟨B, _, _, rfl, rfl, eB6, small5 (by simp only [tkV, List.length_map]; omega), ?_⟩
              rw [tkV_snoc]
              refine ⟨cs4, p4 + 1, true, _, rfl, a6.updn nrB ntB, (on5.trans on6).upn nB, by rw [upd_ne ncB]; exact on6 _ _ (Ne.symm nr) (Ne.symm nr) ec5, upd_same, hcs4, hl4, lx6, fun _ => ⟨?_, by omega⟩, fun h => Bool.noConfusion h⟩
              rw [es3, ed, aft_op hcs4 ho, drop_succ ed]
          | false =>
            refine iteF ?_
            have no : ∀ c l, t.drop p4 = c :: l → isOp c = false := fun c l ed => by
              have := shows_no hsh c l ed
              cases hb : isOp c with
              | false => rfl
              | true => exact absurd ((isOp_iff c).mp hb) this
            refine ⟨_, rfl, cl, _, rfl, .inl (SqL.of ec5), _, _, rfl, rfl, ?_⟩
            cases cs4 with
            | nil =>
              refine ⟨_, rfl, false, rfl, ?_⟩
              refine iteF ?_
              exact ⟨[], p4, false, LL, rfl, a5, on5, ec5, eB5, hcs4, hl4, lx4', fun h => Bool.noConfusion h, fun _ => es3.trans (aft_out no)⟩
            | cons k rest =>
              refine ⟨_, rfl, true, ?_, ?_⟩
              · rw [clV_len]
                show V.bl (decide ((0 : Int) < ((rest.length + 1 : Nat) : Int))) = _
                rw [decide_eq_true (by omega)]
              · refine iteT ?_
                refine ⟨_, rfl, .inl ⟨rfl, _, SqL.of eB5⟩, _, rfl, r, dx, _, rfl, a5.ob, rfl, r, dx, ta, t, p4, _, [43, 45, 42], rfl, a5, .inl (by rfl), by show 3 ≤ 1000; decide, ?_, ?_⟩
                · intro j hj
                  rw [signM_miss hsh] at hj
                  cases hj
                  rw [aft_stuck fun c l ed => ⟨nc4 k rest rfl c l ed, no c l ed⟩] at es3
                  exact q.1 p4 (ex_of_error es3)
                · intro c' q' hk2
                  rw [signM_miss hsh] at hk2
                  cases hk2
end
end Ab

set_option Elab.async false
set_option linter.all false
set_option maxRecDepth 100000
set_option maxHeartbeats 2000000
namespace Ab
open PySem PySem.Spec PyProof.Rows L2 AbM
open Na (Bytes isDigit exHere cmpAt expect ascii)
/-! ### what has been read stands -/
inductive All2 {α : Type} (R : V → α → Prop) : List V → List α → Prop
  | nil : All2 R [] []
  | cons {v : V} {x : α} {vs : List V} {xs : List α} : R v x → All2 R vs xs → All2 R (v :: vs) (x :: xs)
theorem All2.snoc {α : Type} {R : V → α → Prop} {vs : List V} {xs : List α} (h : All2 R vs xs) {v : V} {x : α} (g : R v x) : All2 R (vs ++ [v]) (xs ++ [x]) := by
  induction h with
  | nil => exact .cons g .nil
  | cons a _ ih => exact .cons a ih
theorem All2.imp {α : Type} {R S : V → α → Prop} {vs : List V} {xs : List α} (h : All2 R vs xs) (k : ∀ v x, R v x → S v x) : All2 S vs xs := by
  induction h with
  | nil => exact .nil
  | cons a _ ih => exact .cons (k _ _ a) ih
theorem All2.len {α : Type} {R : V → α → Prop} {vs : List V} {xs : List α} (h : All2 R vs xs) : vs.length = xs.length := by
  induction h with
  | nil => rfl
  | cons a _ ih => rw [List.length_cons, List.length_cons, ih]
theorem All2.at {α : Type} {R : V → α → Prop} {vs : List V} {xs : List α} (h : All2 R vs xs) : ∀ {i : Nat} {x : α}, xs[i]? = some x → ∃ v, vs[i]? = some v ∧ R v x := by
  induction h with
  | nil => intro i x e; cases e
  | @cons v y vs xs a _ ih =>
    intro i x e
    cases i with
    | zero =>
      cases e
      exact ⟨v, rfl, a⟩
    | succ i => exact ih e
theorem All2.at' {α : Type} {R : V → α → Prop} {vs : List V} {xs : List α} (h : All2 R vs xs) : ∀ {i : Nat} {v : V}, vs[i]? = some v → ∃ x, xs[i]? = some x ∧ R v x := by
  induction h with
  | nil => intro i x e; cases e
  | @cons v y vs xs a _ ih =>
    intro i x e
    cases i with
    | zero =>
      cases e
      exact ⟨y, rfl, a⟩
    | succ i => exact ih e
/-- what is new since H0 stands from H to H' -/
def KeepN (H0 H H' : Hp) : Prop := ∀ b o, H0 b = none → H b = some o → H' b = some o
/-- what stood in H0 is still there -/
def Grow (H0 H1 : Hp) : Prop := ∀ b, H1 b = none → H0 b = none
theorem KeepN.trans {H0 H H1 H2 : Hp} (a : KeepN H0 H H1) (b : KeepN H0 H1 H2) : KeepN H0 H H2 := fun x o n e => b x o n (a x o n e)
theorem KeepN.only {r c : Addr} {H0 H H' : Hp} (k : Only r c H H') (h1 : H0 r ≠ none) (h2 : H0 c ≠ none) : KeepN H0 H H' := fun b o n e => k b o (fun z => h1 (z ▸ n)) (fun z => h2 (z ▸ n)) e
theorem KeepN.same {H0 H H' : Hp} (k : Same H H') : KeepN H0 H H' := fun b o _ e => k b o e
theorem KeepN.upd {H0 H : Hp} {B : Addr} {o : HO} (h : H0 B ≠ none) : KeepN H0 H (L2.upd H B o) := fun b u n e => by
  rw [upd_ne (fun z : b = B => h (by rw [← z]; exact n))]
  exact e
theorem KeepN.new {H0 H : Hp} {B : Addr} {o : HO} (h : H B = none) : KeepN H0 H (L2.upd H B o) := fun b u _ e => by
  rw [upd_ne (ne_of_none e h)]
  exact e
theorem Grow.trans {H0 H1 H2 : Hp} (a : Grow H0 H1) (b : Grow H1 H2) : Grow H0 H2 := fun x n => a x (b x n)
theorem Grow.refl {H : Hp} : Grow H H := fun _ n => n
theorem Grow.same {H H1 : Hp} (k : Same H H1) : Grow H H1 := fun b n => by
  cases e : H b with
  | none => rfl
  | some u => rw [k _ _ e] at n; cases n
theorem Grow.only {r c : Addr} {H H1 : Hp} (k : Only r c H H1) (h1 : H1 r ≠ none) (h2 : H1 c ≠ none) : Grow H H1 := fun b n => by
  cases e : H b with
  | none => rfl
  | some u =>
    have e1 : b ≠ r := fun z => h1 (z ▸ n)
    have e2 : b ≠ c := fun z => h2 (z ▸ n)
    rw [k _ _ e1 e2 e] at n
    cases n
theorem Grow.upd {H0 H1 : Hp} (a : Grow H0 H1) {B : Addr} {o : HO} : Grow H0 (L2.upd H1 B o) := fun b n => by
  by_cases h : b = B
  · rw [h, upd_same] at n; cases n
  · rw [upd_ne h] at n
    exact a b n
theorem at_some {H : Hp} {a : Addr} {o : HO} (h : H a = some o) : H a ≠ none := fun z => by rw [z] at h; cases h
theorem ExV.keep {H0 H H' : Hp} {v : V} {x : Na.Ex} (h : ExV H0 H v x) (k : KeepN H0 H H') : ExV H0 H' v x :=
  let ⟨a, e, n, g, l⟩ := h
  ⟨a, e, n, k a _ n g, l⟩
theorem ExV.old {H0 H1 H : Hp} {v : V} {x : Na.Ex} (h : ExV H1 H v x) (k : Grow H0 H1) : ExV H0 H v x :=
  let ⟨a, e, n, g, l⟩ := h
  ⟨a, e, k a n, g, l⟩
/-- a test -/
def TestV (H0 H : Hp) (v : V) (t : Na.Test) : Prop := ∃ (T : Addr) (va vb : V), v = .ref T ∧ H0 T = none ∧ H T = some (.tup [va, stV (cmpW t.cmp), vb]) ∧ ExV H0 H va t.a ∧ ExV H0 H vb t.b
theorem TestV.keep {H0 H H' : Hp} {v : V} {x : Na.Test} (h : TestV H0 H v x) (k : KeepN H0 H H') : TestV H0 H' v x :=
  let ⟨T, va, vb, e, n, g, ea, eb⟩ := h
  ⟨T, va, vb, e, n, k _ _ n g, ea.keep k, eb.keep k⟩
theorem TestV.old {H0 H1 H : Hp} {v : V} {x : Na.Test} (h : TestV H1 H v x) (k : Grow H0 H1) : TestV H0 H v x :=
  let ⟨T, va, vb, e, n, g, ea, eb⟩ := h
  ⟨T, va, vb, e, k _ n, g, ea.old k, eb.old k⟩
def TestsV (H0 H : Hp) (vs : List V) (ts : List Na.Test) : Prop := All2 (TestV H0 H) vs ts
theorem TestsV.keep {H0 H H' : Hp} {vs : List V} {ts : List Na.Test} (h : TestsV H0 H vs ts) (k : KeepN H0 H H') : TestsV H0 H' vs ts := All2.imp h fun _ _ g => g.keep k
theorem TestsV.old {H0 H1 H : Hp} {vs : List V} {ts : List Na.Test} (h : TestsV H1 H vs ts) (k : Grow H0 H1) : TestsV H0 H vs ts := All2.imp h fun _ _ g => g.old k
def spRT (K : PySem.W.Frag) (CR CF : Addr) : Sp := fun vs H Q E => ∃ (r dx ta : Addr) (t : Bytes) (p : Nat), vs = [.ref r] ∧ At K CR r dx ta t H p ∧
  Out K CR CF r dx ta t (tstM p (t.drop p)) H r (fun ts H' v => ∃ (D : Addr) (us : List V), v = .ref D ∧ H D = none ∧ H' D = some (.lst us) ∧ us.length ≤ 5000 ∧ TestsV H H' us ts) Q E
theorem cmp_error {q k : Nat} {c : Bytes} (h : munch c (tag [] wCmps) q = .error k) : cmpAt q c = .error k := by
  cases e : cmpAt q c with
  | error j =>
    rw [(munch_cmp q c).1 j e] at h
    cases h
    rfl
  | ok z =>
    obtain ⟨x, q', c'⟩ := z
    obtain ⟨_, hw⟩ := (munch_cmp q c).2 x q' c' e
    rw [hw] at h
    cases h
theorem cmp_ok {q q' : Nat} {c c' : Bytes} {w : List Nat} (h : munch c (tag [] wCmps) q = .ok (w, q', c')) : ∃ x, cmpAt q c = .ok (x, q', c') ∧ w = cmpW x := by
  cases e : cmpAt q c with
  | error j =>
    rw [(munch_cmp q c).1 j e] at h
    cases h
  | ok z =>
    obtain ⟨x, q2, c2⟩ := z
    obtain ⟨_, hw⟩ := (munch_cmp q c).2 x q2 c2 e
    rw [hw] at h
    cases h
    exact ⟨x, rfl, rfl⟩
def consT (t : Na.Test) (l : List Na.Test) (q : Nat) (c : Bytes) : Except Nat (List Na.Test × (Nat × Bytes)) := .ok (t :: l, q, c)
/-- behind the tests of one line: what stands there -/
def behindM (f : Nat) (t : Na.Test) (q : Nat) (c : Bytes) : Except Nat (List Na.Test × (Nat × Bytes)) := if c.head? = some 32 then bindX (expect (ascii " and ") q c) fun _ q c => bindX (tstF f q c) (consT t) else bindX (lf q c) fun _ q c => .ok ([t], q, c)
theorem behind_error {f q k : Nat} {t : Na.Test} {c : Bytes} (h : munch c (tag [] [wAnd, wLf]) q = .error k) : behindM f t q c = .error k := by
  rw [munch_behind] at h
  unfold behindM
  by_cases e : c.head? = some 32
  · rw [if_pos e] at h ⊢
    cases e2 : expect (ascii " and ") q c with
    | error j => rw [e2] at h; cases h; rfl
    | ok z => rw [e2] at h; cases h
  · rw [if_neg e] at h ⊢
    cases e2 : lf q c with
    | error j => rw [e2] at h; cases h; rfl
    | ok z => rw [e2] at h; cases h
theorem behind_ok {f q q' : Nat} {t : Na.Test} {c c' : Bytes} {w : List Nat} (h : munch c (tag [] [wAnd, wLf]) q = .ok (w, q', c')) : (w = wAnd ∧ c'.length < c.length ∧ behindM f t q c = bindX (tstF f q' c') (consT t)) ∨ (w = wLf ∧ behindM f t q c = .ok ([t], q', c')) := by
  rw [munch_behind] at h
  unfold behindM
  by_cases e : c.head? = some 32
  · rw [if_pos e] at h ⊢
    cases e2 : expect (ascii " and ") q c with
    | error j => rw [e2] at h; cases h
    | ok z =>
      obtain ⟨u, q2, c2⟩ := z
      rw [e2] at h
      cases h
      have := expect_len _ _ _ _ _ _ e2
      have hl : (ascii " and ").length = 5 := by decide +kernel
      exact .inl ⟨rfl, by omega, rfl⟩
  · rw [if_neg e] at h ⊢
    cases e2 : lf q c with
    | error j => rw [e2] at h; cases h
    | ok z =>
      obtain ⟨u, q2, c2⟩ := z
      rw [e2] at h
      cases h
      exact .inr ⟨rfl, rfl⟩
theorem tstF_chain (f p : Nat) (b : Bytes) : tstF (f + 1) p b = bindX (exHere p b) fun x q c => bindX (cmpAt q c) fun k q c => bindX (exHere q c) fun y q c => behindM f ⟨x, k, y⟩ q c := by
  rw [tstF_succ]
  unfold tst1
  simp only [bindX_assoc]
  rfl
/-- tests so far, then the rest -/
def preT (a : List Na.Test) (x : Except Nat (List Na.Test × (Nat × Bytes))) : Except Nat (List Na.Test × (Nat × Bytes)) := bindX x fun l q c => .ok (a ++ l, q, c)
theorem preT_cons (a : List Na.Test) (t : Na.Test) (x : Except Nat (List Na.Test × (Nat × Bytes))) : preT a (bindX x (consT t)) = preT (a ++ [t]) x := by
  cases x with
  | error k => rfl
  | ok z => show Except.ok (a ++ t :: z.1, _) = Except.ok (a ++ [t] ++ z.1, _); simp
theorem preT_nil (x : Except Nat (List Na.Test × (Nat × Bytes))) : preT [] x = x := by
  cases x with
  | error k => rfl
  | ok z => rfl
section
variable {P : Program} {w : World} {K : PySem.W.Frag} {mg : Str → Option Value} {base : Heap} {CE fBI CF fFI CR aB : Addr}
theorem scRT : FnScope ["reader", "tests", "behind", "left", "sign"] ["reader"] (defScope sRT) := ⟨rfl, rfl, rfl, by decide +kernel, rfl, by decide +kernel, by decide +kernel⟩
theorem ok_RT {f fRW fRE : Addr} {fd fdRW fdRE : FuncData} (F : Fun K "read_tests" "read_tests" sRT f fd) (T : Txt K mg CE fBI CF fFI CR)
    (mW : Meth K CR "read_word" fRW) (GW : FnOk P w K mg base (L2.CX P w) 5 fRW fdRW ["self", "words"] (spRW K CR CF)) (bW : Binds K fdRW ["self", "words"] [])
    (gE : mg "read_expression" = some (.ref fRE)) (kE : PySem.W.keepIn K (.ref fRE) = true) (GE : FnOk P w K mg base (L2.CX P w) 6 fRE fdRE ["reader"] (spRE K CR CF)) (bE : Binds K fdRE ["reader"] []) :
    FnOk P w K mg base (L2.CX P w) 7 f fd ["reader"] (spRT K CR CF) := by
  refine F.okX scRT (fun vs H Q E h => ?_) (fun cdv A outer s H vs Q E hr h => ?_)
  · obtain ⟨r, dx, ta, t, p, rfl, _⟩ := h
    rfl
  · obtain ⟨r, dx, ta, t, p0, rfl, a, q⟩ := h
    have hr5 : Room 5 _ := hr.mono (by decide)
    refine ⟨_, pss_cons (ps_set (i := 1) scRT.nd rfl (Or.inl rfl) (pe_lst pa_nil))
      (pss_cons (ps_set (i := 2) scRT.nd rfl (Or.inl rfl) pe_str)
      (pss_cons (ps_while (passes_of rfl) (pt_cmpR op_eq (pv 2) pe_str (nomark _))
        (pss_cons (ps_set (i := 3) scRT.nd rfl (Or.inl rfl) (pe_call GE hr rfl gE kE bE .nil (passes_call (takes_of rfl rfl rfl rfl) (fun _ _ _ _ h => h)) (pa_cons (pv 0) pa_nil)))
        (pss_cons (ps_set (i := 4) scRT.nd rfl (Or.inl rfl) (pe_meth (pv 0) T.cl mW GW hr5 bW .nil (passes_call (takes_of rfl rfl rfl rfl) (fun _ _ _ _ h => h)) (pa_cons (pe_lst (pa_cons pe_str (pa_cons pe_str (pa_cons pe_str (pa_cons pe_str (pa_cons pe_str (pa_cons pe_str pa_nil))))))) pa_nil)))
        (pss_cons (ps_expr (pe_bm PySem.F.plainAttrs_list PySem.F.slot_list_append PySem.F.type_list_append mt_append (pv 1) (pa_cons (pe_tup (pa_cons (pv 3) (pa_cons (pv 4) (pa_cons (pe_call GE hr rfl gE kE bE .nil (passes_call (takes_of rfl rfl rfl rfl) (fun _ _ _ _ h => h)) (pa_cons (pv 0) pa_nil)) pa_nil)))) pa_nil)))
        (pss_one (ps_set (i := 2) scRT.nd rfl (Or.inl rfl) (pe_meth (pv 0) T.cl mW GW hr5 bW .nil (passes_call (takes_of rfl rfl rfl rfl) (fun _ _ _ _ h => h)) (pa_cons (pe_lst (pa_cons pe_str (pa_cons pe_str pa_nil))) pa_nil))))))))
      (pss_one (ps_ret (pv 1))))), ?_⟩
    refine ⟨Nat.zero_le _, fun B nB => ?_⟩
    have nrB : r ≠ B := ne_of_none a.ob nB
    have ntB : Apart K ta B (bs t) := Apart.new a.tx nB
    have hB0 : ∀ b, (upd H B (.lst [])) b = none → H b = none := Grow.refl.upd
    generalize hH0 : upd H B (.lst []) = H0 at hB0
    have r0 : H0 r ≠ none := by rw [← hH0, upd_ne nrB]; exact at_some a.ob
    have b0 : H0 B ≠ none := by rw [← hH0, upd_same]; exact fun z => nomatch z
    have a0 : At K CR r dx ta t H0 p0 := by rw [← hH0]; exact a.updn nrB ntB
    have e0 : H0 B = some (.lst []) := by rw [← hH0, upd_same]
    have on0 : Only r r H H0 := by rw [← hH0]; exact Only.refl.upn nB
    refine ⟨fun m σ H1 => ∃ (wd : List Nat) (p : Nat) (us : List V) (ts : List Na.Test) (v3 v4 : Option V), σ = [some (.ref r), some (.ref B), some (stV wd), v3, v4] ∧ At K CR r dx ta t H1 p ∧ Only r r H H1 ∧ H1 B = some (.lst us) ∧ TestsV H0 H1 us ts ∧ Grow H0 H1 ∧ us.length ≤ p - p0 ∧ p0 ≤ p ∧
      (wd = wAnd → (∃ f, (t.drop p).length < f ∧ tstM p0 (t.drop p0) = preT ts (tstF f p (t.drop p))) ∧ m = t.length - p + 1) ∧ (wd ≠ wAnd → tstM p0 (t.drop p0) = .ok (ts, p, t.drop p)),
      ⟨_, wAnd, p0, [], [], _, _, rfl, a0, on0, e0, .nil, Grow.refl, Nat.zero_le _, Nat.le_refl _, fun _ => ⟨⟨_, Nat.lt_succ_self _, (preT_nil _).symm⟩, rfl⟩, fun h => absurd rfl h⟩, ?_⟩
    rintro m σ H1 ⟨wd, p, us, ts, v3, v4, rfl, a1, on1, eB1, hts, gr1, hul, hpp, ht, hf⟩
    refine ⟨_, rfl, rfl, _, rfl, ?_⟩
    by_cases hw : wd = wAnd
    · obtain ⟨⟨f, hfl, es⟩, rfl⟩ := ht hw
      refine if_true_of (by subst hw; rfl) ?_
      cases f with
      | zero => exact absurd hfl (Nat.not_lt_zero _)
      | succ f =>
        rw [tstF_chain] at es
        refine ⟨fun σ H1 => ∃ (wd : List Nat) (p' : Nat) (us : List V) (ts : List Na.Test) (v3 v4 : Option V), σ = [some (.ref r), some (.ref B), some (stV wd), v3, v4] ∧ At K CR r dx ta t H1 p' ∧ Only r r H H1 ∧ H1 B = some (.lst us) ∧ TestsV H0 H1 us ts ∧ Grow H0 H1 ∧ us.length ≤ p' - p0 ∧ p0 ≤ p' ∧
          (wd = wAnd → (∃ f, (t.drop p').length < f ∧ tstM p0 (t.drop p0) = preT ts (tstF f p' (t.drop p'))) ∧ p < p') ∧ (wd ≠ wAnd → tstM p0 (t.drop p0) = .ok (ts, p', t.drop p')), ?_, ?_⟩
        · rintro σ' H' ⟨wd', p', us', ts', v3', v4', e, b1, b2, c1, c2, c3, c4, c5, b3, b4⟩
          by_cases hw' : wd' = wAnd
          · obtain ⟨b5, lt⟩ := b3 hw'
            have := b1.le
            exact ⟨_, by omega, wd', p', us', ts', v3', v4', e, b1, b2, c1, c2, c3, c4, c5, fun _ => ⟨b5, rfl⟩, b4⟩
          · exact ⟨0, by omega, wd', p', us', ts', v3', v4', e, b1, b2, c1, c2, c3, c4, c5, fun h => absurd h hw', b4⟩
        · refine ⟨_, rfl, r, dx, ta, t, p, rfl, a1, ?_, ?_⟩
          · intro k hk
            rw [hk] at es
            exact q.1 k es
          · intro x q1 hk H2 v ev a2 on2
            rw [hk, bindX_ok] at es
            have l1 := (ex_len hk).1
            have ev0 : ExV H0 H2 v x := ev.old gr1
            have eB2 : H2 B = some (.lst us) := on2 _ _ (Ne.symm nrB) (Ne.symm nrB) eB1
            have hts2 : TestsV H0 H2 us ts := hts.keep (KeepN.only on2 r0 r0)
            have gr2 : Grow H0 H2 := gr1.trans (Grow.only on2 (at_some a2.ob) (at_some a2.ob))
            refine ⟨_, rfl, r, dx, _, rfl, a2.ob, rfl, by show 6 ≤ sizeLine; exact Nat.le_of_lt (small1000 (by decide)), fun D nD => ?_⟩
            refine ⟨r, dx, ta, t, q1, D, wCmps, rfl, a2.same (same_upd nD), SqL.of (xs := wCmps.map stV) upd_same, by decide, by decide, ?_, ?_⟩
            · intro k hk2
              rw [cmp_error hk2] at es
              exact q.1 k es
            · intro wd2 q2 hk2 H3 v3 ev3 a3 on3
              subst ev3
              obtain ⟨x2, hx2, ew⟩ := cmp_ok hk2
              subst ew
              rw [hx2, bindX_ok] at es
              have l2 := ((munch_cmp q1 _).2 _ _ _ hx2).1
              have on3' : Only r r H2 H3 := (Only.same (same_upd nD)).trans on3
              have eB3 : H3 B = some (.lst us) := on3' _ _ (Ne.symm nrB) (Ne.symm nrB) eB2
              have k3 : KeepN H0 H2 H3 := KeepN.only on3' r0 r0
              have gr3 : Grow H0 H3 := gr2.trans (Grow.only on3' (at_some a3.ob) (at_some a3.ob))
              refine ⟨_, rfl, .inl ⟨rfl, _, SqL.of eB3⟩, _, rfl, _, rfl, _, rfl, r, dx, ta, t, q2, rfl, a3, ?_, ?_⟩
              · intro k hk
                rw [hk] at es
                exact q.1 k es
              · intro x3 q3 hk3 H4 v4 ev4 a4 on4
                rw [hk3, bindX_ok] at es
                have l3 := (ex_len hk3).1
                have k4 : KeepN H0 H3 H4 := KeepN.only on4 r0 r0
                have gr4 : Grow H0 H4 := gr3.trans (Grow.only on4 (at_some a4.ob) (at_some a4.ob))
                have eB4 : H4 B = some (.lst us) := on4 _ _ (Ne.symm nrB) (Ne.symm nrB) eB3
                have on4' : Only r r H H4 := (on1.trans on2).trans (on3'.trans on4)
                refine ⟨by show 3 ≤ sizeLine; exact small5' (by decide), fun D3 nD3 => ?_⟩
                have nBD : B ≠ D3 := ne_of_none eB4 nD3
                have nrD : r ≠ D3 := ne_of_none a4.ob nD3
                have e5 : (upd H4 D3 (.tup [v, stV (cmpW x2), v4])) B = some (.lst us) := by rw [upd_ne nBD]; exact eB4
                have hus5 : us.length ≤ 5000 := by have := a1.le; have := a1.sz; omega
                refine ⟨B, _, _, rfl, rfl, e5, small5 (by omega), ?_⟩
                have hnew : TestV H0 (upd H4 D3 (.tup [v, stV (cmpW x2), v4])) (.ref D3) ⟨x, x2, x3⟩ :=
                  ⟨D3, v, v4, rfl, gr4 _ nD3, upd_same, (ev0.keep (k3.trans k4)).keep (KeepN.new nD3), (ev4.old gr3).keep (KeepN.new nD3)⟩
                have hts5 : TestsV H0 (upd (upd H4 D3 (.tup [v, stV (cmpW x2), v4])) B (.lst (us ++ [.ref D3]))) (us ++ [.ref D3]) (ts ++ [⟨x, x2, x3⟩]) :=
                  TestsV.keep (All2.snoc ((hts2.keep (k3.trans k4)).keep (KeepN.new nD3)) hnew) (KeepN.upd b0)
                have a5 : At K CR r dx ta t (upd (upd H4 D3 (.tup [v, stV (cmpW x2), v4])) B (.lst (us ++ [.ref D3]))) q3 := (a4.same (same_upd nD3)).updn nrB ntB
                have on5 : Only r r H (upd (upd H4 D3 (.tup [v, stV (cmpW x2), v4])) B (.lst (us ++ [.ref D3]))) := (on4'.trans (Only.same (same_upd nD3))).upn nB
                have gr5 : Grow H0 (upd (upd H4 D3 (.tup [v, stV (cmpW x2), v4])) B (.lst (us ++ [.ref D3]))) := gr4.upd.upd
                have eB5 : (upd (upd H4 D3 (.tup [v, stV (cmpW x2), v4])) B (.lst (us ++ [.ref D3]))) B = some (.lst (us ++ [.ref D3])) := upd_same
                generalize upd (upd H4 D3 (.tup [v, stV (cmpW x2), v4])) B (.lst (us ++ [.ref D3])) = H5 at hts5 a5 on5 gr5 eB5
                refine ⟨_, rfl, r, dx, _, rfl, a5.ob, rfl, by show 2 ≤ sizeLine; exact Nat.le_of_lt (small1000 (by decide)), fun D2 nD2 => ?_⟩
                refine ⟨r, dx, ta, t, q3, D2, [wAnd, wLf], rfl, a5.same (same_upd nD2), SqL.of (xs := ([wAnd, wLf] : List (List Nat)).map stV) upd_same, by decide, by decide, ?_, ?_⟩
                · intro k hk4
                  rw [behind_error hk4] at es
                  exact q.1 k es
                · intro wd5 q5 hk5 H6 v5 ev5 a6 on6
                  subst ev5
                  have on6' : Only r r H5 H6 := (Only.same (same_upd nD2)).trans on6
                  have hts6 := hts5.keep (KeepN.only on6' r0 r0)
                  have gr6 : Grow H0 H6 := gr5.trans (Grow.only on6' (at_some a6.ob) (at_some a6.ob))
                  have eB6 := on6' _ _ (Ne.symm nrB) (Ne.symm nrB) eB5
                  have h5 := a6.le
                  have h1 := a1.le
                  have h3 := a4.le
                  have h2 := a2.le
                  have h4 := a3.le
                  have l5 : q3 ≤ q5 := by
                    rcases behind_ok (f := f) (t := (⟨x, x2, x3⟩ : Na.Test)) hk5 with ⟨e1, l5, e2⟩ | ⟨e1, e2⟩
                    · simp only [List.length_drop] at l5
                      omega
                    · have := (munch_len _ _ _ _ _ _ hk5).1
                      simp only [List.length_drop] at this
                      omega
                  have hlen : (us ++ [V.ref D3]).length ≤ q5 - p0 ∧ p < q5 := by
                    rw [List.length_append]
                    simp only [List.length_drop] at l1 l2 l3
                    simp only [List.length_cons, List.length_nil]
                    omega
                  rcases behind_ok (f := f) (t := (⟨x, x2, x3⟩ : Na.Test)) hk5 with ⟨e1, l5, e2⟩ | ⟨e1, e2⟩
                  · subst e1
                    rw [e2, preT_cons] at es
                    refine ⟨wAnd, q5, _, _, _, _, rfl, a6, on5.trans on6', eB6, hts6, gr6, hlen.1, by omega, fun _ => ⟨⟨f, ?_, es⟩, hlen.2⟩, fun h => absurd rfl h⟩
                    simp only [List.length_drop] at l1 l2 l3 l5 hfl ⊢
                    omega
                  · subst e1
                    rw [e2] at es
                    exact ⟨wLf, q5, _, _, _, _, rfl, a6, on5.trans on6', eB6, hts6, gr6, hlen.1, by omega, fun h => absurd h (by decide), fun _ => es⟩
    · refine if_false_of ?_ ?_
      · refine decide_eq_false fun z => hw ?_
        have z1 : S wd = S wAnd := V.str.inj z
        exact S_inj z1
      · exact ⟨_, rfl, q.2 ts p (hf hw) H1 _ ⟨B, us, rfl, nB, eB1, by have := a1.le; have := a1.sz; omega, hts.old hB0⟩ a1 on1⟩
end
end Ab

set_option Elab.async false
set_option linter.all false
set_option maxRecDepth 100000
set_option maxHeartbeats 4000000
namespace Ab
open PySem PySem.Spec PyProof.Rows L2 AbM
open Na (Bytes isDigit exHere cmpAt expect ascii headAt)
def OkO (o : List Nat) : Prop := o.length ≤ 16 ∧ ∀ k ∈ o, k = 0 ∨ k = 1 ∨ k = 2
/-- a line's first word, as the program gives it back -/
def nameOf : Na.Line → List Nat
  | .add _ _ => [97, 100, 100]
  | .take _ _ => [116, 97, 107, 101]
  | .set _ _ => [115, 101, 116]
  | .if_ _ => [105, 102]
  | .else_ => [101, 108, 115, 101]
  | .end_ => [101, 110, 100]
  | .while_ _ => [119, 104, 105, 108, 101]
  | .halt_ => [115, 116, 111, 112]
  | .fail => [102, 97, 105, 108]
def PartsV (H0 H : Hp) (us : List V) : Na.Line → Prop
  | .add e r => ∃ a b, us = [a, b] ∧ ExV H0 H a e ∧ ExV H0 H b r
  | .take e r => ∃ a b, us = [a, b] ∧ ExV H0 H a e ∧ ExV H0 H b r
  | .set k e => ∃ a, us = [sgV (97 + k), a] ∧ ExV H0 H a e
  | .if_ ts => TestsV H0 H us ts
  | .while_ ts => TestsV H0 H us ts
  | _ => us = []
theorem PartsV.keep {H0 H H' : Hp} {us : List V} {l : Na.Line} (h : PartsV H0 H us l) (k : KeepN H0 H H') : PartsV H0 H' us l := by
  cases l with
  | add e r => obtain ⟨a, b, e1, e2, e3⟩ := h; exact ⟨a, b, e1, e2.keep k, e3.keep k⟩
  | take e r => obtain ⟨a, b, e1, e2, e3⟩ := h; exact ⟨a, b, e1, e2.keep k, e3.keep k⟩
  | set j e => obtain ⟨a, e1, e2⟩ := h; exact ⟨a, e1, e2.keep k⟩
  | if_ ts => exact TestsV.keep h k
  | while_ ts => exact TestsV.keep h k
  | else_ => exact h
  | end_ => exact h
  | halt_ => exact h
  | fail => exact h
theorem PartsV.old {H0 H1 H : Hp} {us : List V} {l : Na.Line} (h : PartsV H1 H us l) (k : Grow H0 H1) : PartsV H0 H us l := by
  cases l with
  | add e r => obtain ⟨a, b, e1, e2, e3⟩ := h; exact ⟨a, b, e1, e2.old k, e3.old k⟩
  | take e r => obtain ⟨a, b, e1, e2, e3⟩ := h; exact ⟨a, b, e1, e2.old k, e3.old k⟩
  | set j e => obtain ⟨a, e1, e2⟩ := h; exact ⟨a, e1, e2.old k⟩
  | if_ ts => exact TestsV.old h k
  | while_ ts => exact TestsV.old h k
  | else_ => exact h
  | end_ => exact h
  | halt_ => exact h
  | fail => exact h
/-- a line -/
def LineV (H0 H : Hp) (v : V) (l : Na.Line) : Prop := ∃ (T P : Addr) (us : List V), v = .ref T ∧ H0 T = none ∧ H T = some (.tup [stV (nameOf l), .ref P]) ∧ H0 P = none ∧ H P = some (.lst us) ∧ PartsV H0 H us l
theorem LineV.keep {H0 H H' : Hp} {v : V} {x : Na.Line} (h : LineV H0 H v x) (k : KeepN H0 H H') : LineV H0 H' v x :=
  let ⟨T, P, us, e, n, g, n2, g2, ps⟩ := h
  ⟨T, P, us, e, n, k _ _ n g, n2, k _ _ n2 g2, ps.keep k⟩
theorem LineV.old {H0 H1 H : Hp} {v : V} {x : Na.Line} (h : LineV H1 H v x) (k : Grow H0 H1) : LineV H0 H v x :=
  let ⟨T, P, us, e, n, g, n2, g2, ps⟩ := h
  ⟨T, P, us, e, k _ n, g, k _ n2, g2, ps.old k⟩
def spRL (K : PySem.W.Frag) (CR CF : Addr) : Sp := fun vs H Q E => ∃ (r dx ta bl : Addr) (t : Bytes) (p : Nat) (o : List Nat), vs = [.ref r, .ref bl] ∧ At K CR r dx ta t H p ∧ H bl = some (.lst (bkV o)) ∧ Apart K ta bl (bs t) ∧ OkO o ∧
  Out K CR CF r dx ta t (lineP o p (t.drop p)) H bl (fun x H' v => LineV H H' v x.1 ∧ H' bl = some (.lst (bkV x.2)) ∧ OkO x.2) Q E
theorem bkV_cons (k : Nat) (o : List Nat) : bkV (k :: o) = bkV o ++ [stV (bkW k)] := by
  show ((k :: o).reverse.map _) = _
  rw [List.reverse_cons, List.map_append]
  rfl
theorem bkV_len (o : List Nat) : (bkV o).length = o.length := by simp
theorem munch_mem {ws : List (List Nat)} : ∀ (b : Bytes) (acc : List Nat) (p : Nat) (w : List Nat) (q : Nat) (c : Bytes), munch b (tag acc ws) p = .ok (w, q, c) → w ∈ ws
  | [], acc, p, w, q, c, h => by
    rw [munch_stop (fun c l e => by cases e)] at h
    by_cases hm : acc ∈ ws
    · rw [if_pos hm] at h
      cases h
      exact hm
    · rw [if_neg hm] at h
      cases h
  | d :: l, acc, p, w, q, c, h => by
    by_cases hd : d.toNat ∈ heads (tag acc ws)
    · rw [munch_go hd] at h
      exact munch_mem l _ _ _ _ _ h
    · rw [munch_stop (fun c' l' e => by rw [← (List.cons.inj e).1]; exact hd)] at h
      by_cases hm : acc ∈ ws
      · rw [if_pos hm] at h
        cases h
        exact hm
      · rw [if_neg hm] at h
        cases h
theorem sign_expect (k : UInt8) (q : Nat) (c : Bytes) : expect [k] q c = bindX (signM [k.toNat] q c) fun _ q c => .ok ((), q, c) := by
  cases c with
  | nil => rfl
  | cons d l =>
    show (if k = d then Except.ok ((), q + 1, l) else .error q) = bindX (if d.toNat ∈ [k.toNat] then _ else _) _
    by_cases h : k = d
    · subst h
      rw [if_pos rfl, if_pos List.mem_cons_self]
      rfl
    · have h2 : ¬ d.toNat ∈ [k.toNat] := fun z => h (UInt8.toNat_inj.mp (by simpa using z)).symm
      rw [if_neg h, if_neg h2]
      rfl
theorem headAt_X {γ : Type} (q : Nat) (c : Bytes) (g : Nat → Nat → Bytes → Except Nat γ) : bindX (headAt q c) (fun k q c => g k q c) = bindX (signM nHead q c) fun k q c => g (k - 97) q c := by
  cases c with
  | nil => rfl
  | cons d l =>
    show bindX (if 97 ≤ d.toNat ∧ d.toNat ≤ 104 then Except.ok (d.toNat - 97, q + 1, l) else .error q) _ = bindX (if d.toNat ∈ nHead then _ else _) _
    have e : d.toNat ∈ nHead ↔ 97 ≤ d.toNat ∧ d.toNat ≤ 104 := by
      simp only [List.mem_cons, List.not_mem_nil, or_false]
      omega
    by_cases h : 97 ≤ d.toNat ∧ d.toNat ≤ 104
    · rw [if_pos h, if_pos (e.mpr h)]
      rfl
    · rw [if_neg h, if_neg (fun z => h (e.mp z))]
      rfl
theorem sign_in {cs : List Nat} {p : Nat} {b : Bytes} {c q : Nat} {l : Bytes} (h : signM cs p b = .ok (c, q, l)) : c ∈ cs := by
  cases b with
  | nil => cases h
  | cons d r =>
    have h' : (if d.toNat ∈ cs then Except.ok (d.toNat, p + 1, r) else .error p) = .ok (c, q, l) := h
    by_cases e : d.toNat ∈ cs
    · rw [if_pos e] at h'
      cases h'
      exact e
    · rw [if_neg e] at h'
      cases h'
theorem munch_at (q : Nat) (c : Bytes) : munch c (tag [] [wAt]) q = bindX (expect (ascii " at ") q c) fun _ q c => .ok (wAt, q, c) := by
  have e : tag [] [wAt] = [((ascii " at ").map UInt8.toNat, wAt)] := by decide +kernel
  rw [e, munch_one]
theorem atM_eq (g : Na.Ex → Na.Ex → Na.Line) (o : List Nat) (q : Nat) (c : Bytes) : atM g o q c = bindX (exHere q c) fun x q c => bindX (munch c (tag [] [wAt]) q) fun _ q c => bindX (exHere q c) fun y q c => bindX (signM [10] q c) fun _ q c => .ok ((g x y, o), q, c) := by
  unfold atM
  refine bindX_congr fun _ q c _ => ?_
  rw [munch_at, bindX_assoc]
  refine bindX_congr fun _ q c _ => ?_
  refine bindX_congr fun _ q c _ => ?_
  show bindX (expect [10] q c) _ = _
  rw [sign_expect, bindX_assoc]
  rfl
theorem setM_eq (o : List Nat) (q : Nat) (c : Bytes) : setM o q c = bindX (signM nHead q c) fun k q c => bindX (signM [32] q c) fun _ q c => bindX (exHere q c) fun x q c => bindX (signM [10] q c) fun _ q c => .ok ((.set (k - 97) x, o), q, c) := by
  unfold setM
  rw [headAt_X]
  refine bindX_congr fun _ q c _ => ?_
  rw [sign_expect, bindX_assoc]
  refine bindX_congr fun _ q c _ => ?_
  rw [bindX_ok]
  refine bindX_congr fun _ q c _ => ?_
  show bindX (expect [10] q c) _ = _
  rw [sign_expect, bindX_assoc]
  rfl
theorem stV_eq (w v : List Nat) : decide (stV w = stV v) = decide (w = v) := by
  by_cases h : w = v
  · subst h
    simp
  · rw [decide_eq_false h]
    exact decide_eq_false fun z => h (S_inj (V.str.inj z))
/-- the words with which lines begin -/
abbrev nine : List (List Nat) := [wAdd, wTake, wSet, wStop, wFail, wIf, wWhile, wEnd, wElse]
theorem lw_mem {o w : List Nat} (h : w ∈ lineWords o) : w ∈ nine := by
  unfold lineWords at h
  rcases List.mem_append.mp h with hw | hw
  · rcases List.mem_append.mp hw with hw | hw
    · revert hw
      simp only [List.mem_cons, List.not_mem_nil, or_false]
      intro z
      rcases z with z | z | z | z | z <;> simp [z]
    · split at hw
      · revert hw
        simp only [List.mem_cons, List.not_mem_nil, or_false]
        intro z
        rcases z with z | z <;> simp [z]
      · cases hw
  · split at hw
    · cases hw
    · rcases List.mem_cons.mp hw with hw | hw
      · simp [hw]
      · split at hw
        · have := List.mem_singleton.mp hw
          simp [this]
        · cases hw
theorem lw_len (o : List Nat) : (lineWords o).length ≤ 1000 := by
  unfold lineWords
  rw [List.length_append, List.length_append]
  have h1 : (if o.length < 16 then [wIf, wWhile] else []).length ≤ 2 := by split <;> decide
  have h2 : (if o.isEmpty = true then [] else wEnd :: (if o.head? = some 1 then [wElse] else [])).length ≤ 2 := by
    split
    · decide
    · split <;> decide
  have h3 : ([wAdd, wTake, wSet, wStop, wFail] : List (List Nat)).length = 5 := rfl
  omega
theorem lw_room {o : List Nat} (h : wIf ∈ lineWords o ∨ wWhile ∈ lineWords o) : o.length < 16 := by
  by_cases hl : o.length < 16
  · exact hl
  · exfalso
    unfold lineWords at h
    rw [if_neg hl] at h
    cases o with
    | nil => exact hl (by decide)
    | cons k r =>
      have e : (if (k :: r).isEmpty = true then [] else wEnd :: (if (k :: r).head? = some 1 then [wElse] else [])) = wEnd :: (if some k = some 1 then [wElse] else []) := rfl
      rw [e] at h
      by_cases hk : some k = some 1
      · rw [if_pos hk] at h
        revert h
        decide
      · rw [if_neg hk] at h
        revert h
        decide
theorem lw_open {o : List Nat} (h : wEnd ∈ lineWords o ∨ wElse ∈ lineWords o) : ∃ k r, o = k :: r := by
  cases o with
  | nil =>
    exfalso
    revert h
    decide
  | cons k r => exact ⟨k, r, rfl⟩
section
variable {P : Program} {w : World} {K : PySem.W.Frag} {mg : Str → Option Value} {base : Heap} {CE fBI CF fFI CR aB : Addr}
theorem scRL : FnScope ["reader", "blocks", "word", "parts"] ["reader", "blocks"] (defScope sRL) := ⟨rfl, rfl, rfl, by decide +kernel, rfl, by decide +kernel, by decide +kernel⟩
theorem ok_RL {f fLW fRS fRW fRE fRT : Addr} {fd fdLW fdRS fdRW fdRE fdRT : FuncData} (F : Fun K "read_line" "read_line" sRL f fd) (T : Txt K mg CE fBI CF fFI CR) (G : Gram mg)
    (mR : Meth K CR "read_sign" fRS) (GR : FnOk P w K mg base (L2.CX P w) 4 fRS fdRS ["self", "signs"] (spRS K CR CF)) (bR : Binds K fdRS ["self", "signs"] [])
    (mW : Meth K CR "read_word" fRW) (GW : FnOk P w K mg base (L2.CX P w) 5 fRW fdRW ["self", "words"] (spRW K CR CF)) (bW : Binds K fdRW ["self", "words"] [])
    (gL : mg "line_words" = some (.ref fLW)) (kL : PySem.W.keepIn K (.ref fLW) = true) (GL : FnOk P w K mg base CX0 1 fLW fdLW ["blocks"] (spLW K)) (bL : Binds K fdLW ["blocks"] [])
    (gE : mg "read_expression" = some (.ref fRE)) (kE : PySem.W.keepIn K (.ref fRE) = true) (GE : FnOk P w K mg base (L2.CX P w) 6 fRE fdRE ["reader"] (spRE K CR CF)) (bE : Binds K fdRE ["reader"] [])
    (gT : mg "read_tests" = some (.ref fRT)) (kT : PySem.W.keepIn K (.ref fRT) = true) (GT : FnOk P w K mg base (L2.CX P w) 7 fRT fdRT ["reader"] (spRT K CR CF)) (bT : Binds K fdRT ["reader"] []) :
    FnOk P w K mg base (L2.CX P w) 8 f fd ["reader", "blocks"] (spRL K CR CF) := by
  refine F.okX scRL (fun vs H Q E h => ?_) (fun cdv A outer s H vs Q E hr h => ?_)
  · obtain ⟨r, dx, ta, bl, t, p, o, rfl, _⟩ := h
    rfl
  · obtain ⟨r, dx, ta, bl, t, p, o, rfl, a, hb, nt, ho, q⟩ := h
    obtain ⟨uH, hH⟩ := G.heads
    have hr6 : Room 6 _ := hr.mono (by decide)
    have hr5 : Room 5 _ := hr.mono (by decide)
    have hr4 : Room 4 _ := hr.mono (by decide)
    have hr1 : Room 1 _ := hr.mono (by decide)
    have nr : r ≠ bl := ne_of a.ob hb (by intro z; cases z)
    refine ⟨_, pss_cons (ps_set (i := 2) scRL.nd rfl (Or.inl rfl) (pe_meth (pv 0) T.cl mW GW hr5 bW .nil (passes_call (takes_of rfl rfl rfl rfl) (fun _ _ _ _ h => h)) (pa_cons (pe_call GL hr1 rfl gL kL bL .nil pass0 (pa_cons (pv 1) pa_nil)) pa_nil)))
      (pss_cons (ps_set (i := 3) scRL.nd rfl (Or.inl rfl) (pe_lst pa_nil))
      (C8.pss_cut (ps_if (PW.pt (pw_or (pt_cmpR op_eq (pv 2) pe_str (nomark _)) (pw_or1 (pt_cmpR op_eq (pv 2) pe_str (nomark _)))))
        (pss_cons (ps_expr (pe_bm PySem.F.plainAttrs_list PySem.F.slot_list_append PySem.F.type_list_append mt_append (pv 3) (pa_cons (pe_call GE hr6 rfl gE kE bE .nil (passes_call (takes_of rfl rfl rfl rfl) (fun _ _ _ _ h => h)) (pa_cons (pv 0) pa_nil)) pa_nil)))
        (pss_cons (ps_expr (pe_meth (pv 0) T.cl mW GW hr5 bW .nil (passes_call (takes_of rfl rfl rfl rfl) (fun _ _ _ _ h => h)) (pa_cons (pe_lst (pa_cons pe_str pa_nil)) pa_nil)))
        (pss_cons (ps_expr (pe_bm PySem.F.plainAttrs_list PySem.F.slot_list_append PySem.F.type_list_append mt_append (pv 3) (pa_cons (pe_call GE hr6 rfl gE kE bE .nil (passes_call (takes_of rfl rfl rfl rfl) (fun _ _ _ _ h => h)) (pa_cons (pv 0) pa_nil)) pa_nil)))
        (pss_one (ps_expr (pe_meth (pv 0) T.cl mR GR hr4 bR .nil (passes_call (takes_of rfl rfl rfl rfl) (fun _ _ _ _ h => h)) (pa_cons pe_str pa_nil)))))))
        (pss_one (ps_if (pt_cmpR op_eq (pv 2) pe_str (nomark _))
          (pss_cons (ps_expr (pe_bm PySem.F.plainAttrs_list PySem.F.slot_list_append PySem.F.type_list_append mt_append (pv 3) (pa_cons (pe_meth (pv 0) T.cl mR GR hr4 bR .nil (passes_call (takes_of rfl rfl rfl rfl) (fun _ _ _ _ h => h)) (pa_cons (pe_glob (v := .str "abcdefgh") rfl hH ⟨_, rfl⟩) pa_nil)) pa_nil)))
          (pss_cons (ps_expr (pe_meth (pv 0) T.cl mR GR hr4 bR .nil (passes_call (takes_of rfl rfl rfl rfl) (fun _ _ _ _ h => h)) (pa_cons pe_str pa_nil)))
          (pss_cons (ps_expr (pe_bm PySem.F.plainAttrs_list PySem.F.slot_list_append PySem.F.type_list_append mt_append (pv 3) (pa_cons (pe_call GE hr6 rfl gE kE bE .nil (passes_call (takes_of rfl rfl rfl rfl) (fun _ _ _ _ h => h)) (pa_cons (pv 0) pa_nil)) pa_nil)))
          (pss_one (ps_expr (pe_meth (pv 0) T.cl mR GR hr4 bR .nil (passes_call (takes_of rfl rfl rfl rfl) (fun _ _ _ _ h => h)) (pa_cons pe_str pa_nil)))))))
          (pss_one (ps_if (PW.pt (pw_or (pt_cmpR op_eq (pv 2) pe_str (nomark _)) (pw_or1 (pt_cmpR op_eq (pv 2) pe_str (nomark _)))))
            (pss_cons (ps_expr (pe_bm PySem.F.plainAttrs_list PySem.F.slot_list_extend PySem.F.type_list_extend mt_extend (pv 3) (pa_cons (pe_call GT hr rfl gT kT bT .nil (passes_call (takes_of rfl rfl rfl rfl) (fun _ _ _ _ h => h)) (pa_cons (pv 0) pa_nil)) pa_nil)))
              (pss_one (ps_expr (pe_bm PySem.F.plainAttrs_list PySem.F.slot_list_append PySem.F.type_list_append mt_append (pv 1) (pa_cons (pv 2) pa_nil)))))
            (pss_one (ps_if (pt_cmpR op_eq (pv 2) pe_str (nomark _))
              (pss_one (ps_asg (pv 2) (pg_sub (pv 1) (pe_un un_neg pe_int) set_list)))
              (pss_one (ps_if (pt_cmpR op_eq (pv 2) pe_str (nomark _))
                (pss_one (ps_expr (pe_bm0 PySem.F.plainAttrs_list PySem.F.slot_list_pop PySem.F.type_list_pop mt_pop (pv 1)))) pss_nil)))))))))
      (pss_one (ps_ret (pe_tup (pa_cons (pe_strip (pv 2)) (pa_cons (pv 3) pa_nil))))))), ?_⟩
    have es := lineP_eq o p (t.drop p)
    refine ⟨_, rfl, r, dx, _, rfl, a.ob, rfl, _, rfl, bl, o, rfl, hb, ho.1, fun H1 D sm1 nD eD => ?_⟩
    have hws : ∀ w ∈ lineWords o, w.length ≤ 100 := fun w hw => by
      have h : ∀ y ∈ nine, y.length ≤ 100 := by decide
      exact h w (lw_mem hw)
    have a1 := a.same sm1
    refine ⟨r, dx, ta, t, p, D, lineWords o, rfl, a1, SqL.of eD, lw_len o, hws, ?_, ?_⟩
    · intro k hk
      rw [hk] at es
      exact q.1 k es
    · intro wd p1 hk H2 v ev a2 on2
      subst ev
      rw [hk, bindX_ok] at es
      have hmem := munch_mem _ _ _ _ _ _ hk
      have on2' : Only r bl H H2 := (Only.same sm1).trans (Only.wide on2)
      have hb2 : H2 bl = some (.lst (bkV o)) := on2 _ _ (Ne.symm nr) (Ne.symm nr) (sm1 _ _ hb)
      refine ⟨Nat.zero_le _, fun B nB => ?_⟩
      have nrB : r ≠ B := ne_of_none a2.ob nB
      have nbB : bl ≠ B := ne_of_none hb2 nB
      have ntB : Apart K ta B (bs t) := Apart.new a2.tx nB
      have gr0 : Grow H (upd H2 B (.lst [])) := (Grow.only on2' (at_some a2.ob) (at_some hb2)).upd
      have nBH : H B = none := Grow.only on2' (at_some a2.ob) (at_some hb2) _ nB
      have a3 : At K CR r dx ta t (upd H2 B (.lst [])) p1 := a2.updn nrB ntB
      have hb3 : (upd H2 B (.lst [])) bl = some (.lst (bkV o)) := by rw [upd_ne nbB]; exact hb2
      have eB3 : (upd H2 B (.lst [])) B = some (.lst []) := upd_same
      have on3 : Only r bl H (upd H2 B (.lst [])) := on2'.upn nBH
      generalize upd H2 B (.lst []) = H0 at gr0 a3 hb3 eB3 on3
      have r0 : H0 r ≠ none := at_some a3.ob
      have bl0 : H0 bl ≠ none := at_some hb3
      have B0 : H0 B ≠ none := at_some eB3
      refine ⟨fun σ H' => ∃ (x : Na.Line) (o' : List Nat) (p' : Nat) (us : List V), σ = [some (.ref r), some (.ref bl), some (stV wd), some (.ref B)] ∧ lineP o p (t.drop p) = .ok ((x, o'), p', t.drop p') ∧ Txt.strip (S wd) = S (nameOf x) ∧ At K CR r dx ta t H' p' ∧ Only r bl H H' ∧ H' bl = some (.lst (bkV o')) ∧ OkO o' ∧
        H' B = some (.lst us) ∧ PartsV H0 H' us x, ?_, ?_⟩
      case refine_2 =>
        rintro σ H' ⟨x, o', p', us, rfl, hx, est, a', on', eb', ho', eB', ps⟩
        refine ⟨_, rfl, ⟨_, rfl⟩, S wd, rfl, rfl, ?_, _, rfl, by show 2 ≤ sizeLine; exact small5' (by decide), fun Tt nT => ?_⟩
        · rw [S_len]
          exact small5' (Nat.le_trans (hws wd hmem) (by decide))
        · have gr' : Grow H H' := Grow.only on' (at_some a'.ob) (at_some eb')
          have hT : H Tt = none := gr' _ nT
          have nBT : B ≠ Tt := ne_of_none eB' nT
          refine q.2 (x, o') p' hx _ _ ⟨⟨Tt, B, us, rfl, hT, ?_, nBH, by rw [upd_ne nBT]; exact eB', (ps.keep (KeepN.new nT)).old gr0⟩, ?_, ho'⟩ (a'.same (same_upd nT)) (on'.trans (Only.same (same_upd nT)))
          · rw [upd_same, est]
          · rw [upd_ne (ne_of_none eb' nT)]
            exact eb'
      case refine_1 =>
      refine ⟨_, rfl, rfl, _, rfl, ?_⟩
      by_cases hA : wd = wAdd ∨ wd = wTake
      · have es0 : ∃ g, contW o wd p1 (t.drop p1) = atM g o p1 (t.drop p1) ∧ (∀ x y, Txt.strip (S wd) = S (nameOf (g x y))) ∧ ∀ H0 H us x y, (∃ a b, us = [a, b] ∧ ExV H0 H a x ∧ ExV H0 H b y) → PartsV H0 H us (g x y) := by
          rcases hA with e | e
          · exact ⟨.add, by subst e; rfl, fun x y => by subst e; rfl, fun _ _ _ _ _ h => h⟩
          · exact ⟨.take, by subst e; rfl, fun x y => by subst e; rfl, fun _ _ _ _ _ h => h⟩
        obtain ⟨g, e0, hst, hpt⟩ := es0
        rw [e0, atM_eq] at es
        rcases hA with e | e
        case' inl => refine if_true_of (by subst e; rfl) ?_
        case' inr =>
          refine if_false_of (by subst e; rfl) ?_
          refine ⟨_, rfl, rfl, _, rfl, ?_⟩
          have et : decide (stV wd = V.str "take ") = true := by subst e; rfl
          rw [et]
        all_goals
        (refine ⟨_, rfl, .inl ⟨rfl, _, SqL.of eB3⟩, _, rfl, r, dx, ta, t, p1, rfl, a3, fun k hk3 => q.1 k (by rw [es, hk3]; rfl), fun x4 p4 hk4 H4 v4 ev4 a4 on4 => ?_⟩
         rw [hk4, bindX_ok] at es
         have eB4 := on4 _ _ (Ne.symm nrB) (Ne.symm nrB) eB3
         refine ⟨B, _, _, rfl, rfl, eB4, small5 (by decide), ?_⟩
         have a5 : At K CR r dx ta t (upd H4 B (.lst ([] ++ [v4]))) p4 := a4.updn nrB ntB
         have eB5 : (upd H4 B (.lst ([] ++ [v4]))) B = some (.lst [v4]) := upd_same
         have on5 : Only r bl H (upd H4 B (.lst ([] ++ [v4]))) := (on3.trans (Only.wide on4)).upn nBH
         have hb5 : (upd H4 B (.lst ([] ++ [v4]))) bl = some (.lst (bkV o)) := by rw [upd_ne nbB]; exact on4 _ _ (Ne.symm nr) (Ne.symm nr) hb3
         have ex5 : ExV H0 (upd H4 B (.lst ([] ++ [v4]))) v4 x4 := ev4.keep (KeepN.upd B0)
         have gr5 : Grow H0 (upd H4 B (.lst ([] ++ [v4]))) := (Grow.only on4 (at_some a4.ob) (at_some a4.ob)).upd
         generalize upd H4 B (.lst ([] ++ [v4])) = H5 at a5 eB5 on5 hb5 ex5 gr5
         refine ⟨_, rfl, r, dx, _, rfl, a5.ob, rfl, by show 1 ≤ sizeLine; exact small5' (by decide), fun D4 nD4 => ?_⟩
         refine ⟨r, dx, ta, t, p4, D4, [wAt], rfl, a5.same (same_upd nD4), SqL.of (xs := ([wAt] : List (List Nat)).map stV) upd_same, by decide, by decide, fun k hk4 => q.1 k (by rw [es, hk4]; rfl), fun x6 p6 hk6 H6 v6 _ a6 on6 => ?_⟩
         rw [hk6, bindX_ok] at es
         have on6' : Only r r H5 H6 := (Only.same (same_upd nD4)).trans on6
         have eB6 := on6' _ _ (Ne.symm nrB) (Ne.symm nrB) eB5
         refine ⟨_, rfl, .inl ⟨rfl, _, SqL.of eB6⟩, _, rfl, r, dx, ta, t, p6, rfl, a6, fun k hk5 => q.1 k (by rw [es, hk5]; rfl), fun x7 p7 hk7 H7 v7 ev7 a7 on7 => ?_⟩
         rw [hk7, bindX_ok] at es
         have eB7 := on7 _ _ (Ne.symm nrB) (Ne.symm nrB) eB6
         refine ⟨B, _, _, rfl, rfl, eB7, small5 (by show 1 ≤ 100000; decide), ?_⟩
         have k57 : KeepN H0 H5 H7 := (KeepN.only on6' r0 r0).trans (KeepN.only on7 r0 r0)
         have gr6 : Grow H0 H6 := gr5.trans (Grow.only on6' (at_some a6.ob) (at_some a6.ob))
         have a8 : At K CR r dx ta t (upd H7 B (.lst ([v4] ++ [v7]))) p7 := a7.updn nrB ntB
         have eB8 : (upd H7 B (.lst ([v4] ++ [v7]))) B = some (.lst [v4, v7]) := upd_same
         have on8 : Only r bl H (upd H7 B (.lst ([v4] ++ [v7]))) := ((on5.trans (Only.wide on6')).trans (Only.wide on7)).upn nBH
         have hb8 : (upd H7 B (.lst ([v4] ++ [v7]))) bl = some (.lst (bkV o)) := by rw [upd_ne nbB]; exact on7 _ _ (Ne.symm nr) (Ne.symm nr) (on6' _ _ (Ne.symm nr) (Ne.symm nr) hb5)
         have ex8 : ExV H0 (upd H7 B (.lst ([v4] ++ [v7]))) v4 x4 := (ex5.keep k57).keep (KeepN.upd B0)
         have ex9 : ExV H0 (upd H7 B (.lst ([v4] ++ [v7]))) v7 x7 := (ev7.old gr6).keep (KeepN.upd B0)
         generalize upd H7 B (.lst ([v4] ++ [v7])) = H8 at a8 eB8 on8 hb8 ex8 ex9
         refine ⟨_, rfl, r, dx, _, rfl, a8.ob, rfl, r, dx, ta, t, p7, _, [10], rfl, a8, .inl (by rfl), by show 1 ≤ 1000; decide, fun k hk6 => q.1 k (by rw [es, hk6]; rfl), fun x9 p9 hk9 H9 v9 _ a9 on9 => ?_⟩
         rw [hk9, bindX_ok] at es
         have k9 : KeepN H0 H8 H9 := KeepN.only on9 r0 r0
         exact ⟨_, _, p9, _, rfl, es, hst _ _, a9, on8.trans (Only.wide on9), on9 _ _ (Ne.symm nr) (Ne.symm nr) hb8, ho, on9 _ _ (Ne.symm nrB) (Ne.symm nrB) eB8, hpt _ _ _ _ _ ⟨v4, v7, rfl, ex8.keep k9, ex9.keep k9⟩⟩)
      · refine if_false_of ((stV_eq wd wAdd).trans (decide_eq_false fun z => hA (.inl z))) ?_
        refine ⟨_, rfl, rfl, _, rfl, ?_⟩
        have et : decide (stV wd = V.str "take ") = false := (stV_eq wd wTake).trans (decide_eq_false fun z => hA (.inr z))
        rw [et]
        have nA : wd ≠ wAdd := fun z => hA (.inl z)
        have nT : wd ≠ wTake := fun z => hA (.inr z)
        refine ⟨_, rfl, rfl, _, rfl, ?_⟩
        by_cases hS : wd = wSet
        · have e0 : contW o wd p1 (t.drop p1) = setM o p1 (t.drop p1) := by subst hS; rfl
          rw [e0, setM_eq] at es
          refine if_true_of (by subst hS; rfl) ?_
          refine ⟨_, rfl, .inl ⟨rfl, _, SqL.of eB3⟩, _, rfl, r, dx, _, rfl, a3.ob, rfl, r, dx, ta, t, p1, _, nHead, rfl, a3, .inl (by rfl), by show 8 ≤ 1000; decide, fun k hk3 => q.1 k (by rw [es, hk3]; rfl), fun x4 p4 hk4 H4 v4 ev4 a4 on4 => ?_⟩
          subst ev4
          rw [hk4, bindX_ok] at es
          have h97 : 97 + (x4 - 97) = x4 := by
            have := sign_in hk4
            simp only [List.mem_cons, List.not_mem_nil, or_false] at this
            omega
          have eB4 := on4 _ _ (Ne.symm nrB) (Ne.symm nrB) eB3
          refine ⟨B, _, _, rfl, rfl, eB4, small5 (by decide), ?_⟩
          have a5 : At K CR r dx ta t (upd H4 B (.lst ([] ++ [sgV x4]))) p4 := a4.updn nrB ntB
          have eB5 : (upd H4 B (.lst ([] ++ [sgV x4]))) B = some (.lst [sgV x4]) := upd_same
          have on5 : Only r bl H (upd H4 B (.lst ([] ++ [sgV x4]))) := (on3.trans (Only.wide on4)).upn nBH
          have hb5 : (upd H4 B (.lst ([] ++ [sgV x4]))) bl = some (.lst (bkV o)) := by rw [upd_ne nbB]; exact on4 _ _ (Ne.symm nr) (Ne.symm nr) hb3
          have gr5 : Grow H0 (upd H4 B (.lst ([] ++ [sgV x4]))) := (Grow.only on4 (at_some a4.ob) (at_some a4.ob)).upd
          generalize upd H4 B (.lst ([] ++ [sgV x4])) = H5 at a5 eB5 on5 hb5 gr5
          refine ⟨_, rfl, r, dx, _, rfl, a5.ob, rfl, r, dx, ta, t, p4, _, [32], rfl, a5, .inl (by rfl), by show 1 ≤ 1000; decide, fun k hk4 => q.1 k (by rw [es, hk4]; rfl), fun x6 p6 hk6 H6 v6 _ a6 on6 => ?_⟩
          rw [hk6, bindX_ok] at es
          have eB6 := on6 _ _ (Ne.symm nrB) (Ne.symm nrB) eB5
          refine ⟨_, rfl, .inl ⟨rfl, _, SqL.of eB6⟩, _, rfl, r, dx, ta, t, p6, rfl, a6, fun k hk5 => q.1 k (by rw [es, hk5]; rfl), fun x7 p7 hk7 H7 v7 ev7 a7 on7 => ?_⟩
          rw [hk7, bindX_ok] at es
          have eB7 := on7 _ _ (Ne.symm nrB) (Ne.symm nrB) eB6
          refine ⟨B, _, _, rfl, rfl, eB7, small5 (by show 1 ≤ 100000; decide), ?_⟩
          have gr6 : Grow H0 H6 := gr5.trans (Grow.only on6 (at_some a6.ob) (at_some a6.ob))
          have a8 : At K CR r dx ta t (upd H7 B (.lst ([sgV x4] ++ [v7]))) p7 := a7.updn nrB ntB
          have eB8 : (upd H7 B (.lst ([sgV x4] ++ [v7]))) B = some (.lst [sgV x4, v7]) := upd_same
          have on8 : Only r bl H (upd H7 B (.lst ([sgV x4] ++ [v7]))) := ((on5.trans (Only.wide on6)).trans (Only.wide on7)).upn nBH
          have hb8 : (upd H7 B (.lst ([sgV x4] ++ [v7]))) bl = some (.lst (bkV o)) := by rw [upd_ne nbB]; exact on7 _ _ (Ne.symm nr) (Ne.symm nr) (on6 _ _ (Ne.symm nr) (Ne.symm nr) hb5)
          have ex9 : ExV H0 (upd H7 B (.lst ([sgV x4] ++ [v7]))) v7 x7 := (ev7.old gr6).keep (KeepN.upd B0)
          generalize upd H7 B (.lst ([sgV x4] ++ [v7])) = H8 at a8 eB8 on8 hb8 ex9
          refine ⟨_, rfl, r, dx, _, rfl, a8.ob, rfl, r, dx, ta, t, p7, _, [10], rfl, a8, .inl (by rfl), by show 1 ≤ 1000; decide, fun k hk6 => q.1 k (by rw [es, hk6]; rfl), fun x9 p9 hk9 H9 v9 _ a9 on9 => ?_⟩
          rw [hk9, bindX_ok] at es
          have k9 : KeepN H0 H8 H9 := KeepN.only on9 r0 r0
          exact ⟨_, _, p9, _, rfl, es, by subst hS; rfl, a9, on8.trans (Only.wide on9), on9 _ _ (Ne.symm nr) (Ne.symm nr) hb8, ho, on9 _ _ (Ne.symm nrB) (Ne.symm nrB) eB8, ⟨v7, by rw [h97], ex9.keep k9⟩⟩
        · refine if_false_of ((stV_eq wd wSet).trans (decide_eq_false hS)) ?_
          refine ⟨_, rfl, rfl, _, rfl, ?_⟩
          by_cases hI : wd = wIf ∨ wd = wWhile
          · have hroom : o.length < 16 := lw_room (hI.imp (fun e => by rw [← e]; exact hmem) (fun e => by rw [← e]; exact hmem))
            have es0 : ∃ (g : List Na.Test → Na.Line) (k : Nat), contW o wd p1 (t.drop p1) = bindX (tstM p1 (t.drop p1)) (fun x q c => .ok ((g x, k :: o), q, c)) ∧ (∀ x, Txt.strip (S wd) = S (nameOf (g x))) ∧ bkW k = wd ∧ (k = 0 ∨ k = 1 ∨ k = 2) ∧ ∀ H0 H us x, TestsV H0 H us x → PartsV H0 H us (g x) := by
              rcases hI with e | e
              · exact ⟨.if_, 1, by subst e; rfl, fun x => by subst e; rfl, by subst e; rfl, .inr (.inl rfl), fun _ _ _ _ h => h⟩
              · exact ⟨.while_, 0, by subst e; rfl, fun x => by subst e; rfl, by subst e; rfl, .inl rfl, fun _ _ _ _ h => h⟩
            obtain ⟨g, kk, e0, hst, hbk, hk012, hpt⟩ := es0
            rw [e0] at es
            have hok : OkO (kk :: o) := ⟨by rw [List.length_cons]; omega, fun k hk => by
              rcases List.mem_cons.mp hk with e | e
              · rw [e]
                exact hk012
              · exact ho.2 k e⟩
            rcases hI with e | e
            case' inl => refine if_true_of (by subst e; rfl) ?_
            case' inr =>
              refine if_false_of (by subst e; rfl) ?_
              refine ⟨_, rfl, rfl, _, rfl, ?_⟩
              have et : decide (stV wd = V.str "while ") = true := by subst e; rfl
              rw [et]
            all_goals
            (refine ⟨_, rfl, .inl ⟨rfl, _, SqL.of eB3⟩, _, rfl, r, dx, ta, t, p1, rfl, a3, fun k hk3 => q.1 k (by rw [es, hk3]; rfl), fun x4 p4 hk4 H4 v4 ev4 a4 on4 => ?_⟩
             rw [hk4, bindX_ok] at es
             obtain ⟨D4, us, ev, nD4, eD4, hus, hts⟩ := ev4
             subst ev
             have eB4 := on4 _ _ (Ne.symm nrB) (Ne.symm nrB) eB3
             refine ⟨B, D4, _, _, rfl, rfl, eB4, eD4, small5' (by show 0 + us.length ≤ 100000; omega), ?_⟩
             have a5 : At K CR r dx ta t (upd H4 B (.lst ([] ++ us))) p4 := a4.updn nrB ntB
             have eB5 : (upd H4 B (.lst ([] ++ us))) B = some (.lst us) := upd_same
             have on5 : Only r bl H (upd H4 B (.lst ([] ++ us))) := (on3.trans (Only.wide on4)).upn nBH
             have hb5 : (upd H4 B (.lst ([] ++ us))) bl = some (.lst (bkV o)) := by rw [upd_ne nbB]; exact on4 _ _ (Ne.symm nr) (Ne.symm nr) hb3
             have ts5 : TestsV H0 (upd H4 B (.lst ([] ++ us))) us x4 := hts.keep (KeepN.upd B0)
             generalize upd H4 B (.lst ([] ++ us)) = H5 at a5 eB5 on5 hb5 ts5
             refine ⟨_, rfl, .inl ⟨rfl, _, SqL.of hb5⟩, _, rfl, bl, _, _, rfl, rfl, hb5, by rw [bkV_len]; exact small1000 (by omega), ?_⟩
             refine ⟨_, _, p4, _, rfl, es, hst _, a5.updc nr nt, on5.trans Only.updc, ?_, hok, by rw [upd_ne (Ne.symm nbB)]; exact eB5, hpt _ _ _ _ (TestsV.keep ts5 (KeepN.upd bl0))⟩
             rw [upd_same, bkV_cons, hbk])
          · refine if_false_of ((stV_eq wd wIf).trans (decide_eq_false fun z => hI (.inl z))) ?_
            refine ⟨_, rfl, rfl, _, rfl, ?_⟩
            have et : decide (stV wd = V.str "while ") = false := (stV_eq wd wWhile).trans (decide_eq_false fun z => hI (.inr z))
            rw [et]
            refine ⟨_, rfl, rfl, _, rfl, ?_⟩
            by_cases hE : wd = wElse
            · have e0 : contW o wd p1 (t.drop p1) = .ok ((.else_, 2 :: o.drop 1), p1, t.drop p1) := by subst hE; rfl
              rw [e0] at es
              refine if_true_of (by subst hE; rfl) ?_
              obtain ⟨k, rest, eo⟩ := lw_open (o := o) (.inr (by rw [← hE]; exact hmem))
              subst eo
              have eix : ixN (bkV (k :: rest)).length (-1) = some rest.length := by
                rw [bkV_len]
                unfold ixN
                rw [if_neg (by decide), if_pos (by rw [List.length_cons]; omega), List.length_cons]
                congr 1
                omega
              have eset : (bkV (k :: rest)).set rest.length (stV wd) = bkV (2 :: rest) := by
                rw [bkV_cons, bkV_cons, hE]
                have hl : rest.length = (bkV rest).length := (bkV_len rest).symm
                rw [hl, List.set_append_right _ _ (Nat.le_refl _)]
                simp [bkW]
              refine ⟨_, rfl, _, rfl, _, rfl, bl, _, _, _, rfl, rfl, hb3, eix, ?_⟩
              refine ⟨_, _, p1, _, rfl, es, by subst hE; rfl, a3.updc nr nt, on3.trans Only.updc, ?_, ?_, by rw [upd_ne (Ne.symm nbB)]; exact eB3, rfl⟩
              · rw [upd_same, eset]
                rfl
              · refine ⟨ho.1, fun j hj => ?_⟩
                rcases List.mem_cons.mp hj with e | e
                · exact .inr (.inr e)
                · exact ho.2 j (List.mem_cons_of_mem _ e)
            · refine if_false_of ((stV_eq wd wElse).trans (decide_eq_false hE)) ?_
              refine ⟨_, rfl, rfl, _, rfl, ?_⟩
              by_cases hN : wd = wEnd
              · have e0 : contW o wd p1 (t.drop p1) = .ok ((.end_, o.drop 1), p1, t.drop p1) := by subst hN; rfl
                rw [e0] at es
                refine if_true_of (by subst hN; rfl) ?_
                obtain ⟨k, rest, eo⟩ := lw_open (o := o) (.inl (by rw [← hN]; exact hmem))
                subst eo
                have elast2 : (bkV (k :: rest))[(bkV (k :: rest)).length - 1]? = some (stV (bkW k)) := by
                  rw [bkV_cons]
                  simp
                have edrop : (bkV (k :: rest)).dropLast = bkV rest := by
                  rw [bkV_cons, List.dropLast_concat]
                refine ⟨_, rfl, .inl ⟨rfl, _, SqL.of hb3⟩, bl, _, _, rfl, rfl, hb3, elast2, ?_⟩
                refine ⟨_, _, p1, _, rfl, es, by subst hN; rfl, a3.updc nr nt, on3.trans Only.updc, ?_, ?_, by rw [upd_ne (Ne.symm nbB)]; exact eB3, rfl⟩
                · rw [upd_same, edrop]
                  rfl
                · exact ⟨by have := ho.1; rw [List.length_cons] at this; show rest.length ≤ 16; omega, fun j hj => ho.2 j (List.mem_cons_of_mem _ hj)⟩
              · refine if_false_of ((stV_eq wd wEnd).trans (decide_eq_false hN)) ?_
                have h9 := lw_mem hmem
                simp only [List.mem_cons, List.not_mem_nil, or_false] at h9
                have hst : wd = wStop ∨ wd = wFail := by
                  rcases h9 with e | e | e | e | e | e | e | e | e
                  · exact absurd e nA
                  · exact absurd e nT
                  · exact absurd e hS
                  · exact .inl e
                  · exact .inr e
                  · exact absurd (.inl e) hI
                  · exact absurd (.inr e) hI
                  · exact absurd e hN
                  · exact absurd e hE
                rcases hst with e | e
                · have e0 : contW o wd p1 (t.drop p1) = .ok ((.halt_, o), p1, t.drop p1) := by subst e; rfl
                  rw [e0] at es
                  exact ⟨_, _, p1, _, rfl, es, by subst e; rfl, a3, on3, hb3, ho, eB3, rfl⟩
                · have e0 : contW o wd p1 (t.drop p1) = .ok ((.fail, o), p1, t.drop p1) := by subst e; rfl
                  rw [e0] at es
                  exact ⟨_, _, p1, _, rfl, es, by subst e; rfl, a3, on3, hb3, ho, eB3, rfl⟩
end
end Ab

set_option Elab.async false
set_option linter.all false
set_option maxRecDepth 100000
set_option maxHeartbeats 4000000
namespace Ab
open PySem PySem.Spec PyProof.Rows L2 AbM
open Na (Bytes isDigit exHere cmpAt expect ascii headAt linesAt readMethod)
/-- the method that has been read, from H to H', as a list of lines at D -/
def MethV (H H' : Hp) (D : Addr) (m : Na.Method) : Prop := H D = none ∧ ∃ us, H' D = some (.lst us) ∧ All2 (LineV H H') us m
def spRD (K : PySem.W.Frag) (CF : Addr) : Sp := fun vs H Q E => ∃ (ta : Addr) (t : Bytes), vs = [.ref ta] ∧ SqL K H ta (bs t) ∧ t.length ≤ 5000 ∧
  (∀ k, readMethod t = .error k → ∀ (d n : Addr) (H' : Hp), H' d = some (.xd (nmF n)) → H' n = some (.lst (ftL k)) → E (.ref CF) (some d) H') ∧
  ∀ m, readMethod t = .ok m → ∀ (H' : Hp) (D : Addr), Same H H' → MethV H H' D m → Q (.ref D) H'
section
variable {P : Program} {w : World} {K : PySem.W.Frag} {mg : Str → Option Value} {base : Heap} {CE fBI CF fFI CR aB CL fLI : Addr}
theorem scRD : FnScope ["text", "reader", "blocks", "lines"] ["text"] (defScope sRD) := ⟨rfl, rfl, rfl, by decide +kernel, rfl, by decide +kernel, by decide +kernel⟩
theorem preX_nil (x : Except Nat Na.Method) : preX [] x = x := by cases x <;> rfl
theorem ok_RD {f fRI fE fRL : Addr} {fd fdRI fdE fdRL : FuncData} (F : Fun K "read_lines" "read_lines" sRD f fd) (T : Txt K mg CE fBI CF fFI CR) (M : Mk K CR fRI) (GI : FnOk P w K mg base CX0 1 fRI fdRI ["self", "text"] (spRI CR)) (bI : Binds K fdRI ["self", "text"] [])
    (mE : Meth K CR "ended" fE) (GE : FnOk P w K mg base CX0 1 fE fdE ["self"] (spEn K CR)) (bE : Binds K fdE ["self"] [])
    (gL : mg "read_line" = some (.ref fRL)) (kL : PySem.W.keepIn K (.ref fRL) = true) (GL : FnOk P w K mg base (L2.CX P w) 8 fRL fdRL ["reader", "blocks"] (spRL K CR CF)) (bL : Binds K fdRL ["reader", "blocks"] []) :
    FnOk P w K mg base (L2.CX P w) 9 f fd ["text"] (spRD K CF) := by
  refine F.okX scRD (fun vs H Q E h => ?_) (fun cdv A outer s H vs Q E hr h => ?_)
  · obtain ⟨ta, t, rfl, _⟩ := h
    rfl
  · obtain ⟨ta, t, rfl, hx, hsz, qe, qo⟩ := h
    have hr2 : Room 2 _ := hr.mono (by decide)
    have hr1 : Room 1 _ := hr.mono (by decide)
    refine ⟨_, pss_cons (ps_set (i := 1) scRD.nd rfl (Or.inl rfl) (pe_make M GI hr2 rfl T.gR bI .nil pass0 (pa_cons (pv 0) pa_nil)))
      (pss_cons (ps_set (i := 2) scRD.nd rfl (Or.inl rfl) (pe_lst pa_nil))
      (pss_cons (ps_set (i := 3) scRD.nd rfl (Or.inl rfl) (pe_lst pa_nil))
      (pss_cons (ps_while (passes_of rfl) (PW.pt (pw_or (pt_truth (pv 2) (by intro _; rfl)) (pw_or1 (pt_not (pt_val (pe_meth0 (pv 1) T.cl mE GE hr1 bE .nil pass0))))))
        (pss_one (ps_expr (pe_bm PySem.F.plainAttrs_list PySem.F.slot_list_append PySem.F.type_list_append mt_append (pv 3) (pa_cons (pe_call GL hr rfl gL kL bL .nil (passes_call (takes_of rfl rfl rfl rfl) (fun _ _ _ _ h => h)) (pa_cons (pv 1) (pa_cons (pv 2) pa_nil))) pa_nil)))))
      (pss_one (ps_ret (pv 3)))))), ?_⟩
    refine ⟨_, rfl, fun r dx nx ndx nex => ?_⟩
    have sm0 : Same H (upd (upd H dx (.own r)) r (.ins CR dx [])) := fun b o e => by
      rw [upd_ne (ne_of_none e nx), upd_ne (ne_of_none e ndx)]
      exact e
    refine ⟨r, ta, dx, rfl, upd_same, fun H1 on1 er => ⟨rfl, ?_⟩⟩
    have a1 : At K CR r dx ta t H1 0 := ⟨er, seq_only1 (sm0.seq hx) upd_same on1, Nat.zero_le _, hsz⟩
    have sm1 : Same H H1 := fun b o e => on1 b o (ne_of_none e nx) (ne_of_none e nx) (sm0 b o e)
    refine ⟨Nat.zero_le _, fun bl nbl => ⟨Nat.zero_le _, fun B nB0 => ?_⟩⟩
    have nr : r ≠ bl := ne_of_none a1.ob nbl
    have nt : Apart K ta bl (bs t) := Apart.new a1.tx nbl
    have a2 : At K CR r dx ta t (upd H1 bl (.lst [])) 0 := a1.updn nr nt
    have nbB : bl ≠ B := ne_of_none upd_same nB0
    have nrB : r ≠ B := ne_of_none a2.ob nB0
    have ntB : Apart K ta B (bs t) := Apart.new a2.tx nB0
    have a3 : At K CR r dx ta t (upd (upd H1 bl (.lst [])) B (.lst [])) 0 := a2.updn nrB ntB
    have eb3 : (upd (upd H1 bl (.lst [])) B (.lst [])) bl = some (.lst (bkV [])) := by rw [upd_ne nbB]; exact upd_same
    have eB3 : (upd (upd H1 bl (.lst [])) B (.lst [])) B = some (.lst []) := upd_same
    have sm3 : Same H (upd (upd H1 bl (.lst [])) B (.lst [])) := (sm1.trans (same_upd nbl)).trans (same_upd nB0)
    have nBH : H B = none := by
      cases e : H B with
      | none => rfl
      | some u => rw [(sm1.trans (same_upd nbl)) _ _ e] at nB0; cases nB0
    have nrH : H r = none := nx
    have nblH : H bl = none := by
      cases e : H bl with
      | none => rfl
      | some u => rw [sm1 _ _ e] at nbl; cases nbl
    generalize upd (upd H1 bl (.lst [])) B (.lst []) = H0 at a3 eb3 eB3 sm3
    have gr0 : Grow H H0 := Grow.same sm3
    have r0 : H0 r ≠ none := at_some a3.ob
    have bl0 : H0 bl ≠ none := at_some eb3
    have B0 : H0 B ≠ none := at_some eB3
    refine ⟨fun m σ H2 => ∃ (p : Nat) (us : List V) (o : List Nat) (f : Nat) (ls : Na.Method), σ = [some (.ref ta), some (.ref r), some (.ref bl), some (.ref B)] ∧ At K CR r dx ta t H2 p ∧ H2 bl = some (.lst (bkV o)) ∧ OkO o ∧ H2 B = some (.lst us) ∧ All2 (LineV H0 H2) us ls ∧ Same H H2 ∧ Grow H0 H2 ∧ us.length ≤ p ∧
      (t.drop p).length < f ∧ readMethod t = preX ls (linesAt f o p (t.drop p)) ∧ m = t.length - p, ⟨_, 0, [], [], t.length + 1, [], rfl, a3, eb3, ⟨by decide, fun k h => absurd h List.not_mem_nil⟩, eB3, .nil, sm3, Grow.refl, Nat.le_refl _, by rw [List.length_drop]; omega, (preX_nil _).symm, rfl⟩, ?_⟩
    · rintro m σ H2 ⟨p, us, o, f, ls, rfl, a2, eb, ho, eB, hls, sm2, gr2, hul, hf, es, rfl⟩
      cases f with
      | zero => exact absurd hf (Nat.not_lt_zero _)
      | succ f =>
        refine ⟨_, rfl, !(bkV o).isEmpty, .inl ⟨_, SqL.of eb, rfl⟩, ?_⟩
        by_cases hend : t.drop p = [] ∧ o = []
        · obtain ⟨hp, rfl⟩ := hend
          have hpl : p = t.length := by
            have h1 := congrArg List.length hp
            rw [List.length_drop] at h1
            have := a2.le
            simp only [List.length_nil] at h1
            omega
          refine if_false_of rfl ?_
          refine ⟨_, rfl, r, dx, _, rfl, a2.ob, rfl, r, dx, ta, t, p, rfl, a2, _, rfl, ?_⟩
          rw [decide_eq_true hpl]
          rw [hp, lins_end] at es
          refine ⟨_, rfl, ?_⟩
          have es' : readMethod t = .ok ls := by
            rw [es]
            show Except.ok (ls ++ []) = _
            rw [List.append_nil]
          exact qo ls es' H2 B sm2 ⟨nBH, us, eB, hls.imp fun _ _ g => g.old gr0⟩
        · rw [lins_step f o p (t.drop p) hend] at es
          by_cases ho0 : o = []
          case' pos =>
            subst ho0
            have hpl : p ≠ t.length := fun z => hend ⟨by rw [z, List.drop_length], rfl⟩
            refine if_false_of rfl ?_
            refine ⟨_, rfl, r, dx, _, rfl, a2.ob, rfl, r, dx, ta, t, p, rfl, a2, _, rfl, ?_⟩
            rw [decide_eq_false hpl]
          case' neg => refine if_true_of (by cases o with
            | nil => exact absurd rfl ho0
            | cons k r => simp [bkV]) ?_
          all_goals
          (refine ⟨fun σ H2 => ∃ (p' : Nat) (us : List V) (o : List Nat) (f : Nat) (ls : Na.Method), σ = [some (.ref ta), some (.ref r), some (.ref bl), some (.ref B)] ∧ At K CR r dx ta t H2 p' ∧ H2 bl = some (.lst (bkV o)) ∧ OkO o ∧ H2 B = some (.lst us) ∧ All2 (LineV H0 H2) us ls ∧ Same H H2 ∧ Grow H0 H2 ∧ us.length ≤ p' ∧
            (t.drop p').length < f ∧ readMethod t = preX ls (linesAt f o p' (t.drop p')) ∧ p < p', fun σ' H' ⟨p', us', o', f', ls', e, b1, b2, b3, c1, c2, c3, c4, c5, b4, b5, b6⟩ => ⟨_, by have := b1.le; omega, p', us', o', f', ls', e, b1, b2, b3, c1, c2, c3, c4, c5, b4, b5, rfl⟩, ?_⟩
           refine ⟨_, rfl, .inl ⟨rfl, _, SqL.of eB⟩, _, rfl, _, rfl, r, dx, ta, bl, t, p, _, rfl, a2, eb, nt, ho, fun k hk => qe k (by rw [es, hk]; rfl), fun x' p' hk H3 v ev a3 on3 => ?_⟩
           obtain ⟨ev1, eb3, ho3⟩ := ev
           rw [hk, bindX_ok, preX_cons] at es
           have hl := lineP_len hk
           have h3 := a3.le
           have h2 := a2.le
           have hlt : p < p' := by
             rw [List.length_drop, List.length_drop] at hl
             omega
           have eB3 : H3 B = some (.lst us) := on3 _ _ (Ne.symm nrB) (Ne.symm nbB) eB
           have k3 : KeepN H0 H2 H3 := KeepN.only on3 r0 bl0
           have gr3 : Grow H0 H3 := gr2.trans (Grow.only on3 (at_some a3.ob) (at_some eb3))
           have sm3' : Same H H3 := fun b u e => on3 b u (ne_of_none e nrH) (ne_of_none e nblH) (sm2 b u e)
           refine ⟨B, _, _, rfl, rfl, eB3, small5 (by omega), ?_⟩
           refine ⟨p', us ++ [v], x'.2, f, ls ++ [x'.1], rfl, a3.updn nrB ntB, by rw [upd_ne nbB]; exact eb3, ho3, upd_same, All2.snoc (hls.imp fun _ _ g => (g.keep k3).keep (KeepN.upd B0)) ((ev1.old gr2).keep (KeepN.upd B0)), fun b u e => by rw [upd_ne (ne_of_none e nBH)]; exact sm3' b u e, gr3.upd, ?_, by omega, es, hlt⟩
           rw [List.length_append]
           simp only [List.length_cons, List.length_nil]
           omega)
/-! ### check_size -/
def spCS (K : PySem.W.Frag) (CL : Addr) : Sp := fun vs H Q E => ∃ (ta : Addr) (xs : List V), vs = [.ref ta] ∧ SqL K H ta xs ∧
  (4096 < xs.length → ∀ (d n : Addr) (H' : Hp), H' d = some (.xd (nmF n)) → H' n = some (.lst [.int (-6)]) → E (.ref CL) (some d) H') ∧ (xs.length ≤ 4096 → Q .non H)
theorem scCS : FnScope ["text"] ["text"] (defScope sCS) := ⟨rfl, rfl, rfl, by decide +kernel, rfl, by decide +kernel, by decide +kernel⟩
/-- the class of a text that is too long -/
structure LongC (K : PySem.W.Frag) (mg : Str → Option Value) (CE CL fLI : Addr) : Prop where
  rf : RefC K CE CL
  iF : PySem.W.findIn K (.ref CL) "__init__" = some (some (.ref fLI))
  tF : PySem.W.typeIn K (.ref fLI) = some (.type "function")
  gF : mg "LongText" = some (.ref CL)
theorem ok_CS {f : Addr} {fd fdLI : FuncData} (F : Fun K "check_size" "check_size" sCS f fd) (T : Txt K mg CE fBI CF fFI CR) (L : LongC K mg CE CL fLI) (mb : ∃ u, mg "MOST_BYTES" = some (.int 4096 u))
    (GI : FnOk P w K mg base CX0 2 fLI fdLI ["self"] (spLI CL)) (bI : Binds K fdLI ["self"] []) :
    FnOk P w K mg base (L2.CX P w) 4 f fd ["text"] (spCS K CL) := by
  refine F.okX scCS (fun vs H Q E h => ?_) (fun cdv A outer s H vs Q E hr h => ?_)
  · obtain ⟨ta, xs, rfl, _⟩ := h
    rfl
  · obtain ⟨ta, xs, rfl, hx, qe, qo⟩ := h
    obtain ⟨u, hu⟩ := mb
    refine ⟨_, pss_one (ps_if (pt_cmpR op_gt (pe_callB call_len_seq (by rfl) T.len PySem.boot_len (pa_cons (pv 0) pa_nil)) (pe_glob (v := .int 4096) rfl hu ⟨_, rfl⟩) (nomark _))
      (pss_one (ps_raise rfl (takes_of rfl rfl rfl rfl) (pmk_oex0 L.rf.ox L.iF L.tF GI hr bI pass0 rfl L.gF))) pss_nil), ?_⟩
    refine ⟨_, rfl, ta, _, rfl, .inl hx, _, _, rfl, rfl, _, rfl, ?_⟩
    by_cases hl : 4096 < xs.length
    · refine if_true_of (decide_eq_true (by omega)) ?_
      exact fun a na => ⟨a, rfl, made (qe hl)⟩
    · refine if_false_of (decide_eq_false (by omega)) ?_
      exact qo (by omega)
end
end Ab

set_option linter.all false
namespace AbM
open Na

/-! ## An E worked out in its order -/
def opZ (c : Nat) (l r : Int) : Int := if c = 43 then l + r else if c = 45 then l - r else l * r
def lookX {σ : Type} (b : Board σ) (st : σ) (x : Int) : Except Nat Nat := match rodIn b.rods x with
  | .error k => .error k
  | .ok i => b.look st i
def ev1 {σ : Type} (b : Board σ) (marks : List Nat) (a : Now σ) (k : Tk) (s : List Int) : Except Nat (List Int) := match k with
  | .inl n => .ok ((n : Int) :: s)
  | .inr c => if 97 ≤ c ∧ c ≤ 104 then .ok (((a.heads.getD (c - 97) 0 : Nat) : Int) :: s)
    else if 65 ≤ c ∧ c ≤ 72 then .ok (((marks.getD (c - 65) 0 : Nat) : Int) :: s)
    else if c = 91 then (match s with
      | x :: r => (match lookX b a.on x with
        | .error k => .error k
        | .ok d => .ok ((d : Int) :: r))
      | [] => .error 0)
    else (match s with
      | y :: x :: r => (match held (opZ c x y) with
        | .error k => .error k
        | .ok z => .ok (z :: r))
      | _ => .error 0)
def ev {σ : Type} (b : Board σ) (marks : List Nat) (a : Now σ) : List Tk → List Int → Except Nat (List Int)
  | [], s => .ok s
  | k :: l, s => match ev1 b marks a k s with
    | .error j => .error j
    | .ok s' => ev b marks a l s'
/-- what's small enough -/
structure Small {σ : Type} (b : Board σ) (marks : List Nat) (a : Now σ) : Prop where
  heads : ∀ k, a.heads.getD k 0 ≤ 9999
  marks : ∀ k, marks.getD k 0 ≤ 9999
  look : ∀ i d, b.look a.on i = .ok d → d ≤ 9999
def Held (z : Int) : Prop := -9999 ≤ z ∧ z ≤ 9999
theorem held_ok {z : Int} (h : Held z) : held z = .ok z := if_pos h
theorem held_of {z y : Int} (h : held z = .ok y) : y = z ∧ Held z := by
  unfold held at h
  by_cases c : -9999 ≤ z ∧ z ≤ 9999
  · rw [if_pos c] at h
    cases h
    exact ⟨rfl, c⟩
  · rw [if_neg c] at h
    cases h
theorem held_nat {n : Nat} (h : n ≤ 9999) : Held (n : Int) := ⟨by omega, by omega⟩
theorem ev_cons {σ : Type} (b : Board σ) (marks : List Nat) (a : Now σ) (k : Tk) (l : List Tk) (s : List Int) : ev b marks a (k :: l) s = match ev1 b marks a k s with
    | .error j => .error j
    | .ok s' => ev b marks a l s' := rfl
theorem ev1_op {σ : Type} (b : Board σ) (marks : List Nat) (a : Now σ) {c : Nat} (h : c = 42 ∨ c = 43 ∨ c = 45) (x y : Int) (s : List Int) : ev1 b marks a (.inr c) (y :: x :: s) = match held (opZ c x y) with
    | .error k => .error k
    | .ok z => .ok (z :: s) := by
  show (if 97 ≤ c ∧ c ≤ 104 then _ else if 65 ≤ c ∧ c ≤ 72 then _ else if c = 91 then _ else _) = _
  rw [if_neg (by omega), if_neg (by omega), if_neg (by omega)]
theorem ev1_rod {σ : Type} (b : Board σ) (marks : List Nat) (a : Now σ) (x : Int) (s : List Int) : ev1 b marks a (.inr 91) (x :: s) = match lookX b a.on x with
    | .error k => .error k
    | .ok d => .ok ((d : Int) :: s) := rfl
theorem ev_two {σ : Type} {b : Board σ} {marks : List Nat} {a : Now σ} (S : Small b marks a) {g : Int → Int → Int} {x y e : Ex} (c : Nat) (hc : c = 42 ∨ c = 43 ∨ c = 45) (hv : e.value b marks a = (x.value b marks a >>= fun u => y.value b marks a >>= fun v => held (g u v))) (hg : ∀ u v, g u v = opZ c u v)
    (hx : (∀ z, x.value b marks a = .ok z → Held z) ∧ ∀ (l : List Tk) (s : List Int), ev b marks a (post x ++ l) s = match x.value b marks a with
      | .error k => .error k
      | .ok z => ev b marks a l (z :: s)) (hy : (∀ z, y.value b marks a = .ok z → Held z) ∧ ∀ (l : List Tk) (s : List Int), ev b marks a (post y ++ l) s = match y.value b marks a with
      | .error k => .error k
      | .ok z => ev b marks a l (z :: s)) : (∀ z, e.value b marks a = .ok z → Held z) ∧ ∀ (l : List Tk) (s : List Int), ev b marks a ((post x ++ (post y ++ [.inr c])) ++ l) s = match e.value b marks a with
      | .error k => .error k
      | .ok z => ev b marks a l (z :: s) := by
  rw [hv]
  refine ⟨fun z hz => ?_, fun l s => ?_⟩
  · cases hx0 : x.value b marks a with
    | error k => rw [hx0] at hz; cases hz
    | ok u =>
      rw [hx0] at hz
      cases hy0 : y.value b marks a with
      | error k => rw [hy0] at hz; cases hz
      | ok v =>
        rw [hy0] at hz
        have hz' : held (g u v) = .ok z := hz
        obtain ⟨e1, e2⟩ := held_of hz'
        rw [e1]
        exact e2
  · rw [List.append_assoc, hx.2, List.append_assoc]
    cases x.value b marks a with
    | error k => rfl
    | ok u =>
      show ev b marks a (post y ++ ([.inr c] ++ l)) (u :: s) = match (y.value b marks a >>= fun v => held (g u v)) with
        | .error k => .error k
        | .ok z => ev b marks a l (z :: s)
      rw [hy.2]
      cases y.value b marks a with
      | error k => rfl
      | ok v =>
        show ev b marks a (.inr c :: l) (v :: u :: s) = match held (g u v) with
          | .error k => .error k
          | .ok z => ev b marks a l (z :: s)
        rw [ev_cons, ev1_op b marks a hc, hg]
        cases held (opZ c u v) <;> rfl
theorem ev_post {σ : Type} {b : Board σ} {marks : List Nat} {a : Now σ} (S : Small b marks a) : ∀ (e : Ex), e.ok = true → (∀ z, e.value b marks a = .ok z → Held z) ∧ ∀ (l : List Tk) (s : List Int), ev b marks a (post e ++ l) s = match e.value b marks a with
    | .error k => .error k
    | .ok z => ev b marks a l (z :: s)
  | .num n, h => by
    have hn : n ≤ 9999 := of_decide_eq_true h
    have e : (Ex.num n).value b marks a = .ok (n : Int) := held_ok (held_nat hn)
    rw [e]
    exact ⟨fun z hz => by cases hz; exact held_nat hn, fun l s => rfl⟩
  | .head k, h => by
    have hk : k < 8 := of_decide_eq_true h
    have e : (Ex.head k).value b marks a = .ok ((a.heads.getD k 0 : Nat) : Int) := held_ok (held_nat (S.heads k))
    rw [e]
    refine ⟨fun z hz => by cases hz; exact held_nat (S.heads k), fun l s => ?_⟩
    show ev b marks a (.inr (97 + k) :: l) s = _
    rw [ev_cons]
    have e1 : ev1 b marks a (.inr (97 + k)) s = .ok (((a.heads.getD k 0 : Nat) : Int) :: s) := by
      show (if 97 ≤ 97 + k ∧ 97 + k ≤ 104 then _ else _) = _
      rw [if_pos (by omega)]
      congr 4
      omega
    rw [e1]
  | .mark k, h => by
    have hk : k < 8 := of_decide_eq_true h
    have e : (Ex.mark k).value b marks a = .ok ((marks.getD k 0 : Nat) : Int) := held_ok (held_nat (S.marks k))
    rw [e]
    refine ⟨fun z hz => by cases hz; exact held_nat (S.marks k), fun l s => ?_⟩
    show ev b marks a (.inr (65 + k) :: l) s = _
    rw [ev_cons]
    have e1 : ev1 b marks a (.inr (65 + k)) s = .ok (((marks.getD k 0 : Nat) : Int) :: s) := by
      show (if 97 ≤ 65 + k ∧ 65 + k ≤ 104 then _ else if 65 ≤ 65 + k ∧ 65 + k ≤ 72 then _ else _) = _
      rw [if_neg (by omega), if_pos (by omega)]
      congr 4
      omega
    rw [e1]
  | .rod e, h => by
    obtain ⟨hh, ih⟩ := ev_post S e h
    have ev0 : (Ex.rod e).value b marks a = match e.value b marks a with
        | .error k => .error k
        | .ok x => match lookX b a.on x with
          | .error k => .error k
          | .ok d => .ok (d : Int) := by
      show (e.value b marks a >>= fun x => rodIn b.rods x >>= fun i => b.look a.on i >>= fun d => held (d : Int)) = _
      cases e.value b marks a with
      | error k => rfl
      | ok x =>
        show (rodIn b.rods x >>= fun i => b.look a.on i >>= fun d => held (d : Int)) = match lookX b a.on x with
          | .error k => .error k
          | .ok d => .ok (d : Int)
        unfold lookX
        cases rodIn b.rods x with
        | error k => rfl
        | ok i =>
          show (b.look a.on i >>= fun d => held (d : Int)) = match b.look a.on i with
            | .error k => .error k
            | .ok d => .ok (d : Int)
          cases hl : b.look a.on i with
          | error k => rfl
          | ok d => exact held_ok (held_nat (S.look i d hl))
    rw [ev0]
    refine ⟨fun z hz => ?_, fun l s => ?_⟩
    · cases hv : e.value b marks a with
      | error k => rw [hv] at hz; cases hz
      | ok x =>
        rw [hv] at hz
        dsimp only at hz
        cases hl : lookX b a.on x with
        | error k => rw [hl] at hz; cases hz
        | ok d =>
          rw [hl] at hz
          cases hz
          unfold lookX at hl
          cases hr : rodIn b.rods x with
          | error k => rw [hr] at hl; cases hl
          | ok i => rw [hr] at hl; exact held_nat (S.look i d hl)
    · show ev b marks a ((post e ++ [.inr 91]) ++ l) s = _
      rw [List.append_assoc, ih]
      cases e.value b marks a with
      | error k => rfl
      | ok x =>
        show ev b marks a (.inr 91 :: l) (x :: s) = match (match lookX b a.on x with
            | .error k => Except.error k
            | .ok d => .ok (d : Int)) with
          | .error k => .error k
          | .ok z => ev b marks a l (z :: s)
        rw [ev_cons, ev1_rod]
        cases lookX b a.on x <;> rfl
  | .par e, h => ev_post S e h
  | .times x y, h => by
    have hk' : (x.ok && (y.ok && (decide (x.level ≤ 1) && decide (y.level = 0)))) = true := h
    simp only [Bool.and_eq_true, decide_eq_true_eq] at hk'
    exact ev_two S 42 (.inl rfl) rfl (fun u v => rfl) (ev_post S x hk'.1) (ev_post S y hk'.2.1)
  | .plus x y, h => by
    have hk' : (x.ok && (y.ok && decide (y.level ≤ 1))) = true := h
    simp only [Bool.and_eq_true, decide_eq_true_eq] at hk'
    exact ev_two S 43 (.inr (.inl rfl)) rfl (fun u v => rfl) (ev_post S x hk'.1) (ev_post S y hk'.2.1)
  | .minus x y, h => by
    have hk' : (x.ok && (y.ok && decide (y.level ≤ 1))) = true := h
    simp only [Bool.and_eq_true, decide_eq_true_eq] at hk'
    exact ev_two S 45 (.inr (.inr rfl)) rfl (fun u v => rfl) (ev_post S x hk'.1) (ev_post S y hk'.2.1)
/-- what may stand there -/
def tkOk : Tk → Bool
  | .inl n => decide (n ≤ 9999)
  | .inr c => decide (97 ≤ c ∧ c ≤ 104) || (decide (65 ≤ c ∧ c ≤ 72) || (c == 91 || (c == 42 || (c == 43 || c == 45))))
theorem post_ok : ∀ (e : Ex), e.ok = true → (post e).all tkOk = true
  | .num n, h => by
    show (decide (n ≤ 9999) && true) = true
    rw [Bool.and_true]
    exact h
  | .head k, h => by
    have hk : k < 8 := of_decide_eq_true h
    simp only [post, List.all_cons, List.all_nil, Bool.and_true, tkOk, decide_eq_true (by omega : 97 ≤ 97 + k ∧ 97 + k ≤ 104), Bool.true_or]
  | .mark k, h => by
    have hk : k < 8 := of_decide_eq_true h
    simp only [post, List.all_cons, List.all_nil, Bool.and_true, tkOk, decide_eq_true (by omega : 65 ≤ 65 + k ∧ 65 + k ≤ 72), Bool.true_or, Bool.or_true]
  | .rod e, h => by
    show (post e ++ [Sum.inr 91]).all tkOk = true
    rw [List.all_append, post_ok e h]
    rfl
  | .par e, h => post_ok e h
  | .times x y, h => by
    have hk' : (x.ok && (y.ok && (decide (x.level ≤ 1) && decide (y.level = 0)))) = true := h
    simp only [Bool.and_eq_true] at hk'
    show (post x ++ (post y ++ [Sum.inr 42])).all tkOk = true
    rw [List.all_append, List.all_append, post_ok x hk'.1, post_ok y hk'.2.1]
    rfl
  | .plus x y, h => by
    have hk' : (x.ok && (y.ok && decide (y.level ≤ 1))) = true := h
    simp only [Bool.and_eq_true] at hk'
    show (post x ++ (post y ++ [Sum.inr 43])).all tkOk = true
    rw [List.all_append, List.all_append, post_ok x hk'.1, post_ok y hk'.2.1]
    rfl
  | .minus x y, h => by
    have hk' : (x.ok && (y.ok && decide (y.level ≤ 1))) = true := h
    simp only [Bool.and_eq_true] at hk'
    show (post x ++ (post y ++ [Sum.inr 45])).all tkOk = true
    rw [List.all_append, List.all_append, post_ok x hk'.1, post_ok y hk'.2.1]
    rfl
/-- how many numbers are found -/
def dp1 (k : Tk) (n : Nat) : Option Nat := match k with
  | .inl _ => some (n + 1)
  | .inr c => if (97 ≤ c ∧ c ≤ 104) ∨ (65 ≤ c ∧ c ≤ 72) then some (n + 1) else if c = 91 then (if 1 ≤ n then some n else none) else if 2 ≤ n then some (n - 1) else none
def dp : List Tk → Nat → Option Nat
  | [], n => some n
  | k :: l, n => (dp1 k n).bind fun m => dp l m
theorem dp_op {c : Nat} (h : c = 42 ∨ c = 43 ∨ c = 45) (l : List Tk) (n : Nat) : dp (.inr c :: l) (n + 1 + 1) = dp l (n + 1) := by
  show (if (97 ≤ c ∧ c ≤ 104) ∨ (65 ≤ c ∧ c ≤ 72) then some (n + 1 + 1 + 1) else if c = 91 then (if 1 ≤ n + 1 + 1 then some (n + 1 + 1) else none) else if 2 ≤ n + 1 + 1 then some (n + 1 + 1 - 1) else none).bind (fun m => dp l m) = _
  rw [if_neg (by omega), if_neg (by omega), if_pos (by omega)]
  rfl
theorem dp_post : ∀ (e : Ex), e.ok = true → ∀ (l : List Tk) (n : Nat), dp (post e ++ l) n = dp l (n + 1)
  | .num k, _, l, n => rfl
  | .head k, h, l, n => by
    have hk : k < 8 := of_decide_eq_true h
    show (if (97 ≤ 97 + k ∧ 97 + k ≤ 104) ∨ (65 ≤ 97 + k ∧ 97 + k ≤ 72) then some (n + 1) else if 97 + k = 91 then (if 1 ≤ n then some n else none) else if 2 ≤ n then some (n - 1) else none).bind (fun m => dp l m) = _
    rw [if_pos (by omega)]
    rfl
  | .mark k, h, l, n => by
    have hk : k < 8 := of_decide_eq_true h
    show (if (97 ≤ 65 + k ∧ 65 + k ≤ 104) ∨ (65 ≤ 65 + k ∧ 65 + k ≤ 72) then some (n + 1) else if 65 + k = 91 then (if 1 ≤ n then some n else none) else if 2 ≤ n then some (n - 1) else none).bind (fun m => dp l m) = _
    rw [if_pos (by omega)]
    rfl
  | .rod e, h, l, n => by
    show dp ((post e ++ [.inr 91]) ++ l) n = _
    rw [List.append_assoc, dp_post e h]
    show (if (97 ≤ 91 ∧ 91 ≤ 104) ∨ (65 ≤ 91 ∧ 91 ≤ 72) then some (n + 1 + 1) else if 91 = 91 then (if 1 ≤ n + 1 then some (n + 1) else none) else if 2 ≤ n + 1 then some (n + 1 - 1) else none).bind (fun m => dp l m) = _
    rw [if_neg (by omega), if_pos rfl, if_pos (by omega)]
    rfl
  | .par e, h, l, n => dp_post e h l n
  | .times x y, h, l, n => by
    have hk' : (x.ok && (y.ok && (decide (x.level ≤ 1) && decide (y.level = 0)))) = true := h
    simp only [Bool.and_eq_true] at hk'
    show dp ((post x ++ (post y ++ [.inr 42])) ++ l) n = _
    rw [List.append_assoc, dp_post x hk'.1, List.append_assoc, dp_post y hk'.2.1]
    exact dp_op (.inl rfl) l n
  | .plus x y, h, l, n => by
    have hk' : (x.ok && (y.ok && decide (y.level ≤ 1))) = true := h
    simp only [Bool.and_eq_true] at hk'
    show dp ((post x ++ (post y ++ [.inr 43])) ++ l) n = _
    rw [List.append_assoc, dp_post x hk'.1, List.append_assoc, dp_post y hk'.2.1]
    exact dp_op (.inr (.inl rfl)) l n
  | .minus x y, h, l, n => by
    have hk' : (x.ok && (y.ok && decide (y.level ≤ 1))) = true := h
    simp only [Bool.and_eq_true] at hk'
    show dp ((post x ++ (post y ++ [.inr 45])) ++ l) n = _
    rw [List.append_assoc, dp_post x hk'.1, List.append_assoc, dp_post y hk'.2.1]
    exact dp_op (.inr (.inr rfl)) l n
theorem dp_all {e : Ex} (h : e.ok = true) : dp (post e) 0 = some 1 := by
  have := dp_post e h [] 0
  rw [List.append_nil] at this
  exact this
theorem dp_cons {k : Tk} {l : List Tk} {n r : Nat} (h : dp (k :: l) n = some r) : ∃ m, dp1 k n = some m ∧ dp l m = some r := by
  have h' : (dp1 k n).bind (fun m => dp l m) = some r := h
  cases e : dp1 k n with
  | none => rw [e] at h'; cases h'
  | some m => rw [e] at h'; exact ⟨m, rfl, h'⟩
theorem dp1_rod {n m : Nat} (h : dp1 (.inr 91) n = some m) : 1 ≤ n ∧ m = n := by
  have h' : (if 1 ≤ n then some n else none) = some m := h
  by_cases e : 1 ≤ n
  · rw [if_pos e] at h'
    exact ⟨e, (Option.some.inj h').symm⟩
  · rw [if_neg e] at h'
    cases h'
theorem dp1_op {c n m : Nat} (hc : c = 42 ∨ c = 43 ∨ c = 45) (h : dp1 (.inr c) n = some m) : 2 ≤ n ∧ m = n - 1 := by
  have h' : (if (97 ≤ c ∧ c ≤ 104) ∨ (65 ≤ c ∧ c ≤ 72) then some (n + 1) else if c = 91 then (if 1 ≤ n then some n else none) else if 2 ≤ n then some (n - 1) else none) = some m := h
  rw [if_neg (by omega), if_neg (by omega)] at h'
  by_cases e : 2 ≤ n
  · rw [if_pos e] at h'
    exact ⟨e, (Option.some.inj h').symm⟩
  · rw [if_neg e] at h'
    cases h'
theorem dp1_let {c n m : Nat} (hc : (97 ≤ c ∧ c ≤ 104) ∨ (65 ≤ c ∧ c ≤ 72)) (h : dp1 (.inr c) n = some m) : m = n + 1 := by
  have h' : (if (97 ≤ c ∧ c ≤ 104) ∨ (65 ≤ c ∧ c ≤ 72) then some (n + 1) else if c = 91 then (if 1 ≤ n then some n else none) else if 2 ≤ n then some (n - 1) else none) = some m := h
  rw [if_pos hc] at h'
  exact (Option.some.inj h').symm
end AbM

set_option Elab.async false
set_option linter.all false
set_option maxRecDepth 100000
set_option maxHeartbeats 2000000
namespace Ab
open PySem PySem.Spec PyProof.Rows L2 AbM
open Na (Bytes held Cmp)
abbrev kdF (k : Nat) : List (Str × V) := [(("kind" : Str), .int ((k : Nat) : Int))]
/-- RunFault's __init__ -/
def spKI (CK : Addr) : Sp := fun vs H Q _ => ∃ (a : Addr) (k : Int), vs = [.ref a, .int k] ∧ H a = some (exo a CK none) ∧
  ∀ (d : Addr) (H' : Hp), H d = none → d ≠ a → H' a = some (exo a CK (some d)) → H' d = some (exd d [(("kind" : Str), .int k)]) → Q .non H'
/-- what the top has written of the fault of a run -/
structure TxK (K : PySem.W.Frag) (mg : Str → Option Value) (CK fKI : Addr) : Prop where
  ox : OexC K CK
  xf : XfC K CK
  nK : PySem.W.findIn K (.ref CK) "kind" = some none
  te : PySem.W.exmOne K (.ref CK) (.ref CK) = some true
  iK : PySem.W.findIn K (.ref CK) "__init__" = some (some (.ref fKI))
  tK : PySem.W.typeIn K (.ref fKI) = some (.type "function")
  gK : mg "RunFault" = some (.ref CK)
  nVE : mg "ValueError" = none
  vV : PySem.W.findCls K (.type "ValueError") (.type "type") "__init__" = some (.val (.builtin "ValueError.__init__"))
  len : mg "len" = none
  abs : mg "abs" = none
  int : mg "int" = none
  isi : mg "isinstance" = none
  oob : ∃ u, mg "OUT_OF_BOUNDS" = some (.int 3 u)
  norod : ∃ u, mg "NO_ROD" = some (.int 1 u)
  noroom : ∃ u, mg "NO_ROOM" = some (.int 2 u)
  failed : ∃ u, mg "FAILED" = some (.int 4 u)
  most : ∃ u, mg "MOST_WORKED_OUT" = some (.int 9999 u)
/-- that a fault of this kind comes -/
def Fails (CK : Addr) (E : XK) (k : Nat) : Prop := ∀ (d : Addr) (H' : Hp), H' d = some (.xd (kdF k)) → E (.ref CK) (some d) H'
section
variable {P : Program} {w : World} {K : PySem.W.Frag} {mg : Str → Option Value} {base : Heap} {CK fKI : Addr}
theorem scKI : FnScope ["self", "kind"] ["self", "kind"] (defScope sKI) := ⟨rfl, rfl, rfl, by decide +kernel, rfl, by decide +kernel, by decide +kernel⟩
theorem ok_KI {f : Addr} {fd : FuncData} (F : Fun K "__init__" "RunFault.__init__" sKI f fd) (T : TxK K mg CK fKI) : FnOk P w K mg base CX0 1 f fd ["self", "kind"] (spKI CK) := by
  refine F.ok scKI (fun vs H Q E h => ?_) (fun cdv A outer s H vs Q E hr h => ?_)
  · obtain ⟨a, k, rfl, _⟩ := h
    rfl
  · obtain ⟨a, k, rfl, ha, q⟩ := h
    refine ⟨_, pss_cons (ps_expr (pe_veinit rfl T.nVE T.vV (pa_cons (pv 0) (pa_cons (pv 1) pa_nil)))) (pss_one (ps_ost (pv 0) (pv 1))), ?_⟩
    refine ⟨_, rfl, _, rfl, a, CK, _, rfl, by show 1 ≤ 1000; decide, T.ox, ha, ?_⟩
    refine ⟨_, rfl, _, rfl, a, CK, rfl, T.ox, T.nK, .inl ⟨ha, fun d nd da => ?_⟩⟩
    refine q d _ nd da upd_same ?_
    rw [upd_ne da, upd_same]
theorem kraise {CK : Addr} {H1 : Hp} {k : Nat} {E : XK} (h : Fails CK E k) :
    ([V.int (k : Int)] : List V).length ≤ 1000 ∧ ∀ a, H1 a = none → spKI CK (.ref a :: ([V.int (k : Int)] ++ [])) (upd H1 a (exo a CK none))
      (fun v H2 => v = .non ∧ ∃ (d : Addr) (fs : List (Str × V)), H2 a = some (exo a CK (some d)) ∧ H2 d = some (exd d fs) ∧ H1 d = none ∧ E (.ref CK) (some d) (upd (del H2 a) d (.xd fs))) (fun _ _ _ => False) :=
  ⟨by show 1 ≤ 1000; decide, fun a na => ⟨a, k, rfl, upd_same, fun d H' nd da ea ed => ⟨rfl, d, _, ea, ed, by rw [upd_ne da] at nd; exact nd, h d _ upd_same⟩⟩⟩
/-- a sum, difference, product within its bounds -/
def spCA (CK : Addr) : Sp := fun vs H Q E => ∃ (l r : Int) (c : Nat), vs = [.int l, sgV c, .int r] ∧ Held l ∧ Held r ∧ (∀ k, held (opZ c l r) = .error k → Fails CK E k) ∧ ∀ z, held (opZ c l r) = .ok z → Q (.int z) H
theorem scCA : FnScope ["left", "sign", "right", "result"] ["left", "sign", "right"] (defScope sCA) := ⟨rfl, rfl, rfl, by decide +kernel, rfl, by decide +kernel, by decide +kernel⟩
theorem ok_CA {f : Addr} {fd fdK : FuncData} (F : Fun K "calculate" "calculate" sCA f fd) (T : TxK K mg CK fKI) (GK : FnOk P w K mg base CX0 1 fKI fdK ["self", "kind"] (spKI CK)) (bK : Binds K fdK ["self", "kind"] []) :
    FnOk P w K mg base (L2N.CX P w) 3 f fd ["left", "sign", "right"] (spCA CK) := by
  refine fun_okN F scCA (fun vs H Q E h => ?_) (fun cdv A outer s H vs Q E hr h => ?_)
  · obtain ⟨l, r, c, rfl, _⟩ := h
    rfl
  · obtain ⟨l, r, c, rfl, hl, hr0, qe, qo⟩ := h
    obtain ⟨u3, h3⟩ := T.oob
    obtain ⟨u9, h9⟩ := T.most
    refine ⟨_, C8.pss_cut (ps_if (pt_cmpR op_eq (pv 1) pe_str (nomark _)) (pss_one (ps_set (i := 3) scCA.nd rfl (Or.inl rfl) (pe_op op_add (pv 0) (pv 2))))
        (pss_one (ps_if (pt_cmpR op_eq (pv 1) pe_str (nomark _)) (pss_one (ps_set (i := 3) scCA.nd rfl (Or.inl rfl) (pe_op op_sub (pv 0) (pv 2))))
          (pss_one (ps_set (i := 3) scCA.nd rfl (Or.inl rfl) (pe_op op_mul (pv 0) (pv 2)))))))
      (pss_cons (ps_if (pt_cmpR op_gt (pe_callB call_abs (by rfl) T.abs (by decide +kernel) (pa_cons (pv 3) pa_nil)) (pe_glob (v := .int 9999) rfl h9 ⟨_, rfl⟩) (nomark _))
        (pss_one (L2N.ps_raise rfl (L2N.takes_of rfl rfl rfl rfl) (pmk_oexN T.ox T.iK T.tK GK hr bK pass0 rfl T.gK (pa_cons (pe_glob (v := .int 3) rfl h3 ⟨_, rfl⟩) pa_nil)))) pss_nil)
      (pss_one (ps_ret (pv 3)))), ?_⟩
    refine ⟨fun σ H1 => σ = [some (.int l), some (sgV c), some (.int r), some (.int (opZ c l r))] ∧ H1 = H, ?_, ?_⟩
    · refine ⟨_, rfl, rfl, _, rfl, ?_⟩
      by_cases h43 : c = 43
      · refine if_true_of ((sg_eq c 43).trans (decide_eq_true h43)) ⟨_, rfl, _, rfl, _, _, rfl, rfl, ?_, rfl⟩
        unfold opZ
        rw [if_pos h43]
        rfl
      · refine if_false_of ((sg_eq c 43).trans (decide_eq_false h43)) ⟨_, rfl, rfl, _, rfl, ?_⟩
        by_cases h45 : c = 45
        · refine if_true_of ((sg_eq c 45).trans (decide_eq_true h45)) ⟨_, rfl, _, rfl, _, _, rfl, rfl, ?_, rfl⟩
          unfold opZ
          rw [if_neg h43, if_pos h45]
          rfl
        · refine if_false_of ((sg_eq c 45).trans (decide_eq_false h45)) ⟨_, rfl, _, rfl, _, _, rfl, rfl, .inl ⟨by have := hl.1; omega, by have := hl.2; omega⟩, ?_, rfl⟩
          unfold opZ
          rw [if_neg h43, if_neg h45]
          rfl
    · rintro σ H1 ⟨rfl, rfl⟩
      generalize opZ c l r = z at qe qo
      refine ⟨_, rfl, _, rfl, _, _, rfl, rfl, _, rfl, ?_⟩
      by_cases hz : Held z
      · refine if_false_of (decide_eq_false ?_) ?_
        · obtain ⟨z1, z2⟩ := hz
          by_cases hn : z < 0
          · rw [if_pos hn]; omega
          · rw [if_neg hn]; omega
        · exact ⟨_, rfl, qo z (held_ok hz)⟩
      · refine if_true_of (decide_eq_true ?_) ?_
        · have hz' : z < -9999 ∨ 9999 < z := by
            unfold Held at hz
            omega
          by_cases hn : z < 0
          · rw [if_pos hn]; omega
          · rw [if_neg hn]; omega
        · exact kraise (qe 3 (if_neg hz))
/-- whether a test's numbers are as its sign says -/
def spIS : Sp := fun vs H Q _ => ∃ (x y : Int) (k : Cmp), vs = [.int x, stV (cmpW k), .int y] ∧ Q (.bl (k.holds x y)) H
theorem scIS : FnScope ["left", "sign", "right"] ["left", "sign", "right"] (defScope sIS) := ⟨rfl, rfl, rfl, by decide +kernel, rfl, by decide +kernel, by decide +kernel⟩
theorem eq_int (x y : Int) : decide (V.int x = V.int y) = (x == y) := by
  by_cases h : x = y
  · subst h
    simp
  · have : ¬ V.int x = V.int y := fun z => h (V.int.inj z)
    rw [decide_eq_false this]
    exact (beq_eq_false_iff_ne.mpr h).symm
theorem ok_IS {f : Addr} {fd : FuncData} (F : Fun K "is_so" "is_so" sIS f fd) : FnOk P w K mg base CX0 1 f fd ["left", "sign", "right"] spIS := by
  refine F.ok scIS (fun vs H Q E h => ?_) (fun cdv A outer s H vs Q E hr h => ?_)
  · obtain ⟨x, y, k, rfl, _⟩ := h
    rfl
  · obtain ⟨x, y, k, rfl, q⟩ := h
    refine ⟨_, pss_cons (ps_if (pt_cmpR op_eq (pv 1) pe_str (nomark _)) (pss_one (ps_ret (pe_cmpR op_eq (pv 0) (pv 2) (nomark _)))) pss_nil)
      (pss_cons (ps_if (pt_cmpR op_eq (pv 1) pe_str (nomark _)) (pss_one (ps_ret (pe_cmpR op_lt (pv 0) (pv 2) (nomark _)))) pss_nil)
      (pss_cons (ps_if (pt_cmpR op_eq (pv 1) pe_str (nomark _)) (pss_one (ps_ret (pe_cmpR op_gt (pv 0) (pv 2) (nomark _)))) pss_nil)
      (pss_cons (ps_if (pt_cmpR op_eq (pv 1) pe_str (nomark _)) (pss_one (ps_ret (pe_cmpR op_le (pv 0) (pv 2) (nomark _)))) pss_nil)
      (pss_cons (ps_if (pt_cmpR op_eq (pv 1) pe_str (nomark _)) (pss_one (ps_ret (pe_cmpR op_ge (pv 0) (pv 2) (nomark _)))) pss_nil)
      (pss_one (ps_ret (pe_cmpR op_ne (pv 0) (pv 2) (nomark _)))))))), ?_⟩
    cases k with
    | eq =>
      refine ⟨_, rfl, rfl, _, rfl, if_true_of (by rfl) ⟨_, rfl, _, rfl, rfl, ?_⟩⟩
      rw [eq_int]
      exact q
    | lt => exact ⟨_, rfl, rfl, _, rfl, if_false_of (by rfl) ⟨_, rfl, rfl, _, rfl, if_true_of (by rfl) ⟨_, rfl, _, rfl, _, _, rfl, rfl, q⟩⟩⟩
    | gt => exact ⟨_, rfl, rfl, _, rfl, if_false_of (by rfl) ⟨_, rfl, rfl, _, rfl, if_false_of (by rfl) ⟨_, rfl, rfl, _, rfl, if_true_of (by rfl) ⟨_, rfl, _, rfl, _, _, rfl, rfl, q⟩⟩⟩⟩
    | le => exact ⟨_, rfl, rfl, _, rfl, if_false_of (by rfl) ⟨_, rfl, rfl, _, rfl, if_false_of (by rfl) ⟨_, rfl, rfl, _, rfl, if_false_of (by rfl) ⟨_, rfl, rfl, _, rfl, if_true_of (by rfl) ⟨_, rfl, _, rfl, _, _, rfl, rfl, q⟩⟩⟩⟩⟩
    | ge => exact ⟨_, rfl, rfl, _, rfl, if_false_of (by rfl) ⟨_, rfl, rfl, _, rfl, if_false_of (by rfl) ⟨_, rfl, rfl, _, rfl, if_false_of (by rfl) ⟨_, rfl, rfl, _, rfl, if_false_of (by rfl) ⟨_, rfl, rfl, _, rfl, if_true_of (by rfl) ⟨_, rfl, _, rfl, _, _, rfl, rfl, q⟩⟩⟩⟩⟩⟩
    | ne =>
      refine ⟨_, rfl, rfl, _, rfl, if_false_of (by rfl) ⟨_, rfl, rfl, _, rfl, if_false_of (by rfl) ⟨_, rfl, rfl, _, rfl, if_false_of (by rfl) ⟨_, rfl, rfl, _, rfl, if_false_of (by rfl) ⟨_, rfl, rfl, _, rfl, if_false_of (by rfl) ⟨_, rfl, _, rfl, rfl, ?_⟩⟩⟩⟩⟩⟩
      rw [eq_int]
      exact q
end
end Ab

set_option Elab.async false
set_option linter.all false
set_option maxRecDepth 100000
set_option maxHeartbeats 2000000
namespace Ab
open PySem PySem.Spec PyProof.Rows L2 AbM
open Na (Bytes held Cmp)
/-- a rod that's there -/
def spCT (K : PySem.W.Frag) (CK : Addr) : Sp := fun vs H Q E => ∃ (R : Addr) (rs : List V) (x : Int), vs = [.ref R, .int x] ∧ SqL K H R rs ∧ (¬ (0 ≤ x ∧ x < rs.length) → Fails CK E 1) ∧ ((0 ≤ x ∧ x < rs.length) → Q .non H)
/-- a frame: what it answers, where it stands, how it stands in the heap, what is its own there -/
structure Fam (σ : Type) where
  b : Na.Board σ
  fr : Addr
  C : Addr
  Fr : Hp → σ → Prop
  Own : Addr → Prop
structure FamOk {σ : Type} (K : PySem.W.Frag) (M : Fam σ) : Prop where
  cl : Cls K M.C
  at_ : ∀ {H st}, M.Fr H st → ∃ dx fs, H M.fr = some (.ins M.C dx fs) ∧ fs.lookup ("look" : Str) = none ∧ fs.lookup ("change" : Str) = none
  same : ∀ {H H' st}, M.Fr H st → Same H H' → M.Fr H' st
  dk : ∀ {H H' st L kvs}, M.Fr H st → H L = some (.dK kvs) → Only L L H H' → M.Fr H' st
  look : ∀ {H st}, M.Fr H st → ∀ i d, M.b.look st i = .ok d → d ≤ 9999
def spLk {σ : Type} (M : Fam σ) (CK : Addr) : Sp := fun vs H Q E => ∃ (st : σ) (x : Int), vs = [.ref M.fr, .int x] ∧ M.Fr H st ∧ (∀ k, lookX M.b st x = .error k → Fails CK E k) ∧ ∀ d, lookX M.b st x = .ok d → ∀ H', Same H H' → Q (.int ((d : Nat) : Int)) H'
def ltV (heads marks : List Nat) (c : Nat) : Option Nat := if 97 ≤ c ∧ c ≤ 104 then some (heads.getD (c - 97) 0) else if 65 ≤ c ∧ c ≤ 72 then some (marks.getD (c - 65) 0) else none
/-- what the letters stand for -/
def LetV (H : Hp) (L : Addr) (heads marks : List Nat) : Prop := ∃ kvs : List (L2.Key × V), H L = some (.dK kvs) ∧ kvs.length ≤ 1000 ∧ ∀ c, valV kvs (Sum.inr (S [c])) = (ltV heads marks c).map fun n => V.int ((n : Nat) : Int)
theorem LetV.same {H H' : Hp} {L : Addr} {heads marks : List Nat} (h : LetV H L heads marks) (s : Same H H') : LetV H' L heads marks :=
  let ⟨kvs, e, l, v⟩ := h
  ⟨kvs, s _ _ e, l, v⟩
def spWO {σ : Type} (M : Fam σ) (K : PySem.W.Frag) (CK : Addr) : Sp := fun vs H Q E => ∃ (A L : Addr) (x : Na.Ex) (marks : List Nat) (a : Na.Now σ), vs = [.ref A, .ref L, .ref M.fr] ∧ SqL K H A (tkV (post x)) ∧ (post x).length ≤ 5000 ∧ x.ok = true ∧ LetV H L a.heads marks ∧ M.Fr H a.on ∧ Small M.b marks a ∧
  (∀ k, x.value M.b marks a = .error k → Fails CK E k) ∧ ∀ z, x.value M.b marks a = .ok z → Held z → ∀ H', Same H H' → Q (.int z) H'
section
variable {P : Program} {w : World} {K : PySem.W.Frag} {mg : Str → Option Value} {base : Heap} {CK fKI : Addr}
theorem scCT : FnScope ["rods", "number"] ["rods", "number"] (defScope sCT) := ⟨rfl, rfl, rfl, by decide +kernel, rfl, by decide +kernel, by decide +kernel⟩
theorem ok_CT {f : Addr} {fd fdK : FuncData} (F : Fun K "check_there" "check_there" sCT f fd) (T : TxK K mg CK fKI) (GK : FnOk P w K mg base CX0 1 fKI fdK ["self", "kind"] (spKI CK)) (bK : Binds K fdK ["self", "kind"] []) :
    FnOk P w K mg base (L2N.CX P w) 3 f fd ["rods", "number"] (spCT K CK) := by
  refine fun_okN F scCT (fun vs H Q E h => ?_) (fun cdv A outer s H vs Q E hr h => ?_)
  · obtain ⟨R, rs, x, rfl, _⟩ := h
    rfl
  · obtain ⟨R, rs, x, rfl, hR, qe, qo⟩ := h
    obtain ⟨u1, h1⟩ := T.norod
    refine ⟨_, pss_one (ps_if (pt_not (pt_chain op_le op_lt pe_int (pv 1) (pe_callB call_len_seq (by rfl) T.len PySem.boot_len (pa_cons (pv 0) pa_nil))))
        (pss_one (L2N.ps_raise rfl (L2N.takes_of rfl rfl rfl rfl) (pmk_oexN T.ox T.iK T.tK GK hr bK pass0 rfl T.gK (pa_cons (pe_glob (v := .int 1) rfl h1 ⟨_, rfl⟩) pa_nil)))) pss_nil), ?_⟩
    refine ⟨_, rfl, _, _, rfl, rfl, _, rfl, ?_⟩
    by_cases h0 : 0 ≤ x
    · refine if_true_of (decide_eq_true h0) ?_
      refine ⟨_, rfl, R, _, rfl, .inl hR, _, _, rfl, rfl, _, rfl, ?_⟩
      by_cases h2 : x < rs.length
      · refine if_false_of ?_ (qo ⟨h0, h2⟩)
        rw [decide_eq_true h2]
        rfl
      · refine if_true_of ?_ (kraise (qe fun z => h2 z.2))
        rw [decide_eq_false h2]
        rfl
    · refine if_false_of (decide_eq_false h0) ?_
      refine ⟨_, rfl, ?_⟩
      refine if_true_of rfl (kraise (qe fun z => h0 z.1))
theorem scWO : FnScope ["ordered", "letters", "frame", "found", "part", "right"] ["ordered", "letters", "frame"] (defScope sWO) := ⟨rfl, rfl, rfl, by decide +kernel, rfl, by decide +kernel, by decide +kernel⟩
/-- the numbers found so far, the last one first here -/
abbrev fdV (s : List Int) : List V := s.reverse.map V.int
theorem fdV_cons (x : Int) (s : List Int) : fdV s ++ [V.int x] = fdV (x :: s) := by simp [fdV]
theorem fdV_last (x : Int) (s : List Int) : (fdV (x :: s))[(fdV (x :: s)).length - 1]? = some (V.int x) := by
  rw [← fdV_cons]
  simp
theorem fdV_drop (x : Int) (s : List Int) : (fdV (x :: s)).dropLast = fdV s := by rw [← fdV_cons, List.dropLast_concat]
theorem fdV_len (s : List Int) : (fdV s).length = s.length := by simp
theorem ok_WO {σ : Type} {M : Fam σ} {f fLk fCA : Addr} {fd fdLk fdCA : FuncData} (F : Fun K "work_out" "work_out" sWO f fd) (T : TxK K mg CK fKI) (FM : FamOk K M)
    (mL : Meth K M.C "look" fLk) (GL : FnOk P w K mg base (L2N.CX P w) 4 fLk fdLk ["self", "number"] (spLk M CK)) (bL : Binds K fdLk ["self", "number"] [])
    (gC : mg "calculate" = some (.ref fCA)) (kC : PySem.W.keepIn K (.ref fCA) = true) (GC : FnOk P w K mg base (L2N.CX P w) 3 fCA fdCA ["left", "sign", "right"] (spCA CK)) (bC : Binds K fdCA ["left", "sign", "right"] []) :
    FnOk P w K mg base (L2N.CX P w) 5 f fd ["ordered", "letters", "frame"] (spWO M K CK) := by
  refine fun_okN F scWO (fun vs H Q E h => ?_) (fun cdv A0 outer s H vs Q E hr h => ?_)
  · obtain ⟨A, L, x, marks, a, rfl, _⟩ := h
    rfl
  · obtain ⟨A, L, x, marks, a, rfl, hA, hlen, hok, hL, hF, hsm, qe, qo⟩ := h
    have hu := hu_of hr
    have hr3 : Room 3 _ := hr.mono (by decide)
    refine ⟨_, pss_cons (ps_set (i := 3) scWO.nd rfl (Or.inl rfl) (pe_lst pa_nil))
      (pss_cons (ps_for (passes_of rfl) rfl (pi_list (pv 0)) (pg_name (i := 4) scWO.nd rfl (Or.inl rfl))
        (pss_one (ps_if (pt_val (pe_callB call_isi (by rfl) T.isi (by decide +kernel) (pa_cons (pv 4) (pa_cons (pe_bltn (v := .ty "int") (by rfl) T.int (by decide +kernel) rfl) pa_nil))))
          (pss_one (ps_expr (pe_bm PySem.F.plainAttrs_list PySem.F.slot_list_append PySem.F.type_list_append mt_append (pv 3) (pa_cons (pv 4) pa_nil))))
          (pss_one (ps_if (pt_cmp (pc_din hu (pv 4) (pv 1)))
            (pss_one (ps_expr (pe_bm PySem.F.plainAttrs_list PySem.F.slot_list_append PySem.F.type_list_append mt_append (pv 3) (pa_cons (pe_dget hu (pv 1) (pv 4) (fun _ _ => rfl)) pa_nil))))
            (pss_one (ps_if (pt_cmpR op_eq (pv 4) pe_str (nomark _))
              (pss_one (ps_expr (pe_bm PySem.F.plainAttrs_list PySem.F.slot_list_append PySem.F.type_list_append mt_append (pv 3) (pa_cons (pe_meth (pv 2) FM.cl mL GL hr bL .nil (L2N.passes_call (L2N.takes_of rfl rfl rfl rfl) (fun _ _ _ _ h => h)) (pa_cons (pe_bm0 PySem.F.plainAttrs_list PySem.F.slot_list_pop PySem.F.type_list_pop mt_pop (pv 3)) pa_nil)) pa_nil))))
              (pss_cons (ps_set (i := 5) scWO.nd rfl (Or.inl rfl) (pe_bm0 PySem.F.plainAttrs_list PySem.F.slot_list_pop PySem.F.type_list_pop mt_pop (pv 3)))
                (pss_one (ps_expr (pe_bm PySem.F.plainAttrs_list PySem.F.slot_list_append PySem.F.type_list_append mt_append (pv 3) (pa_cons (pe_call GC hr3 rfl gC kC bC .nil (L2N.passes_call (L2N.takes_of rfl rfl rfl rfl) (fun _ _ _ _ h => h)) (pa_cons (pe_bm0 PySem.F.plainAttrs_list PySem.F.slot_list_pop PySem.F.type_list_pop mt_pop (pv 3)) (pa_cons (pv 4) (pa_cons (pv 5) pa_nil)))) pa_nil))))))))))))
      (pss_one (ps_ret (pe_bm0 PySem.F.plainAttrs_list PySem.F.slot_list_pop PySem.F.type_list_pop mt_pop (pv 3))))), ?_⟩
    refine ⟨Nat.zero_le _, fun D nD => ?_⟩
    obtain ⟨hheld, hev⟩ := ev_post hsm x hok
    have hev0 := hev [] []
    rw [List.append_nil] at hev0
    have smD : ∀ {H1 : Hp} {o : HO}, Same H H1 → Same H (upd H1 D o) := fun h b u e => by
      rw [upd_ne (ne_of_none e nD)]
      exact h b u e
    have hall := post_ok x hok
    refine ⟨_, rfl, A, rfl, ⟨_, (same_upd nD).seq hA⟩, for_list (xs := tkV (post x)) (fun i σ' H1 => ∃ (s : List Int) (v4 v5 : Option V), σ' = [some (.ref A), some (.ref L), some (.ref M.fr), some (.ref D), v4, v5] ∧ H1 D = some (.lst (fdV s)) ∧ Same H H1 ∧ s.length ≤ i ∧ (∀ z ∈ s, Held z) ∧ dp ((post x).drop i) s.length = some 1 ∧
        ev M.b marks a ((post x).drop i) s = (match x.value M.b marks a with
          | .error k => .error k
          | .ok z => .ok [z]))
      ⟨[], _, _, rfl, upd_same, same_upd nD, Nat.le_refl _, (fun z h => nomatch h), dp_all hok, hev0⟩ (fun i σ H1 _ ⟨s, v4, v5, _, _, sm, _⟩ => sm.seq hA) ?_ ?_⟩
    · rintro i y σ' H1 hy ⟨s, v4, v5, rfl, eD, sm, hs, hh, hdp, hx⟩
      obtain ⟨k, hk, rfl⟩ : ∃ k, (post x)[i]? = some k ∧ y = tokV k := by
        rw [List.getElem?_map] at hy
        cases e : (post x)[i]? with
        | none => rw [e] at hy; cases hy
        | some k => rw [e] at hy; exact ⟨k, rfl, (Option.some.inj hy).symm⟩
      have hi5 : i < 5000 := by
        have := (List.getElem?_eq_some_iff.mp hk).1
        omega
      have ed : (post x).drop i = k :: (post x).drop (i + 1) := by
        rw [List.drop_eq_getElem_cons (List.getElem?_eq_some_iff.mp hk).1, (List.getElem?_eq_some_iff.mp hk).2]
      rw [ed, ev_cons] at hx
      rw [ed] at hdp
      obtain ⟨m, hm1, hm2⟩ := dp_cons hdp
      have hkok : tkOk k = true := List.all_eq_true.mp hall k (List.mem_iff_getElem?.mpr ⟨i, hk⟩)
      have eL1 := hL.same sm
      have hF1 := FM.same hF sm
      have small : (fdV s).length < sizeLine := small5 (by rw [fdV_len]; omega)
      cases k with
      | inl n =>
        refine ⟨_, rfl, _, _, _, _, true, rfl, ClsV.ty _, TyX.base (by constructor), kit_ty (by decide +kernel), _, rfl, if_true_of rfl ?_⟩
        refine ⟨_, rfl, .inl ⟨rfl, _, SqL.of eD⟩, _, rfl, D, _, _, rfl, rfl, eD, small, ?_⟩
        have em : m = s.length + 1 := (Option.some.inj hm1).symm
        refine ⟨(n : Int) :: s, _, _, rfl, ?_, smD sm, by rw [List.length_cons]; omega, ?_, by rw [List.length_cons, ← em]; exact hm2, hx⟩
        · rw [upd_same, ← fdV_cons]
          rfl
        · intro z hz
          rcases List.mem_cons.mp hz with e | e
          · rw [e]
            exact held_nat (of_decide_eq_true hkok)
          · exact hh z e
      | inr c =>
        refine ⟨_, rfl, _, _, _, _, false, rfl, ClsV.ty _, TyX.base (by constructor), kit_ty (by decide +kernel), _, rfl, if_false_of rfl ?_⟩
        obtain ⟨kvs, eK, hK, hval⟩ := eL1
        refine ⟨_, rfl, _, rfl, L, _, rfl, DGet.k (k := Sum.inr (S [c])) eK, _, rfl, ?_⟩
        rw [hval]
        have hkc : (97 ≤ c ∧ c ≤ 104) ∨ (65 ≤ c ∧ c ≤ 72) ∨ c = 91 ∨ (c = 42 ∨ c = 43 ∨ c = 45) := by
          have h : (decide (97 ≤ c ∧ c ≤ 104) || (decide (65 ≤ c ∧ c ≤ 72) || (c == 91 || (c == 42 || (c == 43 || c == 45))))) = true := hkok
          simp only [Bool.or_eq_true, decide_eq_true_eq, beq_iff_eq] at h
          exact h
        cases hlt : ltV a.heads marks c with
        | some n =>
          have em : m = s.length + 1 := by
            refine dp1_let ?_ hm1
            unfold ltV at hlt
            by_cases h1 : 97 ≤ c ∧ c ≤ 104
            · exact .inl h1
            · rw [if_neg h1] at hlt
              by_cases h2 : 65 ≤ c ∧ c ≤ 72
              · exact .inr h2
              · rw [if_neg h2] at hlt
                cases hlt
          have hn : ev1 M.b marks a (.inr c) s = .ok ((n : Int) :: s) ∧ n ≤ 9999 := by
            unfold ltV at hlt
            show (if 97 ≤ c ∧ c ≤ 104 then _ else if 65 ≤ c ∧ c ≤ 72 then _ else _) = _ ∧ _
            by_cases h1 : 97 ≤ c ∧ c ≤ 104
            · rw [if_pos h1] at hlt ⊢
              cases hlt
              exact ⟨rfl, hsm.heads _⟩
            · rw [if_neg h1] at hlt ⊢
              by_cases h2 : 65 ≤ c ∧ c ≤ 72
              · rw [if_pos h2] at hlt ⊢
                cases hlt
                exact ⟨rfl, hsm.marks _⟩
              · rw [if_neg h2] at hlt
                cases hlt
          rw [hn.1] at hx
          refine if_true_of rfl ?_
          refine ⟨_, rfl, .inl ⟨rfl, _, SqL.of eD⟩, _, rfl, _, rfl, L, .int (n : Int), rfl, ?_, D, _, _, rfl, rfl, eD, small, ?_⟩
          · have g := DGet.k (k := Sum.inr (S [c])) eK
            rw [hval, hlt] at g
            exact g
          · refine ⟨(n : Int) :: s, _, _, rfl, ?_, smD sm, by rw [List.length_cons]; omega, ?_, by rw [List.length_cons, ← em]; exact hm2, hx⟩
            · rw [upd_same, ← fdV_cons]
            · intro z hz
              rcases List.mem_cons.mp hz with e | e
              · rw [e]
                exact held_nat hn.2
              · exact hh z e
        | none =>
          have hnl : ¬ (97 ≤ c ∧ c ≤ 104) ∧ ¬ (65 ≤ c ∧ c ≤ 72) := by
            unfold ltV at hlt
            by_cases h1 : 97 ≤ c ∧ c ≤ 104
            · rw [if_pos h1] at hlt
              cases hlt
            · rw [if_neg h1] at hlt
              by_cases h2 : 65 ≤ c ∧ c ≤ 72
              · rw [if_pos h2] at hlt
                cases hlt
              · exact ⟨h1, h2⟩
          refine if_false_of rfl ?_
          refine ⟨_, rfl, rfl, _, rfl, ?_⟩
          by_cases h91 : c = 91
          · subst h91
            refine if_true_of (by rfl) ?_
            obtain ⟨hn1, em⟩ := dp1_rod hm1
            cases s with
            | nil => exact absurd hn1 (by decide)
            | cons z s =>
              rw [ev1_rod] at hx
              refine ⟨_, rfl, .inl ⟨rfl, _, SqL.of eD⟩, _, rfl, M.fr, ?_⟩
              obtain ⟨dx, fs, eF, hl1, hl2⟩ := FM.at_ hF1
              refine ⟨dx, fs, rfl, eF, hl1, _, rfl, .inl ⟨rfl, _, SqL.of eD⟩, D, _, _, rfl, rfl, eD, fdV_last z s, ?_⟩
              rw [fdV_drop]
              have smU : Same H (upd H1 D (.lst (fdV s))) := smD sm
              refine ⟨a.on, z, rfl, FM.same hF smU, fun k hk0 => ?_, fun d hd H2 sm2 => ?_⟩
              · rw [hk0] at hx
                refine qe k ?_
                cases hv : x.value M.b marks a with
                | error k' => rw [hv] at hx; cases hx; rfl
                | ok z' => rw [hv] at hx; cases hx
              · rw [hd] at hx
                have eD2 := sm2 _ _ (upd_same (H := H1) (a := D) (o := .lst (fdV s)))
                refine ⟨D, _, _, rfl, rfl, eD2, small5 (by rw [fdV_len]; rw [List.length_cons] at hs; omega), ?_⟩
                refine ⟨(d : Int) :: s, _, _, rfl, by rw [upd_same, fdV_cons], smD (smU.trans sm2), by rw [List.length_cons] at hs ⊢; omega, ?_, by rw [List.length_cons] at em ⊢; rw [← em]; exact hm2, hx⟩
                intro y hy
                rcases List.mem_cons.mp hy with e | e
                · rw [e]
                  unfold lookX at hd
                  cases hri : Na.rodIn M.b.rods z with
                  | error k' => rw [hri] at hd; cases hd
                  | ok i' =>
                    rw [hri] at hd
                    exact held_nat (FM.look hF1 i' d hd)
                · exact hh y (List.mem_cons_of_mem _ e)
          · have hop : c = 42 ∨ c = 43 ∨ c = 45 := by
              rcases hkc with h | h | h | h
              · exact absurd h hnl.1
              · exact absurd h hnl.2
              · exact absurd h h91
              · exact h
            refine if_false_of ((sg_eq c 91).trans (decide_eq_false h91)) ?_
            obtain ⟨hn2, em⟩ := dp1_op hop hm1
            cases s with
            | nil => exact absurd hn2 (by decide)
            | cons y s1 =>
              cases s1 with
              | nil => exact absurd hn2 (by show ¬ 2 ≤ 1; decide)
              | cons z s =>
                rw [ev1_op M.b marks a hop] at hx
                refine ⟨_, rfl, .inl ⟨rfl, _, SqL.of eD⟩, D, _, _, rfl, rfl, eD, fdV_last y (z :: s), ?_⟩
                rw [fdV_drop]
                have eD2 : (upd H1 D (.lst (fdV (z :: s)))) D = some (.lst (fdV (z :: s))) := upd_same
                refine ⟨_, rfl, .inl ⟨rfl, _, SqL.of eD2⟩, _, rfl, .inl ⟨rfl, _, SqL.of eD2⟩, D, _, _, rfl, rfl, eD2, fdV_last z s, ?_⟩
                rw [fdV_drop, upd_upd]
                refine ⟨_, rfl, _, rfl, z, y, c, rfl, hh z (List.mem_cons_of_mem _ List.mem_cons_self), hh y List.mem_cons_self, fun k hk0 => ?_, fun v hv0 => ?_⟩
                · rw [hk0] at hx
                  refine qe k ?_
                  cases hv : x.value M.b marks a with
                  | error k' => rw [hv] at hx; cases hx; rfl
                  | ok z' => rw [hv] at hx; cases hx
                · rw [hv0] at hx
                  refine ⟨D, _, _, rfl, rfl, upd_same, small5 (by rw [fdV_len]; rw [List.length_cons, List.length_cons] at hs; omega), ?_⟩
                  refine ⟨v :: s, _, _, rfl, by rw [upd_same, fdV_cons], smD (smD sm), by rw [List.length_cons, List.length_cons] at hs; rw [List.length_cons]; omega, ?_, by rw [List.length_cons, List.length_cons] at em; rw [List.length_cons]; rw [show s.length + 1 = m by omega]; exact hm2, hx⟩
                  intro u hu'
                  rcases List.mem_cons.mp hu' with e | e
                  · obtain ⟨e1, e2⟩ := held_of hv0
                    rw [e, e1]
                    exact e2
                  · exact hh u (List.mem_cons_of_mem _ (List.mem_cons_of_mem _ e))
    · rintro σ' H1 ⟨s, v4, v5, rfl, eD, sm, hs, hh, hdp, hx⟩
      have e0 : (post x).drop (tkV (post x)).length = [] := by rw [List.length_map, List.drop_length]
      rw [e0] at hx
      cases hv : x.value M.b marks a with
      | error k => rw [hv] at hx; cases hx
      | ok z =>
        rw [hv] at hx
        cases hx
        refine ⟨_, rfl, .inl ⟨rfl, _, SqL.of eD⟩, D, _, _, rfl, rfl, eD, fdV_last z [], ?_⟩
        exact qo z hv (hheld z hv) _ (smD sm)
end
end Ab

set_option Elab.async false
set_option linter.all false
set_option maxRecDepth 100000
set_option maxHeartbeats 2000000
namespace Ab
open PySem PySem.Spec PyProof.Rows L2 AbM
open Na (Bytes held Cmp)
/-! ### what has been read, at addresses of a kind -/
def ExN (N : Addr → Prop) (H : Hp) (v : V) (x : Na.Ex) : Prop := ∃ a, v = .ref a ∧ N a ∧ H a = some (.lst (tkV (post x))) ∧ (post x).length ≤ 5000 ∧ x.ok = true
def TestN (N : Addr → Prop) (H : Hp) (v : V) (t : Na.Test) : Prop := ∃ (T : Addr) (va vb : V), v = .ref T ∧ N T ∧ H T = some (.tup [va, stV (cmpW t.cmp), vb]) ∧ ExN N H va t.a ∧ ExN N H vb t.b
def PartsN (N : Addr → Prop) (H : Hp) (us : List V) : Na.Line → Prop
  | .add e r => ∃ a b, us = [a, b] ∧ ExN N H a e ∧ ExN N H b r
  | .take e r => ∃ a b, us = [a, b] ∧ ExN N H a e ∧ ExN N H b r
  | .set k e => ∃ a, us = [sgV (97 + k), a] ∧ ExN N H a e
  | .if_ ts => All2 (TestN N H) us ts
  | .while_ ts => All2 (TestN N H) us ts
  | _ => us = []
def LineN (N : Addr → Prop) (H : Hp) (v : V) (l : Na.Line) : Prop := ∃ (T P : Addr) (us : List V), v = .ref T ∧ N T ∧ H T = some (.tup [stV (nameOf l), .ref P]) ∧ N P ∧ H P = some (.lst us) ∧ PartsN N H us l
/-- what is of the kind stands -/
def KeepP (N : Addr → Prop) (H H' : Hp) : Prop := ∀ b o, N b → H b = some o → H' b = some o
theorem KeepP.same {N : Addr → Prop} {H H' : Hp} (s : Same H H') : KeepP N H H' := fun b o _ e => s b o e
theorem KeepP.trans {N : Addr → Prop} {H H1 H2 : Hp} (a : KeepP N H H1) (b : KeepP N H1 H2) : KeepP N H H2 := fun x o n e => b x o n (a x o n e)
theorem ExN.keep {N : Addr → Prop} {H H' : Hp} {v : V} {x : Na.Ex} (h : ExN N H v x) (k : KeepP N H H') : ExN N H' v x :=
  let ⟨a, e, n, g, l⟩ := h
  ⟨a, e, n, k _ _ n g, l⟩
theorem TestN.keep {N : Addr → Prop} {H H' : Hp} {v : V} {x : Na.Test} (h : TestN N H v x) (k : KeepP N H H') : TestN N H' v x :=
  let ⟨T, va, vb, e, n, g, ea, eb⟩ := h
  ⟨T, va, vb, e, n, k _ _ n g, ea.keep k, eb.keep k⟩
theorem PartsN.keep {N : Addr → Prop} {H H' : Hp} {us : List V} {l : Na.Line} (h : PartsN N H us l) (k : KeepP N H H') : PartsN N H' us l := by
  cases l with
  | add e r => obtain ⟨a, b, e1, e2, e3⟩ := h; exact ⟨a, b, e1, e2.keep k, e3.keep k⟩
  | take e r => obtain ⟨a, b, e1, e2, e3⟩ := h; exact ⟨a, b, e1, e2.keep k, e3.keep k⟩
  | set j e => obtain ⟨a, e1, e2⟩ := h; exact ⟨a, e1, e2.keep k⟩
  | if_ ts => exact All2.imp h fun _ _ g => g.keep k
  | while_ ts => exact All2.imp h fun _ _ g => g.keep k
  | else_ => exact h
  | end_ => exact h
  | halt_ => exact h
  | fail => exact h
theorem LineN.keep {N : Addr → Prop} {H H' : Hp} {v : V} {x : Na.Line} (h : LineN N H v x) (k : KeepP N H H') : LineN N H' v x :=
  let ⟨T, P, us, e, n, g, n2, g2, ps⟩ := h
  ⟨T, P, us, e, n, k _ _ n g, n2, k _ _ n2 g2, ps.keep k⟩
section
variable {N : Addr → Prop} {H0 H : Hp} (hN : ∀ b, H0 b = none → H b ≠ none → N b)
include hN
theorem ExV.toN {v : V} {x : Na.Ex} (h : ExV H0 H v x) : ExN N H v x :=
  let ⟨a, e, n, g, l⟩ := h
  ⟨a, e, hN a n (at_some g), g, l⟩
theorem TestV.toN {v : V} {x : Na.Test} (h : TestV H0 H v x) : TestN N H v x :=
  let ⟨T, va, vb, e, n, g, ea, eb⟩ := h
  ⟨T, va, vb, e, hN T n (at_some g), g, ea.toN hN, eb.toN hN⟩
theorem PartsV.toN {us : List V} {l : Na.Line} (h : PartsV H0 H us l) : PartsN N H us l := by
  cases l with
  | add e r => obtain ⟨a, b, e1, e2, e3⟩ := h; exact ⟨a, b, e1, e2.toN hN, e3.toN hN⟩
  | take e r => obtain ⟨a, b, e1, e2, e3⟩ := h; exact ⟨a, b, e1, e2.toN hN, e3.toN hN⟩
  | set j e => obtain ⟨a, e1, e2⟩ := h; exact ⟨a, e1, e2.toN hN⟩
  | if_ ts => exact All2.imp h fun _ _ g => g.toN hN
  | while_ ts => exact All2.imp h fun _ _ g => g.toN hN
  | else_ => exact h
  | end_ => exact h
  | halt_ => exact h
  | fail => exact h
theorem LineV.toN {v : V} {x : Na.Line} (h : LineV H0 H v x) : LineN N H v x :=
  let ⟨T, P, us, e, n, g, n2, g2, ps⟩ := h
  ⟨T, P, us, e, hN T n (at_some g), g, hN P n2 (at_some g2), g2, ps.toN hN⟩
end
def spAS {σ : Type} (M : Fam σ) (K : PySem.W.Frag) (CK : Addr) : Sp := fun vs H Q E => ∃ (D L : Addr) (us : List V) (ts : List Na.Test) (N : Addr → Prop) (marks : List Nat) (a : Na.Now σ), vs = [.ref D, .ref L, .ref M.fr] ∧ H D = some (.lst us) ∧ All2 (TestN N H) us ts ∧ LetV H L a.heads marks ∧ M.Fr H a.on ∧ Small M.b marks a ∧
  (∀ k, Na.holds M.b marks a ts = .error k → Fails CK E k) ∧ ∀ z, Na.holds M.b marks a ts = .ok z → ∀ H', Same H H' → Q (.bl z) H'
theorem holds_cons {σ : Type} (b : Na.Board σ) (marks : List Nat) (a : Na.Now σ) (t : Na.Test) (l : List Na.Test) : Na.holds b marks a (t :: l) = match t.a.value b marks a with
    | .error k => .error k
    | .ok x => match t.b.value b marks a with
      | .error k => .error k
      | .ok y => if t.cmp.holds x y = true then Na.holds b marks a l else .ok false := by
  show (t.a.value b marks a >>= fun x => t.b.value b marks a >>= fun y => if t.cmp.holds x y = true then Na.holds b marks a l else pure false) = _
  cases t.a.value b marks a with
  | error k => rfl
  | ok x =>
    show (t.b.value b marks a >>= fun y => if t.cmp.holds x y = true then Na.holds b marks a l else pure false) = match t.b.value b marks a with
      | .error k => .error k
      | .ok y => if t.cmp.holds x y = true then Na.holds b marks a l else .ok false
    cases t.b.value b marks a <;> rfl
section
variable {P : Program} {w : World} {K : PySem.W.Frag} {mg : Str → Option Value} {base : Heap} {CK fKI : Addr}
theorem scAS : FnScope ["tests", "letters", "frame", "left", "sign", "right", "number"] ["tests", "letters", "frame"] (defScope sAS) := ⟨rfl, rfl, rfl, by decide +kernel, rfl, by decide +kernel, by decide +kernel⟩
theorem ok_AS {σ : Type} {M : Fam σ} {f fW fI : Addr} {fd fdW fdI : FuncData} (F : Fun K "all_so" "all_so" sAS f fd) (FM : FamOk K M)
    (gW : mg "work_out" = some (.ref fW)) (kW : PySem.W.keepIn K (.ref fW) = true) (GW : FnOk P w K mg base (L2N.CX P w) 5 fW fdW ["ordered", "letters", "frame"] (spWO M K CK)) (bW : Binds K fdW ["ordered", "letters", "frame"] [])
    (gI : mg "is_so" = some (.ref fI)) (kI : PySem.W.keepIn K (.ref fI) = true) (GI : FnOk P w K mg base CX0 1 fI fdI ["left", "sign", "right"] spIS) (bI : Binds K fdI ["left", "sign", "right"] []) :
    FnOk P w K mg base (L2N.CX P w) 6 f fd ["tests", "letters", "frame"] (spAS M K CK) := by
  refine fun_okN F scAS (fun vs H Q E h => ?_) (fun cdv A0 outer s H vs Q E hr h => ?_)
  · obtain ⟨D, L, us, ts, N, marks, a, rfl, _⟩ := h
    rfl
  · obtain ⟨D, L, us, ts, N, marks, a, rfl, hD, hts, hL, hF, hsm, qe, qo⟩ := h
    have hr1 : Room 1 _ := hr.mono (by decide)
    refine ⟨_, pss_cons (ps_for (passes_of rfl) rfl (pi_list (pv 0)) (pg_tup rfl (pgs_cons (pg_name (i := 3) scAS.nd rfl (Or.inl rfl)) (pgs_cons (pg_name (i := 4) scAS.nd rfl (Or.inl rfl)) (pgs_cons (pg_name (i := 5) scAS.nd rfl (Or.inl rfl)) pgs_nil))))
        (pss_cons (ps_set (i := 6) scAS.nd rfl (Or.inl rfl) (pe_call GW hr rfl gW kW bW .nil (L2N.passes_call (L2N.takes_of rfl rfl rfl rfl) (fun _ _ _ _ h => h)) (pa_cons (pv 3) (pa_cons (pv 1) (pa_cons (pv 2) pa_nil)))))
          (pss_one (ps_if (pt_not (pt_val (pe_call GI hr1 rfl gI kI bI .nil pass0 (pa_cons (pv 6) (pa_cons (pv 4) (pa_cons (pe_call GW hr rfl gW kW bW .nil (L2N.passes_call (L2N.takes_of rfl rfl rfl rfl) (fun _ _ _ _ h => h)) (pa_cons (pv 5) (pa_cons (pv 1) (pa_cons (pv 2) pa_nil)))) pa_nil))))))
            (pss_one (ps_ret pe_bl)) pss_nil))))
      (pss_one (ps_ret pe_bl)), ?_⟩
    refine ⟨_, rfl, D, rfl, ⟨_, SqL.of hD⟩, for_list (xs := us) (fun i σ' H1 => ∃ (v3 v4 v5 v6 : Option V), σ' = [some (.ref D), some (.ref L), some (.ref M.fr), v3, v4, v5, v6] ∧ Same H H1 ∧ Na.holds M.b marks a (ts.drop i) = Na.holds M.b marks a ts)
      ⟨_, _, _, _, rfl, Same.refl H, rfl⟩ (fun i σ' H1 _ ⟨v3, v4, v5, v6, _, sm, _⟩ => SqL.of (sm _ _ hD)) ?_ ?_⟩
    · rintro i y σ' H1 hy ⟨v3, v4, v5, v6, rfl, sm, hx⟩
      obtain ⟨t, ht, T, va, vb, rfl, hNT, eT, ⟨aa, rfl, hNa, ea, la, oka⟩, ⟨ab, rfl, hNb, eb, lb, okb⟩⟩ := hts.at' hy
      have ed : ts.drop i = t :: ts.drop (i + 1) := by
        rw [List.drop_eq_getElem_cons (List.getElem?_eq_some_iff.mp ht).1, (List.getElem?_eq_some_iff.mp ht).2]
      rw [ed, holds_cons] at hx
      refine ⟨T, _, rfl, SqT.of (sm _ _ eT), rfl, _, _, rfl, _, _, rfl, _, _, rfl, rfl, ?_⟩
      refine ⟨_, rfl, _, rfl, _, rfl, aa, L, t.a, marks, a, rfl, SqL.of (sm _ _ ea), la, oka, hL.same sm, FM.same hF sm, hsm, fun k hk => ?_, fun z hz hh H2 sm2 => ?_⟩
      · rw [hk] at hx
        exact qe k hx.symm
      · rw [hz] at hx
        dsimp only at hx
        refine ⟨_, rfl, _, rfl, _, rfl, _, rfl, _, rfl, ab, L, t.b, marks, a, rfl, SqL.of ((sm.trans sm2) _ _ eb), lb, okb, hL.same (sm.trans sm2), FM.same hF (sm.trans sm2), hsm, fun k hk => ?_, fun z2 hz2 hh2 H3 sm3 => ?_⟩
        · rw [hk] at hx
          exact qe k hx.symm
        · rw [hz2] at hx
          dsimp only at hx
          refine ⟨z, z2, t.cmp, rfl, _, rfl, ?_⟩
          cases hc : t.cmp.holds z z2 with
          | true =>
            rw [hc, if_pos rfl] at hx
            refine if_false_of rfl ?_
            exact ⟨_, _, _, _, rfl, (sm.trans sm2).trans sm3, hx⟩
          | false =>
            rw [hc, if_neg Bool.false_ne_true] at hx
            refine if_true_of rfl ?_
            exact qo false hx.symm H3 ((sm.trans sm2).trans sm3)
    · rintro σ' H1 ⟨v3, v4, v5, v6, rfl, sm, hx⟩
      have e0 : ts.drop us.length = [] := by rw [hts.len, List.drop_length]
      rw [e0] at hx
      exact qo true hx.symm H1 sm
end
end Ab

set_option linter.all false
/-! Of the specification alone: which line belongs to which. Lines are gone through once, from the first, with what is open; what the specification finds by search is what then stands there. -/
namespace AbJ
open Na
/-- what is open: its line, whether it's a while, its else's line -/
structure Op where
  at_ : Nat
  wh : Bool
  el : Option Nat
  deriving DecidableEq, Repr
def code (o : Op) : Nat := if o.wh = true then 0 else if o.el.isNone = true then 1 else 2
def codes (s : List Op) : List Nat := s.map code
/-- a line more, at place i -/
def stepOp (i : Nat) (s : List Op) : Line → List Op
  | .if_ _ => ⟨i, false, none⟩ :: s
  | .while_ _ => ⟨i, true, none⟩ :: s
  | .else_ => match s with
    | o :: r => { o with el := some i } :: r
    | [] => []
  | .end_ => s.tail
  | _ => s
def openAt : Nat → List Op → Method → List Op
  | _, s, [] => s
  | i, s, l :: r => openAt (i + 1) (stepOp i s l) r
theorem openAt_snoc (l : Line) : ∀ (q : Method) (i : Nat) (s : List Op), openAt i s (q ++ [l]) = stepOp (i + q.length) (openAt i s q) l
  | [], i, s => rfl
  | x :: r, i, s => by
    show openAt (i + 1) (stepOp i s x) (r ++ [l]) = stepOp (i + (r.length + 1)) (openAt (i + 1) (stepOp i s x) r) l
    rw [openAt_snoc l r (i + 1) (stepOp i s x)]
    congr 1
    omega
/-- what holds of one that is open behind q, k others being within it -/
structure Held (q : Method) (k : Nat) (o : Op) : Prop where
  lt : o.at_ < q.length
  kind : (o.wh = true ∧ ∃ c, q[o.at_]? = some (.while_ c)) ∨ (o.wh = false ∧ ∃ c, q[o.at_]? = some (.if_ c))
  toE : ∀ rest, toEnd (q.drop (o.at_ + 1) ++ rest) 0 = (q.length - o.at_ - 1) + toEnd rest k
  toL : ∀ rest, toElse (q.drop (o.at_ + 1) ++ rest) 0 = match o.el with
    | some e => some (e - o.at_ - 1)
    | none => (toElse rest k).map fun j => j + (q.length - o.at_ - 1)
  elt : ∀ e, o.el = some e → o.at_ < e ∧ e < q.length ∧ q[e]? = some .else_ ∧ ∀ rest, toEnd (q.drop (e + 1) ++ rest) 0 = (q.length - e - 1) + toEnd rest k
  back : toOpen q.reverse k = q.length - o.at_ - 1
/-- all that is open behind q -/
def Good (q : Method) (s : List Op) : Prop := ∀ k o, s[k]? = some o → Held q k o
theorem drop_snoc {q : Method} {i : Nat} (l : Line) (rest : Method) (h : i ≤ q.length) : (q ++ [l]).drop i ++ rest = q.drop i ++ (l :: rest) := by
  rw [List.drop_append_of_le_length h, List.append_assoc]
  rfl
theorem get_snoc {q : Method} {i : Nat} {l x : Line} (h : q[i]? = some x) : (q ++ [l])[i]? = some x := by
  have hi := (List.getElem?_eq_some_iff.mp h).1
  rw [List.getElem?_append_left hi]
  exact h
/-- a line that changes the depth of what is open by turning k to k' -/
theorem Held.more {q : Method} {k k' : Nat} {o : Op} (h : Held q k o) (l : Line)
    (h1 : ∀ rest, toEnd (l :: rest) k = toEnd rest k' + 1)
    (h2 : ∀ rest, o.el = none → toElse (l :: rest) k = (toElse rest k').map fun j => j + 1)
    (h3 : ∀ r, toOpen (l :: r) k' = toOpen r k + 1) : Held (q ++ [l]) k' o := by
  have hl := h.lt
  have el : (q ++ [l]).length = q.length + 1 := by simp
  refine ⟨by omega, ?_, fun rest => ?_, fun rest => ?_, fun e he => ?_, ?_⟩
  · rcases h.kind with ⟨a, c, b⟩ | ⟨a, c, b⟩
    · exact .inl ⟨a, c, get_snoc b⟩
    · exact .inr ⟨a, c, get_snoc b⟩
  · rw [drop_snoc l rest (by omega), h.toE, h1]
    omega
  · rw [drop_snoc l rest (by omega), h.toL]
    cases he : o.el with
    | some e => rfl
    | none =>
      show (toElse (l :: rest) k).map _ = (toElse rest k').map _
      rw [h2 rest he, Option.map_map]
      congr 1
      funext j
      show j + 1 + _ = j + _
      omega
  · obtain ⟨a, b, c, d⟩ := h.elt e he
    refine ⟨a, by omega, get_snoc c, fun rest => ?_⟩
    rw [drop_snoc l rest (by omega), d, h1]
    omega
  · rw [List.reverse_append]
    show toOpen (l :: q.reverse) k' = _
    rw [h3, h.back]
    omega
theorem good_nil : Good [] [] := fun k o h => by cases h
theorem Held.fresh_while (q : Method) (c : List Test) : Held (q ++ [.while_ c]) 0 ⟨q.length, true, none⟩ := by
  have el : (q ++ [Line.while_ c]).length = q.length + 1 := by simp
  have ed : (q ++ [Line.while_ c]).drop (q.length + 1) = [] := List.drop_eq_nil_of_le (by rw [el]; exact Nat.le_refl _)
  refine ⟨by rw [el]; exact Nat.lt_succ_self _, .inl ⟨rfl, c, by simp⟩, fun rest => ?_, fun rest => ?_, fun e he => (nomatch he), ?_⟩
  · show toEnd ((q ++ [Line.while_ c]).drop (q.length + 1) ++ rest) 0 = _
    rw [ed, el]
    show toEnd rest 0 = q.length + 1 - q.length - 1 + toEnd rest 0
    omega
  · show toElse ((q ++ [Line.while_ c]).drop (q.length + 1) ++ rest) 0 = (toElse rest 0).map fun j => j + ((q ++ [Line.while_ c]).length - q.length - 1)
    rw [ed, el]
    have : (fun j : Nat => j + (q.length + 1 - q.length - 1)) = id := by
      funext j
      show _ = j
      omega
    rw [this, Option.map_id]
    rfl
  · rw [List.reverse_append, el]
    show 0 = q.length + 1 - q.length - 1
    omega
theorem Held.fresh_if (q : Method) (c : List Test) : Held (q ++ [.if_ c]) 0 ⟨q.length, false, none⟩ := by
  have el : (q ++ [Line.if_ c]).length = q.length + 1 := by simp
  have ed : (q ++ [Line.if_ c]).drop (q.length + 1) = [] := List.drop_eq_nil_of_le (by rw [el]; exact Nat.le_refl _)
  refine ⟨by rw [el]; exact Nat.lt_succ_self _, .inr ⟨rfl, c, by simp⟩, fun rest => ?_, fun rest => ?_, fun e he => (nomatch he), ?_⟩
  · show toEnd ((q ++ [Line.if_ c]).drop (q.length + 1) ++ rest) 0 = _
    rw [ed, el]
    show toEnd rest 0 = q.length + 1 - q.length - 1 + toEnd rest 0
    omega
  · show toElse ((q ++ [Line.if_ c]).drop (q.length + 1) ++ rest) 0 = (toElse rest 0).map fun j => j + ((q ++ [Line.if_ c]).length - q.length - 1)
    rw [ed, el]
    have : (fun j : Nat => j + (q.length + 1 - q.length - 1)) = id := by
      funext j
      show _ = j
      omega
    rw [this, Option.map_id]
    rfl
  · rw [List.reverse_append, el]
    show 0 = q.length + 1 - q.length - 1
    omega
/-- an else's own line -/
theorem Held.else_ {q : Method} {o : Op} (h : Held q 0 o) (he : o.el = none) : Held (q ++ [.else_]) 0 { o with el := some q.length } := by
  have hl := h.lt
  have el : (q ++ [Line.else_]).length = q.length + 1 := by simp
  refine ⟨by show o.at_ < _; omega, ?_, fun rest => ?_, fun rest => ?_, fun e hh => ?_, ?_⟩
  · rcases h.kind with ⟨a, c, b⟩ | ⟨a, c, b⟩
    · exact .inl ⟨a, c, get_snoc b⟩
    · exact .inr ⟨a, c, get_snoc b⟩
  · show toEnd ((q ++ [Line.else_]).drop (o.at_ + 1) ++ rest) 0 = (q ++ [Line.else_]).length - o.at_ - 1 + toEnd rest 0
    rw [drop_snoc _ rest (by omega), h.toE]
    show _ + (toEnd rest 0 + 1) = _
    omega
  · show toElse ((q ++ [Line.else_]).drop (o.at_ + 1) ++ rest) 0 = some (q.length - o.at_ - 1)
    rw [drop_snoc _ rest (by omega), h.toL, he]
    show some (0 + _) = _
    rw [Nat.zero_add]
  · cases hh
    have ed : (q ++ [Line.else_]).drop (q.length + 1) = [] := List.drop_eq_nil_of_le (by rw [el]; exact Nat.le_refl _)
    refine ⟨hl, by omega, by simp, fun rest => ?_⟩
    rw [ed, el]
    show toEnd rest 0 = q.length + 1 - q.length - 1 + toEnd rest 0
    omega
  · rw [List.reverse_append]
    show toOpen (Line.else_ :: q.reverse) 0 = (q ++ [Line.else_]).length - o.at_ - 1
    show toOpen q.reverse 0 + 1 = _
    rw [h.back]
    omega
/-- what nested asks of one line -/
def mayBe (o : List Nat) : Line → Prop
  | .else_ => ∃ r, o = 1 :: r
  | .end_ => o ≠ []
  | _ => True
theorem good_step {q : Method} {s : List Op} (g : Good q s) (l : Line) (hm : mayBe (codes s) l) : Good (q ++ [l]) (stepOp q.length s l) := by
  have plain : (∀ k rest, toEnd (l :: rest) k = toEnd rest k + 1) → (∀ k rest, toElse (l :: rest) k = (toElse rest k).map fun j => j + 1) → (∀ k r, toOpen (l :: r) k = toOpen r k + 1) → Good (q ++ [l]) s := fun h1 h2 h3 k o ho => (g k o ho).more l (h1 k) (fun rest _ => h2 k rest) (h3 k)
  cases l with
  | add e r => exact plain (fun _ _ => rfl) (fun _ _ => rfl) (fun _ _ => rfl)
  | take e r => exact plain (fun _ _ => rfl) (fun _ _ => rfl) (fun _ _ => rfl)
  | set k e => exact plain (fun _ _ => rfl) (fun _ _ => rfl) (fun _ _ => rfl)
  | halt_ => exact plain (fun _ _ => rfl) (fun _ _ => rfl) (fun _ _ => rfl)
  | fail => exact plain (fun _ _ => rfl) (fun _ _ => rfl) (fun _ _ => rfl)
  | if_ c =>
    intro k o ho
    cases k with
    | zero =>
      cases ho
      exact Held.fresh_if q c
    | succ k => exact (g k o ho).more _ (fun _ => rfl) (fun _ _ => rfl) (fun _ => rfl)
  | while_ c =>
    intro k o ho
    cases k with
    | zero =>
      cases ho
      exact Held.fresh_while q c
    | succ k => exact (g k o ho).more _ (fun _ => rfl) (fun _ _ => rfl) (fun _ => rfl)
  | else_ =>
    obtain ⟨r, hr⟩ := hm
    cases s with
    | nil => cases hr
    | cons o s =>
      have hc : code o = 1 := (List.cons.inj hr).1
      have he : o.el = none := by
        unfold code at hc
        split at hc
        · cases hc
        · split at hc
          · rename_i h
            exact Option.isNone_iff_eq_none.mp h
          · cases hc
      intro k u hu
      cases k with
      | zero =>
        cases hu
        exact (g 0 o rfl).else_ he
      | succ k => exact (g (k + 1) u hu).more _ (fun _ => rfl) (fun rest _ => by
          show (if k + 1 = 0 then some 0 else (toElse rest (k + 1)).map fun (k : Nat) => k + 1) = _
          rw [if_neg (Nat.succ_ne_zero k)]) (fun _ => rfl)
  | end_ =>
    cases s with
    | nil => exact absurd rfl hm
    | cons o s =>
      intro k u hu
      exact (g (k + 1) u hu).more _ (fun _ => rfl) (fun _ _ => rfl) (fun _ => rfl)
/-- a line in a method: what is open before it, and that what nested asks holds -/
theorem nested_cons {l : Line} {r : Method} {o : List Nat} (h : nested (l :: r) o = true) : mayBe o l ∧ ∃ o', nested r o' = true ∧ ∀ i s, codes s = o → codes (stepOp i s l) = o' := by
  cases l with
  | add e x => exact ⟨trivial, o, h, fun _ _ e => e⟩
  | take e x => exact ⟨trivial, o, h, fun _ _ e => e⟩
  | set k e => exact ⟨trivial, o, h, fun _ _ e => e⟩
  | halt_ => exact ⟨trivial, o, h, fun _ _ e => e⟩
  | fail => exact ⟨trivial, o, h, fun _ _ e => e⟩
  | if_ c =>
    have h2 : (decide (o.length < OPEN) && nested r (1 :: o)) = true := h
    rw [Bool.and_eq_true] at h2
    exact ⟨trivial, 1 :: o, h2.2, fun i s e => by subst e; rfl⟩
  | while_ c =>
    have h2 : (decide (o.length < OPEN) && nested r (0 :: o)) = true := h
    rw [Bool.and_eq_true] at h2
    exact ⟨trivial, 0 :: o, h2.2, fun i s e => by subst e; rfl⟩
  | else_ =>
    cases o with
    | nil => cases h
    | cons a o =>
      by_cases ha : a = 1
      · subst ha
        refine ⟨⟨o, rfl⟩, 2 :: o, h, fun i s e => ?_⟩
        cases s with
        | nil => cases e
        | cons x s =>
          have e1 := (List.cons.inj e).1
          have e2 := (List.cons.inj e).2
          have hw : x.wh = false := by
            unfold code at e1
            split at e1
            · cases e1
            · rename_i hh
              simpa using hh
          show code { x with el := some i } :: codes s = 2 :: o
          rw [← e2]
          congr 1
          unfold code
          show (if x.wh = true then 0 else _) = 2
          rw [hw]
          rfl
      · exfalso
        have : nested (.else_ :: r) (a :: o) = false := by
          unfold nested
          split
          · rename_i hh
            exact absurd (List.cons.inj hh).1 ha
          · rfl
        rw [this] at h
        cases h
  | end_ =>
    cases o with
    | nil => cases h
    | cons a o =>
      refine ⟨List.cons_ne_nil _ _, o, h, fun i s e => ?_⟩
      cases s with
      | nil => cases e
      | cons x s => exact (List.cons.inj e).2
/-- what is open before line j -/
def openIn (p : Method) (j : Nat) : List Op := openAt 0 [] (p.take j)
theorem openIn_succ {p : Method} {j : Nat} {l : Line} (h : p[j]? = some l) : openIn p (j + 1) = stepOp j (openIn p j) l := by
  have hj := (List.getElem?_eq_some_iff.mp h).1
  unfold openIn
  rw [List.take_add_one, h]
  show openAt 0 [] (p.take j ++ [l]) = _
  rw [openAt_snoc, List.length_take, Nat.zero_add, Nat.min_eq_left (Nat.le_of_lt hj)]
theorem walk {p : Method} (hn : nested p [] = true) : ∀ j, j ≤ p.length → Good (p.take j) (openIn p j) ∧ nested (p.drop j) (codes (openIn p j)) = true
  | 0, _ => ⟨good_nil, hn⟩
  | j + 1, hj => by
    obtain ⟨g, n⟩ := walk hn j (by omega)
    have hlt : j < p.length := hj
    have hl : p[j]? = some p[j] := List.getElem?_eq_getElem hlt
    rw [List.drop_eq_getElem_cons hlt] at n
    obtain ⟨hm, o', n', hc⟩ := nested_cons n
    have e := openIn_succ hl
    refine ⟨?_, ?_⟩
    · have := good_step g p[j] hm
      rw [List.length_take, Nat.min_eq_left (Nat.le_of_lt hlt), ← e] at this
      rw [List.take_add_one, hl]
      exact this
    · rw [e, hc j _ rfl]
      exact n'
/-- every end has what it belongs to -/
theorem at_end {p : Method} (hn : nested p [] = true) {j : Nat} (hj : p[j]? = some .end_) : ∃ o s, openIn p j = o :: s ∧ o.at_ < j ∧
    ((o.wh = true ∧ ∃ c, p[o.at_]? = some (.while_ c)) ∨ (o.wh = false ∧ ∃ c, p[o.at_]? = some (.if_ c))) ∧
    behindEnd p o.at_ = j + 1 ∧ (otherwise_ p o.at_ = match o.el with | some e => e + 1 | none => j + 1) ∧
    (∀ e, o.el = some e → o.at_ < e ∧ e < j ∧ p[e]? = some .else_ ∧ behindEnd p e = j + 1) ∧
    ending p j = if o.wh = true then o.at_ else j + 1 := by
  have hlt := (List.getElem?_eq_some_iff.mp hj).1
  obtain ⟨g, n⟩ := walk hn j (Nat.le_of_lt hlt)
  have hd : p.drop j = .end_ :: p.drop (j + 1) := by
    rw [List.drop_eq_getElem_cons hlt]
    congr 1
    exact (List.getElem?_eq_some_iff.mp hj).2
  rw [hd] at n
  obtain ⟨hm, _⟩ := nested_cons n
  cases hs : openIn p j with
  | nil => rw [hs] at hm; exact absurd rfl hm
  | cons o s =>
    have h := g 0 o (by rw [hs]; rfl)
    have lt : (p.take j).length = j := by rw [List.length_take]; omega
    have hat : o.at_ < j := by have := h.lt; omega
    have split : ∀ i, i ≤ j → p.drop i = (p.take j).drop i ++ (.end_ :: p.drop (j + 1)) := fun i hi => by
      have e : p = p.take j ++ p.drop j := (List.take_append_drop j p).symm
      conv => lhs; rw [e]
      rw [hd, List.drop_append_of_le_length (by omega)]
    have get : ∀ {i : Nat} {l : Line}, (p.take j)[i]? = some l → p[i]? = some l := fun {i l} hi => by
      rw [List.getElem?_take] at hi
      split at hi
      · exact hi
      · cases hi
    have kd : (o.wh = true ∧ ∃ c, p[o.at_]? = some (.while_ c)) ∨ (o.wh = false ∧ ∃ c, p[o.at_]? = some (.if_ c)) := by
      rcases h.kind with ⟨a, c, b⟩ | ⟨a, c, b⟩
      · exact .inl ⟨a, c, get b⟩
      · exact .inr ⟨a, c, get b⟩
    have be : behindEnd p o.at_ = j + 1 := by
      unfold behindEnd
      rw [split (o.at_ + 1) (by omega), h.toE, lt]
      show o.at_ + 1 + (j - o.at_ - 1 + 0) + 1 = j + 1
      omega
    refine ⟨o, s, rfl, hat, kd, be, ?_, fun e he => ?_, ?_⟩
    · unfold otherwise_
      rw [split (o.at_ + 1) (by omega), h.toL]
      cases he : o.el with
      | some e =>
        obtain ⟨a, b, _, _⟩ := h.elt e he
        show o.at_ + 1 + (e - o.at_ - 1) + 1 = e + 1
        omega
      | none => exact be
    · obtain ⟨a, b, c, d⟩ := h.elt e he
      refine ⟨a, by omega, get c, ?_⟩
      unfold behindEnd
      rw [split (e + 1) (by omega), d, lt]
      show e + 1 + (j - e - 1 + 0) + 1 = j + 1
      omega
    · have eb : j - 1 - toOpen (p.take j).reverse 0 = o.at_ := by
        rw [h.back, lt]
        omega
      unfold ending
      rw [eb]
      rcases kd with ⟨a, c, b⟩ | ⟨a, c, b⟩
      · show (match p[o.at_]? with | some (.while_ _) => o.at_ | _ => j + 1) = _
        rw [b, a]
        rfl
      · show (match p[o.at_]? with | some (.while_ _) => o.at_ | _ => j + 1) = _
        rw [b, a]
        rfl
theorem code_one {o : Op} (h : code o = 1) : o.el = none := by
  unfold code at h
  split at h
  · cases h
  · split at h
    · rename_i hh
      exact Option.isNone_iff_eq_none.mp hh
    · cases h
/-- what is open is closed -/
theorem closes {p : Method} (hn : nested p [] = true) : ∀ (n j : Nat) (t : List Op) (o : Op) (s : List Op), p.length - j ≤ n → j ≤ p.length → openIn p j = t ++ o :: s →
    ∃ k o', j ≤ k ∧ p[k]? = some .end_ ∧ openIn p k = o' :: s ∧ o'.at_ = o.at_ ∧ o'.wh = o.wh ∧ ∀ e, o.el = some e → o'.el = some e := by
  intro n
  induction n with
  | zero =>
    intro j t o s hl hj e
    exfalso
    have := (walk hn j hj).2
    have ej : j = p.length := by omega
    rw [ej, List.drop_length, ← ej, e] at this
    cases t <;> cases this
  | succ n ih =>
    intro j t o s hl hj e
    by_cases hlt : j < p.length
    · have hg : p[j]? = some p[j] := List.getElem?_eq_getElem hlt
      have e1 := openIn_succ hg
      obtain ⟨g, nn⟩ := walk hn j hj
      rw [List.drop_eq_getElem_cons hlt] at nn
      obtain ⟨hm, _⟩ := nested_cons nn
      rw [e] at e1 hm
      have go : ∀ t' o'', openIn p (j + 1) = t' ++ o'' :: s → o''.at_ = o.at_ → o''.wh = o.wh → (∀ e, o.el = some e → o''.el = some e) →
          ∃ k o', j ≤ k ∧ p[k]? = some .end_ ∧ openIn p k = o' :: s ∧ o'.at_ = o.at_ ∧ o'.wh = o.wh ∧ ∀ e, o.el = some e → o'.el = some e := by
        intro t' o'' a1 a2 a3 a4
        obtain ⟨k, o', b1, b2, b3, b4, b5, b6⟩ := ih (j + 1) t' o'' s (by omega) hlt a1
        exact ⟨k, o', by omega, b2, b3, b4.trans a2, b5.trans a3, fun e he => b6 e (a4 e he)⟩
      generalize hl2 : p[j] = l at hg e1 hm
      cases l with
      | add x y => exact go t o e1 rfl rfl fun _ h => h
      | take x y => exact go t o e1 rfl rfl fun _ h => h
      | set x y => exact go t o e1 rfl rfl fun _ h => h
      | halt_ => exact go t o e1 rfl rfl fun _ h => h
      | fail => exact go t o e1 rfl rfl fun _ h => h
      | if_ c => exact go (⟨j, false, none⟩ :: t) o e1 rfl rfl fun _ h => h
      | while_ c => exact go (⟨j, true, none⟩ :: t) o e1 rfl rfl fun _ h => h
      | else_ =>
        cases t with
        | nil =>
          obtain ⟨r, hr⟩ := hm
          have hc : code o = 1 := (List.cons.inj hr).1
          refine go [] { o with el := some j } e1 rfl rfl fun e he => ?_
          rw [code_one hc] at he
          cases he
        | cons a t => exact go ({ a with el := some j } :: t) o e1 rfl rfl fun _ h => h
      | end_ =>
        cases t with
        | nil => exact ⟨j, o, Nat.le_refl _, hg, e, rfl, rfl, fun _ h => h⟩
        | cons a t => exact go t o e1 rfl rfl fun _ h => h
    · exfalso
      have ej : j = p.length := by omega
      have := (walk hn j hj).2
      rw [ej, List.drop_length, ← ej, e] at this
      cases t <;> cases this
/-- where an if goes on that isn't so: behind its else, or behind its end -/
theorem at_if {p : Method} (hn : nested p [] = true) {i : Nat} {c : List Test} (hi : p[i]? = some (.if_ c)) : ∃ k o, i < k ∧ p[k]? = some .end_ ∧ openIn p k = o :: openIn p i ∧ o.at_ = i ∧ o.wh = false ∧
    (otherwise_ p i = match o.el with | some e => e + 1 | none => k + 1) := by
  have hlt := (List.getElem?_eq_some_iff.mp hi).1
  have e1 := openIn_succ hi
  obtain ⟨k, o, b1, b2, b3, b4, b5, _⟩ := closes hn _ (i + 1) [] ⟨i, false, none⟩ (openIn p i) (Nat.le_refl _) hlt e1
  obtain ⟨o', s, c1, _, _, _, c5, _⟩ := at_end hn b2
  rw [b3] at c1
  obtain ⟨rfl, rfl⟩ := List.cons.inj c1
  rw [b4] at c5
  exact ⟨k, o, by omega, b2, b3, b4, b5, c5⟩
theorem at_while {p : Method} (hn : nested p [] = true) {i : Nat} {c : List Test} (hi : p[i]? = some (.while_ c)) : ∃ k o, i < k ∧ p[k]? = some .end_ ∧ openIn p k = o :: openIn p i ∧ o.at_ = i ∧ o.wh = true ∧
    behindEnd p i = k + 1 := by
  have hlt := (List.getElem?_eq_some_iff.mp hi).1
  have e1 := openIn_succ hi
  obtain ⟨k, o, b1, b2, b3, b4, b5, _⟩ := closes hn _ (i + 1) [] ⟨i, true, none⟩ (openIn p i) (Nat.le_refl _) hlt e1
  obtain ⟨o', s, c1, _, _, c4, _⟩ := at_end hn b2
  rw [b3] at c1
  obtain ⟨rfl, rfl⟩ := List.cons.inj c1
  rw [b4] at c4
  exact ⟨k, o, by omega, b2, b3, b4, b5, c4⟩
theorem at_else {p : Method} (hn : nested p [] = true) {i : Nat} (hi : p[i]? = some .else_) : ∃ k o s u, i < k ∧ p[k]? = some .end_ ∧ openIn p i = u :: s ∧ u.wh = false ∧ u.el = none ∧ openIn p k = o :: s ∧ o.at_ = u.at_ ∧ o.wh = false ∧ o.el = some i ∧
    behindEnd p i = k + 1 := by
  have hlt := (List.getElem?_eq_some_iff.mp hi).1
  have e1 := openIn_succ hi
  obtain ⟨g, nn⟩ := walk hn i (Nat.le_of_lt hlt)
  rw [List.drop_eq_getElem_cons hlt] at nn
  obtain ⟨hm, _⟩ := nested_cons nn
  rw [(List.getElem?_eq_some_iff.mp hi).2] at hm
  obtain ⟨r, hr⟩ := hm
  cases hs : openIn p i with
  | nil => rw [hs] at hr; cases hr
  | cons u s =>
    rw [hs] at hr e1
    have hc : code u = 1 := (List.cons.inj hr).1
    have hw : u.wh = false := by
      unfold code at hc
      split at hc
      · cases hc
      · rename_i hh
        simpa using hh
    obtain ⟨k, o, b1, b2, b3, b4, b5, b6⟩ := closes hn _ (i + 1) [] { u with el := some i } s (Nat.le_refl _) hlt e1
    obtain ⟨o', s', c1, _, _, _, _, c6, _⟩ := at_end hn b2
    rw [b3] at c1
    obtain ⟨rfl, rfl⟩ := List.cons.inj c1
    have he := b6 i rfl
    exact ⟨k, o, s, u, by omega, b2, rfl, hw, code_one hc, b3, b4, b5.trans hw, he, (c6 i he).2.2.2⟩
end AbJ

set_option linter.all false
namespace AbJ
open Na
/-- the line that opened it last -/
def last (o : Op) : Nat := o.el.getD o.at_
/-- where a line goes on, if that isn't the next one -/
def goalOf (p : Method) (i : Nat) : Nat := match p[i]? with
  | some (.if_ _) => otherwise_ p i
  | some (.while_ _) => behindEnd p i
  | some .else_ => behindEnd p i
  | some .end_ => ending p i
  | _ => i + 1
structure GInv (p : Method) (j : Nat) (gs : List Nat) : Prop where
  len : gs.length = j
  at_ : ∀ i, i < j → (∃ o ∈ openIn p j, last o = i) ∨ gs[i]? = some (goalOf p i)
theorem g_start (p : Method) : GInv p 0 [] := ⟨rfl, fun i h => absurd h (Nat.not_lt_zero _)⟩
theorem g_plain {p : Method} {j : Nat} {gs : List Nat} {l : Line} (g : GInv p j gs) (h : p[j]? = some l) (ho : stepOp j (openIn p j) l = openIn p j) (hg : goalOf p j = j + 1) : GInv p (j + 1) (gs ++ [j + 1]) := by
  have hl := g.len
  refine ⟨by simp [hl], fun i hi => ?_⟩
  rw [openIn_succ h, ho]
  by_cases e : i = j
  · right
    rw [e, hg, ← hl, List.getElem?_append_right (Nat.le_refl _)]
    simp
  · rcases g.at_ i (by omega) with h1 | h1
    · exact .inl h1
    · right
      rw [List.getElem?_append_left (by omega)]
      exact h1
theorem g_open {p : Method} {j : Nat} {gs : List Nat} {l : Line} {o : Op} (g : GInv p j gs) (h : p[j]? = some l) (ho : stepOp j (openIn p j) l = o :: openIn p j) (hg : last o = j) : GInv p (j + 1) (gs ++ [j + 1]) := by
  have hl := g.len
  refine ⟨by simp [hl], fun i hi => ?_⟩
  rw [openIn_succ h, ho]
  by_cases e : i = j
  · exact .inl ⟨o, List.mem_cons_self, by rw [hg, e]⟩
  · rcases g.at_ i (by omega) with ⟨o', h1, h2⟩ | h1
    · exact .inl ⟨o', List.mem_cons_of_mem _ h1, h2⟩
    · right
      rw [List.getElem?_append_left (by omega)]
      exact h1
theorem open_held {p : Method} (hn : nested p [] = true) {j : Nat} (hj : j ≤ p.length) {o : Op} {s : List Op} (e : openIn p j = o :: s) : o.at_ < j ∧ (o.wh = true ∧ (∃ c, p[o.at_]? = some (.while_ c)) ∨ (o.wh = false ∧ ∃ c, p[o.at_]? = some (.if_ c))) ∧ ∀ x, o.el = some x → x < j ∧ p[x]? = some .else_ := by
  have g := (walk hn j hj).1
  have h := g 0 o (by rw [e]; rfl)
  have hl : (p.take j).length = j := by rw [List.length_take]; omega
  have up : ∀ {i : Nat} {x : Line}, (p.take j)[i]? = some x → p[i]? = some x := fun {i x} z => by
    rw [List.getElem?_take] at z
    split at z
    · exact z
    · cases z
  have hlt := h.lt
  rw [hl] at hlt
  refine ⟨hlt, ?_, fun x hx => ?_⟩
  · rcases h.kind with ⟨a, c, b⟩ | ⟨a, c, b⟩
    · exact .inl ⟨a, c, up b⟩
    · exact .inr ⟨a, c, up b⟩
  · obtain ⟨_, h2, h3, _⟩ := h.elt x hx
    rw [hl] at h2
    exact ⟨h2, up h3⟩
theorem g_else {p : Method} (hn : nested p [] = true) {j : Nat} {gs : List Nat} (g : GInv p j gs) (h : p[j]? = some .else_) : ∃ u s, openIn p j = u :: s ∧ last u < j ∧ (∃ c, p[last u]? = some (.if_ c)) ∧ openIn p (j + 1) = { u with el := some j } :: s ∧ GInv p (j + 1) ((gs ++ [j + 1]).set (last u) (j + 1)) := by
  have hl := g.len
  have hlt := (List.getElem?_eq_some_iff.mp h).1
  obtain ⟨k, o, s, u, hk, hend, eo, hw, hel, ek, eat, how, hoel, _⟩ := at_else hn h
  obtain ⟨o', s', c1, _, _, _, c5, _⟩ := at_end hn hend
  rw [ek] at c1
  obtain ⟨rfl, rfl⟩ := List.cons.inj c1
  rw [hoel, eat] at c5
  have eu : last u = u.at_ := by unfold last; rw [hel]; rfl
  obtain ⟨hu1, hu2, _⟩ := open_held hn (Nat.le_of_lt hlt) eo
  have hif : ∃ c, p[u.at_]? = some (.if_ c) := by
    rcases hu2 with ⟨a, _⟩ | ⟨_, b⟩
    · rw [hw] at a; cases a
    · exact b
  have e1 : openIn p (j + 1) = { u with el := some j } :: s := by rw [openIn_succ h, eo]; rfl
  refine ⟨u, s, eo, by rw [eu]; exact hu1, by rw [eu]; exact hif, e1, by simp [hl], fun i hi => ?_⟩
  rw [e1, eu]
  by_cases e : i = j
  · exact .inl ⟨_, List.mem_cons_self, by rw [e]; rfl⟩
  · by_cases e2 : i = u.at_
    · right
      obtain ⟨c, hc⟩ := hif
      have hg : goalOf p i = j + 1 := by
        unfold goalOf
        rw [e2, hc]
        exact c5
      rw [hg, e2, List.getElem?_set_self (by simp; omega)]
    · rw [List.getElem?_set_ne (fun z => e2 z.symm)]
      rcases g.at_ i (by omega) with ⟨o', h1, h2⟩ | h1
      · rw [eo] at h1
        rcases List.mem_cons.mp h1 with h1 | h1
        · rw [h1, eu] at h2
          exact absurd h2.symm e2
        · exact .inl ⟨o', List.mem_cons_of_mem _ h1, h2⟩
      · right
        rw [List.getElem?_append_left (by omega)]
        exact h1
theorem g_end {p : Method} (hn : nested p [] = true) {j : Nat} {gs : List Nat} (g : GInv p j gs) (h : p[j]? = some .end_) : ∃ o s, openIn p j = o :: s ∧ last o < j ∧ openIn p (j + 1) = s ∧ (o.wh = true → last o = o.at_ ∧ (∃ c, p[last o]? = some (.while_ c))) ∧ (o.wh = false → (∃ c, p[last o]? = some (.if_ c)) ∨ p[last o]? = some .else_) ∧
    GInv p (j + 1) (if o.wh = true then ((gs ++ [j + 1]).set (last o) (j + 1)).set j (last o) else (gs ++ [j + 1]).set (last o) (j + 1)) := by
  have hl := g.len
  have hlt := (List.getElem?_eq_some_iff.mp h).1
  obtain ⟨o, s, eo, hat, hkind, c4, c5, c6, c7⟩ := at_end hn h
  have e1 : openIn p (j + 1) = s := by rw [openIn_succ h, eo]; rfl
  obtain ⟨_, _, hel⟩ := open_held hn (Nat.le_of_lt hlt) eo
  have hlast : last o < j := by
    unfold last
    cases he : o.el with
    | none => exact hat
    | some x => exact (hel x he).1
  have hwel : o.wh = true → o.el = none := fun hw => by
    cases he : o.el with
    | none => rfl
    | some x =>
      exfalso
      -- a while has no else
      have hmay : ∀ n, n ≤ p.length → ∀ q ∈ openIn p n, q.wh = true → q.el = none := by
        intro n
        induction n with
        | zero =>
          intro _ q hq
          cases hq
        | succ n ih =>
          intro hn2 q hq hqw
          have hg : p[n]? = some p[n] := List.getElem?_eq_getElem hn2
          rw [openIn_succ hg] at hq
          have ih' := ih (by omega)
          generalize hl2 : p[n] = l at hg hq
          cases l with
          | if_ c =>
            rcases List.mem_cons.mp hq with e | e
            · rw [e]
            · exact ih' q e hqw
          | while_ c =>
            rcases List.mem_cons.mp hq with e | e
            · rw [e]
            · exact ih' q e hqw
          | else_ =>
            obtain ⟨k, o2, s2, u2, _, _, eo2, hw2, _⟩ := at_else hn hg
            rw [eo2] at hq
            rcases List.mem_cons.mp hq with e | e
            · rw [e] at hqw
              rw [hw2] at hqw
              cases hqw
            · exact ih' q (by rw [eo2]; exact List.mem_cons_of_mem _ e) hqw
          | end_ => exact ih' q (List.mem_of_mem_tail hq) hqw
          | add _ _ => exact ih' q hq hqw
          | take _ _ => exact ih' q hq hqw
          | set _ _ => exact ih' q hq hqw
          | halt_ => exact ih' q hq hqw
          | fail => exact ih' q hq hqw
      have := hmay j (Nat.le_of_lt hlt) o (by rw [eo]; exact List.mem_cons_self) hw
      rw [this] at he
      cases he
  have hgl : goalOf p (last o) = j + 1 := by
    cases he : o.el with
    | some x =>
      have hh : last o = x := by unfold last; rw [he]; rfl
      have h3 := c6 x he
      rw [hh]
      unfold goalOf
      rw [h3.2.2.1]
      exact h3.2.2.2
    | none =>
      have hh : last o = o.at_ := by unfold last; rw [he]; rfl
      rw [he] at c5
      rw [hh]
      unfold goalOf
      rcases hkind with ⟨_, c, hc⟩ | ⟨_, c, hc⟩
      · rw [hc]
        exact c4
      · rw [hc]
        exact c5
  have hge : goalOf p j = ending p j := by
    unfold goalOf
    rw [h]
  refine ⟨o, s, eo, hlast, e1, fun hw => ?_, fun hw => ?_, ?_⟩
  · have e : last o = o.at_ := by unfold last; rw [hwel hw]; rfl
    refine ⟨e, ?_⟩
    rw [e]
    rcases hkind with ⟨_, hc⟩ | ⟨a, _⟩
    · exact hc
    · rw [hw] at a; cases a
  · unfold last
    cases he : o.el with
    | some x => exact .inr (hel x he).2
    | none =>
      left
      rcases hkind with ⟨a, _⟩ | ⟨_, hc⟩
      · rw [hw] at a; cases a
      · exact hc
  · have base : ∀ i, i < j → (∃ o' ∈ s, last o' = i) ∨ ((gs ++ [j + 1]).set (last o) (j + 1))[i]? = some (goalOf p i) := fun i hi => by
      by_cases e2 : i = last o
      · right
        rw [e2, hgl, List.getElem?_set_self (by simp; omega)]
      · rw [List.getElem?_set_ne (fun z => e2 z.symm)]
        rcases g.at_ i hi with ⟨o', h1, h2⟩ | h1
        · rw [eo] at h1
          rcases List.mem_cons.mp h1 with h1 | h1
          · rw [h1] at h2
            exact absurd h2.symm e2
          · exact .inl ⟨o', h1, h2⟩
        · right
          rw [List.getElem?_append_left (by omega)]
          exact h1
    cases hw : o.wh with
    | true =>
      rw [if_pos rfl]
      refine ⟨by simp [hl], fun i hi => ?_⟩
      rw [e1]
      by_cases e : i = j
      · right
        have elast : last o = o.at_ := by unfold last; rw [hwel hw]; rfl
        rw [hw, if_pos rfl] at c7
        rw [e, hge, c7, elast, List.getElem?_set_self (by simp; omega)]
      · rw [List.getElem?_set_ne (fun z => e z.symm)]
        exact base i (by omega)
    | false =>
      rw [if_neg Bool.false_ne_true]
      refine ⟨by simp [hl], fun i hi => ?_⟩
      rw [e1]
      by_cases e : i = j
      · right
        rw [hw, if_neg Bool.false_ne_true] at c7
        rw [e, hge, c7, List.getElem?_set_ne (by omega), ← hl, List.getElem?_append_right (Nat.le_refl _)]
        simp
      · exact base i (by omega)
/-- all lines gone through -/
theorem g_fin {p : Method} (hn : nested p [] = true) {gs : List Nat} (g : GInv p p.length gs) : gs.length = p.length ∧ ∀ i, i < p.length → gs[i]? = some (goalOf p i) := by
  refine ⟨g.len, fun i hi => ?_⟩
  have h := (walk hn p.length (Nat.le_refl _)).2
  rw [List.drop_length] at h
  have e : openIn p p.length = [] := by
    have h2 : (codes (openIn p p.length)).isEmpty = true := h
    cases ho : openIn p p.length with
    | nil => rfl
    | cons a b => rw [ho] at h2; cases h2
  rcases g.at_ i hi with ⟨o, h1, _⟩ | h1
  · rw [e] at h1; cases h1
  · exact h1
end AbJ

set_option Elab.async false
set_option linter.all false
set_option maxRecDepth 100000
set_option maxHeartbeats 4000000
namespace Ab
open PySem PySem.Spec PyProof.Rows L2 AbM AbJ
open Na (Bytes held Cmp)
abbrev natV (l : List Nat) : List V := l.map fun n => V.int ((n : Nat) : Int)
/-- the lines that are open, the innermost last -/
abbrev bgV (s : List Op) : List V := natV (s.map last).reverse
theorem bgV_cons (o : Op) (s : List Op) : bgV (o :: s) = bgV s ++ [V.int ((last o : Nat) : Int)] := by simp [bgV, natV]
theorem bgV_last (o : Op) (s : List Op) : atI (bgV (o :: s)) (-1) = some (V.int ((last o : Nat) : Int)) := by
  rw [bgV_cons]
  exact atI_last _ _
theorem bgV_lastQ (o : Op) (s : List Op) : (bgV (o :: s))[(bgV (o :: s)).length - 1]? = some (V.int ((last o : Nat) : Int)) := by
  rw [bgV_cons]
  simp
theorem ixN_n {n j : Nat} (hj : j < n) : ixN n ((j : Nat) : Int) = some j := by
  unfold ixN
  rw [if_pos (by omega), if_pos (by omega)]
  simp
theorem natV_snoc (l : List Nat) (n : Nat) : natV l ++ [V.int ((n : Nat) : Int)] = natV (l ++ [n]) := by simp [natV]
theorem natV_set (l : List Nat) (i n : Nat) : (natV l).set i (V.int ((n : Nat) : Int)) = natV (l.set i n) := by simp [natV]
theorem natV_len (l : List Nat) : (natV l).length = l.length := List.length_map _
/-- a line that opens something, an else as well -/
def pushes : Na.Line → Bool
  | .if_ _ => true
  | .while_ _ => true
  | .else_ => true
  | _ => false
def spFG (K : PySem.W.Frag) : Sp := fun vs H Q _ => ∃ (D : Addr) (us : List V) (N : Addr → Prop) (p : Na.Method), vs = [.ref D] ∧ H D = some (.lst us) ∧ All2 (LineN N H) us p ∧ p.length ≤ 5000 ∧ Na.nested p [] = true ∧
  ∀ (H' : Hp) (G : Addr), Same H H' → H G = none → H' G = some (.lst (natV ((List.range p.length).map (goalOf p)))) → Q (.ref G) H'
section
variable {P : Program} {w : World} {K : PySem.W.Frag} {mg : Str → Option Value} {base : Heap} {CK fKI : Addr}
theorem scFG : FnScope ["lines", "goals", "begun", "line", "told", "word"] ["lines"] (defScope sFG) := ⟨rfl, rfl, rfl, by decide +kernel, rfl, by decide +kernel, by decide +kernel⟩
theorem ok_FG {f : Addr} {fd : FuncData} (F : Fun K "find_goals" "find_goals" sFG f fd) (en : mg "enumerate" = none) : FnOk P w K mg base CX0 1 f fd ["lines"] (spFG K) := by
  refine F.ok scFG (fun vs H Q E h => ?_) (fun cdv A outer s H vs Q E hr h => ?_)
  · obtain ⟨D, us, N, p, rfl, _⟩ := h
    rfl
  · obtain ⟨D, us, N, p, rfl, hD, hls, hp, hn, q⟩ := h
    refine ⟨_, pss_cons (ps_set (i := 1) scFG.nd rfl (Or.inl rfl) (pe_lst pa_nil))
      (pss_cons (ps_set (i := 2) scFG.nd rfl (Or.inl rfl) (pe_lst pa_nil))
      (pss_cons (ps_for PassesOwn.never rfl (pi_enum (by rfl) en (pa_cons (pv 0) pa_nil)) (pg_tup rfl (pgs_cons (pg_name (i := 3) scFG.nd rfl (Or.inl rfl)) (pgs_cons (pg_name (i := 4) scFG.nd rfl (Or.inl rfl)) pgs_nil)))
        (pss_cons (ps_set (i := 5) scFG.nd rfl (Or.inl rfl) (pe_ix ix_tup (pv 4) pe_int (fun _ _ => rfl)))
        (pss_cons (ps_expr (pe_bm PySem.F.plainAttrs_list PySem.F.slot_list_append PySem.F.type_list_append mt_append (pv 1) (pa_cons (pe_op op_add (pv 3) pe_int) pa_nil)))
        (C8.pss_cut (ps_if (PW.pt (pw_or (pt_cmpR op_eq (pv 5) pe_str (nomark _)) (pw_or1 (pt_cmpR op_eq (pv 5) pe_str (nomark _)))))
          (pss_cons (ps_asg (pe_op op_add (pv 3) pe_int) (pg_sub (pv 1) (pe_ix ix_list (pv 2) (pe_un un_neg pe_int) (fun _ _ => rfl)) set_list))
          (pss_cons (ps_if (pt_cmpR op_eq (pe_ix ix_tup (pe_ix ix_list (pv 0) (pe_ix ix_list (pv 2) (pe_un un_neg pe_int) (fun _ _ => rfl)) (fun _ _ => rfl)) pe_int (fun _ _ => rfl)) pe_str (nomark _))
            (pss_one (ps_asg (pe_ix ix_list (pv 2) (pe_un un_neg pe_int) (fun _ _ => rfl)) (pg_sub (pv 1) (pv 3) set_list))) pss_nil)
          (pss_one (ps_expr (pe_bm0 PySem.F.plainAttrs_list PySem.F.slot_list_pop PySem.F.type_list_pop mt_pop (pv 2)))))) pss_nil)
        (pss_one (ps_if (PW.pt (pw_or (pt_cmpR op_eq (pv 5) pe_str (nomark _)) (pw_or (pt_cmpR op_eq (pv 5) pe_str (nomark _)) (pw_or1 (pt_cmpR op_eq (pv 5) pe_str (nomark _))))))
          (pss_one (ps_expr (pe_bm PySem.F.plainAttrs_list PySem.F.slot_list_append PySem.F.type_list_append mt_append (pv 2) (pa_cons (pv 3) pa_nil)))) pss_nil))))))
      (pss_one (ps_ret (pv 1))))), ?_⟩
    refine ⟨Nat.zero_le _, fun G nG => ⟨Nat.zero_le _, fun B nB => ?_⟩⟩
    have nBG : B ≠ G := fun z => by rw [z, upd_same] at nB; cases nB
    have nBH : H B = none := by rw [upd_ne nBG] at nB; exact nB
    have upG : ∀ {H1 : Hp} {o : HO}, Same H H1 → Same H (upd H1 G o) := fun h b u e => by
      rw [upd_ne (ne_of_none e nG)]
      exact h b u e
    have upB : ∀ {H1 : Hp} {o : HO}, Same H H1 → Same H (upd H1 B o) := fun h b u e => by
      rw [upd_ne (ne_of_none e nBH)]
      exact h b u e
    have hul : us.length = p.length := hls.len
    refine ⟨_, rfl, D, us, rfl, SqL.of ((upB (upG (Same.refl H))) _ _ hD), for_it (walk_enum (xs := us)) (fun i σ' H1 => ∃ (gs : List Nat) (v3 v4 v5 : Option V), σ' = [some (.ref D), some (.ref G), some (.ref B), v3, v4, v5] ∧ Same H H1 ∧ H1 G = some (.lst (natV gs)) ∧ H1 B = some (.lst (bgV (openIn p i))) ∧ GInv p i gs ∧ (openIn p i).length ≤ i)
      ⟨[], _, _, _, rfl, upB (upG (Same.refl H)), by rw [upd_ne (Ne.symm nBG), upd_same]; rfl, by rw [upd_same]; rfl, g_start p, Nat.le_refl _⟩ (fun i σ' H1 _ ⟨gs, v3, v4, v5, _, sm, _⟩ => SqL.of (sm _ _ hD)) ?_ ?_⟩
    · rintro i y σ' H1 H2 hi ⟨gs, v3, v4, v5, rfl, sm, eG, eB, gi, ho⟩ hy
      obtain ⟨Tq, c1, c2, rfl, nT, rfl, hc1, hc2⟩ := hy
      cases hc1
      obtain ⟨l, hl, LT, LP, lus, rfl, nLT, eLT, nLP, eLP, ps⟩ := hls.at' hc2
      have hi5 : i < 5000 := by omega
      have sm2 : Same H (upd H1 Tq (.tup [.int (i : Nat), .ref LT])) := sm.trans (same_upd nT)
      have eG2 : (upd H1 Tq (.tup [.int (i : Nat), .ref LT])) G = some (.lst (natV gs)) := same_upd nT _ _ eG
      have eB2 : (upd H1 Tq (.tup [.int (i : Nat), .ref LT])) B = some (.lst (bgV (openIn p i))) := same_upd nT _ _ eB
      refine ⟨Tq, _, rfl, SqT.of upd_same, rfl, _, _, rfl, _, _, rfl, rfl, ?_⟩
      generalize upd H1 Tq (.tup [.int (i : Nat), .ref LT]) = H2 at sm2 eG2 eB2
      refine ⟨_, rfl, LT, _, _, _, rfl, rfl, SqT.of (sm2 _ _ eLT), rfl, ?_⟩
      refine ⟨_, rfl, .inl ⟨rfl, _, SqL.of eG2⟩, _, rfl, _, _, rfl, rfl, G, _, _, rfl, rfl, eG2, small5 (by rw [natV_len, gi.len]; omega), ?_⟩
      have e3 : natV gs ++ [V.int ((i : Int) + 1)] = natV (gs ++ [i + 1]) := natV_snoc gs (i + 1)
      have sm3 : Same H (upd H2 G (.lst (natV gs ++ [V.int ((i : Int) + 1)]))) := upG sm2
      have eG3 : (upd H2 G (.lst (natV gs ++ [V.int ((i : Int) + 1)]))) G = some (.lst (natV (gs ++ [i + 1]))) := by rw [upd_same, e3]
      have eB3 : (upd H2 G (.lst (natV gs ++ [V.int ((i : Int) + 1)]))) B = some (.lst (bgV (openIn p i))) := by rw [upd_ne nBG]; exact eB2
      have hlen3 : (natV (gs ++ [i + 1])).length = i + 1 := by rw [natV_len, List.length_append, gi.len]; rfl
      generalize upd H2 G (.lst (natV gs ++ [V.int ((i : Int) + 1)])) = H3 at sm3 eG3 eB3
      refine ⟨fun σ' H' => ∃ (gs' : List Nat) (s' : List Op), σ' = [some (.ref D), some (.ref G), some (.ref B), some (.int ((i : Nat) : Int)), some (.ref LT), some (stV (nameOf l))] ∧ Same H H' ∧ H' G = some (.lst (natV gs')) ∧ H' B = some (.lst (bgV s')) ∧ GInv p (i + 1) gs' ∧ s'.length ≤ i ∧
        (pushes l = true → bgV (openIn p (i + 1)) = bgV s' ++ [V.int ((i : Nat) : Int)] ∧ (openIn p (i + 1)).length = s'.length + 1) ∧ (pushes l = false → openIn p (i + 1) = s'), ?_, ?_⟩
      · refine ⟨_, rfl, rfl, _, rfl, ?_⟩
        have plain : stepOp i (openIn p i) l = openIn p i → goalOf p i = i + 1 → pushes l = false → ∃ (gs' : List Nat) (s' : List Op), [some (V.ref D), some (.ref G), some (.ref B), some (.int ((i : Nat) : Int)), some (.ref LT), some (stV (nameOf l))] = [some (V.ref D), some (.ref G), some (.ref B), some (.int ((i : Nat) : Int)), some (.ref LT), some (stV (nameOf l))] ∧ Same H H3 ∧ H3 G = some (.lst (natV gs')) ∧ H3 B = some (.lst (bgV s')) ∧ GInv p (i + 1) gs' ∧ s'.length ≤ i ∧
            (pushes l = true → bgV (openIn p (i + 1)) = bgV s' ++ [V.int ((i : Nat) : Int)] ∧ (openIn p (i + 1)).length = s'.length + 1) ∧ (pushes l = false → openIn p (i + 1) = s') := fun h1 h2 h3 =>
          ⟨gs ++ [i + 1], openIn p i, rfl, sm3, eG3, eB3, g_plain gi hl h1 h2, ho, fun z => (by rw [h3] at z; cases z), fun _ => by rw [openIn_succ hl, h1]⟩
        have opens : ∀ o, stepOp i (openIn p i) l = o :: openIn p i → last o = i → pushes l = true → ∃ (gs' : List Nat) (s' : List Op), [some (V.ref D), some (.ref G), some (.ref B), some (.int ((i : Nat) : Int)), some (.ref LT), some (stV (nameOf l))] = [some (V.ref D), some (.ref G), some (.ref B), some (.int ((i : Nat) : Int)), some (.ref LT), some (stV (nameOf l))] ∧ Same H H3 ∧ H3 G = some (.lst (natV gs')) ∧ H3 B = some (.lst (bgV s')) ∧ GInv p (i + 1) gs' ∧ s'.length ≤ i ∧
            (pushes l = true → bgV (openIn p (i + 1)) = bgV s' ++ [V.int ((i : Nat) : Int)] ∧ (openIn p (i + 1)).length = s'.length + 1) ∧ (pushes l = false → openIn p (i + 1) = s') := fun o h1 h2 h3 =>
          ⟨gs ++ [i + 1], openIn p i, rfl, sm3, eG3, eB3, g_open gi hl h1 h2, ho, fun _ => by rw [openIn_succ hl, h1, bgV_cons, h2]; exact ⟨rfl, rfl⟩, fun z => by rw [h3] at z; cases z⟩
        have goal1 : (∀ c, l ≠ .if_ c) → (∀ c, l ≠ .while_ c) → l ≠ .else_ → l ≠ .end_ → goalOf p i = i + 1 := fun h1 h2 h3 h4 => by
          unfold goalOf
          rw [hl]
          cases l with
          | if_ c => exact absurd rfl (h1 c)
          | while_ c => exact absurd rfl (h2 c)
          | else_ => exact absurd rfl h3
          | end_ => exact absurd rfl h4
          | add _ _ => rfl
          | take _ _ => rfl
          | set _ _ => rfl
          | halt_ => rfl
          | fail => rfl
        have eix : ∀ k, k < i → ixN (natV (gs ++ [i + 1])).length ((k : Nat) : Int) = some k := fun k hk => ixN_n (by rw [hlen3]; omega)
        cases l with
        | add _ _ => exact if_false_of (by rfl) ⟨_, rfl, rfl, _, rfl, if_false_of (by rfl) (plain rfl (goal1 (fun c z => nomatch z) (fun c z => nomatch z) (fun z => nomatch z) (fun z => nomatch z)) rfl)⟩
        | take _ _ => exact if_false_of (by rfl) ⟨_, rfl, rfl, _, rfl, if_false_of (by rfl) (plain rfl (goal1 (fun c z => nomatch z) (fun c z => nomatch z) (fun z => nomatch z) (fun z => nomatch z)) rfl)⟩
        | set _ _ => exact if_false_of (by rfl) ⟨_, rfl, rfl, _, rfl, if_false_of (by rfl) (plain rfl (goal1 (fun c z => nomatch z) (fun c z => nomatch z) (fun z => nomatch z) (fun z => nomatch z)) rfl)⟩
        | halt_ => exact if_false_of (by rfl) ⟨_, rfl, rfl, _, rfl, if_false_of (by rfl) (plain rfl (goal1 (fun c z => nomatch z) (fun c z => nomatch z) (fun z => nomatch z) (fun z => nomatch z)) rfl)⟩
        | fail => exact if_false_of (by rfl) ⟨_, rfl, rfl, _, rfl, if_false_of (by rfl) (plain rfl (goal1 (fun c z => nomatch z) (fun c z => nomatch z) (fun z => nomatch z) (fun z => nomatch z)) rfl)⟩
        | if_ c => exact if_false_of (by rfl) ⟨_, rfl, rfl, _, rfl, if_false_of (by rfl) (opens ⟨i, false, none⟩ rfl rfl rfl)⟩
        | while_ c => exact if_false_of (by rfl) ⟨_, rfl, rfl, _, rfl, if_false_of (by rfl) (opens ⟨i, true, none⟩ rfl rfl rfl)⟩
        | else_ =>
          obtain ⟨u, s, eo, hlt, ⟨c, hif⟩, e1, g'⟩ := g_else hn gi hl
          rw [eo] at eB3 ho
          obtain ⟨_, hul2, LT2, LP2, lus2, rfl, _, eLT2, _, _, _⟩ := hls.at hif
          refine if_true_of (by rfl) ?_
          refine ⟨_, rfl, _, _, rfl, rfl, _, rfl, _, rfl, _, rfl, B, _, _, _, rfl, rfl, SqL.of eB3, bgV_last u s, G, _, _, _, rfl, rfl, eG3, eix _ hlt, ?_⟩
          have e4 : (natV (gs ++ [i + 1])).set (last u) (V.int ((i : Int) + 1)) = natV ((gs ++ [i + 1]).set (last u) (i + 1)) := natV_set _ _ (i + 1)
          rw [e4]
          have eB4 : ∀ o, (upd H3 G o) B = some (.lst (bgV (u :: s))) := fun o => by rw [upd_ne nBG]; exact eB3
          refine ⟨_, rfl, _, rfl, _, rfl, B, _, _, _, rfl, rfl, SqL.of (eB4 _), bgV_last u s, D, _, _, _, rfl, rfl, SqL.of ((upG sm3) _ _ hD), atI_nat hul2, LT2, _, _, _, rfl, rfl, SqT.of ((upG sm3) _ _ eLT2), rfl, rfl, _, rfl, if_false_of (by rfl) ?_⟩
          refine ⟨_, rfl, .inl ⟨rfl, _, SqL.of (eB4 _)⟩, B, _, _, rfl, rfl, eB4 _, bgV_lastQ _ _, ?_⟩
          refine ⟨_, s, rfl, upB (upG sm3), by rw [upd_ne (Ne.symm nBG), upd_same], ?_, g', by rw [List.length_cons] at ho; omega, fun _ => ?_, fun z => nomatch z⟩
          · rw [upd_same, bgV_cons, List.dropLast_concat]
          · rw [e1, bgV_cons]
            exact ⟨rfl, rfl⟩
        | end_ =>
          obtain ⟨o, s, eo, hlt, e1, hw1, hw0, g'⟩ := g_end hn gi hl
          rw [eo] at eB3 ho
          refine if_false_of (by rfl) ⟨_, rfl, rfl, _, rfl, if_true_of (by rfl) ?_⟩
          refine ⟨_, rfl, _, _, rfl, rfl, _, rfl, _, rfl, _, rfl, B, _, _, _, rfl, rfl, SqL.of eB3, bgV_last o s, G, _, _, _, rfl, rfl, eG3, eix _ hlt, ?_⟩
          have e4 : (natV (gs ++ [i + 1])).set (last o) (V.int ((i : Int) + 1)) = natV ((gs ++ [i + 1]).set (last o) (i + 1)) := natV_set _ _ (i + 1)
          rw [e4]
          have eB4 : ∀ u, (upd H3 G u) B = some (.lst (bgV (o :: s))) := fun u => by rw [upd_ne nBG]; exact eB3
          have hlo : ∃ l2, p[last o]? = some l2 := by
            cases hw : o.wh with
            | true => obtain ⟨_, c, h⟩ := hw1 hw; exact ⟨_, h⟩
            | false =>
              rcases hw0 hw with ⟨c, h⟩ | h
              · exact ⟨_, h⟩
              · exact ⟨_, h⟩
          obtain ⟨l2, hl2⟩ := hlo
          obtain ⟨_, hul2, LT2, LP2, lus2, rfl, _, eLT2, _, _, _⟩ := hls.at hl2
          refine ⟨_, rfl, _, rfl, _, rfl, B, _, _, _, rfl, rfl, SqL.of (eB4 _), bgV_last o s, D, _, _, _, rfl, rfl, SqL.of ((upG sm3) _ _ hD), atI_nat hul2, LT2, _, _, _, rfl, rfl, SqT.of ((upG sm3) _ _ eLT2), rfl, rfl, _, rfl, ?_⟩
          cases hw : o.wh with
          | true =>
            obtain ⟨hat, c, h⟩ := hw1 hw
            rw [hl2] at h
            cases h
            rw [hw, if_pos rfl] at g'
            refine if_true_of (by rfl) ?_
            have eixi : ixN (natV ((gs ++ [i + 1]).set (last o) (i + 1))).length ((i : Nat) : Int) = some i := ixN_n (by rw [natV_len, List.length_set, List.length_append, gi.len]; simp)
            refine ⟨_, rfl, _, rfl, B, _, _, _, rfl, rfl, SqL.of (eB4 _), bgV_last o s, _, rfl, _, rfl, G, _, _, _, rfl, rfl, upd_same, eixi, ?_⟩
            rw [natV_set, upd_upd]
            refine ⟨_, rfl, .inl ⟨rfl, _, SqL.of (eB4 _)⟩, B, _, _, rfl, rfl, eB4 _, bgV_lastQ _ _, ?_⟩
            refine ⟨_, s, rfl, upB (upG sm3), by rw [upd_ne (Ne.symm nBG), upd_same], ?_, g', by rw [List.length_cons] at ho; omega, fun z => (nomatch z), fun _ => e1⟩
            rw [upd_same, bgV_cons, List.dropLast_concat]
          | false =>
            rw [hw, if_neg Bool.false_ne_true] at g'
            refine if_false_of ?_ ?_
            · rcases hw0 hw with ⟨c, h⟩ | h
              · rw [hl2] at h
                cases h
                rfl
              · rw [hl2] at h
                cases h
                rfl
            refine ⟨_, rfl, .inl ⟨rfl, _, SqL.of (eB4 _)⟩, B, _, _, rfl, rfl, eB4 _, bgV_lastQ _ _, ?_⟩
            refine ⟨_, s, rfl, upB (upG sm3), by rw [upd_ne (Ne.symm nBG), upd_same], ?_, g', by rw [List.length_cons] at ho; omega, fun z => (nomatch z), fun _ => e1⟩
            rw [upd_same, bgV_cons, List.dropLast_concat]
      · rintro σ' H' ⟨gs', s', rfl, sm', eG', eB', g', hs', hp1, hp0⟩
        have no : pushes l = false → ∃ (gs : List Nat) (v3 v4 v5 : Option V), [some (V.ref D), some (.ref G), some (.ref B), some (.int ((i : Nat) : Int)), some (.ref LT), some (stV (nameOf l))] = [some (.ref D), some (.ref G), some (.ref B), v3, v4, v5] ∧ Same H H' ∧ H' G = some (.lst (natV gs)) ∧ H' B = some (.lst (bgV (openIn p (i + 1)))) ∧ GInv p (i + 1) gs ∧ (openIn p (i + 1)).length ≤ i + 1 := fun h =>
          ⟨gs', _, _, _, rfl, sm', eG', by rw [hp0 h]; exact eB', g', by rw [hp0 h]; omega⟩
        have yes : pushes l = true → (V.ref B = V.ref B ∧ (bgV s').length < sizeLine) ∧ ∃ (gs : List Nat) (v3 v4 v5 : Option V), [some (V.ref D), some (.ref G), some (.ref B), some (.int ((i : Nat) : Int)), some (.ref LT), some (stV (nameOf l))] = [some (.ref D), some (.ref G), some (.ref B), v3, v4, v5] ∧ Same H (upd H' B (.lst (bgV s' ++ [V.int ((i : Nat) : Int)]))) ∧ (upd H' B (.lst (bgV s' ++ [V.int ((i : Nat) : Int)]))) G = some (.lst (natV gs)) ∧ (upd H' B (.lst (bgV s' ++ [V.int ((i : Nat) : Int)]))) B = some (.lst (bgV (openIn p (i + 1)))) ∧ GInv p (i + 1) gs ∧ (openIn p (i + 1)).length ≤ i + 1 := fun h => by
          obtain ⟨h1, h2⟩ := hp1 h
          refine ⟨⟨rfl, small5 (by simp; omega)⟩, gs', _, _, _, rfl, upB sm', by rw [upd_ne (Ne.symm nBG)]; exact eG', by rw [upd_same, h1], g', by omega⟩
        refine ⟨_, rfl, rfl, _, rfl, ?_⟩
        cases l with
        | add _ _ => exact if_false_of (by rfl) ⟨_, rfl, rfl, _, rfl, if_false_of (by rfl) ⟨_, rfl, rfl, _, rfl, if_false_of (by rfl) (no rfl)⟩⟩
        | take _ _ => exact if_false_of (by rfl) ⟨_, rfl, rfl, _, rfl, if_false_of (by rfl) ⟨_, rfl, rfl, _, rfl, if_false_of (by rfl) (no rfl)⟩⟩
        | set _ _ => exact if_false_of (by rfl) ⟨_, rfl, rfl, _, rfl, if_false_of (by rfl) ⟨_, rfl, rfl, _, rfl, if_false_of (by rfl) (no rfl)⟩⟩
        | halt_ => exact if_false_of (by rfl) ⟨_, rfl, rfl, _, rfl, if_false_of (by rfl) ⟨_, rfl, rfl, _, rfl, if_false_of (by rfl) (no rfl)⟩⟩
        | fail => exact if_false_of (by rfl) ⟨_, rfl, rfl, _, rfl, if_false_of (by rfl) ⟨_, rfl, rfl, _, rfl, if_false_of (by rfl) (no rfl)⟩⟩
        | end_ => exact if_false_of (by rfl) ⟨_, rfl, rfl, _, rfl, if_false_of (by rfl) ⟨_, rfl, rfl, _, rfl, if_false_of (by rfl) (no rfl)⟩⟩
        | if_ c =>
          obtain ⟨⟨_, y1⟩, y2⟩ := yes rfl
          exact if_true_of (by rfl) ⟨_, rfl, .inl ⟨rfl, _, SqL.of eB'⟩, _, rfl, B, _, _, rfl, rfl, eB', y1, y2⟩
        | while_ c =>
          obtain ⟨⟨_, y1⟩, y2⟩ := yes rfl
          exact if_false_of (by rfl) ⟨_, rfl, rfl, _, rfl, if_true_of (by rfl) ⟨_, rfl, .inl ⟨rfl, _, SqL.of eB'⟩, _, rfl, B, _, _, rfl, rfl, eB', y1, y2⟩⟩
        | else_ =>
          obtain ⟨⟨_, y1⟩, y2⟩ := yes rfl
          exact if_false_of (by rfl) ⟨_, rfl, rfl, _, rfl, if_false_of (by rfl) ⟨_, rfl, rfl, _, rfl, if_true_of (by rfl) ⟨_, rfl, .inl ⟨rfl, _, SqL.of eB'⟩, _, rfl, B, _, _, rfl, rfl, eB', y1, y2⟩⟩⟩
    · rintro σ' H1 ⟨gs, v3, v4, v5, rfl, sm, eG, eB, gi, ho⟩
      rw [hul] at gi
      obtain ⟨g1, g2⟩ := g_fin hn gi
      refine ⟨_, rfl, q H1 G sm nG ?_⟩
      rw [eG]
      have : gs = (List.range p.length).map (goalOf p) := by
        refine List.ext_getElem? fun i => ?_
        by_cases hi : i < p.length
        · rw [g2 i hi, List.getElem?_map, List.getElem?_range hi]
          rfl
        · rw [List.getElem?_eq_none (by omega), List.getElem?_eq_none (by simp; omega)]
      rw [this]
end
end Ab

set_option Elab.async false
set_option linter.all false
set_option maxRecDepth 100000
set_option maxHeartbeats 2000000
namespace Ab
open PySem PySem.Spec PyProof.Rows L2
/-! ### sum of a tuple of whole numbers -/
def rSumT (K : PySem.W.Frag) : List V → Hp → VK → Prop := fun vs H Q => ∃ (a : Addr) (ns : List Int), vs = [V.ref a] ∧ SqT K H a (ns.map V.int) ∧ Q (.int ns.sum) H
theorem cr_sumT {X : Cx} (hc : X.calm = true) : CallR X (.builtin "sum") (rSumT X.K) := by
  intro pins s σ H vs us Q I r h
  obtain ⟨a, ns, rfl, hs, q⟩ := h
  obtain ⟨its, rv, ht, _⟩ := I.tuple hs
  rw [Vals.ref1 r]
  have hi := rv.ints
  obtain ⟨xs, hx⟩ := hi.allInts.items
  have hn : numsOf (intItems xs).toList = ns := by rw [← hx]; exact hi.numsOf
  rw [nums_intItems] at hn
  have ht' : s.heap.IsTuple a (intItems xs) := by rw [← hx]; exact ht
  refine PySem.W.ktm_sumG (I.ok.hd hc) ht' fun h' tk t' hk => ?_
  rw [preSum_eq, List.take_of_length_le (by simp), hn]
  exact ⟨.int _, H, I.kept hk, ⟨_, rfl⟩, q⟩
/-! ### xs[a::2] of a list of seven: three of them -/
def pick3 (i : Nat) (xs : List V) : List V := [xs.getD i .non, xs.getD (i + 2) .non, xs.getD (i + 4) .non]
def tStep (K : PySem.W.Frag) (i : Nat) (te : TE) : TE := fun σ H Q => te σ H fun x H1 => ∃ a xs, x = .ref a ∧ SqL K H1 a xs ∧ xs.length = 7 ∧ ∀ p, H1 p = none → Q (.ref p) (upd H1 p (.lst (pick3 i xs)))
theorem pick_1 (y0 y1 y2 y3 y4 y5 y6 : Value) : slicePick #[y0, y1, y2, y3, y4, y5, y6] (some 1) none (some 2) = #[y1, y3, y5] := by
  have e : sliceRange (sliceBounds (some 1) none (some 2) 7).1 (sliceBounds (some 1) none (some 2) 7).2.1 (sliceBounds (some 1) none (some 2) 7).2.2 = [1, 3, 5] := by decide +kernel
  show ((sliceRange (sliceBounds (some 1) none (some 2) 7).1 (sliceBounds (some 1) none (some 2) 7).2.1 (sliceBounds (some 1) none (some 2) 7).2.2).filterMap (#[y0, y1, y2, y3, y4, y5, y6][·]?)).toArray = _
  rw [e]
  rfl
theorem pick_2 (y0 y1 y2 y3 y4 y5 y6 : Value) : slicePick #[y0, y1, y2, y3, y4, y5, y6] (some 2) none (some 2) = #[y2, y4, y6] := by
  have e : sliceRange (sliceBounds (some 2) none (some 2) 7).1 (sliceBounds (some 2) none (some 2) 7).2.1 (sliceBounds (some 2) none (some 2) 7).2.2 = [2, 4, 6] := by decide +kernel
  show ((sliceRange (sliceBounds (some 2) none (some 2) 7).1 (sliceBounds (some 2) none (some 2) 7).2.1 (sliceBounds (some 2) none (some 2) 7).2.2).filterMap (#[y0, y1, y2, y3, y4, y5, y6][·]?)).toArray = _
  rw [e]
  rfl
theorem pe_step {X : Cx} {e : Expr} {te : TE} {i : Nat} {k k2 : Nat} {p1 p2 p3 pos : Pos} (hi : i = 1 ∨ i = 2) (he : PE X e te) :
    PE X (.Subscript e (.Slice (some (.Constant (.int (i : Nat)) k p1)) none (some (.Constant (.int 2) k2 p2)) p3) pos) (tStep X.K i te) := by
  refine ⟨fun pins s σ H Q I h => ?_⟩
  refine Subscript_ (thn (he.run pins s σ H _ I h) fun v s1 ⟨x, H1, I1, r1, q1⟩ => ?_)
  obtain ⟨a, xs, ex, hx, hlen7, q⟩ := q1
  subst ex
  cases r1
  have hlo : PO X (some (.Constant (.int (i : Nat)) k p1)) (tPart (tC (.int (i : Nat)))) := po_some pe_int
  have hst : PO X (some (.Constant (.int 2) k2 p2)) (tPart (tC (.int 2))) := po_some pe_int
  refine wpAny_Slice (thn (hlo.run pins s1 σ H1 (fun o H2 => o = some ((i : Nat) : Int) ∧ H2 = H1) I1 ⟨_, rfl, rfl, rfl⟩) fun vl s2 ⟨l, H2, I2, pl, el, e2⟩ => ?_)
  subst el e2
  refine thn (po_none.run pins s2 σ H2 (fun o H3 => o = none ∧ H3 = H2) I2 ⟨rfl, rfl⟩) fun vu s3 ⟨u, H3, I3, pu, eu, e3⟩ => ?_
  subst eu e3
  refine thn (hst.run pins s3 σ H3 (fun o H4 => o = some 2 ∧ H4 = H3) I3 ⟨_, rfl, rfl, rfl⟩) fun vs s4 ⟨o, H4, I4, ps, eo, e4⟩ => ?_
  subst eo e4
  have I5 : Inv X pins σ H4 { s4 with heap := s4.heap.push { cls := .type "slice", data := .fields #[vl, vu, vs] } } := I4.kept (t' := s4.toks) fun b ob q => Heap.get?_push_of_some _ q
  obtain ⟨its, r, ht, hz⟩ := I5.list hx
  have hlen := r.length
  show wpAny (model X.prog X.w) X.A (subscriptTail e (.Slice (some (.Constant (.int (i : Nat)) k p1)) none (some (.Constant (.int 2) k2 p2)) p3) (.ref a) (.ref s4.heap.objs.size)) (EP X pins σ Q) X.xe { s4 with heap := s4.heap.push { cls := .type "slice", data := .fields #[vl, vu, vs] } }
  refine tail_any (ops := [.ref a, .ref s4.heap.objs.size]) ht.isList.typeIs (PySem.slot_list_getitem.lookup) ?_ (by with_unfolding_all rfl)
  refine wpAny_getItem_list_slice ht.isList (Heap.IsSliceOf.new _ vl vu vs) pl pu ps (by decide) ?_ (by rw [List.size_toArray]; omega)
  have hv : ∃ us, slicePick its.toArray (some ((i : Nat) : Int)) none (some 2) = us.toArray ∧ Vals (pick3 i xs) us := by
    have h7 : its.length = 7 := by omega
    match xs, its, hlen7, h7, r with
    | [x0, x1, x2, x3, x4, x5, x6], [y0, y1, y2, y3, y4, y5, y6], _, _, .cons r0 (.cons r1 (.cons r2 (.cons r3 (.cons r4 (.cons r5 (.cons r6 .nil)))))) =>
      rcases hi with e | e
      · subst e
        exact ⟨[y1, y3, y5], pick_1 _ _ _ _ _ _ _, .cons r1 (.cons r3 (.cons r5 .nil))⟩
      · subst e
        exact ⟨[y2, y4, y6], pick_2 _ _ _ _ _ _ _, .cons r2 (.cons r4 (.cons r6 .nil))⟩
  obtain ⟨us, eu, rv⟩ := hv
  rw [eu]
  refine ⟨.ref _, _, I5.laid (t' := s4.toks) (o := .lst (pick3 i xs)) (fun b ob q => Heap.get?_push_of_some _ q) (Nat.le_refl _) ?_, rfl, q _ (I5.hok.fresh (Nat.le_refl _))⟩
  exact ⟨by show 3 ≤ sizeLine; decide, _, 0, rv, Heap.get?_push_size _ rfl⟩
/-! ### t > u of two tuples of whole numbers -/
def rGtT (K : PySem.W.Frag) : R2 := fun x y H Q => ∃ (a b : Addr) (ns ms : List Int), x = .ref a ∧ y = .ref b ∧ SqT K H a (ns.map V.int) ∧ SqT K H b (ms.map V.int) ∧
  Q (.bl (Ob.lexAt (fun j => decide (ns.getD j 0 = ms.getD j 0)) (fun j => decide (ms.getD j 0 < ns.getD j 0)) (decide (ns.length > ms.length)) 0 (min ns.length ms.length))) H
theorem op_gtT {X : Cx} (hu : X.A.units < cLine) : OpR X (compareOp .Gt) (rGtT X.K) := by
  intro pins s σ H x y v u Q I rx ry h
  obtain ⟨a, b, ns, ms, rfl, rfl, ha, hb, q⟩ := h
  cases rx
  cases ry
  obtain ⟨its, r1, p1, _⟩ := I.tuple ha
  obtain ⟨its2, r2, p2, _⟩ := I.tuple hb
  have i1 : IntsAre its ns := Vals.ints r1
  have i2 : IntsAre its2 ms := Vals.ints r2
  have e1 : its.toArray.size = ns.length := by rw [List.size_toArray]; exact i1.length
  have e2 : its2.toArray.size = ms.length := by rw [List.size_toArray]; exact i2.length
  have at1 : ∀ j (h1 : j < its.toArray.size), ∃ t, its.toArray[j] = .int (ns.getD j 0) t := fun j h1 => PyProof.Rows.IntsAre.int_at i1 _ _ (by simp at h1; simp [h1])
  have at2 : ∀ j (h1 : j < its2.toArray.size), ∃ t, its2.toArray[j] = .int (ms.getD j 0) t := fun j h1 => PyProof.Rows.IntsAre.int_at i2 _ _ (by simp at h1; simp [h1])
  have R := Ob.RcOp.tuples_gt (A := X.A) (s := s) (e := fun j => decide (ns.getD j 0 = ms.getD j 0)) (r := fun j => decide (ms.getD j 0 < ns.getD j 0)) p1 p2 hu (fun j h1 h2 => by
    obtain ⟨t, et⟩ := at1 j h1
    obtain ⟨t', et'⟩ := at2 j h2
    rw [et, et']
    have z : (ns.getD j 0 == ms.getD j 0) = decide (ns.getD j 0 = ms.getD j 0) := by
      by_cases q : ns.getD j 0 = ms.getD j 0
      · rw [decide_eq_true q]; exact beq_iff_eq.mpr q
      · rw [decide_eq_false q]; exact beq_eq_false_iff_ne.mpr q
    rw [← z]
    exact SeqAt.EqAt.int_int _ _ _ _) (fun j h1 h2 _ => by
    obtain ⟨t, et⟩ := at1 j h1
    obtain ⟨t', et'⟩ := at2 j h2
    rw [et, et']
    exact Ob.RcOp.gt_int _ _ _ _)
  rw [e1, e2] at R
  have z : wpAny (model X.prog X.w) X.A (compareOp .Gt (.ref a) (.ref b)) (EP X pins σ Q) X.xe s := R X.prog X.w X.xe (EP X pins σ Q) ⟨.bl _, H, I, rfl, q⟩
  exact z
end Ab

set_option linter.all false
/-! Of the specification alone: sums by a book without their fuel; digits by places; groups by place; the nicest way. Nothing here hangs on the program. -/
namespace AbS
open Na

/-! ## A sum by a book: its fuel is enough -/
def wt : Todo → Nat
  | .moves _ _ => 1
  | .digit _ _ => 2
def wts (l : List Todo) : Nat := (l.map wt).sum
def phi (u : Under) (l : List Todo) : Nat := 3 * (STEPS - u.steps) + wts l
theorem wts_cons (x : Todo) (l : List Todo) : wts (x :: l) = wt x + wts l := by
  unfold wts
  rw [List.map_cons, List.sum_cons]
/-- each thing done takes something away -/
theorem onward_less {m : Make} {h : Hand} {b : Book} {op : Nat} {u v : Under} {x : Todo} {l r : List Todo} (e : onward m h b op u (x :: l) = .ok (v, r)) : phi v r < phi u (x :: l) := by
  cases x with
  | digit i d =>
    simp only [onward] at e
    by_cases hi : m.length ≤ i
    · rw [if_pos hi] at e
      cases e
    · rw [if_neg hi] at e
      cases hs : shownAt m u.s i with
      | none =>
        rw [hs] at e
        cases e
      | some y =>
        rw [hs] at e
        cases e
        unfold phi
        rw [wts_cons, wts_cons]
        show _ + (1 + _) < _ + (2 + _)
        omega
  | moves i ms =>
    cases ms with
    | nil =>
      simp only [onward] at e
      cases e
      unfold phi
      rw [wts_cons]
      show _ < _ + (1 + _)
      omega
    | cons mv ms =>
      cases mv with
      | carry =>
        simp only [onward] at e
        by_cases hs : STEPS ≤ u.steps
        · rw [if_pos hs] at e
          cases e
        · rw [if_neg hs] at e
          cases e
          unfold phi
          rw [wts_cons, wts_cons, wts_cons]
          show 3 * (STEPS - (u.steps + 1)) + (2 + (1 + _)) < 3 * (STEPS - u.steps) + (1 + _)
          omega
      | act s n k =>
        simp only [onward] at e
        by_cases hs : STEPS ≤ u.steps
        · rw [if_pos hs] at e
          cases e
        · rw [if_neg hs] at e
          cases ha : acted m h u.s ⟨i, s, n, k⟩ with
          | none =>
            rw [ha] at e
            cases e
          | some t =>
            rw [ha] at e
            cases e
            unfold phi
            rw [wts_cons, wts_cons]
            show 3 * (STEPS - (u.steps + 1)) + (1 + _) < 3 * (STEPS - u.steps) + (1 + _)
            omega
/-- one thing done, then the rest -/
def onG (x : Except Fail (Under × List Todo)) (g : Under → List Todo → Except Fail Under) : Except Fail Under := match x with
  | .error e => .error e
  | .ok (v, r) => g v r
theorem carried_succ (m : Make) (h : Hand) (b : Book) (op f : Nat) (u : Under) (x : Todo) (l : List Todo) : carried m h b op (f + 1) u (x :: l) = onG (onward m h b op u (x :: l)) fun v r => carried m h b op f v r := rfl
/-- all that waits, done -/
def full (m : Make) (h : Hand) (b : Book) (op : Nat) (u : Under) (l : List Todo) : Except Fail Under := carried m h b op (phi u l) u l
theorem enough {m : Make} {h : Hand} {b : Book} {op : Nat} : ∀ (f g : Nat) (u : Under) (l : List Todo), phi u l ≤ f → phi u l ≤ g → carried m h b op f u l = carried m h b op g u l
  | f, g, u, [], _, _ => by
    have e : ∀ k, carried m h b op k u [] = .ok u := fun k => by cases k <;> rfl
    rw [e, e]
  | 0, g, u, x :: l, hf, _ => by
    unfold phi at hf
    rw [wts_cons] at hf
    cases x with
    | moves i ms => exact absurd hf (by show ¬ _ + (1 + _) ≤ 0; omega)
    | digit i d => exact absurd hf (by show ¬ _ + (2 + _) ≤ 0; omega)
  | f + 1, 0, u, x :: l, _, hg => by
    unfold phi at hg
    rw [wts_cons] at hg
    cases x with
    | moves i ms => exact absurd hg (by show ¬ _ + (1 + _) ≤ 0; omega)
    | digit i d => exact absurd hg (by show ¬ _ + (2 + _) ≤ 0; omega)
  | f + 1, g + 1, u, x :: l, hf, hg => by
    rw [carried_succ, carried_succ]
    cases e : onward m h b op u (x :: l) with
    | error k => rfl
    | ok z =>
      obtain ⟨v, r⟩ := z
      have := onward_less e
      exact enough f g v r (by omega) (by omega)
theorem full_nil (m : Make) (h : Hand) (b : Book) (op : Nat) (u : Under) : full m h b op u [] = .ok u := by
  unfold full
  cases phi u [] <;> rfl
/-- one thing after another, without fuel -/
theorem full_cons (m : Make) (h : Hand) (b : Book) (op : Nat) (u : Under) (x : Todo) (l : List Todo) : full m h b op u (x :: l) = onG (onward m h b op u (x :: l)) fun v r => full m h b op v r := by
  have e0 : full m h b op u (x :: l) = carried m h b op (phi u (x :: l) + 1) u (x :: l) := enough _ _ u (x :: l) (Nat.le_refl _) (Nat.le_succ _)
  rw [e0, carried_succ]
  cases e : onward m h b op u (x :: l) with
  | error k => rfl
  | ok z =>
    obtain ⟨v, r⟩ := z
    have := onward_less e
    exact enough _ _ v r (by omega) (Nat.le_refl _)
theorem digits_len : ∀ (m : Make) (v : Nat), (digits m v).length = m.length
  | [], _ => rfl
  | r :: m, v => by
    show (digits m (v / r.ratio)).length + 1 = m.length + 1
    rw [digits_len m]
theorem wts_wanted (m : Make) (order v : Nat) : wts (wanted m order v) ≤ 2 * m.length := by
  have h1 : ∀ l : List Todo, (∀ x ∈ l, wt x ≤ 2) → wts l ≤ 2 * l.length := by
    intro l
    induction l with
    | nil => intro _; exact Nat.le_refl _
    | cons x r ih =>
      intro h
      have := ih fun y hy => h y (List.mem_cons_of_mem _ hy)
      have := h x List.mem_cons_self
      rw [wts_cons, List.length_cons]
      omega
  have h2 : ∀ x ∈ wanted m order v, wt x ≤ 2 := fun x _ => by cases x <;> simp [wt]
  have h3 : (wanted m order v).length ≤ m.length := by
    have : ((((digits m v).zipIdx.filter fun (x : Nat × Nat) => x.1 != 0).map fun (x : Nat × Nat) => Todo.digit x.2 x.1)).length ≤ m.length := by
      rw [List.length_map]
      refine Nat.le_trans (List.length_filter_le _ _) ?_
      rw [List.length_zipIdx, digits_len]
      exact Nat.le_refl _
    unfold wanted
    by_cases ho : order = 0
    · simp only [if_pos ho, List.length_reverse]
      exact this
    · simp only [if_neg ho]
      exact this
  have := h1 _ h2
  omega
/-- the sum without fuel, on a frame of 64 rods at most -/
theorem sumBy_full (m : Make) (h : Hand) (b : Book) (op order : Nat) (s : Standing) (v : Nat) (hm : m.length ≤ 64) : sumBy m h b op order s v = match full m h b op ⟨s, [], 0⟩ (wanted m order v) with
    | .error e => .error e
    | .ok u => .ok (u.s, u.acts.reverse) := by
  have e : carried m h b op FUEL ⟨s, [], 0⟩ (wanted m order v) = full m h b op ⟨s, [], 0⟩ (wanted m order v) := enough _ _ _ _ (by
    have := wts_wanted m order v
    unfold phi FUEL STEPS
    show 3 * (65536 - 0) + _ ≤ _
    omega) (Nat.le_refl _)
  unfold sumBy
  rw [e]
  cases full m h b op ⟨s, [], 0⟩ (wanted m order v) <;> rfl

/-! ## Digits by places -/
theorem digit_at : ∀ (m : Make) (v i : Nat), i < m.length → (digits m v).getD i 0 = v / span (m.take i) % ((m.map (·.ratio)).getD i 0)
  | [], _, i, h => absurd h (Nat.not_lt_zero _)
  | r :: m, v, 0, _ => by
    show v % r.ratio = v / 1 % r.ratio
    rw [Nat.div_one]
  | r :: m, v, i + 1, h => by
    have ih := digit_at m (v / r.ratio) i (by rw [List.length_cons] at h; omega)
    show (digits m (v / r.ratio)).getD i 0 = v / (r.ratio * span (m.take i)) % ((m.map (·.ratio)).getD i 0)
    rw [ih, Nat.div_div_eq_div_mul]
theorem span_take_succ : ∀ (m : Make) (i : Nat) (r : Rod), m[i]? = some r → span (m.take (i + 1)) = span (m.take i) * r.ratio
  | [], i, r, h => by cases h
  | a :: m, 0, r, h => by
    have e : a = r := Option.some.inj h
    subst e
    show a.ratio * 1 = 1 * a.ratio
    omega
  | a :: m, i + 1, r, h => by
    have ih := span_take_succ m i r h
    show a.ratio * span (m.take (i + 1)) = a.ratio * span (m.take i) * r.ratio
    rw [ih, Nat.mul_assoc]

/-! ## Groups by place -/
theorem by_get (k : Nat) (hk : 0 < k) : ∀ (n : Nat) (l : List Nat) (i : Nat), l.length ≤ n * k → k * i < l.length → (by_ k n l)[i]? = some ((l.drop (k * i)).take k)
  | 0, l, i, h, hi => absurd hi (by omega)
  | n + 1, l, i, h, hi => by
    have hl : l ≠ [] := fun z => by
      rw [z] at hi
      exact absurd hi (Nat.not_lt_zero _)
    show (if l = [] then [] else l.take k :: by_ k n (l.drop k))[i]? = _
    rw [if_neg hl]
    cases i with
    | zero => rfl
    | succ i =>
      have h2 : (l.drop k).length ≤ n * k := by
        rw [List.length_drop]
        rw [Nat.succ_mul] at h
        omega
      have h3 : k * i < (l.drop k).length := by
        rw [List.length_drop]
        rw [Nat.mul_succ] at hi
        omega
      rw [List.getElem?_cons_succ, by_get k hk n (l.drop k) i h2 h3, List.drop_drop]
      congr 3
      rw [Nat.mul_succ]
      omega
theorem by_len (k : Nat) (hk : 0 < k) : ∀ (n : Nat) (l : List Nat) (j : Nat), l.length ≤ n * k → l.length = k * j → (by_ k n l).length = j
  | 0, l, j, h, hj => by
    have : l.length = 0 := by omega
    rw [this] at hj
    have : j = 0 := by
      rcases Nat.mul_eq_zero.mp hj.symm with z | z
      · omega
      · exact z
    subst this
    rfl
  | n + 1, l, j, h, hj => by
    show (if l = [] then [] else l.take k :: by_ k n (l.drop k)).length = j
    by_cases hl : l = []
    · rw [if_pos hl]
      subst hl
      rcases Nat.mul_eq_zero.mp hj.symm with z | z
      · omega
      · exact z.symm
    · rw [if_neg hl]
      cases j with
      | zero =>
        rw [Nat.mul_zero] at hj
        exact absurd (List.length_eq_zero_iff.mp hj) hl
      | succ j =>
        have h2 : (l.drop k).length ≤ n * k := by
          rw [List.length_drop]
          rw [Nat.succ_mul] at h
          omega
        have h3 : (l.drop k).length = k * j := by
          rw [List.length_drop, hj, Nat.mul_succ]
          omega
        rw [List.length_cons, by_len k hk n (l.drop k) j h2 h3]
theorem groups_get (k : Nat) (hk : 0 < k) (l : List Nat) (i : Nat) (hi : k * i < l.length) : (groups k l)[i]? = some ((l.drop (k * i)).take k) :=
  by_get k hk _ l i (by
    have : l.length + 1 ≤ (l.length + 1) * k := Nat.le_mul_of_pos_right _ hk
    omega) hi
theorem groups_len (k : Nat) (hk : 0 < k) (l : List Nat) (j : Nat) (h : l.length = k * j) : (groups k l).length = j :=
  by_len k hk _ l j (by
    have : l.length + 1 ≤ (l.length + 1) * k := Nat.le_mul_of_pos_right _ hk
    omega) h
/-- so each group is read off the list itself -/
theorem group_at (k i j : Nat) (l : List Nat) (hj : j < k) : ((l.drop (k * i)).take k).getD j 0 = l.getD (k * i + j) 0 := by
  rw [List.getD_eq_getElem?_getD, List.getD_eq_getElem?_getD, List.getElem?_take_of_lt hj, List.getElem?_drop]
/-- the first that's so: none ahead of it is -/
theorem first_some {α : Type} {p : α → Bool} {l : List α} {i : Nat} (h : l.findIdx? p = some i) : (∃ x, l[i]? = some x ∧ p x = true) ∧ ∀ j x, j < i → l[j]? = some x → p x = false := by
  obtain ⟨hi, h1, h2⟩ := List.findIdx?_eq_some_iff_getElem.mp h
  refine ⟨⟨l[i], List.getElem?_eq_getElem hi, h1⟩, fun j x hj hx => ?_⟩
  obtain ⟨hj2, e⟩ := List.getElem?_eq_some_iff.mp hx
  have := h2 j hj
  subst e
  simpa using this
theorem first_is {α : Type} {p : α → Bool} {l : List α} {i : Nat} {x : α} (hx : l[i]? = some x) (hp : p x = true) (hn : ∀ j y, j < i → l[j]? = some y → p y = false) : l.findIdx? p = some i := by
  obtain ⟨hi, e⟩ := List.getElem?_eq_some_iff.mp hx
  refine List.findIdx?_eq_some_iff_getElem.mpr ⟨hi, by rw [e]; exact hp, fun j hj => ?_⟩
  have := hn j l[j] hj (List.getElem?_eq_getElem (by omega))
  simpa using this
theorem first_none {α : Type} {p : α → Bool} {l : List α} (h : ∀ (j : Nat) (y : α), l[j]? = some y → p y = false) : l.findIdx? p = none := by
  refine List.findIdx?_eq_none_iff.mpr fun x hx => ?_
  obtain ⟨j, hj⟩ := List.mem_iff_getElem?.mp hx
  exact h j x hj

/-! ## The nicest way -/
theorem below_irr : ∀ p : List Nat, below p p = false
  | [] => rfl
  | x :: l => by
    have ih := below_irr l
    show (decide (x < x) || (x == x && below l l)) = false
    rw [ih, Bool.and_false, Bool.or_false]
    exact decide_eq_false (Nat.lt_irrefl x)
theorem below_cons (x y : Nat) (l m : List Nat) : below (x :: l) (y :: m) = true ↔ x < y ∨ (x = y ∧ below l m = true) := by
  show (decide (x < y) || (x == y && below l m)) = true ↔ _
  rw [Bool.or_eq_true, Bool.and_eq_true, decide_eq_true_eq, beq_iff_eq]
theorem below_trans : ∀ {p q r : List Nat}, below p q = true → below q r = true → below p r = true
  | x :: l, y :: m, z :: n, h1, h2 => by
    rw [below_cons] at h1 h2 ⊢
    rcases h1 with h1 | ⟨e1, h1⟩
    · rcases h2 with h2 | ⟨e2, h2⟩
      · exact .inl (by omega)
      · exact .inl (by omega)
    · rcases h2 with h2 | ⟨e2, h2⟩
      · exact .inl (by omega)
      · exact .inr ⟨by omega, below_trans h1 h2⟩
  | [], _, _, h1, _ => by cases h1
  | _ :: _, [], _, h1, _ => by cases h1
  | _ :: _, _ :: _, [], _, h2 => by cases h2
theorem below_tri : ∀ {p q : List Nat}, p.length = q.length → p ≠ q → below p q = true ∨ below q p = true
  | [], [], _, h => absurd rfl h
  | x :: l, y :: m, hl, h => by
    rw [below_cons, below_cons]
    by_cases hxy : x = y
    · subst hxy
      have h2 : l ≠ m := fun z => h (by rw [z])
      have hl2 : l.length = m.length := by simpa using hl
      rcases below_tri hl2 h2 with z | z
      · exact .inl (.inr ⟨rfl, z⟩)
      · exact .inr (.inr ⟨rfl, z⟩)
    · by_cases h3 : x < y
      · exact .inl (.inl h3)
      · exact .inr (.inl (by omega))
  | [], _ :: _, hl, _ => by cases hl
  | _ :: _, [], hl, _ => by cases hl
theorem nicer_iff (p q : Push) : nicer p q = true ↔ total p < total q ∨ (total p = total q ∧ below q p = true) := by
  unfold nicer
  rw [Bool.or_eq_true, Bool.and_eq_true, decide_eq_true_eq, beq_iff_eq]
theorem nicer_irr (p : Push) : nicer p p = false := by
  cases h : nicer p p with
  | false => rfl
  | true =>
    rcases (nicer_iff p p).mp h with z | ⟨_, z⟩
    · exact absurd z (Nat.lt_irrefl _)
    · rw [below_irr] at z
      cases z
theorem nicer_trans {p q r : Push} (h1 : nicer p q = true) (h2 : nicer q r = true) : nicer p r = true := by
  rw [nicer_iff] at h1 h2 ⊢
  rcases h1 with h1 | ⟨e1, h1⟩
  · rcases h2 with h2 | ⟨e2, h2⟩
    · exact .inl (by omega)
    · exact .inl (by omega)
  · rcases h2 with h2 | ⟨e2, h2⟩
    · exact .inl (by omega)
    · exact .inr ⟨by omega, below_trans h2 h1⟩
theorem nicer_tri {p q : Push} (hl : p.length = q.length) (h : p ≠ q) : nicer p q = true ∨ nicer q p = true := by
  rw [nicer_iff, nicer_iff]
  by_cases h1 : total p < total q
  · exact .inl (.inl h1)
  · by_cases h2 : total q < total p
    · exact .inr (.inl h2)
    · rcases below_tri hl h with z | z
      · exact .inr (.inr ⟨by omega, z⟩)
      · exact .inl (.inr ⟨by omega, z⟩)
theorem nicer_asym {p q : Push} (h : nicer p q = true) : nicer q p = false := by
  cases h2 : nicer q p with
  | false => rfl
  | true =>
    have := nicer_trans h h2
    rw [nicer_irr] at this
    cases this
/-- the one of two -/
def nicerOf (a : Option Push) (p : Push) : Option Push := match a with
  | none => some p
  | some q => if nicer p q = true then some p else some q
theorem nicest_fold (l : List Push) : nicest l = l.foldl nicerOf none := rfl
theorem nicest_from : ∀ (l : List Push) (q : Push) (n : Nat), q.length = n → (∀ x ∈ l, x.length = n) → ∃ p, l.foldl nicerOf (some q) = some p ∧ (p = q ∨ p ∈ l) ∧ p.length = n ∧ (p = q ∨ nicer p q = true) ∧ ∀ x ∈ l, x = p ∨ nicer p x = true
  | [], q, n, hq, _ => ⟨q, rfl, .inl rfl, hq, .inl rfl, fun x hx => absurd hx List.not_mem_nil⟩
  | y :: l, q, n, hq, hl => by
    have hy := hl y List.mem_cons_self
    by_cases h : nicer y q = true
    · obtain ⟨p, e, hm, hn, h1, h2⟩ := nicest_from l y n hy fun x hx => hl x (List.mem_cons_of_mem _ hx)
      refine ⟨p, ?_, .inr ?_, hn, .inr ?_, fun x hx => ?_⟩
      · rw [List.foldl_cons]
        show l.foldl nicerOf (if nicer y q = true then some y else some q) = _
        rw [if_pos h]
        exact e
      · rcases hm with z | z
        · rw [z]
          exact List.mem_cons_self
        · exact List.mem_cons_of_mem _ z
      · rcases h1 with z | z
        · rw [z]
          exact h
        · exact nicer_trans z h
      · rcases List.mem_cons.mp hx with z | z
        · subst z
          exact h1.imp Eq.symm id
        · exact h2 x z
    · obtain ⟨p, e, hm, hn, h1, h2⟩ := nicest_from l q n hq fun x hx => hl x (List.mem_cons_of_mem _ hx)
      refine ⟨p, ?_, hm.imp id (List.mem_cons_of_mem _), hn, h1, fun x hx => ?_⟩
      · rw [List.foldl_cons]
        show l.foldl nicerOf (if nicer y q = true then some y else some q) = _
        rw [if_neg h]
        exact e
      · rcases List.mem_cons.mp hx with z | z
        · subst z
          by_cases hxp : x = p
          · exact .inl hxp
          · right
            rcases nicer_tri (hy.trans hn.symm) hxp with t | t
            · exfalso
              rcases h1 with e2 | e2
              · rw [e2] at t
                exact h t
              · exact h (nicer_trans t e2)
            · exact t
        · exact h2 x z
/-- the nicest of some of one length: it is among them, and nicer than each other one -/
theorem nicest_is {l : List Push} {n : Nat} (hl : ∀ x ∈ l, x.length = n) (hne : l ≠ []) : ∃ p, nicest l = some p ∧ p ∈ l ∧ ∀ x ∈ l, x = p ∨ nicer p x = true := by
  cases l with
  | nil => exact absurd rfl hne
  | cons q l =>
    obtain ⟨p, e, hm, _, h1, h2⟩ := nicest_from l q n (hl q List.mem_cons_self) fun x hx => hl x (List.mem_cons_of_mem _ hx)
    refine ⟨p, e, ?_, fun x hx => ?_⟩
    · rcases hm with z | z
      · rw [z]
        exact List.mem_cons_self
      · exact List.mem_cons_of_mem _ z
    · rcases List.mem_cons.mp hx with z | z
      · subst z
        exact h1.imp Eq.symm id
      · exact h2 x z
theorem nicest_unique {l : List Push} {n : Nat} (hl : ∀ x ∈ l, x.length = n) {p : Push} (hp : p ∈ l) (h : ∀ x ∈ l, x = p ∨ nicer p x = true) : nicest l = some p := by
  obtain ⟨q, e, hq, h2⟩ := nicest_is hl (fun z => by rw [z] at hp; exact absurd hp List.not_mem_nil)
  rw [e]
  rcases h q hq with z | z
  · rw [z]
  · rcases h2 p hp with z2 | z2
    · rw [z2]
    · have := nicer_asym z
      rw [z2] at this
      cases this
/-- all ways: as many beads of each deck as there are, at most -/
theorem mem_pushes : ∀ (ds : List Deck) (p : Push), p ∈ pushes ds ↔ p.length = ds.length ∧ ∀ (i : Nat) (d : Deck) (k : Nat), ds[i]? = some d → p[i]? = some k → k ≤ d.beads
  | [], p => by
    show p ∈ [[]] ↔ _
    rw [List.mem_singleton]
    constructor
    · intro h
      subst h
      exact ⟨rfl, fun i d k h => by cases h⟩
    · intro h
      exact List.length_eq_zero_iff.mp h.1
  | d :: ds, p => by
    show p ∈ (List.range (d.beads + 1)).flatMap (fun k => (pushes ds).map fun p => k :: p) ↔ _
    rw [List.mem_flatMap]
    constructor
    · rintro ⟨k, hk, hp⟩
      obtain ⟨q, hq, rfl⟩ := List.mem_map.mp hp
      obtain ⟨h1, h2⟩ := (mem_pushes ds q).mp hq
      refine ⟨by rw [List.length_cons, List.length_cons, h1], fun i e j hi hj => ?_⟩
      cases i with
      | zero =>
        cases hi
        cases hj
        have := List.mem_range.mp hk
        omega
      | succ i => exact h2 i e j hi hj
    · rintro ⟨h1, h2⟩
      cases p with
      | nil => cases h1
      | cons k q =>
        refine ⟨k, List.mem_range.mpr (by have := h2 0 d k rfl rfl; omega), List.mem_map.mpr ⟨q, (mem_pushes ds q).mpr ⟨by simpa using h1, fun i e j hi hj => h2 (i + 1) e j hi hj⟩, rfl⟩⟩
theorem pushes_len {ds : List Deck} {p : Push} (h : p ∈ pushes ds) : p.length = ds.length := ((mem_pushes ds p).mp h).1
end AbS

set_option linter.all false
/-! Of the specification alone: a rod by its seven numbers, a push by three numbers, whatever decks there are. -/
namespace AbP
open Na AbS
abbrev bd (l : List Nat) (j : Nat) : Nat := l.getD (1 + 2 * j) 0
abbrev wo (l : List Nat) (j : Nat) : Nat := l.getD (2 + 2 * j) 0
def deckAt (l : List Nat) (j : Nat) : Deck := ⟨bd l j, wo l j⟩
theorem decks_eq (l : List Nat) : (rodOf l).decks = (if bd l 0 = 0 then [] else [deckAt l 0]) ++ ((if bd l 1 = 0 then [] else [deckAt l 1]) ++ (if bd l 2 = 0 then [] else [deckAt l 2])) := by
  show (([0, 1, 2] : List Nat).filter fun (j : Nat) => bd l j != 0).map (fun j => deckAt l j) = _
  by_cases h0 : bd l 0 = 0 <;> by_cases h1 : bd l 1 = 0 <;> by_cases h2 : bd l 2 = 0 <;> simp only [List.filter_cons, List.filter_nil, h0, h1, h2, bne_iff_ne, ne_eq, not_true_eq_false, not_false_eq_true, if_true, if_false, List.map_cons, List.map_nil, List.nil_append, List.append_nil, List.cons_append]
/-- a rod's numbers as they may be -/
structure Good7 (l : List Nat) : Prop where
  b0 : bd l 0 ≠ 0
  same : ∀ j, j < 3 → (bd l j = 0 ↔ wo l j = 0)
  next : bd l 1 ≠ 0 ∨ bd l 2 = 0
  r0 : 2 ≤ l.getD 0 0
  r1 : l.getD 0 0 ≤ 20
  b15 : ∀ j, j < 3 → bd l j ≤ 15
  w63 : ∀ j, j < 3 → wo l j ≤ 63
theorem deck_good {l : List Nat} {j : Nat} : Deck.good (deckAt l j) = true ↔ 1 ≤ bd l j ∧ bd l j ≤ 15 ∧ 1 ≤ wo l j ∧ wo l j ≤ 63 := by
  unfold Deck.good deckAt
  simp only [Bool.and_eq_true, decide_eq_true_eq]
theorem lt3 {P : Nat → Prop} : (∀ j, j < 3 → P j) ↔ P 0 ∧ P 1 ∧ P 2 := by
  constructor
  · intro h
    exact ⟨h 0 (by decide), h 1 (by decide), h 2 (by decide)⟩
  · rintro ⟨a, b, c⟩ j hj
    match j, hj with
    | 0, _ => exact a
    | 1, _ => exact b
    | 2, _ => exact c
theorem rodGood_iff (l : List Nat) : rodGood l = true ↔ Good7 l := by
  have e : rodGood l = (bd l 0 != 0 && (((bd l 0 == 0) == (wo l 0 == 0)) && (((bd l 1 == 0) == (wo l 1 == 0)) && (((bd l 2 == 0) == (wo l 2 == 0)) && true))) && ((bd l 1 != 0 || bd l 2 == 0) && (rodOf l).formed_)) := rfl
  rw [e]
  unfold Rod.formed_
  rw [decks_eq]
  have er : (rodOf l).ratio = l.getD 0 0 := rfl
  rw [er]
  constructor
  · intro h
    simp only [Bool.and_eq_true, Bool.or_eq_true, bne_iff_ne, beq_iff_eq, decide_eq_true_eq, Bool.and_true, ne_eq] at h
    obtain ⟨⟨h0, s0, s1, s2⟩, hn, hr0, hr1, _, _, hd⟩ := h
    have t0 : bd l 0 = 0 ↔ wo l 0 = 0 := by rw [← beq_iff_eq, s0, beq_iff_eq]
    have t1 : bd l 1 = 0 ↔ wo l 1 = 0 := by rw [← beq_iff_eq, s1, beq_iff_eq]
    have t2 : bd l 2 = 0 ↔ wo l 2 = 0 := by rw [← beq_iff_eq, s2, beq_iff_eq]
    have hd' : ∀ j, j < 3 → bd l j ≠ 0 → Deck.good (deckAt l j) = true := by
      rw [List.all_eq_true] at hd
      intro j hj hne
      refine hd _ ?_
      match j, hj with
      | 0, _ => rw [if_neg hne]; exact List.mem_append_left _ List.mem_cons_self
      | 1, _ => rw [if_neg hne]; exact List.mem_append_right _ (List.mem_append_left _ List.mem_cons_self)
      | 2, _ => rw [if_neg hne]; exact List.mem_append_right _ (List.mem_append_right _ List.mem_cons_self)
    refine ⟨h0, lt3.mpr ⟨t0, t1, t2⟩, hn, hr0, hr1, fun j hj => ?_, fun j hj => ?_⟩
    · by_cases hz : bd l j = 0
      · rw [hz]; decide
      · exact (deck_good.mp (hd' j hj hz)).2.1
    · by_cases hz : bd l j = 0
      · have := (lt3 (P := fun j => bd l j = 0 ↔ wo l j = 0)).mpr ⟨t0, t1, t2⟩ j hj
        rw [this.mp hz]; decide
      · exact (deck_good.mp (hd' j hj hz)).2.2.2
  · intro h
    have gd : ∀ j, j < 3 → bd l j ≠ 0 → Deck.good (deckAt l j) = true := fun j hj hne => deck_good.mpr ⟨by omega, h.b15 j hj, by have := (h.same j hj).mpr; by_cases hz : wo l j = 0; exact absurd (this hz) hne; omega, h.w63 j hj⟩
    have b0 : (bd l 0 == 0) = false := by simpa using h.b0
    have w0 : (wo l 0 == 0) = false := by simpa using (fun z => h.b0 ((h.same 0 (by decide)).mpr z))
    have s : ∀ j, j < 3 → ((bd l j == 0) == (wo l j == 0)) = true := fun j hj => by
      by_cases hz : bd l j = 0
      · rw [hz, (h.same j hj).mp hz]; rfl
      · have hz2 : wo l j ≠ 0 := fun z => hz ((h.same j hj).mpr z)
        have e1 : (bd l j == 0) = false := by simpa using hz
        have e2 : (wo l j == 0) = false := by simpa using hz2
        rw [e1, e2]; rfl
    have hn : (bd l 1 != 0 || bd l 2 == 0) = true := by
      rw [Bool.or_eq_true]
      exact h.next.imp (fun z => by simpa using z) (fun z => by simpa using z)
    rw [s 0 (by decide), s 1 (by decide), s 2 (by decide), hn, decide_eq_true h.r0, decide_eq_true h.r1]
    have hb : (bd l 0 != 0) = true := by simpa using h.b0
    rw [hb, if_neg h.b0]
    have g0 := gd 0 (by decide) h.b0
    by_cases h1 : bd l 1 = 0
    · have h2 : bd l 2 = 0 := h.next.resolve_left (fun z => z h1)
      rw [if_pos h1, if_pos h2]
      simp [g0]
    · have g1 := gd 1 (by decide) h1
      by_cases h2 : bd l 2 = 0
      · rw [if_neg h1, if_pos h2]
        simp [g0, g1]
      · have g2 := gd 2 (by decide) h2
        rw [if_neg h1, if_neg h2]
        simp [g0, g1, g2]
/-! ## ways to push, as three numbers -/
def pad (p : Push) : List Nat := [p.getD 0 0, p.getD 1 0, p.getD 2 0]
structure Way (l : List Nat) (a b c : Nat) : Prop where
  h0 : a ≤ bd l 0
  h1 : b ≤ bd l 1
  h2 : c ≤ bd l 2
def cnt (l : List Nat) (a b c : Nat) : Nat := a * wo l 0 + b * wo l 1 + c * wo l 2
/-- three numbers as a push of the decks that are there -/
def cut (l : List Nat) (a b c : Nat) : Push := if bd l 1 = 0 then [a] else if bd l 2 = 0 then [a, b] else [a, b, c]
inductive Decks (l : List Nat) : List Deck → (Nat → Nat → Nat → Push) → Prop
  | one : bd l 1 = 0 → bd l 2 = 0 → wo l 1 = 0 → wo l 2 = 0 → Decks l [deckAt l 0] fun a _ _ => [a]
  | two : bd l 1 ≠ 0 → bd l 2 = 0 → wo l 2 = 0 → Decks l [deckAt l 0, deckAt l 1] fun a b _ => [a, b]
  | three : bd l 1 ≠ 0 → bd l 2 ≠ 0 → Decks l [deckAt l 0, deckAt l 1, deckAt l 2] fun a b c => [a, b, c]
theorem decks_are {l : List Nat} (h : Good7 l) : Decks l (rodOf l).decks (cut l) := by
  rw [decks_eq, if_neg h.b0]
  unfold cut
  by_cases h1 : bd l 1 = 0
  · have h2 : bd l 2 = 0 := h.next.resolve_left (fun z => z h1)
    rw [if_pos h1, if_pos h2]
    have : (fun a b c : Nat => if bd l 1 = 0 then ([a] : Push) else if bd l 2 = 0 then [a, b] else [a, b, c]) = fun a _ _ => [a] := by
      funext a b c
      rw [if_pos h1]
    rw [this]
    exact .one h1 h2 ((h.same 1 (by decide)).mp h1) ((h.same 2 (by decide)).mp h2)
  · by_cases h2 : bd l 2 = 0
    · have : (fun a b c : Nat => if bd l 1 = 0 then ([a] : Push) else if bd l 2 = 0 then [a, b] else [a, b, c]) = fun a b _ => [a, b] := by
        funext a b c
        rw [if_neg h1, if_pos h2]
      rw [this, if_neg h1, if_pos h2]
      exact .two h1 h2 ((h.same 2 (by decide)).mp h2)
    · have : (fun a b c : Nat => if bd l 1 = 0 then ([a] : Push) else if bd l 2 = 0 then [a, b] else [a, b, c]) = fun a b c => [a, b, c] := by
        funext a b c
        rw [if_neg h1, if_neg h2]
      rw [this, if_neg h1, if_neg h2]
      exact .three h1 h2
/-- the push of three numbers: what it is worth, and that it is a way -/
theorem way_push {l : List Nat} (h : Good7 l) {a b c : Nat} (w : Way l a b c) : cut l a b c ∈ pushes (rodOf l).decks ∧ worthOf (rodOf l).decks (cut l a b c) = cnt l a b c ∧ pad (cut l a b c) = [a, b, c] := by
  have d := decks_are h
  revert d
  generalize (rodOf l).decks = ds
  generalize cut l = f
  intro d
  have w0 := w.h0
  have w1 := w.h1
  have w2 := w.h2
  cases d with
  | one h1 h2 e1 e2 =>
    have hb : b = 0 := by omega
    have hc : c = 0 := by omega
    subst hb hc
    refine ⟨(mem_pushes _ _).mpr ⟨rfl, fun i d k hi hk => ?_⟩, ?_, rfl⟩
    · match i with
      | 0 => cases hi; cases hk; exact w0
      | i + 1 => cases hi
    · show a * wo l 0 + 0 = _
      unfold cnt
      omega
  | two h1 h2 e2 =>
    have hc : c = 0 := by omega
    subst hc
    refine ⟨(mem_pushes _ _).mpr ⟨rfl, fun i d k hi hk => ?_⟩, ?_, rfl⟩
    · match i with
      | 0 => cases hi; cases hk; exact w0
      | 1 => cases hi; cases hk; exact w1
      | i + 2 => cases hi
    · show a * wo l 0 + (b * wo l 1 + 0) = _
      unfold cnt
      omega
  | three h1 h2 =>
    refine ⟨(mem_pushes _ _).mpr ⟨rfl, fun i d k hi hk => ?_⟩, ?_, rfl⟩
    · match i with
      | 0 => cases hi; cases hk; exact w0
      | 1 => cases hi; cases hk; exact w1
      | 2 => cases hi; cases hk; exact w2
      | i + 3 => cases hi
    · show a * wo l 0 + (b * wo l 1 + (c * wo l 2 + 0)) = _
      unfold cnt
      omega
/-- each push is of three numbers -/
theorem push_way {l : List Nat} (h : Good7 l) {p : Push} (hp : p ∈ pushes (rodOf l).decks) : ∃ a b c, Way l a b c ∧ p = cut l a b c := by
  have d := decks_are h
  revert d hp
  generalize (rodOf l).decks = ds
  generalize cut l = f
  intro hp d
  obtain ⟨hl, hk⟩ := (mem_pushes _ _).mp hp
  cases d with
  | one h1 h2 e1 e2 =>
    match p, hl with
    | [a], _ => exact ⟨a, 0, 0, ⟨hk 0 _ _ rfl rfl, Nat.zero_le _, Nat.zero_le _⟩, rfl⟩
  | two h1 h2 e2 =>
    match p, hl with
    | [a, b], _ => exact ⟨a, b, 0, ⟨hk 0 _ _ rfl rfl, hk 1 _ _ rfl rfl, Nat.zero_le _⟩, rfl⟩
  | three h1 h2 =>
    match p, hl with
    | [a, b, c], _ => exact ⟨a, b, c, ⟨hk 0 _ _ rfl rfl, hk 1 _ _ rfl rfl, hk 2 _ _ rfl rfl⟩, rfl⟩
theorem cut_inj {l : List Nat} (h : Good7 l) {a b c a' b' c' : Nat} (w : Way l a b c) (w' : Way l a' b' c') (e : cut l a b c = cut l a' b' c') : a = a' ∧ b = b' ∧ c = c' := by
  have e1 := (way_push h w).2.2
  have e2 := (way_push h w').2.2
  rw [e, e2] at e1
  cases e1
  exact ⟨rfl, rfl, rfl⟩
/-- nicer, by the three numbers -/
def nicer3 (a b c a' b' c' : Nat) : Prop := a + b + c < a' + b' + c' ∨ (a + b + c = a' + b' + c' ∧ (a' < a ∨ (a' = a ∧ b' < b)))
theorem nicer_cut {l : List Nat} (h : Good7 l) {a b c a' b' c' : Nat} (w : Way l a b c) (w' : Way l a' b' c') : nicer (cut l a b c) (cut l a' b' c') = true ↔ nicer3 a b c a' b' c' := by
  have d := decks_are h
  revert d
  generalize (rodOf l).decks = ds
  generalize cut l = f
  intro d
  have w1 := w.h1
  have w2 := w.h2
  have v1 := w'.h1
  have v2 := w'.h2
  rw [nicer_iff]
  unfold nicer3
  cases d with
  | one h1 h2 e1 e2 =>
    have : b = 0 := by omega
    have : c = 0 := by omega
    have : b' = 0 := by omega
    have : c' = 0 := by omega
    subst_vars
    rw [below_cons]
    show (a + 0 < a' + 0 ∨ a + 0 = a' + 0 ∧ (a' < a ∨ a' = a ∧ false = true)) ↔ _
    simp only [Bool.false_eq_true, and_false, or_false]
    omega
  | two h1 h2 e2 =>
    have : c = 0 := by omega
    have : c' = 0 := by omega
    subst_vars
    rw [below_cons, below_cons]
    show (a + (b + 0) < a' + (b' + 0) ∨ a + (b + 0) = a' + (b' + 0) ∧ (a' < a ∨ a' = a ∧ (b' < b ∨ b' = b ∧ false = true))) ↔ _
    simp only [Bool.false_eq_true, and_false, or_false]
    omega
  | three h1 h2 =>
    rw [below_cons, below_cons, below_cons]
    show (a + (b + (c + 0)) < a' + (b' + (c' + 0)) ∨ a + (b + (c + 0)) = a' + (b' + (c' + 0)) ∧ (a' < a ∨ a' = a ∧ (b' < b ∨ b' = b ∧ (c' < c ∨ c' = c ∧ false = true)))) ↔ _
    simp only [Bool.false_eq_true, and_false, or_false]
    omega
/-- the nicest of the ways to push a count is the digit's form -/
theorem form_is {l : List Nat} (h : Good7 l) {a b c d : Nat} (w : Way l a b c) (e : cnt l a b c = d) (best : ∀ a' b' c', Way l a' b' c' → cnt l a' b' c' = d → (a' = a ∧ b' = b ∧ c' = c) ∨ nicer3 a b c a' b' c') : formOf (rodOf l) d = cut l a b c := by
  unfold formOf
  have hw := way_push h w
  have : nicest ((pushes (rodOf l).decks).filter fun (p : Push) => worthOf (rodOf l).decks p == d) = some (cut l a b c) := by
    refine nicest_unique (n := (rodOf l).decks.length) (fun x hx => pushes_len (List.mem_filter.mp hx).1) (List.mem_filter.mpr ⟨hw.1, by rw [hw.2.1, e]; exact beq_self_eq_true d⟩) fun x hx => ?_
    obtain ⟨m1, m2⟩ := List.mem_filter.mp hx
    obtain ⟨a', b', c', w', rfl⟩ := push_way h m1
    have e' := beq_iff_eq.mp m2
    rw [(way_push h w').2.1] at e'
    rcases best a' b' c' w' e' with ⟨rfl, rfl, rfl⟩ | z
    · exact .inl rfl
    · exact .inr ((nicer_cut h w w').mpr z)
  rw [this]
  rfl
/-- where a count can be pushed there is a nicest way -/
theorem form_ex {l : List Nat} (h : Good7 l) {a0 b0 c0 d : Nat} (w0 : Way l a0 b0 c0) (e0 : cnt l a0 b0 c0 = d) : ∃ a b c, Way l a b c ∧ cnt l a b c = d ∧ formOf (rodOf l) d = cut l a b c ∧ ∀ a' b' c', Way l a' b' c' → cnt l a' b' c' = d → (a' = a ∧ b' = b ∧ c' = c) ∨ nicer3 a b c a' b' c' := by
  have hw := way_push h w0
  obtain ⟨p, e, hm, hb⟩ := nicest_is (l := (pushes (rodOf l).decks).filter fun (p : Push) => worthOf (rodOf l).decks p == d) (n := (rodOf l).decks.length) (fun x hx => pushes_len (List.mem_filter.mp hx).1) (List.ne_nil_of_mem (List.mem_filter.mpr ⟨hw.1, by rw [hw.2.1, e0]; exact beq_self_eq_true d⟩))
  obtain ⟨m1, m2⟩ := List.mem_filter.mp hm
  obtain ⟨a, b, c, w, rfl⟩ := push_way h m1
  have e' := beq_iff_eq.mp m2
  rw [(way_push h w).2.1] at e'
  refine ⟨a, b, c, w, e', ?_, fun a' b' c' w' ec => ?_⟩
  · unfold formOf
    rw [e]
    rfl
  · have hw' := way_push h w'
    rcases hb _ (List.mem_filter.mpr ⟨hw'.1, by rw [hw'.2.1, ec]; exact beq_self_eq_true d⟩) with z | z
    · exact .inl (cut_inj h w' w z)
    · exact .inr ((nicer_cut h w w').mp z)
/-- every number below the ratio can be pushed -/
theorem whole_iff {l : List Nat} (h : Good7 l) : (rodOf l).whole = true ↔ ∀ d, d < l.getD 0 0 → ∃ a b c, Way l a b c ∧ cnt l a b c = d := by
  unfold Rod.whole
  rw [List.all_eq_true]
  constructor
  · intro hh d hd
    have := hh d (List.mem_range.mpr hd)
    rw [List.any_eq_true] at this
    obtain ⟨p, hp, e⟩ := this
    obtain ⟨a, b, c, w, rfl⟩ := push_way h hp
    have e' := beq_iff_eq.mp e
    rw [(way_push h w).2.1] at e'
    exact ⟨a, b, c, w, e'⟩
  · intro hh d hd
    obtain ⟨a, b, c, w, e⟩ := hh d (List.mem_range.mp hd)
    rw [List.any_eq_true]
    have hw := way_push h w
    exact ⟨_, hw.1, by rw [hw.2.1, e]; exact beq_self_eq_true d⟩
theorem most_is {l : List Nat} (h : Good7 l) : (rodOf l).most = bd l 0 * wo l 0 + bd l 1 * wo l 1 + bd l 2 * wo l 2 := by
  have d := decks_are h
  unfold Rod.most
  revert d
  generalize (rodOf l).decks = ds
  generalize cut l = f
  intro d
  cases d with
  | one h1 h2 e1 e2 =>
    show bd l 0 * wo l 0 + 0 = _
    rw [h1, h2]
    omega
  | two h1 h2 e2 =>
    show bd l 0 * wo l 0 + (bd l 1 * wo l 1 + 0) = _
    rw [h2]
    omega
  | three h1 h2 =>
    show bd l 0 * wo l 0 + (bd l 1 * wo l 1 + (bd l 2 * wo l 2 + 0)) = _
    omega
end AbP

set_option linter.all false
/-! The best way to push each count, deck by deck. -/
namespace AbF
open Na AbP
def sumL (w : List Nat) : Nat := w.foldr (· + ·) 0
theorem sumL_snoc (w : List Nat) (k : Nat) : sumL (w ++ [k]) = sumL w + k := by
  induction w with
  | nil => exact (Nat.zero_add k).symm
  | cons x r ih =>
    show x + sumL (r ++ [k]) = x + sumL r + k
    rw [ih]
    omega
def gtL : List Nat → List Nat → Bool
  | x :: r, y :: s => if x = y then gtL r s else decide (y < x)
  | _, _ => false
/-- fewer beads, or as many and more of the first decks -/
def better (w v : List Nat) : Prop := sumL w < sumL v ∨ (sumL w = sumL v ∧ gtL w v = true)
instance (w v : List Nat) : Decidable (better w v) := inferInstanceAs (Decidable (_ ∨ _))
theorem gt_snoc : ∀ (w v : List Nat) (k l : Nat), w.length = v.length → gtL w v = true → gtL (w ++ [k]) (v ++ [l]) = true
  | [], v, k, l, _, h => by cases h
  | x :: r, [], k, l, h, _ => by cases h
  | x :: r, y :: s, k, l, hl, h => by
    have h' : (if x = y then gtL r s else decide (y < x)) = true := h
    show (if x = y then gtL (r ++ [k]) (s ++ [l]) else decide (y < x)) = true
    by_cases e : x = y
    · rw [if_pos e] at h' ⊢
      exact gt_snoc r s k l (Nat.succ.inj hl) h'
    · rw [if_neg e] at h' ⊢
      exact h'
theorem gt_trans : ∀ (u v w : List Nat), u.length = v.length → v.length = w.length → gtL u v = true → gtL v w = true → gtL u w = true
  | [], v, w, _, _, h, _ => by cases h
  | x :: r, [], w, h, _, _, _ => by cases h
  | x :: r, y :: s, [], _, h, _, _ => by cases h
  | x :: r, y :: s, z :: t, h1, h2, g1, g2 => by
    have g1' : (if x = y then gtL r s else decide (y < x)) = true := g1
    have g2' : (if y = z then gtL s t else decide (z < y)) = true := g2
    show (if x = z then gtL r t else decide (z < x)) = true
    by_cases e1 : x = y
    · rw [if_pos e1] at g1'
      by_cases e2 : y = z
      · rw [if_pos e2] at g2'
        rw [if_pos (e1.trans e2)]
        exact gt_trans r s t (Nat.succ.inj h1) (Nat.succ.inj h2) g1' g2'
      · rw [if_neg e2] at g2'
        rw [if_neg (by omega), e1]
        exact g2'
    · rw [if_neg e1] at g1'
      have := of_decide_eq_true g1'
      by_cases e2 : y = z
      · rw [if_neg (by omega)]
        exact decide_eq_true (by omega)
      · rw [if_neg e2] at g2'
        have := of_decide_eq_true g2'
        rw [if_neg (by omega)]
        exact decide_eq_true (by omega)
theorem gt_total : ∀ (u v : List Nat), u.length = v.length → u = v ∨ gtL u v = true ∨ gtL v u = true
  | [], [], _ => .inl rfl
  | [], _ :: _, h => by cases h
  | _ :: _, [], h => by cases h
  | x :: r, y :: s, h => by
    by_cases e : x = y
    · subst e
      rcases gt_total r s (Nat.succ.inj h) with h1 | h1 | h1
      · exact .inl (by rw [h1])
      · right; left
        show (if x = x then gtL r s else _) = true
        rw [if_pos rfl]
        exact h1
      · right; right
        show (if x = x then gtL s r else _) = true
        rw [if_pos rfl]
        exact h1
    · right
      by_cases h2 : y < x
      · left
        show (if x = y then _ else decide (y < x)) = true
        rw [if_neg e]
        exact decide_eq_true h2
      · right
        show (if y = x then _ else decide (x < y)) = true
        rw [if_neg (fun z => e z.symm)]
        exact decide_eq_true (by omega)
theorem better_trans {u v w : List Nat} (h1 : u.length = v.length) (h2 : v.length = w.length) (a : better u v) (b : better v w) : better u w := by
  rcases a with a | ⟨a, a2⟩
  · rcases b with b | ⟨b, _⟩
    · exact .inl (by omega)
    · exact .inl (by omega)
  · rcases b with b | ⟨b, b2⟩
    · exact .inl (by omega)
    · exact .inr ⟨by omega, gt_trans u v w h1 h2 a2 b2⟩
theorem better_total {u v : List Nat} (h : u.length = v.length) : u = v ∨ better u v ∨ better v u := by
  by_cases h1 : sumL u < sumL v
  · exact .inr (.inl (.inl h1))
  · by_cases h2 : sumL v < sumL u
    · exact .inr (.inr (.inl h2))
    · rcases gt_total u v h with e | e | e
      · exact .inl e
      · exact .inr (.inl (.inr ⟨by omega, e⟩))
      · exact .inr (.inr (.inr ⟨by omega, e⟩))
theorem better_snoc {u v : List Nat} (h : u.length = v.length) (k : Nat) (b : better u v) : better (u ++ [k]) (v ++ [k]) := by
  rcases b with b | ⟨b, b2⟩
  · exact .inl (by rw [sumL_snoc, sumL_snoc]; omega)
  · exact .inr ⟨by rw [sumL_snoc, sumL_snoc]; omega, gt_snoc u v k k h b2⟩
/-! ### ways -/
def isW : List (Nat × Nat) → List Nat → Prop
  | [], [] => True
  | d :: ds, k :: w => k ≤ d.1 ∧ isW ds w
  | _, _ => False
def cntL : List (Nat × Nat) → List Nat → Nat
  | d :: ds, k :: w => k * d.2 + cntL ds w
  | _, _ => 0
theorem isW_len : ∀ {ds : List (Nat × Nat)} {w : List Nat}, isW ds w → w.length = ds.length
  | [], [], _ => rfl
  | [], _ :: _, h => h.elim
  | _ :: _, [], h => h.elim
  | d :: ds, k :: w, h => congrArg Nat.succ (isW_len h.2)
theorem isW_snoc : ∀ {ds : List (Nat × Nat)} {w : List Nat} {d : Nat × Nat} {k : Nat}, isW ds w → k ≤ d.1 → isW (ds ++ [d]) (w ++ [k]) ∧ cntL (ds ++ [d]) (w ++ [k]) = cntL ds w + k * d.2
  | [], [], d, k, _, h => ⟨⟨h, trivial⟩, by show k * d.2 + 0 = 0 + k * d.2; omega⟩
  | [], _ :: _, _, _, h, _ => h.elim
  | _ :: _, [], _, _, h, _ => h.elim
  | e :: ds, j :: w, d, k, h, hk => by
    obtain ⟨h1, h2⟩ := isW_snoc (d := d) h.2 hk
    refine ⟨⟨h.1, h1⟩, ?_⟩
    show j * e.2 + cntL (ds ++ [d]) (w ++ [k]) = j * e.2 + cntL ds w + k * d.2
    rw [h2]
    omega
theorem isW_unsnoc : ∀ {ds : List (Nat × Nat)} {d : Nat × Nat} {v : List Nat}, isW (ds ++ [d]) v → ∃ w k, v = w ++ [k] ∧ isW ds w ∧ k ≤ d.1
  | [], d, [], h => h.elim
  | [], d, [k], h => ⟨[], k, rfl, trivial, h.1⟩
  | [], d, _ :: _ :: _, h => h.2.elim
  | e :: ds, d, [], h => h.elim
  | e :: ds, d, j :: v, h => by
    obtain ⟨w, k, e1, h1, h2⟩ := isW_unsnoc h.2
    exact ⟨j :: w, k, by rw [e1]; rfl, ⟨h.1, h1⟩, h2⟩
/-! ### tables: of each count a way -/
abbrev Tab := List (Nat × List Nat)
def getW (fs : Tab) (c : Nat) : Option (List Nat) := (fs.find? fun kv => decide (kv.1 = c)).map (·.2)
def putW (fs : Tab) (c : Nat) (w : List Nat) : Tab := if (fs.any fun kv => decide (kv.1 = c)) = true then fs.map (fun kv => if kv.1 = c then (kv.1, w) else kv) else fs ++ [(c, w)]
theorem getW_nil (c : Nat) : getW [] c = none := rfl
theorem getW_cons (x : Nat × List Nat) (r : Tab) (c : Nat) : getW (x :: r) c = if x.1 = c then some x.2 else getW r c := by
  by_cases h : x.1 = c <;> simp [getW, List.find?_cons, h]
theorem getW_map (w : List Nat) (c j : Nat) : ∀ fs : Tab, getW (fs.map (fun kv => if kv.1 = c then (kv.1, w) else kv)) j = if j = c ∧ (fs.any fun kv => decide (kv.1 = c)) = true then some w else getW fs j
  | [] => by simp [getW_nil]
  | x :: r => by
    rw [List.map_cons, getW_cons, getW_map w c j r, getW_cons]
    by_cases hx : x.1 = c
    · rw [if_pos hx]
      by_cases hj : j = c
      · subst hj
        simp [hx]
      · have : ¬ x.1 = j := fun z => hj (z.symm.trans hx)
        simp [hj, this]
    · rw [if_neg hx]
      by_cases hxj : x.1 = j
      · have hj : j ≠ c := fun z => hx (hxj.trans z)
        simp [hxj, hj]
      · by_cases hj : j = c
        · subst hj
          rw [if_neg hxj, List.any_cons, decide_eq_false hxj, Bool.false_or, if_neg hxj]
        · simp [hxj, hj]
theorem getW_put (fs : Tab) (c j : Nat) (w : List Nat) : getW (putW fs c w) j = if j = c then some w else getW fs j := by
  unfold putW
  by_cases h : (fs.any fun kv => decide (kv.1 = c)) = true
  · rw [if_pos h, getW_map]
    simp [h]
  · rw [if_neg h]
    have hn : getW fs c = none := by
      unfold getW
      cases e : fs.find? fun kv => decide (kv.1 = c) with
      | none => rfl
      | some x => exact absurd (List.any_eq_true.mpr ⟨x, List.mem_of_find?_eq_some e, List.find?_some (p := fun kv : Nat × List Nat => decide (kv.1 = c)) e⟩) h
    have : ∀ l : Tab, getW (l ++ [(c, w)]) j = (getW l j).or (if c = j then some w else none) := by
      intro l
      induction l with
      | nil =>
        show getW [(c, w)] j = _
        rw [getW_cons, getW_nil]
        simp [getW_nil]
      | cons x r ih =>
        rw [List.cons_append, getW_cons, ih, getW_cons]
        by_cases hx : x.1 = j
        · rw [if_pos hx, if_pos hx]; rfl
        · rw [if_neg hx, if_neg hx]
    rw [this]
    by_cases hj : j = c
    · subst hj
      rw [hn, if_pos rfl]
      rfl
    · rw [if_neg hj, if_neg (fun z => hj z.symm)]
      simp
/-- of all that came the best, by its count -/
structure Best (ratio : Nat) (C : List (Nat × List Nat)) (fs : Tab) : Prop where
  none_ : ∀ t, getW fs t = none → ∀ w, (t, w) ∉ C
  some_ : ∀ t w, getW fs t = some w → (t, w) ∈ C ∧ ∀ v, (t, v) ∈ C → v = w ∨ better w v
/-- one more -/
def stepW (ratio t : Nat) (w : List Nat) (fs : Tab) : Tab := if t < ratio ∧ (getW fs t = none ∨ ∃ v, getW fs t = some v ∧ better w v) then putW fs t w else fs
theorem stepW_none {ratio t : Nat} {w : List Nat} {fs : Tab} (h : ¬ t < ratio) : stepW ratio t w fs = fs := if_neg fun z => h z.1
theorem best_step {ratio n t : Nat} {C : List (Nat × List Nat)} {fs : Tab} {w : List Nat} (b : Best ratio C fs) (hC : ∀ x ∈ C, x.2.length = n) (hw : w.length = n) (ht : t < ratio) : Best ratio (C ++ [(t, w)]) (stepW ratio t w fs) := by
  have inC : ∀ {s v}, (s, v) ∈ C ++ [(t, w)] → (s, v) ∈ C ∨ (s = t ∧ v = w) := fun {s v} h => by
    rcases List.mem_append.mp h with h | h
    · exact .inl h
    · have := List.mem_singleton.mp h
      exact .inr ⟨congrArg Prod.fst this, congrArg Prod.snd this⟩
  unfold stepW
  by_cases h : t < ratio ∧ (getW fs t = none ∨ ∃ v, getW fs t = some v ∧ better w v)
  · rw [if_pos h]
    refine ⟨fun s hs v hv => ?_, fun s v hs => ?_⟩
    · rw [getW_put] at hs
      by_cases e : s = t
      · rw [if_pos e] at hs; cases hs
      · rw [if_neg e] at hs
        rcases inC hv with h1 | h1
        · exact b.none_ s hs v h1
        · exact e h1.1
    · rw [getW_put] at hs
      by_cases e : s = t
      · rw [if_pos e] at hs
        cases hs
        subst e
        refine ⟨List.mem_append_right _ List.mem_cons_self, fun v hv => ?_⟩
        rcases inC hv with h1 | h1
        · rcases h.2 with h2 | ⟨u, h2, h3⟩
          · exact absurd h1 (b.none_ s h2 v)
          · obtain ⟨h4, h5⟩ := b.some_ s u h2
            rcases h5 v h1 with h6 | h6
            · rw [h6]; exact .inr h3
            · have l1 := hC _ h4
              have l2 := hC _ h1
              exact .inr (better_trans (hw.trans l1.symm) (l1.trans l2.symm) h3 h6)
        · exact .inl h1.2
      · rw [if_neg e] at hs
        obtain ⟨h4, h5⟩ := b.some_ s v hs
        refine ⟨List.mem_append_left _ h4, fun u hu => ?_⟩
        rcases inC hu with h1 | h1
        · exact h5 u h1
        · exact absurd h1.1 e
  · rw [if_neg h]
    have h' : ∃ u, getW fs t = some u ∧ ¬ better w u := by
      cases e : getW fs t with
      | none => exact absurd ⟨ht, .inl e⟩ h
      | some u => exact ⟨u, rfl, fun z => h ⟨ht, .inr ⟨u, e, z⟩⟩⟩
    obtain ⟨u, hu, hnb⟩ := h'
    refine ⟨fun s hs v hv => ?_, fun s v hs => ?_⟩
    · rcases inC hv with h1 | h1
      · exact b.none_ s hs v h1
      · rw [h1.1, hu] at hs; cases hs
    · obtain ⟨h4, h5⟩ := b.some_ s v hs
      refine ⟨List.mem_append_left _ h4, fun x hx => ?_⟩
      rcases inC hx with h1 | h1
      · exact h5 x h1
      · obtain ⟨rfl, rfl⟩ := h1
        rw [hu] at hs
        cases hs
        rcases better_total ((hC _ h4).trans hw.symm) with h6 | h6 | h6
        · exact .inl h6.symm
        · exact .inr h6
        · exact absurd h6 hnb
/-- the best of all ways -/
structure All (ratio : Nat) (ds : List (Nat × Nat)) (fs : Tab) : Prop where
  none_ : ∀ t, t < ratio → getW fs t = none → ∀ w, isW ds w → cntL ds w ≠ t
  some_ : ∀ t w, getW fs t = some w → t < ratio ∧ isW ds w ∧ cntL ds w = t ∧ ∀ v, isW ds v → cntL ds v = t → v = w ∨ better w v
theorem all_start {ratio : Nat} (h : 0 < ratio) : All ratio [] [(0, [])] := by
  refine ⟨fun t _ ht w hw => ?_, fun t w ht => ?_⟩
  · rw [getW_cons] at ht
    by_cases e : 0 = t
    · rw [if_pos e] at ht; cases ht
    · cases w with
      | nil => exact e
      | cons _ _ => exact hw.elim
  · rw [getW_cons] at ht
    by_cases e : 0 = t
    · rw [if_pos e] at ht
      cases ht
      refine ⟨by omega, trivial, e, fun v hv _ => ?_⟩
      cases v with
      | nil => exact .inl rfl
      | cons _ _ => exact hv.elim
    · rw [if_neg e, getW_nil] at ht
      cases ht
/-- one deck more: all that can be made of what there was -/
theorem all_deck {ratio : Nat} {ds : List (Nat × Nat)} {fs gs : Tab} {d : Nat × Nat} {C : List (Nat × List Nat)} (a : All ratio ds fs) (b : Best ratio C gs)
    (hC : ∀ t w, (t, w) ∈ C ↔ t < ratio ∧ ∃ c v k, getW fs c = some v ∧ k ≤ d.1 ∧ t = c + k * d.2 ∧ w = v ++ [k]) : All ratio (ds ++ [d]) gs := by
  have made : ∀ t x, t < ratio → isW (ds ++ [d]) x → cntL (ds ++ [d]) x = t → ∃ u k, (t, u ++ [k]) ∈ C ∧ (u ++ [k] = x ∨ better (u ++ [k]) x) ∧ (u ++ [k]).length = x.length := fun t x ht hx hc => by
    obtain ⟨w, k, rfl, hw, hk⟩ := isW_unsnoc hx
    obtain ⟨_, e2⟩ := isW_snoc hw hk
    rw [e2] at hc
    cases hg : getW fs (cntL ds w) with
    | none => exact absurd rfl (a.none_ _ (by omega) hg w hw)
    | some u =>
      obtain ⟨_, h2, h3, h4⟩ := a.some_ _ u hg
      have hl : u.length = w.length := (isW_len h2).trans (isW_len hw).symm
      refine ⟨u, k, (hC _ _).mpr ⟨ht, _, u, k, hg, hk, hc.symm, rfl⟩, ?_, by rw [List.length_append, List.length_append, hl]⟩
      rcases h4 w hw rfl with e | e
      · exact .inl (by rw [e])
      · exact .inr (better_snoc hl k e)
  refine ⟨fun t ht hg x hx hc => ?_, fun t w hg => ?_⟩
  · obtain ⟨u, k, h1, _⟩ := made t x ht hx hc
    exact b.none_ t hg _ h1
  · obtain ⟨h1, h2⟩ := b.some_ t w hg
    obtain ⟨ht, c, v, k, h3, h4, h5, rfl⟩ := (hC t w).mp h1
    obtain ⟨_, h6, h7, h8⟩ := a.some_ c v h3
    obtain ⟨g1, g2⟩ := isW_snoc h6 h4
    refine ⟨ht, g1, by rw [g2, h7, h5], fun x hx hc => ?_⟩
    obtain ⟨u, j, k1, k2, k3⟩ := made t x ht hx hc
    have lw : (v ++ [k]).length = x.length := by rw [isW_len g1, isW_len hx]
    rcases h2 _ k1 with e | e
    · rcases k2 with e2 | e2
      · exact .inl (e2.symm.trans e)
      · rw [e] at e2; exact .inr e2
    · rcases k2 with e2 | e2
      · rw [e2] at e; exact .inr e
      · exact .inr (better_trans (lw.trans k3.symm) k3 e e2)
end AbF

set_option Elab.async false
set_option linter.all false
set_option maxRecDepth 100000
set_option maxHeartbeats 4000000
namespace Ab
open PySem PySem.Spec PyProof.Rows L2 AbM AbF
theorem natV_int (w : List Nat) : natV w = (w.map fun n : Nat => ((n : Nat) : Int)).map V.int := by simp [natV]
theorem lexAt_gt (E R : Nat → Bool) : ∀ (w v : List Nat) (i : Nat), w.length = v.length → (∀ j, j < w.length → E (i + j) = decide (w.getD j 0 = v.getD j 0)) → (∀ j, j < w.length → R (i + j) = decide (v.getD j 0 < w.getD j 0)) → Ob.lexAt E R false i w.length = gtL w v
  | [], [], i, _, _, _ => rfl
  | [], _ :: _, _, h, _, _ => by cases h
  | _ :: _, [], _, h, _, _ => by cases h
  | x :: r, y :: s, i, h, hE, hR => by
    rw [List.length_cons, Ob.lexAt_succ]
    have e0 := hE 0 (by simp)
    have r0 := hR 0 (by simp)
    rw [Nat.add_zero] at e0 r0
    have ih := lexAt_gt E R r s (i + 1) (Nat.succ.inj h) (fun j hj => by
      have := hE (j + 1) (by rw [List.length_cons]; omega)
      rw [show i + 1 + j = i + (j + 1) by omega, this]
      rfl) (fun j hj => by
      have := hR (j + 1) (by rw [List.length_cons]; omega)
      rw [show i + 1 + j = i + (j + 1) by omega, this]
      rfl)
    show _ = if x = y then gtL r s else decide (y < x)
    rw [e0, r0, ih]
    show (if decide (x = y) = true then gtL r s else decide (y < x)) = _
    by_cases h2 : x = y
    · rw [if_pos (decide_eq_true h2), if_pos h2]
    · rw [if_neg (by rw [decide_eq_false h2]; exact Bool.false_ne_true), if_neg h2]
theorem sum_nat (w : List Nat) : (w.map fun n : Nat => ((n : Nat) : Int)).sum = ((sumL w : Nat) : Int) := by
  induction w with
  | nil => rfl
  | cons x r ih =>
    rw [List.map_cons, List.sum_cons, ih]
    show ((x : Nat) : Int) + ((sumL r : Nat) : Int) = ((x + sumL r : Nat) : Int)
    omega
def spIB (K : PySem.W.Frag) : Sp := fun vs H Q _ => ∃ (a b : Addr) (w v : List Nat), vs = [.ref a, .ref b] ∧ SqT K H a (natV w) ∧ SqT K H b (natV v) ∧ w.length = v.length ∧ Q (.bl (decide (better w v))) H
section
variable {P : Program} {w : World} {K : PySem.W.Frag} {mg : Str → Option Value} {base : Heap}
theorem scIB : FnScope ["way", "other"] ["way", "other"] (defScope sIB) := ⟨rfl, rfl, rfl, by decide +kernel, rfl, by decide +kernel, by decide +kernel⟩
theorem ok_IB {f : Addr} {fd : FuncData} (F : Fun K "is_better" "is_better" sIB f fd) (sm : mg "sum" = none) : FnOk P w K mg base CX0 1 f fd ["way", "other"] (spIB K) := by
  refine F.ok scIB (fun vs H Q E h => ?_) (fun cdv A outer s H vs Q E hr h => ?_)
  · obtain ⟨a, b, w, v, rfl, _⟩ := h
    rfl
  · obtain ⟨a, b, w, v, rfl, ha, hb, hl, q⟩ := h
    have S1 : ∀ {X : Cx}, X.calm = true → CallR X (.builtin "sum") (rSumT X.K) := fun h => cr_sumT h
    refine ⟨_, pss_one (ps_ret (pe_or (pe_cmpR op_lt (pe_callB (cr_sumT rfl) (by rfl) sm (by decide +kernel) (pa_cons (pv 0) pa_nil)) (pe_callB (cr_sumT rfl) (by rfl) sm (by decide +kernel) (pa_cons (pv 1) pa_nil)) (nomark _))
      (pe_one (pe_and (pe_cmpR op_eq (pe_callB (cr_sumT rfl) (by rfl) sm (by decide +kernel) (pa_cons (pv 0) pa_nil)) (pe_callB (cr_sumT rfl) (by rfl) sm (by decide +kernel) (pa_cons (pv 1) pa_nil)) (nomark _))
        (pe_one (pe_cmpR (op_gtT hr.units0) (pv 0) (pv 1) (nomark _))))))), ?_⟩
    rw [natV_int] at ha hb
    refine ⟨_, rfl, a, _, rfl, ha, _, rfl, b, _, rfl, hb, _, _, rfl, rfl, _, rfl, ?_⟩
    rw [sum_nat, sum_nat]
    by_cases h1 : sumL w < sumL v
    · rw [decide_eq_true (by omega)]
      refine iteT ?_
      have e : decide (better w v) = true := decide_eq_true (.inl h1)
      rw [← e]
      exact q
    · rw [decide_eq_false (by omega)]
      refine iteF ?_
      refine ⟨_, rfl, a, _, rfl, ha, _, rfl, b, _, rfl, hb, rfl, _, rfl, ?_⟩
      rw [sum_nat, sum_nat, eq_int]
      by_cases h2 : sumL w = sumL v
      · refine if_true_of (by rw [h2]; simp) ?_
        refine ⟨_, rfl, _, rfl, a, b, _, _, rfl, rfl, ha, hb, ?_⟩
        have hlen : (w.map fun n : Nat => ((n : Nat) : Int)).length = w.length := List.length_map _
        have hlen2 : (v.map fun n : Nat => ((n : Nat) : Int)).length = v.length := List.length_map _
        rw [hlen, hlen2, ← hl, Nat.min_self, decide_eq_false (Nat.lt_irrefl _)]
        have gd : ∀ (l : List Nat) j, (l.map fun n : Nat => ((n : Nat) : Int)).getD j 0 = ((l.getD j 0 : Nat) : Int) := fun l j => by
          rw [List.getD_eq_getElem?_getD, List.getD_eq_getElem?_getD, List.getElem?_map]
          cases l[j]? <;> rfl
        rw [lexAt_gt _ _ w v 0 hl (fun j _ => by rw [Nat.zero_add, gd, gd]; exact decide_eq_decide.mpr ⟨fun z => by omega, fun z => by omega⟩) (fun j _ => by rw [Nat.zero_add, gd, gd]; exact decide_eq_decide.mpr ⟨fun z => by omega, fun z => by omega⟩)]
        have e : decide (better w v) = gtL w v := by
          cases hg : gtL w v with
          | true => exact decide_eq_true (.inr ⟨h2, hg⟩)
          | false => exact decide_eq_false fun z => z.elim (fun y => h1 y) fun y => by rw [hg] at y; cases y.2
        rw [← e]
        exact q
      · refine if_false_of (beq_eq_false_iff_ne.mpr (by omega)) ?_
        have e : decide (better w v) = false := decide_eq_false fun z => z.elim h1 fun y => h2 y.1
        rw [← e]
        exact q
end
end Ab

set_option Elab.async false
set_option linter.all false
set_option maxRecDepth 100000
set_option maxHeartbeats 4000000
namespace Ab
open PySem PySem.Spec PyProof.Rows L2 AbM AbF
/-- a table in the heap: counts as they stand, ways as tuples -/
inductive Fd (H : Hp) : List (L2.Key × V) → Tab → Prop
  | nil : Fd H [] []
  | cons {c : Nat} {w : List Nat} {t : Addr} {kvs : List (L2.Key × V)} {fs : Tab} : H t = some (.tup (natV w)) → Fd H kvs fs → Fd H ((Sum.inl ((c : Nat) : Int), .ref t) :: kvs) ((c, w) :: fs)
theorem Fd.len {H : Hp} {kvs : List (L2.Key × V)} {fs : Tab} (h : Fd H kvs fs) : kvs.length = fs.length := by
  induction h with
  | nil => rfl
  | cons _ _ ih => rw [List.length_cons, List.length_cons, ih]
theorem Fd.imp {H H' : Hp} {kvs : List (L2.Key × V)} {fs : Tab} (h : Fd H kvs fs) (k : ∀ t xs, H t = some (.tup xs) → H' t = some (.tup xs)) : Fd H' kvs fs := by
  induction h with
  | nil => exact .nil
  | cons e _ ih => exact .cons (k _ _ e) ih
theorem Fd.at {H : Hp} {kvs : List (L2.Key × V)} {fs : Tab} (h : Fd H kvs fs) : ∀ {i : Nat} {k : L2.Key} {v : V}, kvs[i]? = some (k, v) → ∃ c w t, fs[i]? = some (c, w) ∧ k = Sum.inl ((c : Nat) : Int) ∧ v = .ref t ∧ H t = some (.tup (natV w)) := by
  induction h with
  | nil => intro i k v e; cases e
  | @cons c w t kvs fs e _ ih =>
    intro i k v g
    cases i with
    | zero => cases g; exact ⟨c, w, t, rfl, rfl, rfl, e⟩
    | succ i => exact ih g
theorem key_ne {c d : Nat} (h : c ≠ d) : (Sum.inl ((c : Nat) : Int) : L2.Key) ≠ Sum.inl ((d : Nat) : Int) := fun z => h (Int.ofNat.inj (Sum.inl.inj z))
theorem Fd.get {H : Hp} {kvs : List (L2.Key × V)} {fs : Tab} (h : Fd H kvs fs) (c : Nat) : (getW fs c = none → valV kvs (Sum.inl ((c : Nat) : Int)) = none) ∧ ∀ w, getW fs c = some w → ∃ t, valV kvs (Sum.inl ((c : Nat) : Int)) = some (.ref t) ∧ H t = some (.tup (natV w)) := by
  induction h with
  | nil => exact ⟨fun _ => rfl, fun w e => by cases e⟩
  | @cons d w t kvs fs e _ ih =>
    rw [getW_cons]
    by_cases hd : d = c
    · subst hd
      rw [if_pos rfl, valV_pos rfl]
      exact ⟨fun z => (nomatch z), fun w' z => by cases z; exact ⟨t, rfl, e⟩⟩
    · rw [if_neg hd, valV_neg (key_ne hd)]
      exact ih
theorem Fd.any {H : Hp} {kvs : List (L2.Key × V)} {fs : Tab} (h : Fd H kvs fs) (c : Nat) : (kvs.any fun kv => decide (kv.1 = Sum.inl ((c : Nat) : Int))) = fs.any fun kv => decide (kv.1 = c) := by
  induction h with
  | nil => rfl
  | @cons d w t kvs fs e _ ih =>
    rw [List.any_cons, List.any_cons, ih]
    congr 1
    exact decide_eq_decide.mpr ⟨fun z => Int.ofNat.inj (Sum.inl.inj z), fun z => by rw [show d = c from z]⟩
theorem Fd.put {H : Hp} {kvs : List (L2.Key × V)} {fs : Tab} (h : Fd H kvs fs) {c : Nat} {w : List Nat} {t : Addr} (ht : H t = some (.tup (natV w))) : Fd H (putK kvs (Sum.inl ((c : Nat) : Int)) (.ref t)) (putW fs c w) := by
  have ha := h.any c
  unfold putK putW
  rw [ha]
  by_cases he : (fs.any fun kv => decide (kv.1 = c)) = true
  · rw [if_pos he, if_pos he]
    clear he ha
    induction h with
    | nil => exact .nil
    | @cons d v u kvs fs e _ ih =>
      rw [List.map_cons, List.map_cons]
      by_cases hd : d = c
      · subst hd
        rw [if_pos rfl, if_pos rfl]
        exact .cons ht ih
      · rw [if_neg (key_ne hd), if_neg hd]
        exact .cons e ih
  · rw [if_neg he, if_neg he]
    clear he ha
    induction h with
    | nil => exact .cons ht .nil
    | cons e _ ih => exact .cons e ih
theorem nodup_put {fs : Tab} (h : (fs.map (·.1)).Nodup) (c : Nat) (w : List Nat) : ((putW fs c w).map (·.1)).Nodup := by
  unfold putW
  by_cases he : (fs.any fun kv => decide (kv.1 = c)) = true
  · rw [if_pos he, List.map_map]
    have : (fun x : Nat × List Nat => x.1) ∘ (fun kv : Nat × List Nat => if kv.1 = c then (kv.1, w) else kv) = fun x => x.1 := by
      funext x
      show (if x.1 = c then (x.1, w) else x).1 = x.1
      split <;> rfl
    rw [this]
    exact h
  · rw [if_neg he, List.map_append]
    refine List.nodup_append.mpr ⟨h, by simp, ?_⟩
    intro a ha b hb
    have hb' : b = c := by simpa using hb
    subst hb'
    intro z
    subst z
    obtain ⟨x, hx, e⟩ := List.mem_map.mp ha
    exact he (List.any_eq_true.mpr ⟨x, hx, decide_eq_true e⟩)
theorem put_len (fs : Tab) (c : Nat) (w : List Nat) : (putW fs c w).length ≤ fs.length + 1 := by
  unfold putW
  split
  · rw [List.length_map]; omega
  · rw [List.length_append]; simp
theorem getW_at : ∀ {fs : Tab} {i c : Nat} {w : List Nat}, (fs.map (·.1)).Nodup → fs[i]? = some (c, w) → getW fs c = some w
  | [], i, c, w, _, h => by cases h
  | x :: r, i, c, w, hn, h => by
    rw [List.map_cons, List.nodup_cons] at hn
    rw [getW_cons]
    cases i with
    | zero =>
      cases h
      rw [if_pos rfl]
    | succ i =>
      have h' : r[i]? = some (c, w) := h
      have hne : x.1 ≠ c := fun z => hn.1 (List.mem_map.mpr ⟨(c, w), List.mem_of_getElem? h', z.symm⟩)
      rw [if_neg hne]
      exact getW_at hn.2 h'
theorem at_getW : ∀ {fs : Tab} {c : Nat} {w : List Nat}, getW fs c = some w → ∃ i : Nat, fs[i]? = some (c, w)
  | [], c, w, h => by cases h
  | x :: r, c, w, h => by
    rw [getW_cons] at h
    by_cases e : x.1 = c
    · rw [if_pos e] at h
      cases h
      exact ⟨0, by rw [← e]; rfl⟩
    · rw [if_neg e] at h
      obtain ⟨i, hi⟩ := at_getW h
      exact ⟨i + 1, hi⟩
def spFF : Sp := fun vs H Q _ => ∃ (r : Nat) (B W : Addr) (bs ws : List Nat), vs = [.int ((r : Nat) : Int), .ref B, .ref W] ∧ H B = some (.lst (natV bs)) ∧ H W = some (.lst (natV ws)) ∧ bs.length = 3 ∧ ws.length = 3 ∧ 2 ≤ r ∧ r ≤ 20 ∧ (∀ x ∈ bs, x ≤ 15) ∧ (∀ x ∈ ws, x ≤ 63) ∧
  ∀ (H' : Hp) (F : Addr) (kvs : List (L2.Key × V)) (fs : Tab), Same H H' → H F = none → H' F = some (.dK kvs) → Fd H' kvs fs → All r (bs.zip ws) fs → (fs.map (·.1)).Nodup → fs.length ≤ 4096 → Q (.ref F) H'
/-- what has come so far: all that is made of the first i ways, of way i with fewer than k beads -/
def Came (ratio : Nat) (fs : Tab) (d : Nat × Nat) (i k : Nat) (C : List (Nat × List Nat)) : Prop := ∀ t w, (t, w) ∈ C ↔ t < ratio ∧ ∃ j c v q, fs[j]? = some (c, v) ∧ (j < i ∧ q ≤ d.1 ∨ j = i ∧ q < k) ∧ t = c + q * d.2 ∧ w = v ++ [q]
theorem came_start (ratio : Nat) (fs : Tab) (d : Nat × Nat) : Came ratio fs d 0 0 [] := fun t w => ⟨fun h => (nomatch h), fun ⟨_, j, c, v, q, _, h, _⟩ => absurd h (by omega)⟩
theorem came_next {ratio : Nat} {fs : Tab} {d : Nat × Nat} {i : Nat} {C : List (Nat × List Nat)} (h : Came ratio fs d i (d.1 + 1) C) : Came ratio fs d (i + 1) 0 C := fun t w => by
  rw [h t w]
  constructor
  · rintro ⟨h1, j, c, v, q, h2, h3, h4⟩
    exact ⟨h1, j, c, v, q, h2, .inl (by rcases h3 with h3 | h3 <;> omega), h4⟩
  · rintro ⟨h1, j, c, v, q, h2, h3, h4⟩
    refine ⟨h1, j, c, v, q, h2, ?_, h4⟩
    rcases h3 with ⟨h3, h5⟩ | h3
    · by_cases e : j = i
      · exact .inr ⟨e, by omega⟩
      · exact .inl ⟨by omega, h5⟩
    · omega
theorem came_one {ratio : Nat} {fs : Tab} {d : Nat × Nat} {i k c : Nat} {v : List Nat} {C : List (Nat × List Nat)} (h : Came ratio fs d i k C) (hi : fs[i]? = some (c, v)) (ht : c + k * d.2 < ratio) : Came ratio fs d i (k + 1) (C ++ [(c + k * d.2, v ++ [k])]) := fun t w => by
  constructor
  · intro hm
    rcases List.mem_append.mp hm with hm | hm
    · obtain ⟨h1, j, c', v', q, h2, h3, h4⟩ := (h t w).mp hm
      exact ⟨h1, j, c', v', q, h2, by omega, h4⟩
    · have e := List.mem_singleton.mp hm
      have e1 : t = c + k * d.2 := congrArg Prod.fst e
      have e2 : w = v ++ [k] := congrArg Prod.snd e
      exact ⟨by omega, i, c, v, k, hi, .inr ⟨rfl, Nat.lt_succ_self _⟩, e1, e2⟩
  · rintro ⟨h1, j, c', v', q, h2, h3, h4, h5⟩
    by_cases e : j = i ∧ q = k
    · obtain ⟨rfl, rfl⟩ := e
      rw [hi] at h2
      cases h2
      exact List.mem_append_right _ (by rw [h4, h5]; exact List.mem_cons_self)
    · exact List.mem_append_left _ ((h t w).mpr ⟨h1, j, c', v', q, h2, by omega, h4, h5⟩)
theorem came_skip {ratio : Nat} {fs : Tab} {d : Nat × Nat} {i k c : Nat} {v : List Nat} {C : List (Nat × List Nat)} (h : Came ratio fs d i k C) (hi : fs[i]? = some (c, v)) (ht : ¬ c + k * d.2 < ratio) : Came ratio fs d i (k + 1) C := fun t w => by
  rw [h t w]
  constructor
  · rintro ⟨h1, j, c', v', q, h2, h3, h4⟩
    exact ⟨h1, j, c', v', q, h2, by omega, h4⟩
  · rintro ⟨h1, j, c', v', q, h2, h3, h4, h5⟩
    by_cases e : j = i ∧ q = k
    · obtain ⟨rfl, rfl⟩ := e
      rw [hi] at h2
      cases h2
      exact absurd h1 (by omega)
    · exact ⟨h1, j, c', v', q, h2, by omega, h4, h5⟩
section
variable {P : Program} {w : World} {K : PySem.W.Frag} {mg : Str → Option Value} {base : Heap}
theorem scFF : FnScope ["ratio", "beads", "worths", "forms", "deck_beads", "worth", "longer", "count", "pushed", "total", "way"] ["ratio", "beads", "worths"] (defScope sFF) := ⟨rfl, rfl, rfl, by decide +kernel, rfl, by decide +kernel, by decide +kernel⟩
theorem ok_FF {f fIB : Addr} {fd fdIB : FuncData} (F : Fun K "find_forms" "find_forms" sFF f fd) (zp : mg "zip" = none) (rg : mg "range" = none)
    (gI : mg "is_better" = some (.ref fIB)) (kI : PySem.W.keepIn K (.ref fIB) = true) (GI : FnOk P w K mg base CX0 1 fIB fdIB ["way", "other"] (spIB K)) (bI : Binds K fdIB ["way", "other"] []) :
    FnOk P w K mg base CX0 2 f fd ["ratio", "beads", "worths"] spFF := by
  refine F.ok scFF (fun vs H Q E h => ?_) (fun cdv A outer s H vs Q E hr h => ?_)
  · obtain ⟨r, B, W, bs, ws, rfl, _⟩ := h
    rfl
  · obtain ⟨r, B, W, bs, ws, rfl, eB, eW, lb, lw, r2, r20, hb15, hw63, q⟩ := h
    have hu := hu_of hr
    refine ⟨_, pss_cons (ps_set (i := 3) scFF.nd rfl (Or.inl rfl) (pe_disp (pps_cons pe_int (pe_tup pa_nil) pps_nil) (by rfl) (by rfl) (fun z => by cases z) (by decide)))
      (pss_cons (ps_for PassesOwn.never rfl (pi_zip (by rfl) zp (pa_cons (pv 1) (pa_cons (pv 2) pa_nil))) (pg_tup rfl (pgs_cons (pg_name (i := 4) scFF.nd rfl (Or.inl rfl)) (pgs_cons (pg_name (i := 5) scFF.nd rfl (Or.inl rfl)) pgs_nil)))
        (pss_cons (ps_set (i := 6) scFF.nd rfl (Or.inl rfl) pe_dnewK)
        (pss_cons (ps_lock (ps_for PassesOwn.never rfl (pi_keys (pv 3)) (pg_name (i := 7) scFF.nd rfl (Or.inl rfl))
          (pss_one (ps_for PassesOwn.never rfl (pi_range1 rfl rg (pa_cons (pe_op op_add (pv 4) pe_int) pa_nil)) (pg_name (i := 8) scFF.nd rfl (Or.inl rfl))
            (pss_cons (ps_set (i := 9) scFF.nd rfl (Or.inl rfl) (pe_op op_add (pv 7) (pe_op op_mul (pv 8) (pv 5))))
            (pss_cons (ps_set (i := 10) scFF.nd rfl (Or.inl rfl) (pe_op op_catA (pe_dget hu (pv 3) (pv 7) (fun _ _ => rfl)) (pe_tup (pa_cons (pv 8) pa_nil))))
            (pss_one (ps_if (PW.pt (pw_and (pt_cmpR op_lt (pv 9) (pv 0) (nomark _)) (pw_and1 (PW.pt (pw_or (pt_cmp (pc_dnotin hu (pv 9) (pv 6))) (pw_or1 (pt_val (pe_call GI hr rfl gI kI bI .nil pass0 (pa_cons (pv 10) (pa_cons (pe_dget hu (pv 6) (pv 9) (fun _ _ => rfl)) pa_nil))))))))))
              (pss_one (ps_dput hu (pv 6) (pv 9) (pv 10) rfl)) pss_nil))))))))
        (pss_one (ps_set (i := 3) scFF.nd rfl (Or.inl rfl) (pv 6))))))
      (pss_one (ps_ret (pv 3)))), ?_⟩
    refine fun F0 nF0 => ⟨Nat.zero_le _, fun t0 nt0 => ⟨?_, [(Sum.inl ((0 : Nat) : Int), .ref t0)], rfl, by show 1 ≤ 15; decide, ?_⟩⟩
    · rw [upd_ne (fun z => by rw [← z, upd_same] at nt0; cases nt0), upd_same]
    have ntF : t0 ≠ F0 := fun z => by rw [z, upd_same] at nt0; cases nt0
    have nt0H : H t0 = none := by rw [upd_ne ntF] at nt0; exact nt0
    have smA : Same H (upd (upd (upd H F0 (.dK [])) t0 (.tup [])) F0 (.dK (mergeK [] [(Sum.inl ((0 : Nat) : Int), .ref t0)]))) := fun b o e => by
      rw [upd_ne (ne_of_none e nF0), upd_ne (ne_of_none e nt0H), upd_ne (ne_of_none e nF0)]
      exact e
    refine ⟨_, rfl, _, rfl, B, W, natV bs, natV ws, rfl, SqL.of (smA _ _ eB), SqL.of (smA _ _ eW), for_it (walk_zip (n := 3) (by rw [natV_len, natV_len, lb, lw]; rfl)) (fun j σ' H1 => ∃ (F : Addr) (kvs : List (L2.Key × V)) (fs : Tab) (v4 v5 v6 v7 v8 v9 v10 : Option V), σ' = [some (.int ((r : Nat) : Int)), some (.ref B), some (.ref W), some (.ref F), v4, v5, v6, v7, v8, v9, v10] ∧ Same H H1 ∧ H F = none ∧ H1 F = some (.dK kvs) ∧ Fd H1 kvs fs ∧
        All r ((bs.zip ws).take j) fs ∧ (fs.map (·.1)).Nodup ∧ fs.length ≤ 16 ^ j)
      ⟨F0, _, [(0, [])], _, _, _, _, _, _, _, rfl, smA, nF0, upd_same, .cons (by rw [upd_ne ntF, upd_same]; rfl) .nil, all_start (by omega), by simp, Nat.le_refl _⟩ (fun j σ' H1 _ ⟨F, kvs, fs, _, _, _, _, _, _, _, _, sm, _⟩ => ⟨SqL.of (sm _ _ eB), SqL.of (sm _ _ eW)⟩) ?_ ?_⟩
    · rintro j y σ' H1 H2 hj ⟨F, kvs, fs, v4, v5, v6, v7, v8, v9, v10, rfl, sm, nF, eF, hfd, hall, hnd, hlen⟩ ⟨T, x, z, rfl, nT, rfl, hx, hz⟩
      obtain ⟨b, hb, rfl⟩ : ∃ b, bs[j]? = some b ∧ x = .int ((b : Nat) : Int) := by
        have hx' : (natV bs)[j]? = some x := hx
        rw [List.getElem?_map] at hx'
        cases e : bs[j]? with
        | none => rw [e] at hx'; cases hx'
        | some b => rw [e] at hx'; exact ⟨b, rfl, (Option.some.inj hx').symm⟩
      obtain ⟨wv, hw, rfl⟩ : ∃ wv, ws[j]? = some wv ∧ z = .int ((wv : Nat) : Int) := by
        have hz' : (natV ws)[j]? = some z := hz
        rw [List.getElem?_map] at hz'
        cases e : ws[j]? with
        | none => rw [e] at hz'; cases hz'
        | some b => rw [e] at hz'; exact ⟨b, rfl, (Option.some.inj hz').symm⟩
      have b15 : b ≤ 15 := hb15 b (List.mem_of_getElem? hb)
      have w63 : wv ≤ 63 := hw63 wv (List.mem_of_getElem? hw)
      have hds : (bs.zip ws).take (j + 1) = (bs.zip ws).take j ++ [(b, wv)] := by
        rw [List.take_add_one, List.getElem?_zip_eq_some (z := (b, wv)).mpr ⟨hb, hw⟩]
        rfl
      have hdl : ((bs.zip ws).take j).length = j := by
        rw [List.length_take, List.length_zip, lb, lw]
        omega
      refine ⟨T, _, rfl, SqT.of upd_same, rfl, _, _, rfl, _, _, rfl, rfl, ?_⟩
      have sm2 : Same H (upd H1 T (.tup [.int ((b : Nat) : Int), .int ((wv : Nat) : Int)])) := sm.trans (same_upd nT)
      have eF2 := same_upd (o := .tup [.int ((b : Nat) : Int), .int ((wv : Nat) : Int)]) nT _ _ eF
      have hfd2 : Fd (upd H1 T (.tup [.int ((b : Nat) : Int), .int ((wv : Nat) : Int)])) kvs fs := hfd.imp fun t xs e => same_upd nT _ _ e
      generalize upd H1 T (.tup [.int ((b : Nat) : Int), .int ((wv : Nat) : Int)]) = H2 at sm2 eF2 hfd2
      refine fun g ng => ?_
      have nFg : F ≠ g := ne_of_none eF2 ng
      have ngH : H g = none := by
        cases e : H g with
        | none => rfl
        | some u => rw [sm2 _ _ e] at ng; cases ng
      refine ⟨F, .dK kvs, by rw [upd_ne nFg]; exact eF2, trivial, fun od => ?_⟩
      have upF : ∀ {H3 : Hp} {o : HO}, Same H H3 → Same H (upd H3 F o) := fun h c u e => by
        rw [upd_ne (ne_of_none e nF)]
        exact h c u e
      have upg : ∀ {H3 : Hp} {o : HO}, Same H H3 → Same H (upd H3 g o) := fun h c u e => by
        rw [upd_ne (ne_of_none e ngH)]
        exact h c u e
      refine ⟨_, rfl, F, od, rfl, .inl ⟨kvs, upd_same, for_it walk_keys (fun i σ' H3 => ∃ (gk : List (L2.Key × V)) (gs : Tab) (C : List (Nat × List Nat)) (v7 v8 v9 v10 : Option V), σ' = [some (.int ((r : Nat) : Int)), some (.ref B), some (.ref W), some (.ref F), some (.int ((b : Nat) : Int)), some (.int ((wv : Nat) : Int)), some (.ref g), v7, v8, v9, v10] ∧ Same H H3 ∧ H3 F = some (.frz od (.dK kvs)) ∧ Fd H3 kvs fs ∧ H3 g = some (.dK gk) ∧ Fd H3 gk gs ∧
          Best r C gs ∧ (∀ x ∈ C, x.2.length = j + 1) ∧ Came r fs (b, wv) i 0 C ∧ (gs.map (·.1)).Nodup ∧ gs.length ≤ i * 16)
        ⟨[], [], [], _, _, _, _, rfl, upF (upg sm2), upd_same, hfd2.imp fun t xs e => ?_, by rw [upd_ne (Ne.symm nFg), upd_same], .nil, ⟨fun t _ w h => (nomatch h), fun t w h => (nomatch h)⟩, fun x h => (nomatch h), came_start r fs (b, wv), by simp, Nat.zero_le _⟩ (fun i σ' H3 _ ⟨_, _, _, _, _, _, _, _, _, e, _⟩ => e) ?_ ?_⟩⟩
      · rw [upd_ne (fun z => by rw [z, eF2] at e; cases e), upd_ne (ne_of_none e ng)]
        exact e
      · rintro i y σ' H3 H4 hi ⟨gk, gs, C, v7', v8', v9', v10', rfl, sm3, eF3, hfd3, eg3, hgd, hbest, hCl, hcame, hgn, hgl⟩ ⟨rfl, kk, vv, hkv, rfl⟩
        obtain ⟨c, v, tv, hfi, rfl, rfl, etv⟩ := hfd3.at hkv
        have hg := getW_at hnd hfi
        obtain ⟨hcr, hisw, _, _⟩ := hall.some_ c v hg
        have hvl : v.length = j := (isW_len hisw).trans hdl
        have hfl : fs.length ≤ 4096 := Nat.le_trans hlen (Nat.pow_le_pow_right (n := 16) (by decide) (by omega : j ≤ 3))
        have hi4 : i < fs.length := (List.getElem?_eq_some_iff.mp hfi).1
        refine ⟨_, rfl, _, _, rfl, rfl, _, rfl, by omega, by omega, ?_⟩
        have hn : (((b : Nat) : Int) + 1).toNat = b + 1 := by omega
        rw [hn]
        refine for_range (lo := 0) (n := b + 1) (fun k σ' H4 => ∃ (gk : List (L2.Key × V)) (gs : Tab) (C : List (Nat × List Nat)) (v8 v9 v10 : Option V), σ' = [some (.int ((r : Nat) : Int)), some (.ref B), some (.ref W), some (.ref F), some (.int ((b : Nat) : Int)), some (.int ((wv : Nat) : Int)), some (.ref g), some (.int ((c : Nat) : Int)), v8, v9, v10] ∧ Same H H4 ∧ H4 F = some (.frz od (.dK kvs)) ∧ Fd H4 kvs fs ∧ H4 g = some (.dK gk) ∧ Fd H4 gk gs ∧
            Best r C gs ∧ (∀ x ∈ C, x.2.length = j + 1) ∧ Came r fs (b, wv) i k C ∧ (gs.map (·.1)).Nodup ∧ gs.length ≤ i * 16 + k)
          ⟨gk, gs, C, _, _, _, rfl, sm3, eF3, hfd3, eg3, hgd, hbest, hCl, hcame, hgn, hgl⟩ ?_ ?_
        · rintro k σ' H4 hk ⟨gk, gs, C, v8'', v9'', v10'', rfl, sm4, eF4, hfd4, eg4, hgd4, hbest, hCl, hcame, hgn, hgl⟩
          rw [Int.zero_add]
          obtain ⟨tv4, hget4, etv4⟩ := (hfd4.get c).2 v hg
          have ek : ((c : Nat) : Int) + ((k : Nat) : Int) * ((wv : Nat) : Int) = ((c + k * wv : Nat) : Int) := by
            rw [Int.natCast_add, Int.natCast_mul]
          refine ⟨_, rfl, _, rfl, _, rfl, _, _, rfl, rfl, .inl ⟨by omega, by omega⟩, _, _, rfl, rfl, ?_⟩
          refine ⟨_, rfl, _, rfl, F, .ref tv4, rfl, .inl ⟨kvs, Sum.inl ((c : Nat) : Int), .inr ⟨od, eF4⟩, rfl, hget4.symm⟩, _, rfl, by show 1 ≤ sizeLine; exact small5' (by decide), fun t1 nt1 => ?_⟩
          have eT4 : (upd H4 t1 (.tup [.int ((k : Nat) : Int)])) tv4 = some (.tup (natV v)) := same_upd nt1 _ _ etv4
          refine ⟨tv4, t1, natV v, _, rfl, rfl, SqT.of eT4, SqT.of upd_same, small5' (by rw [natV_len, hvl]; show j + 1 ≤ 100000; omega), fun hv => ?_, fun _ hy => absurd hy (by simp), fun _ _ p np => ?_⟩
          · have hv0 : v = [] := by
              cases v with
              | nil => rfl
              | cons _ _ => cases hv
            have etw : (upd H4 t1 (.tup [.int ((k : Nat) : Int)])) t1 = some (.tup (natV (v ++ [k]))) := by rw [upd_same, hv0]; rfl
            have smK : Same H4 (upd H4 t1 (.tup [.int ((k : Nat) : Int)])) := same_upd nt1
            generalize upd H4 t1 (.tup [.int ((k : Nat) : Int)]) = H5 at etw smK
            generalize t1 = tw at etw
            have sm5 : Same H H5 := sm4.trans smK
            have eF5 := smK _ _ eF4
            have eg5 := smK _ _ eg4
            have hfd5 : Fd H5 kvs fs := hfd4.imp fun t xs e => smK _ _ e
            have hgd5 : Fd H5 gk gs := hgd4.imp fun t xs e => smK _ _ e
            have hwl : (v ++ [k]).length = j + 1 := by rw [List.length_append, hvl]; rfl
            refine ⟨_, rfl, _, rfl, _, _, rfl, rfl, _, rfl, ?_⟩
            by_cases hlt : c + k * wv < r
            · refine if_true_of (decide_eq_true (by have := ek; omega)) ?_
              have hb' := best_step hbest hCl hwl hlt
              have hc' := came_one hcame hfi hlt
              have hCl' : ∀ x ∈ C ++ [(c + k * wv, v ++ [k])], x.2.length = j + 1 := fun x hx => by
                rcases List.mem_append.mp hx with h | h
                · exact hCl x h
                · rw [List.mem_singleton.mp h]; exact hwl
              have hgl5 : gs.length < sizeLine := small5 (by omega)
              have put : stepW r (c + k * wv) (v ++ [k]) gs = putW gs (c + k * wv) (v ++ [k]) → DPut H5 g (.int ((c + k * wv : Nat) : Int)) (.ref tw) (upd H5 g (.dK (putK gk (Sum.inl ((c + k * wv : Nat) : Int)) (.ref tw)))) ∧ ∃ (gk' : List (L2.Key × V)) (gs' : Tab) (C' : List (Nat × List Nat)) (v8 v9 v10 : Option V), [some (V.int ((r : Nat) : Int)), some (.ref B), some (.ref W), some (.ref F), some (.int ((b : Nat) : Int)), some (.int ((wv : Nat) : Int)), some (.ref g), some (.int ((c : Nat) : Int)), some (.int ((k : Nat) : Int)), some (.int ((c + k * wv : Nat) : Int)), some (.ref tw)] = [some (V.int ((r : Nat) : Int)), some (.ref B), some (.ref W), some (.ref F), some (.int ((b : Nat) : Int)), some (.int ((wv : Nat) : Int)), some (.ref g), some (.int ((c : Nat) : Int)), v8, v9, v10] ∧ Same H (upd H5 g (.dK (putK gk (Sum.inl ((c + k * wv : Nat) : Int)) (.ref tw)))) ∧ (upd H5 g (.dK (putK gk (Sum.inl ((c + k * wv : Nat) : Int)) (.ref tw)))) F = some (.frz od (.dK kvs)) ∧ Fd (upd H5 g (.dK (putK gk (Sum.inl ((c + k * wv : Nat) : Int)) (.ref tw)))) kvs fs ∧ (upd H5 g (.dK (putK gk (Sum.inl ((c + k * wv : Nat) : Int)) (.ref tw)))) g = some (.dK gk') ∧ Fd (upd H5 g (.dK (putK gk (Sum.inl ((c + k * wv : Nat) : Int)) (.ref tw)))) gk' gs' ∧
                  Best r C' gs' ∧ (∀ x ∈ C', x.2.length = j + 1) ∧ Came r fs (b, wv) i (k + 1) C' ∧ (gs'.map (·.1)).Nodup ∧ gs'.length ≤ i * 16 + (k + 1) := fun hp => by
                have ntup : ∀ t xs, H5 t = some (.tup xs) → (upd H5 g (.dK (putK gk (Sum.inl ((c + k * wv : Nat) : Int)) (.ref tw)))) t = some (.tup xs) := fun t xs e => by
                  rw [upd_ne (fun z => by rw [z, eg5] at e; cases e)]
                  exact e
                rw [hp] at hb'
                have hpl := put_len gs (c + k * wv) (v ++ [k])
                refine ⟨DPut.k (k := Sum.inl ((c + k * wv : Nat) : Int)) eg5 (by rw [hgd5.len]; exact hgl5), _, _, _, _, _, _, rfl, upg sm5, by rw [upd_ne nFg]; exact eF5, hfd5.imp ntup, upd_same, (hgd5.put etw).imp ntup, hb', hCl', hc', nodup_put hgn _ _, by omega⟩
              have stay : stepW r (c + k * wv) (v ++ [k]) gs = gs → ∃ (gk' : List (L2.Key × V)) (gs' : Tab) (C' : List (Nat × List Nat)) (v8 v9 v10 : Option V), [some (V.int ((r : Nat) : Int)), some (.ref B), some (.ref W), some (.ref F), some (.int ((b : Nat) : Int)), some (.int ((wv : Nat) : Int)), some (.ref g), some (.int ((c : Nat) : Int)), some (.int ((k : Nat) : Int)), some (.int ((c + k * wv : Nat) : Int)), some (.ref tw)] = [some (V.int ((r : Nat) : Int)), some (.ref B), some (.ref W), some (.ref F), some (.int ((b : Nat) : Int)), some (.int ((wv : Nat) : Int)), some (.ref g), some (.int ((c : Nat) : Int)), v8, v9, v10] ∧ Same H H5 ∧ H5 F = some (.frz od (.dK kvs)) ∧ Fd H5 kvs fs ∧ H5 g = some (.dK gk') ∧ Fd H5 gk' gs' ∧
                  Best r C' gs' ∧ (∀ x ∈ C', x.2.length = j + 1) ∧ Came r fs (b, wv) i (k + 1) C' ∧ (gs'.map (·.1)).Nodup ∧ gs'.length ≤ i * 16 + (k + 1) := fun hp => by
                rw [hp] at hb'
                exact ⟨gk, gs, _, _, _, _, rfl, sm5, eF5, hfd5, eg5, hgd5, hb', hCl', hc', hgn, by omega⟩
              refine ⟨_, rfl, _, rfl, g, _, rfl, DGet.k (k := Sum.inl ((c + k * wv : Nat) : Int)) eg5, _, rfl, ?_⟩
              cases hgt : getW gs (c + k * wv) with
              | none =>
                rw [(hgd5.get (c + k * wv)).1 hgt]
                refine if_true_of rfl ?_
                obtain ⟨p1, p2⟩ := put (if_pos ⟨hlt, .inl hgt⟩)
                exact ⟨_, rfl, _, rfl, _, rfl, g, _, rfl, p1, p2⟩
              | some ow =>
                obtain ⟨tow, hvow, etow⟩ := (hgd5.get (c + k * wv)).2 ow hgt
                rw [hvow]
                refine if_false_of rfl ?_
                have how : ow.length = j + 1 := hCl _ (hbest.some_ _ _ hgt).1
                refine ⟨_, rfl, _, rfl, _, rfl, g, .ref tow, rfl, .inl ⟨gk, Sum.inl ((c + k * wv : Nat) : Int), .inl eg5, rfl, hvow.symm⟩, tw, tow, v ++ [k], ow, rfl, SqT.of etw, SqT.of etow, hwl.trans how.symm, _, rfl, ?_⟩
                by_cases hbt : better (v ++ [k]) ow
                · refine if_true_of (decide_eq_true hbt) ?_
                  obtain ⟨p1, p2⟩ := put (if_pos ⟨hlt, .inr ⟨ow, hgt, hbt⟩⟩)
                  exact ⟨_, rfl, _, rfl, _, rfl, g, _, rfl, p1, p2⟩
                · refine if_false_of (decide_eq_false hbt) ?_
                  exact stay (if_neg fun z => z.2.elim (fun y => by rw [hgt] at y; cases y) fun ⟨u, y1, y2⟩ => by rw [hgt] at y1; cases y1; exact hbt y2)
            · refine if_false_of (decide_eq_false (by have := ek; omega)) ?_
              refine if_false_of rfl ?_
              exact ⟨gk, gs, C, _, _, _, rfl, sm5, eF5, hfd5, eg5, hgd5, hbest, hCl, came_skip hcame hfi hlt, hgn, by omega⟩
          · have etw : (upd (upd H4 t1 (.tup [.int ((k : Nat) : Int)])) p (.tup (natV v ++ [.int ((k : Nat) : Int)]))) p = some (.tup (natV (v ++ [k]))) := by rw [upd_same, natV_snoc]
            have smK : Same H4 (upd (upd H4 t1 (.tup [.int ((k : Nat) : Int)])) p (.tup (natV v ++ [.int ((k : Nat) : Int)]))) := (same_upd nt1).trans (same_upd np)
            generalize upd (upd H4 t1 (.tup [.int ((k : Nat) : Int)])) p (.tup (natV v ++ [.int ((k : Nat) : Int)])) = H5 at etw smK
            generalize p = tw at etw
            have sm5 : Same H H5 := sm4.trans smK
            have eF5 := smK _ _ eF4
            have eg5 := smK _ _ eg4
            have hfd5 : Fd H5 kvs fs := hfd4.imp fun t xs e => smK _ _ e
            have hgd5 : Fd H5 gk gs := hgd4.imp fun t xs e => smK _ _ e
            have hwl : (v ++ [k]).length = j + 1 := by rw [List.length_append, hvl]; rfl
            refine ⟨_, rfl, _, rfl, _, _, rfl, rfl, _, rfl, ?_⟩
            by_cases hlt : c + k * wv < r
            · refine if_true_of (decide_eq_true (by have := ek; omega)) ?_
              have hb' := best_step hbest hCl hwl hlt
              have hc' := came_one hcame hfi hlt
              have hCl' : ∀ x ∈ C ++ [(c + k * wv, v ++ [k])], x.2.length = j + 1 := fun x hx => by
                rcases List.mem_append.mp hx with h | h
                · exact hCl x h
                · rw [List.mem_singleton.mp h]; exact hwl
              have hgl5 : gs.length < sizeLine := small5 (by omega)
              have put : stepW r (c + k * wv) (v ++ [k]) gs = putW gs (c + k * wv) (v ++ [k]) → DPut H5 g (.int ((c + k * wv : Nat) : Int)) (.ref tw) (upd H5 g (.dK (putK gk (Sum.inl ((c + k * wv : Nat) : Int)) (.ref tw)))) ∧ ∃ (gk' : List (L2.Key × V)) (gs' : Tab) (C' : List (Nat × List Nat)) (v8 v9 v10 : Option V), [some (V.int ((r : Nat) : Int)), some (.ref B), some (.ref W), some (.ref F), some (.int ((b : Nat) : Int)), some (.int ((wv : Nat) : Int)), some (.ref g), some (.int ((c : Nat) : Int)), some (.int ((k : Nat) : Int)), some (.int ((c + k * wv : Nat) : Int)), some (.ref tw)] = [some (V.int ((r : Nat) : Int)), some (.ref B), some (.ref W), some (.ref F), some (.int ((b : Nat) : Int)), some (.int ((wv : Nat) : Int)), some (.ref g), some (.int ((c : Nat) : Int)), v8, v9, v10] ∧ Same H (upd H5 g (.dK (putK gk (Sum.inl ((c + k * wv : Nat) : Int)) (.ref tw)))) ∧ (upd H5 g (.dK (putK gk (Sum.inl ((c + k * wv : Nat) : Int)) (.ref tw)))) F = some (.frz od (.dK kvs)) ∧ Fd (upd H5 g (.dK (putK gk (Sum.inl ((c + k * wv : Nat) : Int)) (.ref tw)))) kvs fs ∧ (upd H5 g (.dK (putK gk (Sum.inl ((c + k * wv : Nat) : Int)) (.ref tw)))) g = some (.dK gk') ∧ Fd (upd H5 g (.dK (putK gk (Sum.inl ((c + k * wv : Nat) : Int)) (.ref tw)))) gk' gs' ∧
                  Best r C' gs' ∧ (∀ x ∈ C', x.2.length = j + 1) ∧ Came r fs (b, wv) i (k + 1) C' ∧ (gs'.map (·.1)).Nodup ∧ gs'.length ≤ i * 16 + (k + 1) := fun hp => by
                have ntup : ∀ t xs, H5 t = some (.tup xs) → (upd H5 g (.dK (putK gk (Sum.inl ((c + k * wv : Nat) : Int)) (.ref tw)))) t = some (.tup xs) := fun t xs e => by
                  rw [upd_ne (fun z => by rw [z, eg5] at e; cases e)]
                  exact e
                rw [hp] at hb'
                have hpl := put_len gs (c + k * wv) (v ++ [k])
                refine ⟨DPut.k (k := Sum.inl ((c + k * wv : Nat) : Int)) eg5 (by rw [hgd5.len]; exact hgl5), _, _, _, _, _, _, rfl, upg sm5, by rw [upd_ne nFg]; exact eF5, hfd5.imp ntup, upd_same, (hgd5.put etw).imp ntup, hb', hCl', hc', nodup_put hgn _ _, by omega⟩
              have stay : stepW r (c + k * wv) (v ++ [k]) gs = gs → ∃ (gk' : List (L2.Key × V)) (gs' : Tab) (C' : List (Nat × List Nat)) (v8 v9 v10 : Option V), [some (V.int ((r : Nat) : Int)), some (.ref B), some (.ref W), some (.ref F), some (.int ((b : Nat) : Int)), some (.int ((wv : Nat) : Int)), some (.ref g), some (.int ((c : Nat) : Int)), some (.int ((k : Nat) : Int)), some (.int ((c + k * wv : Nat) : Int)), some (.ref tw)] = [some (V.int ((r : Nat) : Int)), some (.ref B), some (.ref W), some (.ref F), some (.int ((b : Nat) : Int)), some (.int ((wv : Nat) : Int)), some (.ref g), some (.int ((c : Nat) : Int)), v8, v9, v10] ∧ Same H H5 ∧ H5 F = some (.frz od (.dK kvs)) ∧ Fd H5 kvs fs ∧ H5 g = some (.dK gk') ∧ Fd H5 gk' gs' ∧
                  Best r C' gs' ∧ (∀ x ∈ C', x.2.length = j + 1) ∧ Came r fs (b, wv) i (k + 1) C' ∧ (gs'.map (·.1)).Nodup ∧ gs'.length ≤ i * 16 + (k + 1) := fun hp => by
                rw [hp] at hb'
                exact ⟨gk, gs, _, _, _, _, rfl, sm5, eF5, hfd5, eg5, hgd5, hb', hCl', hc', hgn, by omega⟩
              refine ⟨_, rfl, _, rfl, g, _, rfl, DGet.k (k := Sum.inl ((c + k * wv : Nat) : Int)) eg5, _, rfl, ?_⟩
              cases hgt : getW gs (c + k * wv) with
              | none =>
                rw [(hgd5.get (c + k * wv)).1 hgt]
                refine if_true_of rfl ?_
                obtain ⟨p1, p2⟩ := put (if_pos ⟨hlt, .inl hgt⟩)
                exact ⟨_, rfl, _, rfl, _, rfl, g, _, rfl, p1, p2⟩
              | some ow =>
                obtain ⟨tow, hvow, etow⟩ := (hgd5.get (c + k * wv)).2 ow hgt
                rw [hvow]
                refine if_false_of rfl ?_
                have how : ow.length = j + 1 := hCl _ (hbest.some_ _ _ hgt).1
                refine ⟨_, rfl, _, rfl, _, rfl, g, .ref tow, rfl, .inl ⟨gk, Sum.inl ((c + k * wv : Nat) : Int), .inl eg5, rfl, hvow.symm⟩, tw, tow, v ++ [k], ow, rfl, SqT.of etw, SqT.of etow, hwl.trans how.symm, _, rfl, ?_⟩
                by_cases hbt : better (v ++ [k]) ow
                · refine if_true_of (decide_eq_true hbt) ?_
                  obtain ⟨p1, p2⟩ := put (if_pos ⟨hlt, .inr ⟨ow, hgt, hbt⟩⟩)
                  exact ⟨_, rfl, _, rfl, _, rfl, g, _, rfl, p1, p2⟩
                · refine if_false_of (decide_eq_false hbt) ?_
                  exact stay (if_neg fun z => z.2.elim (fun y => by rw [hgt] at y; cases y) fun ⟨u, y1, y2⟩ => by rw [hgt] at y1; cases y1; exact hbt y2)
            · refine if_false_of (decide_eq_false (by have := ek; omega)) ?_
              refine if_false_of rfl ?_
              exact ⟨gk, gs, C, _, _, _, rfl, sm5, eF5, hfd5, eg5, hgd5, hbest, hCl, came_skip hcame hfi hlt, hgn, by omega⟩
        · rintro σ' H4 ⟨gk, gs, C, v8'', v9'', v10'', rfl, sm4, eF4, hfd4, eg4, hgd4, hbest, hCl, hcame, hgn, hgl⟩
          exact ⟨gk, gs, C, _, _, _, _, rfl, sm4, eF4, hfd4, eg4, hgd4, hbest, hCl, came_next hcame, hgn, by omega⟩
      · rintro σ' H3 ⟨gk, gs, C, v7', v8', v9', v10', rfl, sm3, eF3, hfd3, eg3, hgd, hbest, hCl, hcame, hgn, hgl⟩
        rw [hfd2.len] at hcame hgl
        refine ⟨eF3, _, rfl, g, gk, gs, _, _, _, _, _, _, _, rfl, upF sm3, ngH, by rw [upd_ne (Ne.symm nFg)]; exact eg3, hgd.imp fun t xs e => ?_, ?_, hgn, ?_⟩
        · rw [upd_ne (fun z => by rw [z, eF3] at e; cases e)]
          exact e
        · rw [hds]
          refine all_deck hall hbest fun t w' => ?_
          rw [hcame t w']
          constructor
          · rintro ⟨h1, j', c, v, q', h2, h3, h4⟩
            refine ⟨h1, c, v, q', getW_at hnd h2, ?_, h4⟩
            have := (List.getElem?_eq_some_iff.mp h2).1
            show q' ≤ b
            rcases h3 with h3 | h3
            · exact h3.2
            · omega
          · rintro ⟨h1, c, v, q', h2, h3, h4⟩
            obtain ⟨j', hj'⟩ := at_getW h2
            exact ⟨h1, j', c, v, q', hj', .inl ⟨(List.getElem?_eq_some_iff.mp hj').1, h3⟩, h4⟩
        · have : fs.length * 16 ≤ 16 ^ j * 16 := Nat.mul_le_mul_right 16 hlen
          rw [Nat.pow_succ]
          omega
    · rintro σ' H1 ⟨F, kvs, fs, v4, v5, v6, v7, v8, v9, v10, rfl, sm, nF, eF, hfd, hall, hnd, hlen⟩
      refine ⟨_, rfl, q H1 F kvs fs sm nF eF hfd ?_ hnd (Nat.le_trans hlen (by decide))⟩
      have e : (bs.zip ws).take 3 = bs.zip ws := List.take_of_length_le (by rw [List.length_zip, lb, lw]; decide)
      rw [← e]
      exact hall
end
end Ab

set_option Elab.async false
set_option linter.all false
set_option maxRecDepth 100000
set_option maxHeartbeats 4000000
namespace Ab
open PySem PySem.Spec PyProof.Rows L2 AbM AbF AbP
/-- that the fault of this rule at this place comes -/
def FaultE (CF : Addr) (E : XK) (r n : Nat) : Prop := ∀ (d m : Addr) (H' : Hp), H' d = some (.xd (nmF m)) → H' m = some (.lst [.int (-5), .int ((r : Nat) : Int), .int ((n : Nat) : Int)]) → E (.ref CF) (some d) H'
theorem fraise {CF : Addr} {H1 : Hp} {r n : Nat} {E : XK} (h : FaultE CF E r n) :
    ([V.int ((r : Nat) : Int), V.int ((n : Nat) : Int)] : List V).length ≤ 1000 ∧ ∀ a, H1 a = none → spFI CF (.ref a :: ([V.int ((r : Nat) : Int), V.int ((n : Nat) : Int)] ++ [])) (upd H1 a (exo a CF none))
      (fun v H2 => v = .non ∧ ∃ (d : Addr) (fs : List (Str × V)), H2 a = some (exo a CF (some d)) ∧ H2 d = some (exd d fs) ∧ H1 d = none ∧ E (.ref CF) (some d) (upd (del H2 a) d (.xd fs))) (fun _ _ _ => False) :=
  ⟨by show 2 ≤ 1000; decide, fun a na => ⟨a, _, _, rfl, made h⟩⟩
/-- what the top has written of makes -/
structure TxM (mg : Str → Option Value) : Prop where
  zip : mg "zip" = none
  range : mg "range" = none
  sum : mg "sum" = none
  cMC : ∃ u, mg "MAKE_COUNT" = some (.int 1 u)
  cRN : ∃ u, mg "ROD_NUMBERS" = some (.int 2 u)
  cRW : ∃ u, mg "ROD_WORTH" = some (.int 3 u)
  cRG : ∃ u, mg "ROD_GAP" = some (.int 4 u)
  cRS : ∃ u, mg "ROD_SIZE" = some (.int 7 u)
  cMR : ∃ u, mg "MOST_RODS" = some (.int 64 u)
  cLR : ∃ u, mg "LEAST_RATIO" = some (.int 2 u)
  cMT : ∃ u, mg "MOST_RATIO" = some (.int 20 u)
  cMB : ∃ u, mg "MOST_BEADS" = some (.int 15 u)
  cMW : ∃ u, mg "MOST_WORTH" = some (.int 63 u)
  cMX : ∃ u, mg "MOST_ROD_WORTH" = some (.int 255 u)
def bdL (l : List Nat) : List Nat := [bd l 0, bd l 1, bd l 2]
def woL (l : List Nat) : List Nat := [wo l 0, wo l 1, wo l 2]
theorem natV_getD (l : List Nat) {i : Nat} (h : i < l.length) : (natV l).getD i .non = .int ((l.getD i 0 : Nat) : Int) := by
  rw [List.getD_eq_getElem?_getD, List.getD_eq_getElem?_getD, List.getElem?_map, List.getElem?_eq_getElem h]
  rfl
theorem pick_bd {l : List Nat} (h : l.length = 7) : pick3 1 (natV l) = natV (bdL l) := by
  unfold pick3 bdL bd
  rw [natV_getD l (by omega), natV_getD l (by omega), natV_getD l (by omega)]
  rfl
theorem pick_wo {l : List Nat} (h : l.length = 7) : pick3 2 (natV l) = natV (woL l) := by
  unfold pick3 woL wo
  rw [natV_getD l (by omega), natV_getD l (by omega), natV_getD l (by omega)]
  rfl
def mostL (l : List Nat) : Nat := bd l 0 * wo l 0 + bd l 1 * wo l 1 + bd l 2 * wo l 2
def spCO (K : PySem.W.Frag) (CF : Addr) : Sp := fun vs H Q E => ∃ (T : Addr) (l : List Nat) (n : Nat), vs = [.ref T, .int ((n : Nat) : Int)] ∧ SqL K H T (natV l) ∧ l.length = 7 ∧ (¬ Good7 l → FaultE CF E 2 n) ∧ (Good7 l → 255 < mostL l → FaultE CF E 3 n) ∧ (Good7 l → ¬ 255 < mostL l → ∀ H', Same H H' → Q .non H')
theorem at_bd (l : List Nat) (j : Nat) (h : j < 3) : (natV (bdL l))[j]? = some (.int ((bd l j : Nat) : Int)) := by
  match j, h with
  | 0, _ => rfl
  | 1, _ => rfl
  | 2, _ => rfl
theorem at_wo (l : List Nat) (j : Nat) (h : j < 3) : (natV (woL l))[j]? = some (.int ((wo l j : Nat) : Int)) := by
  match j, h with
  | 0, _ => rfl
  | 1, _ => rfl
  | 2, _ => rfl
theorem eq_zero (x : Nat) : decide (V.int ((x : Nat) : Int) = V.int 0) = decide (x = 0) := by
  rw [eq_int]
  by_cases h : x = 0
  · rw [h]; rfl
  · rw [decide_eq_false h]
    exact beq_eq_false_iff_ne.mpr (by omega)
section
variable {P : Program} {w : World} {K : PySem.W.Frag} {mg : Str → Option Value} {base : Heap} {CE fBI CF fFI CR : Addr}
theorem scCO : FnScope ["told", "number", "beads", "worths", "deck_beads", "worth"] ["told", "number"] (defScope sCO) := ⟨rfl, rfl, rfl, by decide +kernel, rfl, by decide +kernel, by decide +kernel⟩
theorem ok_CO {f : Addr} {fd fdI : FuncData} (F : Fun K "check_rod" "check_rod" sCO f fd) (T : Txt K mg CE fBI CF fFI CR) (U : TxM mg)
    (GI : FnOk P w K mg base CX0 2 fFI fdI ["self", "rule", "place"] (spFI CF)) (bI : Binds K fdI ["self", "rule", "place"] []) :
    FnOk P w K mg base (L2.CX P w) 4 f fd ["told", "number"] (spCO K CF) := by
  refine F.okX scCO (fun vs H Q E h => ?_) (fun cdv A outer s H vs Q E hr h => ?_)
  · obtain ⟨Ta, l, n, rfl, _⟩ := h
    rfl
  · obtain ⟨Ta, l, n, rfl, hT, h7, q2, q3, q0⟩ := h
    obtain ⟨uRN, hRN⟩ := U.cRN
    obtain ⟨uRW, hRW⟩ := U.cRW
    obtain ⟨uLR, hLR⟩ := U.cLR
    obtain ⟨uMT, hMT⟩ := U.cMT
    obtain ⟨uMB, hMB⟩ := U.cMB
    obtain ⟨uMW, hMW⟩ := U.cMW
    obtain ⟨uMX, hMX⟩ := U.cMX
    refine ⟨_, pss_cons (ps_set (i := 2) scCO.nd rfl (Or.inl rfl) (pe_step (i := 1) (.inl rfl) (pv 0)))
      (pss_cons (ps_set (i := 3) scCO.nd rfl (Or.inl rfl) (pe_step (i := 2) (.inr rfl) (pv 0)))
      (pss_cons (ps_if (pt_not (pt_chain op_le op_le (pe_glob (v := .int 2) rfl hLR ⟨_, rfl⟩) (pe_ix ix_list (pv 0) pe_int (fun _ _ => rfl)) (pe_glob (v := .int 20) rfl hMT ⟨_, rfl⟩)))
        (pss_one (ps_raise rfl (takes_of rfl rfl rfl rfl) (pmk_oex T.rf.ox T.iF T.tF GI hr bI .nil pass0 rfl T.gF (pa_cons (pe_glob (v := .int 2) rfl hRN ⟨_, rfl⟩) (pa_cons (pv 1) pa_nil))))) pss_nil)
      (pss_cons (ps_if (PW.pt (pw_or (pt_cmpR op_eq (pe_ix ix_list (pv 2) pe_int (fun _ _ => rfl)) pe_int (nomark _)) (pw_or1 (PW.pt (pw_and (pt_cmpR op_eq (pe_ix ix_list (pv 2) pe_int (fun _ _ => rfl)) pe_int (nomark _)) (pw_and1 (pt_cmpR op_gt (pe_ix ix_list (pv 2) pe_int (fun _ _ => rfl)) pe_int (nomark _))))))))
        (pss_one (ps_raise rfl (takes_of rfl rfl rfl rfl) (pmk_oex T.rf.ox T.iF T.tF GI hr bI .nil pass0 rfl T.gF (pa_cons (pe_glob (v := .int 2) rfl hRN ⟨_, rfl⟩) (pa_cons (pv 1) pa_nil))))) pss_nil)
      (pss_cons (ps_for (passes_of rfl) rfl (pi_zip (by rfl) U.zip (pa_cons (pv 2) (pa_cons (pv 3) pa_nil))) (pg_tup rfl (pgs_cons (pg_name (i := 4) scCO.nd rfl (Or.inl rfl)) (pgs_cons (pg_name (i := 5) scCO.nd rfl (Or.inl rfl)) pgs_nil)))
        (pss_one (ps_if (PW.pt (pw_or (pt_cmpR op_gt (pv 4) (pe_glob (v := .int 15) rfl hMB ⟨_, rfl⟩) (nomark _)) (pw_or (pt_cmpR op_gt (pv 5) (pe_glob (v := .int 63) rfl hMW ⟨_, rfl⟩) (nomark _)) (pw_or1 (pt_cmpR op_ne (pe_cmpR op_eq (pv 4) pe_int (nomark _)) (pe_cmpR op_eq (pv 5) pe_int (nomark _)) (nomark _))))))
          (pss_one (ps_raise rfl (takes_of rfl rfl rfl rfl) (pmk_oex T.rf.ox T.iF T.tF GI hr bI .nil pass0 rfl T.gF (pa_cons (pe_glob (v := .int 2) rfl hRN ⟨_, rfl⟩) (pa_cons (pv 1) pa_nil))))) pss_nil)))
      (pss_one (ps_if (pt_cmpR op_gt (pe_callB (cr_sum rfl) (by rfl) U.sum (by decide +kernel) (pa_cons
          (pe_lc (own := [("deck_beads", 4), ("worth", 5)]) (g := gTup K 2 (gCons (gName 4) (gCons (gName 5) gNil))) (tt := tYes) rfl scCO.nd (pi_zip (by rfl) U.zip (pa_cons (pv 2) (pa_cons (pv 3) pa_nil))) (blkOk_by (N := ["told", "number", "beads", "worths", "deck_beads", "worth"]) (sc := defScope sCO) (by decide +kernel))
            (fun _ _ _ _ _ => pg_tup rfl (pgs_cons (pg_name (i := 4) scCO.nd rfl (Or.inl rfl)) (pgs_cons (pg_name (i := 5) scCO.nd rfl (Or.inl rfl)) pgs_nil))) (fun _ _ _ _ _ => pts_nil) (fun _ _ _ _ _ => pe_op op_mul (pv 4) (pv 5))) pa_nil)) (pe_glob (v := .int 255) rfl hMX ⟨_, rfl⟩) (nomark _))
        (pss_one (ps_raise rfl (takes_of rfl rfl rfl rfl) (pmk_oex T.rf.ox T.iF T.tF GI hr bI .nil pass0 rfl T.gF (pa_cons (pe_glob (v := .int 3) rfl hRW ⟨_, rfl⟩) (pa_cons (pv 1) pa_nil))))) pss_nil)))))), ?_⟩
    have l7 : (natV l).length = 7 := by rw [natV_len, h7]
    refine ⟨_, rfl, Ta, natV l, rfl, hT, l7, fun B nB => ?_⟩
    rw [pick_bd h7]
    refine ⟨_, rfl, Ta, natV l, rfl, (same_upd nB).seq hT, l7, fun W nW => ?_⟩
    rw [pick_wo h7]
    have nBW : B ≠ W := fun z => by rw [← z, upd_same] at nW; cases nW
    have sm : Same H (upd (upd H B (.lst (natV (bdL l)))) W (.lst (natV (woL l)))) := (same_upd nB).trans (same_upd nW)
    have eB : (upd (upd H B (.lst (natV (bdL l)))) W (.lst (natV (woL l)))) B = some (.lst (natV (bdL l))) := by rw [upd_ne nBW, upd_same]
    have eW : (upd (upd H B (.lst (natV (bdL l)))) W (.lst (natV (woL l)))) W = some (.lst (natV (woL l))) := upd_same
    generalize upd (upd H B (.lst (natV (bdL l)))) W (.lst (natV (woL l))) = H1 at sm eB eW
    have t0 : atI (natV l) 0 = some (.int ((l.getD 0 0 : Nat) : Int)) := by
      have := natV_getD l (i := 0) (by omega)
      rw [List.getD_eq_getElem?_getD] at this
      have h2 : (natV l)[0]? = some ((natV l)[0]'(by omega)) := List.getElem?_eq_getElem (by omega)
      rw [h2] at this
      exact (atI_nat (j := 0) h2).trans (congrArg some this)
    refine ⟨_, rfl, Ta, _, _, _, rfl, rfl, sm.seq hT, t0, _, _, rfl, rfl, _, rfl, ?_⟩
    by_cases hr2 : 2 ≤ l.getD 0 0
    case neg =>
      refine if_false_of (decide_eq_false (by omega)) ⟨_, rfl, if_true_of rfl ⟨_, rfl, ?_⟩⟩
      exact fraise (q2 fun g => hr2 g.r0)
    refine if_true_of (decide_eq_true (by omega)) ⟨_, _, rfl, rfl, _, rfl, ?_⟩
    by_cases hr20 : l.getD 0 0 ≤ 20
    case neg =>
      refine if_true_of (by rw [decide_eq_false (by omega)]; rfl) ⟨_, rfl, ?_⟩
      exact fraise (q2 fun g => hr20 g.r1)
    refine if_false_of (by rw [decide_eq_true (by omega)]; rfl) ?_
    have b0 : atI (natV (bdL l)) 0 = some (.int ((bd l 0 : Nat) : Int)) := rfl
    have b1 : atI (natV (bdL l)) 1 = some (.int ((bd l 1 : Nat) : Int)) := rfl
    have b2 : atI (natV (bdL l)) 2 = some (.int ((bd l 2 : Nat) : Int)) := rfl
    refine ⟨_, rfl, B, _, _, _, rfl, rfl, SqL.of eB, b0, rfl, _, rfl, ?_⟩
    by_cases hb0 : bd l 0 = 0
    case pos =>
      refine if_true_of ((eq_zero _).trans (decide_eq_true hb0)) ⟨_, rfl, ?_⟩
      exact fraise (q2 fun g => g.b0 hb0)
    refine if_false_of ((eq_zero _).trans (decide_eq_false hb0)) ?_
    refine ⟨_, rfl, B, _, _, _, rfl, rfl, SqL.of eB, b1, rfl, _, rfl, ?_⟩
    by_cases hbad : bd l 1 = 0 ∧ bd l 2 ≠ 0
    case pos =>
      refine if_true_of ((eq_zero _).trans (decide_eq_true hbad.1)) ?_
      refine ⟨_, rfl, B, _, _, _, rfl, rfl, SqL.of eB, b2, _, _, rfl, rfl, _, rfl, ?_⟩
      refine if_true_of (decide_eq_true (by omega)) ⟨_, rfl, ?_⟩
      exact fraise (q2 fun g => g.next.elim (fun z => z hbad.1) hbad.2)
    have hnx : bd l 1 ≠ 0 ∨ bd l 2 = 0 := by omega
    case neg =>
    by_cases h1z : bd l 1 = 0
    case' pos =>
      refine if_true_of ((eq_zero _).trans (decide_eq_true h1z)) ?_
      refine ⟨_, rfl, B, _, _, _, rfl, rfl, SqL.of eB, b2, _, _, rfl, rfl, _, rfl, ?_⟩
      refine if_false_of (decide_eq_false (by omega)) ?_
    case' neg =>
      refine if_false_of ((eq_zero _).trans (decide_eq_false h1z)) ?_
      refine if_false_of rfl ?_
    all_goals
    (refine ⟨_, rfl, _, rfl, B, W, natV (bdL l), natV (woL l), rfl, SqL.of eB, SqL.of eW, for_it (walk_zip (n := 3) rfl) (fun j σ' H2 => ∃ (v4 v5 : Option V), σ' = [some (.ref Ta), some (.int ((n : Nat) : Int)), some (.ref B), some (.ref W), v4, v5] ∧ Same H1 H2 ∧ ∀ i, i < j → bd l i ≤ 15 ∧ wo l i ≤ 63 ∧ (bd l i = 0 ↔ wo l i = 0))
       ⟨_, _, rfl, Same.refl H1, fun i hi => absurd hi (Nat.not_lt_zero _)⟩ (fun j σ' H2 _ ⟨_, _, _, sm2, _⟩ => ⟨SqL.of (sm2 _ _ eB), SqL.of (sm2 _ _ eW)⟩) ?_ ?_⟩
     · rintro j y σ' H2 H3 hj ⟨v4, v5, rfl, sm2, hok⟩ ⟨Tq, x, z, rfl, nT, rfl, hx, hz⟩
       have hx' : (natV (bdL l))[j]? = some x := hx
       have hz' : (natV (woL l))[j]? = some z := hz
       rw [at_bd l j hj] at hx'
       rw [at_wo l j hj] at hz'
       cases hx'
       cases hz'
       refine ⟨Tq, _, rfl, SqT.of upd_same, rfl, _, _, rfl, _, _, rfl, rfl, ?_⟩
       refine ⟨_, rfl, _, _, rfl, rfl, _, rfl, ?_⟩
       by_cases h15 : bd l j ≤ 15
       case neg =>
         refine if_true_of (decide_eq_true (by omega)) ⟨_, rfl, ?_⟩
         exact fraise (q2 fun g => h15 (g.b15 j hj))
       refine if_false_of (decide_eq_false (by omega)) ⟨_, rfl, _, _, rfl, rfl, _, rfl, ?_⟩
       by_cases h63 : wo l j ≤ 63
       case neg =>
         refine if_true_of (decide_eq_true (by omega)) ⟨_, rfl, ?_⟩
         exact fraise (q2 fun g => h63 (g.w63 j hj))
       refine if_false_of (decide_eq_false (by omega)) ⟨_, rfl, rfl, _, rfl, rfl, rfl, _, rfl, ?_⟩
       have ez : decide (V.bl (decide (V.int ((bd l j : Nat) : Int) = V.int 0)) = V.bl (decide (V.int ((wo l j : Nat) : Int) = V.int 0))) = decide (bd l j = 0 ↔ wo l j = 0) := by
         rw [eq_zero, eq_zero]
         by_cases c1 : bd l j = 0 <;> by_cases c2 : wo l j = 0 <;> simp [c1, c2]
       by_cases hs : bd l j = 0 ↔ wo l j = 0
       case neg =>
         refine if_true_of ((congrArg Bool.not ez).trans (by rw [decide_eq_false hs]; rfl)) ⟨_, rfl, ?_⟩
         exact fraise (q2 fun g => hs (g.same j hj))
       refine if_false_of ((congrArg Bool.not ez).trans (by rw [decide_eq_true hs]; rfl)) ?_
       refine ⟨_, _, rfl, sm2.trans (same_upd nT), fun i hi => ?_⟩
       by_cases e : i = j
       · subst e
         exact ⟨h15, h63, hs⟩
       · exact hok i (by omega)
     · rintro σ' H2 ⟨v4, v5, rfl, sm2, hok⟩
       have good : Good7 l := ⟨hb0, fun j hj => (hok j hj).2.2, hnx, hr2, hr20, fun j hj => (hok j hj).1, fun j hj => (hok j hj).2.1⟩
       have eB2 := sm2 _ _ eB
       have eW2 := sm2 _ _ eW
       have hsmall : ∀ j, j < 3 → bd l j * wo l j ≤ 15 * 63 := fun j hj => Nat.mul_le_mul (good.b15 j hj) (good.w63 j hj)
       refine ⟨_, rfl, _, rfl, B, W, natV (bdL l), natV (woL l), rfl, SqL.of eB2, SqL.of eW2, fun D nD => lc_it (walk_zip (n := 3) rfl) (Pv := fun i H' => H' D = some (.lst (natV (((List.range 3).take i).map fun j => bd l j * wo l j))) ∧ Same H2 H') ⟨upd_same, same_upd nD⟩ (fun i H' _ ⟨_, sm3⟩ => ⟨SqL.of (sm3 _ _ eB2), SqL.of (sm3 _ _ eW2)⟩) ?_ ?_⟩
       · rintro i y H3 H4 hi ⟨eD, sm3⟩ ⟨Tq, x, z, rfl, nT, rfl, hx, hz⟩
         have hx' : (natV (bdL l))[i]? = some x := hx
         have hz' : (natV (woL l))[i]? = some z := hz
         rw [at_bd l i hi] at hx'
         rw [at_wo l i hi] at hz'
         cases hx'
         cases hz'
         refine ⟨Tq, _, rfl, SqT.of upd_same, rfl, _, _, rfl, _, _, rfl, rfl, rfl, ?_⟩
         have h15 := good.b15 i hi
         have h63 := good.w63 i hi
         have tk : (List.range 3).take (i + 1) = (List.range 3).take i ++ [i] := by
           rw [List.take_add_one, List.getElem?_range hi]
           rfl
         refine ⟨_, rfl, _, rfl, _, _, rfl, rfl, .inl ⟨by omega, by omega⟩, _, same_upd nT _ _ eD, small5 (by rw [natV_len, List.length_map, List.length_take, List.length_range]; omega), ?_, ?_⟩
         · rw [upd_same, tk, List.map_append]
           exact congrArg (fun x => some (HO.lst x)) (natV_snoc _ (bd l i * wo l i))
         · intro b u e
           have e3 := sm3 b u e
           rw [upd_ne (ne_of_none e nD), upd_ne (ne_of_none e3 nT)]
           exact e3
       · rintro H3 ⟨eD, sm3⟩
         have eL : natV (((List.range 3).take 3).map fun j => bd l j * wo l j) = ([((bd l 0 * wo l 0 : Nat) : Int), ((bd l 1 * wo l 1 : Nat) : Int), ((bd l 2 * wo l 2 : Nat) : Int)] : List Int).map V.int := rfl
         rw [eL] at eD
         refine ⟨D, _, rfl, SqL.of eD, _, _, rfl, rfl, _, rfl, ?_⟩
         have es : ([((bd l 0 * wo l 0 : Nat) : Int), ((bd l 1 * wo l 1 : Nat) : Int), ((bd l 2 * wo l 2 : Nat) : Int)] : List Int).sum = ((mostL l : Nat) : Int) := by
           unfold mostL
           rw [List.sum_cons, List.sum_cons, List.sum_cons, List.sum_nil]
           omega
         rw [es]
         by_cases hm : 255 < mostL l
         · refine if_true_of (decide_eq_true (by omega)) ⟨_, rfl, ?_⟩
           exact fraise (q3 good hm)
         · refine if_false_of (decide_eq_false (by omega)) ?_
           exact q0 good hm H3 ((sm.trans sm2).trans sm3))
end
end Ab

set_option Elab.async false
set_option linter.all false
set_option maxRecDepth 100000
set_option maxHeartbeats 4000000
namespace Ab
open PySem PySem.Spec PyProof.Rows L2 AbM AbF AbP
/-- a way as a key -/
def keyW (w : List Nat) : List L2.Key := w.map fun n => Sum.inl ((n : Nat) : Int)
theorem keyW_V (w : List Nat) : (keyW w).map kV = natV w := by simp [keyW, natV, kV]
theorem keyW_inj : ∀ {w v : List Nat}, keyW w = keyW v → w = v
  | [], [], _ => rfl
  | [], _ :: _, h => by cases h
  | _ :: _, [], h => by cases h
  | x :: r, y :: s, h => by
    have h' := List.cons.inj (show (Sum.inl ((x : Nat) : Int) : L2.Key) :: keyW r = Sum.inl ((y : Nat) : Int) :: keyW s from h)
    rw [Int.ofNat.inj (Sum.inl.inj h'.1), keyW_inj h'.2]
/-- of each form its digit -/
structure DigV (dk : List (List L2.Key × V)) (fs : Tab) : Prop where
  yes : ∀ d w, getW fs d = some w → valV dk (keyW w) = some (.int ((d : Nat) : Int))
  no : ∀ w, (∀ d, getW fs d ≠ some w) → valV dk (keyW w) = none
  len : dk.length = fs.length
abbrev rodF (ra pl : Nat) (B W Dg : Addr) : List (Str × V) := [(("ratio" : Str), .int ((ra : Nat) : Int)), (("place" : Str), .int ((pl : Nat) : Int)), (("beads" : Str), .ref B), (("worths" : Str), .ref W), (("digits" : Str), .ref Dg)]
def dsL (l : List Nat) : List (Nat × Nat) := (bdL l).zip (woL l)
/-- a rod in the heap -/
structure RodAt (N : Addr → Prop) (CO R : Addr) (H : Hp) (l : List Nat) (pl : Nat) (fs : Tab) : Prop where
  n : N R
  ex : ∃ dx B W Dg dk, N B ∧ N W ∧ N Dg ∧ H R = some (.ins CO dx (rodF (l.getD 0 0) pl B W Dg)) ∧ H B = some (.lst (natV (bdL l))) ∧ H W = some (.lst (natV (woL l))) ∧ H Dg = some (.dT dk) ∧ DigV dk fs
  all : All (l.getD 0 0) (dsL l) fs
  nd : (fs.map (·.1)).Nodup
theorem RodAt.keep {N : Addr → Prop} {CO R : Addr} {H H' : Hp} {l : List Nat} {pl : Nat} {fs : Tab} (h : RodAt N CO R H l pl fs) (k : KeepP N H H') : RodAt N CO R H' l pl fs := by
  obtain ⟨n, ⟨dx, B, W, Dg, dk, nB, nW, nD, e1, e2, e3, e4, dv⟩, a, d⟩ := h
  exact ⟨n, ⟨dx, B, W, Dg, dk, nB, nW, nD, k _ _ n e1, k _ _ nB e2, k _ _ nW e3, k _ _ nD e4, dv⟩, a, d⟩
structure TxO (K : PySem.W.Frag) (mg : Str → Option Value) (CO : Addr) : Prop where
  cl : Cls K CO
  gO : mg "Rod" = some (.ref CO)
  nRa : NoAttr K CO "ratio"
  nPl : NoAttr K CO "place"
  nBe : NoAttr K CO "beads"
  nWo : NoAttr K CO "worths"
  nDi : NoAttr K CO "digits"
def spOI (K : PySem.W.Frag) (CO : Addr) : Sp := fun vs H Q _ => ∃ (R Ta dx : Addr) (l : List Nat) (pl : Nat), vs = [.ref R, .ref Ta, .int ((pl : Nat) : Int)] ∧ H R = some (.ins CO dx []) ∧ SqL K H Ta (natV l) ∧ l.length = 7 ∧ Good7 l ∧
  ∀ (H' : Hp) (fs : Tab), Only R R H H' → RodAt (fun b => b = R ∨ H b = none) CO R H' l pl fs → Q .non H'
section
variable {P : Program} {w : World} {K : PySem.W.Frag} {mg : Str → Option Value} {base : Heap} {CE fBI CF fFI CR CO : Addr}
theorem scOI : FnScope ["self", "told", "place", "forms", "digit"] ["self", "told", "place"] (defScope sOI) := ⟨rfl, rfl, rfl, by decide +kernel, rfl, by decide +kernel, by decide +kernel⟩
theorem ok_OI {f fFF : Addr} {fd fdFF : FuncData} (F : Fun K "__init__" "Rod.__init__" sOI f fd) (U : TxO K mg CO)
    (gF : mg "find_forms" = some (.ref fFF)) (kF : PySem.W.keepIn K (.ref fFF) = true) (GF : FnOk P w K mg base CX0 2 fFF fdFF ["ratio", "beads", "worths"] spFF) (bF : Binds K fdFF ["ratio", "beads", "worths"] []) :
    FnOk P w K mg base CX0 3 f fd ["self", "told", "place"] (spOI K CO) := by
  refine F.ok scOI (fun vs H Q E h => ?_) (fun cdv A outer s H vs Q E hr h => ?_)
  · obtain ⟨R, Ta, dx, l, pl, rfl, _⟩ := h
    rfl
  · obtain ⟨R, Ta, dx, l, pl, rfl, eR, hT, h7, good, q⟩ := h
    have hu := hu_of hr
    refine ⟨_, pss_cons (ps_fld (pv 0) (pe_ix ix_list (pv 1) pe_int (fun _ _ => rfl)) rfl)
      (pss_cons (ps_fld (pv 0) (pv 2) rfl)
      (pss_cons (ps_fld (pv 0) (pe_step (i := 1) (.inl rfl) (pv 1)) rfl)
      (pss_cons (ps_fld (pv 0) (pe_step (i := 2) (.inr rfl) (pv 1)) rfl)
      (pss_cons (ps_fld (pv 0) pe_dnewT rfl)
      (pss_cons (ps_set (i := 3) scOI.nd rfl (Or.inl rfl) (pe_call GF hr rfl gF kF bF .nil pass0 (pa_cons (pe_fld (pv 0) rfl) (pa_cons (pe_fld (pv 0) rfl) (pa_cons (pe_fld (pv 0) rfl) pa_nil)))))
      (pss_one (ps_lock (ps_for PassesOwn.never rfl (pi_keys (pv 3)) (pg_name (i := 4) scOI.nd rfl (Or.inl rfl))
        (pss_one (ps_dput hu (pe_fld (pv 0) rfl) (pe_dget hu (pv 3) (pv 4) (fun _ _ => rfl)) (pv 4) rfl)))))))))), ?_⟩
    have l7 : (natV l).length = 7 := by rw [natV_len, h7]
    have t0 : atI (natV l) 0 = some (.int ((l.getD 0 0 : Nat) : Int)) := by
      have := natV_getD l (i := 0) (by omega)
      rw [List.getD_eq_getElem?_getD] at this
      have h2 : (natV l)[0]? = some ((natV l)[0]'(by omega)) := List.getElem?_eq_getElem (by omega)
      rw [h2] at this
      exact (atI_nat (j := 0) h2).trans (congrArg some this)
    have hT' : ∀ {H1 : Hp}, Only R R H H1 → SqL K H1 Ta (natV l) := fun on => seq_only1 hT eR on
    have nk : ∀ {H1 : Hp} {D : Addr}, H1 R ≠ none → Only R R H H1 → H1 D = none → H D = none := fun {H1 D} hR on n => by
      cases e : H D with
      | none => rfl
      | some u =>
        by_cases h : D = R
        · rw [h] at n; exact absurd n hR
        · rw [on _ _ h h e] at n; cases n
    -- ratio
    refine ⟨_, rfl, Ta, _, _, _, rfl, rfl, hT, t0, _, rfl, R, CO, dx, _, rfl, eR, U.cl, U.nRa, by decide, ?_⟩
    have on1 : Only R R H (upd H R (.ins CO dx (putF "ratio" (.int ((l.getD 0 0 : Nat) : Int)) []))) := Only.upd
    have e1 : (upd H R (.ins CO dx (putF "ratio" (.int ((l.getD 0 0 : Nat) : Int)) []))) R = some (.ins CO dx [(("ratio" : Str), .int ((l.getD 0 0 : Nat) : Int))]) := upd_same
    generalize upd H R (.ins CO dx (putF "ratio" (.int ((l.getD 0 0 : Nat) : Int)) [])) = H1 at on1 e1
    -- place
    refine ⟨_, rfl, _, rfl, R, CO, dx, _, rfl, e1, U.cl, U.nPl, by show 1 < 1000; decide, ?_⟩
    have on2 : Only R R H (upd H1 R (.ins CO dx (putF "place" (.int ((pl : Nat) : Int)) [(("ratio" : Str), .int ((l.getD 0 0 : Nat) : Int))]))) := on1.trans Only.upd
    have e2 : (upd H1 R (.ins CO dx (putF "place" (.int ((pl : Nat) : Int)) [(("ratio" : Str), .int ((l.getD 0 0 : Nat) : Int))]))) R = some (.ins CO dx [(("ratio" : Str), .int ((l.getD 0 0 : Nat) : Int)), (("place" : Str), .int ((pl : Nat) : Int))]) := by rw [upd_same]; rfl
    generalize upd H1 R (.ins CO dx (putF "place" (.int ((pl : Nat) : Int)) [(("ratio" : Str), .int ((l.getD 0 0 : Nat) : Int))])) = H2 at on2 e2
    -- beads
    refine ⟨_, rfl, Ta, natV l, rfl, hT' on2, l7, fun B nB => ?_⟩
    rw [pick_bd h7]
    have nRB : R ≠ B := ne_of_none e2 nB
    refine ⟨_, rfl, R, CO, dx, _, rfl, by rw [upd_ne nRB]; exact e2, U.cl, U.nBe, by show 2 < 1000; decide, ?_⟩
    have nBH := nk (at_some e2) on2 nB
    have on3 : Only R R H (upd (upd H2 B (.lst (natV (bdL l)))) R (.ins CO dx (putF "beads" (.ref B) [(("ratio" : Str), .int ((l.getD 0 0 : Nat) : Int)), (("place" : Str), .int ((pl : Nat) : Int))]))) := (on2.trans (Only.same (same_upd nB))).trans Only.upd
    have e3 : (upd (upd H2 B (.lst (natV (bdL l)))) R (.ins CO dx (putF "beads" (.ref B) [(("ratio" : Str), .int ((l.getD 0 0 : Nat) : Int)), (("place" : Str), .int ((pl : Nat) : Int))]))) R = some (.ins CO dx [(("ratio" : Str), .int ((l.getD 0 0 : Nat) : Int)), (("place" : Str), .int ((pl : Nat) : Int)), (("beads" : Str), .ref B)]) := by rw [upd_same]; rfl
    have eB3 : (upd (upd H2 B (.lst (natV (bdL l)))) R (.ins CO dx (putF "beads" (.ref B) [(("ratio" : Str), .int ((l.getD 0 0 : Nat) : Int)), (("place" : Str), .int ((pl : Nat) : Int))]))) B = some (.lst (natV (bdL l))) := by rw [upd_ne (Ne.symm nRB), upd_same]
    generalize upd (upd H2 B (.lst (natV (bdL l)))) R (.ins CO dx (putF "beads" (.ref B) [(("ratio" : Str), .int ((l.getD 0 0 : Nat) : Int)), (("place" : Str), .int ((pl : Nat) : Int))])) = H3 at on3 e3 eB3
    -- worths
    refine ⟨_, rfl, Ta, natV l, rfl, hT' on3, l7, fun W nW => ?_⟩
    rw [pick_wo h7]
    have nRW : R ≠ W := ne_of_none e3 nW
    have nBW : B ≠ W := ne_of_none eB3 nW
    refine ⟨_, rfl, R, CO, dx, _, rfl, by rw [upd_ne nRW]; exact e3, U.cl, U.nWo, by show 3 < 1000; decide, ?_⟩
    have nWH := nk (at_some e3) on3 nW
    have on4 : Only R R H (upd (upd H3 W (.lst (natV (woL l)))) R (.ins CO dx (putF "worths" (.ref W) [(("ratio" : Str), .int ((l.getD 0 0 : Nat) : Int)), (("place" : Str), .int ((pl : Nat) : Int)), (("beads" : Str), .ref B)]))) := (on3.trans (Only.same (same_upd nW))).trans Only.upd
    have e4 : (upd (upd H3 W (.lst (natV (woL l)))) R (.ins CO dx (putF "worths" (.ref W) [(("ratio" : Str), .int ((l.getD 0 0 : Nat) : Int)), (("place" : Str), .int ((pl : Nat) : Int)), (("beads" : Str), .ref B)]))) R = some (.ins CO dx [(("ratio" : Str), .int ((l.getD 0 0 : Nat) : Int)), (("place" : Str), .int ((pl : Nat) : Int)), (("beads" : Str), .ref B), (("worths" : Str), .ref W)]) := by rw [upd_same]; rfl
    have eB4 : (upd (upd H3 W (.lst (natV (woL l)))) R (.ins CO dx (putF "worths" (.ref W) [(("ratio" : Str), .int ((l.getD 0 0 : Nat) : Int)), (("place" : Str), .int ((pl : Nat) : Int)), (("beads" : Str), .ref B)]))) B = some (.lst (natV (bdL l))) := by rw [upd_ne (Ne.symm nRB), upd_ne nBW]; exact eB3
    have eW4 : (upd (upd H3 W (.lst (natV (woL l)))) R (.ins CO dx (putF "worths" (.ref W) [(("ratio" : Str), .int ((l.getD 0 0 : Nat) : Int)), (("place" : Str), .int ((pl : Nat) : Int)), (("beads" : Str), .ref B)]))) W = some (.lst (natV (woL l))) := by rw [upd_ne (Ne.symm nRW), upd_same]
    generalize upd (upd H3 W (.lst (natV (woL l)))) R (.ins CO dx (putF "worths" (.ref W) [(("ratio" : Str), .int ((l.getD 0 0 : Nat) : Int)), (("place" : Str), .int ((pl : Nat) : Int)), (("beads" : Str), .ref B)])) = H4 at on4 e4 eB4 eW4
    -- digits
    refine fun Dg nDg => ?_
    have nRD : R ≠ Dg := ne_of_none e4 nDg
    have nBD : B ≠ Dg := ne_of_none eB4 nDg
    have nWD : W ≠ Dg := ne_of_none eW4 nDg
    refine ⟨_, rfl, R, CO, dx, _, rfl, by rw [upd_ne nRD]; exact e4, U.cl, U.nDi, by show 4 < 1000; decide, ?_⟩
    have nDH := nk (at_some e4) on4 nDg
    have on5 : Only R R H (upd (upd H4 Dg (.dT [])) R (.ins CO dx (putF "digits" (.ref Dg) [(("ratio" : Str), .int ((l.getD 0 0 : Nat) : Int)), (("place" : Str), .int ((pl : Nat) : Int)), (("beads" : Str), .ref B), (("worths" : Str), .ref W)]))) := (on4.trans (Only.same (same_upd nDg))).trans Only.upd
    have e5 : (upd (upd H4 Dg (.dT [])) R (.ins CO dx (putF "digits" (.ref Dg) [(("ratio" : Str), .int ((l.getD 0 0 : Nat) : Int)), (("place" : Str), .int ((pl : Nat) : Int)), (("beads" : Str), .ref B), (("worths" : Str), .ref W)]))) R = some (.ins CO dx (rodF (l.getD 0 0) pl B W Dg)) := by rw [upd_same]; rfl
    have eB5 : (upd (upd H4 Dg (.dT [])) R (.ins CO dx (putF "digits" (.ref Dg) [(("ratio" : Str), .int ((l.getD 0 0 : Nat) : Int)), (("place" : Str), .int ((pl : Nat) : Int)), (("beads" : Str), .ref B), (("worths" : Str), .ref W)]))) B = some (.lst (natV (bdL l))) := by rw [upd_ne (Ne.symm nRB), upd_ne nBD]; exact eB4
    have eW5 : (upd (upd H4 Dg (.dT [])) R (.ins CO dx (putF "digits" (.ref Dg) [(("ratio" : Str), .int ((l.getD 0 0 : Nat) : Int)), (("place" : Str), .int ((pl : Nat) : Int)), (("beads" : Str), .ref B), (("worths" : Str), .ref W)]))) W = some (.lst (natV (woL l))) := by rw [upd_ne (Ne.symm nRW), upd_ne nWD]; exact eW4
    have eD5 : (upd (upd H4 Dg (.dT [])) R (.ins CO dx (putF "digits" (.ref Dg) [(("ratio" : Str), .int ((l.getD 0 0 : Nat) : Int)), (("place" : Str), .int ((pl : Nat) : Int)), (("beads" : Str), .ref B), (("worths" : Str), .ref W)]))) Dg = some (.dT []) := by rw [upd_ne (Ne.symm nRD), upd_same]
    generalize upd (upd H4 Dg (.dT [])) R (.ins CO dx (putF "digits" (.ref Dg) [(("ratio" : Str), .int ((l.getD 0 0 : Nat) : Int)), (("place" : Str), .int ((pl : Nat) : Int)), (("beads" : Str), .ref B), (("worths" : Str), .ref W)])) = H5 at on5 e5 eB5 eW5 eD5
    have lk1 : (rodF (l.getD 0 0) pl B W Dg).lookup ("ratio" : Str) = some (.int ((l.getD 0 0 : Nat) : Int)) := by rfl
    have lk3 : (rodF (l.getD 0 0) pl B W Dg).lookup ("beads" : Str) = some (.ref B) := by rfl
    have lk4 : (rodF (l.getD 0 0) pl B W Dg).lookup ("worths" : Str) = some (.ref W) := by rfl
    have lk5 : (rodF (l.getD 0 0) pl B W Dg).lookup ("digits" : Str) = some (.ref Dg) := by rfl
    refine ⟨_, rfl, R, CO, dx, _, _, rfl, e5, U.cl, U.nRa, lk1, _, rfl, R, CO, dx, _, _, rfl, e5, U.cl, U.nBe, lk3, _, rfl, R, CO, dx, _, _, rfl, e5, U.cl, U.nWo, lk4, ?_⟩
    refine ⟨l.getD 0 0, B, W, bdL l, woL l, rfl, eB5, eW5, rfl, rfl, good.r0, good.r1, fun x hx => ?_, fun x hx => ?_, fun H6 Fa kvs fs sm6 nFa eFa hfd hall hnd hfl => ?_⟩
    · simp only [bdL, List.mem_cons, List.not_mem_nil, or_false] at hx
      rcases hx with e | e | e <;> (rw [e]; exact good.b15 _ (by decide))
    · simp only [woL, List.mem_cons, List.not_mem_nil, or_false] at hx
      rcases hx with e | e | e <;> (rw [e]; exact good.w63 _ (by decide))
    have on6 : Only R R H H6 := on5.trans (Only.same sm6)
    have nFR : Fa ≠ R := fun z => by rw [z, e5] at nFa; cases nFa
    have nFB : Fa ≠ B := fun z => by rw [z, eB5] at nFa; cases nFa
    have nFW : Fa ≠ W := fun z => by rw [z, eW5] at nFa; cases nFa
    have nFD : Fa ≠ Dg := fun z => by rw [z, eD5] at nFa; cases nFa
    have nFH : H Fa = none := nk (at_some e5) on5 nFa
    refine ⟨Fa, .dK kvs, eFa, trivial, fun od => ?_⟩
    refine ⟨_, rfl, Fa, od, rfl, .inl ⟨kvs, upd_same, for_it walk_keys (fun i σ' H7 => ∃ (dk : List (List L2.Key × V)) (v4 : Option V), σ' = [some (.ref R), some (.ref Ta), some (.int ((pl : Nat) : Int)), some (.ref Fa), v4] ∧ Only R R H H7 ∧ H7 Fa = some (.frz od (.dK kvs)) ∧ Fd H7 kvs fs ∧ H7 R = some (.ins CO dx (rodF (l.getD 0 0) pl B W Dg)) ∧ H7 B = some (.lst (natV (bdL l))) ∧ H7 W = some (.lst (natV (woL l))) ∧ H7 Dg = some (.dT dk) ∧
        dk.length = i ∧ (∀ j d w, j < i → fs[j]? = some (d, w) → valV dk (keyW w) = some (.int ((d : Nat) : Int))) ∧ (∀ w, (∀ j d, j < i → fs[j]? ≠ some (d, w)) → valV dk (keyW w) = none))
      ⟨[], _, rfl, on6.upn nFH, upd_same, hfd.imp fun t xs e => ?_, by rw [upd_ne (Ne.symm nFR)]; exact sm6 _ _ e5, by rw [upd_ne (Ne.symm nFB)]; exact sm6 _ _ eB5, by rw [upd_ne (Ne.symm nFW)]; exact sm6 _ _ eW5, by rw [upd_ne (Ne.symm nFD)]; exact sm6 _ _ eD5, rfl, fun j d w hj => absurd hj (Nat.not_lt_zero _), fun w _ => rfl⟩ (fun i σ' H7 _ ⟨_, _, _, _, e, _⟩ => e) ?_ ?_⟩⟩
    · rw [upd_ne (fun z => by rw [z, eFa] at e; cases e)]
      exact e
    · rintro i y σ' H7 H8 hi ⟨dk, v4, rfl, on7, eF7, hfd7, e7, eB7, eW7, eD7, hdl, hyes, hno⟩ ⟨rfl, kk, vv, hkv, rfl⟩
      obtain ⟨c, w', tv, hfi, rfl, rfl, etv⟩ := hfd7.at hkv
      have hg := getW_at hnd hfi
      obtain ⟨tv4, hget4, etv4⟩ := (hfd7.get c).2 w' hg
      obtain ⟨_, _, hcnt, _⟩ := hall.some_ c w' hg
      have hi4 : i < 4096 := by have := (List.getElem?_eq_some_iff.mp hfi).1; omega
      have hnew : ∀ j d, j < i → fs[j]? ≠ some (d, w') := fun j d hj z => by
        have hg2 := getW_at hnd z
        obtain ⟨_, _, hc2, _⟩ := hall.some_ d w' hg2
        rw [hcnt] at hc2
        subst hc2
        rw [hg] at hg2
        have h1 := List.getElem?_eq_some_iff.mp z
        have h2 := List.getElem?_eq_some_iff.mp hfi
        have n1 : (fs.map (·.1))[j]'(by rw [List.length_map]; exact h1.1) = c := by rw [List.getElem_map, h1.2]
        have n2 : (fs.map (·.1))[i]'(by rw [List.length_map]; exact h2.1) = c := by rw [List.getElem_map, h2.2]
        have := (List.getElem_inj hnd).mp (n1.trans n2.symm)
        omega
      refine ⟨_, rfl, _, rfl, R, CO, dx, _, _, rfl, e7, U.cl, U.nDi, lk5, _, rfl, _, rfl, Fa, .ref tv4, rfl, .inl ⟨kvs, Sum.inl ((c : Nat) : Int), .inr ⟨od, eF7⟩, rfl, hget4.symm⟩, Dg, _, rfl, DPut.t (k := keyW w') eD7 (by rw [keyW_V]; exact etv4) (by rw [hdl]; exact small5 (by omega)), ?_⟩
      have hlen' : (putK dk (keyW w') (V.int ((c : Nat) : Int))).length = i + 1 := by
        have hnone := hno w' hnew
        unfold putK
        have : ¬ (dk.any fun kv => decide (kv.1 = keyW w')) = true := fun z => by
          obtain ⟨x, hx, hxe⟩ := List.any_eq_true.mp z
          unfold valV at hnone
          cases hf : dk.find? fun kv => decide (kv.1 = keyW w') with
          | none => exact absurd hxe (List.find?_eq_none.mp hf x hx)
          | some u => rw [hf] at hnone; cases hnone
        rw [if_neg this, List.length_append, hdl]
        rfl
      refine ⟨_, _, rfl, on7.upn nDH, by rw [upd_ne nFD]; exact eF7, hfd7.imp fun t xs e => ?_, by rw [upd_ne nRD]; exact e7, by rw [upd_ne nBD]; exact eB7, by rw [upd_ne nWD]; exact eW7, upd_same, hlen', fun j d v hj hfj => ?_, fun v hv => ?_⟩
      · rw [upd_ne (fun z => by rw [z, eD7] at e; cases e)]
        exact e
      · rw [valV_put]
        by_cases e : j = i
        · subst e
          rw [hfi] at hfj
          cases hfj
          rw [if_pos rfl]
          rfl
        · have hne : keyW v ≠ keyW w' := fun z => hnew j d (by omega) (by rw [← keyW_inj z]; exact hfj)
          rw [if_neg hne]
          exact hyes j d v (by omega) hfj
      · rw [valV_put]
        have hne : keyW v ≠ keyW w' := fun z => hv i c (Nat.lt_succ_self _) (by rw [keyW_inj z]; exact hfi)
        rw [if_neg hne]
        exact hno v fun j d hj => hv j d (by omega)
    · rintro σ' H7 ⟨dk, v4, rfl, on7, eF7, hfd7, e7, eB7, eW7, eD7, hdl, hyes, hno⟩
      rw [hfd7.len] at hdl hyes hno
      refine ⟨eF7, q _ fs (on7.upn nFH) ⟨.inl rfl, ⟨dx, B, W, Dg, dk, .inr nBH, .inr nWH, .inr nDH, by rw [upd_ne (Ne.symm nFR)]; exact e7, by rw [upd_ne (Ne.symm nFB)]; exact eB7, by rw [upd_ne (Ne.symm nFW)]; exact eW7, by rw [upd_ne (Ne.symm nFD)]; exact eD7, ⟨fun d v hg => ?_, fun v hv => ?_, hdl⟩⟩, hall, hnd⟩⟩
      · obtain ⟨j, hj⟩ := at_getW hg
        exact hyes j d v (List.getElem?_eq_some_iff.mp hj).1 hj
      · exact hno v fun j d _ hj => hv d (getW_at hnd hj)
end
end Ab

set_option linter.all false
/-! Of the specification alone: acts on pushes that are told as three numbers; standings as threes. -/
namespace AbP
open Na AbS
def cutL (l t : List Nat) : Push := cut l (t.getD 0 0) (t.getD 1 0) (t.getD 2 0)
structure WayL (l t : List Nat) : Prop where
  len : t.length = 3
  way : Way l (t.getD 0 0) (t.getD 1 0) (t.getD 2 0)
theorem WayL.at {l t : List Nat} (w : WayL l t) : ∀ j, j < 3 → t.getD j 0 ≤ bd l j := lt3.mpr ⟨w.way.h0, w.way.h1, w.way.h2⟩
theorem wayL_of {l t : List Nat} (hl : t.length = 3) (h : ∀ j, j < 3 → t.getD j 0 ≤ bd l j) : WayL l t := ⟨hl, ⟨h 0 (by decide), h 1 (by decide), h 2 (by decide)⟩⟩
def pushed3 (l t : List Nat) (x : Reach) (n : Nat) : Option (List Nat) := if n < 1 ∨ x.most < n then none else
  if x.to_ = true then (if t.getD x.deck 0 + n ≤ bd l x.deck then some (t.set x.deck (t.getD x.deck 0 + n)) else none)
  else if n ≤ t.getD x.deck 0 then some (t.set x.deck (t.getD x.deck 0 - n)) else none
theorem pushed3_way {l t u : List Nat} {x : Reach} {n : Nat} (w : WayL l t) (e : pushed3 l t x n = some u) : WayL l u := by
  unfold pushed3 at e
  have key : ∀ v, v ≤ bd l x.deck → WayL l (t.set x.deck v) := fun v hv => wayL_of (by rw [List.length_set]; exact w.len) fun j hj => by
    rw [List.getD_eq_getElem?_getD, List.getElem?_set]
    by_cases h : x.deck = j
    · rw [if_pos h]
      subst h
      rw [if_pos (by rw [w.len]; exact hj)]
      exact hv
    · rw [if_neg h, ← List.getD_eq_getElem?_getD]
      exact w.at j hj
  split at e
  · cases e
  · split at e
    · split at e
      · cases e
        exact key _ ‹_›
      · cases e
    · split at e
      · cases e
        refine key _ ?_
        by_cases h : x.deck < 3
        · have := w.at _ h
          omega
        · have : t.getD x.deck 0 = 0 := by
            rw [List.getD_eq_getElem?_getD, List.getElem?_eq_none (by rw [w.len]; omega)]
            rfl
          omega
      · cases e
theorem pushed_eq {l t : List Nat} {x : Reach} {n : Nat} (h : Good7 l) (w : WayL l t) (hx : x.deck < 3) : pushed (rodOf l).decks (cutL l t) x n = (pushed3 l t x n).map (cutL l) := by
  unfold pushed pushed3
  by_cases hn : n < 1 ∨ x.most < n
  · rw [if_pos hn, if_pos hn]
    rfl
  · rw [if_neg hn, if_neg hn]
    have hn1 : 1 ≤ n := by omega
    have d := decks_are h
    obtain ⟨a, b, c, rfl⟩ : ∃ a b c, t = [a, b, c] := by
      match t, w.len with
      | [a, b, c], _ => exact ⟨a, b, c, rfl⟩
    have w0 : a ≤ bd l 0 := w.way.h0
    have w1 : b ≤ bd l 1 := w.way.h1
    have w2 : c ≤ bd l 2 := w.way.h2
    obtain ⟨j, to_, most⟩ := x
    dsimp only at hx hn ⊢
    have ec : cutL l = fun t => cut l (t.getD 0 0) (t.getD 1 0) (t.getD 2 0) := rfl
    rw [ec]
    revert d
    generalize (rodOf l).decks = ds
    generalize cut l = f
    intro d
    have b0 : (deckAt l 0).beads = bd l 0 := rfl
    have b1 : (deckAt l 1).beads = bd l 1 := rfl
    have b2 : (deckAt l 2).beads = bd l 2 := rfl
    cases d with
    | one h1 h2 e1 e2 =>
      match j, hx with
      | 0, _ =>
        show (if to_ = true then (if a + n ≤ (deckAt l 0).beads then some [a + n] else none) else if n ≤ a then some [a - n] else none) = _
        rw [b0]
        cases to_ with
        | true =>
          rw [if_pos rfl, if_pos rfl]
          by_cases hh : a + n ≤ bd l 0
          · rw [if_pos hh, if_pos (show [a, b, c].getD 0 0 + n ≤ bd l 0 from hh)]; rfl
          · rw [if_neg hh, if_neg (show ¬ [a, b, c].getD 0 0 + n ≤ bd l 0 from hh)]; rfl
        | false =>
          rw [if_neg Bool.false_ne_true, if_neg Bool.false_ne_true]
          by_cases hh : n ≤ a
          · rw [if_pos hh, if_pos (show n ≤ [a, b, c].getD 0 0 from hh)]; rfl
          · rw [if_neg hh, if_neg (show ¬ n ≤ [a, b, c].getD 0 0 from hh)]; rfl
      | 1, _ =>
        show none = _
        rw [if_neg (show ¬ [a, b, c].getD 1 0 + n ≤ bd l 1 from by show ¬ b + n ≤ _; omega), if_neg (show ¬ n ≤ [a, b, c].getD 1 0 from by show ¬ n ≤ b; omega)]
        split <;> rfl
      | 2, _ =>
        show none = _
        rw [if_neg (show ¬ [a, b, c].getD 2 0 + n ≤ bd l 2 from by show ¬ c + n ≤ _; omega), if_neg (show ¬ n ≤ [a, b, c].getD 2 0 from by show ¬ n ≤ c; omega)]
        split <;> rfl
    | two h1 h2 e2 =>
      match j, hx with
      | 0, _ =>
        show (if to_ = true then (if a + n ≤ (deckAt l 0).beads then some [a + n, b] else none) else if n ≤ a then some [a - n, b] else none) = _
        rw [b0]
        cases to_ with
        | true =>
          rw [if_pos rfl, if_pos rfl]
          by_cases hh : a + n ≤ bd l 0
          · rw [if_pos hh, if_pos (show [a, b, c].getD 0 0 + n ≤ bd l 0 from hh)]; rfl
          · rw [if_neg hh, if_neg (show ¬ [a, b, c].getD 0 0 + n ≤ bd l 0 from hh)]; rfl
        | false =>
          rw [if_neg Bool.false_ne_true, if_neg Bool.false_ne_true]
          by_cases hh : n ≤ a
          · rw [if_pos hh, if_pos (show n ≤ [a, b, c].getD 0 0 from hh)]; rfl
          · rw [if_neg hh, if_neg (show ¬ n ≤ [a, b, c].getD 0 0 from hh)]; rfl
      | 1, _ =>
        show (if to_ = true then (if b + n ≤ (deckAt l 1).beads then some [a, b + n] else none) else if n ≤ b then some [a, b - n] else none) = _
        rw [b1]
        cases to_ with
        | true =>
          rw [if_pos rfl, if_pos rfl]
          by_cases hh : b + n ≤ bd l 1
          · rw [if_pos hh, if_pos (show [a, b, c].getD 1 0 + n ≤ bd l 1 from hh)]; rfl
          · rw [if_neg hh, if_neg (show ¬ [a, b, c].getD 1 0 + n ≤ bd l 1 from hh)]; rfl
        | false =>
          rw [if_neg Bool.false_ne_true, if_neg Bool.false_ne_true]
          by_cases hh : n ≤ b
          · rw [if_pos hh, if_pos (show n ≤ [a, b, c].getD 1 0 from hh)]; rfl
          · rw [if_neg hh, if_neg (show ¬ n ≤ [a, b, c].getD 1 0 from hh)]; rfl
      | 2, _ =>
        show none = _
        rw [if_neg (show ¬ [a, b, c].getD 2 0 + n ≤ bd l 2 from by show ¬ c + n ≤ _; omega), if_neg (show ¬ n ≤ [a, b, c].getD 2 0 from by show ¬ n ≤ c; omega)]
        split <;> rfl
    | three h1 h2 =>
      match j, hx with
      | 0, _ =>
        show (if to_ = true then (if a + n ≤ (deckAt l 0).beads then some [a + n, b, c] else none) else if n ≤ a then some [a - n, b, c] else none) = _
        rw [b0]
        cases to_ with
        | true =>
          rw [if_pos rfl, if_pos rfl]
          by_cases hh : a + n ≤ bd l 0
          · rw [if_pos hh, if_pos (show [a, b, c].getD 0 0 + n ≤ bd l 0 from hh)]; rfl
          · rw [if_neg hh, if_neg (show ¬ [a, b, c].getD 0 0 + n ≤ bd l 0 from hh)]; rfl
        | false =>
          rw [if_neg Bool.false_ne_true, if_neg Bool.false_ne_true]
          by_cases hh : n ≤ a
          · rw [if_pos hh, if_pos (show n ≤ [a, b, c].getD 0 0 from hh)]; rfl
          · rw [if_neg hh, if_neg (show ¬ n ≤ [a, b, c].getD 0 0 from hh)]; rfl
      | 1, _ =>
        show (if to_ = true then (if b + n ≤ (deckAt l 1).beads then some [a, b + n, c] else none) else if n ≤ b then some [a, b - n, c] else none) = _
        rw [b1]
        cases to_ with
        | true =>
          rw [if_pos rfl, if_pos rfl]
          by_cases hh : b + n ≤ bd l 1
          · rw [if_pos hh, if_pos (show [a, b, c].getD 1 0 + n ≤ bd l 1 from hh)]; rfl
          · rw [if_neg hh, if_neg (show ¬ [a, b, c].getD 1 0 + n ≤ bd l 1 from hh)]; rfl
        | false =>
          rw [if_neg Bool.false_ne_true, if_neg Bool.false_ne_true]
          by_cases hh : n ≤ b
          · rw [if_pos hh, if_pos (show n ≤ [a, b, c].getD 1 0 from hh)]; rfl
          · rw [if_neg hh, if_neg (show ¬ n ≤ [a, b, c].getD 1 0 from hh)]; rfl
      | 2, _ =>
        show (if to_ = true then (if c + n ≤ (deckAt l 2).beads then some [a, b, c + n] else none) else if n ≤ c then some [a, b, c - n] else none) = _
        rw [b2]
        cases to_ with
        | true =>
          rw [if_pos rfl, if_pos rfl]
          by_cases hh : c + n ≤ bd l 2
          · rw [if_pos hh, if_pos (show [a, b, c].getD 2 0 + n ≤ bd l 2 from hh)]; rfl
          · rw [if_neg hh, if_neg (show ¬ [a, b, c].getD 2 0 + n ≤ bd l 2 from hh)]; rfl
        | false =>
          rw [if_neg Bool.false_ne_true, if_neg Bool.false_ne_true]
          by_cases hh : n ≤ c
          · rw [if_pos hh, if_pos (show n ≤ [a, b, c].getD 2 0 from hh)]; rfl
          · rw [if_neg hh, if_neg (show ¬ n ≤ [a, b, c].getD 2 0 from hh)]; rfl
def stroke3 (l : List Nat) (s : Stroke) (n k : Nat) (t : List Nat) : Option (List Nat) := (pushed3 l t s.first n).bind fun u => match s.second with
  | none => if k = 0 then some u else none
  | some y => pushed3 l u y k
theorem stroke_eq {l t : List Nat} {s : Stroke} {n k : Nat} (h : Good7 l) (w : WayL l t) (h1 : s.first.deck < 3) (h2 : ∀ y, s.second = some y → y.deck < 3) : strokeOn (rodOf l).decks s n k (cutL l t) = (stroke3 l s n k t).map (cutL l) := by
  unfold strokeOn stroke3
  rw [pushed_eq h w h1]
  cases e : pushed3 l t s.first n with
  | none => rfl
  | some u =>
    show (match s.second with | none => if k = 0 then some (cutL l u) else none | some y => pushed (rodOf l).decks (cutL l u) y k) = (match s.second with | none => if k = 0 then some u else none | some y => pushed3 l u y k).map (cutL l)
    cases hs : s.second with
    | none =>
      show (if k = 0 then some (cutL l u) else none) = (if k = 0 then some u else none).map (cutL l)
      split <;> rfl
    | some y => exact pushed_eq h (pushed3_way w e) (h2 y hs)
theorem stroke3_way {l t u : List Nat} {s : Stroke} {n k : Nat} (w : WayL l t) (e : stroke3 l s n k t = some u) : WayL l u := by
  unfold stroke3 at e
  cases e1 : pushed3 l t s.first n with
  | none => rw [e1] at e; cases e
  | some v =>
    rw [e1] at e
    have wv := pushed3_way w e1
    have e : (match s.second with | none => if k = 0 then some v else none | some y => pushed3 l v y k) = some u := e
    cases hs : s.second with
    | none =>
      rw [hs] at e
      have e : (if k = 0 then some v else none) = some u := e
      split at e
      · cases e
        exact wv
      · cases e
    | some y =>
      rw [hs] at e
      exact pushed3_way wv e
/-! ## standings as threes, one a rod -/
structure StandT (G T : List (List Nat)) (s : Standing) : Prop where
  lenT : T.length = G.length
  lenS : s.length = G.length
  at_ : ∀ (i : Nat) (g t : List Nat), G[i]? = some g → T[i]? = some t → WayL g t ∧ s[i]? = some (cutL g t)
theorem pad_cutL {g t : List Nat} (h : Good7 g) (w : WayL g t) : pad (cutL g t) = t := by
  unfold cutL
  rw [(way_push h w.way).2.2]
  match t, w.len with
  | [a, b, c], _ => rfl
/-- the standing's numbers are the threes, one behind another -/
theorem stand_numbers {G T : List (List Nat)} {s : Standing} (hG : ∀ g ∈ G, Good7 g) (h : StandT G T s) : standingNumbers s = T.flatten := by
  have e : s.map pad = T := by
    refine List.ext_getElem? fun i => ?_
    rw [List.getElem?_map]
    by_cases hi : i < G.length
    · obtain ⟨w, e⟩ := h.at_ i G[i] (T[i]'(by rw [h.lenT]; exact hi)) (List.getElem?_eq_getElem hi) (List.getElem?_eq_getElem _)
      rw [e, List.getElem?_eq_getElem (by rw [h.lenT]; exact hi)]
      exact congrArg some (pad_cutL (hG _ (List.getElem_mem hi)) w)
    · rw [List.getElem?_eq_none (by rw [h.lenS]; omega), List.getElem?_eq_none (by rw [h.lenT]; omega)]
      rfl
  rw [← e]
  unfold standingNumbers
  rw [List.flatMap_def]
  rfl
/-- an act on a rod that's there -/
theorem acted_eq {G T : List (List Nat)} {s : Standing} {h : Hand} {a : Act} {g t : List Nat} {x : Stroke} (hG : ∀ g ∈ G, Good7 g) (st : StandT G T s) (eg : G[a.rod]? = some g) (et : T[a.rod]? = some t) (ex : h.strokes[a.stroke]? = some x)
    (h1 : x.first.deck < 3) (h2 : ∀ y, x.second = some y → y.deck < 3) : acted (G.map rodOf) h s a = (stroke3 g x a.n a.k t).map fun u => s.set a.rod (cutL g u) := by
  obtain ⟨w, es⟩ := st.at_ _ _ _ eg et
  unfold acted
  rw [List.getElem?_map, eg, es, ex]
  show (strokeOn (rodOf g).decks x a.n a.k (cutL g t)).map _ = _
  rw [stroke_eq (hG g (List.mem_of_getElem? eg)) w h1 h2, Option.map_map]
  rfl
theorem acted_none {m : Make} {s : Standing} {h : Hand} {a : Act} (ex : h.strokes[a.stroke]? = none) : acted m h s a = none := by
  unfold acted
  rw [ex]
  cases m[a.rod]? with
  | none => rfl
  | some r =>
    cases s[a.rod]? with
    | none => rfl
    | some p => rfl
theorem StandT.set {G T : List (List Nat)} {s : Standing} (st : StandT G T s) {i : Nat} {g u : List Nat} (eg : G[i]? = some g) (w : WayL g u) : StandT G (T.set i u) (s.set i (cutL g u)) := by
  refine ⟨by rw [List.length_set]; exact st.lenT, by rw [List.length_set]; exact st.lenS, fun j g' t' hg ht => ?_⟩
  rw [List.getElem?_set] at ht ⊢
  have hi := (List.getElem?_eq_some_iff.mp eg).1
  by_cases hj : i = j
  · subst hj
    rw [if_pos rfl, if_pos (by rw [st.lenT]; exact hi)] at ht
    rw [if_pos rfl, if_pos (by rw [st.lenS]; exact hi)]
    cases ht
    rw [eg] at hg
    cases hg
    exact ⟨w, rfl⟩
  · rw [if_neg hj] at ht
    rw [if_neg hj]
    exact st.at_ j g' t' hg ht
/-- the digit that a rod shows in form -/
theorem shown_eq {G T : List (List Nat)} {s : Standing} {i : Nat} {g t : List Nat} (hG : ∀ g ∈ G, Good7 g) (st : StandT G T s) (eg : G[i]? = some g) (et : T[i]? = some t) :
    shownAt (G.map rodOf) s i = if cnt g (t.getD 0 0) (t.getD 1 0) (t.getD 2 0) < g.getD 0 0 ∧ cutL g t = formOf (rodOf g) (cnt g (t.getD 0 0) (t.getD 1 0) (t.getD 2 0)) then some (cnt g (t.getD 0 0) (t.getD 1 0) (t.getD 2 0)) else none := by
  obtain ⟨w, es⟩ := st.at_ _ _ _ eg et
  unfold shownAt
  rw [List.getElem?_map, eg, es]
  show (if worthOf (rodOf g).decks (cutL g t) < (rodOf g).ratio ∧ cutL g t = formOf (rodOf g) (worthOf (rodOf g).decks (cutL g t)) then some (worthOf (rodOf g).decks (cutL g t)) else none) = _
  have e : worthOf (rodOf g).decks (cutL g t) = cnt g (t.getD 0 0) (t.getD 1 0) (t.getD 2 0) := (way_push (hG g (List.mem_of_getElem? eg)) w.way).2.1
  rw [e]
  rfl
end AbP

set_option linter.all false
/-! Of the specification alone: what lists of numbers are: makes, standings, by their numbers. -/
namespace AbP
open Na AbS
theorem rodWrong_cases (g : List Nat) : (¬ Good7 g ∧ rodWrong g = 2) ∨ (Good7 g ∧ 255 < bd g 0 * wo g 0 + bd g 1 * wo g 1 + bd g 2 * wo g 2 ∧ rodWrong g = 3) ∨
    (Good7 g ∧ bd g 0 * wo g 0 + bd g 1 * wo g 1 + bd g 2 * wo g 2 ≤ 255 ∧ (¬ ∀ d, d < g.getD 0 0 → ∃ a b c, Way g a b c ∧ cnt g a b c = d) ∧ rodWrong g = 4) ∨
    (Good7 g ∧ bd g 0 * wo g 0 + bd g 1 * wo g 1 + bd g 2 * wo g 2 ≤ 255 ∧ (∀ d, d < g.getD 0 0 → ∃ a b c, Way g a b c ∧ cnt g a b c = d) ∧ rodWrong g = 0) := by
  unfold rodWrong
  by_cases h : Good7 g
  · have h1 : rodGood g = true := (rodGood_iff g).mpr h
    rw [h1, if_neg (by decide), most_is h]
    by_cases h2 : 255 < bd g 0 * wo g 0 + bd g 1 * wo g 1 + bd g 2 * wo g 2
    · rw [if_pos h2]
      exact .inr (.inl ⟨h, h2, rfl⟩)
    · rw [if_neg h2]
      by_cases h3 : ∀ d, d < g.getD 0 0 → ∃ a b c, Way g a b c ∧ cnt g a b c = d
      · rw [(whole_iff h).mpr h3, if_neg (by decide)]
        exact .inr (.inr (.inr ⟨h, by omega, h3, rfl⟩))
      · have : (rodOf g).whole = false := by
          cases e : (rodOf g).whole with
          | false => rfl
          | true => exact absurd ((whole_iff h).mp e) h3
        rw [this, if_pos rfl]
        exact .inr (.inr (.inl ⟨h, by omega, h3, rfl⟩))
  · have h1 : rodGood g = false := by
      cases e : rodGood g with
      | false => rfl
      | true => exact absurd ((rodGood_iff g).mp e) h
    rw [h1, if_pos rfl]
    exact .inl ⟨h, rfl⟩
/-- the seven numbers of rod i -/
abbrev seven (l : List Nat) (i : Nat) : List Nat := (l.drop (7 * i)).take 7
theorem seven_at (l : List Nat) (i j : Nat) (hj : j < 7) : (seven l i).getD j 0 = l.getD (7 * i + j) 0 := group_at 7 i j l hj
theorem make_len {l : List Nat} (h : l.length % 7 ≠ 0 ∨ l.length = 0 ∨ 448 < l.length) : makeOf l = .error ⟨1, 0⟩ := if_pos h
theorem groups_seven {l : List Nat} (h : l.length % 7 = 0) {i : Nat} {g : List Nat} : (groups 7 l)[i]? = some g ↔ i < l.length / 7 ∧ g = seven l i := by
  have hl : (groups 7 l).length = l.length / 7 := groups_len 7 (by decide) l _ (by omega)
  constructor
  · intro e
    have hi := (List.getElem?_eq_some_iff.mp e).1
    rw [hl] at hi
    have := groups_get 7 (by decide) l i (by omega)
    rw [e] at this
    exact ⟨hi, Option.some.inj this⟩
  · rintro ⟨hi, rfl⟩
    exact groups_get 7 (by decide) l i (by omega)
/-- the first rod with which something is wrong -/
theorem make_wrong {l : List Nat} (h : ¬ (l.length % 7 ≠ 0 ∨ l.length = 0 ∨ 448 < l.length)) {i : Nat} (hi : i < l.length / 7) (hw : rodWrong (seven l i) ≠ 0) (hn : ∀ j, j < i → rodWrong (seven l j) = 0) : makeOf l = .error ⟨rodWrong (seven l i), i⟩ := by
  have h7 : l.length % 7 = 0 := by omega
  have e : (groups 7 l).findIdx? (fun (g : List Nat) => rodWrong g != 0) = some i := by
    refine first_is ((groups_seven h7).mpr ⟨hi, rfl⟩) (by simpa using hw) fun j y hj hy => ?_
    obtain ⟨_, rfl⟩ := (groups_seven h7).mp hy
    simpa using hn j hj
  have h' : ¬ (l.length % 7 ≠ 0 ∨ l.length = 0 ∨ 7 * RODS < l.length) := h
  unfold makeOf
  rw [if_neg h', e]
  show Except.error (⟨rodWrong ((groups 7 l).getD i []), i⟩ : Fault) = _
  rw [List.getD_eq_getElem?_getD, (groups_seven h7).mpr ⟨hi, rfl⟩]
  rfl
theorem make_fine {l : List Nat} (h : ¬ (l.length % 7 ≠ 0 ∨ l.length = 0 ∨ 448 < l.length)) (hn : ∀ j, j < l.length / 7 → rodWrong (seven l j) = 0) : makeOf l = .ok ((groups 7 l).map rodOf) := by
  have h7 : l.length % 7 = 0 := by omega
  have e : (groups 7 l).findIdx? (fun (g : List Nat) => rodWrong g != 0) = none := first_none fun j y hy => by
    obtain ⟨hj, rfl⟩ := (groups_seven h7).mp hy
    simpa using hn j hj
  have h' : ¬ (l.length % 7 ≠ 0 ∨ l.length = 0 ∨ 7 * RODS < l.length) := h
  unfold makeOf
  rw [if_neg h', e]
/-- how many beads there are -/
theorem there_eq {G : List (List Nat)} (hG : ∀ g ∈ G, Good7 g) {k : Nat} {g : List Nat} (hg : G[k / 3]? = some g) : thereAt (G.map rodOf) k = bd g (k % 3) := by
  have h := hG g (List.mem_of_getElem? hg)
  unfold thereAt
  rw [List.getElem?_map, hg]
  show (((rodOf g).decks[k % 3]?).map fun (d : Deck) => d.beads).getD 0 = _
  have hj : k % 3 < 3 := Nat.mod_lt _ (by decide)
  have d := decks_are h
  revert d hj
  generalize k % 3 = j
  generalize (rodOf g).decks = ds
  generalize cut g = f
  intro hj d
  cases d with
  | one h1 h2 e1 e2 =>
    match j, hj with
    | 0, _ => rfl
    | 1, _ => exact h1.symm
    | 2, _ => exact h2.symm
  | two h1 h2 e2 =>
    match j, hj with
    | 0, _ => rfl
    | 1, _ => rfl
    | 2, _ => exact h2.symm
  | three h1 h2 =>
    match j, hj with
    | 0, _ => rfl
    | 1, _ => rfl
    | 2, _ => rfl
/-- the three numbers of rod i -/
def three (l : List Nat) (i : Nat) : List Nat := [l.getD (3 * i) 0, l.getD (3 * i + 1) 0, l.getD (3 * i + 2) 0]
def threes (n : Nat) (l : List Nat) : List (List Nat) := (List.range n).map (three l)
theorem stand_len {m : Make} {l : List Nat} (h : l.length ≠ 3 * m.length) : standingOf m l = .error ⟨5, l.length⟩ := if_pos h
theorem stand_wrong {m : Make} {l : List Nat} (h : l.length = 3 * m.length) {k : Nat} (hk : k < l.length) (hw : thereAt m k < l.getD k 0) (hn : ∀ j, j < k → l.getD j 0 ≤ thereAt m j) : standingOf m l = .error ⟨5, k⟩ := by
  unfold standingOf
  rw [if_neg (fun z => z h)]
  have : (List.range l.length).find? (fun (k : Nat) => decide (thereAt m k < l.getD k 0)) = some k := by
    rw [List.find?_range_eq_some]
    refine ⟨by simpa using hw, List.mem_range.mpr hk, fun j hj => ?_⟩
    have := hn j hj
    simp only [decide_eq_true_eq, Bool.not_eq_true', decide_eq_false_iff_not]
    omega
  rw [this]
theorem stand_fine {G : List (List Nat)} (hG : ∀ g ∈ G, Good7 g) {l : List Nat} (h : l.length = 3 * G.length) (hn : ∀ j, j < l.length → l.getD j 0 ≤ thereAt (G.map rodOf) j) : ∃ s, standingOf (G.map rodOf) l = .ok s ∧ StandT G (threes G.length l) s := by
  unfold standingOf
  rw [if_neg (fun z => z (by rw [List.length_map]; exact h))]
  have : (List.range l.length).find? (fun (k : Nat) => decide (thereAt (G.map rodOf) k < l.getD k 0)) = none := by
    rw [List.find?_eq_none]
    intro k hk
    have := hn k (List.mem_range.mp hk)
    simp only [decide_eq_true_eq]
    omega
  rw [this]
  refine ⟨_, rfl, by simp [threes], by simp, fun i g t hg ht => ?_⟩
  have hi := (List.getElem?_eq_some_iff.mp hg).1
  have et : t = three l i := by
    unfold threes at ht
    rw [List.getElem?_map, List.getElem?_range hi] at ht
    exact (Option.some.inj ht).symm
  subst et
  have hb : ∀ j, j < 3 → l.getD (3 * i + j) 0 ≤ bd g j := fun j hj => by
    have e1 : (3 * i + j) / 3 = i := by omega
    have e2 : (3 * i + j) % 3 = j := by omega
    have := hn (3 * i + j) (by omega)
    rw [there_eq hG (by rw [e1]; exact hg), e2] at this
    exact this
  have w : WayL g (three l i) := wayL_of rfl (lt3.mpr ⟨hb 0 (by decide), hb 1 (by decide), hb 2 (by decide)⟩)
  refine ⟨w, ?_⟩
  rw [List.getElem?_map, List.getElem?_zipIdx, List.getElem?_map, hg]
  show some ((List.range (rodOf g).decks.length).map fun (j : Nat) => l.getD (3 * (0 + i) + j) 0) = _
  rw [Nat.zero_add]
  refine congrArg some ?_
  have d := decks_are (hG g (List.mem_of_getElem? hg))
  have ec : cutL g (three l i) = cut g (l.getD (3 * i) 0) (l.getD (3 * i + 1) 0) (l.getD (3 * i + 2) 0) := rfl
  rw [ec]
  revert d
  generalize (rodOf g).decks = ds
  generalize cut g = f
  intro d
  cases d with
  | one h1 h2 e1 e2 => rfl
  | two h1 h2 e2 => rfl
  | three h1 h2 => rfl
/-- in form: each rod shows a digit in its form -/
theorem formed_iff {G T : List (List Nat)} {s : Standing} (hG : ∀ g ∈ G, Good7 g) (st : StandT G T s) : formed (G.map rodOf) s = true ↔ ∀ i, i < G.length → (shownAt (G.map rodOf) s i).isSome = true := by
  unfold formed
  rw [Bool.and_eq_true, beq_iff_eq, List.all_eq_true]
  have hl : s.length = (G.map rodOf).length := by rw [st.lenS, List.length_map]
  constructor
  · rintro ⟨_, h⟩ i hi
    have hT : i < T.length := by rw [st.lenT]; exact hi
    rw [shown_eq hG st (List.getElem?_eq_getElem hi) (List.getElem?_eq_getElem hT)]
    obtain ⟨w, es⟩ := st.at_ i _ _ (List.getElem?_eq_getElem hi) (List.getElem?_eq_getElem hT)
    have hm : (rodOf G[i], cutL G[i] T[i]) ∈ List.zip (G.map rodOf) s := by
      refine List.mem_iff_getElem?.mpr ⟨i, ?_⟩
      rw [List.getElem?_zip_eq_some]
      exact ⟨by rw [List.getElem?_map, List.getElem?_eq_getElem hi]; rfl, es⟩
    have := h _ hm
    rw [Bool.and_eq_true, decide_eq_true_eq, beq_iff_eq] at this
    have e : worthOf (rodOf G[i]).decks (cutL G[i] T[i]) = cnt G[i] (T[i].getD 0 0) (T[i].getD 1 0) (T[i].getD 2 0) := (way_push (hG _ (List.getElem_mem hi)) w.way).2.1
    rw [e] at this
    rw [if_pos ⟨this.1, this.2⟩]
    rfl
  · intro h
    refine ⟨hl, fun x hx => ?_⟩
    obtain ⟨i, hi⟩ := List.mem_iff_getElem?.mp hx
    rw [List.getElem?_zip_eq_some] at hi
    obtain ⟨h1, h2⟩ := hi
    have hiG : i < G.length := by
      have := (List.getElem?_eq_some_iff.mp h1).1
      rwa [List.length_map] at this
    have hT : i < T.length := by rw [st.lenT]; exact hiG
    have := h i hiG
    rw [shown_eq hG st (List.getElem?_eq_getElem hiG) (List.getElem?_eq_getElem hT)] at this
    obtain ⟨w, es⟩ := st.at_ i _ _ (List.getElem?_eq_getElem hiG) (List.getElem?_eq_getElem hT)
    rw [List.getElem?_map, List.getElem?_eq_getElem hiG] at h1
    rw [es] at h2
    have e1 : x.1 = rodOf G[i] := (Option.some.inj h1).symm
    have e2 : x.2 = cutL G[i] T[i] := (Option.some.inj h2).symm
    have e : worthOf (rodOf G[i]).decks (cutL G[i] T[i]) = cnt G[i] (T[i].getD 0 0) (T[i].getD 1 0) (T[i].getD 2 0) := (way_push (hG _ (List.getElem_mem hiG)) w.way).2.1
    split at this
    · rename_i hc
      rw [Bool.and_eq_true, decide_eq_true_eq, beq_iff_eq, e1, e2, e]
      exact hc
    · cases this
end AbP

set_option Elab.async false
set_option linter.all false
set_option maxRecDepth 100000
set_option maxHeartbeats 4000000
namespace Ab
open PySem PySem.Spec PyProof.Rows L2 AbM AbF AbP
/-! ### which digits have a form -/
theorem isW_three {l w : List Nat} : isW (dsL l) w ↔ ∃ a b c, w = [a, b, c] ∧ Way l a b c := by
  constructor
  · intro h
    match w, h with
    | [a, b, c], h => exact ⟨a, b, c, rfl, ⟨h.1, h.2.1, h.2.2.1⟩⟩
    | [], h => exact h.elim
    | [a], h => exact h.2.elim
    | [a, b], h => exact h.2.2.elim
    | a :: b :: c :: d :: r, h => exact h.2.2.2.elim
  · rintro ⟨a, b, c, rfl, h⟩
    exact ⟨h.h0, h.h1, h.h2, trivial⟩
theorem cnt_three (l : List Nat) (a b c : Nat) : cntL (dsL l) [a, b, c] = AbP.cnt l a b c := by
  show a * wo l 0 + (b * wo l 1 + (c * wo l 2 + 0)) = _
  unfold AbP.cnt
  omega
theorem hasW {l : List Nat} {r : Nat} {fs : Tab} (h : All r (dsL l) fs) {d : Nat} (hd : d < r) : (∃ w, getW fs d = some w) ↔ ∃ a b c, Way l a b c ∧ AbP.cnt l a b c = d := by
  constructor
  · rintro ⟨w, hw⟩
    obtain ⟨_, h1, h2, _⟩ := h.some_ d w hw
    obtain ⟨a, b, c, rfl, hwy⟩ := isW_three.mp h1
    exact ⟨a, b, c, hwy, by rw [← cnt_three]; exact h2⟩
  · rintro ⟨a, b, c, hw, e⟩
    cases hg : getW fs d with
    | some w => exact ⟨w, rfl⟩
    | none => exact absurd ((cnt_three l a b c).trans e) (h.none_ d hd hg [a, b, c] (isW_three.mpr ⟨a, b, c, rfl, hw⟩))
theorem pig : ∀ (r : Nat) (ks : List Nat), ks.Nodup → (∀ k ∈ ks, k < r) → ks.length ≤ r ∧ (r ≤ ks.length → ∀ d, d < r → d ∈ ks)
  | 0, ks, _, h => by
    cases ks with
    | nil => exact ⟨Nat.le_refl _, fun _ d hd => absurd hd (Nat.not_lt_zero _)⟩
    | cons x t => exact absurd (h x List.mem_cons_self) (Nat.not_lt_zero _)
  | r + 1, ks, hn, h => by
    by_cases hm : r ∈ ks
    · have hl := List.length_erase_of_mem hm
      have hp : 0 < ks.length := List.length_pos_of_mem hm
      have ih := pig r (ks.erase r) (hn.erase r) fun k hk => by
        have h1 := (List.Nodup.mem_erase_iff hn).mp hk
        have := h k h1.2
        have := h1.1
        omega
      refine ⟨by omega, fun hle d hd => ?_⟩
      by_cases e : d = r
      · rw [e]; exact hm
      · exact List.mem_of_mem_erase (ih.2 (by omega) d (by omega))
    · have ih := pig r ks hn fun k hk => by
        have := h k hk
        have : k ≠ r := fun z => hm (z ▸ hk)
        omega
      exact ⟨by omega, fun hle => by omega⟩
theorem pig2 : ∀ (r : Nat) (ks : List Nat), (∀ d, d < r → d ∈ ks) → r ≤ ks.length
  | 0, _, _ => Nat.zero_le _
  | r + 1, ks, h => by
    have hm := h r (Nat.lt_succ_self _)
    have hl := List.length_erase_of_mem hm
    have hp : 0 < ks.length := List.length_pos_of_mem hm
    have ih := pig2 r (ks.erase r) fun d hd => (List.mem_erase_of_ne (by omega)).mpr (h d (by omega))
    omega
theorem key_iff {fs : Tab} (hn : (fs.map (·.1)).Nodup) {d : Nat} : d ∈ fs.map (·.1) ↔ ∃ w, getW fs d = some w := by
  constructor
  · intro h
    obtain ⟨x, hx, rfl⟩ := List.mem_map.mp h
    obtain ⟨i, hi⟩ := List.mem_iff_getElem?.mp hx
    exact ⟨x.2, getW_at hn hi⟩
  · rintro ⟨w, hw⟩
    obtain ⟨i, hi⟩ := at_getW hw
    exact List.mem_map.mpr ⟨_, List.mem_of_getElem? hi, rfl⟩
theorem wholeW {l : List Nat} {r : Nat} {fs : Tab} (h : All r (dsL l) fs) (hn : (fs.map (·.1)).Nodup) : r ≤ fs.length ↔ ∀ d, d < r → ∃ a b c, Way l a b c ∧ AbP.cnt l a b c = d := by
  have hk : ∀ k ∈ fs.map (·.1), k < r := fun k hk => by
    obtain ⟨w, hw⟩ := (key_iff hn).mp hk
    exact (h.some_ k w hw).1
  have hl : (fs.map (·.1)).length = fs.length := List.length_map _
  constructor
  · intro hle d hd
    exact (hasW h hd).mp ((key_iff hn).mp ((pig r _ hn hk).2 (by omega) d hd))
  · intro hh
    rw [← hl]
    exact pig2 r _ fun d hd => (key_iff hn).mpr ((hasW h hd).mpr (hh d hd))
/-! ### the makes -/
def plc (l : List Nat) : Nat → Nat
  | 0 => 1
  | i + 1 => plc l i * (seven l i).getD 0 0
theorem plc_le {l : List Nat} : ∀ {i : Nat}, (∀ j, j < i → (seven l j).getD 0 0 ≤ 20) → plc l i ≤ 20 ^ i
  | 0, _ => Nat.le_refl _
  | i + 1, h => by
    have ih := plc_le (l := l) (i := i) fun j hj => h j (by omega)
    have := h i (by omega)
    show plc l i * (seven l i).getD 0 0 ≤ _
    rw [Nat.pow_succ]
    exact Nat.mul_le_mul ih this
theorem plc_pos {l : List Nat} : ∀ {i : Nat}, (∀ j, j < i → 2 ≤ (seven l j).getD 0 0) → 1 ≤ plc l i
  | 0, _ => Nat.le_refl _
  | i + 1, h => by
    have ih := plc_pos (l := l) (i := i) fun j hj => h j (by omega)
    have := h i (by omega)
    show 1 ≤ plc l i * (seven l i).getD 0 0
    exact Nat.le_trans (by decide : 1 ≤ 1 * 2) (Nat.mul_le_mul ih this)
theorem iop_mulW {X : Cx} : PIp X .Mult (rI CMulW fun i j => .int (i * j)) := by
  have h : OpR X (inplaceOp .Mult) (rI CMulW fun i j => .int (i * j)) := opI fun _ _ _ _ _ _ _ hc q => imul_int q hc.ok
  exact fun pins s σ H x y v u Q I rx ry q => h pins s σ H x y v u Q I rx ry q
theorem wide_pl {a : Nat} {b k : Nat} (h : a ≤ 20 ^ k) (hk : k ≤ 64) (hb : b ≤ 20) : CMulW ((a : Nat) : Int) ((b : Nat) : Int) := by
  refine wide_mul (a := 320) (b := 5) ?_ ?_ (by decide) (by decide) (by decide)
  · have h1 : (20 : Nat) ^ k ≤ 20 ^ 64 := Nat.pow_le_pow_right (by decide) hk
    have h2 : (20 : Nat) ^ 64 < 2 ^ 320 := by decide +kernel
    show a < _
    omega
  · show b < 2 ^ 5
    omega
theorem cut7 {l : List Nat} {i : Nat} (h : 7 * (i + 1) ≤ l.length) : cutV (natV l) (some (7 * ((i : Nat) : Int))) (some (7 * (((i : Nat) : Int) + 1))) = natV (seven l i) := by
  have e1 : (7 * ((i : Nat) : Int)) = ((7 * i : Nat) : Int) := by omega
  have e2 : (7 * (((i : Nat) : Int) + 1)) = ((7 * (i + 1) : Nat) : Int) := by omega
  rw [e1, e2]
  unfold cutV
  rw [HT.sIx_nat, HT.sIx_nat, natV_len, Nat.min_eq_left (by omega : 7 * i ≤ l.length)]
  try rw [Nat.min_eq_left h]
  have : 7 * (i + 1) - 7 * i = 7 := by omega
  rw [this]
  simp only [natV, seven, List.map_take, List.map_drop]
theorem RodAt.mono {N N' : Addr → Prop} {CO R : Addr} {H : Hp} {l : List Nat} {pl : Nat} {fs : Tab} (h : RodAt N CO R H l pl fs) (m : ∀ b, N b → N' b) : RodAt N' CO R H l pl fs := by
  obtain ⟨n, ⟨dx, B, W, Dg, dk, nB, nW, nD, e1, e2, e3, e4, dv⟩, a, d⟩ := h
  exact ⟨m _ n, ⟨dx, B, W, Dg, dk, m _ nB, m _ nW, m _ nD, e1, e2, e3, e4, dv⟩, a, d⟩
def RodsN (N : Addr → Prop) (CO : Addr) (H : Hp) (l : List Nat) (rs : List V) : Prop := ∀ (j : Nat) (v : V), rs[j]? = some v → ∃ (R : Addr) (fs : Tab), v = .ref R ∧ RodAt N CO R H (seven l j) (plc l j) fs
theorem RodsN.keep {N : Addr → Prop} {CO : Addr} {H H' : Hp} {l : List Nat} {rs : List V} (h : RodsN N CO H l rs) (k : KeepP N H H') : RodsN N CO H' l rs := fun j v e =>
  let ⟨R, fs, a, b⟩ := h j v e
  ⟨R, fs, a, b.keep k⟩
abbrev badLen (l : List Nat) : Prop := l.length % 7 ≠ 0 ∨ l.length = 0 ∨ 448 < l.length
def spRM (K : PySem.W.Frag) (CF CO : Addr) : Sp := fun vs H Q E => ∃ (A : Addr) (l : List Nat), vs = [.ref A] ∧ SqL K H A (natV l) ∧ l.length ≤ sizeLine ∧
  (badLen l → FaultE CF E 1 0) ∧
  (¬ badLen l → ∀ i, i < l.length / 7 → Na.rodWrong (seven l i) ≠ 0 → (∀ j, j < i → Na.rodWrong (seven l j) = 0) → FaultE CF E (Na.rodWrong (seven l i)) i) ∧
  (¬ badLen l → (∀ j, j < l.length / 7 → Na.rodWrong (seven l j) = 0) → ∀ (H' : Hp) (Ro : Addr) (rs : List V), Same H H' → H Ro = none → H' Ro = some (.lst rs) → rs.length = l.length / 7 → RodsN (fun b => H b = none ∧ b ≠ Ro) CO H' l rs → Q (.ref Ro) H')
section
variable {P : Program} {w : World} {K : PySem.W.Frag} {mg : Str → Option Value} {base : Heap} {CE fBI CF fFI CR CO : Addr}
theorem scRM : FnScope ["make", "rods", "place", "number", "told", "rod"] ["make"] (defScope sRM) := ⟨rfl, rfl, rfl, by decide +kernel, rfl, by decide +kernel, by decide +kernel⟩
theorem ok_RM {f fCO fOI : Addr} {fd fdI fdCO fdOI : FuncData} (F : Fun K "read_make" "read_make" sRM f fd) (T : Txt K mg CE fBI CF fFI CR) (U : TxM mg) (O : TxO K mg CO) (M : Mk K CO fOI)
    (GI : FnOk P w K mg base CX0 2 fFI fdI ["self", "rule", "place"] (spFI CF)) (bI : Binds K fdI ["self", "rule", "place"] [])
    (gC : mg "check_rod" = some (.ref fCO)) (kC : PySem.W.keepIn K (.ref fCO) = true) (GC : FnOk P w K mg base (L2.CX P w) 4 fCO fdCO ["told", "number"] (spCO K CF)) (bC : Binds K fdCO ["told", "number"] [])
    (GO : FnOk P w K mg base CX0 3 fOI fdOI ["self", "told", "place"] (spOI K CO)) (bO : Binds K fdOI ["self", "told", "place"] []) :
    FnOk P w K mg base (L2.CX P w) 5 f fd ["make"] (spRM K CF CO) := by
  refine F.okX scRM (fun vs H Q E h => ?_) (fun cdv A0 outer s H vs Q E hr h => ?_)
  · obtain ⟨A, l, rfl, _⟩ := h
    rfl
  · obtain ⟨A, l, rfl, hA, hsz, q1, qw, q0⟩ := h
    obtain ⟨uMC, hMC⟩ := U.cMC
    obtain ⟨uRG, hRG⟩ := U.cRG
    obtain ⟨uRS, hRS⟩ := U.cRS
    obtain ⟨uMR, hMR⟩ := U.cMR
    have hr4 : Room 4 _ := hr.mono (by decide)
    have hr3 : Room 3 _ := hr.mono (by decide)
    refine ⟨_, pss_cons (ps_if (PW.pt (pw_or (pt_cmpR op_ne (pe_op op_mod (pe_callB call_len_seq (by rfl) T.len PySem.boot_len (pa_cons (pv 0) pa_nil)) (pe_glob (v := .int 7) rfl hRS ⟨_, rfl⟩)) pe_int (nomark _))
        (pw_or1 (pt_not (pt_chain op_le op_le pe_int (pe_op op_fdiv (pe_callB call_len_seq (by rfl) T.len PySem.boot_len (pa_cons (pv 0) pa_nil)) (pe_glob (v := .int 7) rfl hRS ⟨_, rfl⟩)) (pe_glob (v := .int 64) rfl hMR ⟨_, rfl⟩))))))
        (pss_one (ps_raise rfl (takes_of rfl rfl rfl rfl) (pmk_oex T.rf.ox T.iF T.tF GI hr3 bI .nil pass0 rfl T.gF (pa_cons (pe_glob (v := .int 1) rfl hMC ⟨_, rfl⟩) (pa_cons pe_int pa_nil))))) pss_nil)
      (pss_cons (ps_set (i := 1) scRM.nd rfl (Or.inl rfl) (pe_lst pa_nil))
      (pss_cons (ps_set (i := 2) scRM.nd rfl (Or.inl rfl) pe_int)
      (pss_cons (ps_for (passes_of rfl) rfl (pi_range1 rfl U.range (pa_cons (pe_op op_fdiv (pe_callB call_len_seq (by rfl) T.len PySem.boot_len (pa_cons (pv 0) pa_nil)) (pe_glob (v := .int 7) rfl hRS ⟨_, rfl⟩)) pa_nil)) (pg_name (i := 3) scRM.nd rfl (Or.inl rfl))
        (pss_cons (ps_set (i := 4) scRM.nd rfl (Or.inl rfl) (pe_slice sl_list (pv 0) (po_some (pe_op op_mul (pe_glob (v := .int 7) rfl hRS ⟨_, rfl⟩) (pv 3))) (po_some (pe_op op_mul (pe_glob (v := .int 7) rfl hRS ⟨_, rfl⟩) (pe_op op_add (pv 3) pe_int)))))
        (pss_cons (ps_expr (pe_call GC hr4 rfl gC kC bC .nil (passes_call (takes_of rfl rfl rfl rfl) (fun _ _ _ _ h => h)) (pa_cons (pv 4) (pa_cons (pv 3) pa_nil))))
        (pss_cons (ps_set (i := 5) scRM.nd rfl (Or.inl rfl) (pe_make M GO hr4 rfl O.gO bO .nil pass0 (pa_cons (pv 4) (pa_cons (pv 2) pa_nil))))
        (pss_cons (ps_if (pt_cmpR op_lt (pe_callB call_len_dT (by rfl) T.len PySem.boot_len (pa_cons (pe_fld (pv 5) rfl) pa_nil)) (pe_fld (pv 5) rfl) (nomark _))
          (pss_one (ps_raise rfl (takes_of rfl rfl rfl rfl) (pmk_oex T.rf.ox T.iF T.tF GI hr3 bI .nil pass0 rfl T.gF (pa_cons (pe_glob (v := .int 4) rfl hRG ⟨_, rfl⟩) (pa_cons (pv 3) pa_nil))))) pss_nil)
        (pss_cons (ps_expr (pe_bm PySem.F.plainAttrs_list PySem.F.slot_list_append PySem.F.type_list_append mt_append (pv 1) (pa_cons (pv 5) pa_nil)))
        (pss_one (ps_aug (i := 2) scRM.nd rfl (Or.inl rfl) (pe_fld (pv 5) rfl) iop_mulW))))))))
      (pss_one (ps_ret (pv 1)))))), ?_⟩
    refine ⟨_, rfl, A, _, rfl, .inl hA, _, _, rfl, rfl, (by decide : (0 : Int) < 7), rfl, _, rfl, ?_⟩
    have el : (natV l).length = l.length := natV_len l
    have em : decide (V.int (((natV l).length : Int) % 7) = V.int 0) = decide (l.length % 7 = 0) := by
      rw [el, eq_int]
      by_cases h : l.length % 7 = 0
      · rw [decide_eq_true h]
        exact beq_iff_eq.mpr (by omega)
      · rw [decide_eq_false h]
        exact beq_eq_false_iff_ne.mpr (by omega)
    by_cases h7 : l.length % 7 ≠ 0
    · exact if_true_of ((congrArg Bool.not em).trans (by rw [decide_eq_false h7]; rfl)) (fraise (q1 (.inl h7)))
    have h7' : l.length % 7 = 0 := by omega
    refine if_false_of ((congrArg Bool.not em).trans (by rw [decide_eq_true h7']; rfl)) ?_
    refine ⟨_, rfl, A, _, rfl, .inl hA, _, _, rfl, rfl, ⟨by decide, by decide⟩, _, _, rfl, rfl, _, rfl, ?_⟩
    rw [el]
    by_cases h1 : l.length = 0
    · exact if_false_of (decide_eq_false (by omega)) ⟨_, rfl, if_true_of rfl (fraise (q1 (.inr (.inl h1))))⟩
    refine if_true_of (decide_eq_true (by omega)) ⟨_, _, rfl, rfl, _, rfl, ?_⟩
    by_cases h4 : 448 < l.length
    · exact if_true_of (by rw [decide_eq_false (by omega)]; rfl) (fraise (q1 (.inr (.inr h4))))
    refine if_false_of (by rw [decide_eq_true (by omega)]; rfl) ?_
    have hb : ¬ badLen l := by
      show ¬ (_ ∨ _ ∨ _)
      omega
    refine ⟨Nat.zero_le _, fun Ro nRo => ?_⟩
    have upR : ∀ {H1 : Hp} {o : HO}, Same H H1 → Same H (upd H1 Ro o) := fun h b u e => by
      rw [upd_ne (ne_of_none e nRo)]
      exact h b u e
    refine ⟨_, rfl, A, _, rfl, .inl ((upR (Same.refl H)).seq hA), _, _, rfl, rfl, ⟨by decide, by decide⟩, _, rfl, by rw [el]; omega, by rw [el]; omega, ?_⟩
    have hn : (((natV l).length : Int) / 7).toNat = l.length / 7 := by rw [el]; omega
    rw [hn]
    refine for_range (lo := 0) (n := l.length / 7) (fun i σ' H1 => ∃ (rs : List V) (v3 v4 v5 : Option V), σ' = [some (.ref A), some (.ref Ro), some (.int ((plc l i : Nat) : Int)), v3, v4, v5] ∧ Same H H1 ∧ H1 Ro = some (.lst rs) ∧ rs.length = i ∧ (∀ j, j < i → Na.rodWrong (seven l j) = 0) ∧ RodsN (fun b => H b = none ∧ b ≠ Ro) CO H1 l rs)
      ⟨[], _, _, _, rfl, upR (Same.refl H), upd_same, rfl, fun j hj => absurd hj (Nat.not_lt_zero _), fun j v e => (nomatch e)⟩ ?_ ?_
    · rintro i σ' H1 hi ⟨rs, v3, v4, v5, rfl, sm, eR, hrl, hfine, hrods⟩
      rw [Int.zero_add]
      have hi64 : i < 64 := by omega
      have h20 : ∀ j, j < i → (seven l j).getD 0 0 ≤ 20 := fun j hj => by
        have := hfine j hj
        rcases rodWrong_cases (seven l j) with ⟨_, e⟩ | ⟨_, _, e⟩ | ⟨_, _, _, e⟩ | ⟨g, _⟩
        · rw [e] at this; cases this
        · rw [e] at this; cases this
        · rw [e] at this; cases this
        · exact g.r1
      have hs7 : (seven l i).length = 7 := by
        rw [List.length_take, List.length_drop]
        omega
      have hA1 : SqL K H1 A (natV l) := sm.seq hA
      refine ⟨_, rfl, _, rfl, _, _, rfl, rfl, .inl ⟨by omega, by omega⟩, _, rfl, _, rfl, _, _, rfl, rfl, _, _, rfl, rfl, .inl ⟨by omega, by omega⟩, _, rfl, A, _, rfl, hA1, fun S nS => ?_⟩
      rw [cut7 (by omega)]
      have smS : Same H1 (upd H1 S (.lst (natV (seven l i)))) := same_upd nS
      have eS : (upd H1 S (.lst (natV (seven l i)))) S = some (.lst (natV (seven l i))) := upd_same
      have nSR : S ≠ Ro := fun z => by rw [z, eR] at nS; cases nS
      generalize upd H1 S (.lst (natV (seven l i))) = H2 at smS eS
      refine ⟨_, rfl, _, rfl, S, seven l i, i, rfl, SqL.of eS, hs7, fun hg => ?_, fun hg h255 => ?_, fun hg h255 H3 sm3 => ?_⟩
      · have e : Na.rodWrong (seven l i) = 2 := by
          rcases rodWrong_cases (seven l i) with ⟨_, e⟩ | ⟨z, _⟩ | ⟨z, _⟩ | ⟨z, _⟩
          · exact e
          all_goals exact absurd z hg
        have := qw hb i hi (by rw [e]; decide) hfine
        rw [e] at this
        exact this
      · have e : Na.rodWrong (seven l i) = 3 := by
          rcases rodWrong_cases (seven l i) with ⟨z, _⟩ | ⟨_, _, e⟩ | ⟨_, z, _⟩ | ⟨_, z, _⟩
          · exact absurd hg z
          · exact e
          all_goals (unfold mostL at h255; omega)
        have := qw hb i hi (by rw [e]; decide) hfine
        rw [e] at this
        exact this
      refine ⟨_, rfl, _, rfl, fun R dx nR ndx ne => ?_⟩
      have sm4 : Same H3 (upd (upd H3 dx (.own R)) R (.ins CO dx [])) := fun b o e => by
        rw [upd_ne (ne_of_none e nR), upd_ne (ne_of_none e ndx)]
        exact e
      refine ⟨R, S, dx, seven l i, plc l i, rfl, upd_same, SqL.of (sm4 _ _ (sm3 _ _ eS)), hs7, hg, fun H5 fs on5 rod => ⟨rfl, ?_⟩⟩
      have sm5 : Same H3 H5 := fun b o e => on5 b o (ne_of_none e nR) (ne_of_none e nR) (sm4 b o e)
      have smA : Same H H3 := (sm.trans smS).trans sm3
      have smF : Same H H5 := smA.trans sm5
      have eR5 : H5 Ro = some (.lst rs) := sm5 _ _ (sm3 _ _ (smS _ _ eR))
      have nH : ∀ b, (b = R ∨ (upd (upd H3 dx (.own R)) R (.ins CO dx [])) b = none) → H b = none ∧ b ≠ Ro := fun b hb' => by
        have n3 : H3 b = none := by
          rcases hb' with rfl | h
          · exact nR
          · cases e : H3 b with
            | none => rfl
            | some u => rw [sm4 _ _ e] at h; cases h
        refine ⟨?_, fun z => ?_⟩
        · cases e : H b with
          | none => rfl
          | some u => rw [smA _ _ e] at n3; cases n3
        · rw [z, sm3 _ _ (smS _ _ eR)] at n3
          cases n3
      have rod' := rod.mono nH
      obtain ⟨_, ⟨dx', B, W, Dg, dk, nB, nW, nD, e1, e2, e3, e4, dv⟩, hall, hnd⟩ := rod'
      have lk1 : (rodF ((seven l i).getD 0 0) (plc l i) B W Dg).lookup ("ratio" : Str) = some (.int (((seven l i).getD 0 0 : Nat) : Int)) := by rfl
      have lk5 : (rodF ((seven l i).getD 0 0) (plc l i) B W Dg).lookup ("digits" : Str) = some (.ref Dg) := by rfl
      refine ⟨_, rfl, R, CO, dx', _, _, rfl, e1, O.cl, O.nDi, lk5, Dg, dk, rfl, e4, _, rfl, R, CO, dx', _, _, rfl, e1, O.cl, O.nRa, lk1, _, _, rfl, rfl, _, rfl, ?_⟩
      by_cases hw : fs.length < (seven l i).getD 0 0
      · refine if_true_of (decide_eq_true (by rw [dv.len]; omega)) ⟨_, rfl, fraise ?_⟩
        have e : Na.rodWrong (seven l i) = 4 := by
          rcases rodWrong_cases (seven l i) with ⟨z, _⟩ | ⟨_, z, _⟩ | ⟨_, _, _, e⟩ | ⟨_, _, z, _⟩
          · exact absurd hg z
          · exact absurd z h255
          · exact e
          · have := (wholeW hall hnd).mpr z
            omega
        have := qw hb i hi (by rw [e]; decide) hfine
        rw [e] at this
        exact this
      refine if_false_of (decide_eq_false (by rw [dv.len]; omega)) ?_
      have hgood : Na.rodWrong (seven l i) = 0 := by
        rcases rodWrong_cases (seven l i) with ⟨z, _⟩ | ⟨_, z, _⟩ | ⟨_, _, z, _⟩ | ⟨_, _, _, e⟩
        · exact absurd hg z
        · exact absurd z h255
        · exact absurd ((wholeW hall hnd).mp (by omega)) z
        · exact e
      have kp : KeepP (fun b => H b = none ∧ b ≠ Ro) H5 (upd H5 Ro (.lst (rs ++ [.ref R]))) := fun b o n e => by
        rw [upd_ne n.2]
        exact e
      have nR2 := (nH R (.inl rfl))
      refine ⟨_, rfl, .inl ⟨rfl, _, SqL.of eR5⟩, _, rfl, Ro, _, _, rfl, rfl, eR5, small5 (by omega), _, rfl, _, rfl, R, CO, dx', _, _, rfl, by rw [upd_ne nR2.2]; exact e1, O.cl, O.nRa, lk1, _, _, rfl, rfl, wide_pl (plc_le h20) (by omega) hg.r1, ?_⟩
      refine ⟨_, _, _, _, rfl, upR smF, upd_same, by rw [List.length_append, hrl]; rfl, fun j hj => ?_, fun j v e => ?_⟩
      · by_cases e : j = i
        · rw [e]; exact hgood
        · exact hfine j (by omega)
      · by_cases hj : j < i
        · rw [List.getElem?_append_left (by omega)] at e
          obtain ⟨R', fs', a, b⟩ := hrods j v e
          exact ⟨R', fs', a, (b.keep ((KeepP.same ((smS.trans sm3).trans sm5)))).keep kp⟩
        · have hjl := (List.getElem?_eq_some_iff.mp e).1
          rw [List.length_append, hrl] at hjl
          have ej : j = i := by simp at hjl; omega
          subst ej
          rw [← hrl, List.getElem?_concat_length] at e
          cases e
          exact ⟨R, fs, rfl, (rod.mono nH).keep kp⟩
    · rintro σ' H1 ⟨rs, v3, v4, v5, rfl, sm, eR, hrl, hfine, hrods⟩
      exact ⟨_, rfl, q0 hb hfine H1 Ro rs sm nRo eR hrl hrods⟩
end
end Ab

set_option Elab.async false
set_option linter.all false
set_option maxRecDepth 100000
set_option maxHeartbeats 4000000
namespace Ab
open PySem PySem.Spec PyProof.Rows L2 AbM AbJ
open Na (Bytes held Cmp)
/-! ### what a line does -/
def putX {σ : Type} (b : Na.Board σ) (st : σ) (o : Nat) (y : Int) (e : Nat) : Except Nat σ := match Na.rodIn b.rods y with
  | .error k => .error k
  | .ok i => b.put st o i e
def chgX {σ : Type} (b : Na.Board σ) (marks : List Nat) (a : Na.Now σ) (o : Nat) (e r : Na.Ex) : Except Nat σ := match e.value b marks a with
  | .error k => .error k
  | .ok x => if x < 0 then .error 3 else match r.value b marks a with
    | .error k => .error k
    | .ok y => putX b a.on o y x.toNat
def setX {σ : Type} (b : Na.Board σ) (marks : List Nat) (a : Na.Now σ) (k : Nat) (e : Na.Ex) : Except Nat (List Nat) := match e.value b marks a with
  | .error k => .error k
  | .ok x => if x < 0 ∨ 99 < x then .error 3 else .ok (a.heads.set k x.toNat)
theorem done_add {σ : Type} (b : Na.Board σ) (marks : List Nat) (p : Na.Method) (a : Na.Now σ) (e r : Na.Ex) : (Na.Line.add e r).done b marks p a = match chgX b marks a 0 e r with
    | .error k => .error k
    | .ok s => .ok (some { a with line := a.line + 1, on := s }) := by
  show (e.value b marks a >>= fun x => if x < 0 then .error 3 else r.value b marks a >>= fun y => Na.rodIn b.rods y >>= fun i => b.put a.on 0 i x.toNat >>= fun s => pure (some { a with line := a.line + 1, on := s })) = _
  unfold chgX
  cases e.value b marks a with
  | error k => rfl
  | ok x =>
    show (if x < 0 then .error 3 else r.value b marks a >>= fun y => Na.rodIn b.rods y >>= fun i => b.put a.on 0 i x.toNat >>= fun s => pure (some { a with line := a.line + 1, on := s })) = match (if x < 0 then Except.error 3 else match r.value b marks a with
      | .error k => .error k
      | .ok y => putX b a.on 0 y x.toNat) with
      | .error k => .error k
      | .ok s => .ok (some { a with line := a.line + 1, on := s })
    by_cases h : x < 0
    · rw [if_pos h, if_pos h]
    · rw [if_neg h, if_neg h]
      cases r.value b marks a with
      | error k => rfl
      | ok y =>
        show (Na.rodIn b.rods y >>= fun i => b.put a.on 0 i x.toNat >>= fun s => pure (some { a with line := a.line + 1, on := s })) = match putX b a.on 0 y x.toNat with
          | .error k => .error k
          | .ok s => .ok (some { a with line := a.line + 1, on := s })
        unfold putX
        cases Na.rodIn b.rods y with
        | error k => rfl
        | ok i =>
          show (b.put a.on 0 i x.toNat >>= fun s => pure (some { a with line := a.line + 1, on := s })) = match b.put a.on 0 i x.toNat with
            | .error k => .error k
            | .ok s => .ok (some { a with line := a.line + 1, on := s })
          cases b.put a.on 0 i x.toNat <;> rfl
theorem done_take {σ : Type} (b : Na.Board σ) (marks : List Nat) (p : Na.Method) (a : Na.Now σ) (e r : Na.Ex) : (Na.Line.take e r).done b marks p a = match chgX b marks a 1 e r with
    | .error k => .error k
    | .ok s => .ok (some { a with line := a.line + 1, on := s }) := by
  show (e.value b marks a >>= fun x => if x < 0 then .error 3 else r.value b marks a >>= fun y => Na.rodIn b.rods y >>= fun i => b.put a.on 1 i x.toNat >>= fun s => pure (some { a with line := a.line + 1, on := s })) = _
  unfold chgX
  cases e.value b marks a with
  | error k => rfl
  | ok x =>
    show (if x < 0 then .error 3 else r.value b marks a >>= fun y => Na.rodIn b.rods y >>= fun i => b.put a.on 1 i x.toNat >>= fun s => pure (some { a with line := a.line + 1, on := s })) = match (if x < 0 then Except.error 3 else match r.value b marks a with
      | .error k => .error k
      | .ok y => putX b a.on 1 y x.toNat) with
      | .error k => .error k
      | .ok s => .ok (some { a with line := a.line + 1, on := s })
    by_cases h : x < 0
    · rw [if_pos h, if_pos h]
    · rw [if_neg h, if_neg h]
      cases r.value b marks a with
      | error k => rfl
      | ok y =>
        show (Na.rodIn b.rods y >>= fun i => b.put a.on 1 i x.toNat >>= fun s => pure (some { a with line := a.line + 1, on := s })) = match putX b a.on 1 y x.toNat with
          | .error k => .error k
          | .ok s => .ok (some { a with line := a.line + 1, on := s })
        unfold putX
        cases Na.rodIn b.rods y with
        | error k => rfl
        | ok i =>
          show (b.put a.on 1 i x.toNat >>= fun s => pure (some { a with line := a.line + 1, on := s })) = match b.put a.on 1 i x.toNat with
            | .error k => .error k
            | .ok s => .ok (some { a with line := a.line + 1, on := s })
          cases b.put a.on 1 i x.toNat <;> rfl
theorem done_set {σ : Type} (b : Na.Board σ) (marks : List Nat) (p : Na.Method) (a : Na.Now σ) (k : Nat) (e : Na.Ex) : (Na.Line.set k e).done b marks p a = match setX b marks a k e with
    | .error k => .error k
    | .ok hs => .ok (some { a with line := a.line + 1, heads := hs }) := by
  show (e.value b marks a >>= fun x => if x < 0 ∨ 99 < x then .error 3 else pure (some { a with line := a.line + 1, heads := a.heads.set k x.toNat })) = _
  unfold setX
  cases e.value b marks a with
  | error k => rfl
  | ok x =>
    show (if x < 0 ∨ 99 < x then Except.error 3 else .ok (some { a with line := a.line + 1, heads := a.heads.set k x.toNat })) = match (if x < 0 ∨ 99 < x then Except.error 3 else .ok (a.heads.set k x.toNat)) with
      | .error k => .error k
      | .ok hs => .ok (some { a with line := a.line + 1, heads := hs })
    by_cases h : x < 0 ∨ 99 < x
    · rw [if_pos h, if_pos h]
    · rw [if_neg h, if_neg h]
def branchX {σ : Type} (b : Na.Board σ) (marks : List Nat) (p : Na.Method) (a : Na.Now σ) (c : List Na.Test) (g : Nat) : Except Nat (Option (Na.Now σ)) := match Na.holds b marks a c with
  | .error k => .error k
  | .ok x => .ok (some { a with line := if x = true then a.line + 1 else g })
theorem done_if {σ : Type} (b : Na.Board σ) (marks : List Nat) (p : Na.Method) (a : Na.Now σ) (c : List Na.Test) : (Na.Line.if_ c).done b marks p a = branchX b marks p a c (Na.otherwise_ p a.line) := by
  show (Na.holds b marks a c >>= fun x => pure (some { a with line := if x = true then a.line + 1 else Na.otherwise_ p a.line })) = _
  unfold branchX
  cases Na.holds b marks a c <;> rfl
theorem done_while {σ : Type} (b : Na.Board σ) (marks : List Nat) (p : Na.Method) (a : Na.Now σ) (c : List Na.Test) : (Na.Line.while_ c).done b marks p a = branchX b marks p a c (Na.behindEnd p a.line) := by
  show (Na.holds b marks a c >>= fun x => pure (some { a with line := if x = true then a.line + 1 else Na.behindEnd p a.line })) = _
  unfold branchX
  cases Na.holds b marks a c <;> rfl

/-! ### a run in the heap -/
abbrev ruF (D G L fr : Addr) : List (Str × V) := [(("lines" : Str), .ref D), (("goals" : Str), .ref G), (("letters" : Str), .ref L), (("frame" : Str), .ref fr)]
theorem ru_lines (D G L fr : Addr) : (ruF D G L fr).lookup ("lines" : Str) = some (.ref D) := by rfl
theorem ru_goals (D G L fr : Addr) : (ruF D G L fr).lookup ("goals" : Str) = some (.ref G) := by rfl
theorem ru_letters (D G L fr : Addr) : (ruF D G L fr).lookup ("letters" : Str) = some (.ref L) := by rfl
theorem ru_frame (D G L fr : Addr) : (ruF D G L fr).lookup ("frame" : Str) = some (.ref fr) := by rfl
structure RunS (CR fr ru dx D G L : Addr) (us : List V) (p : Na.Method) (N : Addr → Prop) (H : Hp) : Prop where
  ob : H ru = some (.ins CR dx (ruF D G L fr))
  li : H D = some (.lst us)
  ls : All2 (LineN N H) us p
  go : H G = some (.lst (natV ((List.range p.length).map (goalOf p))))
  nr : N ru
  nD : N D
  nG : N G
theorem RunS.keep {CR fr ru dx D G L : Addr} {us : List V} {p : Na.Method} {N : Addr → Prop} {H H' : Hp} (h : RunS CR fr ru dx D G L us p N H) (k : KeepP N H H') : RunS CR fr ru dx D G L us p N H' :=
  ⟨k _ _ h.nr h.ob, k _ _ h.nD h.li, h.ls.imp fun _ _ g => g.keep k, k _ _ h.nG h.go, h.nr, h.nD, h.nG⟩
/-- what a run changes: the letters, what is the frame's own -/
structure Apt {σ : Type} (M : Fam σ) (L : Addr) (N : Addr → Prop) : Prop where
  n : ∀ b, N b → b ≠ L ∧ ¬ M.Own b
  L : ¬ M.Own L
def spCh {σ : Type} (M : Fam σ) (CK : Addr) : Sp := fun vs H Q E => ∃ (st : σ) (o : Nat) (x y : Int), vs = [.ref M.fr, .int ((o : Nat) : Int), .int x, .int y] ∧ (o = 0 ∨ o = 1) ∧ M.Fr H st ∧ 0 ≤ x ∧ x ≤ 9999 ∧ (∀ k, putX M.b st o y x.toNat = .error k → Fails CK E k) ∧
  ∀ st', putX M.b st o y x.toNat = .ok st' → ∀ H', (∀ b u, ¬ M.Own b → H b = some u → H' b = some u) → M.Fr H' st' → Q .non H'
/-- what the top has written of runs -/
structure TxU (K : PySem.W.Frag) (mg : Str → Option Value) (w : World) (CR aO : Addr) : Prop where
  cl : Cls K CR
  nLi : NoAttr K CR "lines"
  nGo : NoAttr K CR "goals"
  nLe : NoAttr K CR "letters"
  nFr : NoAttr K CR "frame"
  head : ∃ u, mg "MOST_HEAD" = some (.int 99 u)
  gO : mg "OPS" = some (.ref aO)
  dO : ∃ es n, KDict K w aO es n
  add : KDct K w aO ("add" : Str) (.int 0)
  take : KDct K w aO ("take" : Str) (.int 1)
  iadd : ∃ r, PySem.W.nsIn K aO ("add" : Str) = some (some r)
  itake : ∃ r, PySem.W.nsIn K aO ("take" : Str) = some (some r)
  nset : PySem.W.nsIn K aO ("set" : Str) = some none
  nstop : PySem.W.nsIn K aO ("stop" : Str) = some none
  nfail : PySem.W.nsIn K aO ("fail" : Str) = some none
  nelse : PySem.W.nsIn K aO ("else" : Str) = some none
  nend : PySem.W.nsIn K aO ("end" : Str) = some none
  nif : PySem.W.nsIn K aO ("if" : Str) = some none
  nwhile : PySem.W.nsIn K aO ("while" : Str) = some none
def spCF {σ : Type} (M : Fam σ) (CR CK : Addr) : Sp := fun vs H Q E => ∃ (ru dx D G L : Addr) (us : List V) (p : Na.Method) (N : Addr → Prop) (marks : List Nat) (a : Na.Now σ) (o : Nat) (va vb : V) (e r : Na.Ex), vs = [.ref ru, .int ((o : Nat) : Int), va, vb] ∧ (o = 0 ∨ o = 1) ∧ ExN N H va e ∧ ExN N H vb r ∧ RunS CR M.fr ru dx D G L us p N H ∧ LetV H L a.heads marks ∧ M.Fr H a.on ∧ Small M.b marks a ∧
  (∀ k, chgX M.b marks a o e r = .error k → Fails CK E k) ∧ ∀ st', chgX M.b marks a o e r = .ok st' → ∀ H', (∀ b u, ¬ M.Own b → H b = some u → H' b = some u) → M.Fr H' st' → Q .non H'
def spSE {σ : Type} (M : Fam σ) (CR CK : Addr) : Sp := fun vs H Q E => ∃ (ru dx D G L : Addr) (us : List V) (p : Na.Method) (N : Addr → Prop) (marks : List Nat) (a : Na.Now σ) (k : Nat) (va : V) (e : Na.Ex), vs = [.ref ru, sgV (97 + k), va] ∧ k < 8 ∧ a.heads.length = 8 ∧ ExN N H va e ∧ RunS CR M.fr ru dx D G L us p N H ∧ Apt M L N ∧ LetV H L a.heads marks ∧ M.Fr H a.on ∧ Small M.b marks a ∧
  (∀ j, setX M.b marks a k e = .error j → Fails CK E j) ∧ ∀ hs, setX M.b marks a k e = .ok hs → ∀ H', Only L L H H' → LetV H' L hs marks → Q .non H'
theorem putK_in {kvs : List (L2.Key × V)} {k : L2.Key} {v u : V} (h : valV kvs k = some u) : (putK kvs k v).length = kvs.length := by
  unfold putK
  have : (kvs.any fun kv => decide (kv.1 = k)) = true := by
    unfold valV at h
    cases hf : kvs.find? fun kv => decide (kv.1 = k) with
    | none => rw [hf] at h; cases h
    | some kv => exact List.any_eq_true.mpr ⟨kv, List.mem_of_find?_eq_some hf, List.find?_some (p := fun kv : L2.Key × V => decide (kv.1 = k)) hf⟩
  rw [if_pos this, List.length_map]
section
variable {P : Program} {w : World} {K : PySem.W.Frag} {mg : Str → Option Value} {base : Heap} {CK fKI CR aO : Addr}
theorem scCF : FnScope ["self", "op", "amount", "rod", "number"] ["self", "op", "amount", "rod"] (defScope sCF) := ⟨rfl, rfl, rfl, by decide +kernel, rfl, by decide +kernel, by decide +kernel⟩
theorem ok_CF {σ : Type} {M : Fam σ} {f fW fCh : Addr} {fd fdW fdCh fdK : FuncData} (F : Fun K "change_frame" "Run.change_frame" sCF f fd) (T : TxK K mg CK fKI) (U : TxU K mg w CR aO) (FM : FamOk K M)
    (GK : FnOk P w K mg base CX0 1 fKI fdK ["self", "kind"] (spKI CK)) (bK : Binds K fdK ["self", "kind"] [])
    (gW : mg "work_out" = some (.ref fW)) (kW : PySem.W.keepIn K (.ref fW) = true) (GW : FnOk P w K mg base (L2N.CX P w) 5 fW fdW ["ordered", "letters", "frame"] (spWO M K CK)) (bW : Binds K fdW ["ordered", "letters", "frame"] [])
    (mC : Meth K M.C "change" fCh) (GC : FnOk P w K mg base (L2N.CX P w) 8 fCh fdCh ["self", "op", "amount", "number"] (spCh M CK)) (bC : Binds K fdCh ["self", "op", "amount", "number"] []) :
    FnOk P w K mg base (L2N.CX P w) 9 f fd ["self", "op", "amount", "rod"] (spCF M CR CK) := by
  refine fun_okN F scCF (fun vs H Q E h => ?_) (fun cdv A0 outer s H vs Q E hr h => ?_)
  · obtain ⟨ru, dx, D, G, L, us, p, N, marks, a, o, va, vb, e, r, rfl, _⟩ := h
    rfl
  · obtain ⟨ru, dx, D, G, L, us, p, N, marks, a, o, va, vb, e, r, rfl, ho, ⟨aa, rfl, hNa, ea, la, oka⟩, ⟨ab, rfl, hNb, eb, lb, okb⟩, R, hL, hF, hsm, qe, qo⟩ := h
    obtain ⟨u3, h3⟩ := T.oob
    have hr5 : Room 5 _ := hr.mono (by decide)
    have hr2 : Room 2 _ := hr.mono (by decide)
    refine ⟨_, pss_cons (ps_set (i := 4) scCF.nd rfl (Or.inl rfl) (pe_call GW hr5 rfl gW kW bW .nil (L2N.passes_call (L2N.takes_of rfl rfl rfl rfl) (fun _ _ _ _ h => h)) (pa_cons (pv 2) (pa_cons (pe_fld (pv 0) rfl) (pa_cons (pe_fld (pv 0) rfl) pa_nil)))))
      (pss_cons (ps_if (pt_cmpR op_lt (pv 4) pe_int (nomark _)) (pss_one (L2N.ps_raise rfl (L2N.takes_of rfl rfl rfl rfl) (pmk_oexN T.ox T.iK T.tK GK hr2 bK pass0 rfl T.gK (pa_cons (pe_glob (v := .int 3) rfl h3 ⟨_, rfl⟩) pa_nil)))) pss_nil)
      (pss_one (ps_expr (pe_meth (pe_fld (pv 0) rfl) FM.cl mC GC hr bC .nil (L2N.passes_call (L2N.takes_of rfl rfl rfl rfl) (fun _ _ _ _ h => h)) (pa_cons (pv 1) (pa_cons (pv 4) (pa_cons (pe_call GW hr5 rfl gW kW bW .nil (L2N.passes_call (L2N.takes_of rfl rfl rfl rfl) (fun _ _ _ _ h => h)) (pa_cons (pv 3) (pa_cons (pe_fld (pv 0) rfl) (pa_cons (pe_fld (pv 0) rfl) pa_nil)))) pa_nil))))))), ?_⟩
    refine ⟨_, rfl, _, rfl, ru, CR, dx, _, _, rfl, R.ob, U.cl, U.nLe, ru_letters D G L M.fr, _, rfl, ru, CR, dx, _, _, rfl, R.ob, U.cl, U.nFr, ru_frame D G L M.fr, ?_⟩
    unfold chgX at qe qo
    refine ⟨aa, L, e, marks, a, rfl, SqL.of ea, la, oka, hL, hF, hsm, fun k hk => ?_, fun x hx hxh H1 sm1 => ?_⟩
    · rw [hk] at qe
      exact qe k rfl
    · rw [hx] at qe qo
      dsimp only at qe qo
      have R1 := R.keep (KeepP.same sm1)
      refine ⟨_, rfl, _, _, rfl, rfl, _, rfl, ?_⟩
      by_cases hneg : x < 0
      · rw [if_pos hneg] at qe
        exact if_true_of (decide_eq_true hneg) (kraise (qe 3 rfl))
      · rw [if_neg hneg] at qe qo
        refine if_false_of (decide_eq_false hneg) ?_
        have hF1 := FM.same hF sm1
        obtain ⟨dxf, fsf, eF, hl1, hl2⟩ := FM.at_ hF1
        refine ⟨_, rfl, ru, CR, dx, _, _, rfl, R1.ob, U.cl, U.nFr, ru_frame D G L M.fr, M.fr, dxf, fsf, rfl, eF, hl2, ?_⟩
        refine ⟨_, rfl, _, rfl, _, rfl, _, rfl, ru, CR, dx, _, _, rfl, R1.ob, U.cl, U.nLe, ru_letters D G L M.fr, _, rfl, ru, CR, dx, _, _, rfl, R1.ob, U.cl, U.nFr, ru_frame D G L M.fr, ?_⟩
        refine ⟨ab, L, r, marks, a, rfl, SqL.of (sm1 _ _ eb), lb, okb, hL.same sm1, hF1, hsm, fun k hk => ?_, fun y hy hyh H2 sm2 => ?_⟩
        · rw [hk] at qe
          exact qe k rfl
        · rw [hy] at qe qo
          refine ⟨a.on, o, x, y, rfl, ho, FM.same hF1 sm2, by omega, hxh.2, qe, fun st' hst H3 k3 hF3 => qo st' hst H3 (fun b u nb e0 => k3 b u nb ((sm1.trans sm2) b u e0)) hF3⟩
theorem scSE : FnScope ["self", "head", "ordered", "number"] ["self", "head", "ordered"] (defScope sSE) := ⟨rfl, rfl, rfl, by decide +kernel, rfl, by decide +kernel, by decide +kernel⟩
theorem ok_SE {σ : Type} {M : Fam σ} {f fW : Addr} {fd fdW fdK : FuncData} (F : Fun K "set_head" "Run.set_head" sSE f fd) (T : TxK K mg CK fKI) (U : TxU K mg w CR aO) (FM : FamOk K M)
    (GK : FnOk P w K mg base CX0 1 fKI fdK ["self", "kind"] (spKI CK)) (bK : Binds K fdK ["self", "kind"] [])
    (gW : mg "work_out" = some (.ref fW)) (kW : PySem.W.keepIn K (.ref fW) = true) (GW : FnOk P w K mg base (L2N.CX P w) 5 fW fdW ["ordered", "letters", "frame"] (spWO M K CK)) (bW : Binds K fdW ["ordered", "letters", "frame"] []) :
    FnOk P w K mg base (L2N.CX P w) 6 f fd ["self", "head", "ordered"] (spSE M CR CK) := by
  refine fun_okN F scSE (fun vs H Q E h => ?_) (fun cdv A0 outer s H vs Q E hr h => ?_)
  · obtain ⟨ru, dx, D, G, L, us, p, N, marks, a, k, va, e, rfl, _⟩ := h
    rfl
  · obtain ⟨ru, dx, D, G, L, us, p, N, marks, a, k, va, e, rfl, hk8, h8, ⟨aa, rfl, hNa, ea, la, oka⟩, R, ap, hL, hF, hsm, qe, qo⟩ := h
    obtain ⟨u3, h3⟩ := T.oob
    obtain ⟨u9, h9⟩ := U.head
    have hu := hu_of hr
    have hr2 : Room 2 _ := hr.mono (by decide)
    refine ⟨_, pss_cons (ps_set (i := 3) scSE.nd rfl (Or.inl rfl) (pe_call GW hr rfl gW kW bW .nil (L2N.passes_call (L2N.takes_of rfl rfl rfl rfl) (fun _ _ _ _ h => h)) (pa_cons (pv 2) (pa_cons (pe_fld (pv 0) rfl) (pa_cons (pe_fld (pv 0) rfl) pa_nil)))))
      (pss_cons (ps_if (pt_not (pt_chain op_le op_le pe_int (pv 3) (pe_glob (v := .int 99) rfl h9 ⟨_, rfl⟩))) (pss_one (L2N.ps_raise rfl (L2N.takes_of rfl rfl rfl rfl) (pmk_oexN T.ox T.iK T.tK GK hr2 bK pass0 rfl T.gK (pa_cons (pe_glob (v := .int 3) rfl h3 ⟨_, rfl⟩) pa_nil)))) pss_nil)
      (pss_one (ps_dput hu (pe_fld (pv 0) rfl) (pv 1) (pv 3) rfl))), ?_⟩
    refine ⟨_, rfl, _, rfl, ru, CR, dx, _, _, rfl, R.ob, U.cl, U.nLe, ru_letters D G L M.fr, _, rfl, ru, CR, dx, _, _, rfl, R.ob, U.cl, U.nFr, ru_frame D G L M.fr, ?_⟩
    unfold setX at qe qo
    refine ⟨aa, L, e, marks, a, rfl, SqL.of ea, la, oka, hL, hF, hsm, fun k hk => ?_, fun x hx hxh H1 sm1 => ?_⟩
    · rw [hk] at qe
      exact qe k rfl
    · rw [hx] at qe qo
      dsimp only at qe qo
      have R1 := R.keep (KeepP.same sm1)
      have done : x < 0 ∨ 99 < x → Fails CK E 3 := fun h => by
        rw [if_pos h] at qe
        exact qe 3 rfl
      refine ⟨_, rfl, _, _, rfl, rfl, _, rfl, ?_⟩
      by_cases h0 : 0 ≤ x
      · refine if_true_of (decide_eq_true h0) ?_
        refine ⟨_, _, rfl, rfl, _, rfl, ?_⟩
        by_cases h99 : x ≤ 99
        · refine if_false_of (by rw [decide_eq_true h99]; rfl) ?_
          rw [if_neg (by omega)] at qo
          obtain ⟨kvs, eK, hlen, hval⟩ := hL.same sm1
          refine ⟨_, rfl, _, rfl, ru, CR, dx, _, _, rfl, R1.ob, U.cl, U.nLe, ru_letters D G L M.fr, _, rfl, L, _, rfl, DPut.k (k := Sum.inr (S [97 + k])) eK (small1000 hlen), ?_⟩
          refine qo _ rfl _ (fun b u n1 _ e0 => by rw [upd_ne n1]; exact sm1 b u e0) ⟨_, upd_same, ?_, fun c => ?_⟩
          · rw [putK_in (u := .int ((a.heads.getD k 0 : Nat) : Int))]
            · exact hlen
            · rw [hval]
              unfold ltV
              rw [if_pos (by omega)]
              show some (V.int ((a.heads.getD (97 + k - 97) 0 : Nat) : Int)) = _
              rw [show 97 + k - 97 = k by omega]
          · rw [valV_put]
            have hx' : ((x.toNat : Nat) : Int) = x := Int.toNat_of_nonneg h0
            by_cases hc : c = 97 + k
            · subst hc
              rw [if_pos rfl]
              unfold ltV
              rw [if_pos (by omega)]
              show some (V.int x) = some (V.int (((a.heads.set k x.toNat).getD (97 + k - 97) 0 : Nat) : Int))
              rw [show 97 + k - 97 = k by omega, List.getD_eq_getElem?_getD, List.getElem?_set_self (by omega)]
              show _ = some (V.int ((x.toNat : Nat) : Int))
              rw [hx']
            · have hne : ¬ ((Sum.inr (S [c]) : L2.Key) = Sum.inr (S [97 + k])) := fun z => hc (List.cons.inj (S_inj (Sum.inr.inj z))).1
              rw [if_neg hne, hval]
              unfold ltV
              by_cases h1 : 97 ≤ c ∧ c ≤ 104
              · rw [if_pos h1, if_pos h1, List.getD_eq_getElem?_getD, List.getD_eq_getElem?_getD, List.getElem?_set_ne (by omega)]
              · rw [if_neg h1, if_neg h1]
        · refine if_true_of (by rw [decide_eq_false h99]; rfl) (kraise (done (.inr (by omega))))
      · refine if_false_of (decide_eq_false h0) ?_
        refine ⟨_, rfl, ?_⟩
        exact if_true_of rfl (kraise (done (.inl (by omega))))
end
end Ab

set_option Elab.async false
set_option linter.all false
set_option maxRecDepth 100000
set_option maxHeartbeats 4000000
namespace Ab
open PySem PySem.Spec PyProof.Rows L2 AbM AbF AbP
/-! ### a make that is one, by its numbers -/
structure MakeL (l : List Nat) : Prop where
  m7 : l.length % 7 = 0
  n1 : 1 ≤ l.length / 7
  n64 : l.length / 7 ≤ 64
  good : ∀ j, j < l.length / 7 → Good7 (seven l j)
abbrev mkL (l : List Nat) : Na.Make := (Na.groups 7 l).map Na.rodOf
section
variable {l : List Nat}
theorem mk_at (h : MakeL l) {i : Nat} (hi : i < l.length / 7) : (mkL l)[i]? = some (Na.rodOf (seven l i)) := by
  rw [List.getElem?_map, (groups_seven h.m7).mpr ⟨hi, rfl⟩]
  rfl
theorem mk_len (h : MakeL l) : (mkL l).length = l.length / 7 := by
  rw [List.length_map]
  exact AbS.groups_len 7 (by decide) l _ (by have := h.m7; omega)
theorem mk_span (h : MakeL l) : ∀ i, i ≤ l.length / 7 → Na.span ((mkL l).take i) = plc l i
  | 0, _ => rfl
  | i + 1, hi => by
    rw [AbS.span_take_succ _ i _ (mk_at h (by omega)), mk_span h i (by omega)]
    rfl
theorem mk_all (h : MakeL l) : Na.span (mkL l) = plc l (l.length / 7) := by
  rw [← mk_span h _ (Nat.le_refl _), ← mk_len h, List.take_length]
theorem mk_digit (h : MakeL l) {i : Nat} (hi : i < l.length / 7) (v : Nat) : (Na.digits (mkL l) v).getD i 0 = v / plc l i % (seven l i).getD 0 0 := by
  rw [AbS.digit_at _ v i (by rw [mk_len h]; exact hi), mk_span h i (by omega)]
  refine congrArg (v / plc l i % ·) ?_
  rw [List.getD_eq_getElem?_getD, List.getElem?_map, mk_at h hi]
  rfl
theorem MakeL.pl (h : MakeL l) {i : Nat} (hi : i ≤ l.length / 7) : 1 ≤ plc l i ∧ plc l i ≤ 20 ^ i :=
  ⟨plc_pos fun j hj => (h.good j (by omega)).r0, plc_le fun j hj => (h.good j (by omega)).r1⟩
theorem small_plc (h : MakeL l) {i : Nat} (hi : i ≤ l.length / 7) : plc l i < 2 ^ 320 := by
  have h1 := (h.pl hi).2
  have h2 : (20 : Nat) ^ i ≤ 20 ^ 64 := Nat.pow_le_pow_right (by decide) (by have := h.n64; omega)
  have h3 : (20 : Nat) ^ 64 < 2 ^ 320 := by decide +kernel
  omega
end
/-- all that is no dict of plain keys stays -/
def KeepD (H H' : Hp) : Prop := ∀ b o, (∀ kvs, o ≠ .dK kvs) → H b = some o → H' b = some o
theorem RodAt.keepD {N : Addr → Prop} {CO R : Addr} {H H' : Hp} {l : List Nat} {pl : Nat} {fs : Tab} (h : RodAt N CO R H l pl fs) (k : KeepD H H') : RodAt N CO R H' l pl fs := by
  obtain ⟨n, ⟨dx, B, W, Dg, dk, nB, nW, nD, e1, e2, e3, e4, dv⟩, a, d⟩ := h
  exact ⟨n, ⟨dx, B, W, Dg, dk, nB, nW, nD, k _ _ (fun _ z => by cases z) e1, k _ _ (fun _ z => by cases z) e2, k _ _ (fun _ z => by cases z) e3, k _ _ (fun _ z => by cases z) e4, dv⟩, a, d⟩
theorem RodsN.keepD {N : Addr → Prop} {CO : Addr} {H H' : Hp} {l : List Nat} {rs : List V} (h : RodsN N CO H l rs) (k : KeepD H H') : RodsN N CO H' l rs := fun j v e =>
  let ⟨R, fs, a, b⟩ := h j v e
  ⟨R, fs, a, b.keepD k⟩
theorem RodsN.mono {N N' : Addr → Prop} {CO : Addr} {H : Hp} {l : List Nat} {rs : List V} (h : RodsN N CO H l rs) (m : ∀ b, N b → N' b) : RodsN N' CO H l rs := fun j v e =>
  let ⟨R, fs, a, b⟩ := h j v e
  ⟨R, fs, a, b.mono m⟩
/-! ### the frame of which the number alone is kept -/
abbrev nfF (Ro : Addr) (v : Nat) : List (Str × V) := [(("rods" : Str), .ref Ro), (("value" : Str), .int ((v : Nat) : Int))]
structure NumFr (CN CO fr : Addr) (l : List Nat) (H : Hp) (v : Nat) : Prop where
  ex : ∃ (dx Ro : Addr) (rs : List V), H fr = some (.ins CN dx (nfF Ro v)) ∧ H Ro = some (.lst rs) ∧ rs.length = l.length / 7 ∧ RodsN (fun b => b ≠ fr) CO H l rs
  lt : v < plc l (l.length / 7)
def numFam (CN CO fr : Addr) (l : List Nat) : Fam Nat := ⟨Na.numbers (mkL l), fr, CN, fun H v => NumFr CN CO fr l H v, fun b => b = fr⟩
structure TxN (K : PySem.W.Frag) (mg : Str → Option Value) (CN : Addr) : Prop where
  cl : Cls K CN
  gN : mg "NumberFrame" = some (.ref CN)
  nRo : NoAttr K CN "rods"
  nVa : NoAttr K CN "value"
  take : ∃ u, mg "TAKE" = some (.int 1 u)
theorem numOk {K : PySem.W.Frag} {mg : Str → Option Value} {CN CO fr : Addr} {l : List Nat} (U : TxN K mg CN) (h : MakeL l) : FamOk K (numFam CN CO fr l) := by
  refine ⟨U.cl, ?_, ?_, ?_, ?_⟩
  · rintro H v ⟨⟨dx, Ro, rs, e, _⟩, _⟩
    exact ⟨dx, _, e, rfl, rfl⟩
  · rintro H H' v ⟨⟨dx, Ro, rs, e, e2, e3, e4⟩, lt⟩ s
    exact ⟨⟨dx, Ro, rs, s _ _ e, s _ _ e2, e3, e4.keep (KeepP.same s)⟩, lt⟩
  · rintro H H' v L kvs ⟨⟨dx, Ro, rs, e, e2, e3, e4⟩, lt⟩ eL on
    have k : KeepD H H' := fun b o hn eb => by
      have : b ≠ L := fun z => by rw [z, eL] at eb; cases eb; exact hn _ rfl
      exact on b o this this eb
    exact ⟨⟨dx, Ro, rs, k _ _ (fun _ z => by cases z) e, k _ _ (fun _ z => by cases z) e2, e3, e4.keepD k⟩, lt⟩
  · intro H v _ i d hd
    have hd' : Except.ok ((Na.digits (mkL l) v).getD i 0) = (Except.ok d : Except Nat Nat) := hd
    cases hd'
    by_cases hi : i < l.length / 7
    · rw [mk_digit h hi]
      have g := h.good i hi
      have := Nat.mod_lt (v / plc l i) (show 0 < (seven l i).getD 0 0 by have := g.r0; omega)
      have := g.r1
      omega
    · rw [List.getD_eq_getElem?_getD, List.getElem?_eq_none (by rw [AbS.digits_len, mk_len h]; omega)]
      decide
def spFS (CO : Addr) : Sp := fun vs H Q _ => ∃ (N : Addr → Prop) (Ro : Addr) (rs : List V) (l : List Nat), vs = [.ref Ro] ∧ MakeL l ∧ H Ro = some (.lst rs) ∧ rs.length = l.length / 7 ∧ RodsN N CO H l rs ∧ Q (.int ((plc l (l.length / 7) : Nat) : Int)) H
def spNI (CN : Addr) : Sp := fun vs H Q _ => ∃ (fr dx Ro : Addr) (v : Nat), vs = [.ref fr, .ref Ro, .int ((v : Nat) : Int)] ∧ H fr = some (.ins CN dx []) ∧ ∀ H', Only fr fr H H' → H' fr = some (.ins CN dx (nfF Ro v)) → Q .non H'
section
variable {P : Program} {w : World} {K : PySem.W.Frag} {mg : Str → Option Value} {base : Heap} {CK fKI CN CO : Addr}
theorem scFS : FnScope ["rods"] ["rods"] (defScope sFS) := ⟨rfl, rfl, rfl, by decide +kernel, rfl, by decide +kernel, by decide +kernel⟩
theorem rods_at {N : Addr → Prop} {H : Hp} {l : List Nat} {rs : List V} (h : RodsN N CO H l rs) {i : Nat} (hi : i < rs.length) : ∃ (R dx B W Dg : Addr), rs[i]? = some (.ref R) ∧ N R ∧ H R = some (.ins CO dx (rodF ((seven l i).getD 0 0) (plc l i) B W Dg)) := by
  have e := List.getElem?_eq_getElem hi
  obtain ⟨R, fs, ev, r⟩ := h i _ e
  obtain ⟨n, ⟨dx, B, W, Dg, _, _, _, _, e1, _⟩, _⟩ := r
  exact ⟨R, dx, B, W, Dg, by rw [e, ev], n, e1⟩
theorem ok_FS {f : Addr} {fd : FuncData} (F : Fun K "find_span" "find_span" sFS f fd) (O : TxO K mg CO) : FnOk P w K mg base CX0 1 f fd ["rods"] (spFS CO) := by
  refine F.ok scFS (fun vs H Q E h => ?_) (fun cdv A outer s H vs Q E hr h => ?_)
  · obtain ⟨N, Ro, rs, l, rfl, _⟩ := h
    rfl
  · obtain ⟨N, Ro, rs, l, rfl, hm, eR, hl, hrs, q⟩ := h
    refine ⟨_, pss_one (ps_ret (pe_op op_mulW (pe_fld (pe_ix ix_list (pv 0) (pe_un un_neg pe_int) (fun _ _ => rfl)) rfl) (pe_fld (pe_ix ix_list (pv 0) (pe_un un_neg pe_int) (fun _ _ => rfl)) rfl))), ?_⟩
    have h1 := hm.n1
    have h64 := hm.n64
    obtain ⟨R, dx, B, W, Dg, eA, _, e1⟩ := rods_at hrs (i := rs.length - 1) (by omega)
    have ei : atI rs (-1) = some (.ref R) := by
      obtain ⟨ys, y, rfl⟩ : ∃ ys y, rs = ys ++ [y] := ⟨rs.dropLast, rs.getLast (fun z => by rw [z] at hl; simp at hl; omega), (List.dropLast_concat_getLast _).symm⟩
      rw [List.length_append, List.length_singleton, Nat.add_sub_cancel, List.getElem?_concat_length] at eA
      cases eA
      exact atI_last _ _
    rw [hl] at e1
    have lk1 : (rodF ((seven l (l.length / 7 - 1)).getD 0 0) (plc l (l.length / 7 - 1)) B W Dg).lookup ("ratio" : Str) = some (.int (((seven l (l.length / 7 - 1)).getD 0 0 : Nat) : Int)) := by rfl
    have lk2 : (rodF ((seven l (l.length / 7 - 1)).getD 0 0) (plc l (l.length / 7 - 1)) B W Dg).lookup ("place" : Str) = some (.int ((plc l (l.length / 7 - 1) : Nat) : Int)) := by rfl
    have g := hm.good (l.length / 7 - 1) (by omega)
    refine ⟨_, rfl, _, rfl, Ro, _, _, _, rfl, rfl, SqL.of eR, ei, R, CO, dx, _, _, rfl, e1, O.cl, O.nPl, lk2, _, rfl, _, rfl, Ro, _, _, _, rfl, rfl, SqL.of eR, ei, R, CO, dx, _, _, rfl, e1, O.cl, O.nRa, lk1, _, _, rfl, rfl, wide_pl (hm.pl (by omega)).2 (by omega) g.r1, ?_⟩
    have e : plc l (l.length / 7) = plc l (l.length / 7 - 1) * (seven l (l.length / 7 - 1)).getD 0 0 := by
      have : l.length / 7 = (l.length / 7 - 1) + 1 := by omega
      rw [this]
      rfl
    rw [e] at q
    exact q
theorem scNF : FnScope ["self", "rods", "value"] ["self", "rods", "value"] (defScope sNF) := ⟨rfl, rfl, rfl, by decide +kernel, rfl, by decide +kernel, by decide +kernel⟩
theorem ok_NF {f : Addr} {fd : FuncData} (F : Fun K "__init__" "NumberFrame.__init__" sNF f fd) (U : TxN K mg CN) : FnOk P w K mg base CX0 1 f fd ["self", "rods", "value"] (spNI CN) := by
  refine F.ok scNF (fun vs H Q E h => ?_) (fun cdv A outer s H vs Q E hr h => ?_)
  · obtain ⟨fr, dx, Ro, v, rfl, _⟩ := h
    rfl
  · obtain ⟨fr, dx, Ro, v, rfl, e, q⟩ := h
    refine ⟨_, pss_cons (ps_fld (pv 0) (pv 1) rfl) (pss_one (ps_fld (pv 0) (pv 2) rfl)), ?_⟩
    refine ⟨_, rfl, _, rfl, fr, CN, dx, _, rfl, e, U.cl, U.nRo, by decide, ?_⟩
    refine ⟨_, rfl, _, rfl, fr, CN, dx, _, rfl, upd_same, U.cl, U.nVa, by show 1 < 1000; decide, ?_⟩
    exact q _ (Only.upd.trans Only.upd) upd_same
theorem scNL : FnScope ["self", "number", "rod"] ["self", "number"] (defScope sNL) := ⟨rfl, rfl, rfl, by decide +kernel, rfl, by decide +kernel, by decide +kernel⟩
theorem ok_NL {f fCT fr : Addr} {fd fdCT : FuncData} {l : List Nat} (F : Fun K "look" "NumberFrame.look" sNL f fd) (U : TxN K mg CN) (O : TxO K mg CO) (hm : MakeL l)
    (gC : mg "check_there" = some (.ref fCT)) (kC : PySem.W.keepIn K (.ref fCT) = true) (GC : FnOk P w K mg base (L2N.CX P w) 3 fCT fdCT ["rods", "number"] (spCT K CK)) (bC : Binds K fdCT ["rods", "number"] []) :
    FnOk P w K mg base (L2N.CX P w) 4 f fd ["self", "number"] (spLk (numFam CN CO fr l) CK) := by
  refine fun_okN F scNL (fun vs H Q E h => ?_) (fun cdv A outer s H vs Q E hr h => ?_)
  · obtain ⟨v, x, rfl, _⟩ := h
    rfl
  · obtain ⟨v, x, rfl, ⟨⟨dx, Ro, rs, e, eR, hl, hrs⟩, lt⟩, qe, qo⟩ := h
    refine ⟨_, pss_cons (ps_expr (pe_call GC hr rfl gC kC bC .nil (L2N.passes_call (L2N.takes_of rfl rfl rfl rfl) (fun _ _ _ _ h => h)) (pa_cons (pe_fld (pv 0) rfl) (pa_cons (pv 1) pa_nil))))
      (pss_cons (ps_set (i := 2) scNL.nd rfl (Or.inl rfl) (pe_ix ix_list (pe_fld (pv 0) rfl) (pv 1) (fun _ _ => rfl)))
      (pss_one (ps_ret (pe_op op_mod (pe_op op_fdivW (pe_fld (pv 0) rfl) (pe_fld (pv 2) rfl)) (pe_fld (pv 2) rfl))))), ?_⟩
    have lkR : (nfF Ro v).lookup ("rods" : Str) = some (.ref Ro) := by rfl
    have lkV : (nfF Ro v).lookup ("value" : Str) = some (.int ((v : Nat) : Int)) := by rfl
    refine ⟨_, rfl, fr, CN, dx, _, _, rfl, e, U.cl, U.nRo, lkR, _, rfl, Ro, rs, x, rfl, SqL.of eR, fun hx => ?_, fun hx => ?_⟩
    · refine qe 1 ?_
      have : Na.rodIn (mkL l).length x = .error 1 := if_neg (by rw [mk_len hm, ← hl]; exact hx)
      show (match Na.rodIn (mkL l).length x with | .error k => Except.error k | .ok i => (Na.numbers (mkL l)).look v i) = _
      rw [this]
    · obtain ⟨h0, h1⟩ := hx
      obtain ⟨i, rfl⟩ : ∃ i : Nat, x = i := ⟨x.toNat, by omega⟩
      have hi : i < rs.length := by omega
      have hin : i < l.length / 7 := by omega
      obtain ⟨R, dxr, B, W, Dg, eA, _, e1⟩ := rods_at hrs hi
      have lk1 : (rodF ((seven l i).getD 0 0) (plc l i) B W Dg).lookup ("ratio" : Str) = some (.int (((seven l i).getD 0 0 : Nat) : Int)) := by rfl
      have lk2 : (rodF ((seven l i).getD 0 0) (plc l i) B W Dg).lookup ("place" : Str) = some (.int ((plc l i : Nat) : Int)) := by rfl
      have g := hm.good i hin
      have hp := hm.pl (i := i) (by omega)
      have hr0 := g.r0
      refine ⟨_, rfl, fr, CN, dx, _, _, rfl, e, U.cl, U.nRo, lkR, _, rfl, Ro, _, _, _, rfl, rfl, SqL.of eR, atI_nat eA, ?_⟩
      refine ⟨_, rfl, fr, CN, dx, _, _, rfl, e, U.cl, U.nVa, lkV, _, rfl, R, CO, dxr, _, _, rfl, e1, O.cl, O.nPl, lk2, _, _, rfl, rfl, wide_div (b := 320) (by omega) (small_plc hm (i := i) (by omega)) (by decide) (by decide), ?_⟩
      refine ⟨_, rfl, R, CO, dxr, _, _, rfl, e1, O.cl, O.nRa, lk1, _, _, rfl, rfl, (by omega : (0 : Int) < (((seven l i).getD 0 0 : Nat) : Int)), ?_⟩
      refine qo (v / plc l i % (seven l i).getD 0 0) ?_ H (Same.refl H)
      have : Na.rodIn (mkL l).length ((i : Nat) : Int) = .ok i := (if_pos (by rw [mk_len hm]; omega)).trans (congrArg Except.ok (Int.toNat_natCast i))
      show (match Na.rodIn (mkL l).length ((i : Nat) : Int) with | .error k => Except.error k | .ok i => Except.ok ((Na.digits (mkL l) v).getD i 0)) = _
      rw [this]
      exact congrArg Except.ok (mk_digit hm hin v)
theorem scNC : FnScope ["self", "op", "amount", "number", "change", "result"] ["self", "op", "amount", "number"] (defScope sNC) := ⟨rfl, rfl, rfl, by decide +kernel, rfl, by decide +kernel, by decide +kernel⟩
theorem put_num (l : List Nat) (h : MakeL l) (v o e : Nat) {i : Nat} (hi : i < l.length / 7) : putX (Na.numbers (mkL l)) v o ((i : Nat) : Int) e = if o = 0 then (if v + e * plc l i < plc l (l.length / 7) then .ok (v + e * plc l i) else .error 2) else if e * plc l i ≤ v then .ok (v - e * plc l i) else .error 2 := by
  have h1 : Na.rodIn (mkL l).length ((i : Nat) : Int) = .ok i := (if_pos (by rw [mk_len h]; omega)).trans (congrArg Except.ok (Int.toNat_natCast i))
  show (match Na.rodIn (mkL l).length ((i : Nat) : Int) with | .error k => Except.error k | .ok i => if o = 0 then (if v + e * Na.span ((mkL l).take i) < Na.span (mkL l) then .ok (v + e * Na.span ((mkL l).take i)) else .error 2) else if e * Na.span ((mkL l).take i) ≤ v then .ok (v - e * Na.span ((mkL l).take i)) else .error 2) = _
  rw [h1, mk_all h]
  dsimp only
  rw [mk_span h i (by omega)]
theorem ok_NC {f fCT fFS fr : Addr} {fd fdCT fdFS fdK : FuncData} {l : List Nat} (F : Fun K "change" "NumberFrame.change" sNC f fd) (T : TxK K mg CK fKI) (U : TxN K mg CN) (O : TxO K mg CO) (hm : MakeL l)
    (GK : FnOk P w K mg base CX0 1 fKI fdK ["self", "kind"] (spKI CK)) (bK : Binds K fdK ["self", "kind"] [])
    (gC : mg "check_there" = some (.ref fCT)) (kC : PySem.W.keepIn K (.ref fCT) = true) (GC : FnOk P w K mg base (L2N.CX P w) 3 fCT fdCT ["rods", "number"] (spCT K CK)) (bC : Binds K fdCT ["rods", "number"] [])
    (gS : mg "find_span" = some (.ref fFS)) (kS : PySem.W.keepIn K (.ref fFS) = true) (GS : FnOk P w K mg base CX0 1 fFS fdFS ["rods"] (spFS CO)) (bS : Binds K fdFS ["rods"] []) :
    FnOk P w K mg base (L2N.CX P w) 8 f fd ["self", "op", "amount", "number"] (spCh (numFam CN CO fr l) CK) := by
  refine fun_okN F scNC (fun vs H Q E h => ?_) (fun cdv A outer s H vs Q E hr h => ?_)
  · obtain ⟨v, o, x, y, rfl, _⟩ := h
    rfl
  · obtain ⟨v, o, x, y, rfl, ho, ⟨⟨dx, Ro, rs, e, eR, hl, hrs⟩, lt⟩, hx0, hx9, qe, qo⟩ := h
    obtain ⟨u1, h1⟩ := U.take
    obtain ⟨u2, h2⟩ := T.noroom
    have hr3 : Room 3 _ := hr.mono (by decide)
    have hr2 : Room 2 _ := hr.mono (by decide)
    have hr1 : Room 1 _ := hr.mono (by decide)
    refine ⟨_, pss_cons (ps_expr (pe_call GC hr3 rfl gC kC bC .nil (L2N.passes_call (L2N.takes_of rfl rfl rfl rfl) (fun _ _ _ _ h => h)) (pa_cons (pe_fld (pv 0) rfl) (pa_cons (pv 3) pa_nil))))
      (pss_cons (ps_set (i := 4) scNC.nd rfl (Or.inl rfl) (pe_op op_mulW (pv 2) (pe_fld (pe_ix ix_list (pe_fld (pv 0) rfl) (pv 3) (fun _ _ => rfl)) rfl)))
      (pss_cons (ps_set (i := 5) scNC.nd rfl (Or.inl rfl) (pe_ifExp (pt_cmpR op_eq (pv 1) (pe_glob (v := .int 1) rfl h1 ⟨_, rfl⟩) (nomark _)) (pe_op op_sub (pe_fld (pv 0) rfl) (pv 4)) (pe_op op_add (pe_fld (pv 0) rfl) (pv 4))))
      (pss_cons (ps_if (pt_not (pt_chain op_le op_lt pe_int (pv 5) (pe_call GS hr1 rfl gS kS bS .nil pass0 (pa_cons (pe_fld (pv 0) rfl) pa_nil))))
        (pss_one (L2N.ps_raise rfl (L2N.takes_of rfl rfl rfl rfl) (pmk_oexN T.ox T.iK T.tK GK hr2 bK pass0 rfl T.gK (pa_cons (pe_glob (v := .int 2) rfl h2 ⟨_, rfl⟩) pa_nil)))) pss_nil)
      (pss_one (ps_fld (pv 0) (pv 5) rfl))))), ?_⟩
    have lkR : (nfF Ro v).lookup ("rods" : Str) = some (.ref Ro) := by rfl
    have lkV : (nfF Ro v).lookup ("value" : Str) = some (.int ((v : Nat) : Int)) := by rfl
    refine ⟨_, rfl, fr, CN, dx, _, _, rfl, e, U.cl, U.nRo, lkR, _, rfl, Ro, rs, y, rfl, SqL.of eR, fun hy => ?_, fun hy => ?_⟩
    · refine qe 1 ?_
      have : Na.rodIn (mkL l).length y = .error 1 := if_neg (by rw [mk_len hm, ← hl]; exact hy)
      show (match Na.rodIn (mkL l).length y with | .error k => Except.error k | .ok i => (Na.numbers (mkL l)).put v o i x.toNat) = _
      rw [this]
    · obtain ⟨h0, h1'⟩ := hy
      obtain ⟨i, rfl⟩ : ∃ i : Nat, y = i := ⟨y.toNat, by omega⟩
      obtain ⟨n, rfl⟩ : ∃ n : Nat, x = n := ⟨x.toNat, by omega⟩
      have hi : i < rs.length := by omega
      have hin : i < l.length / 7 := by omega
      obtain ⟨R, dxr, B, W, Dg, eA, _, e1⟩ := rods_at hrs hi
      have lk2 : (rodF ((seven l i).getD 0 0) (plc l i) B W Dg).lookup ("place" : Str) = some (.int ((plc l i : Nat) : Int)) := by rfl
      have hn : ((n : Nat) : Int).toNat = n := Int.toNat_natCast n
      have hput := put_num l hm v o n hin
      have qe' : ∀ k, putX (Na.numbers (mkL l)) v o ((i : Nat) : Int) n = .error k → Fails CK E k := fun k hk => qe k (by rw [hn]; exact hk)
      have qo' : ∀ st', putX (Na.numbers (mkL l)) v o ((i : Nat) : Int) n = .ok st' → ∀ H', (∀ b u, ¬ b = fr → H b = some u → H' b = some u) → NumFr CN CO fr l H' st' → Q .non H' := fun st' hk => qo st' (by rw [hn]; exact hk)
      rw [hput] at qe' qo'
      have ec : ((n : Nat) : Int) * ((plc l i : Nat) : Int) = ((n * plc l i : Nat) : Int) := (Int.natCast_mul _ _).symm
      refine ⟨_, rfl, _, rfl, fr, CN, dx, _, _, rfl, e, U.cl, U.nRo, lkR, _, rfl, Ro, _, _, _, rfl, rfl, SqL.of eR, atI_nat eA, R, CO, dxr, _, _, rfl, e1, O.cl, O.nPl, lk2, _, _, rfl, rfl, wide_mul (a := 14) (b := 320) (by show n < 16384; omega) (small_plc hm (i := i) (by omega)) (by decide) (by decide) (by decide), ?_⟩
      have sp : plc l (l.length / 7) = plc l (l.length / 7) := rfl
      have ok : ∀ (r : Nat), r < plc l (l.length / 7) → NumFr CN CO fr l (upd H fr (.ins CN dx (nfF Ro r))) r := fun r hr => by
        have k : KeepP (fun b => b ≠ fr) H (upd H fr (.ins CN dx (nfF Ro r))) := fun b u n e => by
          rw [upd_ne n]
          exact e
        exact ⟨⟨dx, Ro, rs, upd_same, k _ _ (fun z => by rw [z, e] at eR; cases eR) eR, hl, hrs.keep k⟩, hr⟩
      have stay : ∀ (r : Nat), ∀ b u, ¬ b = fr → H b = some u → (upd H fr (.ins CN dx (nfF Ro r))) b = some u := fun r b u n e => by
        rw [upd_ne n]
        exact e
      rcases ho with rfl | rfl
      · refine ⟨_, rfl, rfl, _, rfl, if_false_of (by decide) ?_⟩
        refine ⟨_, rfl, fr, CN, dx, _, _, rfl, e, U.cl, U.nVa, lkV, _, rfl, _, _, rfl, rfl, ?_⟩
        rw [if_pos rfl] at qe' qo'
        refine ⟨_, rfl, _, _, rfl, rfl, _, rfl, ?_⟩
        refine if_true_of (decide_eq_true (by show (0 : Int) ≤ ((v + n * plc l i : Nat) : Int); omega)) ?_
        refine ⟨_, rfl, fr, CN, dx, _, _, rfl, e, U.cl, U.nRo, lkR, _, Ro, rs, l, rfl, hm, eR, hl, hrs, _, _, rfl, rfl, _, rfl, ?_⟩
        by_cases hlt : v + n * plc l i < plc l (l.length / 7)
        · refine if_false_of (by rw [decide_eq_true (by show ((v + n * plc l i : Nat) : Int) < _; omega)]; rfl) ?_
          rw [if_pos hlt] at qo'
          refine ⟨_, rfl, _, rfl, fr, CN, dx, _, rfl, e, U.cl, U.nVa, by show 2 < 1000; decide, ?_⟩
          exact qo' _ rfl _ (stay (v + n * plc l i)) (ok _ hlt)
        · refine if_true_of (by rw [decide_eq_false (by show ¬ ((v + n * plc l i : Nat) : Int) < _; omega)]; rfl) ?_
          rw [if_neg hlt] at qe'
          exact kraise (qe' 2 rfl)
      · refine ⟨_, rfl, rfl, _, rfl, if_true_of (by decide) ?_⟩
        refine ⟨_, rfl, fr, CN, dx, _, _, rfl, e, U.cl, U.nVa, lkV, _, rfl, _, _, rfl, rfl, ?_⟩
        rw [if_neg (by decide)] at qe' qo'
        refine ⟨_, rfl, _, _, rfl, rfl, _, rfl, ?_⟩
        by_cases hle : n * plc l i ≤ v
        · rw [if_pos hle] at qo'
          have ed : ((v : Nat) : Int) - ((n : Nat) : Int) * ((plc l i : Nat) : Int) = ((v - n * plc l i : Nat) : Int) := by
            rw [ec]
            omega
          refine if_true_of (decide_eq_true (by omega)) ?_
          refine ⟨_, rfl, fr, CN, dx, _, _, rfl, e, U.cl, U.nRo, lkR, _, Ro, rs, l, rfl, hm, eR, hl, hrs, _, _, rfl, rfl, _, rfl, ?_⟩
          refine if_false_of (by rw [decide_eq_true (by rw [ed]; omega)]; rfl) ?_
          refine ⟨_, rfl, _, rfl, fr, CN, dx, _, rfl, e, U.cl, U.nVa, by show 2 < 1000; decide, ?_⟩
          have ep : putF (("value" : Str)) (V.int (((v : Nat) : Int) - ((n : Nat) : Int) * ((plc l i : Nat) : Int))) (nfF Ro v) = nfF Ro (v - n * plc l i) := by
            rw [ed]
            rfl
          rw [ep]
          exact qo' _ rfl _ (stay _) (ok _ (by omega))
        · rw [if_neg hle] at qe'
          refine if_false_of (decide_eq_false (by show ¬ (0 : Int) ≤ ((v : Nat) : Int) - ((n * plc l i : Nat) : Int); omega)) ?_
          exact ⟨_, rfl, if_true_of rfl (kraise (qe' 2 rfl))⟩
end
end Ab

set_option Elab.async false
set_option linter.all false
set_option maxRecDepth 100000
set_option maxHeartbeats 4000000
namespace Ab
open PySem PySem.Spec PyProof.Rows L2 AbM AbJ
open Na (Bytes held Cmp)
/-- a line done: where it goes on -/
def spDL {σ : Type} (M : Fam σ) (CR CK : Addr) : Sp := fun vs H Q E => ∃ (ru dx D G L : Addr) (us : List V) (p : Na.Method) (N : Addr → Prop) (marks : List Nat) (a : Na.Now σ) (l : Na.Line), vs = [.ref ru, .int ((a.line : Nat) : Int)] ∧ p[a.line]? = some l ∧ l.good = true ∧ a.heads.length = 8 ∧ RunS CR M.fr ru dx D G L us p N H ∧ Apt M L N ∧ LetV H L a.heads marks ∧ M.Fr H a.on ∧ Small M.b marks a ∧
  (∀ k, l.done M.b marks p a = .error k → Fails CK E k) ∧
  (l.done M.b marks p a = .ok none → ∀ H', Same H H' → Q (.int ((p.length : Nat) : Int)) H') ∧
  ∀ c, l.done M.b marks p a = .ok (some c) → ∀ H', KeepP N H H' → LetV H' L c.heads marks → M.Fr H' c.on → Q (.int ((c.line : Nat) : Int)) H'
theorem LetV.at_ {H H' : Hp} {L : Addr} {heads marks : List Nat} (h : LetV H L heads marks) (s : ∀ o, H L = some o → H' L = some o) : LetV H' L heads marks :=
  let ⟨kvs, e, l, v⟩ := h
  ⟨kvs, s _ e, l, v⟩
section
variable {P : Program} {w : World} {K : PySem.W.Frag} {mg : Str → Option Value} {base : Heap} {CK fKI CR aO : Addr}
theorem scDL : FnScope ["self", "line", "word", "parts"] ["self", "line"] (defScope sDL) := ⟨rfl, rfl, rfl, by decide +kernel, rfl, by decide +kernel, by decide +kernel⟩
theorem ok_DL {σ : Type} {M : Fam σ} {f fCF fSE fAS : Addr} {fd fdCF fdSE fdAS fdK : FuncData} (F : Fun K "do_line" "Run.do_line" sDL f fd) (T : TxK K mg CK fKI) (U : TxU K mg w CR aO) (FM : FamOk K M)
    (GK : FnOk P w K mg base CX0 1 fKI fdK ["self", "kind"] (spKI CK)) (bK : Binds K fdK ["self", "kind"] [])
    (mC : Meth K CR "change_frame" fCF) (GC : FnOk P w K mg base (L2N.CX P w) 9 fCF fdCF ["self", "op", "amount", "rod"] (spCF M CR CK)) (bC : Binds K fdCF ["self", "op", "amount", "rod"] [])
    (mS : Meth K CR "set_head" fSE) (GS : FnOk P w K mg base (L2N.CX P w) 6 fSE fdSE ["self", "head", "ordered"] (spSE M CR CK)) (bS : Binds K fdSE ["self", "head", "ordered"] [])
    (gA : mg "all_so" = some (.ref fAS)) (kA : PySem.W.keepIn K (.ref fAS) = true) (GA : FnOk P w K mg base (L2N.CX P w) 6 fAS fdAS ["tests", "letters", "frame"] (spAS M K CK)) (bA : Binds K fdAS ["tests", "letters", "frame"] []) :
    FnOk P w K mg base (L2N.CX P w) 10 f fd ["self", "line"] (spDL M CR CK) := by
  refine fun_okN F scDL (fun vs H Q E h => ?_) (fun cdv A0 outer s H vs Q E hr h => ?_)
  · obtain ⟨ru, dx, D, G, L, us, p, N, marks, a, l, rfl, _⟩ := h
    rfl
  · obtain ⟨ru, dx, D, G, L, us, p, N, marks, a, l, rfl, hl, hgood, h8, R, ap, hL, hF, hsm, qe, qn, qs⟩ := h
    obtain ⟨u4, h4⟩ := T.failed
    obtain ⟨esO, nO, dO⟩ := U.dO
    have hr6 : Room 6 _ := hr.mono (by decide)
    have hr2 : Room 2 _ := hr.mono (by decide)
    refine ⟨_, pss_cons (ps_set (i := 2) scDL.nd rfl (Or.inl rfl) (pe_ix ix_tup (pe_ix ix_list (pe_fld (pv 0) rfl) (pv 1) (fun _ _ => rfl)) pe_int (fun _ _ => rfl)))
      (pss_cons (ps_set (i := 3) scDL.nd rfl (Or.inl rfl) (pe_ix ix_tup (pe_ix ix_list (pe_fld (pv 0) rfl) (pv 1) (fun _ _ => rfl)) pe_int (fun _ _ => rfl)))
      (pss_cons (ps_if (pt_cmpR (op_in_kd dO) (pv 2) (pe_glob (v := .ref aO) rfl U.gO rfl) rfl)
        (pss_one (ps_expr (pe_meth (pv 0) U.cl mC GC hr bC .nil (L2N.passes_call (L2N.takes_of rfl rfl rfl rfl) (fun _ _ _ _ h => h)) (pa_cons (pe_ix ix_kdict (pe_glob (v := .ref aO) rfl U.gO rfl) (pv 2) (fun _ _ => rfl)) (pa_cons (pe_ix ix_list (pv 3) pe_int (fun _ _ => rfl)) (pa_cons (pe_ix ix_list (pv 3) pe_int (fun _ _ => rfl)) pa_nil))))))
        (pss_one (ps_if (pt_cmpR op_eq (pv 2) pe_str (nomark _))
          (pss_one (ps_expr (pe_meth (pv 0) U.cl mS GS hr6 bS .nil (L2N.passes_call (L2N.takes_of rfl rfl rfl rfl) (fun _ _ _ _ h => h)) (pa_cons (pe_ix ix_list (pv 3) pe_int (fun _ _ => rfl)) (pa_cons (pe_ix ix_list (pv 3) pe_int (fun _ _ => rfl)) pa_nil)))))
          (pss_one (ps_if (pt_cmpR op_eq (pv 2) pe_str (nomark _))
            (pss_one (ps_ret (pe_callB call_len_seq (by rfl) T.len PySem.boot_len (pa_cons (pe_fld (pv 0) rfl) pa_nil))))
            (pss_one (ps_if (pt_cmpR op_eq (pv 2) pe_str (nomark _))
              (pss_one (L2N.ps_raise rfl (L2N.takes_of rfl rfl rfl rfl) (pmk_oexN T.ox T.iK T.tK GK hr2 bK pass0 rfl T.gK (pa_cons (pe_glob (v := .int 4) rfl h4 ⟨_, rfl⟩) pa_nil))))
              (pss_one (ps_if (PW.pt (pw_or (pt_cmpR op_eq (pv 2) pe_str (nomark _)) (pw_or (pt_cmpR op_eq (pv 2) pe_str (nomark _)) (pw_or1 (pt_not (pt_val (pe_call GA hr6 rfl gA kA bA .nil (L2N.passes_call (L2N.takes_of rfl rfl rfl rfl) (fun _ _ _ _ h => h)) (pa_cons (pv 3) (pa_cons (pe_fld (pv 0) rfl) (pa_cons (pe_fld (pv 0) rfl) pa_nil))))))))))
                (pss_one (ps_ret (pe_ix ix_list (pe_fld (pv 0) rfl) (pv 1) (fun _ _ => rfl)))) pss_nil)))))))))
      (pss_one (ps_ret (pe_op op_add (pv 1) pe_int))))), ?_⟩
    obtain ⟨v, hv, LT, LP, lus, rfl, nLT, eLT, nLP, eLP, ps⟩ := R.ls.at hl
    refine ⟨_, rfl, ru, CR, dx, _, _, rfl, R.ob, U.cl, U.nLi, ru_lines D G L M.fr, _, rfl, D, _, _, _, rfl, rfl, SqL.of R.li, atI_nat hv, LT, _, _, _, rfl, rfl, SqT.of eLT, rfl, ?_⟩
    refine ⟨_, rfl, ru, CR, dx, _, _, rfl, R.ob, U.cl, U.nLi, ru_lines D G L M.fr, _, rfl, D, _, _, _, rfl, rfl, SqL.of R.li, atI_nat hv, LT, _, _, _, rfl, rfl, SqT.of eLT, rfl, ?_⟩
    have hlt : a.line < p.length := (List.getElem?_eq_some_iff.mp hl).1
    have goal : atI (natV ((List.range p.length).map (goalOf p))) ((a.line : Nat) : Int) = some (.int ((goalOf p a.line : Nat) : Int)) := atI_nat (by
      rw [List.getElem?_map, List.getElem?_map, List.getElem?_range hlt]
      rfl)
    have keepC : ∀ H', (∀ b u, ¬ M.Own b → H b = some u → H' b = some u) → KeepP N H H' := fun H' k b o nb e => k b o (ap.n b nb).2 e
    have fld : ∀ {b : Addr} {H' : Hp}, True := fun {_ _} => trivial
    cases l with
    | add e r =>
      obtain ⟨va, vb, rfl, ea, eb⟩ := ps
      rw [done_add] at qe qn qs
      obtain ⟨rr, hrr⟩ := U.iadd
      refine ⟨_, rfl, _, _, rfl, rfl, hrr, _, rfl, if_true_of rfl ?_⟩
      refine ⟨_, rfl, ru, dx, _, rfl, R.ob, rfl, _, rfl, aO, _, _, rfl, rfl, U.add, _, rfl, LP, _, _, _, rfl, rfl, SqL.of eLP, rfl, _, rfl, LP, _, _, _, rfl, rfl, SqL.of eLP, rfl, ?_⟩
      refine ⟨ru, dx, D, G, L, us, p, N, marks, a, 0, va, vb, e, r, rfl, .inl rfl, ea, eb, R, hL, hF, hsm, fun k hk => qe k (by rw [hk]), fun st' hst H' k' hF' => ?_⟩
      refine ⟨_, rfl, _, _, rfl, rfl, ?_⟩
      exact qs { a with line := a.line + 1, on := st' } (by rw [hst]) H' (keepC H' k') (hL.at_ fun o e0 => k' L o ap.L e0) hF'
    | take e r =>
      obtain ⟨va, vb, rfl, ea, eb⟩ := ps
      rw [done_take] at qe qn qs
      obtain ⟨rr, hrr⟩ := U.itake
      refine ⟨_, rfl, _, _, rfl, rfl, hrr, _, rfl, if_true_of rfl ?_⟩
      refine ⟨_, rfl, ru, dx, _, rfl, R.ob, rfl, _, rfl, aO, _, _, rfl, rfl, U.take, _, rfl, LP, _, _, _, rfl, rfl, SqL.of eLP, rfl, _, rfl, LP, _, _, _, rfl, rfl, SqL.of eLP, rfl, ?_⟩
      refine ⟨ru, dx, D, G, L, us, p, N, marks, a, 1, va, vb, e, r, rfl, .inr rfl, ea, eb, R, hL, hF, hsm, fun k hk => qe k (by rw [hk]), fun st' hst H' k' hF' => ?_⟩
      refine ⟨_, rfl, _, _, rfl, rfl, ?_⟩
      exact qs { a with line := a.line + 1, on := st' } (by rw [hst]) H' (keepC H' k') (hL.at_ fun o e0 => k' L o ap.L e0) hF'
    | set k e =>
      obtain ⟨va, rfl, ea⟩ := ps
      rw [done_set] at qe qn qs
      have hk8 : k < 8 := by
        have h : (decide (k < 8) && e.good) = true := hgood
        rw [Bool.and_eq_true] at h
        exact of_decide_eq_true h.1
      refine ⟨_, rfl, _, _, rfl, rfl, U.nset, _, rfl, if_false_of rfl ?_⟩
      refine ⟨_, rfl, rfl, _, rfl, if_true_of (by rfl) ?_⟩
      refine ⟨_, rfl, ru, dx, _, rfl, R.ob, rfl, _, rfl, LP, _, _, _, rfl, rfl, SqL.of eLP, rfl, _, rfl, LP, _, _, _, rfl, rfl, SqL.of eLP, rfl, ?_⟩
      refine ⟨ru, dx, D, G, L, us, p, N, marks, a, k, va, e, rfl, hk8, h8, ea, R, ap, hL, hF, hsm, fun j hj => qe j (by rw [hj]), fun hs hhs H' on hL' => ?_⟩
      refine ⟨_, rfl, _, _, rfl, rfl, ?_⟩
      obtain ⟨kvs, eK, _⟩ := hL
      exact qs { a with line := a.line + 1, heads := hs } (by rw [hhs]) H' (fun b o nb e0 => on b o (ap.n b nb).1 (ap.n b nb).1 e0) hL' (FM.dk hF eK on)
    | halt_ =>
      refine ⟨_, rfl, _, _, rfl, rfl, U.nstop, _, rfl, if_false_of rfl ?_⟩
      refine ⟨_, rfl, rfl, _, rfl, if_false_of (by rfl) ⟨_, rfl, rfl, _, rfl, if_true_of (by rfl) ?_⟩⟩
      refine ⟨_, rfl, ru, CR, dx, _, _, rfl, R.ob, U.cl, U.nLi, ru_lines D G L M.fr, D, _, rfl, .inl (SqL.of R.li), ?_⟩
      rw [R.ls.len]
      exact qn rfl H (Same.refl H)
    | fail =>
      refine ⟨_, rfl, _, _, rfl, rfl, U.nfail, _, rfl, if_false_of rfl ?_⟩
      refine ⟨_, rfl, rfl, _, rfl, if_false_of (by rfl) ⟨_, rfl, rfl, _, rfl, if_false_of (by rfl) ⟨_, rfl, rfl, _, rfl, if_true_of (by rfl) ?_⟩⟩⟩
      exact kraise (qe 4 rfl)
    | else_ =>
      have hg : goalOf p a.line = Na.behindEnd p a.line := by unfold goalOf; rw [hl]
      refine ⟨_, rfl, _, _, rfl, rfl, U.nelse, _, rfl, if_false_of rfl ?_⟩
      refine ⟨_, rfl, rfl, _, rfl, if_false_of (by rfl) ⟨_, rfl, rfl, _, rfl, if_false_of (by rfl) ⟨_, rfl, rfl, _, rfl, if_false_of (by rfl) ⟨_, rfl, rfl, _, rfl, if_true_of (by rfl) ?_⟩⟩⟩⟩
      refine ⟨_, rfl, ru, CR, dx, _, _, rfl, R.ob, U.cl, U.nGo, ru_goals D G L M.fr, _, rfl, G, _, _, _, rfl, rfl, SqL.of R.go, goal, ?_⟩
      rw [hg]
      exact qs { a with line := Na.behindEnd p a.line } rfl H (KeepP.same (Same.refl H)) hL hF
    | end_ =>
      have hg : goalOf p a.line = Na.ending p a.line := by unfold goalOf; rw [hl]
      refine ⟨_, rfl, _, _, rfl, rfl, U.nend, _, rfl, if_false_of rfl ?_⟩
      refine ⟨_, rfl, rfl, _, rfl, if_false_of (by rfl) ⟨_, rfl, rfl, _, rfl, if_false_of (by rfl) ⟨_, rfl, rfl, _, rfl, if_false_of (by rfl) ⟨_, rfl, rfl, _, rfl, if_false_of (by rfl) ⟨_, rfl, rfl, _, rfl, if_true_of (by rfl) ?_⟩⟩⟩⟩⟩
      refine ⟨_, rfl, ru, CR, dx, _, _, rfl, R.ob, U.cl, U.nGo, ru_goals D G L M.fr, _, rfl, G, _, _, _, rfl, rfl, SqL.of R.go, goal, ?_⟩
      rw [hg]
      exact qs { a with line := Na.ending p a.line } rfl H (KeepP.same (Same.refl H)) hL hF
    | if_ c =>
      have hg : goalOf p a.line = Na.otherwise_ p a.line := by unfold goalOf; rw [hl]
      rw [done_if] at qe qn qs
      unfold branchX at qe qs
      refine ⟨_, rfl, _, _, rfl, rfl, U.nif, _, rfl, if_false_of rfl ?_⟩
      refine ⟨_, rfl, rfl, _, rfl, if_false_of (by rfl) ⟨_, rfl, rfl, _, rfl, if_false_of (by rfl) ⟨_, rfl, rfl, _, rfl, if_false_of (by rfl) ⟨_, rfl, rfl, _, rfl, if_false_of (by rfl) ⟨_, rfl, rfl, _, rfl, if_false_of (by rfl) ?_⟩⟩⟩⟩⟩
      refine ⟨_, rfl, _, rfl, ru, CR, dx, _, _, rfl, R.ob, U.cl, U.nLe, ru_letters D G L M.fr, _, rfl, ru, CR, dx, _, _, rfl, R.ob, U.cl, U.nFr, ru_frame D G L M.fr, ?_⟩
      refine ⟨LP, L, lus, c, N, marks, a, rfl, eLP, ps, hL, hF, hsm, fun k hk => qe k (by rw [hk]), fun z hz H' sm => ⟨_, rfl, ?_⟩⟩
      rw [hz] at qs
      cases z with
      | true =>
        refine if_false_of rfl ?_
        exact ⟨_, rfl, _, _, rfl, rfl, qs _ rfl H' (KeepP.same sm) (hL.same sm) (FM.same hF sm)⟩
      | false =>
        refine if_true_of rfl ?_
        refine ⟨_, rfl, ru, CR, dx, _, _, rfl, sm _ _ R.ob, U.cl, U.nGo, ru_goals D G L M.fr, _, rfl, G, _, _, _, rfl, rfl, SqL.of (sm _ _ R.go), goal, ?_⟩
        rw [hg]
        exact qs _ rfl H' (KeepP.same sm) (hL.same sm) (FM.same hF sm)
    | while_ c =>
      have hg : goalOf p a.line = Na.behindEnd p a.line := by unfold goalOf; rw [hl]
      rw [done_while] at qe qn qs
      unfold branchX at qe qs
      refine ⟨_, rfl, _, _, rfl, rfl, U.nwhile, _, rfl, if_false_of rfl ?_⟩
      refine ⟨_, rfl, rfl, _, rfl, if_false_of (by rfl) ⟨_, rfl, rfl, _, rfl, if_false_of (by rfl) ⟨_, rfl, rfl, _, rfl, if_false_of (by rfl) ⟨_, rfl, rfl, _, rfl, if_false_of (by rfl) ⟨_, rfl, rfl, _, rfl, if_false_of (by rfl) ?_⟩⟩⟩⟩⟩
      refine ⟨_, rfl, _, rfl, ru, CR, dx, _, _, rfl, R.ob, U.cl, U.nLe, ru_letters D G L M.fr, _, rfl, ru, CR, dx, _, _, rfl, R.ob, U.cl, U.nFr, ru_frame D G L M.fr, ?_⟩
      refine ⟨LP, L, lus, c, N, marks, a, rfl, eLP, ps, hL, hF, hsm, fun k hk => qe k (by rw [hk]), fun z hz H' sm => ⟨_, rfl, ?_⟩⟩
      rw [hz] at qs
      cases z with
      | true =>
        refine if_false_of rfl ?_
        exact ⟨_, rfl, _, _, rfl, rfl, qs _ rfl H' (KeepP.same sm) (hL.same sm) (FM.same hF sm)⟩
      | false =>
        refine if_true_of rfl ?_
        refine ⟨_, rfl, ru, CR, dx, _, _, rfl, sm _ _ R.ob, U.cl, U.nGo, ru_goals D G L M.fr, _, rfl, G, _, _, _, rfl, rfl, SqL.of (sm _ _ R.go), goal, ?_⟩
        rw [hg]
        exact qs _ rfl H' (KeepP.same sm) (hL.same sm) (FM.same hF sm)
end
end Ab

set_option Elab.async false
set_option linter.all false
set_option maxRecDepth 100000
set_option maxHeartbeats 4000000
namespace Ab
open PySem PySem.Spec PyProof.Rows L2 AbM AbF AbP AbJ
def spFL (K : PySem.W.Frag) : Sp := fun vs H Q _ => ∃ (A : Addr) (marks : List Nat), vs = [.ref A] ∧ SqL K H A (natV marks) ∧ marks.length = 8 ∧ ∀ (H' : Hp) (L : Addr), Same H H' → H L = none → LetV H' L (List.replicate 8 0) marks → Q (.ref L) H'
def spUR (K : PySem.W.Frag) (CR : Addr) : Sp := fun vs H Q _ => ∃ (ru dx D A fr : Addr) (us : List V) (N : Addr → Prop) (p : Na.Method) (marks : List Nat), vs = [.ref ru, .ref D, .ref A, .ref fr] ∧ H ru = some (.ins CR dx []) ∧
  H D = some (.lst us) ∧ All2 (LineN N H) us p ∧ N D ∧ ¬ N ru ∧ p.length ≤ 5000 ∧ Na.nested p [] = true ∧ SqL K H A (natV marks) ∧ marks.length = 8 ∧
  ∀ (H' : Hp) (G L : Addr), Only ru ru H H' → H G = none → H L = none → L ≠ G → H' ru = some (.ins CR dx (ruF D G L fr)) → H' G = some (.lst (natV ((List.range p.length).map (goalOf p)))) → LetV H' L (List.replicate 8 0) marks → Q .non H'
theorem heads_at {i : Nat} (h : i < 8) : ("abcdefgh" : Str).cps[i]? = some (97 + i) := by
  have e : ("abcdefgh" : Str).cps = #[97, 98, 99, 100, 101, 102, 103, 104] := by decide +kernel
  rw [e]
  match i, h with
  | 0, _ => rfl
  | 1, _ => rfl
  | 2, _ => rfl
  | 3, _ => rfl
  | 4, _ => rfl
  | 5, _ => rfl
  | 6, _ => rfl
  | 7, _ => rfl
theorem marks_at {i : Nat} (h : i < 8) : ("ABCDEFGH" : Str).cps[i]? = some (65 + i) := by
  have e : ("ABCDEFGH" : Str).cps = #[65, 66, 67, 68, 69, 70, 71, 72] := by decide +kernel
  rw [e]
  match i, h with
  | 0, _ => rfl
  | 1, _ => rfl
  | 2, _ => rfl
  | 3, _ => rfl
  | 4, _ => rfl
  | 5, _ => rfl
  | 6, _ => rfl
  | 7, _ => rfl
theorem put_le1 (kvs : List (L2.Key × V)) (k : L2.Key) (v : V) : (putK kvs k v).length ≤ kvs.length + 1 := by
  unfold putK
  split
  · rw [List.length_map]; omega
  · rw [List.length_append]; exact Nat.le_refl _
theorem keyS_ne {c d : Nat} (h : c ≠ d) : ¬ ((Sum.inr (S [c]) : L2.Key) = Sum.inr (S [d])) := fun z => h (List.cons.inj (S_inj (Sum.inr.inj z))).1
section
variable {P : Program} {w : World} {K : PySem.W.Frag} {mg : Str → Option Value} {base : Heap} {CR aO : Addr}
theorem scFL : FnScope ["marks", "letters", "head", "mark", "number"] ["marks"] (defScope sFL) := ⟨rfl, rfl, rfl, by decide +kernel, rfl, by decide +kernel, by decide +kernel⟩
theorem ok_FL {f : Addr} {fd : FuncData} (F : Fun K "first_letters" "first_letters" sFL f fd) (zp : mg "zip" = none) (gH : ∃ u, mg "HEADS" = some (.str "abcdefgh" u)) (gM : ∃ u, mg "MARKS" = some (.str "ABCDEFGH" u)) : FnOk P w K mg base CX0 1 f fd ["marks"] (spFL K) := by
  refine F.ok scFL (fun vs H Q E h => ?_) (fun cdv A outer s H vs Q E hr h => ?_)
  · obtain ⟨Am, marks, rfl, _⟩ := h
    rfl
  · obtain ⟨Am, marks, rfl, hA, h8, q⟩ := h
    obtain ⟨uH, hH⟩ := gH
    obtain ⟨uM, hM⟩ := gM
    have hu := hu_of hr
    refine ⟨_, pss_cons (ps_set (i := 1) scFL.nd rfl (Or.inl rfl) pe_dnewK)
      (pss_cons (ps_for PassesOwn.never rfl (pi_zip3 (by rfl) zp (pa_cons (pe_glob (v := .str "abcdefgh") rfl hH ⟨_, rfl⟩) (pa_cons (pe_glob (v := .str "ABCDEFGH") rfl hM ⟨_, rfl⟩) (pa_cons (pv 0) pa_nil))))
          (pg_tup rfl (pgs_cons (pg_name (i := 2) scFL.nd rfl (Or.inl rfl)) (pgs_cons (pg_name (i := 3) scFL.nd rfl (Or.inl rfl)) (pgs_cons (pg_name (i := 4) scFL.nd rfl (Or.inl rfl)) pgs_nil))))
        (pss_cons (ps_dput hu (pv 1) (pv 2) pe_int rfl)
        (pss_one (ps_dput hu (pv 1) (pv 3) (pv 4) rfl))))
      (pss_one (ps_ret (pv 1)))), ?_⟩
    refine fun L nL => ?_
    have upL : ∀ {H1 : Hp} {o : HO}, Same H H1 → Same H (upd H1 L o) := fun h b u e => by
      rw [upd_ne (ne_of_none e nL)]
      exact h b u e
    refine ⟨_, rfl, _, _, Am, natV marks, rfl, (same_upd nL).seq hA, for_it (walk_zip3 (n := 8) (by decide +kernel) (by decide +kernel) (by rw [natV_len, h8])) (fun i σ' H1 => ∃ (kvs : List (L2.Key × V)) (v2 v3 v4 : Option V), σ' = [some (.ref Am), some (.ref L), v2, v3, v4] ∧ Same H H1 ∧ H1 L = some (.dK kvs) ∧ kvs.length ≤ 2 * i ∧
        ∀ c, valV kvs (Sum.inr (S [c])) = if 97 ≤ c ∧ c < 97 + i then some (V.int ((0 : Nat) : Int)) else if 65 ≤ c ∧ c < 65 + i then some (V.int ((marks.getD (c - 65) 0 : Nat) : Int)) else none)
      ⟨[], _, _, _, rfl, same_upd nL, upd_same, Nat.le_refl _, fun c => ?_⟩ (fun i σ' H1 _ ⟨_, _, _, _, _, sm, _⟩ => sm.seq hA) ?_ ?_⟩
    · rw [if_neg (by omega), if_neg (by omega)]
      rfl
    · rintro i y σ' H1 H2 hi ⟨kvs, v2, v3, v4, rfl, sm, eL, hlen, hval⟩ ⟨T, c, d, x, rfl, nT, hc, hd, rfl, hx⟩
      rw [heads_at hi] at hc
      rw [marks_at hi] at hd
      cases hc
      cases hd
      have hx' : x = .int ((marks.getD i 0 : Nat) : Int) := by
        rw [List.getElem?_map] at hx
        rw [List.getD_eq_getElem?_getD]
        cases e : marks[i]? with
        | none => rw [e] at hx; cases hx
        | some b => rw [e] at hx; exact (Option.some.inj hx).symm
      subst hx'
      refine ⟨T, _, rfl, SqT.of upd_same, rfl, _, _, rfl, _, _, rfl, _, _, rfl, rfl, ?_⟩
      have sm2 := sm.trans (same_upd (o := .tup [.str ⟨#[97 + i]⟩, .str ⟨#[65 + i]⟩, .int ((marks.getD i 0 : Nat) : Int)]) nT)
      have eL2 := same_upd (o := .tup [.str ⟨#[97 + i]⟩, .str ⟨#[65 + i]⟩, .int ((marks.getD i 0 : Nat) : Int)]) nT _ _ eL
      generalize upd H1 T (.tup [.str ⟨#[97 + i]⟩, .str ⟨#[65 + i]⟩, .int ((marks.getD i 0 : Nat) : Int)]) = H2 at sm2 eL2
      have l1 := put_le1 kvs (Sum.inr (S [97 + i])) (.int ((0 : Nat) : Int))
      refine ⟨_, rfl, _, rfl, L, _, rfl, DPut.k (k := Sum.inr (S [97 + i])) eL2 (small1000 (by omega)), ?_⟩
      refine ⟨_, rfl, _, rfl, _, rfl, L, _, rfl, DPut.k (k := Sum.inr (S [65 + i])) upd_same (small1000 (by show (putK kvs (Sum.inr (S [97 + i])) (.int ((0 : Nat) : Int))).length ≤ 1000; omega)), ?_⟩
      refine ⟨_, _, _, _, rfl, upL (upL sm2), upd_same, ?_, fun c => ?_⟩
      · have l2 := put_le1 (putK kvs (Sum.inr (S [97 + i])) (.int ((0 : Nat) : Int))) (Sum.inr (S [65 + i])) (.int ((marks.getD i 0 : Nat) : Int))
        refine Nat.le_trans l2 ?_
        omega
      · rw [valV_put]
        by_cases h1 : c = 65 + i
        · subst h1
          rw [if_pos rfl, if_neg (by omega), if_pos (by omega)]
          rw [show 65 + i - 65 = i by omega]
        · rw [if_neg (keyS_ne h1), valV_put]
          by_cases h2 : c = 97 + i
          · subst h2
            rw [if_pos rfl, if_pos (by omega)]
            rfl
          · rw [if_neg (keyS_ne h2), hval]
            by_cases g1 : 97 ≤ c ∧ c < 97 + i
            · rw [if_pos g1, if_pos (by omega)]
            · rw [if_neg g1, if_neg (show ¬ (97 ≤ c ∧ c < 97 + (i + 1)) by omega)]
              by_cases g2 : 65 ≤ c ∧ c < 65 + i
              · rw [if_pos g2, if_pos (show 65 ≤ c ∧ c < 65 + (i + 1) by omega)]
              · rw [if_neg g2, if_neg (show ¬ (65 ≤ c ∧ c < 65 + (i + 1)) by omega)]
    · rintro σ' H1 ⟨kvs, v2, v3, v4, rfl, sm, eL, hlen, hval⟩
      refine ⟨_, rfl, q H1 L sm nL ⟨kvs, eL, by omega, fun c => ?_⟩⟩
      rw [hval]
      unfold ltV
      by_cases g1 : 97 ≤ c ∧ c < 97 + 8
      · rw [if_pos g1, if_pos (show 97 ≤ c ∧ c ≤ 104 by omega)]
        have : (List.replicate 8 0).getD (c - 97) 0 = 0 := by
          rw [List.getD_eq_getElem?_getD, List.getElem?_replicate, if_pos (by omega)]
          rfl
        rw [this]
        rfl
      · rw [if_neg g1, if_neg (show ¬ (97 ≤ c ∧ c ≤ 104) by omega)]
        by_cases g2 : 65 ≤ c ∧ c < 65 + 8
        · rw [if_pos g2, if_pos (show 65 ≤ c ∧ c ≤ 72 by omega)]
          rfl
        · rw [if_neg g2, if_neg (show ¬ (65 ≤ c ∧ c ≤ 72) by omega)]
          rfl
theorem scUR : FnScope ["self", "lines", "marks", "frame"] ["self", "lines", "marks", "frame"] (defScope sUR) := ⟨rfl, rfl, rfl, by decide +kernel, rfl, by decide +kernel, by decide +kernel⟩
theorem ok_UR {f fFG fFL : Addr} {fd fdFG fdFL : FuncData} (F : Fun K "__init__" "Run.__init__" sUR f fd) (U : TxU K mg w CR aO)
    (gG : mg "find_goals" = some (.ref fFG)) (kG : PySem.W.keepIn K (.ref fFG) = true) (GG : FnOk P w K mg base CX0 1 fFG fdFG ["lines"] (spFG K)) (bG : Binds K fdFG ["lines"] [])
    (gL : mg "first_letters" = some (.ref fFL)) (kL : PySem.W.keepIn K (.ref fFL) = true) (GL : FnOk P w K mg base CX0 1 fFL fdFL ["marks"] (spFL K)) (bL : Binds K fdFL ["marks"] []) :
    FnOk P w K mg base CX0 2 f fd ["self", "lines", "marks", "frame"] (spUR K CR) := by
  refine F.ok scUR (fun vs H Q E h => ?_) (fun cdv A outer s H vs Q E hr h => ?_)
  · obtain ⟨ru, dx, D, Am, fr, us, N, p, marks, rfl, _⟩ := h
    rfl
  · obtain ⟨ru, dx, D, Am, fr, us, N, p, marks, rfl, eR, eD, hls, nD, nru, hp, hn, hA, h8, q⟩ := h
    refine ⟨_, pss_cons (ps_fld (pv 0) (pv 1) rfl)
      (pss_cons (ps_fld (pv 0) (pe_call GG hr rfl gG kG bG .nil pass0 (pa_cons (pv 1) pa_nil)) rfl)
      (pss_cons (ps_fld (pv 0) (pe_call GL hr rfl gL kL bL .nil pass0 (pa_cons (pv 2) pa_nil)) rfl)
      (pss_one (ps_fld (pv 0) (pv 3) rfl)))), ?_⟩
    have nDr : D ≠ ru := fun z => by rw [z, eR] at eD; cases eD
    have back : ∀ {H1 : Hp} {b : Addr}, H1 ru ≠ none → Only ru ru H H1 → H1 b = none → H b = none := fun {H1 b} hr on n => by
      cases e : H b with
      | none => rfl
      | some u =>
        by_cases h : b = ru
        · rw [h] at n; exact absurd n hr
        · rw [on _ _ h h e] at n; cases n
    refine ⟨_, rfl, _, rfl, ru, CR, dx, _, rfl, eR, U.cl, U.nLi, by decide, ?_⟩
    have on1 : Only ru ru H (upd H ru (.ins CR dx (putF "lines" (.ref D) []))) := Only.upd
    have e1 : (upd H ru (.ins CR dx (putF "lines" (.ref D) []))) ru = some (.ins CR dx [(("lines" : Str), .ref D)]) := upd_same
    generalize upd H ru (.ins CR dx (putF "lines" (.ref D) [])) = H1 at on1 e1
    have k1 : KeepP N H H1 := fun b o n e => by
      have : b ≠ ru := fun z => nru (z ▸ n)
      exact on1 b o this this e
    refine ⟨_, rfl, D, us, N, p, rfl, on1 _ _ nDr nDr eD, hls.imp fun _ _ g => g.keep k1, hp, hn, fun H2 G sm2 nG eG => ?_⟩
    have nGH := back (at_some e1) on1 nG
    have e2 := sm2 _ _ e1
    have nGr : G ≠ ru := fun z => by rw [z, eR] at nGH; cases nGH
    refine ⟨_, rfl, ru, CR, dx, _, rfl, e2, U.cl, U.nGo, by show 1 < 1000; decide, ?_⟩
    have on3 : Only ru ru H (upd H2 ru (.ins CR dx (putF "goals" (.ref G) [(("lines" : Str), .ref D)]))) := (on1.trans (Only.same sm2)).trans Only.upd
    have e3 : (upd H2 ru (.ins CR dx (putF "goals" (.ref G) [(("lines" : Str), .ref D)]))) ru = some (.ins CR dx [(("lines" : Str), .ref D), (("goals" : Str), .ref G)]) := by rw [upd_same]; rfl
    have eG3 : (upd H2 ru (.ins CR dx (putF "goals" (.ref G) [(("lines" : Str), .ref D)]))) G = some (.lst (natV ((List.range p.length).map (goalOf p)))) := by rw [upd_ne nGr]; exact eG
    generalize upd H2 ru (.ins CR dx (putF "goals" (.ref G) [(("lines" : Str), .ref D)])) = H3 at on3 e3 eG3
    refine ⟨_, rfl, Am, marks, rfl, seq_only1 hA eR on3, h8, fun H4 L sm4 nL hL => ?_⟩
    have nLH := back (at_some e3) on3 nL
    have nLG : L ≠ G := fun z => by rw [z, eG3] at nL; cases nL
    have nLr : L ≠ ru := fun z => by rw [z, eR] at nLH; cases nLH
    have e4 := sm4 _ _ e3
    have eG4 := sm4 _ _ eG3
    refine ⟨_, rfl, ru, CR, dx, _, rfl, e4, U.cl, U.nLe, by show 2 < 1000; decide, ?_⟩
    refine ⟨_, rfl, _, rfl, ru, CR, dx, _, rfl, upd_same, U.cl, U.nFr, by show 3 < 1000; decide, ?_⟩
    refine q _ G L ((on3.trans (Only.same sm4)).trans (Only.upd.trans Only.upd)) nGH nLH nLG upd_same ?_ (hL.at_ fun o e => ?_)
    · rw [upd_ne nGr, upd_ne nGr]
      exact eG4
    · rw [upd_ne nLr, upd_ne nLr]
      exact e
end
end Ab

set_option Elab.async false
set_option linter.all false
set_option maxRecDepth 100000
set_option maxHeartbeats 2000000
namespace Ab
open PySem PySem.Spec PyProof.Rows L2 AbM
/-! ### n.f in an except suite that may raise -/
theorem pe_xfY {X : Cx} {a : Addr} {oe : Obj} {cls : Value} {d : Option Addr} {pn : List (Addr × Obj)} {xe : Value → Shared → Prop} {e : Expr} {te : TE} {pos : Pos} {n : Str}
    (hz : Zc cls d oe) (hf : ∃ vs, oe.data = .fields vs) (he : PE (suiteY X a ((a, oe) :: pn) xe) e te) (hb : attributeBase e n X.env (eval e X.env) = eval e X.env := by rfl) :
    PE (suiteY X a ((a, oe) :: pn) xe) (.Attribute e n pos) (tXfE X.K a cls d n te) := by
  refine ⟨fun pins s σ H Q I h => ?_⟩
  refine attr_of hb (thn (he.run pins s σ H _ I h) fun u s1 hh => ?_)
  obtain ⟨x, H1, I1, rx, ex, C, dd, fs, v, ec, T, hno, ed, ea, l, q⟩ := hh
  subst ex
  obtain rfl : u = Value.ref a := rx
  subst ec
  subst ed
  obtain ⟨ha, _⟩ := I1.pin (a, oe) (List.mem_append_left _ List.mem_cons_self)
  obtain ⟨vs, hd⟩ := hf
  have hx : ObjOk X.prog X.w H1 s1.heap dd (.xd fs) := I1.hok dd _ ea
  obtain ⟨mA, hns, hr⟩ := hx
  obtain ⟨od, ho, hl⟩ := lookIn_ns hns
  obtain ⟨u, hu, ru⟩ := RelO.some_of (v := v) (o := mA n) (by rw [← l]; exact hr n)
  have J : PySem.W.InstAt s1.heap a oe C (some od) := ⟨ha, hz.1, by unfold PySem.W.notCls; rw [hd] <;> rfl, by rw [hz.2]; exact ho⟩
  exact HandSPX.exc_get I1.kIn J T.ga T.gg T.exC (PySem.W.findObj_own T.hdC hno rfl (by rw [hl, hu])) (handed_of ru) ⟨v, H1, I1.tok _, ru, q⟩
/-! ### C.f(..) while an exception is handled -/
theorem pe_clsfnH {X : Cx} {CX : CXT} {k : Nat} {C g : Addr} {mc : Value} {sp : Sp} {E : XK} {o e : Expr} {es : List Expr} {m : Str} {pos apos : Pos} {ta : TE} {t : TA} {pl : Sem Bool} {fd : FuncData} {ps : List Str}
    (he : PE X o ta) (r : ClX.CRead X.K C mc) (c : ClX.CVal X.K C mc m (.ref g) (.ref g)) (hk : PySem.W.keepIn X.K (.ref g) = true) (F : L2H.FnH X.prog X.w X.K X.mg X.base CX k g fd ps sp) (hr : L2H.RoomH k X.A) (hc : L2H.HotC X) (hb : Binds X.K fd ps []) (hx : ∀ σ, PassesAt CX X σ E) (ha : PA X (e :: es) t)
    (hst : starEach (e :: es) X.env = (false, eval e X.env) :: starEach es X.env := by rfl) (hpl : (backTo pos (starEach es X.env)).any (·.1) = false := by rfl)
    (ht : eval (.Call (.Attribute o m apos) (e :: es) [] pos) X.env = (do
      let ov ← eval o X.env
      standAt apos.atName
      let (f, first) ← holding [ov] (getMethod ov m pl)
      callWith pos f first (backTo pos (starEach (e :: es) X.env)) (backToKw pos (keywordEach [] X.env))) := by rfl) :
    PE X (.Call (.Attribute o m apos) (e :: es) [] pos) (tClF C sp [] E ta t) := by
  refine ⟨fun pins s σ H Q I h => ?_⟩
  refine PySem.W.methodCall_KW (pl := pl) (thn (he.run pins s σ H _ I h) fun u s1 ⟨x, H1, I1, rx, ex, q⟩ => ?_) ht
  subst ex
  obtain rfl : u = Value.ref C := rx
  refine PySem.W.method_cls I1.kIn r.ga (ClX.getcval_ok I1 r c fun s2 I2 => ?_)
  refine PySem.W.callWith_K (h₀ := X.base) I2.ok.mod.kin hk (thn (ha.run pos pins s2 σ H1 _ I2 q) fun us s3 ⟨vs, H2, I3, rv, q2⟩ => ⟨I3.kIn, ?_⟩) hst hpl
  replace q2 : sp (vs ++ []) H2 Q E := q2
  rw [List.append_nil] at q2
  exact L2H.run_fnH (E := fun _ => E) F hr hc hb (hx σ) I3 rv q2
/-! ### o.m(e, ..), what it may let out told by the slots -/
def tMethT (C : Addr) (m : Str) (sp : Sp) (E : L2.St → XK) (ta : TE) (t : TA) : TE := fun σ H Q => ta σ H fun x H1 => ∃ a dx fs, x = .ref a ∧ H1 a = some (.ins C dx fs) ∧ fs.lookup m = none ∧
  t σ H1 fun vs H2 => sp (x :: vs) H2 Q (E σ)
theorem pe_methT {X : Cx} {CX : CXT} {k : Nat} {f C : Addr} {fd : FuncData} {ps : List Str} {sp : Sp} {E : L2.St → XK} {m : Str} {pos apos : Pos} {e o : Expr} {es : List Expr} {ta : TE} {t : TA} {pl : Sem Bool} (he : PE X o ta) (c : Cls X.K C) (hm : Meth X.K C m f) (F : FnOk X.prog X.w X.K X.mg X.base CX k f fd ps sp) (hr : Room k X.A) (hb : Binds X.K fd ps []) (hx : ∀ σ, PassesAt CX X σ (E σ)) (ha : PA X (e :: es) t)
    (hst : starEach (e :: es) X.env = (false, eval e X.env) :: starEach es X.env := by rfl) (hpl : (backTo pos (starEach es X.env)).any (·.1) = false := by rfl)
    (ht : eval (.Call (.Attribute o m apos) (e :: es) [] pos) X.env = (do
      let ov ← eval o X.env
      standAt apos.atName
      let (f, first) ← holding [ov] (getMethod ov m pl)
      callWith pos f first (backTo pos (starEach (e :: es) X.env)) (backToKw pos (keywordEach [] X.env))) := by rfl) :
    PE X (.Call (.Attribute o m apos) (e :: es) [] pos) (tMethT C m sp E ta t) := by
  refine ⟨fun pins s σ H Q I h => ?_⟩
  refine PySem.W.methodCall_KW (pl := pl) (thn (he.run pins s σ H _ I h) fun u s1 ⟨x, H1, I1, rx, a, dx, fs, ex, ea, l, q⟩ => ?_) ht
  subst ex
  obtain rfl : u = Value.ref a := rx
  refine getmeth_ok I1 ea c hm l ?_
  refine PySem.W.callWith_K (first := [.ref a]) (h₀ := X.base) I.ok.mod.kin hm.kp (thn (ha.run pos pins s1 σ H1 _ I1 q) fun us s2 ⟨vs, H2, I2, r, q2⟩ => ⟨I2.kIn, ?_⟩) hst hpl
  exact run_fnS (us := .ref a :: us) (vs := .ref a :: vs) F hr hb (hx σ) I2 (.cons rfl r) q2
/-! ### own classes of refusals -/
structure OwnC (K : PySem.W.Frag) (mg : Str → Option Value) (CE C fI : Addr) (x : Str) : Prop where
  rf : RefC K CE C
  iF : PySem.W.findIn K (.ref C) "__init__" = some (some (.ref fI))
  tF : PySem.W.typeIn K (.ref fI) = some (.type "function")
  gF : mg x = some (.ref C)
def spOw (C : Addr) (n : Int) : Sp := fun vs H Q _ => ∃ (a : Addr), vs = [.ref a] ∧ Own C [.int n] a H Q
def spYI (CY : Addr) : Sp := fun vs H Q _ => ∃ (a : Addr) (k l : Int), vs = [.ref a, .int k, .int l] ∧ Own CY [.int (-9), .int k, .int l] a H Q
/-- that the refusal of one number comes -/
def RefE (C : Addr) (E : XK) (ns : List V) : Prop := ∀ (d n : Addr) (H' : Hp), H' d = some (.xd (nmF n)) → H' n = some (.lst ns) → E (.ref C) (some d) H'
section
variable {P : Program} {w : World} {K : PySem.W.Frag} {mg : Str → Option Value} {base : Heap} {CE fBI CF fFI CR : Addr}
theorem scUI : FnScope ["self"] ["self"] (defScope sUI) := ⟨rfl, rfl, rfl, by decide +kernel, rfl, by decide +kernel, by decide +kernel⟩
theorem ok_UI {f C : Addr} {fd fdB : FuncData} (F : Fun K "__init__" "LongRun.__init__" sUI f fd) (T : Txt K mg CE fBI CF fFI CR) (R : RefC K CE C) (GB : FnOk P w K mg base CX0 1 fBI fdB ["self", "numbers"] (spBI K)) (bB : Binds K fdB ["self", "numbers"] []) :
    FnOk P w K mg base CX0 2 f fd ["self"] (spOw C (-8)) := by
  refine F.ok scUI (fun vs H Q E h => ?_) (fun cdv A outer s H vs Q E hr h => ?_)
  · obtain ⟨a, rfl, _⟩ := h
    rfl
  · obtain ⟨a, rfl, q⟩ := h
    refine ⟨_, pss_one (ps_expr (pe_clsfn (pe_glob (v := .ref CE) rfl T.gE rfl) T.rd T.ci T.kB GB hr bB .nil pass0 (pa_cons (pv 0) (pa_cons (pe_lst (pa_cons (pe_un un_neg pe_int) pa_nil)) pa_nil)))), ?_⟩
    refine ⟨rfl, _, rfl, _, rfl, by show 1 ≤ sizeLine; exact Nat.le_of_lt (small1000 (by decide)), fun l nl => ?_⟩
    exact own_ok (E := E) R q l nl
theorem scVI : FnScope ["self"] ["self"] (defScope sVI) := ⟨rfl, rfl, rfl, by decide +kernel, rfl, by decide +kernel, by decide +kernel⟩
theorem ok_VI {f C : Addr} {fd fdB : FuncData} (F : Fun K "__init__" "LargeValue.__init__" sVI f fd) (T : Txt K mg CE fBI CF fFI CR) (R : RefC K CE C) (GB : FnOk P w K mg base CX0 1 fBI fdB ["self", "numbers"] (spBI K)) (bB : Binds K fdB ["self", "numbers"] []) :
    FnOk P w K mg base CX0 2 f fd ["self"] (spOw C (-4)) := by
  refine F.ok scVI (fun vs H Q E h => ?_) (fun cdv A outer s H vs Q E hr h => ?_)
  · obtain ⟨a, rfl, _⟩ := h
    rfl
  · obtain ⟨a, rfl, q⟩ := h
    refine ⟨_, pss_one (ps_expr (pe_clsfn (pe_glob (v := .ref CE) rfl T.gE rfl) T.rd T.ci T.kB GB hr bB .nil pass0 (pa_cons (pv 0) (pa_cons (pe_lst (pa_cons (pe_un un_neg pe_int) pa_nil)) pa_nil)))), ?_⟩
    refine ⟨rfl, _, rfl, _, rfl, by show 1 ≤ sizeLine; exact Nat.le_of_lt (small1000 (by decide)), fun l nl => ?_⟩
    exact own_ok (E := E) R q l nl
theorem scAI : FnScope ["self"] ["self"] (defScope sAI) := ⟨rfl, rfl, rfl, by decide +kernel, rfl, by decide +kernel, by decide +kernel⟩
theorem ok_AI {f C : Addr} {fd fdB : FuncData} (F : Fun K "__init__" "NotAllowed.__init__" sAI f fd) (T : Txt K mg CE fBI CF fFI CR) (R : RefC K CE C) (GB : FnOk P w K mg base CX0 1 fBI fdB ["self", "numbers"] (spBI K)) (bB : Binds K fdB ["self", "numbers"] []) :
    FnOk P w K mg base CX0 2 f fd ["self"] (spOw C (-1)) := by
  refine F.ok scAI (fun vs H Q E h => ?_) (fun cdv A outer s H vs Q E hr h => ?_)
  · obtain ⟨a, rfl, _⟩ := h
    rfl
  · obtain ⟨a, rfl, q⟩ := h
    refine ⟨_, pss_one (ps_expr (pe_clsfn (pe_glob (v := .ref CE) rfl T.gE rfl) T.rd T.ci T.kB GB hr bB .nil pass0 (pa_cons (pv 0) (pa_cons (pe_lst (pa_cons (pe_un un_neg pe_int) pa_nil)) pa_nil)))), ?_⟩
    refine ⟨rfl, _, rfl, _, rfl, by show 1 ≤ sizeLine; exact Nat.le_of_lt (small1000 (by decide)), fun l nl => ?_⟩
    exact own_ok (E := E) R q l nl
/-- Refusal's __init__, called while an exception is handled -/
theorem ok_BIH {f : Addr} {fd : FuncData} (F : Fun K "__init__" "Refusal.__init__" sBI f fd) (T : Txt K mg CE fBI CF fFI CR) : L2H.FnH P w K mg base CX0 1 f fd ["self", "numbers"] (spBI K) := by
  refine fun_okH F scBI (fun vs H Q E h => ?_) (fun cdv A outer s H vs Q E p hot hr h => ?_)
  · obtain ⟨a, C, x, rfl, _⟩ := h
    rfl
  · obtain ⟨a, C, x, rfl, ox, nN, ha, q⟩ := h
    refine ⟨_, pss_cons (ps_expr (pe_veinit rfl T.nVE T.vV (pa_cons (pv 0) (pa_cons (pv 1) pa_nil)))) (pss_one (ps_ost (pv 0) (pv 1))), ?_⟩
    refine ⟨_, rfl, _, rfl, a, C, _, rfl, by show 1 ≤ 1000; decide, ox, ha, ?_⟩
    refine ⟨_, rfl, _, rfl, a, C, rfl, ox, nN, .inl ⟨ha, fun d nd da => ?_⟩⟩
    refine q d _ nd da upd_same ?_ fun b o hb e => ?_
    · rw [upd_ne da, upd_same]
    · rw [upd_ne hb, upd_ne (ne_of_none e nd)]
      exact e
theorem scYI : FnScope ["self", "kind", "line"] ["self", "kind", "line"] (defScope sYI) := ⟨rfl, rfl, rfl, by decide +kernel, rfl, by decide +kernel, by decide +kernel⟩
theorem ok_YI {f C : Addr} {fd fdB : FuncData} (F : Fun K "__init__" "FaultyLine.__init__" sYI f fd) (T : Txt K mg CE fBI CF fFI CR) (R : RefC K CE C) (GB : L2H.FnH P w K mg base CX0 1 fBI fdB ["self", "numbers"] (spBI K)) (bB : Binds K fdB ["self", "numbers"] []) :
    L2H.FnH P w K mg base CX0 2 f fd ["self", "kind", "line"] (spYI C) := by
  refine fun_okH F scYI (fun vs H Q E h => ?_) (fun cdv A outer s H vs Q E p hot hr h => ?_)
  · obtain ⟨a, k, l, rfl, _⟩ := h
    rfl
  · obtain ⟨a, k, l, rfl, q⟩ := h
    have hc : L2H.HotC (L2H.cxH CX0 P w K mg base ["self", "kind", "line"] "FaultyLine.__init__" (defScope sYI) f cdv A outer s H E p) := ⟨p, hot, List.mem_cons_self⟩
    refine ⟨_, pss_one (ps_expr (pe_clsfnH (E := E0) (pe_glob (v := .ref CE) rfl T.gE rfl) T.rd T.ci T.kB GB hr hc bB (fun σ => fun pins H s e s' I c => c.elim) (pa_cons (pv 0) (pa_cons (pe_lst (pa_cons (pe_un un_neg pe_int) (pa_cons (pv 1) (pa_cons (pv 2) pa_nil)))) pa_nil)))), ?_⟩
    refine ⟨rfl, _, rfl, _, rfl, _, rfl, _, rfl, by show 3 ≤ sizeLine; exact Nat.le_of_lt (small1000 (by decide)), fun l' nl => ?_⟩
    exact own_ok (E := E0) R q l' nl
end
end Ab

set_option Elab.async false
set_option linter.all false
set_option maxRecDepth 100000
set_option maxHeartbeats 4000000
namespace Ab
open PySem PySem.Spec PyProof.Rows L2 AbM AbJ
open Na (Bytes held Cmp)
/-! ### a run's heads stay small -/
structure HeadsOk (hs : List Nat) : Prop where
  n8 : hs.length = 8
  le : ∀ x ∈ hs, x ≤ 99
theorem HeadsOk.first : HeadsOk (List.replicate 8 0) := ⟨by decide, fun x h => by
  rw [(List.mem_replicate.mp h).2]
  exact Nat.zero_le _⟩
theorem heads_small {hs : List Nat} (h : HeadsOk hs) (k : Nat) : hs.getD k 0 ≤ 9999 := by
  rw [List.getD_eq_getElem?_getD]
  cases e : hs[k]? with
  | none => exact Nat.zero_le _
  | some x =>
    have := h.le x (List.mem_of_getElem? e)
    show x ≤ 9999
    omega
theorem marks_small {ms : List Nat} (h : ∀ x ∈ ms, x ≤ 63) (k : Nat) : ms.getD k 0 ≤ 9999 := by
  rw [List.getD_eq_getElem?_getD]
  cases e : ms[k]? with
  | none => exact Nat.zero_le _
  | some x =>
    have := h x (List.mem_of_getElem? e)
    show x ≤ 9999
    omega
theorem done_heads {σ : Type} {b : Na.Board σ} {marks : List Nat} {p : Na.Method} {a c : Na.Now σ} (h : HeadsOk a.heads) : ∀ {l : Na.Line}, l.done b marks p a = .ok (some c) → HeadsOk c.heads
  | .add e r, hd => by
    rw [done_add] at hd
    cases hx : chgX b marks a 0 e r with
    | error k => rw [hx] at hd; cases hd
    | ok s => rw [hx] at hd; cases hd; exact h
  | .take e r, hd => by
    rw [done_take] at hd
    cases hx : chgX b marks a 1 e r with
    | error k => rw [hx] at hd; cases hd
    | ok s => rw [hx] at hd; cases hd; exact h
  | .set k e, hd => by
    rw [done_set] at hd
    unfold setX at hd
    cases hx : e.value b marks a with
    | error k => rw [hx] at hd; cases hd
    | ok x =>
      rw [hx] at hd
      dsimp only at hd
      by_cases hb : x < 0 ∨ 99 < x
      · rw [if_pos hb] at hd; cases hd
      · rw [if_neg hb] at hd
        cases hd
        refine ⟨by show (a.heads.set k x.toNat).length = 8; rw [List.length_set]; exact h.n8, fun y hy => ?_⟩
        rcases List.mem_or_eq_of_mem_set hy with e | e
        · exact h.le y e
        · rw [e]; omega
  | .if_ t, hd => by
    rw [done_if] at hd
    unfold branchX at hd
    cases hx : Na.holds b marks a t with
    | error k => rw [hx] at hd; cases hd
    | ok x => rw [hx] at hd; cases hd; exact h
  | .while_ t, hd => by
    rw [done_while] at hd
    unfold branchX at hd
    cases hx : Na.holds b marks a t with
    | error k => rw [hx] at hd; cases hd
    | ok x => rw [hx] at hd; cases hd; exact h
  | .else_, hd => by cases hd; exact h
  | .end_, hd => by cases hd; exact h
  | .halt_, hd => by cases hd
  | .fail, hd => by cases hd
theorem run_zero {σ : Type} (b : Na.Board σ) (marks : List Nat) (p : Na.Method) (steps : Nat) (a : Na.Now σ) {l : Na.Line} (h : p[a.line]? = some l) : Na.runOn b marks p 0 steps a = .long := by
  unfold Na.runOn
  rw [h]
theorem run_succ {σ : Type} (b : Na.Board σ) (marks : List Nat) (p : Na.Method) (n steps : Nat) (a : Na.Now σ) {l : Na.Line} (h : p[a.line]? = some l) : Na.runOn b marks p (n + 1) steps a = match l.done b marks p a with
    | .error k => .fault k a.line
    | .ok none => .ended a.on (steps + 1)
    | .ok (some c) => Na.runOn b marks p n (steps + 1) c := by
  rw [Na.runOn, h]
  dsimp only
  cases l.done b marks p a with
  | error k => rfl
  | ok o => cases o <;> rfl
theorem run_end {σ : Type} (b : Na.Board σ) (marks : List Nat) (p : Na.Method) (n steps : Nat) (a : Na.Now σ) (h : p[a.line]? = none) : Na.runOn b marks p n steps a = .ended a.on steps := by
  unfold Na.runOn
  rw [h]
/-! ### go_through -/
def spGT {σ : Type} (M : Fam σ) (CR CY CU : Addr) : Sp := fun vs H Q E => ∃ (ru dx D G L : Addr) (us : List V) (p : Na.Method) (N : Addr → Prop) (marks : List Nat) (st : σ) (most : Nat), vs = [.ref ru, .int ((most : Nat) : Int)] ∧
  (∀ l ∈ p, Na.Line.good l = true) ∧ (∀ x ∈ marks, x ≤ 63) ∧ RunS CR M.fr ru dx D G L us p N H ∧ Apt M L N ∧ LetV H L (List.replicate 8 0) marks ∧ M.Fr H st ∧
  (∀ k l, Na.run M.b marks p most st = .fault k l → RefE CY E [.int (-9), .int ((k : Nat) : Int), .int ((l : Nat) : Int)]) ∧
  (Na.run M.b marks p most st = .long → RefE CU E [.int (-8)]) ∧
  ∀ w n, Na.run M.b marks p most st = .ended w n → ∀ H', M.Fr H' w → Q (.int ((n : Nat) : Int)) H'
section
variable {P : Program} {w : World} {K : PySem.W.Frag} {mg : Str → Option Value} {base : Heap} {CE CK fKI CR aO CY fYI CU fUI : Addr}
theorem scGT : FnScope ["self", "most", "line", "steps", "fault"] ["self", "most"] (defScope sGT) := ⟨rfl, rfl, rfl, by decide +kernel, rfl, by decide +kernel, by decide +kernel⟩
theorem ok_GT {σ : Type} {M : Fam σ} {f fDL : Addr} {fd fdDL fdY fdU : FuncData} (F : Fun K "go_through" "Run.go_through" sGT f fd) (T : TxK K mg CK fKI) (U : TxU K mg w CR aO) (FM : FamOk K M)
    (mD : Meth K CR "do_line" fDL) (GD : FnOk P w K mg base (L2N.CX P w) 10 fDL fdDL ["self", "line"] (spDL M CR CK)) (bD : Binds K fdDL ["self", "line"] [])
    (OY : OwnC K mg CE CY fYI "FaultyLine") (GY : L2H.FnH P w K mg base CX0 2 fYI fdY ["self", "kind", "line"] (spYI CY)) (bY : Binds K fdY ["self", "kind", "line"] [])
    (OU : OwnC K mg CE CU fUI "LongRun") (GU : FnOk P w K mg base CX0 2 fUI fdU ["self"] (spOw CU (-8))) (bU : Binds K fdU ["self"] []) :
    FnOk P w K mg base (L2.CX P w) 11 f fd ["self", "most"] (spGT M CR CY CU) := by
  refine F.okX scGT (fun vs H Q E h => ?_) (fun cdv A0 outer s H vs Q E hr h => ?_)
  · obtain ⟨ru, dx, D, G, L, us, p, N, marks, st, most, rfl, _⟩ := h
    rfl
  · obtain ⟨ru, dx, D, G, L, us, p, N, marks, st, most, rfl, hgood, hmk, R, ap, hL, hF, qe, ql, qo⟩ := h
    have hr3 : Room 3 _ := hr.mono (by decide)
    refine ⟨_, pss_cons (ps_set (i := 2) scGT.nd rfl (Or.inl rfl) pe_int)
      (pss_cons (ps_set (i := 3) scGT.nd rfl (Or.inl rfl) pe_int)
      (pss_cons (ps_while (passes_of rfl) (pt_cmpR op_lt (pv 2) (pe_callB call_len_seq (by rfl) T.len PySem.boot_len (pa_cons (pe_fld (pv 0) rfl) pa_nil)) (nomark _))
        (pss_cons (ps_if (pt_cmpR op_eq (pv 3) (pv 1) (nomark _)) (pss_one (ps_raise rfl (takes_of rfl rfl rfl rfl) (pmk_oex0 OU.rf.ox OU.iF OU.tF GU hr3 bU pass0 rfl OU.gF))) pss_nil)
        (pss_cons (ps_aug (i := 3) scGT.nd rfl (Or.inl rfl) pe_int iop_add)
        (pss_one (ps_try_asX (i := 4) (tb := fun W => tAsg (tMethT CR "do_line" (spDL M CR CK) (WE W) (tVar 0) (tCons (tVar 2) tNil)) (gName 2))
          (ts := fun a cls d => fun _ σ H => tMkO CY (spYI CY) [] (tCons (tXfE K a cls d "kind" (tVar 4)) (tCons (tVar 2) tNil)) σ H fun cls d H' => E cls d H')
          (Wout := fun cls d _ H => E cls d H) rfl rfl scGT.nd rfl rfl ⟨rfl, by decide, Or.inl T.gK⟩ (takes_of rfl rfl rfl rfl) (fun _ _ _ _ h => h)
          (fun W pn xe tk _ => pss_one (ps_set (i := 2) scGT.nd rfl (Or.inl rfl) (by exact (pe_methT (pv 0) U.cl mD GD hr bD (fun σ => L2N.passAt tk σ) (by exact (pa_cons (pv 2) pa_nil))))))
          (fun a oe cls d pn xe hz hf tk hot => pss_one (L2H.ps_raiseHN hot tk (by exact (L2H.pmk5_oexH OY.rf.ox OY.iF OY.tF GY (L2H.roomH_mark hr3 _) hot bY pass0 rfl OY.gF (by exact (pa_cons (pe_xfY hz.zc hf (pv 4)) (pa_cons (pv 2) pa_nil))))))))))))
      (pss_one (ps_ret (pv 3))))), ?_⟩
    refine ⟨fun m σ' H' => ∃ (a : Na.Now σ) (steps : Nat) (v4 : Option V), σ' = [some (.ref ru), some (.int ((most : Nat) : Int)), some (.int ((a.line : Nat) : Int)), some (.int ((steps : Nat) : Int)), v4] ∧ HeadsOk a.heads ∧ RunS CR M.fr ru dx D G L us p N H' ∧ LetV H' L a.heads marks ∧ M.Fr H' a.on ∧ steps ≤ most ∧
      Na.runOn M.b marks p (most - steps) steps a = Na.run M.b marks p most st ∧ m = most - steps, ⟨_, ⟨0, List.replicate 8 0, st⟩, 0, _, rfl, HeadsOk.first, R, hL, hF, Nat.zero_le _, rfl, rfl⟩, ?_⟩
    rintro m σ' H1 ⟨a, steps, v4, rfl, hh, R1, hL1, hF1, hle, hrun, rfl⟩
    refine ⟨_, rfl, _, rfl, ru, CR, dx, _, _, rfl, R1.ob, U.cl, U.nLi, ru_lines D G L M.fr, D, _, rfl, .inl (SqL.of R1.li), _, _, rfl, rfl, _, rfl, ?_⟩
    by_cases hlt : a.line < p.length
    · refine if_true_of (decide_eq_true (by rw [R1.ls.len]; omega)) ?_
      have hl : p[a.line]? = some p[a.line] := List.getElem?_eq_getElem hlt
      refine ⟨fun σ' H' => ∃ (c : Na.Now σ) (v4 : Option V), σ' = [some (.ref ru), some (.int ((most : Nat) : Int)), some (.int ((c.line : Nat) : Int)), some (.int (((steps + 1 : Nat)) : Int)), v4] ∧ HeadsOk c.heads ∧ RunS CR M.fr ru dx D G L us p N H' ∧ LetV H' L c.heads marks ∧ M.Fr H' c.on ∧ steps + 1 ≤ most ∧
        Na.runOn M.b marks p (most - (steps + 1)) (steps + 1) c = Na.run M.b marks p most st, fun σ' H' ⟨c, v4, e, g1, g2, g3, g4, g5, g6⟩ => ⟨_, (by omega : most - (steps + 1) < most - steps), c, steps + 1, v4, e, g1, g2, g3, g4, g5, g6, rfl⟩, ?_⟩
      refine ⟨_, rfl, _, rfl, rfl, _, rfl, ?_⟩
      by_cases hm : steps = most
      · refine if_true_of (by rw [hm]; simp) ?_
        refine fun a0 na => ⟨a0, rfl, made (ql ?_)⟩
        rw [← hrun, hm, Nat.sub_self]
        exact run_zero _ _ _ _ _ hl
      · refine if_false_of (by rw [eq_int]; exact beq_eq_false_iff_ne.mpr (fun z => hm (by omega))) ?_
        refine ⟨_, rfl, _, _, rfl, rfl, ?_⟩
        have e1 : most - steps = (most - (steps + 1)) + 1 := by omega
        rw [e1, run_succ _ _ _ _ _ _ hl] at hrun
        refine ⟨_, rfl, ru, dx, _, rfl, R1.ob, rfl, _, rfl, ?_⟩
        have small : Small M.b marks a := ⟨heads_small hh, marks_small hmk, FM.look hF1⟩
        refine ⟨ru, dx, D, G, L, us, p, N, marks, a, _, rfl, hl, hgood _ (List.getElem_mem hlt), hh.n8, R1, ap, hL1, hF1, small, fun k hk d H2 ed => ⟨T.te, fun a1 na1 => ?_⟩, fun hn H2 sm => ?_, fun c hc H2 kp hL2 hF2 => ?_⟩
        · rw [hk] at hrun
          refine ⟨_, rfl, rfl, CK, d, _, .int ((k : Nat) : Int), rfl, T.xf, T.nK, rfl, ed, rfl, _, rfl, by show 2 ≤ 1000; decide, fun a2 na2 => ⟨a2, ((k : Nat) : Int), ((a.line : Nat) : Int), rfl, made (qe k a.line hrun.symm)⟩⟩
        · rw [hn] at hrun
          refine ⟨⟨p.length, a.heads, a.on⟩, _, rfl, hh, R1.keep (KeepP.same sm), hL1.same sm, FM.same hF1 sm, by omega, ?_⟩
          rw [run_end _ _ _ _ _ _ (List.getElem?_eq_none (Nat.le_refl _))]
          exact hrun
        · rw [hc] at hrun
          exact ⟨c, _, rfl, done_heads hh hc, R1.keep kp, hL2, hF2, by omega, hrun⟩
    · refine if_false_of (decide_eq_false (by rw [R1.ls.len]; omega)) ?_
      refine ⟨_, rfl, qo a.on steps ?_ H1 hF1⟩
      rw [← hrun]
      exact run_end _ _ _ _ _ _ (List.getElem?_eq_none (by omega))
end
end Ab

set_option Elab.async false
set_option linter.all false
set_option maxRecDepth 100000
set_option maxHeartbeats 4000000
namespace Ab
open PySem PySem.Spec PyProof.Rows L2 AbM AbJ
/-! ### check_run -/
def spCR (K : PySem.W.Frag) (CA : Addr) : Sp := fun vs H Q E => ∃ (A : Addr) (most : Nat) (ms : List Nat), vs = [.int ((most : Nat) : Int), .ref A] ∧ SqL K H A (natV ms) ∧ ms.length ≤ 1000 ∧
  (Na.MOST = 16777216 → (ms.length ≠ 8 ∨ (∃ x ∈ ms, 63 < x) ∨ 16777216 < most) → RefE CA E [.int (-1)]) ∧
  (ms.length = 8 → (∀ x ∈ ms, x ≤ 63) → most ≤ 16777216 → ∀ H', Same H H' → Q .non H')
structure TxR (mg : Str → Option Value) : Prop where
  count : ∃ u, mg "MARK_COUNT" = some (.int 8 u)
  mark : ∃ u, mg "MOST_MARK" = some (.int 63 u)
  steps : ∃ u, mg "MOST_STEPS" = some (.int 16777216 u)
  len : mg "len" = none
  max : mg "max" = none
section
variable {P : Program} {w : World} {K : PySem.W.Frag} {mg : Str → Option Value} {base : Heap} {CE CA fAI : Addr}
theorem scCR : FnScope ["most", "marks"] ["most", "marks"] (defScope sCR) := ⟨rfl, rfl, rfl, by decide +kernel, rfl, by decide +kernel, by decide +kernel⟩
theorem ok_CR {f : Addr} {fd fdA : FuncData} (F : Fun K "check_run" "check_run" sCR f fd) (T : TxR mg) (OA : OwnC K mg CE CA fAI "NotAllowed")
    (GA : FnOk P w K mg base CX0 2 fAI fdA ["self"] (spOw CA (-1))) (bA : Binds K fdA ["self"] []) :
    FnOk P w K mg base (L2.CX P w) 4 f fd ["most", "marks"] (spCR K CA) := by
  refine F.okX scCR (fun vs H Q E h => ?_) (fun cdv A0 outer s H vs Q E hr h => ?_)
  · obtain ⟨A, most, ms, rfl, _⟩ := h
    rfl
  · obtain ⟨A, most, ms, rfl, hA, hsz, qe, qo⟩ := h
    obtain ⟨u1, h1⟩ := T.count
    obtain ⟨u2, h2⟩ := T.mark
    obtain ⟨u3, h3⟩ := T.steps
    refine ⟨_, pss_one (ps_if (PW.pt (pw_or (pt_cmpR op_ne (pe_callB call_len_seq (by rfl) T.len PySem.boot_len (pa_cons (pv 1) pa_nil)) (pe_glob (v := .int 8) rfl h1 ⟨_, rfl⟩) (nomark _))
        (pw_or (pt_cmpR op_gt (pe_callB (cr_max rfl) (by rfl) T.max (by decide +kernel) (pa_cons (pv 1) pa_nil)) (pe_glob (v := .int 63) rfl h2 ⟨_, rfl⟩) (nomark _))
          (pw_or1 (pt_cmpR op_gt (pv 0) (pe_glob (v := .int 16777216) rfl h3 ⟨_, rfl⟩) (nomark _))))))
      (pss_one (ps_raise rfl (takes_of rfl rfl rfl rfl) (pmk_oex0 OA.rf.ox OA.iF OA.tF GA hr bA pass0 rfl OA.gF))) pss_nil), ?_⟩
    have bad : (ms.length ≠ 8 ∨ (∃ x ∈ ms, 63 < x) ∨ 16777216 < most) → ∀ {H1 : Hp} (a0 : Addr), H1 a0 = none → spOw CA (-1) [.ref a0] (upd H1 a0 (exo a0 CA none)) (fun v H2 => v = .non ∧ ∃ (d : Addr) (fs : List (Str × V)), H2 a0 = some (exo a0 CA (some d)) ∧ H2 d = some (exd d fs) ∧ H1 d = none ∧ E (.ref CA) (some d) (upd (del H2 a0) d (.xd fs))) (fun _ _ _ => False) := fun hb H1 a0 na => ⟨a0, rfl, made (qe rfl hb)⟩
    refine ⟨_, rfl, A, _, rfl, .inl hA, rfl, _, rfl, ?_⟩
    have en : decide (V.int (((natV ms).length : Nat) : Int) = V.int 8) = decide (ms.length = 8) := by
      rw [natV_len, eq_int]
      by_cases h : ms.length = 8
      · rw [decide_eq_true h, h]; rfl
      · rw [decide_eq_false h]
        exact beq_eq_false_iff_ne.mpr (by omega)
    by_cases h8 : ms.length = 8
    · refine if_false_of ((congrArg Bool.not en).trans (by rw [decide_eq_true h8]; rfl)) ?_
      have hA2 : SqL K H A ((ms.map fun n : Nat => ((n : Nat) : Int)).map V.int) := by rw [← natV_int]; exact hA
      refine ⟨_, rfl, A, _, rfl, hA2, by rw [List.length_map]; omega, fun m hm hle => ⟨_, _, rfl, rfl, _, rfl, ?_⟩⟩
      obtain ⟨m0, hm0, rfl⟩ := List.mem_map.mp hm
      by_cases h63 : 63 < m0
      · exact if_true_of (decide_eq_true (by omega)) (bad (.inr (.inl ⟨m0, hm0, h63⟩)))
      · refine if_false_of (decide_eq_false (by omega)) ?_
        refine ⟨_, rfl, _, _, rfl, rfl, _, rfl, ?_⟩
        by_cases hs : 16777216 < most
        · exact if_true_of (decide_eq_true (by omega)) (bad (.inr (.inr hs)))
        · refine if_false_of (decide_eq_false (by omega)) ?_
          refine qo h8 (fun x hx => ?_) (by omega) H (Same.refl H)
          have := hle _ (List.mem_map_of_mem (f := fun n : Nat => ((n : Nat) : Int)) hx)
          omega
    · exact if_true_of ((congrArg Bool.not en).trans (by rw [decide_eq_false h8]; rfl)) (bad (.inl h8))
end
end Ab

set_option Elab.async false
set_option linter.all false
set_option maxRecDepth 100000
set_option maxHeartbeats 4000000
namespace Ab
open PySem PySem.Spec PyProof.Rows L2 AbM AbF AbP AbJ
open Na (Bytes held Cmp readMethod)
/-! ### what run answers -/
abbrev iL (ns : List Int) : List V := ns.map V.int
def runEnd (e : Na.End Nat) : List Int := match e with
  | .ended w n => [0, (n : Int), (w : Int)]
  | .fault k l => [-9, (k : Int), (l : Int)]
  | .long => [-8]
def runAns (v most : Nat) (l ms : List Nat) (t : Bytes) : List Int := if 4096 < t.length then [-6] else match Na.makeOf l with
  | .error e => [-5, (e.rule : Int), (e.place : Int)]
  | .ok x => match readMethod t with
    | .error k => [-5, 11, (k : Int)]
    | .ok p => if Mv.marksOk ms most = false then [-1] else if Na.span x ≤ v then [-4] else runEnd (Na.run (Na.numbers x) ms p most v)
theorem nats_back (l : List Nat) : MvNeutral.nats (l.map fun n : Nat => ((n : Nat) : Int)) = l := by
  unfold MvNeutral.nats
  rw [List.map_map]
  refine (List.map_congr_left fun n _ => ?_).trans (List.map_id l)
  exact Int.toNat_natCast n
theorem ints_nat {ns : List Int} (h : ∀ x ∈ ns, 0 ≤ x) : (ns.map Int.toNat).map (fun n : Nat => ((n : Nat) : Int)) = ns := by
  rw [List.map_map]
  refine (List.map_congr_left fun n hn => ?_).trans (List.map_id ns)
  exact Int.toNat_of_nonneg (h n hn)
theorem bytes_ok {ns : List Int} (h : ∀ x ∈ ns, 0 ≤ x ∧ x ≤ 255) : MvNeutral.bytesOf ns = some (ns.map fun n => UInt8.ofNat n.toNat) := by
  have hb : NeutralIO.bytes ns = true := List.all_eq_true.mpr fun x hx => by
    obtain ⟨h1, h2⟩ := h x hx
    rw [decide_eq_true h1, decide_eq_true h2]
    rfl
  unfold MvNeutral.bytesOf
  rw [if_pos hb]
theorem run_eq {v most : Nat} {l ms : List Nat} {ns : List Int} (h : ∀ x ∈ ns, 0 ≤ x ∧ x ≤ 255) : PyYqacda.run (v : Int) (most : Int) (l.map fun n : Nat => ((n : Nat) : Int)) (ms.map fun n : Nat => ((n : Nat) : Int)) ns = runAns v most l ms (ns.map fun n => UInt8.ofNat n.toNat) := by
  have e : MvNeutral.callOf [[3, (v : Int), (most : Int)], l.map fun n : Nat => ((n : Nat) : Int), ms.map fun n : Nat => ((n : Nat) : Int), ns] = some (.run v most l ms (ns.map fun n => UInt8.ofNat n.toNat)) := by
    show (MvNeutral.bytesOf ns).map _ = _
    rw [bytes_ok h]
    show some (Mv.Call.run (v : Int).toNat (most : Int).toNat (MvNeutral.nats (l.map fun n : Nat => ((n : Nat) : Int))) (MvNeutral.nats (ms.map fun n : Nat => ((n : Nat) : Int))) _) = _
    rw [nats_back, nats_back, Int.toNat_natCast, Int.toNat_natCast]
  unfold PyYqacda.run MvNeutral.step
  rw [e]
  generalize (ns.map fun n => UInt8.ofNat n.toNat) = t
  show MvNeutral.told (Mv.answer (.run v most l ms t)) = _
  unfold Mv.answer runAns
  dsimp only
  by_cases h4 : 4096 < t.length
  · rw [if_pos h4, if_pos (show Mv.LONGEST < t.length from h4)]
    rfl
  · rw [if_neg h4, if_neg (show ¬ Mv.LONGEST < t.length from h4)]
    cases Na.makeOf l with
    | error e => rfl
    | ok x =>
      dsimp only
      unfold Mv.withMethod
      cases readMethod t with
      | error k => rfl
      | ok p =>
        dsimp only
        by_cases hm : Mv.marksOk ms most = false
        · rw [if_pos hm, if_pos hm]; rfl
        · rw [if_neg hm, if_neg hm]
          by_cases hs : Na.span x ≤ v
          · rw [if_pos hs, if_pos hs]; rfl
          · rw [if_neg hs, if_neg hs]
            cases Na.run (Na.numbers x) ms p most v <;> rfl
theorem marks_ok {ms : List Nat} {most : Nat} : Mv.marksOk ms most = true ↔ ms.length = 8 ∧ (∀ x ∈ ms, x ≤ 63) ∧ most ≤ 16777216 := by
  show (ms.length == 8 && (ms.all (fun x => decide (x ≤ 63)) && decide (most ≤ Na.MOST))) = true ↔ _
  rw [Bool.and_eq_true, Bool.and_eq_true, beq_iff_eq, List.all_eq_true, decide_eq_true_iff]
  refine ⟨fun ⟨a, b, c⟩ => ⟨a, fun x hx => of_decide_eq_true (b x hx), c⟩, fun ⟨a, b, c⟩ => ⟨a, fun x hx => decide_eq_true (b x hx), c⟩⟩
end Ab

set_option Elab.async false
set_option linter.all false
set_option maxRecDepth 100000
set_option maxHeartbeats 4000000
namespace Ab
open PySem PySem.Spec PyProof.Rows L2 AbM AbF AbP AbJ
open Na (Bytes held Cmp readMethod)
/-! ### addresses of a wider kind -/
section
variable {N N' : Addr → Prop} {H : Hp} (m : ∀ b, N b → N' b)
include m
theorem ExN.mono {v : V} {x : Na.Ex} (h : ExN N H v x) : ExN N' H v x :=
  let ⟨a, e, n, g, l⟩ := h
  ⟨a, e, m _ n, g, l⟩
theorem TestN.mono {v : V} {x : Na.Test} (h : TestN N H v x) : TestN N' H v x :=
  let ⟨T, va, vb, e, n, g, ea, eb⟩ := h
  ⟨T, va, vb, e, m _ n, g, ea.mono m, eb.mono m⟩
theorem PartsN.mono {us : List V} {l : Na.Line} (h : PartsN N H us l) : PartsN N' H us l := by
  cases l with
  | add e r => obtain ⟨a, b, e1, e2, e3⟩ := h; exact ⟨a, b, e1, e2.mono m, e3.mono m⟩
  | take e r => obtain ⟨a, b, e1, e2, e3⟩ := h; exact ⟨a, b, e1, e2.mono m, e3.mono m⟩
  | set j e => obtain ⟨a, e1, e2⟩ := h; exact ⟨a, e1, e2.mono m⟩
  | if_ ts => exact All2.imp h fun _ _ g => g.mono m
  | while_ ts => exact All2.imp h fun _ _ g => g.mono m
  | else_ => exact h
  | end_ => exact h
  | halt_ => exact h
  | fail => exact h
theorem LineN.mono {v : V} {x : Na.Line} (h : LineN N H v x) : LineN N' H v x :=
  let ⟨T, P, us, e, n, g, n2, g2, ps⟩ := h
  ⟨T, P, us, e, m _ n, g, m _ n2, g2, ps.mono m⟩
end
theorem RodAt.there {N N' : Addr → Prop} {CO R : Addr} {H : Hp} {l : List Nat} {pl : Nat} {fs : Tab} (h : RodAt N CO R H l pl fs) (m : ∀ b, N b → H b ≠ none → N' b) : RodAt N' CO R H l pl fs := by
  obtain ⟨n, ⟨dx, B, W, Dg, dk, nB, nW, nD, e1, e2, e3, e4, dv⟩, a, d⟩ := h
  exact ⟨m _ n (at_some e1), ⟨dx, B, W, Dg, dk, m _ nB (at_some e2), m _ nW (at_some e3), m _ nD (at_some e4), e1, e2, e3, e4, dv⟩, a, d⟩
theorem RodsN.there {N N' : Addr → Prop} {CO : Addr} {H : Hp} {l : List Nat} {rs : List V} (h : RodsN N CO H l rs) (m : ∀ b, N b → H b ≠ none → N' b) : RodsN N' CO H l rs := fun j v e =>
  let ⟨R, fs, a, b⟩ := h j v e
  ⟨R, fs, a, b.there m⟩
theorem makeL_of {l : List Nat} (hb : ¬ badLen l) (hf : ∀ j, j < l.length / 7 → Na.rodWrong (seven l j) = 0) : MakeL l := by
  have hb' : ¬ (l.length % 7 ≠ 0 ∨ l.length = 0 ∨ 448 < l.length) := hb
  refine ⟨by omega, by omega, by omega, fun j hj => ?_⟩
  have := hf j hj
  rcases rodWrong_cases (seven l j) with ⟨_, e⟩ | ⟨_, _, e⟩ | ⟨_, _, _, e⟩ | ⟨g, _⟩
  · rw [e] at this; cases this
  · rw [e] at this; cases this
  · rw [e] at this; cases this
  · exact g
theorem lins_len : ∀ (f : Nat) (o : List Nat) (p : Nat) (b : Bytes) (m : Na.Method), Na.linesAt f o p b = .ok m → m.length ≤ b.length
  | 0, o, p, b, m, h => by
    have h' : (Except.error p : Except Nat Na.Method) = .ok m := h
    cases h'
  | f + 1, o, p, b, m, h => by
    by_cases e : b = [] ∧ o = []
    · obtain ⟨rfl, rfl⟩ := e
      rw [lins_end] at h
      cases h
      exact Nat.le_refl _
    · rw [lins_step f o p b e] at h
      obtain ⟨x, q, c, h1, h2⟩ := bindX_inv h
      have l1 := lineP_len (o' := x) h1
      cases hr : Na.linesAt f x.2 q c with
      | error k => rw [hr] at h2; cases h2
      | ok r =>
        rw [hr] at h2
        cases h2
        have := lins_len f x.2 q c r hr
        rw [List.length_cons]
        omega
theorem read_len {t : Bytes} {m : Na.Method} (h : readMethod t = .ok m) : m.length ≤ t.length := lins_len _ _ _ _ _ h
/-- the clause 'except Refusal as n' gives back its numbers -/
def tsR (K : PySem.W.Frag) (i : Nat) : Addr → Value → Option Addr → TS := fun a cls d => tRet (tXfE K a cls d "numbers" (tVar i))
theorem caught {K : PySem.W.Frag} {CE C : Addr} {i : Nat} {σ : L2.St} {D : Ends} (R : RefC K CE C) {d n : Addr} {H' : Hp} (ed : H' d = some (.xd (nmF n))) (hi : i < σ.length) (q : D.rt (.ref n) H') : wAs K (.ref CE) i (tsR K i) (fun _ _ _ _ => False) D (.ref C) (some d) σ H' :=
  ⟨true, R.te, fun _ a0 na => ⟨_, List.getElem?_set_self hi, rfl, C, d, _, .ref n, rfl, R.xf, R.nNum, rfl, ed, rfl, q⟩, fun z => Bool.noConfusion z⟩
/-- a promise for each of some frames -/
def spGN (K : PySem.W.Frag) (CN CO CR CY CU : Addr) : Sp := fun vs H Q E => ∃ (fr : Addr) (l : List Nat), MakeL l ∧ spGT (numFam CN CO fr l) CR CY CU vs H Q E
theorem ok_GN {P : Program} {w : World} {K : PySem.W.Frag} {mg : Str → Option Value} {base : Heap} {CN CO CR CY CU f : Addr} {fd : FuncData} (h : ∀ fr l, MakeL l → FnOk P w K mg base (L2.CX P w) 11 f fd ["self", "most"] (spGT (numFam CN CO fr l) CR CY CU)) :
    FnOk P w K mg base (L2.CX P w) 11 f fd ["self", "most"] (spGN K CN CO CR CY CU) :=
  ⟨fun vs H Q E ⟨fr, l, hm, hs⟩ => (h fr l hm).len vs H Q E hs, fun A outer s H args us vs Q E hr e0 hb r ⟨fr, l, hm, hs⟩ => (h fr l hm).run A outer s H args us vs Q E hr e0 hb r hs⟩
def spRun (K : PySem.W.Frag) : Sp := fun vs H Q _ => ∃ (mk ma tx : Addr) (v most : Nat) (l ms : List Nat) (t : Bytes), vs = [.int ((v : Nat) : Int), .int ((most : Nat) : Int), .ref mk, .ref ma, .ref tx] ∧ SqL K H mk (natV l) ∧ l.length ≤ 500 ∧ SqL K H ma (natV ms) ∧ ms.length ≤ 20 ∧ SqL K H tx (bs t) ∧ t.length ≤ 5000 ∧
  ∀ (H' : Hp) (p : Addr), H' p = some (.lst (iL (runAns v most l ms t))) → Q (.ref p) H'
section
variable {P : Program} {w : World} {K : PySem.W.Frag} {mg : Str → Option Value} {base : Heap} {CE fBI CF fFI CR CL fLI CO CA CV fVI CN fNI CRn fUR aO CY CU : Addr}
theorem scRun : FnScope ["v", "most", "make", "marks", "text", "rods", "lines", "frame", "steps", "refusal"] ["v", "most", "make", "marks", "text"] (defScope sRun) := ⟨rfl, rfl, rfl, by decide +kernel, rfl, by decide +kernel, by decide +kernel⟩
theorem ok_Run {f fS fM fD fC fX fG : Addr} {fd fdS fdM fdD fdC fdX fdV fdN fdU fdG : FuncData} (F : Fun K "run" "run" sRun f fd) (T : Txt K mg CE fBI CF fFI CR) (L : LongC K mg CE CL fLI)
    (gS : mg "check_size" = some (.ref fS)) (kS : PySem.W.keepIn K (.ref fS) = true) (GS : FnOk P w K mg base (L2.CX P w) 4 fS fdS ["text"] (spCS K CL)) (bS : Binds K fdS ["text"] [])
    (gM : mg "read_make" = some (.ref fM)) (kM : PySem.W.keepIn K (.ref fM) = true) (GM : FnOk P w K mg base (L2.CX P w) 5 fM fdM ["make"] (spRM K CF CO)) (bM : Binds K fdM ["make"] [])
    (gD : mg "read_lines" = some (.ref fD)) (kD : PySem.W.keepIn K (.ref fD) = true) (GD : FnOk P w K mg base (L2.CX P w) 9 fD fdD ["text"] (spRD K CF)) (bD : Binds K fdD ["text"] [])
    (RA : RefC K CE CA) (gC : mg "check_run" = some (.ref fC)) (kC : PySem.W.keepIn K (.ref fC) = true) (GC : FnOk P w K mg base (L2.CX P w) 4 fC fdC ["most", "marks"] (spCR K CA)) (bC : Binds K fdC ["most", "marks"] [])
    (gX : mg "find_span" = some (.ref fX)) (kX : PySem.W.keepIn K (.ref fX) = true) (GX : FnOk P w K mg base CX0 1 fX fdX ["rods"] (spFS CO)) (bX : Binds K fdX ["rods"] [])
    (OV : OwnC K mg CE CV fVI "LargeValue") (GV : FnOk P w K mg base CX0 2 fVI fdV ["self"] (spOw CV (-4))) (bV : Binds K fdV ["self"] [])
    (UN : TxN K mg CN) (MN : Mk K CN fNI) (GN : FnOk P w K mg base CX0 1 fNI fdN ["self", "rods", "value"] (spNI CN)) (bN : Binds K fdN ["self", "rods", "value"] [])
    (U : TxU K mg w CRn aO) (gU : mg "Run" = some (.ref CRn)) (MU : Mk K CRn fUR) (GU : FnOk P w K mg base CX0 2 fUR fdU ["self", "lines", "marks", "frame"] (spUR K CRn)) (bU : Binds K fdU ["self", "lines", "marks", "frame"] [])
    (RY : RefC K CE CY) (RU : RefC K CE CU) (mG : Meth K CRn "go_through" fG) (GG : FnOk P w K mg base (L2.CX P w) 11 fG fdG ["self", "most"] (spGN K CN CO CRn CY CU)) (bG : Binds K fdG ["self", "most"] []) :
    FnOk P w K mg base CX0 12 f fd ["v", "most", "make", "marks", "text"] (spRun K) := by
  refine F.ok scRun (fun vs H Q E h => ?_) (fun cdv A outer s H vs Q E hr h => ?_)
  · obtain ⟨mk, ma, tx, v, most, l, ms, t, rfl, _⟩ := h
    rfl
  · obtain ⟨mk, ma, tx, v, most, l, ms, t, rfl, hmk, hml, hma, hms, htx, htl, q⟩ := h
    have hr4 : Room 4 _ := hr.mono (by decide)
    have hr5 : Room 5 _ := hr.mono (by decide)
    have hr9 : Room 9 _ := hr.mono (by decide)
    have hr3 : Room 3 _ := hr.mono (by decide)
    have hr2 : Room 2 _ := hr.mono (by decide)
    have hr1 : Room 1 _ := hr.mono (by decide)
    refine ⟨_, pss_one (ps_try_as (i := 9) (tb := fun W =>
        tSeq (tDrop (tCallS (spCS K CL) (WE W) (tCons (tVar 4) tNil)))
        (tSeq (tAsg (tCallS (spRM K CF CO) (WE W) (tCons (tVar 2) tNil)) (gName 5))
        (tSeq (tAsg (tCallS (spRD K CF) (WE W) (tCons (tVar 4) tNil)) (gName 6))
        (tSeq (tDrop (tCallS (spCR K CA) (WE W) (tCons (tVar 1) (tCons (tVar 3) tNil))))
        (tSeq (tIfS (tTest (tOp (rI0 fun i j => .bl (decide (j ≤ i))) (tVar 0) (tCall (spFS CO) [] E0 (tCons (tVar 5) tNil)))) (fun _ σ H => tMkO0 CV (spOw CV (-4)) σ H fun cls d H' => W cls d σ H') tNext)
        (tSeq (tAsg (tMake CN (spNI CN) [] E0 (tCons (tVar 5) (tCons (tVar 0) tNil))) (gName 7))
        (tSeq (tAsg (tMethT CRn "go_through" (spGN K CN CO CRn CY CU) (WE W) (tMake CRn (spUR K CRn) [] E0 (tCons (tVar 6) (tCons (tVar 3) (tCons (tVar 7) tNil)))) (tCons (tVar 1) tNil)) (gName 8))
        (tRet (tLst (tCons (tC (.int 0)) (tCons (tVar 8) (tCons (tFld K (tVar 7) "value") tNil))))))))))))
      (ts := tsR K 9) (Wout := fun _ _ _ _ => False) rfl rfl scRun.nd rfl rfl ⟨rfl, by decide, Or.inl T.gE⟩ takes0
        (fun W pn xe tk _ => pss_cons (ps_expr (by exact (pe_callS GS hr4 rfl gS kS bS (fun σ => passAt tk σ) (by exact (pa_cons (pv 4) pa_nil)))))
          (pss_cons (ps_set (i := 5) scRun.nd rfl (Or.inl rfl) (by exact (pe_callS GM hr5 rfl gM kM bM (fun σ => passAt tk σ) (by exact (pa_cons (pv 2) pa_nil)))))
          (pss_cons (ps_set (i := 6) scRun.nd rfl (Or.inl rfl) (by exact (pe_callS GD hr9 rfl gD kD bD (fun σ => passAt tk σ) (by exact (pa_cons (pv 4) pa_nil)))))
          (pss_cons (ps_expr (by exact (pe_callS GC hr4 rfl gC kC bC (fun σ => passAt tk σ) (by exact (pa_cons (pv 1) (pa_cons (pv 3) pa_nil))))))
          (pss_cons (ps_if (pt_cmpR op_ge (pv 0) (by exact (pe_call GX hr1 rfl gX kX bX .nil pass0 (by exact (pa_cons (pv 5) pa_nil)))) (nomark _)) (pss_one (ps_raise rfl tk (by exact (pmk_oex0 OV.rf.ox OV.iF OV.tF GV hr3 bV pass0 rfl OV.gF)))) pss_nil)
          (pss_cons (ps_set (i := 7) scRun.nd rfl (Or.inl rfl) (by exact (pe_make MN GN hr2 rfl UN.gN bN .nil pass0 (by exact (pa_cons (pv 5) (pa_cons (pv 0) pa_nil))))))
          (pss_cons (ps_set (i := 8) scRun.nd rfl (Or.inl rfl) (by exact (pe_methT (by exact (pe_make MU GU hr3 rfl gU bU .nil pass0 (by exact (pa_cons (pv 6) (pa_cons (pv 3) (pa_cons (pv 7) pa_nil)))))) U.cl mG GG hr bG (fun σ => passAt tk σ) (by exact (pa_cons (pv 1) pa_nil)))))
          (pss_one (ps_ret (pe_lst (pa_cons pe_int (pa_cons (pv 8) (pa_cons (pe_fld (pv 7) rfl) pa_nil)))))))))))))
        (fun a oe cls d pn hz hf => pss_one (ps_ret (by exact (pe_xfE hz hf (pv 9)))))), ?_⟩
    have lb : (bs t).length = t.length := by simp
    have small : ∀ {n}, n ≤ 5000 → n ≤ sizeLine := fun h => Nat.le_of_lt (small5 (by omega))
    generalize hans : runAns v most l ms t = ans at q
    unfold runAns at hans
    refine ⟨_, rfl, tx, bs t, rfl, htx, fun hl d n H' ed en => ?_, fun hl => ?_⟩
    · rw [lb] at hl
      rw [if_pos hl] at hans
      exact caught L.rf ed (by decide : 9 < 10) (q H' n (by rw [← hans]; exact en))
    rw [lb] at hl
    rw [if_neg (by omega)] at hans
    refine ⟨_, rfl, mk, l, rfl, hmk, small (by omega), fun hb d n H' ed en => ?_, fun hb i hi hw hn d n H' ed en => ?_, fun hb hf H1 Ro rs sm1 nRo eRo hrl hrods => ?_⟩
    · rw [make_len hb] at hans
      exact caught T.rf ed (by decide : 9 < 10) (q H' n (by rw [← hans]; exact en))
    · rw [make_wrong hb hi hw hn] at hans
      exact caught T.rf ed (by decide : 9 < 10) (q H' n (by rw [← hans]; exact en))
    have ML := makeL_of hb hf
    rw [make_fine hb hf] at hans
    dsimp only at hans
    refine ⟨_, rfl, tx, t, rfl, sm1.seq htx, htl, fun k hk d n H' ed en => ?_, fun p hp H2 D sm2 ⟨nD, us, eD, al⟩ => ?_⟩
    · rw [hk] at hans
      exact caught T.rf ed (by decide : 9 < 10) (q H' n (by rw [← hans]; exact en))
    rw [hp] at hans
    dsimp only at hans
    refine ⟨_, rfl, _, rfl, ma, most, ms, rfl, (sm1.trans sm2).seq hma, by omega, fun _ hbad d n H' ed en => ?_, fun h8 h63 hmo H3 sm3 => ?_⟩
    · have hf : Mv.marksOk ms most = false := by
        cases e : Mv.marksOk ms most with
        | false => rfl
        | true =>
          obtain ⟨z1, z2, z3⟩ := marks_ok.mp e
          rcases hbad with h | ⟨x, hx, h⟩ | h
          · exact absurd z1 h
          · exact absurd (z2 x hx) (by omega)
          · omega
      rw [if_pos hf] at hans
      exact caught RA ed (by decide : 9 < 10) (q H' n (by rw [← hans]; exact en))
    rw [if_neg (by rw [marks_ok.mpr ⟨h8, h63, hmo⟩]; decide)] at hans
    have sp : Na.span (List.map Na.rodOf (Na.groups 7 l)) = plc l (l.length / 7) := mk_all ML
    have sm23 : Same H1 H3 := sm2.trans sm3
    refine ⟨_, rfl, _, rfl, _, Ro, rs, l, rfl, ML, sm23 _ _ eRo, hrl, hrods.keep (KeepP.same sm23), _, _, rfl, rfl, _, rfl, ?_⟩
    by_cases hv : plc l (l.length / 7) ≤ v
    · refine if_true_of (decide_eq_true (by omega)) ?_
      refine fun a0 na => ⟨a0, rfl, made (E := fun cls d H' => wAs K (.ref CE) 9 (tsR K 9) (fun _ _ _ _ => False) { nx := fun _ H' => Q .non H', rt := Q } cls d _ H') (fun d n H' ed en => ?_)⟩
      rw [if_pos (by rw [sp]; exact hv)] at hans
      exact caught OV.rf ed (by decide : 9 < 10) (q H' n (by rw [← hans]; exact en))
    refine if_false_of (decide_eq_false (by omega)) ?_
    rw [if_neg (by rw [sp]; exact hv)] at hans
    refine ⟨_, rfl, _, rfl, fun fr dx nfr ndx nex => ?_⟩
    have smA : Same H3 (upd (upd H3 dx (.own fr)) fr (.ins CN dx [])) := fun b o e => by
      rw [upd_ne (ne_of_none e nfr), upd_ne (ne_of_none e ndx)]
      exact e
    refine ⟨fr, dx, Ro, v, rfl, upd_same, fun H4 on4 e4 => ⟨rfl, ?_⟩⟩
    have sm34 : Same H3 H4 := fun b o e => on4 b o (ne_of_none e nfr) (ne_of_none e nfr) (smA b o e)
    refine ⟨_, rfl, _, rfl, _, rfl, fun ru dxr nru ndxr nexr => ?_⟩
    have smB : Same H4 (upd (upd H4 dxr (.own ru)) ru (.ins CRn dxr [])) := fun b o e => by
      rw [upd_ne (ne_of_none e nru), upd_ne (ne_of_none e ndxr)]
      exact e
    have smC : Same H3 (upd (upd H4 dxr (.own ru)) ru (.ins CRn dxr [])) := sm34.trans smB
    obtain ⟨hgood, hnest⟩ := AbG.read_good hp
    have len5 : p.length ≤ 5000 := Nat.le_trans (read_len hp) htl
    have al3 : All2 (LineN (fun b => H3 b ≠ none) H3) us p := al.imp fun _ _ g => (g.toN (N := fun b => H3 b ≠ none) (fun b _ h2 => by
      cases e : H2 b with
      | none => exact absurd e h2
      | some u => exact at_some (sm3 _ _ e))).keep (KeepP.same sm3)
    have nH3 : H3 ru = none := by
      cases e : H3 ru with
      | none => rfl
      | some u => rw [sm34 _ _ e] at nru; cases nru
    refine ⟨ru, dxr, D, ma, fr, us, fun b => H3 b ≠ none, p, ms, rfl, upd_same, smC _ _ (sm3 _ _ eD), al3.imp fun _ _ g => g.keep (KeepP.same smC), at_some (sm3 _ _ eD), fun z => z nH3, len5, hnest, (smC.seq ((sm1.trans sm23).seq hma)), h8, fun H5 G Lt on5 nG nL nLG eru eG hL => ⟨rfl, ?_⟩⟩
    have sm45 : Same H4 H5 := fun b o e => on5 b o (ne_of_none e nru) (ne_of_none e nru) (smB b o e)
    have sm35 : Same H3 H5 := sm34.trans sm45
    have noneC : ∀ {b}, (upd (upd H4 dxr (.own ru)) ru (.ins CRn dxr [])) b = none → H4 b = none ∧ b ≠ ru := fun {b} n => by
      refine ⟨?_, fun z => by rw [z, upd_same] at n; cases n⟩
      cases e : H4 b with
      | none => rfl
      | some u => rw [smB _ _ e] at n; cases n
    have G4 := noneC nG
    have L4 := noneC nL
    have ne34 : ∀ {b}, H4 b = none → ¬ H3 b ≠ none := fun {b} n z => by
      cases e : H3 b with
      | none => exact z e
      | some u => rw [sm34 _ _ e] at n; cases n
    have nfr4 : ∀ {b}, H4 b = none → b ≠ fr := fun {b} n z => by rw [z, e4] at n; cases n
    refine ⟨ru, dxr, _, rfl, eru, rfl, _, rfl, fr, l, ML, ?_⟩
    refine ⟨ru, dxr, D, G, Lt, us, p, fun b => H3 b ≠ none ∨ b = ru ∨ b = G, ms, v, most, rfl, hgood, h63, ?_, ?_, hL, ?_, fun k ln he d n H' ed en => ?_, fun he d n H' ed en => ?_, fun w' n he H' hF => ?_⟩
    · exact ⟨eru, sm35 _ _ (sm3 _ _ eD), al3.imp fun _ _ g => (g.keep (KeepP.same sm35)).mono fun b hb => .inl hb, eG, .inr (.inl rfl), .inl (at_some (sm3 _ _ eD)), .inr (.inr rfl)⟩
    · refine ⟨fun b hb => ?_, nfr4 L4.1⟩
      rcases hb with hb | hb | hb
      · refine ⟨fun z => ne34 (z ▸ L4.1) hb, fun z => ?_⟩
        have z' : b = fr := z
        rw [z'] at hb
        exact hb nfr
      · exact ⟨fun z => L4.2 (z.symm.trans hb), fun z => by
          have z' : b = fr := z
          exact nfr4 nru (hb.symm.trans z')⟩
      · exact ⟨fun z => nLG (z.symm.trans hb), fun z => by
          have z' : b = fr := z
          exact nfr4 G4.1 (hb.symm.trans z')⟩
    · refine ⟨⟨dx, Ro, rs, sm45 _ _ e4, sm35 _ _ (sm23 _ _ eRo), hrl, ?_⟩, by omega⟩
      exact (hrods.there (N' := fun b => b ≠ fr) fun b _ hb z => by
        rw [z] at hb
        cases e : H1 fr with
        | none => exact hb e
        | some u => rw [sm23 _ _ e] at nfr; cases nfr).keep (KeepP.same (sm23.trans sm35))
    · have he' : Na.run (Na.numbers (mkL l)) ms p most v = .fault k ln := he
      rw [he'] at hans
      exact caught RY ed (by decide : 9 < 10) (q H' n (by rw [← hans]; exact en))
    · have he' : Na.run (Na.numbers (mkL l)) ms p most v = .long := he
      rw [he'] at hans
      exact caught RU ed (by decide : 9 < 10) (q H' n (by rw [← hans]; exact en))
    · have he' : Na.run (Na.numbers (mkL l)) ms p most v = .ended w' n := he
      rw [he'] at hans
      obtain ⟨⟨dx', Ro', rs', e', _⟩, _⟩ := hF
      refine ⟨_, rfl, _, rfl, fr, CN, dx', _, _, rfl, e', UN.cl, UN.nVa, rfl, small (by show 3 ≤ 5000; decide), fun pp np => q _ pp ?_⟩
      rw [upd_same, ← hans]
      rfl
end
theorem bytes_of3 {ns : List Int} (h : ∀ x ∈ ns, 0 ≤ x ∧ x ≤ 255) : ns.map V.int = bs (ns.map fun n => UInt8.ofNat n.toNat) := by
  have e := ints_of h
  conv => lhs; rw [← e]
  show List.map V.int (List.map _ _) = _
  rw [List.map_map]
  rfl
theorem nats_of {ns : List Int} (h : ∀ x ∈ ns, 0 ≤ x) : ns.map V.int = natV (ns.map Int.toNat) := by
  rw [natV_int, ints_nat h]
theorem run_S {K : PySem.W.Frag} {H : Hp} {v most : Int} {mk ms tx : List Int} {A B C : Addr} {Q : VK} {E : XK} (hv : 0 ≤ v) (hm : 0 ≤ most) (h1 : ∀ x ∈ mk, 0 ≤ x) (h2 : ∀ x ∈ ms, 0 ≤ x) (h3 : ∀ x ∈ tx, 0 ≤ x ∧ x ≤ 255) (l1 : mk.length ≤ 500) (l2 : ms.length ≤ 20) (l3 : tx.length ≤ 5000)
    (s1 : SqL K H A (mk.map V.int)) (s2 : SqL K H B (ms.map V.int)) (s3 : SqL K H C (tx.map V.int)) (q : ∀ (H' : Hp) (p : Addr), H' p = some (.lst ((PyYqacda.run v most mk ms tx).map V.int)) → Q (.ref p) H') : spRun K [.int v, .int most, .ref A, .ref B, .ref C] H Q E := by
  have e := run_eq (v := v.toNat) (most := most.toNat) (l := mk.map Int.toNat) (ms := ms.map Int.toNat) h3
  rw [ints_nat h1, ints_nat h2, Int.toNat_of_nonneg hv, Int.toNat_of_nonneg hm] at e
  rw [e] at q
  rw [nats_of h1] at s1
  rw [nats_of h2] at s2
  rw [bytes_of3 h3] at s3
  exact ⟨A, B, C, v.toNat, most.toNat, mk.map Int.toNat, ms.map Int.toNat, _, by rw [Int.toNat_of_nonneg hv, Int.toNat_of_nonneg hm], s1, by rw [List.length_map]; exact l1, s2, by rw [List.length_map]; exact l2, s3, by rw [List.length_map]; exact l3, q⟩
end Ab

set_option Elab.async false
set_option linter.all false
set_option maxRecDepth 100000
set_option maxHeartbeats 4000000
namespace Ab
open PySem PySem.Spec PyProof.Rows L2 AbM
theorem exm_two {K : PySem.W.Frag} {C S : Addr} (h1 : PySem.W.subIn K (.ref S) (.type "BaseException") = some true) (h2 : PySem.W.isClsIn K S = true) (h3 : PySem.W.typeIn K (.ref S) = some (.type "type")) (h4 : PySem.W.subIn K (.ref C) (.ref S) = some true) :
    PySem.W.exmOne K (.ref C) (.ref S) = some true := by
  have e1 : (PySem.W.subIn K (.ref S) (.type "BaseException") == some true) = true := by rw [h1] <;> rfl
  have e2 : ((PySem.W.clsIn K S).isSome && PySem.W.typeIn K (.ref S) == some (.type "type")) = true := by
    have h2' : (PySem.W.clsIn K S).isSome = true := h2
    rw [h2', h3] <;> rfl
  show (if (PySem.W.subIn K (.ref S) (.type "BaseException") == some true) = true then (if ((PySem.W.clsIn K S).isSome && PySem.W.typeIn K (.ref S) == some (.type "type")) = true then PySem.W.subIn K (.ref C) (.ref S) else none) else none) = some true
  rw [if_pos e1, if_pos e2]
  exact h4
theorem all_mk {P : Program} {w : World} {K : PySem.W.Frag} {h : Heap} {mg : Str → Option Value} {fa : Addr}
    {fBI : Addr} {odBI anBI : Option Addr} {slBI : Array (Option Value)} {ocBI kVBI dcBI pmBI cdBI ctBI : Value}
    {fLI : Addr} {odLI anLI : Option Addr} {slLI : Array (Option Value)} {ocLI kVLI dcLI pmLI cdLI ctLI : Value}
    {fFI : Addr} {odFI anFI : Option Addr} {slFI : Array (Option Value)} {ocFI kVFI dcFI pmFI cdFI ctFI : Value}
    {fAI : Addr} {odAI anAI : Option Addr} {slAI : Array (Option Value)} {ocAI kVAI dcAI pmAI cdAI ctAI : Value}
    {fYI : Addr} {odYI anYI : Option Addr} {slYI : Array (Option Value)} {ocYI kVYI dcYI pmYI cdYI ctYI : Value}
    {fUI : Addr} {odUI anUI : Option Addr} {slUI : Array (Option Value)} {ocUI kVUI dcUI pmUI cdUI ctUI : Value}
    {fKI : Addr} {odKI anKI : Option Addr} {slKI : Array (Option Value)} {ocKI kVKI dcKI pmKI cdKI ctKI : Value}
    {fRI : Addr} {odRI anRI : Option Addr} {slRI : Array (Option Value)} {ocRI kVRI dcRI pmRI cdRI ctRI : Value}
    {fEn : Addr} {odEn anEn : Option Addr} {slEn : Array (Option Value)} {ocEn kVEn dcEn pmEn cdEn ctEn : Value}
    {fSh : Addr} {odSh anSh : Option Addr} {slSh : Array (Option Value)} {ocSh kVSh dcSh pmSh cdSh ctSh : Value}
    {fRS : Addr} {odRS anRS : Option Addr} {slRS : Array (Option Value)} {ocRS kVRS dcRS pmRS cdRS ctRS : Value}
    {fRW : Addr} {odRW anRW : Option Addr} {slRW : Array (Option Value)} {ocRW kVRW dcRW pmRW cdRW ctRW : Value}
    {fSB : Addr} {odSB anSB : Option Addr} {slSB : Array (Option Value)} {ocSB kVSB dcSB pmSB cdSB ctSB : Value}
    {fPO : Addr} {odPO anPO : Option Addr} {slPO : Array (Option Value)} {ocPO kVPO dcPO pmPO cdPO ctPO : Value}
    {fTS : Addr} {odTS anTS : Option Addr} {slTS : Array (Option Value)} {ocTS kVTS dcTS pmTS cdTS ctTS : Value}
    {fRD : Addr} {odRD anRD : Option Addr} {slRD : Array (Option Value)} {ocRD kVRD dcRD pmRD cdRD ctRD : Value}
    {fLW : Addr} {odLW anLW : Option Addr} {slLW : Array (Option Value)} {ocLW kVLW dcLW pmLW cdLW ctLW : Value}
    {fRL : Addr} {odRL anRL : Option Addr} {slRL : Array (Option Value)} {ocRL kVRL dcRL pmRL cdRL ctRL : Value}
    {fRT : Addr} {odRT anRT : Option Addr} {slRT : Array (Option Value)} {ocRT kVRT dcRT pmRT cdRT ctRT : Value}
    {fRE : Addr} {odRE anRE : Option Addr} {slRE : Array (Option Value)} {ocRE kVRE dcRE pmRE cdRE ctRE : Value}
    {fRO : Addr} {odRO anRO : Option Addr} {slRO : Array (Option Value)} {ocRO kVRO dcRO pmRO cdRO ctRO : Value}
    {fRC : Addr} {odRC anRC : Option Addr} {slRC : Array (Option Value)} {ocRC kVRC dcRC pmRC cdRC ctRC : Value}
    {fRN : Addr} {odRN anRN : Option Addr} {slRN : Array (Option Value)} {ocRN kVRN dcRN pmRN cdRN ctRN : Value}
    {fCS : Addr} {odCS anCS : Option Addr} {slCS : Array (Option Value)} {ocCS kVCS dcCS pmCS cdCS ctCS : Value}
    {fCA : Addr} {odCA anCA : Option Addr} {slCA : Array (Option Value)} {ocCA kVCA dcCA pmCA cdCA ctCA : Value}
    {fIS : Addr} {odIS anIS : Option Addr} {slIS : Array (Option Value)} {ocIS kVIS dcIS pmIS cdIS ctIS : Value}
    {fCT : Addr} {odCT anCT : Option Addr} {slCT : Array (Option Value)} {ocCT kVCT dcCT pmCT cdCT ctCT : Value}
    {fWO : Addr} {odWO anWO : Option Addr} {slWO : Array (Option Value)} {ocWO kVWO dcWO pmWO cdWO ctWO : Value}
    {fAS : Addr} {odAS anAS : Option Addr} {slAS : Array (Option Value)} {ocAS kVAS dcAS pmAS cdAS ctAS : Value}
    {fFG : Addr} {odFG anFG : Option Addr} {slFG : Array (Option Value)} {ocFG kVFG dcFG pmFG cdFG ctFG : Value}
    {fFL : Addr} {odFL anFL : Option Addr} {slFL : Array (Option Value)} {ocFL kVFL dcFL pmFL cdFL ctFL : Value}
    {fIB : Addr} {odIB anIB : Option Addr} {slIB : Array (Option Value)} {ocIB kVIB dcIB pmIB cdIB ctIB : Value}
    {fFF : Addr} {odFF anFF : Option Addr} {slFF : Array (Option Value)} {ocFF kVFF dcFF pmFF cdFF ctFF : Value}
    {fCO : Addr} {odCO anCO : Option Addr} {slCO : Array (Option Value)} {ocCO kVCO dcCO pmCO cdCO ctCO : Value}
    {fOI : Addr} {odOI anOI : Option Addr} {slOI : Array (Option Value)} {ocOI kVOI dcOI pmOI cdOI ctOI : Value}
    {fRM : Addr} {odRM anRM : Option Addr} {slRM : Array (Option Value)} {ocRM kVRM dcRM pmRM cdRM ctRM : Value}
    {fFS : Addr} {odFS anFS : Option Addr} {slFS : Array (Option Value)} {ocFS kVFS dcFS pmFS cdFS ctFS : Value}
    {fUR : Addr} {odUR anUR : Option Addr} {slUR : Array (Option Value)} {ocUR kVUR dcUR pmUR cdUR ctUR : Value}
    {fGT : Addr} {odGT anGT : Option Addr} {slGT : Array (Option Value)} {ocGT kVGT dcGT pmGT cdGT ctGT : Value}
    {fDL : Addr} {odDL anDL : Option Addr} {slDL : Array (Option Value)} {ocDL kVDL dcDL pmDL cdDL ctDL : Value}
    {fCF : Addr} {odCF anCF : Option Addr} {slCF : Array (Option Value)} {ocCF kVCF dcCF pmCF cdCF ctCF : Value}
    {fSE : Addr} {odSE anSE : Option Addr} {slSE : Array (Option Value)} {ocSE kVSE dcSE pmSE cdSE ctSE : Value}
    {fCR : Addr} {odCR anCR : Option Addr} {slCR : Array (Option Value)} {ocCR kVCR dcCR pmCR cdCR ctCR : Value}
    {fVI : Addr} {odVI anVI : Option Addr} {slVI : Array (Option Value)} {ocVI kVVI dcVI pmVI cdVI ctVI : Value}
    {fNF : Addr} {odNF anNF : Option Addr} {slNF : Array (Option Value)} {ocNF kVNF dcNF pmNF cdNF ctNF : Value}
    {fNL : Addr} {odNL anNL : Option Addr} {slNL : Array (Option Value)} {ocNL kVNL dcNL pmNL cdNL ctNL : Value}
    {fNC : Addr} {odNC anNC : Option Addr} {slNC : Array (Option Value)} {ocNC kVNC dcNC pmNC cdNC ctNC : Value}
    {fRun : Addr} {odRun anRun : Option Addr} {slRun : Array (Option Value)} {ocRun kVRun dcRun pmRun cdRun ctRun : Value}
    {uMR uMB uMK uMD uDG uHD uMA uBY uOB uNR uNO uFA uWK uMC uRN uRW uRG uRS uRO uLR uMT uBE uMW uMX uHE uCC uMM uMS uTK : PySem.Tok}
    {aB : Addr} {esB : Array DictEntry} {nB : Nat} {uB1 uB2 : PySem.Tok} {aO : Addr} {esO : Array DictEntry} {nO : Nat} {uO1 uO2 : PySem.Tok}
    {E R cO cR cN : Addr}
    {L : Addr} {nmL qL : Str} {NL : Addr} {bsL : List Value} {snL : List Str} {subL : List Value} {abL : Bool} {colL : Option Bool} {ddL : Option Addr} {m0L m1L m2L m3L m5L : Option Value}
    {C : Addr} {nmC qC : Str} {NC : Addr} {bsC : List Value} {snC : List Str} {subC : List Value} {abC : Bool} {colC : Option Bool} {ddC : Option Addr} {m0C m1C m2C m3C m5C : Option Value}
    {cA : Addr} {nmcA qcA : Str} {NcA : Addr} {bscA : List Value} {sncA : List Str} {subcA : List Value} {abcA : Bool} {colcA : Option Bool} {ddcA : Option Addr} {m0cA m1cA m2cA m3cA m5cA : Option Value}
    {cY : Addr} {nmcY qcY : Str} {NcY : Addr} {bscY : List Value} {sncY : List Str} {subcY : List Value} {abcY : Bool} {colcY : Option Bool} {ddcY : Option Addr} {m0cY m1cY m2cY m3cY m5cY : Option Value}
    {cU : Addr} {nmcU qcU : Str} {NcU : Addr} {bscU : List Value} {sncU : List Str} {subcU : List Value} {abcU : Bool} {colcU : Option Bool} {ddcU : Option Addr} {m0cU m1cU m2cU m3cU m5cU : Option Value}
    {cK : Addr} {nmcK qcK : Str} {NcK : Addr} {bscK : List Value} {sncK : List Str} {subcK : List Value} {abcK : Bool} {colcK : Option Bool} {ddcK : Option Addr} {m0cK m1cK m2cK m3cK m5cK : Option Value}
    {cV : Addr} {nmcV qcV : Str} {NcV : Addr} {bscV : List Value} {sncV : List Str} {subcV : List Value} {abcV : Bool} {colcV : Option Bool} {ddcV : Option Addr} {m0cV m1cV m2cV m3cV m5cV : Option Value}
    (X : K.In h) (G : h.Ns mainGlobals mg) (hfa : mg "run" = some (.ref fa))
    (aBI : PySem.W.findIn K (.ref E) "__init__" = some (some (.ref fBI))) (iBI : PySem.W.typeIn K (.ref fBI) = some (.type "function"))
    (lBI : K.lookup fBI = some ⟨ocBI, odBI, .func (PySem.W.fnOf "__init__" "Refusal.__init__" (defArgs sBI) (defBody sBI) (defScope sBI) .none kVBI dcBI pmBI anBI cdBI ctBI), slBI⟩) (cBI : PySem.W.codeIn K cdBI "Refusal.__init__" = true) (kBI : PySem.W.keepIn K (.ref fBI) = true)
    (aLI : PySem.W.findIn K (.ref L) "__init__" = some (some (.ref fLI))) (iLI : PySem.W.typeIn K (.ref fLI) = some (.type "function"))
    (lLI : K.lookup fLI = some ⟨ocLI, odLI, .func (PySem.W.fnOf "__init__" "LongText.__init__" (defArgs sLI) (defBody sLI) (defScope sLI) .none kVLI dcLI pmLI anLI cdLI ctLI), slLI⟩) (cLI : PySem.W.codeIn K cdLI "LongText.__init__" = true) (kLI : PySem.W.keepIn K (.ref fLI) = true)
    (aFI : PySem.W.findIn K (.ref C) "__init__" = some (some (.ref fFI))) (iFI : PySem.W.typeIn K (.ref fFI) = some (.type "function"))
    (lFI : K.lookup fFI = some ⟨ocFI, odFI, .func (PySem.W.fnOf "__init__" "Fault.__init__" (defArgs sFI) (defBody sFI) (defScope sFI) .none kVFI dcFI pmFI anFI cdFI ctFI), slFI⟩) (cFI : PySem.W.codeIn K cdFI "Fault.__init__" = true) (kFI : PySem.W.keepIn K (.ref fFI) = true)
    (aAI : PySem.W.findIn K (.ref cA) "__init__" = some (some (.ref fAI))) (iAI : PySem.W.typeIn K (.ref fAI) = some (.type "function"))
    (lAI : K.lookup fAI = some ⟨ocAI, odAI, .func (PySem.W.fnOf "__init__" "NotAllowed.__init__" (defArgs sAI) (defBody sAI) (defScope sAI) .none kVAI dcAI pmAI anAI cdAI ctAI), slAI⟩) (cAI : PySem.W.codeIn K cdAI "NotAllowed.__init__" = true) (kAI : PySem.W.keepIn K (.ref fAI) = true)
    (aYI : PySem.W.findIn K (.ref cY) "__init__" = some (some (.ref fYI))) (iYI : PySem.W.typeIn K (.ref fYI) = some (.type "function"))
    (lYI : K.lookup fYI = some ⟨ocYI, odYI, .func (PySem.W.fnOf "__init__" "FaultyLine.__init__" (defArgs sYI) (defBody sYI) (defScope sYI) .none kVYI dcYI pmYI anYI cdYI ctYI), slYI⟩) (cYI : PySem.W.codeIn K cdYI "FaultyLine.__init__" = true) (kYI : PySem.W.keepIn K (.ref fYI) = true)
    (aUI : PySem.W.findIn K (.ref cU) "__init__" = some (some (.ref fUI))) (iUI : PySem.W.typeIn K (.ref fUI) = some (.type "function"))
    (lUI : K.lookup fUI = some ⟨ocUI, odUI, .func (PySem.W.fnOf "__init__" "LongRun.__init__" (defArgs sUI) (defBody sUI) (defScope sUI) .none kVUI dcUI pmUI anUI cdUI ctUI), slUI⟩) (cUI : PySem.W.codeIn K cdUI "LongRun.__init__" = true) (kUI : PySem.W.keepIn K (.ref fUI) = true)
    (aKI : PySem.W.findIn K (.ref cK) "__init__" = some (some (.ref fKI))) (iKI : PySem.W.typeIn K (.ref fKI) = some (.type "function"))
    (lKI : K.lookup fKI = some ⟨ocKI, odKI, .func (PySem.W.fnOf "__init__" "RunFault.__init__" (defArgs sKI) (defBody sKI) (defScope sKI) .none kVKI dcKI pmKI anKI cdKI ctKI), slKI⟩) (cKI : PySem.W.codeIn K cdKI "RunFault.__init__" = true) (kKI : PySem.W.keepIn K (.ref fKI) = true)
    (aRI : PySem.W.findIn K (.ref R) "__init__" = some (some (.ref fRI))) (iRI : PySem.W.isFn K (.ref fRI) = true)
    (lRI : K.lookup fRI = some ⟨ocRI, odRI, .func (PySem.W.fnOf "__init__" "Reader.__init__" (defArgs sRI) (defBody sRI) (defScope sRI) .none kVRI dcRI pmRI anRI cdRI ctRI), slRI⟩) (cRI : PySem.W.codeIn K cdRI "Reader.__init__" = true) (kRI : PySem.W.keepIn K (.ref fRI) = true)
    (aEn : PySem.W.findIn K (.ref R) "ended" = some (some (.ref fEn))) (iEn : PySem.W.isFn K (.ref fEn) = true)
    (lEn : K.lookup fEn = some ⟨ocEn, odEn, .func (PySem.W.fnOf "ended" "Reader.ended" (defArgs sEn) (defBody sEn) (defScope sEn) .none kVEn dcEn pmEn anEn cdEn ctEn), slEn⟩) (cEn : PySem.W.codeIn K cdEn "Reader.ended" = true) (kEn : PySem.W.keepIn K (.ref fEn) = true)
    (aSh : PySem.W.findIn K (.ref R) "shows" = some (some (.ref fSh))) (iSh : PySem.W.isFn K (.ref fSh) = true)
    (lSh : K.lookup fSh = some ⟨ocSh, odSh, .func (PySem.W.fnOf "shows" "Reader.shows" (defArgs sSh) (defBody sSh) (defScope sSh) .none kVSh dcSh pmSh anSh cdSh ctSh), slSh⟩) (cSh : PySem.W.codeIn K cdSh "Reader.shows" = true) (kSh : PySem.W.keepIn K (.ref fSh) = true)
    (aRS : PySem.W.findIn K (.ref R) "read_sign" = some (some (.ref fRS))) (iRS : PySem.W.isFn K (.ref fRS) = true)
    (lRS : K.lookup fRS = some ⟨ocRS, odRS, .func (PySem.W.fnOf "read_sign" "Reader.read_sign" (defArgs sRS) (defBody sRS) (defScope sRS) .none kVRS dcRS pmRS anRS cdRS ctRS), slRS⟩) (cRS : PySem.W.codeIn K cdRS "Reader.read_sign" = true) (kRS : PySem.W.keepIn K (.ref fRS) = true)
    (aRW : PySem.W.findIn K (.ref R) "read_word" = some (some (.ref fRW))) (iRW : PySem.W.isFn K (.ref fRW) = true)
    (lRW : K.lookup fRW = some ⟨ocRW, odRW, .func (PySem.W.fnOf "read_word" "Reader.read_word" (defArgs sRW) (defBody sRW) (defScope sRW) .none kVRW dcRW pmRW anRW cdRW ctRW), slRW⟩) (cRW : PySem.W.codeIn K cdRW "Reader.read_word" = true) (kRW : PySem.W.keepIn K (.ref fRW) = true)
    (aSB : PySem.W.nsIn K mainGlobals "signs_behind" = some (some (.ref fSB)))
    (lSB : K.lookup fSB = some ⟨ocSB, odSB, .func (PySem.W.fnOf "signs_behind" "signs_behind" (defArgs sSB) (defBody sSB) (defScope sSB) .none kVSB dcSB pmSB anSB cdSB ctSB), slSB⟩) (cSB : PySem.W.codeIn K cdSB "signs_behind" = true) (kSB : PySem.W.keepIn K (.ref fSB) = true)
    (aPO : PySem.W.nsIn K mainGlobals "put_in_order" = some (some (.ref fPO)))
    (lPO : K.lookup fPO = some ⟨ocPO, odPO, .func (PySem.W.fnOf "put_in_order" "put_in_order" (defArgs sPO) (defBody sPO) (defScope sPO) .none kVPO dcPO pmPO anPO cdPO ctPO), slPO⟩) (cPO : PySem.W.codeIn K cdPO "put_in_order" = true) (kPO : PySem.W.keepIn K (.ref fPO) = true)
    (aTS : PySem.W.nsIn K mainGlobals "take_signs" = some (some (.ref fTS)))
    (lTS : K.lookup fTS = some ⟨ocTS, odTS, .func (PySem.W.fnOf "take_signs" "take_signs" (defArgs sTS) (defBody sTS) (defScope sTS) .none kVTS dcTS pmTS anTS cdTS ctTS), slTS⟩) (cTS : PySem.W.codeIn K cdTS "take_signs" = true) (kTS : PySem.W.keepIn K (.ref fTS) = true)
    (aRD : PySem.W.nsIn K mainGlobals "read_lines" = some (some (.ref fRD)))
    (lRD : K.lookup fRD = some ⟨ocRD, odRD, .func (PySem.W.fnOf "read_lines" "read_lines" (defArgs sRD) (defBody sRD) (defScope sRD) .none kVRD dcRD pmRD anRD cdRD ctRD), slRD⟩) (cRD : PySem.W.codeIn K cdRD "read_lines" = true) (kRD : PySem.W.keepIn K (.ref fRD) = true)
    (aLW : PySem.W.nsIn K mainGlobals "line_words" = some (some (.ref fLW)))
    (lLW : K.lookup fLW = some ⟨ocLW, odLW, .func (PySem.W.fnOf "line_words" "line_words" (defArgs sLW) (defBody sLW) (defScope sLW) .none kVLW dcLW pmLW anLW cdLW ctLW), slLW⟩) (cLW : PySem.W.codeIn K cdLW "line_words" = true) (kLW : PySem.W.keepIn K (.ref fLW) = true)
    (aRL : PySem.W.nsIn K mainGlobals "read_line" = some (some (.ref fRL)))
    (lRL : K.lookup fRL = some ⟨ocRL, odRL, .func (PySem.W.fnOf "read_line" "read_line" (defArgs sRL) (defBody sRL) (defScope sRL) .none kVRL dcRL pmRL anRL cdRL ctRL), slRL⟩) (cRL : PySem.W.codeIn K cdRL "read_line" = true) (kRL : PySem.W.keepIn K (.ref fRL) = true)
    (aRT : PySem.W.nsIn K mainGlobals "read_tests" = some (some (.ref fRT)))
    (lRT : K.lookup fRT = some ⟨ocRT, odRT, .func (PySem.W.fnOf "read_tests" "read_tests" (defArgs sRT) (defBody sRT) (defScope sRT) .none kVRT dcRT pmRT anRT cdRT ctRT), slRT⟩) (cRT : PySem.W.codeIn K cdRT "read_tests" = true) (kRT : PySem.W.keepIn K (.ref fRT) = true)
    (aRE : PySem.W.nsIn K mainGlobals "read_expression" = some (some (.ref fRE)))
    (lRE : K.lookup fRE = some ⟨ocRE, odRE, .func (PySem.W.fnOf "read_expression" "read_expression" (defArgs sRE) (defBody sRE) (defScope sRE) .none kVRE dcRE pmRE anRE cdRE ctRE), slRE⟩) (cRE : PySem.W.codeIn K cdRE "read_expression" = true) (kRE : PySem.W.keepIn K (.ref fRE) = true)
    (aRO : PySem.W.nsIn K mainGlobals "read_opening_brackets" = some (some (.ref fRO)))
    (lRO : K.lookup fRO = some ⟨ocRO, odRO, .func (PySem.W.fnOf "read_opening_brackets" "read_opening_brackets" (defArgs sRO) (defBody sRO) (defScope sRO) .none kVRO dcRO pmRO anRO cdRO ctRO), slRO⟩) (cRO : PySem.W.codeIn K cdRO "read_opening_brackets" = true) (kRO : PySem.W.keepIn K (.ref fRO) = true)
    (aRC : PySem.W.nsIn K mainGlobals "read_closing_brackets" = some (some (.ref fRC)))
    (lRC : K.lookup fRC = some ⟨ocRC, odRC, .func (PySem.W.fnOf "read_closing_brackets" "read_closing_brackets" (defArgs sRC) (defBody sRC) (defScope sRC) .none kVRC dcRC pmRC anRC cdRC ctRC), slRC⟩) (cRC : PySem.W.codeIn K cdRC "read_closing_brackets" = true) (kRC : PySem.W.keepIn K (.ref fRC) = true)
    (aRN : PySem.W.nsIn K mainGlobals "read_number_or_letter" = some (some (.ref fRN)))
    (lRN : K.lookup fRN = some ⟨ocRN, odRN, .func (PySem.W.fnOf "read_number_or_letter" "read_number_or_letter" (defArgs sRN) (defBody sRN) (defScope sRN) .none kVRN dcRN pmRN anRN cdRN ctRN), slRN⟩) (cRN : PySem.W.codeIn K cdRN "read_number_or_letter" = true) (kRN : PySem.W.keepIn K (.ref fRN) = true)
    (aCS : PySem.W.nsIn K mainGlobals "check_size" = some (some (.ref fCS)))
    (lCS : K.lookup fCS = some ⟨ocCS, odCS, .func (PySem.W.fnOf "check_size" "check_size" (defArgs sCS) (defBody sCS) (defScope sCS) .none kVCS dcCS pmCS anCS cdCS ctCS), slCS⟩) (cCS : PySem.W.codeIn K cdCS "check_size" = true) (kCS : PySem.W.keepIn K (.ref fCS) = true)
    (aCA : PySem.W.nsIn K mainGlobals "calculate" = some (some (.ref fCA)))
    (lCA : K.lookup fCA = some ⟨ocCA, odCA, .func (PySem.W.fnOf "calculate" "calculate" (defArgs sCA) (defBody sCA) (defScope sCA) .none kVCA dcCA pmCA anCA cdCA ctCA), slCA⟩) (cCA : PySem.W.codeIn K cdCA "calculate" = true) (kCA : PySem.W.keepIn K (.ref fCA) = true)
    (aIS : PySem.W.nsIn K mainGlobals "is_so" = some (some (.ref fIS)))
    (lIS : K.lookup fIS = some ⟨ocIS, odIS, .func (PySem.W.fnOf "is_so" "is_so" (defArgs sIS) (defBody sIS) (defScope sIS) .none kVIS dcIS pmIS anIS cdIS ctIS), slIS⟩) (cIS : PySem.W.codeIn K cdIS "is_so" = true) (kIS : PySem.W.keepIn K (.ref fIS) = true)
    (aCT : PySem.W.nsIn K mainGlobals "check_there" = some (some (.ref fCT)))
    (lCT : K.lookup fCT = some ⟨ocCT, odCT, .func (PySem.W.fnOf "check_there" "check_there" (defArgs sCT) (defBody sCT) (defScope sCT) .none kVCT dcCT pmCT anCT cdCT ctCT), slCT⟩) (cCT : PySem.W.codeIn K cdCT "check_there" = true) (kCT : PySem.W.keepIn K (.ref fCT) = true)
    (aWO : PySem.W.nsIn K mainGlobals "work_out" = some (some (.ref fWO)))
    (lWO : K.lookup fWO = some ⟨ocWO, odWO, .func (PySem.W.fnOf "work_out" "work_out" (defArgs sWO) (defBody sWO) (defScope sWO) .none kVWO dcWO pmWO anWO cdWO ctWO), slWO⟩) (cWO : PySem.W.codeIn K cdWO "work_out" = true) (kWO : PySem.W.keepIn K (.ref fWO) = true)
    (aAS : PySem.W.nsIn K mainGlobals "all_so" = some (some (.ref fAS)))
    (lAS : K.lookup fAS = some ⟨ocAS, odAS, .func (PySem.W.fnOf "all_so" "all_so" (defArgs sAS) (defBody sAS) (defScope sAS) .none kVAS dcAS pmAS anAS cdAS ctAS), slAS⟩) (cAS : PySem.W.codeIn K cdAS "all_so" = true) (kAS : PySem.W.keepIn K (.ref fAS) = true)
    (aFG : PySem.W.nsIn K mainGlobals "find_goals" = some (some (.ref fFG)))
    (lFG : K.lookup fFG = some ⟨ocFG, odFG, .func (PySem.W.fnOf "find_goals" "find_goals" (defArgs sFG) (defBody sFG) (defScope sFG) .none kVFG dcFG pmFG anFG cdFG ctFG), slFG⟩) (cFG : PySem.W.codeIn K cdFG "find_goals" = true) (kFG : PySem.W.keepIn K (.ref fFG) = true)
    (aFL : PySem.W.nsIn K mainGlobals "first_letters" = some (some (.ref fFL)))
    (lFL : K.lookup fFL = some ⟨ocFL, odFL, .func (PySem.W.fnOf "first_letters" "first_letters" (defArgs sFL) (defBody sFL) (defScope sFL) .none kVFL dcFL pmFL anFL cdFL ctFL), slFL⟩) (cFL : PySem.W.codeIn K cdFL "first_letters" = true) (kFL : PySem.W.keepIn K (.ref fFL) = true)
    (aIB : PySem.W.nsIn K mainGlobals "is_better" = some (some (.ref fIB)))
    (lIB : K.lookup fIB = some ⟨ocIB, odIB, .func (PySem.W.fnOf "is_better" "is_better" (defArgs sIB) (defBody sIB) (defScope sIB) .none kVIB dcIB pmIB anIB cdIB ctIB), slIB⟩) (cIB : PySem.W.codeIn K cdIB "is_better" = true) (kIB : PySem.W.keepIn K (.ref fIB) = true)
    (aFF : PySem.W.nsIn K mainGlobals "find_forms" = some (some (.ref fFF)))
    (lFF : K.lookup fFF = some ⟨ocFF, odFF, .func (PySem.W.fnOf "find_forms" "find_forms" (defArgs sFF) (defBody sFF) (defScope sFF) .none kVFF dcFF pmFF anFF cdFF ctFF), slFF⟩) (cFF : PySem.W.codeIn K cdFF "find_forms" = true) (kFF : PySem.W.keepIn K (.ref fFF) = true)
    (aCO : PySem.W.nsIn K mainGlobals "check_rod" = some (some (.ref fCO)))
    (lCO : K.lookup fCO = some ⟨ocCO, odCO, .func (PySem.W.fnOf "check_rod" "check_rod" (defArgs sCO) (defBody sCO) (defScope sCO) .none kVCO dcCO pmCO anCO cdCO ctCO), slCO⟩) (cCO : PySem.W.codeIn K cdCO "check_rod" = true) (kCO : PySem.W.keepIn K (.ref fCO) = true)
    (aOI : PySem.W.findIn K (.ref cO) "__init__" = some (some (.ref fOI))) (iOI : PySem.W.isFn K (.ref fOI) = true)
    (lOI : K.lookup fOI = some ⟨ocOI, odOI, .func (PySem.W.fnOf "__init__" "Rod.__init__" (defArgs sOI) (defBody sOI) (defScope sOI) .none kVOI dcOI pmOI anOI cdOI ctOI), slOI⟩) (cOI : PySem.W.codeIn K cdOI "Rod.__init__" = true) (kOI : PySem.W.keepIn K (.ref fOI) = true)
    (aRM : PySem.W.nsIn K mainGlobals "read_make" = some (some (.ref fRM)))
    (lRM : K.lookup fRM = some ⟨ocRM, odRM, .func (PySem.W.fnOf "read_make" "read_make" (defArgs sRM) (defBody sRM) (defScope sRM) .none kVRM dcRM pmRM anRM cdRM ctRM), slRM⟩) (cRM : PySem.W.codeIn K cdRM "read_make" = true) (kRM : PySem.W.keepIn K (.ref fRM) = true)
    (aFS : PySem.W.nsIn K mainGlobals "find_span" = some (some (.ref fFS)))
    (lFS : K.lookup fFS = some ⟨ocFS, odFS, .func (PySem.W.fnOf "find_span" "find_span" (defArgs sFS) (defBody sFS) (defScope sFS) .none kVFS dcFS pmFS anFS cdFS ctFS), slFS⟩) (cFS : PySem.W.codeIn K cdFS "find_span" = true) (kFS : PySem.W.keepIn K (.ref fFS) = true)
    (aUR : PySem.W.findIn K (.ref cR) "__init__" = some (some (.ref fUR))) (iUR : PySem.W.isFn K (.ref fUR) = true)
    (lUR : K.lookup fUR = some ⟨ocUR, odUR, .func (PySem.W.fnOf "__init__" "Run.__init__" (defArgs sUR) (defBody sUR) (defScope sUR) .none kVUR dcUR pmUR anUR cdUR ctUR), slUR⟩) (cUR : PySem.W.codeIn K cdUR "Run.__init__" = true) (kUR : PySem.W.keepIn K (.ref fUR) = true)
    (aGT : PySem.W.findIn K (.ref cR) "go_through" = some (some (.ref fGT))) (iGT : PySem.W.isFn K (.ref fGT) = true)
    (lGT : K.lookup fGT = some ⟨ocGT, odGT, .func (PySem.W.fnOf "go_through" "Run.go_through" (defArgs sGT) (defBody sGT) (defScope sGT) .none kVGT dcGT pmGT anGT cdGT ctGT), slGT⟩) (cGT : PySem.W.codeIn K cdGT "Run.go_through" = true) (kGT : PySem.W.keepIn K (.ref fGT) = true)
    (aDL : PySem.W.findIn K (.ref cR) "do_line" = some (some (.ref fDL))) (iDL : PySem.W.isFn K (.ref fDL) = true)
    (lDL : K.lookup fDL = some ⟨ocDL, odDL, .func (PySem.W.fnOf "do_line" "Run.do_line" (defArgs sDL) (defBody sDL) (defScope sDL) .none kVDL dcDL pmDL anDL cdDL ctDL), slDL⟩) (cDL : PySem.W.codeIn K cdDL "Run.do_line" = true) (kDL : PySem.W.keepIn K (.ref fDL) = true)
    (aCF : PySem.W.findIn K (.ref cR) "change_frame" = some (some (.ref fCF))) (iCF : PySem.W.isFn K (.ref fCF) = true)
    (lCF : K.lookup fCF = some ⟨ocCF, odCF, .func (PySem.W.fnOf "change_frame" "Run.change_frame" (defArgs sCF) (defBody sCF) (defScope sCF) .none kVCF dcCF pmCF anCF cdCF ctCF), slCF⟩) (cCF : PySem.W.codeIn K cdCF "Run.change_frame" = true) (kCF : PySem.W.keepIn K (.ref fCF) = true)
    (aSE : PySem.W.findIn K (.ref cR) "set_head" = some (some (.ref fSE))) (iSE : PySem.W.isFn K (.ref fSE) = true)
    (lSE : K.lookup fSE = some ⟨ocSE, odSE, .func (PySem.W.fnOf "set_head" "Run.set_head" (defArgs sSE) (defBody sSE) (defScope sSE) .none kVSE dcSE pmSE anSE cdSE ctSE), slSE⟩) (cSE : PySem.W.codeIn K cdSE "Run.set_head" = true) (kSE : PySem.W.keepIn K (.ref fSE) = true)
    (aCR : PySem.W.nsIn K mainGlobals "check_run" = some (some (.ref fCR)))
    (lCR : K.lookup fCR = some ⟨ocCR, odCR, .func (PySem.W.fnOf "check_run" "check_run" (defArgs sCR) (defBody sCR) (defScope sCR) .none kVCR dcCR pmCR anCR cdCR ctCR), slCR⟩) (cCR : PySem.W.codeIn K cdCR "check_run" = true) (kCR : PySem.W.keepIn K (.ref fCR) = true)
    (aVI : PySem.W.findIn K (.ref cV) "__init__" = some (some (.ref fVI))) (iVI : PySem.W.typeIn K (.ref fVI) = some (.type "function"))
    (lVI : K.lookup fVI = some ⟨ocVI, odVI, .func (PySem.W.fnOf "__init__" "LargeValue.__init__" (defArgs sVI) (defBody sVI) (defScope sVI) .none kVVI dcVI pmVI anVI cdVI ctVI), slVI⟩) (cVI : PySem.W.codeIn K cdVI "LargeValue.__init__" = true) (kVI : PySem.W.keepIn K (.ref fVI) = true)
    (aNF : PySem.W.findIn K (.ref cN) "__init__" = some (some (.ref fNF))) (iNF : PySem.W.isFn K (.ref fNF) = true)
    (lNF : K.lookup fNF = some ⟨ocNF, odNF, .func (PySem.W.fnOf "__init__" "NumberFrame.__init__" (defArgs sNF) (defBody sNF) (defScope sNF) .none kVNF dcNF pmNF anNF cdNF ctNF), slNF⟩) (cNF : PySem.W.codeIn K cdNF "NumberFrame.__init__" = true) (kNF : PySem.W.keepIn K (.ref fNF) = true)
    (aNL : PySem.W.findIn K (.ref cN) "look" = some (some (.ref fNL))) (iNL : PySem.W.isFn K (.ref fNL) = true)
    (lNL : K.lookup fNL = some ⟨ocNL, odNL, .func (PySem.W.fnOf "look" "NumberFrame.look" (defArgs sNL) (defBody sNL) (defScope sNL) .none kVNL dcNL pmNL anNL cdNL ctNL), slNL⟩) (cNL : PySem.W.codeIn K cdNL "NumberFrame.look" = true) (kNL : PySem.W.keepIn K (.ref fNL) = true)
    (aNC : PySem.W.findIn K (.ref cN) "change" = some (some (.ref fNC))) (iNC : PySem.W.isFn K (.ref fNC) = true)
    (lNC : K.lookup fNC = some ⟨ocNC, odNC, .func (PySem.W.fnOf "change" "NumberFrame.change" (defArgs sNC) (defBody sNC) (defScope sNC) .none kVNC dcNC pmNC anNC cdNC ctNC), slNC⟩) (cNC : PySem.W.codeIn K cdNC "NumberFrame.change" = true) (kNC : PySem.W.keepIn K (.ref fNC) = true)
    (aRun : PySem.W.nsIn K mainGlobals "run" = some (some (.ref fRun)))
    (lRun : K.lookup fRun = some ⟨ocRun, odRun, .func (PySem.W.fnOf "run" "run" (defArgs sRun) (defBody sRun) (defScope sRun) .none kVRun dcRun pmRun anRun cdRun ctRun), slRun⟩) (cRun : PySem.W.codeIn K cdRun "run" = true) (kRun : PySem.W.keepIn K (.ref fRun) = true)
    (guMR : PySem.W.nsIn K mainGlobals "NO_METHOD" = some (some (.int 11 uMR)))
    (guMB : PySem.W.nsIn K mainGlobals "MOST_BLOCKS" = some (some (.int 16 uMB)))
    (guMK : PySem.W.nsIn K mainGlobals "MOST_BRACKETS" = some (some (.int 16 uMK)))
    (guMD : PySem.W.nsIn K mainGlobals "MOST_DIGITS" = some (some (.int 4 uMD)))
    (guDG : PySem.W.nsIn K mainGlobals "DIGITS" = some (some (.str "0123456789" uDG)))
    (guHD : PySem.W.nsIn K mainGlobals "HEADS" = some (some (.str "abcdefgh" uHD)))
    (guMA : PySem.W.nsIn K mainGlobals "MARKS" = some (some (.str "ABCDEFGH" uMA)))
    (guBY : PySem.W.nsIn K mainGlobals "MOST_BYTES" = some (some (.int 4096 uBY)))
    (guOB : PySem.W.nsIn K mainGlobals "OUT_OF_BOUNDS" = some (some (.int 3 uOB)))
    (guNR : PySem.W.nsIn K mainGlobals "NO_ROD" = some (some (.int 1 uNR)))
    (guNO : PySem.W.nsIn K mainGlobals "NO_ROOM" = some (some (.int 2 uNO)))
    (guFA : PySem.W.nsIn K mainGlobals "FAILED" = some (some (.int 4 uFA)))
    (guWK : PySem.W.nsIn K mainGlobals "MOST_WORKED_OUT" = some (some (.int 9999 uWK)))
    (guMC : PySem.W.nsIn K mainGlobals "MAKE_COUNT" = some (some (.int 1 uMC)))
    (guRN : PySem.W.nsIn K mainGlobals "ROD_NUMBERS" = some (some (.int 2 uRN)))
    (guRW : PySem.W.nsIn K mainGlobals "ROD_WORTH" = some (some (.int 3 uRW)))
    (guRG : PySem.W.nsIn K mainGlobals "ROD_GAP" = some (some (.int 4 uRG)))
    (guRS : PySem.W.nsIn K mainGlobals "ROD_SIZE" = some (some (.int 7 uRS)))
    (guRO : PySem.W.nsIn K mainGlobals "MOST_RODS" = some (some (.int 64 uRO)))
    (guLR : PySem.W.nsIn K mainGlobals "LEAST_RATIO" = some (some (.int 2 uLR)))
    (guMT : PySem.W.nsIn K mainGlobals "MOST_RATIO" = some (some (.int 20 uMT)))
    (guBE : PySem.W.nsIn K mainGlobals "MOST_BEADS" = some (some (.int 15 uBE)))
    (guMW : PySem.W.nsIn K mainGlobals "MOST_WORTH" = some (some (.int 63 uMW)))
    (guMX : PySem.W.nsIn K mainGlobals "MOST_ROD_WORTH" = some (some (.int 255 uMX)))
    (guHE : PySem.W.nsIn K mainGlobals "MOST_HEAD" = some (some (.int 99 uHE)))
    (guCC : PySem.W.nsIn K mainGlobals "MARK_COUNT" = some (some (.int 8 uCC)))
    (guMM : PySem.W.nsIn K mainGlobals "MOST_MARK" = some (some (.int 63 uMM)))
    (guMS : PySem.W.nsIn K mainGlobals "MOST_STEPS" = some (some (.int 16777216 uMS)))
    (guTK : PySem.W.nsIn K mainGlobals "TAKE" = some (some (.int 1 uTK)))
    (n_ValueError : PySem.W.nsIn K mainGlobals "ValueError" = some none)
    (n_len : PySem.W.nsIn K mainGlobals "len" = some none)
    (n_ord : PySem.W.nsIn K mainGlobals "ord" = some none)
    (n_int : PySem.W.nsIn K mainGlobals "int" = some none)
    (n_abs : PySem.W.nsIn K mainGlobals "abs" = some none)
    (n_isinstance : PySem.W.nsIn K mainGlobals "isinstance" = some none)
    (n_zip : PySem.W.nsIn K mainGlobals "zip" = some none)
    (n_range : PySem.W.nsIn K mainGlobals "range" = some none)
    (n_sum : PySem.W.nsIn K mainGlobals "sum" = some none)
    (n_enumerate : PySem.W.nsIn K mainGlobals "enumerate" = some none)
    (n_max : PySem.W.nsIn K mainGlobals "max" = some none)
    (gB : PySem.W.nsIn K mainGlobals "BRACKETS" = some (some (.ref aB))) (lB : K.lookup aB = some ⟨.type "dict", none, .dict esB nB, #[]⟩) (eB1 : PySem.W.nsIn K aB "[" = some (some (.str "]" uB1))) (eB2 : PySem.W.nsIn K aB "(" = some (some (.str ")" uB2))) (hB : PySem.W.KeysLit w.params esB.toList)
    (gO : PySem.W.nsIn K mainGlobals "OPS" = some (some (.ref aO))) (lO : K.lookup aO = some ⟨.type "dict", none, .dict esO nO, #[]⟩) (eO1 : PySem.W.nsIn K aO "add" = some (some (.int 0 uO1))) (eO2 : PySem.W.nsIn K aO "take" = some (some (.int 1 uO2))) (hO : PySem.W.KeysLit w.params esO.toList) (wO : (aO == sysModules) = false)
    (zO_set : PySem.W.nsIn K aO "set" = some none)
    (zO_stop : PySem.W.nsIn K aO "stop" = some none)
    (zO_fail : PySem.W.nsIn K aO "fail" = some none)
    (zO_else : PySem.W.nsIn K aO "else" = some none)
    (zO_end : PySem.W.nsIn K aO "end" = some none)
    (zO_if : PySem.W.nsIn K aO "if" = some none)
    (zO_while : PySem.W.nsIn K aO "while" = some none)
    (aE : PySem.W.nsIn K mainGlobals "Refusal" = some (some (.ref E))) (eE : PySem.W.subIn K (.ref E) (.type "BaseException") = some true) (iE : PySem.W.isClsIn K E = true) (tE : PySem.W.typeIn K (.ref E) = some (.type "type"))
    (rE : PySem.W.readsIn K E (.type "type") = true) (sE : PySem.W.specialIn K (.ref E) "__getattribute__" = some (some (.builtin "type.__getattribute__"))) (fE : PySem.W.findCls K (.ref E) (.type "type") "__init__" = some (.val (.ref fBI)))
    (vV : PySem.W.findCls K (.type "ValueError") (.type "type") "__init__" = some (.val (.builtin "ValueError.__init__")))
    (aL : PySem.W.nsIn K mainGlobals "LongText" = some (some (.ref L)))
    (xLL : K.lookup L = some (excClassObj nmL qL L NL bsL [.ref E, .type "ValueError", .type "Exception", .type "BaseException", .type "object"] true snL subL abL colL ddL m0L m1L m2L m3L m5L "ValueError.__new__"))
    (saL : PySem.W.findIn K (.ref L) "__setattr__" = some (some (.builtin "object.__setattr__"))) (gaL : PySem.W.findIn K (.ref L) "__getattribute__" = some (some (.builtin "BaseException.__getattribute__"))) (ggL : PySem.W.findIn K (.ref L) "__getattr__" = some none)
    (nNL : PySem.W.findIn K (.ref L) "numbers" = some none) (kL : PySem.W.keepIn K (.ref L) = true) (eL : PySem.W.subIn K (.ref L) (.type "BaseException") = some true) (tL : PySem.W.typeIn K (.ref L) = some (.type "type")) (hL : PySem.W.hasDictIn K L = true) (sL : PySem.W.subIn K (.ref L) (.ref E) = some true)
    (aC : PySem.W.nsIn K mainGlobals "Fault" = some (some (.ref C)))
    (xLC : K.lookup C = some (excClassObj nmC qC C NC bsC [.ref E, .type "ValueError", .type "Exception", .type "BaseException", .type "object"] true snC subC abC colC ddC m0C m1C m2C m3C m5C "ValueError.__new__"))
    (saC : PySem.W.findIn K (.ref C) "__setattr__" = some (some (.builtin "object.__setattr__"))) (gaC : PySem.W.findIn K (.ref C) "__getattribute__" = some (some (.builtin "BaseException.__getattribute__"))) (ggC : PySem.W.findIn K (.ref C) "__getattr__" = some none)
    (nNC : PySem.W.findIn K (.ref C) "numbers" = some none) (kC : PySem.W.keepIn K (.ref C) = true) (eC : PySem.W.subIn K (.ref C) (.type "BaseException") = some true) (tC : PySem.W.typeIn K (.ref C) = some (.type "type")) (hC : PySem.W.hasDictIn K C = true) (sC : PySem.W.subIn K (.ref C) (.ref E) = some true)
    (acA : PySem.W.nsIn K mainGlobals "NotAllowed" = some (some (.ref cA)))
    (xLcA : K.lookup cA = some (excClassObj nmcA qcA cA NcA bscA [.ref E, .type "ValueError", .type "Exception", .type "BaseException", .type "object"] true sncA subcA abcA colcA ddcA m0cA m1cA m2cA m3cA m5cA "ValueError.__new__"))
    (sacA : PySem.W.findIn K (.ref cA) "__setattr__" = some (some (.builtin "object.__setattr__"))) (gacA : PySem.W.findIn K (.ref cA) "__getattribute__" = some (some (.builtin "BaseException.__getattribute__"))) (ggcA : PySem.W.findIn K (.ref cA) "__getattr__" = some none)
    (nNcA : PySem.W.findIn K (.ref cA) "numbers" = some none) (kcA : PySem.W.keepIn K (.ref cA) = true) (ecA : PySem.W.subIn K (.ref cA) (.type "BaseException") = some true) (tcA : PySem.W.typeIn K (.ref cA) = some (.type "type")) (hcA : PySem.W.hasDictIn K cA = true) (scA : PySem.W.subIn K (.ref cA) (.ref E) = some true)
    (acY : PySem.W.nsIn K mainGlobals "FaultyLine" = some (some (.ref cY)))
    (xLcY : K.lookup cY = some (excClassObj nmcY qcY cY NcY bscY [.ref E, .type "ValueError", .type "Exception", .type "BaseException", .type "object"] true sncY subcY abcY colcY ddcY m0cY m1cY m2cY m3cY m5cY "ValueError.__new__"))
    (sacY : PySem.W.findIn K (.ref cY) "__setattr__" = some (some (.builtin "object.__setattr__"))) (gacY : PySem.W.findIn K (.ref cY) "__getattribute__" = some (some (.builtin "BaseException.__getattribute__"))) (ggcY : PySem.W.findIn K (.ref cY) "__getattr__" = some none)
    (nNcY : PySem.W.findIn K (.ref cY) "numbers" = some none) (kcY : PySem.W.keepIn K (.ref cY) = true) (ecY : PySem.W.subIn K (.ref cY) (.type "BaseException") = some true) (tcY : PySem.W.typeIn K (.ref cY) = some (.type "type")) (hcY : PySem.W.hasDictIn K cY = true) (scY : PySem.W.subIn K (.ref cY) (.ref E) = some true)
    (acU : PySem.W.nsIn K mainGlobals "LongRun" = some (some (.ref cU)))
    (xLcU : K.lookup cU = some (excClassObj nmcU qcU cU NcU bscU [.ref E, .type "ValueError", .type "Exception", .type "BaseException", .type "object"] true sncU subcU abcU colcU ddcU m0cU m1cU m2cU m3cU m5cU "ValueError.__new__"))
    (sacU : PySem.W.findIn K (.ref cU) "__setattr__" = some (some (.builtin "object.__setattr__"))) (gacU : PySem.W.findIn K (.ref cU) "__getattribute__" = some (some (.builtin "BaseException.__getattribute__"))) (ggcU : PySem.W.findIn K (.ref cU) "__getattr__" = some none)
    (nNcU : PySem.W.findIn K (.ref cU) "numbers" = some none) (kcU : PySem.W.keepIn K (.ref cU) = true) (ecU : PySem.W.subIn K (.ref cU) (.type "BaseException") = some true) (tcU : PySem.W.typeIn K (.ref cU) = some (.type "type")) (hcU : PySem.W.hasDictIn K cU = true) (scU : PySem.W.subIn K (.ref cU) (.ref E) = some true)
    (acK : PySem.W.nsIn K mainGlobals "RunFault" = some (some (.ref cK)))
    (xLcK : K.lookup cK = some (excClassObj nmcK qcK cK NcK bscK [.type "ValueError", .type "Exception", .type "BaseException", .type "object"] true sncK subcK abcK colcK ddcK m0cK m1cK m2cK m3cK m5cK "ValueError.__new__"))
    (sacK : PySem.W.findIn K (.ref cK) "__setattr__" = some (some (.builtin "object.__setattr__"))) (gacK : PySem.W.findIn K (.ref cK) "__getattribute__" = some (some (.builtin "BaseException.__getattribute__"))) (ggcK : PySem.W.findIn K (.ref cK) "__getattr__" = some none)
    (nNcK : PySem.W.findIn K (.ref cK) "kind" = some none) (kcK : PySem.W.keepIn K (.ref cK) = true) (ecK : PySem.W.subIn K (.ref cK) (.type "BaseException") = some true) (tcK : PySem.W.typeIn K (.ref cK) = some (.type "type")) (hcK : PySem.W.hasDictIn K cK = true) (scK : PySem.W.subIn K (.ref cK) (.ref cK) = some true)
    (iscK : PySem.W.isClsIn K cK = true)
    (acV : PySem.W.nsIn K mainGlobals "LargeValue" = some (some (.ref cV)))
    (xLcV : K.lookup cV = some (excClassObj nmcV qcV cV NcV bscV [.ref E, .type "ValueError", .type "Exception", .type "BaseException", .type "object"] true sncV subcV abcV colcV ddcV m0cV m1cV m2cV m3cV m5cV "ValueError.__new__"))
    (sacV : PySem.W.findIn K (.ref cV) "__setattr__" = some (some (.builtin "object.__setattr__"))) (gacV : PySem.W.findIn K (.ref cV) "__getattribute__" = some (some (.builtin "BaseException.__getattribute__"))) (ggcV : PySem.W.findIn K (.ref cV) "__getattr__" = some none)
    (nNcV : PySem.W.findIn K (.ref cV) "numbers" = some none) (kcV : PySem.W.keepIn K (.ref cV) = true) (ecV : PySem.W.subIn K (.ref cV) (.type "BaseException") = some true) (tcV : PySem.W.typeIn K (.ref cV) = some (.type "type")) (hcV : PySem.W.hasDictIn K cV = true) (scV : PySem.W.subIn K (.ref cV) (.ref E) = some true)
    (aR : PySem.W.nsIn K mainGlobals "Reader" = some (some (.ref R))) (pgR : PySem.W.plainGet K R Str.empty = true) (hdR : PySem.W.hasDictIn K R = true) (poR : PySem.W.plainOver K R = true) (saR : PySem.W.findIn K (.ref R) "__setattr__" = some (some (.builtin "object.__setattr__"))) (mkR : PySem.W.makesIn K R = true) (kR : PySem.W.keepIn K (.ref R) = true)
    (nR_text : PySem.W.findIn K (.ref R) "text" = some none)
    (nR_place : PySem.W.findIn K (.ref R) "place" = some none)
    (acO : PySem.W.nsIn K mainGlobals "Rod" = some (some (.ref cO))) (pgcO : PySem.W.plainGet K cO Str.empty = true) (hdcO : PySem.W.hasDictIn K cO = true) (pocO : PySem.W.plainOver K cO = true) (sacO : PySem.W.findIn K (.ref cO) "__setattr__" = some (some (.builtin "object.__setattr__"))) (mkcO : PySem.W.makesIn K cO = true) (kcO : PySem.W.keepIn K (.ref cO) = true)
    (ncO_ratio : PySem.W.findIn K (.ref cO) "ratio" = some none)
    (ncO_place : PySem.W.findIn K (.ref cO) "place" = some none)
    (ncO_beads : PySem.W.findIn K (.ref cO) "beads" = some none)
    (ncO_worths : PySem.W.findIn K (.ref cO) "worths" = some none)
    (ncO_digits : PySem.W.findIn K (.ref cO) "digits" = some none)
    (acR : PySem.W.nsIn K mainGlobals "Run" = some (some (.ref cR))) (pgcR : PySem.W.plainGet K cR Str.empty = true) (hdcR : PySem.W.hasDictIn K cR = true) (pocR : PySem.W.plainOver K cR = true) (sacR : PySem.W.findIn K (.ref cR) "__setattr__" = some (some (.builtin "object.__setattr__"))) (mkcR : PySem.W.makesIn K cR = true) (kcR : PySem.W.keepIn K (.ref cR) = true)
    (ncR_lines : PySem.W.findIn K (.ref cR) "lines" = some none)
    (ncR_goals : PySem.W.findIn K (.ref cR) "goals" = some none)
    (ncR_letters : PySem.W.findIn K (.ref cR) "letters" = some none)
    (ncR_frame : PySem.W.findIn K (.ref cR) "frame" = some none)
    (acN : PySem.W.nsIn K mainGlobals "NumberFrame" = some (some (.ref cN))) (pgcN : PySem.W.plainGet K cN Str.empty = true) (hdcN : PySem.W.hasDictIn K cN = true) (pocN : PySem.W.plainOver K cN = true) (sacN : PySem.W.findIn K (.ref cN) "__setattr__" = some (some (.builtin "object.__setattr__"))) (mkcN : PySem.W.makesIn K cN = true) (kcN : PySem.W.keepIn K (.ref cN) = true)
    (ncN_rods : PySem.W.findIn K (.ref cN) "rods" = some none)
    (ncN_value : PySem.W.findIn K (.ref cN) "value" = some none)
    : ∃ fd : FuncData, (∀ (s : Shared) (us : List Value), us.length = (["v", "most", "make", "marks", "text"] : List Str).length → BindsTo s fd ⟨us, []⟩ ((["v", "most", "make", "marks", "text"] : List Str).zip us)) ∧ ∀ base : Heap, K.In base → base.Ns mainGlobals mg → FnOk P w K mg base CX0 12 fa fd ["v", "most", "make", "marks", "text"] (spRun K) := by
  have e := hfa.symm.trans (PySem.W.mg_of X G aRun)
  cases e
  have RfL : RefC K E L := ⟨⟨⟨nmL, qL, NL, bsL, _, snL, subL, abL, colL, ddL, m0L, m1L, m2L, m3L, m5L, xLL, by rfl⟩, saL, eL, tL, kL⟩, ⟨gaL, ggL, eL, hL⟩, nNL, exm_two eE iE tE sL⟩
  have RfC : RefC K E C := ⟨⟨⟨nmC, qC, NC, bsC, _, snC, subC, abC, colC, ddC, m0C, m1C, m2C, m3C, m5C, xLC, by rfl⟩, saC, eC, tC, kC⟩, ⟨gaC, ggC, eC, hC⟩, nNC, exm_two eE iE tE sC⟩
  have RfcA : RefC K E cA := ⟨⟨⟨nmcA, qcA, NcA, bscA, _, sncA, subcA, abcA, colcA, ddcA, m0cA, m1cA, m2cA, m3cA, m5cA, xLcA, by rfl⟩, sacA, ecA, tcA, kcA⟩, ⟨gacA, ggcA, ecA, hcA⟩, nNcA, exm_two eE iE tE scA⟩
  have RfcY : RefC K E cY := ⟨⟨⟨nmcY, qcY, NcY, bscY, _, sncY, subcY, abcY, colcY, ddcY, m0cY, m1cY, m2cY, m3cY, m5cY, xLcY, by rfl⟩, sacY, ecY, tcY, kcY⟩, ⟨gacY, ggcY, ecY, hcY⟩, nNcY, exm_two eE iE tE scY⟩
  have RfcU : RefC K E cU := ⟨⟨⟨nmcU, qcU, NcU, bscU, _, sncU, subcU, abcU, colcU, ddcU, m0cU, m1cU, m2cU, m3cU, m5cU, xLcU, by rfl⟩, sacU, ecU, tcU, kcU⟩, ⟨gacU, ggcU, ecU, hcU⟩, nNcU, exm_two eE iE tE scU⟩
  have OxcK : OexC K cK := ⟨⟨nmcK, qcK, NcK, bscK, _, sncK, subcK, abcK, colcK, ddcK, m0cK, m1cK, m2cK, m3cK, m5cK, xLcK, by rfl⟩, sacK, ecK, tcK, kcK⟩
  have RfcV : RefC K E cV := ⟨⟨⟨nmcV, qcV, NcV, bscV, _, sncV, subcV, abcV, colcV, ddcV, m0cV, m1cV, m2cV, m3cV, m5cV, xLcV, by rfl⟩, sacV, ecV, tcV, kcV⟩, ⟨gacV, ggcV, ecV, hcV⟩, nNcV, exm_two eE iE tE scV⟩
  have T : Txt K mg E fBI C fFI R :=
    { rf := RfC, iF := aFI, tF := iFI, gF := PySem.W.mg_of X G aC, gE := PySem.W.mg_of X G aE, rd := ⟨rE, sE⟩, ci := ⟨fE, rfl⟩, kB := kBI, nVE := PySem.W.mg_none_of X G n_ValueError, vV := vV,
      rule := ⟨_, PySem.W.mg_of X G guMR⟩, cl := ⟨pgR, hdR, poR, saR⟩, gR := PySem.W.mg_of X G aR, nText := nR_text, nPlace := nR_place, len := PySem.W.mg_none_of X G n_len, ord := PySem.W.mg_none_of X G n_ord, int := PySem.W.mg_none_of X G n_int }
  have LC : LongC K mg E L fLI := ⟨RfL, aLI, iLI, PySem.W.mg_of X G aL⟩
  have GR : Gram mg := ⟨⟨_, PySem.W.mg_of X G guMB⟩, ⟨_, PySem.W.mg_of X G guMK⟩, ⟨_, PySem.W.mg_of X G guMD⟩, ⟨_, PySem.W.mg_of X G guDG⟩, ⟨_, PySem.W.mg_of X G guHD⟩, ⟨_, PySem.W.mg_of X G guMA⟩⟩
  have BR : Brk K mg w aB := ⟨PySem.W.mg_of X G gB, ⟨esB, nB, _, lB, hB, eB1, ⟨_, rfl⟩⟩, ⟨esB, nB, _, lB, hB, eB2, ⟨_, rfl⟩⟩⟩
  have TK : TxK K mg cK fKI := { ox := OxcK, xf := ⟨gacK, ggcK, ecK, hcK⟩, nK := nNcK, te := exm_two ecK iscK tcK scK, iK := aKI, tK := iKI, gK := PySem.W.mg_of X G acK, nVE := PySem.W.mg_none_of X G n_ValueError, vV := vV, len := PySem.W.mg_none_of X G n_len, abs := PySem.W.mg_none_of X G n_abs, int := PySem.W.mg_none_of X G n_int, isi := PySem.W.mg_none_of X G n_isinstance, oob := ⟨_, PySem.W.mg_of X G guOB⟩, norod := ⟨_, PySem.W.mg_of X G guNR⟩, noroom := ⟨_, PySem.W.mg_of X G guNO⟩, failed := ⟨_, PySem.W.mg_of X G guFA⟩, most := ⟨_, PySem.W.mg_of X G guWK⟩ }
  have TU : TxU K mg w cR aO := { cl := ⟨pgcR, hdcR, pocR, sacR⟩, nLi := ncR_lines, nGo := ncR_goals, nLe := ncR_letters, nFr := ncR_frame, head := ⟨_, PySem.W.mg_of X G guHE⟩, gO := PySem.W.mg_of X G gO, dO := ⟨esO, nO, lO, hO, wO⟩, add := ⟨esO, nO, _, lO, hO, eO1, ⟨_, rfl⟩⟩, take := ⟨esO, nO, _, lO, hO, eO2, ⟨_, rfl⟩⟩, iadd := ⟨_, eO1⟩, itake := ⟨_, eO2⟩, nset := zO_set, nstop := zO_stop, nfail := zO_fail, nelse := zO_else, nend := zO_end, nif := zO_if, nwhile := zO_while }
  have TO : TxO K mg cO := ⟨⟨pgcO, hdcO, pocO, sacO⟩, PySem.W.mg_of X G acO, ncO_ratio, ncO_place, ncO_beads, ncO_worths, ncO_digits⟩
  have TM : TxM mg := { zip := PySem.W.mg_none_of X G n_zip, range := PySem.W.mg_none_of X G n_range, sum := PySem.W.mg_none_of X G n_sum, cMC := ⟨_, PySem.W.mg_of X G guMC⟩, cRN := ⟨_, PySem.W.mg_of X G guRN⟩, cRW := ⟨_, PySem.W.mg_of X G guRW⟩, cRG := ⟨_, PySem.W.mg_of X G guRG⟩, cRS := ⟨_, PySem.W.mg_of X G guRS⟩, cMR := ⟨_, PySem.W.mg_of X G guRO⟩, cLR := ⟨_, PySem.W.mg_of X G guLR⟩, cMT := ⟨_, PySem.W.mg_of X G guMT⟩, cMB := ⟨_, PySem.W.mg_of X G guBE⟩, cMW := ⟨_, PySem.W.mg_of X G guMW⟩, cMX := ⟨_, PySem.W.mg_of X G guMX⟩ }
  have OA : OwnC K mg E cA fAI "NotAllowed" := ⟨RfcA, aAI, iAI, PySem.W.mg_of X G acA⟩
  have OY : OwnC K mg E cY fYI "FaultyLine" := ⟨RfcY, aYI, iYI, PySem.W.mg_of X G acY⟩
  have OU : OwnC K mg E cU fUI "LongRun" := ⟨RfcU, aUI, iUI, PySem.W.mg_of X G acU⟩
  have TR : TxR mg := ⟨⟨_, PySem.W.mg_of X G guCC⟩, ⟨_, PySem.W.mg_of X G guMM⟩, ⟨_, PySem.W.mg_of X G guMS⟩, PySem.W.mg_none_of X G n_len, PySem.W.mg_none_of X G n_max⟩
  have FBI := fun_mk (st := sBI) lBI cBI kBI
  have bBI := FBI.binds (ps := ["self", "numbers"]) fun _ _ _ _ _ _ us hl => match us, hl with | [_, _], _ => rfl
  have FLI := fun_mk (st := sLI) lLI cLI kLI
  have bLI := FLI.binds (ps := ["self"]) fun _ _ _ _ _ _ us hl => match us, hl with | [_], _ => rfl
  have FFI := fun_mk (st := sFI) lFI cFI kFI
  have bFI := FFI.binds (ps := ["self", "rule", "place"]) fun _ _ _ _ _ _ us hl => match us, hl with | [_, _, _], _ => rfl
  have FAI := fun_mk (st := sAI) lAI cAI kAI
  have bAI := FAI.binds (ps := ["self"]) fun _ _ _ _ _ _ us hl => match us, hl with | [_], _ => rfl
  have FYI := fun_mk (st := sYI) lYI cYI kYI
  have bYI := FYI.binds (ps := ["self", "kind", "line"]) fun _ _ _ _ _ _ us hl => match us, hl with | [_, _, _], _ => rfl
  have FUI := fun_mk (st := sUI) lUI cUI kUI
  have bUI := FUI.binds (ps := ["self"]) fun _ _ _ _ _ _ us hl => match us, hl with | [_], _ => rfl
  have FKI := fun_mk (st := sKI) lKI cKI kKI
  have bKI := FKI.binds (ps := ["self", "kind"]) fun _ _ _ _ _ _ us hl => match us, hl with | [_, _], _ => rfl
  have FRI := fun_mk (st := sRI) lRI cRI kRI
  have bRI := FRI.binds (ps := ["self", "text"]) fun _ _ _ _ _ _ us hl => match us, hl with | [_, _], _ => rfl
  have FEn := fun_mk (st := sEn) lEn cEn kEn
  have bEn := FEn.binds (ps := ["self"]) fun _ _ _ _ _ _ us hl => match us, hl with | [_], _ => rfl
  have FSh := fun_mk (st := sSh) lSh cSh kSh
  have bSh := FSh.binds (ps := ["self", "signs"]) fun _ _ _ _ _ _ us hl => match us, hl with | [_, _], _ => rfl
  have FRS := fun_mk (st := sRS) lRS cRS kRS
  have bRS := FRS.binds (ps := ["self", "signs"]) fun _ _ _ _ _ _ us hl => match us, hl with | [_, _], _ => rfl
  have FRW := fun_mk (st := sRW) lRW cRW kRW
  have bRW := FRW.binds (ps := ["self", "words"]) fun _ _ _ _ _ _ us hl => match us, hl with | [_, _], _ => rfl
  have FSB := fun_mk (st := sSB) lSB cSB kSB
  have bSB := FSB.binds (ps := ["beginning", "words"]) fun _ _ _ _ _ _ us hl => match us, hl with | [_, _], _ => rfl
  have FPO := fun_mk (st := sPO) lPO cPO kPO
  have bPO := FPO.binds (ps := ["parts"]) fun _ _ _ _ _ _ us hl => match us, hl with | [_], _ => rfl
  have FTS := fun_mk (st := sTS) lTS cTS kTS
  have bTS := FTS.binds (ps := ["waiting", "signs", "ordered"]) fun _ _ _ _ _ _ us hl => match us, hl with | [_, _, _], _ => rfl
  have FRD := fun_mk (st := sRD) lRD cRD kRD
  have bRD := FRD.binds (ps := ["text"]) fun _ _ _ _ _ _ us hl => match us, hl with | [_], _ => rfl
  have FLW := fun_mk (st := sLW) lLW cLW kLW
  have bLW := FLW.binds (ps := ["blocks"]) fun _ _ _ _ _ _ us hl => match us, hl with | [_], _ => rfl
  have FRL := fun_mk (st := sRL) lRL cRL kRL
  have bRL := FRL.binds (ps := ["reader", "blocks"]) fun _ _ _ _ _ _ us hl => match us, hl with | [_, _], _ => rfl
  have FRT := fun_mk (st := sRT) lRT cRT kRT
  have bRT := FRT.binds (ps := ["reader"]) fun _ _ _ _ _ _ us hl => match us, hl with | [_], _ => rfl
  have FRE := fun_mk (st := sRE) lRE cRE kRE
  have bRE := FRE.binds (ps := ["reader"]) fun _ _ _ _ _ _ us hl => match us, hl with | [_], _ => rfl
  have FRO := fun_mk (st := sRO) lRO cRO kRO
  have bRO := FRO.binds (ps := ["reader", "closers"]) fun _ _ _ _ _ _ us hl => match us, hl with | [_, _], _ => rfl
  have FRC := fun_mk (st := sRC) lRC cRC kRC
  have bRC := FRC.binds (ps := ["reader", "closers"]) fun _ _ _ _ _ _ us hl => match us, hl with | [_, _], _ => rfl
  have FRN := fun_mk (st := sRN) lRN cRN kRN
  have bRN := FRN.binds (ps := ["reader"]) fun _ _ _ _ _ _ us hl => match us, hl with | [_], _ => rfl
  have FCS := fun_mk (st := sCS) lCS cCS kCS
  have bCS := FCS.binds (ps := ["text"]) fun _ _ _ _ _ _ us hl => match us, hl with | [_], _ => rfl
  have FCA := fun_mk (st := sCA) lCA cCA kCA
  have bCA := FCA.binds (ps := ["left", "sign", "right"]) fun _ _ _ _ _ _ us hl => match us, hl with | [_, _, _], _ => rfl
  have FIS := fun_mk (st := sIS) lIS cIS kIS
  have bIS := FIS.binds (ps := ["left", "sign", "right"]) fun _ _ _ _ _ _ us hl => match us, hl with | [_, _, _], _ => rfl
  have FCT := fun_mk (st := sCT) lCT cCT kCT
  have bCT := FCT.binds (ps := ["rods", "number"]) fun _ _ _ _ _ _ us hl => match us, hl with | [_, _], _ => rfl
  have FWO := fun_mk (st := sWO) lWO cWO kWO
  have bWO := FWO.binds (ps := ["ordered", "letters", "frame"]) fun _ _ _ _ _ _ us hl => match us, hl with | [_, _, _], _ => rfl
  have FAS := fun_mk (st := sAS) lAS cAS kAS
  have bAS := FAS.binds (ps := ["tests", "letters", "frame"]) fun _ _ _ _ _ _ us hl => match us, hl with | [_, _, _], _ => rfl
  have FFG := fun_mk (st := sFG) lFG cFG kFG
  have bFG := FFG.binds (ps := ["lines"]) fun _ _ _ _ _ _ us hl => match us, hl with | [_], _ => rfl
  have FFL := fun_mk (st := sFL) lFL cFL kFL
  have bFL := FFL.binds (ps := ["marks"]) fun _ _ _ _ _ _ us hl => match us, hl with | [_], _ => rfl
  have FIB := fun_mk (st := sIB) lIB cIB kIB
  have bIB := FIB.binds (ps := ["way", "other"]) fun _ _ _ _ _ _ us hl => match us, hl with | [_, _], _ => rfl
  have FFF := fun_mk (st := sFF) lFF cFF kFF
  have bFF := FFF.binds (ps := ["ratio", "beads", "worths"]) fun _ _ _ _ _ _ us hl => match us, hl with | [_, _, _], _ => rfl
  have FCO := fun_mk (st := sCO) lCO cCO kCO
  have bCO := FCO.binds (ps := ["told", "number"]) fun _ _ _ _ _ _ us hl => match us, hl with | [_, _], _ => rfl
  have FOI := fun_mk (st := sOI) lOI cOI kOI
  have bOI := FOI.binds (ps := ["self", "told", "place"]) fun _ _ _ _ _ _ us hl => match us, hl with | [_, _, _], _ => rfl
  have FRM := fun_mk (st := sRM) lRM cRM kRM
  have bRM := FRM.binds (ps := ["make"]) fun _ _ _ _ _ _ us hl => match us, hl with | [_], _ => rfl
  have FFS := fun_mk (st := sFS) lFS cFS kFS
  have bFS := FFS.binds (ps := ["rods"]) fun _ _ _ _ _ _ us hl => match us, hl with | [_], _ => rfl
  have FUR := fun_mk (st := sUR) lUR cUR kUR
  have bUR := FUR.binds (ps := ["self", "lines", "marks", "frame"]) fun _ _ _ _ _ _ us hl => match us, hl with | [_, _, _, _], _ => rfl
  have FGT := fun_mk (st := sGT) lGT cGT kGT
  have bGT := FGT.binds (ps := ["self", "most"]) fun _ _ _ _ _ _ us hl => match us, hl with | [_, _], _ => rfl
  have FDL := fun_mk (st := sDL) lDL cDL kDL
  have bDL := FDL.binds (ps := ["self", "line"]) fun _ _ _ _ _ _ us hl => match us, hl with | [_, _], _ => rfl
  have FCF := fun_mk (st := sCF) lCF cCF kCF
  have bCF := FCF.binds (ps := ["self", "op", "amount", "rod"]) fun _ _ _ _ _ _ us hl => match us, hl with | [_, _, _, _], _ => rfl
  have FSE := fun_mk (st := sSE) lSE cSE kSE
  have bSE := FSE.binds (ps := ["self", "head", "ordered"]) fun _ _ _ _ _ _ us hl => match us, hl with | [_, _, _], _ => rfl
  have FCR := fun_mk (st := sCR) lCR cCR kCR
  have bCR := FCR.binds (ps := ["most", "marks"]) fun _ _ _ _ _ _ us hl => match us, hl with | [_, _], _ => rfl
  have FVI := fun_mk (st := sVI) lVI cVI kVI
  have bVI := FVI.binds (ps := ["self"]) fun _ _ _ _ _ _ us hl => match us, hl with | [_], _ => rfl
  have FNF := fun_mk (st := sNF) lNF cNF kNF
  have bNF := FNF.binds (ps := ["self", "rods", "value"]) fun _ _ _ _ _ _ us hl => match us, hl with | [_, _, _], _ => rfl
  have FNL := fun_mk (st := sNL) lNL cNL kNL
  have bNL := FNL.binds (ps := ["self", "number"]) fun _ _ _ _ _ _ us hl => match us, hl with | [_, _], _ => rfl
  have FNC := fun_mk (st := sNC) lNC cNC kNC
  have bNC := FNC.binds (ps := ["self", "op", "amount", "number"]) fun _ _ _ _ _ _ us hl => match us, hl with | [_, _, _, _], _ => rfl
  have FRun := fun_mk (st := sRun) lRun cRun kRun
  have MkR : Mk K R fRI := ⟨mkR, aRI, iRI, kR⟩
  have mEn : Meth K R "ended" fEn := ⟨aEn, iEn, kEn⟩
  have mSh : Meth K R "shows" fSh := ⟨aSh, iSh, kSh⟩
  have mRS : Meth K R "read_sign" fRS := ⟨aRS, iRS, kRS⟩
  have mRW : Meth K R "read_word" fRW := ⟨aRW, iRW, kRW⟩
  have MkcO : Mk K cO fOI := ⟨mkcO, aOI, iOI, kcO⟩
  have MkcR : Mk K cR fUR := ⟨mkcR, aUR, iUR, kcR⟩
  have mGT : Meth K cR "go_through" fGT := ⟨aGT, iGT, kGT⟩
  have mDL : Meth K cR "do_line" fDL := ⟨aDL, iDL, kDL⟩
  have mCF : Meth K cR "change_frame" fCF := ⟨aCF, iCF, kCF⟩
  have mSE : Meth K cR "set_head" fSE := ⟨aSE, iSE, kSE⟩
  have MkcN : Mk K cN fNF := ⟨mkcN, aNF, iNF, kcN⟩
  have mNL : Meth K cN "look" fNL := ⟨aNL, iNL, kNL⟩
  have mNC : Meth K cN "change" fNC := ⟨aNC, iNC, kNC⟩
  refine ⟨PySem.W.fnOf "run" "run" (defArgs sRun) (defBody sRun) (defScope sRun) .none kVRun dcRun pmRun anRun cdRun ctRun, fun s us hu => match us, hu with | [_, _, _, _, _], _ => .of_eq rfl, fun base _ _ => ?_⟩
  have GBI : FnOk P w K mg base CX0 1 fBI _ ["self", "numbers"] (spBI K) := ok_BI FBI T
  have HBI : L2H.FnH P w K mg base CX0 1 fBI _ ["self", "numbers"] (spBI K) := ok_BIH FBI T
  have GLI : FnOk P w K mg base CX0 2 fLI _ ["self"] (spLI L) := ok_LI FLI T RfL GBI bBI
  have GFI : FnOk P w K mg base CX0 2 fFI _ ["self", "rule", "place"] (spFI C) := ok_FI FFI T GBI bBI
  have GAI : FnOk P w K mg base CX0 2 fAI _ ["self"] (spOw cA (-1)) := ok_AI FAI T RfcA GBI bBI
  have GUI : FnOk P w K mg base CX0 2 fUI _ ["self"] (spOw cU (-8)) := ok_UI FUI T RfcU GBI bBI
  have HYI : L2H.FnH P w K mg base CX0 2 fYI _ ["self", "kind", "line"] (spYI cY) := ok_YI FYI T RfcY HBI bBI
  have GKI : FnOk P w K mg base CX0 1 fKI _ ["self", "kind"] (spKI cK) := ok_KI FKI TK
  have GRI : FnOk P w K mg base CX0 1 fRI _ ["self", "text"] (spRI R) := ok_RI FRI T
  have GEn : FnOk P w K mg base CX0 1 fEn _ ["self"] (spEn K R) := ok_En FEn T
  have GSh : FnOk P w K mg base CX0 2 fSh _ ["self", "signs"] (spSh K R) := ok_Sh FSh T mEn GEn bEn
  have GRS : FnOk P w K mg base (L2.CX P w) 4 fRS _ ["self", "signs"] (spRS K R C) := ok_RS FRS T mSh GSh bSh GFI bFI
  have GSB : FnOk P w K mg base CX0 1 fSB _ ["beginning", "words"] (spSB K) := ok_SB FSB T
  have GRW : FnOk P w K mg base (L2.CX P w) 5 fRW _ ["self", "words"] (spRW K R C) := ok_RW FRW T mSh GSh bSh GFI bFI mRS GRS bRS (PySem.W.mg_of X G aSB) kSB GSB bSB
  have GLW : FnOk P w K mg base CX0 1 fLW _ ["blocks"] (spLW K) := ok_LW FLW T GR
  have GTS : FnOk P w K mg base CX0 1 fTS _ ["waiting", "signs", "ordered"] spTS := ok_TS FTS
  have GPO : FnOk P w K mg base CX0 2 fPO _ ["parts"] (spPO K) := ok_PO FPO (PySem.W.mg_of X G aTS) kTS GTS bTS
  have GRO : FnOk P w K mg base (L2.CX P w) 5 fRO _ ["reader", "closers"] (spRO K R) := ok_RO FRO T GR BR mSh GSh bSh mRS GRS bRS
  have GRC : FnOk P w K mg base (L2.CX P w) 5 fRC _ ["reader", "closers"] (spRC K R) := ok_RC FRC T mSh GSh bSh mRS GRS bRS
  have GRN : FnOk P w K mg base (L2.CX P w) 5 fRN _ ["reader"] (spRN K R C) := ok_RN FRN T GR mSh GSh bSh mRS GRS bRS
  have GRE : FnOk P w K mg base (L2.CX P w) 6 fRE _ ["reader"] (spRE K R C) := ok_RE FRE T mSh GSh bSh mRS GRS bRS (PySem.W.mg_of X G aRO) kRO GRO bRO (PySem.W.mg_of X G aRN) kRN GRN bRN (PySem.W.mg_of X G aRC) kRC GRC bRC (PySem.W.mg_of X G aPO) kPO GPO bPO
  have GRT : FnOk P w K mg base (L2.CX P w) 7 fRT _ ["reader"] (spRT K R C) := ok_RT FRT T mRW GRW bRW (PySem.W.mg_of X G aRE) kRE GRE bRE
  have GRL : FnOk P w K mg base (L2.CX P w) 8 fRL _ ["reader", "blocks"] (spRL K R C) := ok_RL FRL T GR mRS GRS bRS mRW GRW bRW (PySem.W.mg_of X G aLW) kLW GLW bLW (PySem.W.mg_of X G aRE) kRE GRE bRE (PySem.W.mg_of X G aRT) kRT GRT bRT
  have GRD : FnOk P w K mg base (L2.CX P w) 9 fRD _ ["text"] (spRD K C) := ok_RD FRD T MkR GRI bRI mEn GEn bEn (PySem.W.mg_of X G aRL) kRL GRL bRL
  have GCS : FnOk P w K mg base (L2.CX P w) 4 fCS _ ["text"] (spCS K L) := ok_CS FCS T LC ⟨_, PySem.W.mg_of X G guBY⟩ GLI bLI
  have GCA : FnOk P w K mg base (L2N.CX P w) 3 fCA _ ["left", "sign", "right"] (spCA cK) := ok_CA FCA TK GKI bKI
  have GIS : FnOk P w K mg base CX0 1 fIS _ ["left", "sign", "right"] spIS := ok_IS FIS
  have GCT : FnOk P w K mg base (L2N.CX P w) 3 fCT _ ["rods", "number"] (spCT K cK) := ok_CT FCT TK GKI bKI
  have GFG : FnOk P w K mg base CX0 1 fFG _ ["lines"] (spFG K) := ok_FG FFG (PySem.W.mg_none_of X G n_enumerate)
  have GFL : FnOk P w K mg base CX0 1 fFL _ ["marks"] (spFL K) := ok_FL FFL (PySem.W.mg_none_of X G n_zip) ⟨_, PySem.W.mg_of X G guHD⟩ ⟨_, PySem.W.mg_of X G guMA⟩
  have GIB : FnOk P w K mg base CX0 1 fIB _ ["way", "other"] (spIB K) := ok_IB FIB (PySem.W.mg_none_of X G n_sum)
  have GFF : FnOk P w K mg base CX0 2 fFF _ ["ratio", "beads", "worths"] spFF := ok_FF FFF (PySem.W.mg_none_of X G n_zip) (PySem.W.mg_none_of X G n_range) (PySem.W.mg_of X G aIB) kIB GIB bIB
  have GCO : FnOk P w K mg base (L2.CX P w) 4 fCO _ ["told", "number"] (spCO K C) := ok_CO FCO T TM GFI bFI
  have GOI : FnOk P w K mg base CX0 3 fOI _ ["self", "told", "place"] (spOI K cO) := ok_OI FOI TO (PySem.W.mg_of X G aFF) kFF GFF bFF
  have GRM : FnOk P w K mg base (L2.CX P w) 5 fRM _ ["make"] (spRM K C cO) := ok_RM FRM T TM TO MkcO GFI bFI (PySem.W.mg_of X G aCO) kCO GCO bCO GOI bOI
  have GFS : FnOk P w K mg base CX0 1 fFS _ ["rods"] (spFS cO) := ok_FS FFS TO
  have GUR : FnOk P w K mg base CX0 2 fUR _ ["self", "lines", "marks", "frame"] (spUR K cR) := ok_UR FUR TU (PySem.W.mg_of X G aFG) kFG GFG bFG (PySem.W.mg_of X G aFL) kFL GFL bFL
  have GCR : FnOk P w K mg base (L2.CX P w) 4 fCR _ ["most", "marks"] (spCR K cA) := ok_CR FCR TR OA GAI bAI
  have TN : TxN K mg cN := ⟨⟨pgcN, hdcN, pocN, sacN⟩, PySem.W.mg_of X G acN, ncN_rods, ncN_value, ⟨_, PySem.W.mg_of X G guTK⟩⟩
  have OV : OwnC K mg E cV fVI "LargeValue" := ⟨RfcV, aVI, iVI, PySem.W.mg_of X G acV⟩
  have GVI : FnOk P w K mg base CX0 2 fVI _ ["self"] (spOw cV (-4)) := ok_VI FVI T RfcV GBI bBI
  have GNF : FnOk P w K mg base CX0 1 fNF _ ["self", "rods", "value"] (spNI cN) := ok_NF FNF TN
  have GGT := fun (fr : Addr) (l : List Nat) (ML : MakeL l) => by
    have FM := numOk (CO := cO) (fr := fr) TN ML
    have GNL := ok_NL (P := P) (w := w) (base := base) (CK := cK) (fr := fr) FNL TN TO ML (PySem.W.mg_of X G aCT) kCT GCT bCT
    have GNC := ok_NC (P := P) (w := w) (base := base) (CK := cK) (fr := fr) FNC TK TN TO ML GKI bKI (PySem.W.mg_of X G aCT) kCT GCT bCT (PySem.W.mg_of X G aFS) kFS GFS bFS
    have GWO := ok_WO FWO TK FM mNL GNL bNL (PySem.W.mg_of X G aCA) kCA GCA bCA
    have GAS := ok_AS FAS FM (PySem.W.mg_of X G aWO) kWO GWO bWO (PySem.W.mg_of X G aIS) kIS GIS bIS
    have GCF := ok_CF FCF TK TU FM GKI bKI (PySem.W.mg_of X G aWO) kWO GWO bWO mNC GNC bNC
    have GSE := ok_SE FSE TK TU FM GKI bKI (PySem.W.mg_of X G aWO) kWO GWO bWO
    have GDL := ok_DL FDL TK TU FM GKI bKI mCF GCF bCF mSE GSE bSE (PySem.W.mg_of X G aAS) kAS GAS bAS
    exact ok_GT FGT TK TU FM mDL GDL bDL OY HYI bYI OU GUI bUI
  exact ok_Run FRun T LC (PySem.W.mg_of X G aCS) kCS GCS bCS (PySem.W.mg_of X G aRM) kRM GRM bRM (PySem.W.mg_of X G aRD) kRD GRD bRD RfcA (PySem.W.mg_of X G aCR) kCR GCR bCR (PySem.W.mg_of X G aFS) kFS GFS bFS OV GVI bVI TN MkcN GNF bNF TU (PySem.W.mg_of X G acR) MkcR GUR bUR RfcY RfcU mGT (ok_GN GGT) bGT
end Ab
open PySem PySem.W PyProof.Rows
set_option maxRecDepth 100000 in
set_option maxHeartbeats 8000000 in
theorem PySem.Challenge.cw_abacusways_s03_run_holds : PySem.Challenge.rw_abacusways_s03_run.Holds := by
  w_on; k_headS; (case hw => exact ⟨[.int 0, .int 0, .list [], .list [], .list []], by decide +kernel, by decide +kernel⟩)
  k_fillS
  refine L2.walk_specK (r := PySem.Challenge.rw_abacusways_s03_run) (k := 12) (CX := L2.CX0) (ps := ["v", "most", "make", "marks", "text"]) (sp := Ab.spRun) (by decide +kernel) rfl rfl ⟨rfl, by decide, by decide⟩ (fun w h Y => PySem.W.kIn_of Y) ?F ?S (fun _ _ _ _ z => z)
  case F =>
    intro w mg fa h Y KX G hmg
    refine' Ab.all_mk KX G hmg ?aBI ?iBI ?lBI ?cBI ?kBI ?aLI ?iLI ?lLI ?cLI ?kLI ?aFI ?iFI ?lFI ?cFI ?kFI ?aAI ?iAI ?lAI ?cAI ?kAI ?aYI ?iYI ?lYI ?cYI ?kYI ?aUI ?iUI ?lUI ?cUI ?kUI ?aKI ?iKI ?lKI ?cKI ?kKI ?aRI ?iRI ?lRI ?cRI ?kRI ?aEn ?iEn ?lEn ?cEn ?kEn ?aSh ?iSh ?lSh ?cSh ?kSh ?aRS ?iRS ?lRS ?cRS ?kRS ?aRW ?iRW ?lRW ?cRW ?kRW ?aSB ?lSB ?cSB ?kSB ?aPO ?lPO ?cPO ?kPO ?aTS ?lTS ?cTS ?kTS ?aRD ?lRD ?cRD ?kRD ?aLW ?lLW ?cLW ?kLW ?aRL ?lRL ?cRL ?kRL ?aRT ?lRT ?cRT ?kRT ?aRE ?lRE ?cRE ?kRE ?aRO ?lRO ?cRO ?kRO ?aRC ?lRC ?cRC ?kRC ?aRN ?lRN ?cRN ?kRN ?aCS ?lCS ?cCS ?kCS ?aCA ?lCA ?cCA ?kCA ?aIS ?lIS ?cIS ?kIS ?aCT ?lCT ?cCT ?kCT ?aWO ?lWO ?cWO ?kWO ?aAS ?lAS ?cAS ?kAS ?aFG ?lFG ?cFG ?kFG ?aFL ?lFL ?cFL ?kFL ?aIB ?lIB ?cIB ?kIB ?aFF ?lFF ?cFF ?kFF ?aCO ?lCO ?cCO ?kCO ?aOI ?iOI ?lOI ?cOI ?kOI ?aRM ?lRM ?cRM ?kRM ?aFS ?lFS ?cFS ?kFS ?aUR ?iUR ?lUR ?cUR ?kUR ?aGT ?iGT ?lGT ?cGT ?kGT ?aDL ?iDL ?lDL ?cDL ?kDL ?aCF ?iCF ?lCF ?cCF ?kCF ?aSE ?iSE ?lSE ?cSE ?kSE ?aCR ?lCR ?cCR ?kCR ?aVI ?iVI ?lVI ?cVI ?kVI ?aNF ?iNF ?lNF ?cNF ?kNF ?aNL ?iNL ?lNL ?cNL ?kNL ?aNC ?iNC ?lNC ?cNC ?kNC ?aRun ?lRun ?cRun ?kRun ?guMR ?guMB ?guMK ?guMD ?guDG ?guHD ?guMA ?guBY ?guOB ?guNR ?guNO ?guFA ?guWK ?guMC ?guRN ?guRW ?guRG ?guRS ?guRO ?guLR ?guMT ?guBE ?guMW ?guMX ?guHE ?guCC ?guMM ?guMS ?guTK ?n_ValueError ?n_len ?n_ord ?n_int ?n_abs ?n_isinstance ?n_zip ?n_range ?n_sum ?n_enumerate ?n_max ?gB ?lB ?eB1 ?eB2 ?hB ?gO ?lO ?eO1 ?eO2 ?hO ?wO ?zO_set ?zO_stop ?zO_fail ?zO_else ?zO_end ?zO_if ?zO_while ?aE ?eE ?iE ?tE ?rE ?sE ?fE ?vV ?aL ?xLL ?saL ?gaL ?ggL ?nNL ?kL ?eL ?tL ?hL ?sL ?aC ?xLC ?saC ?gaC ?ggC ?nNC ?kC ?eC ?tC ?hC ?sC ?acA ?xLcA ?sacA ?gacA ?ggcA ?nNcA ?kcA ?ecA ?tcA ?hcA ?scA ?acY ?xLcY ?sacY ?gacY ?ggcY ?nNcY ?kcY ?ecY ?tcY ?hcY ?scY ?acU ?xLcU ?sacU ?gacU ?ggcU ?nNcU ?kcU ?ecU ?tcU ?hcU ?scU ?acK ?xLcK ?sacK ?gacK ?ggcK ?nNcK ?kcK ?ecK ?tcK ?hcK ?scK ?iscK ?acV ?xLcV ?sacV ?gacV ?ggcV ?nNcV ?kcV ?ecV ?tcV ?hcV ?scV ?aR ?pgR ?hdR ?poR ?saR ?mkR ?kR ?nR_text ?nR_place ?acO ?pgcO ?hdcO ?pocO ?sacO ?mkcO ?kcO ?ncO_ratio ?ncO_place ?ncO_beads ?ncO_worths ?ncO_digits ?acR ?pgcR ?hdcR ?pocR ?sacR ?mkcR ?kcR ?ncR_lines ?ncR_goals ?ncR_letters ?ncR_frame ?acN ?pgcN ?hdcN ?pocN ?sacN ?mkcN ?kcN ?ncN_rods ?ncN_value
    (case aE => first | k_is | rfl)
    (case aL => first | k_is | rfl)
    (case aC => first | k_is | rfl)
    (case acA => first | k_is | rfl)
    (case acY => first | k_is | rfl)
    (case acU => first | k_is | rfl)
    (case acK => first | k_is | rfl)
    (case acV => first | k_is | rfl)
    (case aR => first | k_is | rfl)
    (case acO => first | k_is | rfl)
    (case acR => first | k_is | rfl)
    (case acN => first | k_is | rfl)
    (case aBI => first | k_is | rfl)
    (case iBI => first | k_is | rfl)
    (case lBI => first | k_is | rfl)
    (case cBI => first | k_is | rfl)
    (case kBI => first | k_is | rfl)
    (case aLI => first | k_is | rfl)
    (case iLI => first | k_is | rfl)
    (case lLI => first | k_is | rfl)
    (case cLI => first | k_is | rfl)
    (case kLI => first | k_is | rfl)
    (case aFI => first | k_is | rfl)
    (case iFI => first | k_is | rfl)
    (case lFI => first | k_is | rfl)
    (case cFI => first | k_is | rfl)
    (case kFI => first | k_is | rfl)
    (case aAI => first | k_is | rfl)
    (case iAI => first | k_is | rfl)
    (case lAI => first | k_is | rfl)
    (case cAI => first | k_is | rfl)
    (case kAI => first | k_is | rfl)
    (case aYI => first | k_is | rfl)
    (case iYI => first | k_is | rfl)
    (case lYI => first | k_is | rfl)
    (case cYI => first | k_is | rfl)
    (case kYI => first | k_is | rfl)
    (case aUI => first | k_is | rfl)
    (case iUI => first | k_is | rfl)
    (case lUI => first | k_is | rfl)
    (case cUI => first | k_is | rfl)
    (case kUI => first | k_is | rfl)
    (case aKI => first | k_is | rfl)
    (case iKI => first | k_is | rfl)
    (case lKI => first | k_is | rfl)
    (case cKI => first | k_is | rfl)
    (case kKI => first | k_is | rfl)
    (case aRI => first | k_is | rfl)
    (case iRI => first | k_is | rfl)
    (case lRI => first | k_is | rfl)
    (case cRI => first | k_is | rfl)
    (case kRI => first | k_is | rfl)
    (case aEn => first | k_is | rfl)
    (case iEn => first | k_is | rfl)
    (case lEn => first | k_is | rfl)
    (case cEn => first | k_is | rfl)
    (case kEn => first | k_is | rfl)
    (case aSh => first | k_is | rfl)
    (case iSh => first | k_is | rfl)
    (case lSh => first | k_is | rfl)
    (case cSh => first | k_is | rfl)
    (case kSh => first | k_is | rfl)
    (case aRS => first | k_is | rfl)
    (case iRS => first | k_is | rfl)
    (case lRS => first | k_is | rfl)
    (case cRS => first | k_is | rfl)
    (case kRS => first | k_is | rfl)
    (case aRW => first | k_is | rfl)
    (case iRW => first | k_is | rfl)
    (case lRW => first | k_is | rfl)
    (case cRW => first | k_is | rfl)
    (case kRW => first | k_is | rfl)
    (case aSB => first | k_is | rfl)
    (case lSB => first | k_is | rfl)
    (case cSB => first | k_is | rfl)
    (case kSB => first | k_is | rfl)
    (case aPO => first | k_is | rfl)
    (case lPO => first | k_is | rfl)
    (case cPO => first | k_is | rfl)
    (case kPO => first | k_is | rfl)
    (case aTS => first | k_is | rfl)
    (case lTS => first | k_is | rfl)
    (case cTS => first | k_is | rfl)
    (case kTS => first | k_is | rfl)
    (case aRD => first | k_is | rfl)
    (case lRD => first | k_is | rfl)
    (case cRD => first | k_is | rfl)
    (case kRD => first | k_is | rfl)
    (case aLW => first | k_is | rfl)
    (case lLW => first | k_is | rfl)
    (case cLW => first | k_is | rfl)
    (case kLW => first | k_is | rfl)
    (case aRL => first | k_is | rfl)
    (case lRL => first | k_is | rfl)
    (case cRL => first | k_is | rfl)
    (case kRL => first | k_is | rfl)
    (case aRT => first | k_is | rfl)
    (case lRT => first | k_is | rfl)
    (case cRT => first | k_is | rfl)
    (case kRT => first | k_is | rfl)
    (case aRE => first | k_is | rfl)
    (case lRE => first | k_is | rfl)
    (case cRE => first | k_is | rfl)
    (case kRE => first | k_is | rfl)
    (case aRO => first | k_is | rfl)
    (case lRO => first | k_is | rfl)
    (case cRO => first | k_is | rfl)
    (case kRO => first | k_is | rfl)
    (case aRC => first | k_is | rfl)
    (case lRC => first | k_is | rfl)
    (case cRC => first | k_is | rfl)
    (case kRC => first | k_is | rfl)
    (case aRN => first | k_is | rfl)
    (case lRN => first | k_is | rfl)
    (case cRN => first | k_is | rfl)
    (case kRN => first | k_is | rfl)
    (case aCS => first | k_is | rfl)
    (case lCS => first | k_is | rfl)
    (case cCS => first | k_is | rfl)
    (case kCS => first | k_is | rfl)
    (case aCA => first | k_is | rfl)
    (case lCA => first | k_is | rfl)
    (case cCA => first | k_is | rfl)
    (case kCA => first | k_is | rfl)
    (case aIS => first | k_is | rfl)
    (case lIS => first | k_is | rfl)
    (case cIS => first | k_is | rfl)
    (case kIS => first | k_is | rfl)
    (case aCT => first | k_is | rfl)
    (case lCT => first | k_is | rfl)
    (case cCT => first | k_is | rfl)
    (case kCT => first | k_is | rfl)
    (case aWO => first | k_is | rfl)
    (case lWO => first | k_is | rfl)
    (case cWO => first | k_is | rfl)
    (case kWO => first | k_is | rfl)
    (case aAS => first | k_is | rfl)
    (case lAS => first | k_is | rfl)
    (case cAS => first | k_is | rfl)
    (case kAS => first | k_is | rfl)
    (case aFG => first | k_is | rfl)
    (case lFG => first | k_is | rfl)
    (case cFG => first | k_is | rfl)
    (case kFG => first | k_is | rfl)
    (case aFL => first | k_is | rfl)
    (case lFL => first | k_is | rfl)
    (case cFL => first | k_is | rfl)
    (case kFL => first | k_is | rfl)
    (case aIB => first | k_is | rfl)
    (case lIB => first | k_is | rfl)
    (case cIB => first | k_is | rfl)
    (case kIB => first | k_is | rfl)
    (case aFF => first | k_is | rfl)
    (case lFF => first | k_is | rfl)
    (case cFF => first | k_is | rfl)
    (case kFF => first | k_is | rfl)
    (case aCO => first | k_is | rfl)
    (case lCO => first | k_is | rfl)
    (case cCO => first | k_is | rfl)
    (case kCO => first | k_is | rfl)
    (case aOI => first | k_is | rfl)
    (case iOI => first | k_is | rfl)
    (case lOI => first | k_is | rfl)
    (case cOI => first | k_is | rfl)
    (case kOI => first | k_is | rfl)
    (case aRM => first | k_is | rfl)
    (case lRM => first | k_is | rfl)
    (case cRM => first | k_is | rfl)
    (case kRM => first | k_is | rfl)
    (case aFS => first | k_is | rfl)
    (case lFS => first | k_is | rfl)
    (case cFS => first | k_is | rfl)
    (case kFS => first | k_is | rfl)
    (case aUR => first | k_is | rfl)
    (case iUR => first | k_is | rfl)
    (case lUR => first | k_is | rfl)
    (case cUR => first | k_is | rfl)
    (case kUR => first | k_is | rfl)
    (case aGT => first | k_is | rfl)
    (case iGT => first | k_is | rfl)
    (case lGT => first | k_is | rfl)
    (case cGT => first | k_is | rfl)
    (case kGT => first | k_is | rfl)
    (case aDL => first | k_is | rfl)
    (case iDL => first | k_is | rfl)
    (case lDL => first | k_is | rfl)
    (case cDL => first | k_is | rfl)
    (case kDL => first | k_is | rfl)
    (case aCF => first | k_is | rfl)
    (case iCF => first | k_is | rfl)
    (case lCF => first | k_is | rfl)
    (case cCF => first | k_is | rfl)
    (case kCF => first | k_is | rfl)
    (case aSE => first | k_is | rfl)
    (case iSE => first | k_is | rfl)
    (case lSE => first | k_is | rfl)
    (case cSE => first | k_is | rfl)
    (case kSE => first | k_is | rfl)
    (case aCR => first | k_is | rfl)
    (case lCR => first | k_is | rfl)
    (case cCR => first | k_is | rfl)
    (case kCR => first | k_is | rfl)
    (case aVI => first | k_is | rfl)
    (case iVI => first | k_is | rfl)
    (case lVI => first | k_is | rfl)
    (case cVI => first | k_is | rfl)
    (case kVI => first | k_is | rfl)
    (case aNF => first | k_is | rfl)
    (case iNF => first | k_is | rfl)
    (case lNF => first | k_is | rfl)
    (case cNF => first | k_is | rfl)
    (case kNF => first | k_is | rfl)
    (case aNL => first | k_is | rfl)
    (case iNL => first | k_is | rfl)
    (case lNL => first | k_is | rfl)
    (case cNL => first | k_is | rfl)
    (case kNL => first | k_is | rfl)
    (case aNC => first | k_is | rfl)
    (case iNC => first | k_is | rfl)
    (case lNC => first | k_is | rfl)
    (case cNC => first | k_is | rfl)
    (case kNC => first | k_is | rfl)
    (case aRun => first | k_is | rfl)
    (case lRun => first | k_is | rfl)
    (case cRun => first | k_is | rfl)
    (case kRun => first | k_is | rfl)
    (case guMR => first | k_is | rfl)
    (case guMB => first | k_is | rfl)
    (case guMK => first | k_is | rfl)
    (case guMD => first | k_is | rfl)
    (case guDG => first | k_is | rfl)
    (case guHD => first | k_is | rfl)
    (case guMA => first | k_is | rfl)
    (case guBY => first | k_is | rfl)
    (case guOB => first | k_is | rfl)
    (case guNR => first | k_is | rfl)
    (case guNO => first | k_is | rfl)
    (case guFA => first | k_is | rfl)
    (case guWK => first | k_is | rfl)
    (case guMC => first | k_is | rfl)
    (case guRN => first | k_is | rfl)
    (case guRW => first | k_is | rfl)
    (case guRG => first | k_is | rfl)
    (case guRS => first | k_is | rfl)
    (case guRO => first | k_is | rfl)
    (case guLR => first | k_is | rfl)
    (case guMT => first | k_is | rfl)
    (case guBE => first | k_is | rfl)
    (case guMW => first | k_is | rfl)
    (case guMX => first | k_is | rfl)
    (case guHE => first | k_is | rfl)
    (case guCC => first | k_is | rfl)
    (case guMM => first | k_is | rfl)
    (case guMS => first | k_is | rfl)
    (case guTK => first | k_is | rfl)
    (case n_ValueError => first | k_is | rfl)
    (case n_len => first | k_is | rfl)
    (case n_ord => first | k_is | rfl)
    (case n_int => first | k_is | rfl)
    (case n_abs => first | k_is | rfl)
    (case n_isinstance => first | k_is | rfl)
    (case n_zip => first | k_is | rfl)
    (case n_range => first | k_is | rfl)
    (case n_sum => first | k_is | rfl)
    (case n_enumerate => first | k_is | rfl)
    (case n_max => first | k_is | rfl)
    (case gB => first | k_is | rfl)
    (case lB => first | k_is | rfl)
    (case eB1 => first | k_is | rfl)
    (case eB2 => first | k_is | rfl)
    (case hB => exact ⟨⟨_, _, rfl, rfl⟩, ⟨_, _, rfl, rfl⟩, trivial⟩)
    (case gO => first | k_is | rfl)
    (case lO => first | k_is | rfl)
    (case eO1 => first | k_is | rfl)
    (case eO2 => first | k_is | rfl)
    (case hO => exact ⟨⟨_, _, rfl, rfl⟩, ⟨_, _, rfl, rfl⟩, trivial⟩)
    (case wO => first | rfl | decide)
    (case zO_set => first | k_is | rfl)
    (case zO_stop => first | k_is | rfl)
    (case zO_fail => first | k_is | rfl)
    (case zO_else => first | k_is | rfl)
    (case zO_end => first | k_is | rfl)
    (case zO_if => first | k_is | rfl)
    (case zO_while => first | k_is | rfl)
    (case eE => first | k_is | rfl)
    (case iE => first | k_is | rfl)
    (case tE => first | k_is | rfl)
    (case rE => first | k_is | rfl)
    (case sE => first | k_is | rfl)
    (case fE => first | k_is | rfl)
    (case vV => first | k_is | rfl)
    (case xLL => first | k_is | rfl)
    (case saL => first | k_is | rfl)
    (case gaL => first | k_is | rfl)
    (case ggL => first | k_is | rfl)
    (case nNL => first | k_is | rfl)
    (case kL => first | k_is | rfl)
    (case eL => first | k_is | rfl)
    (case tL => first | k_is | rfl)
    (case hL => first | k_is | rfl)
    (case sL => first | k_is | rfl)
    (case xLC => first | k_is | rfl)
    (case saC => first | k_is | rfl)
    (case gaC => first | k_is | rfl)
    (case ggC => first | k_is | rfl)
    (case nNC => first | k_is | rfl)
    (case kC => first | k_is | rfl)
    (case eC => first | k_is | rfl)
    (case tC => first | k_is | rfl)
    (case hC => first | k_is | rfl)
    (case sC => first | k_is | rfl)
    (case xLcA => first | k_is | rfl)
    (case sacA => first | k_is | rfl)
    (case gacA => first | k_is | rfl)
    (case ggcA => first | k_is | rfl)
    (case nNcA => first | k_is | rfl)
    (case kcA => first | k_is | rfl)
    (case ecA => first | k_is | rfl)
    (case tcA => first | k_is | rfl)
    (case hcA => first | k_is | rfl)
    (case scA => first | k_is | rfl)
    (case xLcY => first | k_is | rfl)
    (case sacY => first | k_is | rfl)
    (case gacY => first | k_is | rfl)
    (case ggcY => first | k_is | rfl)
    (case nNcY => first | k_is | rfl)
    (case kcY => first | k_is | rfl)
    (case ecY => first | k_is | rfl)
    (case tcY => first | k_is | rfl)
    (case hcY => first | k_is | rfl)
    (case scY => first | k_is | rfl)
    (case xLcU => first | k_is | rfl)
    (case sacU => first | k_is | rfl)
    (case gacU => first | k_is | rfl)
    (case ggcU => first | k_is | rfl)
    (case nNcU => first | k_is | rfl)
    (case kcU => first | k_is | rfl)
    (case ecU => first | k_is | rfl)
    (case tcU => first | k_is | rfl)
    (case hcU => first | k_is | rfl)
    (case scU => first | k_is | rfl)
    (case xLcK => first | k_is | rfl)
    (case sacK => first | k_is | rfl)
    (case gacK => first | k_is | rfl)
    (case ggcK => first | k_is | rfl)
    (case nNcK => first | k_is | rfl)
    (case kcK => first | k_is | rfl)
    (case ecK => first | k_is | rfl)
    (case tcK => first | k_is | rfl)
    (case hcK => first | k_is | rfl)
    (case scK => first | k_is | rfl)
    (case iscK => first | k_is | rfl)
    (case xLcV => first | k_is | rfl)
    (case sacV => first | k_is | rfl)
    (case gacV => first | k_is | rfl)
    (case ggcV => first | k_is | rfl)
    (case nNcV => first | k_is | rfl)
    (case kcV => first | k_is | rfl)
    (case ecV => first | k_is | rfl)
    (case tcV => first | k_is | rfl)
    (case hcV => first | k_is | rfl)
    (case scV => first | k_is | rfl)
    (case pgR => first | k_is | rfl)
    (case hdR => first | k_is | rfl)
    (case poR => first | k_is | rfl)
    (case saR => first | k_is | rfl)
    (case mkR => first | k_is | rfl)
    (case kR => first | k_is | rfl)
    (case nR_text => first | k_is | rfl)
    (case nR_place => first | k_is | rfl)
    (case pgcO => first | k_is | rfl)
    (case hdcO => first | k_is | rfl)
    (case pocO => first | k_is | rfl)
    (case sacO => first | k_is | rfl)
    (case mkcO => first | k_is | rfl)
    (case kcO => first | k_is | rfl)
    (case ncO_ratio => first | k_is | rfl)
    (case ncO_place => first | k_is | rfl)
    (case ncO_beads => first | k_is | rfl)
    (case ncO_worths => first | k_is | rfl)
    (case ncO_digits => first | k_is | rfl)
    (case pgcR => first | k_is | rfl)
    (case hdcR => first | k_is | rfl)
    (case pocR => first | k_is | rfl)
    (case sacR => first | k_is | rfl)
    (case mkcR => first | k_is | rfl)
    (case kcR => first | k_is | rfl)
    (case ncR_lines => first | k_is | rfl)
    (case ncR_goals => first | k_is | rfl)
    (case ncR_letters => first | k_is | rfl)
    (case ncR_frame => first | k_is | rfl)
    (case pgcN => first | k_is | rfl)
    (case hdcN => first | k_is | rfl)
    (case pocN => first | k_is | rfl)
    (case sacN => first | k_is | rfl)
    (case mkcN => first | k_is | rfl)
    (case kcN => first | k_is | rfl)
    (case ncN_rods => first | k_is | rfl)
    (case ncN_value => first | k_is | rfl)
  case S =>
    intro K H xs a hO hwi hask hx
    cases hx with
    | cons h1 hx =>
      cases hx with
      | cons h2 hx =>
        cases hx with
        | cons h3 hx =>
          cases hx with
          | cons h4 hx =>
            cases hx with
            | cons h5 hx =>
              cases hx
              cases h1 with
              | int v =>
                cases h2 with
                | int most =>
                  cases h3 with
                  | lst s3 a3 =>
                    cases h4 with
                    | lst s4 a4 =>
                      cases h5 with
                      | lst s5 a5 =>
                        have e3 := L2.ints_dw a.2.2.1 _ a3
                        have e4 := L2.ints_dw a.2.2.2.1 _ a4
                        have e5 := L2.ints_dw a.2.2.2.2.1 _ a5
                        subst e3 e4 e5
                        have q : (Codec.inInt 0 2037035976334486086268445688409378161051468393665936250636140449354381299763336706183397375 a.1 && (Codec.inInt 0 4294967295 a.2.1 && ((Codec.inLen 0 500 a.2.2.1 && a.2.2.1.all (Codec.inInt 0 4294967295)) && ((Codec.inLen 0 20 a.2.2.2.1 && a.2.2.2.1.all (Codec.inInt 0 4294967295)) && ((Codec.inLen 0 5000 a.2.2.2.2.1 && a.2.2.2.2.1.all (Codec.inInt 0 255)) && true))))) = true := hwi
                        simp only [Bool.and_eq_true] at q
                        exact Ab.run_S (Codec.inInt_iff.mp q.1).1 (Codec.inInt_iff.mp q.2.1).1 (fun x hx => (Codec.inInt_iff.mp (List.all_eq_true.mp q.2.2.1.2 x hx)).1) (fun x hx => (Codec.inInt_iff.mp (List.all_eq_true.mp q.2.2.2.1.2 x hx)).1) (fun x hx => Codec.inInt_iff.mp (List.all_eq_true.mp q.2.2.2.2.1.2 x hx))
                          (Codec.inNat_iff.mp q.2.2.1.1).2 (Codec.inNat_iff.mp q.2.2.2.1.1).2 (Codec.inNat_iff.mp q.2.2.2.2.1.1).2 s3 s4 s5 fun H' p hp => .lst (L2.SqL.of hp) (L2.dw_ints _)
#print axioms PySem.Challenge.cw_abacusways_s03_run_holds
