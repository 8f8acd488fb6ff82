import PyProof.Rows.All
import Wide.All
import OpenK.AllK
import Wide.FinOn
import HandS.ForMost
import HandS.Wide
import HandS.IsInst
import HandS.SortInts
import PySem.Challenge.RW_primeslip_k03_what_is_a_row
set_option Elab.async false
set_option linter.all false
set_option maxRecDepth 100000
set_option maxHeartbeats 4000000
local macro_rules | `(tactic| walk_at "r1") => `(tactic| first
  | refine ⟨_, rfl, ?_⟩
  | refine ⟨_, _, rfl, rfl, ?_⟩
  | refine ⟨rfl, ?_⟩
  | refine And.intro (by first | omega | exact ⟨by omega, by decide⟩ | exact ⟨by decide, by decide, by decide⟩) ?_)
local macro_rules | `(tactic| walk_at "sz") => `(tactic| first | refine ⟨Nat.le_of_lt (L2.small1000 (by simp only [List.length_cons, List.length_nil, List.length_append, List.length_map] <;> omega)), ?_⟩ | skip)
local macro_rules | `(tactic| walk_at "r") => `(tactic| repeat (walk_at "r1"))
namespace Z
open PySem PySem.Spec PyProof.Rows L2

/-- a def of the text under its name: where it stands, what it promises -/
structure Df (P : Program) (w : World) (K : PySem.W.Frag) (mg : Str → Option Value) (base : Heap) (x : Str) (ps : List Str) (k : Nat) (sp : Sp) : Prop where
  ex : ∃ (f : Addr) (fd : FuncData), mg x = some (.ref f) ∧ PySem.W.keepIn K (.ref f) = true ∧ Binds K fd ps [] ∧ FnOk P w K mg base CX0 k f fd ps sp
/-- the reading of a call: the arguments, then the promise -/
def tDf (sp : Sp) (t : TA) : TE := fun σ H Q => t σ H fun vs H1 => sp vs H1 Q E0
section
variable {X : Cx} {x : Str} {ps : List Str} {k : Nat} {sp : Sp} {e : Expr} {es : List Expr} {t : TA} {p pos : Pos}
theorem pe_df (D : Df X.prog X.w X.K X.mg X.base x ps k sp) (hr : Room k X.A) (hg : Gl X x) (ha : PA X (e :: es) t) (hdb : (x == ("__debug__" : Str)) = false := by decide)
    (he : starEach (e :: es) X.env = (false, eval e X.env) :: starEach es X.env := by rfl) (hpl : (backTo pos (starEach es X.env)).any (·.1) = false := by rfl) :
    PE X (.Call (.Name x p) (e :: es) [] pos) (tDf sp t) := by
  obtain ⟨f, fd, hm, hk, hb, F⟩ := D.ex
  refine ⟨fun pins s σ H Q I h => ?_⟩
  refine (pe_call F hr hg hm hk hb .nil pass0 ha hdb he hpl).run pins s σ H Q I ?_
  show t σ H fun vs H1 => sp (vs ++ []) H1 Q E0
  simp only [List.append_nil]
  exact h
theorem pe_df0 (D : Df X.prog X.w X.K X.mg X.base x ps k sp) (hr : Room k X.A) (hg : Gl X x) (hdb : (x == ("__debug__" : Str)) = false := by decide) :
    PE X (.Call (.Name x p) [] [] pos) (tDf sp (fun _ H Q => Q [] H)) := by
  obtain ⟨f, fd, hm, hk, hb, F⟩ := D.ex
  refine ⟨fun pins s σ H Q I h => ?_⟩
  exact (pe_call0 F hr hg hm hk hb .nil pass0 hdb).run pins s σ H Q I h
/-- a whole number of the module's top -/
theorem pe_gint {i : Int} (hg : Gl X x) (h : ∃ t, X.mg x = some (.int i t)) (hd : (x == ("__debug__" : Str)) = false := by decide) : PE X (.Name x pos) (tC (.int i)) := by
  obtain ⟨t, h⟩ := h
  exact pe_glob hg h ⟨t, rfl⟩ hd
end
theorem df_of {P : Program} {w : World} {K : PySem.W.Frag} {mg : Str → Option Value} {base : Heap} {x : Str} {ps : List Str} {k : Nat} {sp : Sp} {st : Stmt} {f : Addr} {fd : FuncData} (F : Fun K x x st f fd) (hm : mg x = some (.ref f)) (b : Binds K fd ps [])
    (G : FnOk P w K mg base CX0 k f fd ps sp) : Df P w K mg base x ps k sp := ⟨f, fd, hm, F.kp, b, G⟩

theorem same_upd {H : Hp} {p : Addr} {o : HO} (h : H p = none) : Same H (upd H p o) := fun b x e => by
  rw [upd_ne (ne_of_none e h)]
  exact e
theorem seqT {K : PySem.W.Frag} {H H' : Hp} {a : Addr} {xs : List V} (e : Same H H') (h : SqT K H a xs) : SqT K H' a xs := by
  rcases h with (h | ⟨o, h⟩) | h
  · exact .inl (.inl (e _ _ h))
  · exact .inl (.inr ⟨o, e _ _ h⟩)
  · exact .inr h
/-- a new object: the heap behind it under a letter -/
@[elab_as_elim] theorem gen_upd {H : Hp} {p : Addr} {o : HO} {motive : Hp → Prop} (np : H p = none) (h : ∀ H2, Same H H2 → H2 p = some o → (∀ b, b ≠ p → H2 b = H b) → motive H2) : motive (upd H p o) := h _ (same_upd np) upd_same fun _ e => upd_ne e
/-- a changed object -/
@[elab_as_elim] theorem gen_set {H : Hp} (l : Addr) {o : HO} {motive : Hp → Prop} (h : ∀ H2, H2 l = some o → (∀ b, b ≠ l → H2 b = H b) → motive H2) : motive (upd H l o) := h _ upd_same fun _ e => upd_ne e
mutual
theorem dp_same {K : PySem.W.Frag} {H H' : Hp} (e : Same H H') : ∀ {v : V} {d : PyData}, Dp K H v d → Dp K H' v d
  | _, _, .non => .non
  | _, _, .bl b => .bl b
  | _, _, .int i => .int i
  | _, _, .str x => .str x
  | _, _, .lst h a => .lst (e.seq h) (dpAll_same e a)
  | _, _, .tup h a => .tup (seqT e h) (dpAll_same e a)
theorem dpAll_same {K : PySem.W.Frag} {H H' : Hp} (e : Same H H') : ∀ {vs : List V} {ds : List PyData}, DpAll K H vs ds → DpAll K H' vs ds
  | _, _, .nil => .nil
  | _, _, .cons h a => .cons (dp_same e h) (dpAll_same e a)
end
theorem dpAll_length {K : PySem.W.Frag} {H : Hp} : ∀ {vs : List V} {ds : List PyData}, DpAll K H vs ds → vs.length = ds.length
  | _, _, .nil => rfl
  | _, _, .cons _ a => congrArg (· + 1) (dpAll_length a)
theorem dpAll_get {K : PySem.W.Frag} {H : Hp} : ∀ {vs : List V} {ds : List PyData} {i : Nat} {v : V}, DpAll K H vs ds → vs[i]? = some v → ∃ d, ds[i]? = some d ∧ Dp K H v d
  | _, _, _, _, .nil, e => by simp at e
  | _, _, 0, _, .cons h _, e => by simp at e; subst e; exact ⟨_, rfl, h⟩
  | _, _, i + 1, _, .cons _ a, e => by
    obtain ⟨d, h1, h2⟩ := dpAll_get (i := i) a (by simpa using e)
    exact ⟨d, by simpa using h1, h2⟩
theorem dpAll_getD {K : PySem.W.Frag} {H : Hp} : ∀ {vs : List V} {ds : List PyData} {i : Nat} {d : PyData}, DpAll K H vs ds → ds[i]? = some d → ∃ v, vs[i]? = some v ∧ Dp K H v d
  | _, _, _, _, .nil, e => by simp at e
  | _, _, 0, _, .cons h _, e => by simp at e; subst e; exact ⟨_, rfl, h⟩
  | _, _, i + 1, _, .cons _ a, e => by
    obtain ⟨d, h1, h2⟩ := dpAll_getD (i := i) a (by simpa using e)
    exact ⟨d, by simpa using h1, h2⟩
/-- over a list that stands still, the list read off a fact -/
theorem lc_listE {K : PySem.W.Frag} {a : Addr} {xs : List V} {g : TG} {tt : TT} {te : TE} {vs : List Nat} {σ : L2.St} {H0 H1 : Hp} {D : Addr} {Qd : Hp → Prop} (_ : SqL K H0 a xs) (Pv : Nat → Hp → Prop) (h0 : Pv 0 (upd H1 D (.lst []))) (hl : ∀ i H, i ≤ xs.length → Pv i H → SqL K H a xs)
    (hs : ∀ i x H, xs[i]? = some x → Pv i H → g x (wipe σ vs) H fun σ2 H2 => wipe σ2 vs = wipe σ vs ∧ tt σ2 H2 fun b H3 =>
      if b = true then te σ2 H3 fun y H4 => ∃ acc, H4 D = some (.lst acc) ∧ acc.length < sizeLine ∧ Pv (i + 1) (upd H4 D (.lst (acc ++ [y]))) else Pv (i + 1) H3) (hd : ∀ H, Pv xs.length H → Qd H) :
    ∃ W : Nat → Nat → Hp → Prop, (∃ m, W 0 m (upd H1 D (.lst []))) ∧ ∀ i m H, W i m H →
      ((Itl K a).stop i H ∧ Qd H) ∨ ((Itl K a).go i H ∧ ∃ Nx : Hp → Prop, (∀ H', Nx H' → ∃ m', m' < m ∧ W (i + 1) m' H') ∧ ∀ x H', (Itl K a).yld i H x H' → g x (wipe σ vs) H' fun σ2 H2 => wipe σ2 vs = wipe σ vs ∧ tt σ2 H2 fun b H3 =>
        if b = true then te σ2 H3 fun y H4 => ∃ acc, H4 D = some (.lst acc) ∧ acc.length < sizeLine ∧ Nx (upd H4 D (.lst (acc ++ [y]))) else Nx H3) := lc_list Pv h0 hl hs hd
theorem for_listE {K : PySem.W.Frag} {a : Addr} {xs : List V} {g : TG} {tb : TS} {D : Ends} {σ : L2.St} {H0 H : Hp} (_ : SqL K H0 a xs) (Pv : Nat → L2.St → Hp → Prop) (h0 : Pv 0 σ H) (hl : ∀ i σ H, i ≤ xs.length → Pv i σ H → SqL K H a xs)
    (hs : ∀ i x σ H, xs[i]? = some x → Pv i σ H → g x σ H fun σ2 H2 => tb { D with nx := Pv (i + 1), ct := Pv (i + 1), bk := D.nx } σ2 H2) (hd : ∀ σ H, Pv xs.length σ H → D.nx σ H) :
    ∃ W : Nat → Nat → L2.St → Hp → Prop, (∃ m, W 0 m σ H) ∧ ∀ i m σ H, W i m σ H →
      ((Itl K a).stop i H ∧ D.nx σ H) ∨ ((Itl K a).go i H ∧ ∃ N : L2.St → Hp → Prop, (∀ σ' H', N σ' H' → ∃ m', m' < m ∧ W (i + 1) m' σ' H') ∧ ∀ x H', (Itl K a).yld i H x H' → g x σ H' fun σ2 H2 => tb { D with nx := N, ct := N, bk := D.nx } σ2 H2) := for_list Pv h0 hl hs hd
theorem for_tupE {K : PySem.W.Frag} {a : Addr} {xs : List V} {g : TG} {tb : TS} {D : Ends} {σ : L2.St} {H0 H : Hp} (_ : SqT K H0 a xs) (Pv : Nat → L2.St → Hp → Prop) (h0 : Pv 0 σ H) (hl : ∀ i σ H, i ≤ xs.length → Pv i σ H → SqT K H a xs)
    (hs : ∀ i x σ H, xs[i]? = some x → Pv i σ H → g x σ H fun σ2 H2 => tb { D with nx := Pv (i + 1), ct := Pv (i + 1), bk := D.nx } σ2 H2) (hd : ∀ σ H, Pv xs.length σ H → D.nx σ H) :
    ∃ W : Nat → Nat → L2.St → Hp → Prop, (∃ m, W 0 m σ H) ∧ ∀ i m σ H, W i m σ H →
      ((Itt K a).stop i H ∧ D.nx σ H) ∨ ((Itt K a).go i H ∧ ∃ N : L2.St → Hp → Prop, (∀ σ' H', N σ' H' → ∃ m', m' < m ∧ W (i + 1) m' σ' H') ∧ ∀ x H', (Itt K a).yld i H x H' → g x σ H' fun σ2 H2 => tb { D with nx := N, ct := N, bk := D.nx } σ2 H2) := for_tup Pv h0 hl hs hd
theorem mul_ok {i j : Int} (ha : i.natAbs < 2 ^ 9000) (hb : j.natAbs < 2 ^ 9000) : CMulW i j := wide_mul ha hb (by decide) (by decide) (by decide)
theorem nat_lt {i : Int} {a b : Nat} (h0 : 0 ≤ i) (h : i < 2 ^ a) (hab : a ≤ b) : i.natAbs < 2 ^ b := by
  have h1 : i.natAbs < 2 ^ a := by
    have e : ((2 : Int) ^ a) = (((2 : Nat) ^ a : Nat) : Int) := by rw [Int.natCast_pow]; rfl
    rw [e] at h
    omega
  exact Nat.lt_of_lt_of_le h1 (Nat.pow_le_pow_right (by decide) hab)

end Z

namespace Z
open PySem PySem.Spec PyProof.Rows L2
theorem iteD {p A B : Prop} [Decidable p] (h : p) (g : A) : if decide p = true then A else B := by
  rw [if_pos (decide_eq_true h)]
  exact g
theorem iteN {p A B : Prop} [Decidable p] (h : ¬ p) (g : B) : if decide p = true then A else B := by
  rw [if_neg (by rw [decide_eq_false h]; exact Bool.false_ne_true)]
  exact g
theorem ite3 {p A B : Prop} [Decidable p] (h1 : p → A) (h2 : ¬ p → B) : if decide p = true then A else B := by
  by_cases h : p
  · exact iteD h (h1 h)
  · exact iteN h (h2 h)
theorem iteI {i j : Int} {A B : Prop} (h1 : i = j → A) (h2 : i ≠ j → B) : if decide (V.int i = V.int j) = true then A else B :=
  ite3 (fun e => h1 (V.int.inj e)) fun e => h2 fun q => e (congrArg V.int q)
theorem iteIn {i j : Int} {A B : Prop} (h1 : i ≠ j → A) (h2 : i = j → B) : if (!decide (V.int i = V.int j)) = true then A else B := by
  by_cases h : i = j
  · rw [decide_eq_true (congrArg V.int h)]
    exact iteF (h2 h)
  · rw [decide_eq_false (fun e => h (V.int.inj e))]
    exact iteT (h1 h)
theorem decVI {i j : Int} : decide (V.int i = V.int j) = decide (i = j) := by
  by_cases h : i = j
  · rw [decide_eq_true h, decide_eq_true (congrArg V.int h)]
  · rw [decide_eq_false h, decide_eq_false (fun e => h (V.int.inj e))]

/-! ### cells of the script -/
def cell (ns : List Int) (k : Int) : Int := (ns[k.toNat]?).getD 0
def spCellAt (K : PySem.W.Frag) : Sp := fun vs H Q _ => ∃ (a : Addr) (ns : List Int) (k : Int), vs = [.ref a, .int k] ∧ SqL K H a (ns.map V.int) ∧ 0 ≤ k ∧ ∀ i : Int, i = cell ns k → Q (.int i) H
theorem int_at {ns : List Int} {k : Int} (h0 : 0 ≤ k) (h : k < ((ns.map V.int).length : Nat)) : atI (ns.map V.int) k = some (V.int (cell ns k)) := by
  have h1 : k.toNat < ns.length := by
    rw [List.length_map] at h
    omega
  have e : k = ((k.toNat : Nat) : Int) := by omega
  rw [e]
  refine atI_nat ?_
  rw [List.getElem?_map, List.getElem?_eq_getElem h1]
  unfold cell
  have e2 : (((k.toNat : Nat) : Int)).toNat = k.toNat := by omega
  rw [e2, List.getElem?_eq_getElem h1]
  rfl
theorem cell_out {ns : List Int} {k : Int} (h : ¬ k < ((ns.map V.int).length : Nat)) : cell ns k = 0 := by
  rw [List.length_map] at h
  unfold cell
  rw [List.getElem?_eq_none (by omega)]
  rfl
/-- a whole number, no truth -/
def isI : V → Bool
  | .int _ => true
  | _ => false
def flat : V → Bool
  | .int _ => true
  | .bl _ => true
  | .non => true
  | .str _ => true
  | _ => false
def spWhole : Sp := fun vs H Q _ => ∃ v : V, vs = [v] ∧ flat v = true ∧ Q (.bl (isI v)) H
def tyF : V → String
  | .int _ => "int"
  | .bl _ => "bool"
  | .str _ => "str"
  | _ => "NoneType"
theorem tyx_flat {K : PySem.W.Frag} {H : Hp} : ∀ {v : V}, flat v = true → TyX K H v (.type (tyF v))
  | .int i, _ => .base (.int i)
  | .bl b, _ => .base (.bl b)
  | .str x, _ => .base (.str x)
  | .non, _ => .base .non
  | .byt _, h => nomatch h
  | .flt _, h => nomatch h
  | .ref _, h => nomatch h
  | .ty _, h => nomatch h
def isIB : V → Bool
  | .int _ => true
  | .bl _ => true
  | _ => false
def isB : V → Bool
  | .bl _ => true
  | _ => false
theorem kit_int {K : PySem.W.Frag} : ∀ {v : V}, flat v = true → PySem.W.kitOne K (.type (tyF v)) (.type "int") = some (isIB v)
  | .int i, _ => show PySem.W.kitOne K (.type "int") (.type "int") = some true from kit_ty (by decide +kernel)
  | .bl b, _ => show PySem.W.kitOne K (.type "bool") (.type "int") = some true from kit_ty (by decide +kernel)
  | .str x, _ => show PySem.W.kitOne K (.type "str") (.type "int") = some false from kit_ty (by decide +kernel)
  | .non, _ => show PySem.W.kitOne K (.type "NoneType") (.type "int") = some false from kit_ty (by decide +kernel)
  | .byt _, h => nomatch h
  | .flt _, h => nomatch h
  | .ref _, h => nomatch h
  | .ty _, h => nomatch h
theorem kit_bool {K : PySem.W.Frag} : ∀ {v : V}, flat v = true → PySem.W.kitOne K (.type (tyF v)) (.type "bool") = some (isB v)
  | .int i, _ => show PySem.W.kitOne K (.type "int") (.type "bool") = some false from kit_ty (by decide +kernel)
  | .bl b, _ => show PySem.W.kitOne K (.type "bool") (.type "bool") = some true from kit_ty (by decide +kernel)
  | .str x, _ => show PySem.W.kitOne K (.type "str") (.type "bool") = some false from kit_ty (by decide +kernel)
  | .non, _ => show PySem.W.kitOne K (.type "NoneType") (.type "bool") = some false from kit_ty (by decide +kernel)
  | .byt _, h => nomatch h
  | .flt _, h => nomatch h
  | .ref _, h => nomatch h
  | .ty _, h => nomatch h
theorem isI_eq (v : V) : (if isIB v = true then !isB v else false) = isI v := by cases v <;> rfl

/-! ### powers -/
def spPowered : Sp := fun vs H Q _ => ∃ b e n : Int, vs = [.int b, .int e, .int n] ∧ 0 ≤ e ∧ 0 < n ∧ n < 2 ^ 4000 ∧ Q (.int (b ^ e.toNat % n)) H
/-- the loop of powers by squares: l * s ^ r is what is asked -/
def InvPow (b e n : Int) (H : Hp) (m : Nat) (σ : L2.St) (H' : Hp) : Prop := ∃ l s r : Int, σ = [some (.int b), some (.int e), some (.int n), some (.int l), some (.int s), some (.int r)] ∧ H' = H ∧ m = r.toNat ∧ 0 ≤ r ∧ 0 ≤ l ∧ l < n ∧ 0 ≤ s ∧ s < n ∧
  l * s ^ r.toNat % n = b ^ e.toNat % n
theorem pow_mod (a n : Int) (k : Nat) : (a % n) ^ k % n = a ^ k % n := by
  induction k with
  | zero => simp
  | succ k ih =>
    rw [Int.pow_succ, Int.pow_succ, Int.mul_emod, ih, Int.emod_emod, ← Int.mul_emod]
theorem pow_start (b e n : Int) : 1 % n * (b % n) ^ e.toNat % n = b ^ e.toNat % n := by
  rw [Int.mul_emod, Int.emod_emod, pow_mod, ← Int.mul_emod, Int.one_mul]
theorem pow_even (l s n : Int) (r : Int) (h0 : 0 < r) (h : r % 2 = 0) : l * (s * s % n) ^ (r / 2).toNat % n = l * s ^ r.toNat % n := by
  have e : r.toNat = 2 * (r / 2).toNat := by omega
  rw [Int.mul_emod, pow_mod, ← Int.mul_emod, e, Int.pow_mul, Int.pow_succ, Int.pow_succ, Int.pow_zero, Int.one_mul]
theorem pow_odd (l s n : Int) (r : Int) (h0 : 0 < r) (h : r % 2 = 1) : (l * s % n) * (s * s % n) ^ (r / 2).toNat % n = l * s ^ r.toNat % n := by
  have e : r.toNat = 2 * (r / 2).toNat + 1 := by omega
  rw [Int.mul_emod, Int.emod_emod, pow_mod, ← Int.mul_emod, e, Int.pow_succ, Int.pow_mul, Int.pow_succ s 1, Int.pow_succ s 0, Int.pow_zero, Int.one_mul]
  congr 1
  rw [Int.mul_assoc, Int.mul_comm s]
theorem small_of {i n : Int} (h0 : 0 ≤ i) (h : i < n) (hn : n < 2 ^ 4000) : i.natAbs < 2 ^ 9000 := nat_lt (a := 4000) h0 (by omega) (by decide)

/-! ### least divisors -/
def spLeast : Sp := fun vs H Q _ => ∃ n : Int, vs = [.int n] ∧ 2 ≤ n ∧ n ≤ 1000000 ∧ ∀ d : Int, 2 ≤ d → n % d = 0 → (∀ e : Int, 2 ≤ e → e < d → n % e ≠ 0) → (d = n ∨ d * d ≤ n) → Q (.int d) H

/-! ### the law of powers -/
def spSize (K : PySem.W.Frag) : Sp := fun vs H Q _ => ∃ (a : Addr) (ns : List Int) (k low many : Int), vs = [.ref a, .int k, .int low, .int many] ∧ SqL K H a (ns.map V.int) ∧ 0 ≤ k ∧ 0 ≤ low ∧ low ≤ 1 ∧ 0 < many ∧ many ≤ 13 ∧
  ∀ r : Int, low ≤ r → r ≤ 10 ^ 30 + 13 → Q (.int r) H
def spTimes : Sp := fun vs H Q _ => ∃ b e n : Int, vs = [.int b, .int e, .int n] ∧ 0 ≤ b ∧ b ≤ 2 ^ 100 ∧ 0 ≤ e ∧ e ≤ 12 ∧ 0 < n ∧ Q (.int (b ^ e.toNat % n)) H
def spLaw (K : PySem.W.Frag) : Sp := fun vs H Q _ => ∃ (a : Addr) (ns : List Int), vs = [.ref a] ∧ SqL K H a (ns.map V.int) ∧ ns.length ≤ 63 ∧ ∀ H', Q (.bl true) H'
end Z
namespace Z
open PySem PySem.Spec PyProof.Rows L2
theorem pow_abs (b : Int) (c : Nat) (hb0 : 0 ≤ b) (hb : b ≤ 2 ^ c) : ∀ i : Nat, 0 ≤ b ^ i ∧ (b ^ i).natAbs ≤ 2 ^ (c * i)
  | 0 => by simp
  | i + 1 => by
    obtain ⟨h1, h2⟩ := pow_abs b c hb0 hb i
    have hb' : b.natAbs ≤ 2 ^ c := by
      have e : ((2 : Int) ^ c) = (((2 : Nat) ^ c : Nat) : Int) := by rw [Int.natCast_pow]; rfl
      rw [e] at hb
      omega
    refine ⟨by rw [Int.pow_succ]; exact Int.mul_nonneg h1 hb0, ?_⟩
    rw [Int.pow_succ, Int.natAbs_mul, Nat.mul_succ, Nat.pow_add]
    exact Nat.mul_le_mul h2 hb'
theorem times_ok {b : Int} {i : Nat} (hb0 : 0 ≤ b) (hb : b ≤ 2 ^ 100) (hi : i < 12) : CMulW (b ^ i) b := by
  obtain ⟨_, h2⟩ := pow_abs b 100 hb0 hb i
  refine mul_ok (Nat.lt_of_le_of_lt h2 (Nat.pow_lt_pow_right (by decide) (by omega))) ?_
  have h3 := (pow_abs b 100 hb0 hb 1).2
  rw [Int.pow_succ, Int.pow_zero, Int.one_mul] at h3
  exact Nat.lt_of_le_of_lt h3 (Nat.pow_lt_pow_right (by decide) (by omega))
end Z

namespace Z
open PySem PySem.Spec PyProof.Rows L2
def spNumber (K : PySem.W.Frag) : Sp := fun vs H Q _ => ∃ (a : Addr) (ns : List Int), vs = [.ref a] ∧ SqL K H a (ns.map V.int) ∧ ∀ r : Int, 2 ≤ r → r ≤ 1000000 → Q (.int r) H
/-- none from 2 on below d divides n -/
def InvLeast (n : Int) (H : Hp) (m : Nat) (σ : L2.St) (H' : Hp) : Prop := ∃ d : Int, σ = [some (.int n), some (.int d)] ∧ H' = H ∧ m = (n - d).toNat ∧ 2 ≤ d ∧ d ≤ n ∧ ∀ e : Int, 2 ≤ e → e < d → n % e ≠ 0
theorem least_next {n d : Int} (hd : n % d ≠ 0) (h : ∀ e : Int, 2 ≤ e → e < d → n % e ≠ 0) : ∀ e : Int, 2 ≤ e → e < d + 1 → n % e ≠ 0 := fun e h1 h2 => by
  by_cases e1 : e = d
  · rw [e1]
    exact hd
  · exact h e h1 (by omega)
theorem sq_lt {d n : Int} (h2 : 2 ≤ d) (h : d * d ≤ n) : d < n := by
  have h1 : d * 2 ≤ d * d := Int.mul_le_mul_of_nonneg_left h2 (by omega)
  omega
/-- where none below the root divides, none does -/
theorem least_all {n d : Int} (h2 : 2 ≤ d) (hn : 2 ≤ n) (hs : ¬ d * d ≤ n) (h : ∀ e : Int, 2 ≤ e → e < d → n % e ≠ 0) : ∀ e : Int, 2 ≤ e → e < n → n % e ≠ 0 := fun e h1 he hz => by
  by_cases hd : e < d
  · exact h e h1 hd hz
  · have hf : e * (n / e) = n := by
      have q := Int.mul_ediv_add_emod n e
      rw [hz, Int.add_zero] at q
      exact q
    have f1 : 2 ≤ n / e := by
      by_cases c : n / e ≤ 1
      · exfalso
        have : e * (n / e) ≤ e * 1 := Int.mul_le_mul_of_nonneg_left c (by omega)
        omega
      · omega
    have f2 : n / e < d := by
      by_cases c : n / e < d
      · exact c
      · exfalso
        have q1 : d * d ≤ e * (n / e) := Int.mul_le_mul (by omega) (by omega) (by omega) (by omega)
        omega
    refine h (n / e) f1 f2 ?_
    rw [← hf]
    rw [Int.mul_ediv_cancel_left _ (by omega)]
    exact Int.mul_emod_left _ _
theorem sml {i : Int} (h0 : 0 ≤ i) (h : i ≤ 1000000) : i.natAbs < 2 ^ 9000 := nat_lt (a := 20) h0 (by omega) (by decide)
theorem prod_in {x y : Int} (hx : 1 ≤ x) (hy : 2 ≤ y) (hx2 : x ≤ 1000) (hy2 : y ≤ 1000) : 2 ≤ y * x ∧ y * x ≤ 1000000 := by
  have h1 : 2 * 1 ≤ y * x := Int.mul_le_mul hy hx (by omega) (by omega)
  have h2 : y * x ≤ 1000 * 1000 := Int.mul_le_mul hy2 hx2 (by omega) (by omega)
  omega
end Z
namespace Z
open PySem PySem.Spec PyProof.Rows L2
/-- the law's own search -/
def InvSeek (a : Addr) (n d : Int) (H : Hp) (m : Nat) (σ : L2.St) (H' : Hp) : Prop := ∃ e : Int, σ = [some (.ref a), some (.int n), some (.int d), some (.int e)] ∧ H' = H ∧ m = (n - e).toNat ∧ 2 ≤ e ∧ e ≤ n
end Z

namespace Z
open PySem PySem.Spec PyProof.Rows L2
/-! ### data and their kinds -/
def tyD : PyData → String
  | .none => "NoneType"
  | .bool _ => "bool"
  | .int _ => "int"
  | .str _ => "str"
  | .list _ => "list"
  | .tuple _ => "tuple"
  | .dict _ => "dict"
theorem tyx_lst {K : PySem.W.Frag} {H : Hp} {a : Addr} {xs : List V} (h : SqL K H a xs) : TyX K H (.ref a) (.type "list") := by
  rcases h with (h | ⟨o, h⟩) | ⟨o, its, n, h, hc, _⟩
  · exact .base (.lst h)
  · exact .base (.frz h)
  · exact .kList h hc
theorem tyx_tup {K : PySem.W.Frag} {H : Hp} {a : Addr} {xs : List V} (h : SqT K H a xs) : TyX K H (.ref a) (.type "tuple") := by
  rcases h with (h | ⟨o, h⟩) | ⟨o, its, n, h, hc, _⟩
  · exact .base (.tup h)
  · exact .fTuple h
  · exact .kTuple h hc
theorem tyx_dp {K : PySem.W.Frag} {H : Hp} {v : V} {d : PyData} (h : Dp K H v d) : TyX K H v (.type (tyD d)) := by
  cases h with
  | non => exact .base .non
  | bl b => exact .base (.bl b)
  | int i => exact .base (.int i)
  | str x => exact .base (.str x)
  | lst h _ => exact tyx_lst h
  | tup h _ => exact tyx_tup h
def isTupD : PyData → Bool
  | .tuple _ => true
  | _ => false
def isLstD : PyData → Bool
  | .list _ => true
  | _ => false
def isIntD : PyData → Bool
  | .int _ => true
  | .bool _ => true
  | _ => false
def isBoolD : PyData → Bool
  | .bool _ => true
  | _ => false
def isStrD : PyData → Bool
  | .str _ => true
  | _ => false
theorem kit_tupD {K : PySem.W.Frag} (d : PyData) : PySem.W.kitOne K (.type (tyD d)) (.type "tuple") = some (isTupD d) := by
  cases d with
  | none => exact (show PySem.W.kitOne K (.type "NoneType") (.type "tuple") = some false from kit_ty (by decide +kernel))
  | bool b => exact (show PySem.W.kitOne K (.type "bool") (.type "tuple") = some false from kit_ty (by decide +kernel))
  | int i => exact (show PySem.W.kitOne K (.type "int") (.type "tuple") = some false from kit_ty (by decide +kernel))
  | str x => exact (show PySem.W.kitOne K (.type "str") (.type "tuple") = some false from kit_ty (by decide +kernel))
  | list x => exact (show PySem.W.kitOne K (.type "list") (.type "tuple") = some false from kit_ty (by decide +kernel))
  | tuple x => exact (show PySem.W.kitOne K (.type "tuple") (.type "tuple") = some true from kit_ty (by decide +kernel))
  | dict x => exact (show PySem.W.kitOne K (.type "dict") (.type "tuple") = some false from kit_ty (by decide +kernel))
theorem kit_lstD {K : PySem.W.Frag} (d : PyData) : PySem.W.kitOne K (.type (tyD d)) (.type "list") = some (isLstD d) := by
  cases d with
  | none => exact (show PySem.W.kitOne K (.type "NoneType") (.type "list") = some false from kit_ty (by decide +kernel))
  | bool b => exact (show PySem.W.kitOne K (.type "bool") (.type "list") = some false from kit_ty (by decide +kernel))
  | int i => exact (show PySem.W.kitOne K (.type "int") (.type "list") = some false from kit_ty (by decide +kernel))
  | str x => exact (show PySem.W.kitOne K (.type "str") (.type "list") = some false from kit_ty (by decide +kernel))
  | list x => exact (show PySem.W.kitOne K (.type "list") (.type "list") = some true from kit_ty (by decide +kernel))
  | tuple x => exact (show PySem.W.kitOne K (.type "tuple") (.type "list") = some false from kit_ty (by decide +kernel))
  | dict x => exact (show PySem.W.kitOne K (.type "dict") (.type "list") = some false from kit_ty (by decide +kernel))
theorem kit_intD {K : PySem.W.Frag} (d : PyData) : PySem.W.kitOne K (.type (tyD d)) (.type "int") = some (isIntD d) := by
  cases d with
  | none => exact (show PySem.W.kitOne K (.type "NoneType") (.type "int") = some false from kit_ty (by decide +kernel))
  | bool b => exact (show PySem.W.kitOne K (.type "bool") (.type "int") = some true from kit_ty (by decide +kernel))
  | int i => exact (show PySem.W.kitOne K (.type "int") (.type "int") = some true from kit_ty (by decide +kernel))
  | str x => exact (show PySem.W.kitOne K (.type "str") (.type "int") = some false from kit_ty (by decide +kernel))
  | list x => exact (show PySem.W.kitOne K (.type "list") (.type "int") = some false from kit_ty (by decide +kernel))
  | tuple x => exact (show PySem.W.kitOne K (.type "tuple") (.type "int") = some false from kit_ty (by decide +kernel))
  | dict x => exact (show PySem.W.kitOne K (.type "dict") (.type "int") = some false from kit_ty (by decide +kernel))
theorem kit_boolD {K : PySem.W.Frag} (d : PyData) : PySem.W.kitOne K (.type (tyD d)) (.type "bool") = some (isBoolD d) := by
  cases d with
  | none => exact (show PySem.W.kitOne K (.type "NoneType") (.type "bool") = some false from kit_ty (by decide +kernel))
  | bool b => exact (show PySem.W.kitOne K (.type "bool") (.type "bool") = some true from kit_ty (by decide +kernel))
  | int i => exact (show PySem.W.kitOne K (.type "int") (.type "bool") = some false from kit_ty (by decide +kernel))
  | str x => exact (show PySem.W.kitOne K (.type "str") (.type "bool") = some false from kit_ty (by decide +kernel))
  | list x => exact (show PySem.W.kitOne K (.type "list") (.type "bool") = some false from kit_ty (by decide +kernel))
  | tuple x => exact (show PySem.W.kitOne K (.type "tuple") (.type "bool") = some false from kit_ty (by decide +kernel))
  | dict x => exact (show PySem.W.kitOne K (.type "dict") (.type "bool") = some false from kit_ty (by decide +kernel))
theorem kit_strD {K : PySem.W.Frag} (d : PyData) : PySem.W.kitOne K (.type (tyD d)) (.type "str") = some (isStrD d) := by
  cases d with
  | none => exact (show PySem.W.kitOne K (.type "NoneType") (.type "str") = some false from kit_ty (by decide +kernel))
  | bool b => exact (show PySem.W.kitOne K (.type "bool") (.type "str") = some false from kit_ty (by decide +kernel))
  | int i => exact (show PySem.W.kitOne K (.type "int") (.type "str") = some false from kit_ty (by decide +kernel))
  | str x => exact (show PySem.W.kitOne K (.type "str") (.type "str") = some true from kit_ty (by decide +kernel))
  | list x => exact (show PySem.W.kitOne K (.type "list") (.type "str") = some false from kit_ty (by decide +kernel))
  | tuple x => exact (show PySem.W.kitOne K (.type "tuple") (.type "str") = some false from kit_ty (by decide +kernel))
  | dict x => exact (show PySem.W.kitOne K (.type "dict") (.type "str") = some false from kit_ty (by decide +kernel))

/-! ### some datum -/
def DA (K : PySem.W.Frag) (H : Hp) (v : V) : Prop := ∃ d, Dp K H v d ∧ PyData.canLay0 d = true
theorem da_int {K : PySem.W.Frag} {H : Hp} (i : Int) : DA K H (.int i) := ⟨_, .int i, rfl⟩
theorem da_bl {K : PySem.W.Frag} {H : Hp} (i : Bool) : DA K H (.bl i) := ⟨_, .bl i, rfl⟩
theorem da_str {K : PySem.W.Frag} {H : Hp} (i : Str) (h : PyData.canLay0 (.str i) = true := by decide +kernel) : DA K H (.str i) := ⟨_, .str i, h⟩
theorem da_non {K : PySem.W.Frag} {H : Hp} : DA K H .non := ⟨_, .non, rfl⟩
theorem da_same {K : PySem.W.Frag} {H H' : Hp} {v : V} (e : Same H H') (h : DA K H v) : DA K H' v := by
  obtain ⟨d, hd, c⟩ := h
  exact ⟨d, dp_same e hd, c⟩
theorem das {K : PySem.W.Frag} {H : Hp} : ∀ {xs : List V}, (∀ v ∈ xs, DA K H v) → ∃ ds, DpAll K H xs ds ∧ PyData.canLayAll0 ds = true
  | [], _ => ⟨[], .nil, rfl⟩
  | x :: xs, h => by
    obtain ⟨d, hd, c⟩ := h x List.mem_cons_self
    obtain ⟨ds, hds, c2⟩ := das fun v hv => h v (List.mem_cons_of_mem _ hv)
    refine ⟨d :: ds, .cons hd hds, ?_⟩
    show (PyData.canLay0 d && PyData.canLayAll0 ds) = true
    rw [c, c2]
    rfl
theorem da_tup {K : PySem.W.Frag} {H : Hp} {a : Addr} {xs : List V} (e : SqT K H a xs) (h : ∀ v ∈ xs, DA K H v) : DA K H (.ref a) := by
  obtain ⟨ds, hd, c⟩ := das h
  exact ⟨_, .tup e hd, c⟩
theorem da_lst {K : PySem.W.Frag} {H : Hp} {a : Addr} {xs : List V} (e : SqL K H a xs) (h : ∀ v ∈ xs, DA K H v) : DA K H (.ref a) := by
  obtain ⟨ds, hd, c⟩ := das h
  exact ⟨_, .lst e hd, c⟩
/-- == of any datum with a small one -/
theorem op_eqM {X : Cx} (hu : X.A.units + 64 < cLine) : OpR X (compareOp .Eq) (fun x y H Q => ∃ d e, Dp X.K H x d ∧ Dp X.K H y e ∧ PyData.canLay0 d = true ∧ SeqAt.shaped e = true ∧ Q (.bl (PyData.eqv d e)) H) := by
  intro pins s σ H x y v u Q I rx ry h
  obtain ⟨d, e, hd, he, sd, se, q⟩ := h
  obtain ⟨as, r1⟩ := Dp.reads I d x v hd rx
  obtain ⟨bs, r2⟩ := Dp.reads I e y u he ry
  have h2 := SeqAt.depth_of_shaped se
  have h3 : min d.depth e.depth ≤ e.depth := Nat.min_le_right _ _
  exact SeqAt.compareEq_reads r1 r2 sd (SeqAt.canLay_of_shaped se) (by omega) ⟨.bl _, H, I, rfl, q⟩
theorem all1 {P : V → Prop} {a : V} (h : P a) : ∀ v ∈ [a], P v := fun v hv => by
  rw [List.mem_singleton.mp hv]
  exact h
theorem all0 {P : V → Prop} : ∀ v ∈ ([] : List V), P v := fun v hv => nomatch hv
theorem allc {P : V → Prop} {a : V} {xs : List V} (h : P a) (t : ∀ v ∈ xs, P v) : ∀ v ∈ a :: xs, P v := fun v hv => by
  rcases List.mem_cons.mp hv with e | e
  · rw [e]
    exact h
  · exact t v e
theorem all_app {P : V → Prop} {xs ys : List V} (h : ∀ v ∈ xs, P v) (t : ∀ v ∈ ys, P v) : ∀ v ∈ xs ++ ys, P v := fun v hv => by
  rcases List.mem_append.mp hv with e | e
  · exact h v e
  · exact t v e
theorem all_cut {P : V → Prop} {xs : List V} (h : ∀ v ∈ xs, P v) (lo hi : Option Int) : ∀ v ∈ cutV xs lo hi, P v := fun v hv => h v (List.mem_of_mem_drop (List.mem_of_mem_take hv))
/-- an item at an open place -/
theorem at_open {xs : List V} {k : Int} (h0 : 0 ≤ k) (h : k < (xs.length : Nat)) : ∃ v, atI xs k = some v ∧ v ∈ xs := by
  obtain ⟨j, rfl⟩ : ∃ j : Nat, k = (j : Int) := ⟨k.toNat, by omega⟩
  have h1 : j < xs.length := by omega
  exact ⟨xs[j], atI_nat (List.getElem?_eq_getElem h1), List.getElem_mem h1⟩
/-- an item of a short list of ints at an open place -/
theorem at_ints {ns : List Int} {k : Int} (h0 : 0 ≤ k) (h : k < (ns.length : Nat)) : ∃ i, atI (ns.map V.int) k = some (.int i) ∧ i ∈ ns := by
  obtain ⟨j, rfl⟩ : ∃ j : Nat, k = (j : Int) := ⟨k.toNat, by omega⟩
  have h1 : j < ns.length := by omega
  exact ⟨ns[j], atI_nat (by simp [List.getElem?_eq_getElem h1]), List.getElem_mem h1⟩

/-! ### what a row is, of data -/
abbrev B30 : Int := 1000000000000000000000000000000
def within (d : PyData) (lo hi : Int) : Bool := match d with
  | .int i => decide (lo ≤ i) && decide (i ≤ hi)
  | _ => false
def rising : Int → List PyData → Bool
  | _, [] => true
  | last, .tuple [q, t] :: r => match q with
    | .int i => decide (last + 1 ≤ i) && decide (i ≤ B30) && within t 1 100 && rising i r
    | _ => false
  | _, _ => false
def isPowers : PyData → Bool
  | .tuple [] => false
  | .tuple (p :: ps) => rising 1 (p :: ps)
  | _ => false
def isFacts (w : Str) (d : PyData) : Bool :=
  if w = "first" then (match d with | .tuple [] => true | _ => false)
  else if w = "prime" then (match d with | .tuple [b, p] => within b 1 B30 && isPowers p | _ => false)
  else if w = "split" then (match d with | .tuple [a, b] => within a 2 B30 && within b 2 B30 | _ => false)
  else if w = "power" ∨ w = "root" then (match d with | .tuple [b] => within b 1 B30 | _ => false)
  else false
def isRow : PyData → Bool
  | .tuple [n, .str w, f] => within n 2 B30 && isFacts w f
  | _ => false
def spIsNumber (K : PySem.W.Frag) : Sp := fun vs H Q _ => ∃ (v : V) (d : PyData) (lo hi : Int), vs = [v, .int lo, .int hi] ∧ Dp K H v d ∧ Q (.bl (within d lo hi)) H
def isTuple (d : PyData) (n : Int) : Bool := match d with
  | .tuple xs => decide ((xs.length : Int) = n)
  | _ => false
theorem eqv_nil (ds : List PyData) : PyData.eqv (.tuple ds) (.tuple []) = isTuple (.tuple ds) 0 := by
  cases ds with
  | nil => rfl
  | cons a t =>
    show false = decide (((a :: t).length : Int) = 0)
    rw [List.length_cons, decide_eq_false (by omega)]
def spIsTuple (K : PySem.W.Frag) : Sp := fun vs H Q _ => ∃ (v : V) (d : PyData) (n : Int), vs = [v, .int n] ∧ Dp K H v d ∧ Q (.bl (isTuple d n)) H
def spArePowers (K : PySem.W.Frag) : Sp := fun vs H Q _ => ∃ (v : V) (d : PyData), vs = [v] ∧ Dp K H v d ∧ Q (.bl (isPowers d)) H
def spAreFacts (K : PySem.W.Frag) : Sp := fun vs H Q _ => ∃ (v : V) (d : PyData) (w : Str), vs = [.str w, v] ∧ Dp K H v d ∧ Q (.bl (isFacts w d)) H
def spIsRow (K : PySem.W.Frag) : Sp := fun vs H Q _ => ∃ (v : V) (d : PyData), vs = [v] ∧ Dp K H v d ∧ Q (.bl (isRow d)) H
def spRising (K : PySem.W.Frag) : Sp := fun vs H Q _ => ∃ (a : Addr) (xs : List V) (ds : List PyData), vs = [.ref a] ∧ SqT K H a xs ∧ DpAll K H xs ds ∧ Q (.bl (rising 1 ds)) H

/-! ### mixed cells -/
def Cells (n : Nat) (cs : List Int) : Prop := cs.length = n ∧ ∀ c ∈ cs, 0 ≤ c ∧ c < 2147483647
def spMixed (K : PySem.W.Frag) : Sp := fun vs H Q _ => ∃ (a : Addr) (ns : List Int) (st many : Int), vs = [.ref a, .int st, .int many] ∧ SqL K H a (ns.map V.int) ∧ 0 ≤ st ∧ 0 ≤ many ∧ many ≤ 100 ∧
  ∀ (H' : Hp) (p : Addr) (cs : List Int), Same H H' → H p = none → H' p = some (.lst (cs.map V.int)) → Cells many.toNat cs → Q (.ref p) H'
def InvMixed (a : Addr) (st many : Int) (H : Hp) (p : Addr) (i : Nat) (σ : L2.St) (H' : Hp) : Prop := ∃ (y : Option V) (m : Int) (cs : List Int), σ = [some (.ref a), some (.int st), some (.int many), some (.ref p), some (.int m), y] ∧
  Same H H' ∧ H' p = some (.lst (cs.map V.int)) ∧ Cells i cs ∧ 0 ≤ m ∧ m < 2147483647
theorem cells_get {n : Nat} {cs : List Int} (h : Cells n cs) {k : Int} (h0 : 0 ≤ k) (h1 : k < n) : ∃ c, atI (cs.map V.int) k = some (.int c) ∧ 0 ≤ c ∧ c < 2147483647 := by
  obtain ⟨i, e, m⟩ := at_ints (ns := cs) h0 (by rw [h.1]; exact h1)
  exact ⟨i, e, h.2 i m⟩
end Z
namespace Z
open PySem PySem.Spec PyProof.Rows L2
section
variable {K : PySem.W.Frag} {H : Hp}
theorem dp_tup {v : V} {ds : List PyData} (h : Dp K H v (.tuple ds)) : ∃ a xs, v = .ref a ∧ SqT K H a xs ∧ DpAll K H xs ds := by
  cases h with
  | tup e t => exact ⟨_, _, rfl, e, t⟩
theorem dp_all1 {xs : List V} {a : PyData} (h : DpAll K H xs [a]) : ∃ x, xs = [x] ∧ Dp K H x a := by
  cases h with
  | cons h1 t => cases t; exact ⟨_, rfl, h1⟩
theorem dp_all2 {xs : List V} {a b : PyData} (h : DpAll K H xs [a, b]) : ∃ x y, xs = [x, y] ∧ Dp K H x a ∧ Dp K H y b := by
  cases h with
  | cons h1 t =>
    obtain ⟨y, rfl, h2⟩ := dp_all1 t
    exact ⟨_, _, rfl, h1, h2⟩
theorem dp_all3 {xs : List V} {a b c : PyData} (h : DpAll K H xs [a, b, c]) : ∃ x y z, xs = [x, y, z] ∧ Dp K H x a ∧ Dp K H y b ∧ Dp K H z c := by
  cases h with
  | cons h1 t =>
    obtain ⟨y, z, rfl, h2⟩ := dp_all2 t
    exact ⟨_, _, _, rfl, h1, h2⟩
theorem dp_all0 {xs : List V} (h : DpAll K H xs []) : xs = [] := by
  cases h
  rfl
end
theorem len0 {ds : List PyData} {n : Int} (h : decide ((ds.length : Int) = n) = true) : (ds.length : Int) = n := of_decide_eq_true h
theorem isTuple_any {d : PyData} {n : Int} (h : isTuple d n = true) : ∃ ds, d = .tuple ds ∧ (ds.length : Int) = n := by
  cases d with
  | tuple ds => exact ⟨ds, rfl, of_decide_eq_true h⟩
  | _ => exact absurd h Bool.false_ne_true
theorem isTuple_0 {d : PyData} (h : isTuple d 0 = true) : d = .tuple [] := by
  obtain ⟨ds, rfl, e⟩ := isTuple_any h
  cases ds with
  | nil => rfl
  | cons a t =>
    rw [List.length_cons] at e
    omega
theorem isTuple_1 {d : PyData} (h : isTuple d 1 = true) : ∃ a, d = .tuple [a] := by
  obtain ⟨ds, rfl, e⟩ := isTuple_any h
  match ds, e with
  | [a], _ => exact ⟨a, rfl⟩
  | [], e => exact absurd e (by decide)
  | _ :: _ :: _, e =>
    rw [List.length_cons, List.length_cons] at e
    omega
theorem isTuple_2 {d : PyData} (h : isTuple d 2 = true) : ∃ a b, d = .tuple [a, b] := by
  obtain ⟨ds, rfl, e⟩ := isTuple_any h
  match ds, e with
  | [a, b], _ => exact ⟨a, b, rfl⟩
  | [], e => exact absurd e (by decide)
  | [_], e => exact absurd e (by simp)
  | _ :: _ :: _ :: _, e =>
    rw [List.length_cons, List.length_cons, List.length_cons] at e
    omega
theorem isTuple_3 {d : PyData} (h : isTuple d 3 = true) : ∃ a b c, d = .tuple [a, b, c] := by
  obtain ⟨ds, rfl, e⟩ := isTuple_any h
  match ds, e with
  | [a, b, c], _ => exact ⟨a, b, c, rfl⟩
  | [], e => exact absurd e (by decide)
  | [_], e => exact absurd e (by simp)
  | [_, _], e => exact absurd e (by simp)
  | _ :: _ :: _ :: _ :: _, e =>
    rw [List.length_cons, List.length_cons, List.length_cons, List.length_cons] at e
    omega
/-- a pair that is none, or not of two, or not rising -/
theorem rising_no {last : Int} {d : PyData} {r : List PyData} (h : isTuple d 2 = false) : rising last (d :: r) = false := by
  match d, h with
  | .tuple [a, b], h => exact absurd (show true = false from h) (by decide)
  | .tuple [], _ => rfl
  | .tuple [_], _ => rfl
  | .tuple (_ :: _ :: _ :: _), _ => rfl
  | .none, _ => rfl
  | .bool _, _ => rfl
  | .int _, _ => rfl
  | .str _, _ => rfl
  | .list _, _ => rfl
  | .dict _, _ => rfl
theorem within_int {d : PyData} {lo hi : Int} (h : within d lo hi = true) : ∃ i, d = .int i ∧ lo ≤ i ∧ i ≤ hi := by
  cases d with
  | int i =>
    have h2 : (decide (lo ≤ i) && decide (i ≤ hi)) = true := h
    rw [Bool.and_eq_true] at h2
    exact ⟨i, rfl, of_decide_eq_true h2.1, of_decide_eq_true h2.2⟩
  | _ => exact absurd h Bool.false_ne_true
theorem within_of {i lo hi : Int} (h1 : lo ≤ i) (h2 : i ≤ hi) : within (.int i) lo hi = true := by
  show (decide (lo ≤ i) && decide (i ≤ hi)) = true
  rw [decide_eq_true h1, decide_eq_true h2]
  rfl
theorem rising_q {last : Int} {q t : PyData} {r : List PyData} (h : within q (last + 1) B30 = false) : rising last (.tuple [q, t] :: r) = false := by
  cases q with
  | int i =>
    show (decide (last + 1 ≤ i) && decide (i ≤ B30) && within t 1 100 && rising i r) = false
    have h2 : (decide (last + 1 ≤ i) && decide (i ≤ B30)) = false := h
    rw [h2]
    rfl
  | _ => rfl
theorem rising_t {last : Int} {q t : PyData} {r : List PyData} (h : within t 1 100 = false) : rising last (.tuple [q, t] :: r) = false := by
  cases q with
  | int i =>
    show (decide (last + 1 ≤ i) && decide (i ≤ B30) && within t 1 100 && rising i r) = false
    rw [h, Bool.and_false, Bool.false_and]
  | _ => rfl
theorem rising_yes {last i : Int} {t : PyData} {r : List PyData} (h1 : last + 1 ≤ i) (h2 : i ≤ B30) (h3 : within t 1 100 = true) : rising last (.tuple [.int i, t] :: r) = rising i r := by
  show (decide (last + 1 ≤ i) && decide (i ≤ B30) && within t 1 100 && rising i r) = rising i r
  rw [decide_eq_true h1, decide_eq_true h2, h3]
  rfl
theorem drop_get {α : Type} {xs : List α} {i : Nat} {x : α} (h : xs[i]? = some x) : xs.drop i = x :: xs.drop (i + 1) := by
  obtain ⟨hi, e⟩ := List.getElem?_eq_some_iff.mp h
  rw [← e]
  exact List.drop_eq_getElem_cons hi
end Z
namespace Z
open PySem PySem.Spec PyProof.Rows L2
theorem isRow_no {d : PyData} (h : isTuple d 3 = false) : isRow d = false := by
  match d, h with
  | .tuple [a, b, c], h => exact absurd (show true = false from h) (by decide)
  | .tuple [], _ => rfl
  | .tuple [_], _ => rfl
  | .tuple [_, y], _ => cases y <;> rfl
  | .tuple (_ :: y :: _ :: _ :: _), _ => cases y <;> rfl
  | .none, _ => rfl
  | .bool _, _ => rfl
  | .int _, _ => rfl
  | .str _, _ => rfl
  | .list _, _ => rfl
  | .dict _, _ => rfl
/-- what the facts are, of two, of one -/
def fTwo (p1 p2 : PyData → Bool) (d : PyData) : Bool := match d with
  | .tuple [a, b] => p1 a && p2 b
  | _ => false
def fOne (p1 : PyData → Bool) (d : PyData) : Bool := match d with
  | .tuple [a] => p1 a
  | _ => false
theorem fTwo_no {p1 p2 : PyData → Bool} {d : PyData} (h : isTuple d 2 = false) : fTwo p1 p2 d = false := by
  match d, h with
  | .tuple [a, b], h => exact absurd (show true = false from h) (by decide)
  | .tuple [], _ => rfl
  | .tuple [_], _ => rfl
  | .tuple (_ :: _ :: _ :: _), _ => rfl
  | .none, _ => rfl
  | .bool _, _ => rfl
  | .int _, _ => rfl
  | .str _, _ => rfl
  | .list _, _ => rfl
  | .dict _, _ => rfl
theorem fOne_no {p1 : PyData → Bool} {d : PyData} (h : isTuple d 1 = false) : fOne p1 d = false := by
  match d, h with
  | .tuple [a], h => exact absurd (show true = false from h) (by decide)
  | .tuple [], _ => rfl
  | .tuple (_ :: _ :: _), _ => rfl
  | .none, _ => rfl
  | .bool _, _ => rfl
  | .int _, _ => rfl
  | .str _, _ => rfl
  | .list _, _ => rfl
  | .dict _, _ => rfl
theorem facts_first (d : PyData) : isFacts "first" d = isTuple d 0 := by
  unfold isFacts
  rw [if_pos rfl]
  match d with
  | .tuple [] => rfl
  | .tuple (a :: t) =>
    show false = decide (((a :: t).length : Int) = 0)
    rw [List.length_cons, decide_eq_false (by omega)]
  | .none => rfl
  | .bool _ => rfl
  | .int _ => rfl
  | .str _ => rfl
  | .list _ => rfl
  | .dict _ => rfl
theorem facts_prime (d : PyData) : isFacts "prime" d = fTwo (fun b => within b 1 B30) isPowers d := by
  unfold isFacts
  rw [if_neg (by decide +kernel), if_pos rfl]
  rfl
theorem facts_split (d : PyData) : isFacts "split" d = fTwo (fun b => within b 2 B30) (fun b => within b 2 B30) d := by
  unfold isFacts
  rw [if_neg (by decide +kernel), if_neg (by decide +kernel), if_pos rfl]
  rfl
theorem facts_power (d : PyData) : isFacts "power" d = fOne (fun b => within b 1 B30) d := by
  unfold isFacts
  rw [if_neg (by decide +kernel), if_neg (by decide +kernel), if_neg (by decide +kernel), if_pos (.inl rfl)]
  rfl
theorem facts_root (d : PyData) : isFacts "root" d = fOne (fun b => within b 1 B30) d := by
  unfold isFacts
  rw [if_neg (by decide +kernel), if_neg (by decide +kernel), if_neg (by decide +kernel), if_pos (.inr rfl)]
  rfl
theorem facts_none {w : Str} (d : PyData) (h1 : w ≠ "first") (h2 : w ≠ "prime") (h3 : w ≠ "split") (h4 : w ≠ "power") (h5 : w ≠ "root") : isFacts w d = false := by
  unfold isFacts
  rw [if_neg h1, if_neg h2, if_neg h3, if_neg (fun h => h.elim h4 h5)]
theorem facts_notup {w : Str} {d : PyData} (h : isTupD d = false) : isFacts w d = false := by
  unfold isFacts
  cases d with
  | tuple x => exact absurd (show true = false from h) (by decide)
  | _ => (repeat' split) <;> first | rfl | (rename_i e; cases e) | contradiction
theorem isPowers_no {d : PyData} (h : isTupD d = false) : isPowers d = false := by
  cases d with
  | tuple x => exact absurd (show true = false from h) (by decide)
  | _ => rfl
theorem isPowers_cons {ds : List PyData} (h : 0 < ds.length) : isPowers (.tuple ds) = rising 1 ds := by
  cases ds with
  | nil => exact absurd h (by simp)
  | cons a t => rfl
theorem canLay_all {a : PyData} {ds : List PyData} (h : PyData.canLayAll0 (a :: ds) = true) : PyData.canLay0 a = true ∧ PyData.canLayAll0 ds = true := by
  have h2 : (PyData.canLay0 a && PyData.canLayAll0 ds) = true := h
  rw [Bool.and_eq_true] at h2
  exact h2
theorem iteS {i j : Str} {A B : Prop} (h1 : i = j → A) (h2 : i ≠ j → B) : if decide (V.str i = V.str j) = true then A else B :=
  ite3 (fun e => h1 (V.str.inj e)) fun e => h2 fun q => e (congrArg V.str q)
theorem iteSn {i j : Str} {A B : Prop} (h1 : i ≠ j → A) (h2 : i = j → B) : if (!decide (V.str i = V.str j)) = true then A else B := by
  by_cases h : i = j
  · rw [decide_eq_true (congrArg V.str h)]
    exact iteF (h2 h)
  · rw [decide_eq_false (fun e => h (V.str.inj e))]
    exact iteT (h1 h)
end Z
namespace Z
open PySem PySem.Spec PyProof.Rows L2
def spRowRight (K : PySem.W.Frag) : Sp := fun vs H Q _ => ∃ (v : V) (d : PyData), vs = [v] ∧ Dp K H v d ∧ PyData.canLay0 d = true ∧ ∀ H', Same H H' → Q (.bl (isRow d)) H'
def spGood : Sp := fun vs H Q _ => ∃ c low : Int, vs = [.int c, .int low] ∧ 0 ≤ c ∧ c < 2147483647 ∧ ∀ (i : Int) (H' : Hp), Same H H' → Q (.int i) H'
def spOdd (K : PySem.W.Frag) : Sp := fun vs H Q _ => ∃ c low : Int, vs = [.int c, .int low] ∧ 0 ≤ c ∧ ∀ (v : V) (H' : Hp), Same H H' → DA K H' v → Q v H'
/-- a list of pairs of whole numbers -/
def Pairs (H : Hp) (xs : List V) : Prop := ∀ v ∈ xs, ∃ (a : Addr) (x y : Int), v = .ref a ∧ H a = some (.tup [.int x, .int y])
theorem pairs_da {K : PySem.W.Frag} {H : Hp} {xs : List V} (h : Pairs H xs) : ∀ v ∈ xs, DA K H v := fun v hv => by
  obtain ⟨a, x, y, rfl, e⟩ := h v hv
  exact da_tup (SqT.of e) (allc (da_int _) (allc (da_int _) all0))
theorem pairs_same {H H' : Hp} {xs : List V} (s : Same H H') (h : Pairs H xs) : Pairs H' xs := fun v hv => by
  obtain ⟨a, x, y, rfl, e⟩ := h v hv
  exact ⟨a, x, y, rfl, s _ _ e⟩
theorem pairs_set {H : Hp} {xs ys : List V} {p : Addr} {o : HO} (ep : H p = some (.lst ys)) (h : Pairs H xs) : Pairs (upd H p o) xs := fun v hv => by
  obtain ⟨a, x, y, rfl, e⟩ := h v hv
  exact ⟨a, x, y, rfl, by rw [upd_ne (ne_of e ep (fun z => nomatch z))]; exact e⟩
theorem pairs_one {H : Hp} {a : Addr} {x y : Int} (e : H a = some (.tup [.int x, .int y])) : Pairs H [.ref a] := fun v hv => ⟨a, x, y, List.mem_singleton.mp hv, e⟩
def spPowers3 (K : PySem.W.Frag) : Sp := fun vs H Q _ => ∃ (a : Addr) (cs : List Int), vs = [.ref a] ∧ SqL K H a (cs.map V.int) ∧ Cells 12 cs ∧
  ∀ (H' : Hp) (p : Addr) (xs : List V), Same H H' → H' p = some (.lst xs) → 1 ≤ xs.length → xs.length ≤ 4 → Pairs H' xs → Q (.ref p) H'
def spSpoil3 (K : PySem.W.Frag) : Sp := fun vs H Q _ => ∃ (a : Addr) (xs : List V) (c : Int), vs = [.ref a, .int c] ∧ H a = some (.lst xs) ∧ 1 ≤ xs.length ∧ xs.length ≤ 4 ∧ Pairs H xs ∧ 0 ≤ c ∧
  ∀ (v : V) (H' : Hp), Same H H' → DA K H' v → Q v H'
def spFacts3 (K : PySem.W.Frag) : Sp := fun vs H Q _ => ∃ (w : Str) (a : Addr) (cs : List Int) (pl : Int), vs = [.str w, .ref a, .int pl] ∧ SqL K H a (cs.map V.int) ∧ Cells 12 cs ∧
  ∀ (v : V) (H' : Hp), Same H H' → DA K H' v → Q v H'
def spThing3 (K : PySem.W.Frag) : Sp := fun vs H Q _ => ∃ (a : Addr) (cs : List Int), vs = [.ref a] ∧ SqL K H a (cs.map V.int) ∧ Cells 12 cs ∧
  ∀ (v : V) (H' : Hp), Same H H' → DA K H' v → Q v H'
end Z
namespace Z
open PySem PySem.Spec PyProof.Rows L2
theorem b31 {i : Int} (h0 : 0 ≤ i) (h : i < 2 ^ 40) : i.natAbs < 2 ^ 9000 := nat_lt (a := 40) h0 h (by decide)
theorem b200 {i : Int} (h0 : 0 ≤ i) (h : i < 2 ^ 200) : i.natAbs < 2 ^ 9000 := nat_lt (a := 200) h0 h (by decide)
theorem cells_add {i : Nat} {cs : List Int} {c : Int} (h : Cells i cs) (h0 : 0 ≤ c) (h1 : c < 2147483647) : Cells (i + 1) (cs ++ [c]) := by
  refine ⟨by rw [List.length_append, h.1]; rfl, fun x hx => ?_⟩
  rcases List.mem_append.mp hx with e | e
  · exact h.2 x e
  · rw [List.mem_singleton.mp e]
    exact ⟨h0, h1⟩
/-- changed at a place that was free at the start -/
theorem same_set {H H' : Hp} {p : Addr} {o : HO} (np : H p = none) (s : Same H H') : Same H (upd H' p o) := fun b x e => by
  rw [upd_ne (ne_of_none e np)]
  exact s b x e
end Z
namespace Z
open PySem PySem.Spec PyProof.Rows L2
theorem szl {n : Nat} (h : n ≤ 1000) : n ≤ sizeLine := Nat.le_of_lt (small1000 h)
end Z
namespace Z
open PySem PySem.Spec PyProof.Rows L2
theorem bsel {c : Bool} {n : Nat} (h : 2 ≤ n) : 0 ≤ (if c = true then (1 : Int) else 0) ∧ (if c = true then (1 : Int) else 0) < (n : Int) := by
  cases c
  · exact ⟨by decide, by show (0 : Int) < n; omega⟩
  · exact ⟨by decide, by show (1 : Int) < n; omega⟩
end Z
namespace Z
open PySem PySem.Spec PyProof.Rows L2
theorem cutV_ints (cs : List Int) (i j : Nat) (hi : i ≤ j) (hj : j ≤ cs.length) : cutV (cs.map V.int) (some (i : Int)) (some (j : Int)) = ((cs.drop i).take (j - i)).map V.int := by
  unfold cutV
  rw [List.length_map, HT.sIx_nat, HT.sIx_nat, Nat.min_eq_left (Nat.le_trans hi hj), Nat.min_eq_left hj, List.map_take, List.map_drop]
theorem cut_cells {cs : List Int} (h : Cells 60 cs) {i : Nat} (hi : i < 5) : ∃ ds, cutV (cs.map V.int) (some (12 * (0 + (i : Int)))) (some (12 * (0 + (i : Int)) + 12)) = ds.map V.int ∧ Cells 12 ds := by
  refine ⟨(cs.drop (12 * i)).take (12 * i + 12 - 12 * i), ?_, ?_, fun c hc => h.2 c (List.mem_of_mem_drop (List.mem_of_mem_take hc))⟩
  · have e1 : (12 * (0 + (i : Int))) = ((12 * i : Nat) : Int) := by omega
    have e2 : (12 * (0 + (i : Int)) + 12) = ((12 * i + 12 : Nat) : Int) := by omega
    rw [e1]
    rw [show (((12 * i : Nat) : Int) + 12) = ((12 * i + 12 : Nat) : Int) by omega]
    exact cutV_ints cs _ _ (by omega) (by rw [h.1]; omega)
  · rw [List.length_take, List.length_drop, h.1]
    omega
end Z

namespace Q
open PySem PySem.Spec PyProof.Rows L2

def topS (i : Nat) : Stmt := PySem.Challenge.pw_primeslip_k03_what_is_a_row.main.body.getD i (.Pass ⟨0, 0, 0, 0⟩)
abbrev s_is_number : Stmt := topS 3
abbrev N_is_number : List Str := ["thing", "low", "high"]
theorem sc_is_number : FnScope N_is_number ["thing", "low", "high"] (defScope s_is_number) := ⟨rfl, rfl, rfl, by decide +kernel, rfl, by decide +kernel, by decide +kernel⟩
abbrev s_is_tuple : Stmt := topS 4
abbrev N_is_tuple : List Str := ["thing", "many"]
theorem sc_is_tuple : FnScope N_is_tuple ["thing", "many"] (defScope s_is_tuple) := ⟨rfl, rfl, rfl, by decide +kernel, rfl, by decide +kernel, by decide +kernel⟩
abbrev s_are_powers : Stmt := topS 5
abbrev N_are_powers : List Str := ["thing", "ahead", "pair", "q", "times"]
theorem sc_are_powers : FnScope N_are_powers ["thing"] (defScope s_are_powers) := ⟨rfl, rfl, rfl, by decide +kernel, rfl, by decide +kernel, by decide +kernel⟩
abbrev s_are_facts : Stmt := topS 6
abbrev N_are_facts : List Str := ["word", "thing"]
theorem sc_are_facts : FnScope N_are_facts ["word", "thing"] (defScope s_are_facts) := ⟨rfl, rfl, rfl, by decide +kernel, rfl, by decide +kernel, by decide +kernel⟩
abbrev s_is_row : Stmt := topS 7
abbrev N_is_row : List Str := ["thing", "number", "word", "facts"]
theorem sc_is_row : FnScope N_is_row ["thing"] (defScope s_is_row) := ⟨rfl, rfl, rfl, by decide +kernel, rfl, by decide +kernel, by decide +kernel⟩
abbrev s_law_cell_at : Stmt := topS 9
abbrev N_law_cell_at : List Str := ["_law_script", "_law_k"]
theorem sc_law_cell_at : FnScope N_law_cell_at ["_law_script", "_law_k"] (defScope s_law_cell_at) := ⟨rfl, rfl, rfl, by decide +kernel, rfl, by decide +kernel, by decide +kernel⟩
abbrev s_law_mixed : Stmt := topS 10
abbrev N_law_mixed : List Str := ["_law_script", "_law_start", "_law_many", "_law_found", "_law_more", "_law_k"]
theorem sc_law_mixed : FnScope N_law_mixed ["_law_script", "_law_start", "_law_many"] (defScope s_law_mixed) := ⟨rfl, rfl, rfl, by decide +kernel, rfl, by decide +kernel, by decide +kernel⟩
abbrev s_law_rising : Stmt := topS 11
abbrev N_law_rising : List Str := ["_law_powers_here", "_law_last", "_law_pair"]
theorem sc_law_rising : FnScope N_law_rising ["_law_powers_here"] (defScope s_law_rising) := ⟨rfl, rfl, rfl, by decide +kernel, rfl, by decide +kernel, by decide +kernel⟩
abbrev s_law_within : Stmt := topS 12
abbrev N_law_within : List Str := ["_law_thing_here", "_law_low", "_law_high"]
theorem sc_law_within : FnScope N_law_within ["_law_thing_here", "_law_low", "_law_high"] (defScope s_law_within) := ⟨rfl, rfl, rfl, by decide +kernel, rfl, by decide +kernel, by decide +kernel⟩
abbrev s_law_row_right : Stmt := topS 13
abbrev N_law_row_right : List Str := ["_law_row", "_law_facts_here"]
theorem sc_law_row_right : FnScope N_law_row_right ["_law_row"] (defScope s_law_row_right) := ⟨rfl, rfl, rfl, by decide +kernel, rfl, by decide +kernel, by decide +kernel⟩
abbrev s_law_good : Stmt := topS 14
abbrev N_law_good : List Str := ["_law_cell", "_law_low"]
theorem sc_law_good : FnScope N_law_good ["_law_cell", "_law_low"] (defScope s_law_good) := ⟨rfl, rfl, rfl, by decide +kernel, rfl, by decide +kernel, by decide +kernel⟩
abbrev s_law_odd : Stmt := topS 15
abbrev N_law_odd : List Str := ["_law_cell", "_law_low"]
theorem sc_law_odd : FnScope N_law_odd ["_law_cell", "_law_low"] (defScope s_law_odd) := ⟨rfl, rfl, rfl, by decide +kernel, rfl, by decide +kernel, by decide +kernel⟩
abbrev s_law_powers : Stmt := topS 16
abbrev N_law_powers : List Str := ["_law_cells", "_law_powers_here", "_law_last", "_law_k"]
theorem sc_law_powers : FnScope N_law_powers ["_law_cells"] (defScope s_law_powers) := ⟨rfl, rfl, rfl, by decide +kernel, rfl, by decide +kernel, by decide +kernel⟩
abbrev s_law_powers_spoilt : Stmt := topS 17
abbrev N_law_powers_spoilt : List Str := ["_law_powers_here", "_law_cell", "_law_at", "_law_q", "_law_times", "_law_way", "_law_some"]
theorem sc_law_powers_spoilt : FnScope N_law_powers_spoilt ["_law_powers_here", "_law_cell"] (defScope s_law_powers_spoilt) := ⟨rfl, rfl, rfl, by decide +kernel, rfl, by decide +kernel, by decide +kernel⟩
abbrev s_law_facts : Stmt := topS 18
abbrev N_law_facts : List Str := ["_law_word", "_law_cells", "_law_place", "_law_first"]
theorem sc_law_facts : FnScope N_law_facts ["_law_word", "_law_cells", "_law_place"] (defScope s_law_facts) := ⟨rfl, rfl, rfl, by decide +kernel, rfl, by decide +kernel, by decide +kernel⟩
abbrev s_law_thing : Stmt := topS 19
abbrev N_law_thing : List Str := ["_law_cells", "_law_place", "_law_word", "_law_facts_here", "_law_number", "_law_row"]
theorem sc_law_thing : FnScope N_law_thing ["_law_cells"] (defScope s_law_thing) := ⟨rfl, rfl, rfl, by decide +kernel, rfl, by decide +kernel, by decide +kernel⟩
abbrev s_law : Stmt := topS 20
abbrev N_law : List Str := ["_law_script", "_law_cells", "_law_k", "_law_thing_here", "_law_found"]
theorem sc_law : FnScope N_law ["_law_script"] (defScope s_law) := ⟨rfl, rfl, rfl, by decide +kernel, rfl, by decide +kernel, by decide +kernel⟩
/-- what the module's names hold -/
structure Bi (mg : Str → Option Value) : Prop where
  c_BOUND : ∃ t, mg "BOUND" = some (.int 1000000000000000000000000000000 t)
  c_MOST_TIMES : ∃ t, mg "MOST_TIMES" = some (.int 100 t)
  n_bool : mg "bool" = none
  n_int : mg "int" = none
  n_isinstance : mg "isinstance" = none
  n_len : mg "len" = none
  n_list : mg "list" = none
  n_range : mg "range" = none
  n_str : mg "str" = none
  n_tuple : mg "tuple" = none
end Q
namespace Q
open PySem PySem.Spec PyProof.Rows L2
open Z
section
variable {P : Program} {w : World} {K : PySem.W.Frag} {mg : Str → Option Value} {base : Heap}
theorem ok_is_number {f : Addr} {fd : FuncData} (F : Fun K "is_number" "is_number" s_is_number f fd) (B : Bi mg) : FnOk P w K mg base CX0 1 f fd ["thing", "low", "high"] (Z.spIsNumber K) := by
  refine F.ok sc_is_number (fun vs H Q E h => ?_) (fun cdv A outer s H vs Q E hr h => ?_)
  · obtain ⟨v, d, lo, hi, rfl, hd, q⟩ := h
    rfl
  · obtain ⟨v, d, lo, hi, rfl, hd, q⟩ := h
    refine ⟨_, (pss_one (ps_ret (pe_and (pe_callB call_isi (by rfl) B.n_isinstance (by decide +kernel) (pa_cons (pv 0) (pa_cons (pe_bltn (v := .ty "int") (by rfl) B.n_int (by decide +kernel) rfl) pa_nil))) (pe_and (pe_not (pe_callB call_isi (by rfl) B.n_isinstance (by decide +kernel) (pa_cons (pv 0) (pa_cons (pe_bltn (v := .ty "bool") (by rfl) B.n_bool (by decide +kernel) rfl) pa_nil)))) (pe_one (pe_chain op_le op_le (pv 1) (pv 0) (pv 2))))))), ?_⟩
    walk_at "r"
    refine ⟨_, _, _, _, _, rfl, .ty _, tyx_dp hd, kit_intD d, ?_⟩
    cases hd with
    | int i =>
      walk_at "r"
      refine ⟨_, _, _, _, _, rfl, .ty _, tyx_dp (.int i), kit_boolD (.int i), ?_⟩
      walk_at "r"
      have e : within (.int i) lo hi = (decide (lo ≤ i) && decide (i ≤ hi)) := rfl
      rw [e] at q
      refine ite3 (fun h => ?_) (fun h => ?_)
      · walk_at "r"
        rw [decide_eq_true h] at q
        exact q
      · rw [decide_eq_false h] at q
        exact q
    | bl b =>
      walk_at "r"
      refine ⟨_, _, _, _, _, rfl, .ty _, tyx_dp (.bl b), kit_boolD (.bool b), ?_⟩
      walk_at "r"
      exact q
    | _ =>
      walk_at "r"
      exact q
end
end Q
namespace Q
open PySem PySem.Spec PyProof.Rows L2
open Z
section
variable {P : Program} {w : World} {K : PySem.W.Frag} {mg : Str → Option Value} {base : Heap}
theorem ok_is_tuple {f : Addr} {fd : FuncData} (F : Fun K "is_tuple" "is_tuple" s_is_tuple f fd) (B : Bi mg) : FnOk P w K mg base CX0 1 f fd ["thing", "many"] (Z.spIsTuple K) := by
  refine F.ok sc_is_tuple (fun vs H Q E h => ?_) (fun cdv A outer s H vs Q E hr h => ?_)
  · obtain ⟨v, d, n, rfl, hd, q⟩ := h
    rfl
  · obtain ⟨v, d, n, rfl, hd, q⟩ := h
    refine ⟨_, (pss_one (ps_ret (pe_and (pe_callB call_isi (by rfl) B.n_isinstance (by decide +kernel) (pa_cons (pv 0) (pa_cons (pe_bltn (v := .ty "tuple") (by rfl) B.n_tuple (by decide +kernel) rfl) pa_nil))) (pe_one (pe_cmpR op_eq (pe_callB call_len_seq (by rfl) B.n_len (by decide +kernel) (pa_cons (pv 0) pa_nil)) (pv 1) (nomark _)))))), ?_⟩
    walk_at "r"
    refine ⟨_, _, _, _, _, rfl, .ty _, tyx_dp hd, kit_tupD d, ?_⟩
    cases hd with
    | tup e t =>
      walk_at "r"
      refine ⟨_, _, rfl, .inr e, ?_⟩
      walk_at "r"
      rw [decVI, dpAll_length t]
      exact q
    | _ =>
      walk_at "r"
      exact q
end
end Q
namespace Q
open PySem PySem.Spec PyProof.Rows L2
open Z
section
variable {P : Program} {w : World} {K : PySem.W.Frag} {mg : Str → Option Value} {base : Heap}
theorem ok_are_powers {f : Addr} {fd : FuncData} (F : Fun K "are_powers" "are_powers" s_are_powers f fd) (B : Bi mg) (D_is_number : Z.Df P w K mg base "is_number" ["thing", "low", "high"] 1 (Z.spIsNumber K)) (D_is_tuple : Z.Df P w K mg base "is_tuple" ["thing", "many"] 1 (Z.spIsTuple K)) : FnOk P w K mg base CX0 2 f fd ["thing"] (Z.spArePowers K) := by
  refine F.ok sc_are_powers (fun vs H Q E h => ?_) (fun cdv A outer s H vs Q E hr h => ?_)
  · obtain ⟨v, d, rfl, hd, q⟩ := h
    rfl
  · obtain ⟨v, d, rfl, hd, q⟩ := h
    refine ⟨_, (pss_cons (ps_if (PW.pt (pw_or (pt_not (pt_val (pe_callB call_isi (by rfl) B.n_isinstance (by decide +kernel) (pa_cons (pv 0) (pa_cons (pe_bltn (v := .ty "tuple") (by rfl) B.n_tuple (by decide +kernel) rfl) pa_nil))))) (pw_or1 (pt_cmpR op_eq (pe_callB call_len_seq (by rfl) B.n_len (by decide +kernel) (pa_cons (pv 0) pa_nil)) pe_int (nomark _))))) (pss_one (ps_ret pe_bl)) pss_nil)
      (pss_cons (ps_set (i := 1) sc_are_powers.nd rfl (Or.inl rfl) pe_int)
      (pss_cons (ps_for PassesOwn.never rfl (pi_tup (pv 0)) (pg_name (i := 2) sc_are_powers.nd rfl (Or.inl rfl)) (pss_cons (ps_if (pt_not (pt_val (pe_df D_is_tuple (hr.mono (by decide)) (by rfl) (pa_cons (pv 2) (pa_cons pe_int pa_nil))))) (pss_one (ps_ret pe_bl)) pss_nil)
      (pss_cons (ps_asg (pv 2) (pg_tup rfl (pgs_cons (pg_name (i := 3) sc_are_powers.nd rfl (Or.inl rfl)) (pgs_cons (pg_name (i := 4) sc_are_powers.nd rfl (Or.inl rfl)) pgs_nil))))
      (pss_cons (ps_if (PW.pt (pw_or (pt_not (pt_val (pe_df D_is_number (hr.mono (by decide)) (by rfl) (pa_cons (pv 3) (pa_cons (pe_op op_add (pv 1) pe_int) (pa_cons (pe_gint rfl B.c_BOUND) pa_nil)))))) (pw_or1 (pt_not (pt_val (pe_df D_is_number (hr.mono (by decide)) (by rfl) (pa_cons (pv 4) (pa_cons pe_int (pa_cons (pe_gint rfl B.c_MOST_TIMES) pa_nil))))))))) (pss_one (ps_ret pe_bl)) pss_nil)
      (pss_one (ps_set (i := 1) sc_are_powers.nd rfl (Or.inl rfl) (pv 3)))))))
      (pss_one (ps_ret pe_bl))))), ?_⟩
    walk_at "r"
    refine ⟨_, _, _, _, _, rfl, .ty _, tyx_dp hd, kit_tupD d, ?_⟩
    cases hd with
    | @tup a xs ds e t =>
      walk_at "r"
      refine ⟨_, _, rfl, .inr e, ?_⟩
      have hl := dpAll_length t
      walk_at "r"
      refine iteI (fun h => ?_) (fun h => ?_)
      · walk_at "r"
        have h0 : ds = [] := List.length_eq_zero_iff.mp (by omega)
        subst h0
        exact q
      have hp : isPowers (.tuple ds) = rising 1 (ds.drop 0) := by
        cases ds with
        | nil =>
          rw [List.length_nil] at hl
          exact absurd (by omega) h
        | cons x r => rfl
      walk_at "r"
      refine ⟨⟨_, e⟩, for_tupE e (fun i σ H' => H' = H ∧ ∃ (last : Int) (y2 y3 y4 : Option V), σ = [some (.ref a), some (.int last), y2, y3, y4] ∧ isPowers (.tuple ds) = rising last (ds.drop i)) ⟨rfl, 1, _, _, _, rfl, hp⟩ ?_ ?_ ?_⟩
      · rintro i σ H' _ ⟨rfl, _⟩
        exact e
      · rintro i x σ H' hx ⟨rfl, last, y2, y3, y4, rfl, hr⟩
        obtain ⟨di, hdi, hdx⟩ := dpAll_get t hx
        rw [drop_get hdi] at hr
        walk_at "r"
        refine ⟨_, di, 2, rfl, hdx, ?_⟩
        cases hb : isTuple di 2 with
        | false =>
          walk_at "r"
          rw [hr, rising_no hb] at q
          exact q
        | true =>
          obtain ⟨qd, td, rfl⟩ := isTuple_2 hb
          obtain ⟨b, ys, rfl, eb, tb⟩ := dp_tup hdx
          obtain ⟨vq, vt, rfl, dq, dt⟩ := dp_all2 tb
          walk_at "r"
          refine ⟨b, _, rfl, eb, rfl, vq, [vt], rfl, vt, [], rfl, rfl, ?_⟩
          walk_at "r"
          refine ⟨vq, qd, last + 1, B30, rfl, dq, ?_⟩
          cases hq : within qd (last + 1) B30 with
          | false =>
            walk_at "r"
            rw [hr, rising_q hq] at q
            exact q
          | true =>
            obtain ⟨qi, rfl, q1, q2⟩ := within_int hq
            walk_at "r"
            refine ⟨vt, td, 1, 100, rfl, dt, ?_⟩
            cases ht : within td 1 100 with
            | false =>
              walk_at "r"
              rw [hr, rising_t ht] at q
              exact q
            | true =>
              rw [rising_yes q1 q2 ht] at hr
              cases dq
              walk_at "r"
              exact ⟨qi, _, _, _, rfl, hr⟩
      · rintro σ H' ⟨rfl, last, y2, y3, y4, rfl, hr⟩
        have e0 : ds.drop xs.length = [] := List.drop_eq_nil_iff.mpr (by omega)
        rw [e0] at hr
        walk_at "r"
        rw [hr] at q
        exact q
    | _ =>
      walk_at "r"
      exact q
end
end Q
namespace Q
open PySem PySem.Spec PyProof.Rows L2
open Z
section
variable {P : Program} {w : World} {K : PySem.W.Frag} {mg : Str → Option Value} {base : Heap}
theorem ok_are_facts {f : Addr} {fd : FuncData} (F : Fun K "are_facts" "are_facts" s_are_facts f fd) (B : Bi mg) (D_are_powers : Z.Df P w K mg base "are_powers" ["thing"] 2 (Z.spArePowers K)) (D_is_number : Z.Df P w K mg base "is_number" ["thing", "low", "high"] 1 (Z.spIsNumber K)) (D_is_tuple : Z.Df P w K mg base "is_tuple" ["thing", "many"] 1 (Z.spIsTuple K)) : FnOk P w K mg base CX0 3 f fd ["word", "thing"] (Z.spAreFacts K) := by
  refine F.ok sc_are_facts (fun vs H Q E h => ?_) (fun cdv A outer s H vs Q E hr h => ?_)
  · obtain ⟨v, d, w, rfl, hd, q⟩ := h
    rfl
  · obtain ⟨v, d, w, rfl, hd, q⟩ := h
    refine ⟨_, (pss_cons (ps_if (pt_cmpR op_eq (pv 0) pe_str (nomark _)) (pss_one (ps_ret (pe_df D_is_tuple (hr.mono (by decide)) (by rfl) (pa_cons (pv 1) (pa_cons pe_int pa_nil))))) pss_nil)
      (pss_cons (ps_if (pt_cmpR op_eq (pv 0) pe_str (nomark _)) (pss_one (ps_ret (pe_and (pe_df D_is_tuple (hr.mono (by decide)) (by rfl) (pa_cons (pv 1) (pa_cons pe_int pa_nil))) (pe_and (pe_df D_is_number (hr.mono (by decide)) (by rfl) (pa_cons (pe_ix ix_tup (pv 1) pe_int (fun _ _ => rfl)) (pa_cons pe_int (pa_cons (pe_gint rfl B.c_BOUND) pa_nil)))) (pe_one (pe_df D_are_powers (hr.mono (by decide)) (by rfl) (pa_cons (pe_ix ix_tup (pv 1) pe_int (fun _ _ => rfl)) pa_nil))))))) pss_nil)
      (pss_cons (ps_if (pt_cmpR op_eq (pv 0) pe_str (nomark _)) (pss_one (ps_ret (pe_and (pe_df D_is_tuple (hr.mono (by decide)) (by rfl) (pa_cons (pv 1) (pa_cons pe_int pa_nil))) (pe_and (pe_df D_is_number (hr.mono (by decide)) (by rfl) (pa_cons (pe_ix ix_tup (pv 1) pe_int (fun _ _ => rfl)) (pa_cons pe_int (pa_cons (pe_gint rfl B.c_BOUND) pa_nil)))) (pe_one (pe_df D_is_number (hr.mono (by decide)) (by rfl) (pa_cons (pe_ix ix_tup (pv 1) pe_int (fun _ _ => rfl)) (pa_cons pe_int (pa_cons (pe_gint rfl B.c_BOUND) pa_nil))))))))) pss_nil)
      (pss_cons (ps_if (PW.pt (pw_or (pt_cmpR op_eq (pv 0) pe_str (nomark _)) (pw_or1 (pt_cmpR op_eq (pv 0) pe_str (nomark _))))) (pss_one (ps_ret (pe_and (pe_df D_is_tuple (hr.mono (by decide)) (by rfl) (pa_cons (pv 1) (pa_cons pe_int pa_nil))) (pe_one (pe_df D_is_number (hr.mono (by decide)) (by rfl) (pa_cons (pe_ix ix_tup (pv 1) pe_int (fun _ _ => rfl)) (pa_cons pe_int (pa_cons (pe_gint rfl B.c_BOUND) pa_nil)))))))) pss_nil)
      (pss_one (ps_ret pe_bl)))))), ?_⟩
    walk_at "r"
    refine iteS (fun h => ?_) (fun h1 => ?_)
    · subst h
      rw [facts_first] at q
      walk_at "r"
      exact ⟨v, d, 0, rfl, hd, q⟩
    walk_at "r"
    refine iteS (fun h => ?_) (fun h2 => ?_)
    · subst h
      rw [facts_prime] at q
      walk_at "r"
      refine ⟨v, d, 2, rfl, hd, ?_⟩
      cases hb : isTuple d 2 with
      | false =>
        walk_at "r"
        rw [fTwo_no hb] at q
        exact q
      | true =>
        obtain ⟨x, y, rfl⟩ := isTuple_2 hb
        obtain ⟨b, ys, rfl, eb, tb⟩ := dp_tup hd
        obtain ⟨vx, vy, rfl, dx, dy⟩ := dp_all2 tb
        have e : fTwo (fun b => within b 1 B30) isPowers (.tuple [x, y]) = (within x 1 B30 && isPowers y) := rfl
        rw [e] at q
        walk_at "r"
        refine ⟨b, _, _, _, rfl, rfl, eb, atI_nat (j := 0) rfl, ?_⟩
        walk_at "r"
        refine ⟨vx, x, 1, B30, rfl, dx, ?_⟩
        cases hx : within x 1 B30 with
        | false =>
          walk_at "r"
          rw [hx] at q
          exact q
        | true =>
          walk_at "r"
          refine ⟨b, _, _, _, rfl, rfl, eb, atI_nat (j := 1) rfl, ?_⟩
          walk_at "r"
          rw [hx] at q
          exact ⟨vy, y, rfl, dy, q⟩
    walk_at "r"
    refine iteS (fun h => ?_) (fun h3 => ?_)
    · subst h
      rw [facts_split] at q
      walk_at "r"
      refine ⟨v, d, 2, rfl, hd, ?_⟩
      cases hb : isTuple d 2 with
      | false =>
        walk_at "r"
        rw [fTwo_no hb] at q
        exact q
      | true =>
        obtain ⟨x, y, rfl⟩ := isTuple_2 hb
        obtain ⟨b, ys, rfl, eb, tb⟩ := dp_tup hd
        obtain ⟨vx, vy, rfl, dx, dy⟩ := dp_all2 tb
        have e : fTwo (fun b => within b 2 B30) (fun b => within b 2 B30) (.tuple [x, y]) = (within x 2 B30 && within y 2 B30) := rfl
        rw [e] at q
        walk_at "r"
        refine ⟨b, _, _, _, rfl, rfl, eb, atI_nat (j := 0) rfl, ?_⟩
        walk_at "r"
        refine ⟨vx, x, 2, B30, rfl, dx, ?_⟩
        cases hx : within x 2 B30 with
        | false =>
          walk_at "r"
          rw [hx] at q
          exact q
        | true =>
          walk_at "r"
          refine ⟨b, _, _, _, rfl, rfl, eb, atI_nat (j := 1) rfl, ?_⟩
          walk_at "r"
          rw [hx] at q
          exact ⟨vy, y, 2, B30, rfl, dy, q⟩
    walk_at "r"
    refine iteS (fun h => ?_) (fun h4 => ?_)
    · subst h
      rw [facts_power] at q
      walk_at "r"
      refine ⟨v, d, 1, rfl, hd, ?_⟩
      cases hb : isTuple d 1 with
      | false =>
        walk_at "r"
        rw [fOne_no hb] at q
        exact q
      | true =>
        obtain ⟨x, rfl⟩ := isTuple_1 hb
        obtain ⟨b, ys, rfl, eb, tb⟩ := dp_tup hd
        obtain ⟨vx, rfl, dx⟩ := dp_all1 tb
        walk_at "r"
        refine ⟨b, _, _, _, rfl, rfl, eb, atI_nat (j := 0) rfl, ?_⟩
        walk_at "r"
        exact ⟨vx, x, 1, B30, rfl, dx, q⟩
    walk_at "r"
    refine iteS (fun h => ?_) (fun h5 => ?_)
    · subst h
      rw [facts_root] at q
      walk_at "r"
      refine ⟨v, d, 1, rfl, hd, ?_⟩
      cases hb : isTuple d 1 with
      | false =>
        walk_at "r"
        rw [fOne_no hb] at q
        exact q
      | true =>
        obtain ⟨x, rfl⟩ := isTuple_1 hb
        obtain ⟨b, ys, rfl, eb, tb⟩ := dp_tup hd
        obtain ⟨vx, rfl, dx⟩ := dp_all1 tb
        walk_at "r"
        refine ⟨b, _, _, _, rfl, rfl, eb, atI_nat (j := 0) rfl, ?_⟩
        walk_at "r"
        exact ⟨vx, x, 1, B30, rfl, dx, q⟩
    rw [facts_none d h1 h2 h3 h4 h5] at q
    walk_at "r"
    exact q
end
end Q
namespace Q
open PySem PySem.Spec PyProof.Rows L2
open Z
section
variable {P : Program} {w : World} {K : PySem.W.Frag} {mg : Str → Option Value} {base : Heap}
theorem ok_is_row {f : Addr} {fd : FuncData} (F : Fun K "is_row" "is_row" s_is_row f fd) (B : Bi mg) (D_are_facts : Z.Df P w K mg base "are_facts" ["word", "thing"] 3 (Z.spAreFacts K)) (D_is_number : Z.Df P w K mg base "is_number" ["thing", "low", "high"] 1 (Z.spIsNumber K)) (D_is_tuple : Z.Df P w K mg base "is_tuple" ["thing", "many"] 1 (Z.spIsTuple K)) : FnOk P w K mg base CX0 4 f fd ["thing"] (Z.spIsRow K) := by
  refine F.ok sc_is_row (fun vs H Q E h => ?_) (fun cdv A outer s H vs Q E hr h => ?_)
  · obtain ⟨v, d, rfl, hd, q⟩ := h
    rfl
  · obtain ⟨v, d, rfl, hd, q⟩ := h
    refine ⟨_, (pss_cons (ps_if (pt_not (pt_val (pe_df D_is_tuple (hr.mono (by decide)) (by rfl) (pa_cons (pv 0) (pa_cons pe_int pa_nil))))) (pss_one (ps_ret pe_bl)) pss_nil)
      (pss_cons (ps_asg (pv 0) (pg_tup rfl (pgs_cons (pg_name (i := 1) sc_is_row.nd rfl (Or.inl rfl)) (pgs_cons (pg_name (i := 2) sc_is_row.nd rfl (Or.inl rfl)) (pgs_cons (pg_name (i := 3) sc_is_row.nd rfl (Or.inl rfl)) pgs_nil)))))
      (pss_one (ps_ret (pe_and (pe_df D_is_number (hr.mono (by decide)) (by rfl) (pa_cons (pv 1) (pa_cons pe_int (pa_cons (pe_gint rfl B.c_BOUND) pa_nil)))) (pe_and (pe_callB call_isi (by rfl) B.n_isinstance (by decide +kernel) (pa_cons (pv 2) (pa_cons (pe_bltn (v := .ty "str") (by rfl) B.n_str (by decide +kernel) rfl) pa_nil))) (pe_one (pe_df D_are_facts (hr.mono (by decide)) (by rfl) (pa_cons (pv 2) (pa_cons (pv 3) pa_nil)))))))))), ?_⟩
    walk_at "r"
    refine ⟨v, d, 3, rfl, hd, ?_⟩
    cases hb : isTuple d 3 with
    | false =>
      walk_at "r"
      have e : isRow d = false := isRow_no hb
      rw [e] at q
      exact q
    | true =>
      obtain ⟨n, wd, fd, rfl⟩ := isTuple_3 hb
      obtain ⟨b, ys, rfl, eb, tb⟩ := dp_tup hd
      obtain ⟨vn, vw, vf, rfl, dn, dw, df⟩ := dp_all3 tb
      walk_at "r"
      refine ⟨b, _, rfl, eb, rfl, vn, _, rfl, vw, _, rfl, vf, [], rfl, rfl, ?_⟩
      walk_at "r"
      refine ⟨vn, n, 2, B30, rfl, dn, ?_⟩
      cases hn : within n 2 B30 with
      | false =>
        walk_at "r"
        have e : isRow (.tuple [n, wd, fd]) = false := by
          cases wd with
          | str x =>
            show (within n 2 B30 && isFacts x fd) = false
            rw [hn]
            rfl
          | _ => rfl
        rw [e] at q
        exact q
      | true =>
        walk_at "r"
        refine ⟨_, _, _, _, _, rfl, .ty _, tyx_dp dw, kit_strD wd, ?_⟩
        cases dw with
        | str x =>
          walk_at "r"
          refine ⟨vf, fd, x, rfl, df, ?_⟩
          have e : isRow (.tuple [n, .str x, fd]) = (within n 2 B30 && isFacts x fd) := rfl
          rw [e, hn, Bool.true_and] at q
          exact q
        | _ =>
          walk_at "r"
          exact q
end
end Q
namespace Q
open PySem PySem.Spec PyProof.Rows L2
open Z
section
variable {P : Program} {w : World} {K : PySem.W.Frag} {mg : Str → Option Value} {base : Heap}
theorem ok_law_cell_at {f : Addr} {fd : FuncData} (F : Fun K "_law_cell_at" "_law_cell_at" s_law_cell_at f fd) (B : Bi mg) : FnOk P w K mg base CX0 1 f fd ["_law_script", "_law_k"] (Z.spCellAt K) := by
  refine F.ok sc_law_cell_at (fun vs H Q E h => ?_) (fun cdv A outer s H vs Q E hr h => ?_)
  · obtain ⟨a, ns, k, rfl, hS, hk, q⟩ := h
    rfl
  · obtain ⟨a, ns, k, rfl, hS, hk, q⟩ := h
    refine ⟨_, (pss_cons (ps_if (pt_cmpR op_lt (pv 1) (pe_callB call_len_seq (by rfl) B.n_len (by decide +kernel) (pa_cons (pv 0) pa_nil)) (nomark _)) (pss_one (ps_ret (pe_ix ix_list (pv 0) (pv 1) (fun _ _ => rfl)))) pss_nil)
      (pss_one (ps_ret pe_int))), ?_⟩
    walk_at "r"
    refine ⟨_, _, rfl, .inl hS, ?_⟩
    walk_at "r"
    refine ite3 (fun h => ?_) (fun h => ?_)
    · walk_at "r"
      refine ⟨_, _, _, _, rfl, rfl, hS, int_at hk h, ?_⟩
      exact q _ rfl
    · walk_at "r"
      exact q _ (cell_out h).symm
end
end Q
namespace Q
open PySem PySem.Spec PyProof.Rows L2
open Z
section
variable {P : Program} {w : World} {K : PySem.W.Frag} {mg : Str → Option Value} {base : Heap}
theorem ok_law_mixed {f : Addr} {fd : FuncData} (F : Fun K "_law_mixed" "_law_mixed" s_law_mixed f fd) (B : Bi mg) (D_law_cell_at : Z.Df P w K mg base "_law_cell_at" ["_law_script", "_law_k"] 1 (Z.spCellAt K)) : FnOk P w K mg base CX0 2 f fd ["_law_script", "_law_start", "_law_many"] (Z.spMixed K) := by
  refine F.ok sc_law_mixed (fun vs H Q E h => ?_) (fun cdv A outer s H vs Q E hr h => ?_)
  · obtain ⟨a, ns, st, many, rfl, hS, hs0, hm0, hm1, q⟩ := h
    rfl
  · obtain ⟨a, ns, st, many, rfl, hS, hs0, hm0, hm1, q⟩ := h
    refine ⟨_, (pss_cons (ps_set (i := 3) sc_law_mixed.nd rfl (Or.inl rfl) (pe_lst pa_nil))
      (pss_cons (ps_set (i := 4) sc_law_mixed.nd rfl (Or.inl rfl) pe_int)
      (pss_cons (ps_for PassesOwn.never rfl (pi_range1 (by rfl) B.n_range (pa_cons (pv 2) pa_nil)) (pg_name (i := 5) sc_law_mixed.nd rfl (Or.inl rfl)) (pss_cons (ps_set (i := 4) sc_law_mixed.nd rfl (Or.inl rfl) (pe_op op_mod (pe_op op_add (pe_op op_add (pe_op op_add (pe_op op_mulW (pv 4) pe_int) (pe_df D_law_cell_at (hr.mono (by decide)) (by rfl) (pa_cons (pv 0) (pa_cons (pe_op op_add (pv 1) (pv 5)) pa_nil)))) (pe_op op_mulW pe_int (pv 5))) pe_int) pe_int))
      (pss_one (ps_expr (pe_bm PySem.F.plainAttrs_list PySem.F.slot_list_append PySem.F.type_list_append mt_append (pv 3) (pa_cons (pv 4) pa_nil))))))
      (pss_one (ps_ret (pv 3)))))), ?_⟩
    walk_at "r"
    refine ⟨by show 0 ≤ sizeLine; decide, fun p np => ?_⟩
    walk_at "r"
    refine for_range (lo := 0) (n := many.toNat) (InvMixed a st many H p) ⟨none, 7, [], rfl, same_upd np, upd_same, ⟨rfl, fun c h => nomatch h⟩, by decide, by decide⟩ ?_ ?_
    · rintro i σ H' hi ⟨y, m, cs, rfl, sm, ep, hc, hm2, hm3⟩
      walk_at "r"
      refine ⟨mul_ok (b31 hm2 (by omega)) (b31 (by omega) (by omega)), ?_⟩
      walk_at "r"
      refine ⟨a, ns, st + (0 + (i : Int)), rfl, sm.seq hS, by omega, fun c _ => ?_⟩
      walk_at "r"
      refine ⟨mul_ok (b31 (by omega) (by omega)) (b31 (by omega) (by omega)), ?_⟩
      walk_at "r"
      refine ⟨.inl ⟨rfl, _, SqL.of ep⟩, ?_⟩
      walk_at "r"
      refine ⟨p, _, _, rfl, rfl, ep, small1000 (by rw [List.length_map, hc.1]; omega), ?_⟩
      have h1 := Int.emod_nonneg (m * 48271 + c + 31 * (0 + (i : Int)) + 1) (show (2147483647 : Int) ≠ 0 by decide)
      have h2 := Int.emod_lt_of_pos (m * 48271 + c + 31 * (0 + (i : Int)) + 1) (show (0 : Int) < 2147483647 by decide)
      refine ⟨_, _, cs ++ [(m * 48271 + c + 31 * (0 + (i : Int)) + 1) % 2147483647], rfl, same_set np sm, ?_, cells_add hc h1 h2, h1, h2⟩
      rw [upd_same, List.map_append]
      rfl
    · rintro σ H' ⟨y, m, cs, rfl, sm, ep, hc, hm2, hm3⟩
      walk_at "r"
      exact q _ _ _ sm np ep hc
end
end Q
namespace Q
open PySem PySem.Spec PyProof.Rows L2
open Z
section
variable {P : Program} {w : World} {K : PySem.W.Frag} {mg : Str → Option Value} {base : Heap}
theorem ok_law_rising {f : Addr} {fd : FuncData} (F : Fun K "_law_rising" "_law_rising" s_law_rising f fd) (B : Bi mg) (D_law_within : Z.Df P w K mg base "_law_within" ["_law_thing_here", "_law_low", "_law_high"] 1 (Z.spIsNumber K)) : FnOk P w K mg base CX0 2 f fd ["_law_powers_here"] (Z.spRising K) := by
  refine F.ok sc_law_rising (fun vs H Q E h => ?_) (fun cdv A outer s H vs Q E hr h => ?_)
  · obtain ⟨a, xs, ds, rfl, e, t, q⟩ := h
    rfl
  · obtain ⟨a, xs, ds, rfl, e, t, q⟩ := h
    refine ⟨_, (pss_cons (ps_set (i := 1) sc_law_rising.nd rfl (Or.inl rfl) pe_int)
      (pss_cons (ps_for PassesOwn.never rfl (pi_tup (pv 0)) (pg_name (i := 2) sc_law_rising.nd rfl (Or.inl rfl)) (pss_cons (ps_if (PW.pt (pw_or (pt_not (pt_val (pe_callB call_isi (by rfl) B.n_isinstance (by decide +kernel) (pa_cons (pv 2) (pa_cons (pe_bltn (v := .ty "tuple") (by rfl) B.n_tuple (by decide +kernel) rfl) pa_nil))))) (pw_or (pt_cmpR op_ne (pe_callB call_len_seq (by rfl) B.n_len (by decide +kernel) (pa_cons (pv 2) pa_nil)) pe_int (nomark _)) (pw_or1 (pt_not (pt_val (pe_df D_law_within (hr.mono (by decide)) (by rfl) (pa_cons (pe_ix ix_tup (pv 2) pe_int (fun _ _ => rfl)) (pa_cons (pe_op op_add (pv 1) pe_int) (pa_cons (pe_op op_pow pe_int pe_int) pa_nil)))))))))) (pss_one (ps_ret pe_bl)) pss_nil)
      (pss_cons (ps_if (pt_not (pt_val (pe_df D_law_within (hr.mono (by decide)) (by rfl) (pa_cons (pe_ix ix_tup (pv 2) pe_int (fun _ _ => rfl)) (pa_cons pe_int (pa_cons pe_int pa_nil)))))) (pss_one (ps_ret pe_bl)) pss_nil)
      (pss_one (ps_set (i := 1) sc_law_rising.nd rfl (Or.inl rfl) (pe_ix ix_tup (pv 2) pe_int (fun _ _ => rfl)))))))
      (pss_one (ps_ret pe_bl)))), ?_⟩
    have hl := dpAll_length t
    walk_at "r"
    refine ⟨⟨_, e⟩, for_tupE e (fun i σ H' => H' = H ∧ ∃ (last : Int) (y2 : Option V), σ = [some (.ref a), some (.int last), y2] ∧ rising 1 ds = rising last (ds.drop i)) ⟨rfl, 1, _, rfl, rfl⟩ ?_ ?_ ?_⟩
    · rintro i σ H' _ ⟨rfl, _⟩
      exact e
    · rintro i x σ H' hx ⟨rfl, last, y2, rfl, hr⟩
      obtain ⟨di, hdi, hdx⟩ := dpAll_get t hx
      rw [drop_get hdi] at hr
      walk_at "r"
      refine ⟨_, _, _, _, _, rfl, .ty _, tyx_dp hdx, kit_tupD di, ?_⟩
      cases hdx with
      | @tup b ys bs eb tb =>
        have hl2 := dpAll_length tb
        walk_at "r"
        refine ⟨_, _, rfl, .inr eb, ?_⟩
        walk_at "r"
        refine iteIn (fun h => ?_) (fun h => ?_)
        · walk_at "r"
          have hb : isTuple (.tuple bs) 2 = false := decide_eq_false (by omega)
          rw [hr, rising_no hb] at q
          exact q
        have hb : isTuple (.tuple bs) 2 = true := decide_eq_true (by omega)
        obtain ⟨qd, td, eq2⟩ := isTuple_2 hb
        cases eq2
        obtain ⟨vq, vt, rfl, dq, dt⟩ := dp_all2 tb
        walk_at "r"
        refine ⟨b, _, _, _, rfl, rfl, eb, atI_nat (j := 0) rfl, ?_⟩
        walk_at "r"
        refine ⟨vq, qd, last + 1, B30, rfl, dq, ?_⟩
        cases hq : within qd (last + 1) B30 with
        | false =>
          walk_at "r"
          rw [hr, rising_q hq] at q
          exact q
        | true =>
          obtain ⟨qi, rfl, q1, q2⟩ := within_int hq
          walk_at "r"
          refine ⟨b, _, _, _, rfl, rfl, eb, atI_nat (j := 1) rfl, ?_⟩
          walk_at "r"
          refine ⟨vt, td, 1, 100, rfl, dt, ?_⟩
          cases ht : within td 1 100 with
          | false =>
            walk_at "r"
            rw [hr, rising_t ht] at q
            exact q
          | true =>
            rw [rising_yes q1 q2 ht] at hr
            cases dq
            walk_at "r"
            refine ⟨b, _, _, _, rfl, rfl, eb, atI_nat (j := 0) rfl, ?_⟩
            walk_at "r"
            exact ⟨qi, _, rfl, hr⟩
      | _ =>
        walk_at "r"
        rw [hr] at q
        exact q
    · rintro σ H' ⟨rfl, last, y2, rfl, hr⟩
      have e0 : ds.drop xs.length = [] := List.drop_eq_nil_iff.mpr (by omega)
      rw [e0] at hr
      walk_at "r"
      rw [hr] at q
      exact q
end
end Q
namespace Q
open PySem PySem.Spec PyProof.Rows L2
open Z
section
variable {P : Program} {w : World} {K : PySem.W.Frag} {mg : Str → Option Value} {base : Heap}
theorem ok_law_within {f : Addr} {fd : FuncData} (F : Fun K "_law_within" "_law_within" s_law_within f fd) (B : Bi mg) : FnOk P w K mg base CX0 1 f fd ["_law_thing_here", "_law_low", "_law_high"] (Z.spIsNumber K) := by
  refine F.ok sc_law_within (fun vs H Q E h => ?_) (fun cdv A outer s H vs Q E hr h => ?_)
  · obtain ⟨v, d, lo, hi, rfl, hd, q⟩ := h
    rfl
  · obtain ⟨v, d, lo, hi, rfl, hd, q⟩ := h
    refine ⟨_, (pss_one (ps_ret (pe_and (pe_callB call_isi (by rfl) B.n_isinstance (by decide +kernel) (pa_cons (pv 0) (pa_cons (pe_bltn (v := .ty "int") (by rfl) B.n_int (by decide +kernel) rfl) pa_nil))) (pe_and (pe_not (pe_callB call_isi (by rfl) B.n_isinstance (by decide +kernel) (pa_cons (pv 0) (pa_cons (pe_bltn (v := .ty "bool") (by rfl) B.n_bool (by decide +kernel) rfl) pa_nil)))) (pe_one (pe_chain op_le op_le (pv 1) (pv 0) (pv 2))))))), ?_⟩
    walk_at "r"
    refine ⟨_, _, _, _, _, rfl, .ty _, tyx_dp hd, kit_intD d, ?_⟩
    cases hd with
    | int i =>
      walk_at "r"
      refine ⟨_, _, _, _, _, rfl, .ty _, tyx_dp (.int i), kit_boolD (.int i), ?_⟩
      walk_at "r"
      have e : within (.int i) lo hi = (decide (lo ≤ i) && decide (i ≤ hi)) := rfl
      rw [e] at q
      refine ite3 (fun h => ?_) (fun h => ?_)
      · walk_at "r"
        rw [decide_eq_true h] at q
        exact q
      · rw [decide_eq_false h] at q
        exact q
    | bl b =>
      walk_at "r"
      refine ⟨_, _, _, _, _, rfl, .ty _, tyx_dp (.bl b), kit_boolD (.bool b), ?_⟩
      walk_at "r"
      exact q
    | _ =>
      walk_at "r"
      exact q
end
end Q
namespace Q
open PySem PySem.Spec PyProof.Rows L2
open Z
section
variable {P : Program} {w : World} {K : PySem.W.Frag} {mg : Str → Option Value} {base : Heap}
theorem ok_law_row_right {f : Addr} {fd : FuncData} (F : Fun K "_law_row_right" "_law_row_right" s_law_row_right f fd) (B : Bi mg) (D_law_rising : Z.Df P w K mg base "_law_rising" ["_law_powers_here"] 2 (Z.spRising K)) (D_law_within : Z.Df P w K mg base "_law_within" ["_law_thing_here", "_law_low", "_law_high"] 1 (Z.spIsNumber K)) : FnOk P w K mg base CX0 3 f fd ["_law_row"] (Z.spRowRight K) := by
  refine F.ok sc_law_row_right (fun vs H Q E h => ?_) (fun cdv A outer s H vs Q E hr h => ?_)
  · obtain ⟨v, d, rfl, hd, cl, q⟩ := h
    rfl
  · obtain ⟨v, d, rfl, hd, cl, q⟩ := h
    refine ⟨_, (pss_cons (ps_if (PW.pt (pw_or (pt_not (pt_val (pe_callB call_isi (by rfl) B.n_isinstance (by decide +kernel) (pa_cons (pv 0) (pa_cons (pe_bltn (v := .ty "tuple") (by rfl) B.n_tuple (by decide +kernel) rfl) pa_nil))))) (pw_or (pt_cmpR op_ne (pe_callB call_len_seq (by rfl) B.n_len (by decide +kernel) (pa_cons (pv 0) pa_nil)) pe_int (nomark _)) (pw_or1 (pt_not (pt_val (pe_df D_law_within (hr.mono (by decide)) (by rfl) (pa_cons (pe_ix ix_tup (pv 0) pe_int (fun _ _ => rfl)) (pa_cons pe_int (pa_cons (pe_op op_pow pe_int pe_int) pa_nil)))))))))) (pss_one (ps_ret pe_bl)) pss_nil)
      (pss_cons (ps_if (PW.pt (pw_or (pt_not (pt_val (pe_callB call_isi (by rfl) B.n_isinstance (by decide +kernel) (pa_cons (pe_ix ix_tup (pv 0) pe_int (fun _ _ => rfl)) (pa_cons (pe_bltn (v := .ty "str") (by rfl) B.n_str (by decide +kernel) rfl) pa_nil))))) (pw_or1 (pt_not (pt_val (pe_callB call_isi (by rfl) B.n_isinstance (by decide +kernel) (pa_cons (pe_ix ix_tup (pv 0) pe_int (fun _ _ => rfl)) (pa_cons (pe_bltn (v := .ty "tuple") (by rfl) B.n_tuple (by decide +kernel) rfl) pa_nil)))))))) (pss_one (ps_ret pe_bl)) pss_nil)
      (pss_cons (ps_set (i := 1) sc_law_row_right.nd rfl (Or.inl rfl) (pe_ix ix_tup (pv 0) pe_int (fun _ _ => rfl)))
      (pss_cons (ps_if (pt_cmpR op_eq (pe_ix ix_tup (pv 0) pe_int (fun _ _ => rfl)) pe_str (nomark _)) (pss_one (ps_ret (pe_cmpR (op_eqM hr.units) (pv 1) (pe_tup pa_nil) (nomark _)))) pss_nil)
      (pss_cons (ps_if (pt_cmpR op_eq (pe_ix ix_tup (pv 0) pe_int (fun _ _ => rfl)) pe_str (nomark _)) (pss_one (ps_ret (pe_and (pe_cmpR op_eq (pe_callB call_len_seq (by rfl) B.n_len (by decide +kernel) (pa_cons (pv 1) pa_nil)) pe_int (nomark _)) (pe_and (pe_df D_law_within (hr.mono (by decide)) (by rfl) (pa_cons (pe_ix ix_tup (pv 1) pe_int (fun _ _ => rfl)) (pa_cons pe_int (pa_cons (pe_op op_pow pe_int pe_int) pa_nil)))) (pe_one (pe_df D_law_within (hr.mono (by decide)) (by rfl) (pa_cons (pe_ix ix_tup (pv 1) pe_int (fun _ _ => rfl)) (pa_cons pe_int (pa_cons (pe_op op_pow pe_int pe_int) pa_nil))))))))) pss_nil)
      (pss_cons (ps_if (PW.pt (pw_or (pt_cmpR op_eq (pe_ix ix_tup (pv 0) pe_int (fun _ _ => rfl)) pe_str (nomark _)) (pw_or1 (pt_cmpR op_eq (pe_ix ix_tup (pv 0) pe_int (fun _ _ => rfl)) pe_str (nomark _))))) (pss_one (ps_ret (pe_and (pe_cmpR op_eq (pe_callB call_len_seq (by rfl) B.n_len (by decide +kernel) (pa_cons (pv 1) pa_nil)) pe_int (nomark _)) (pe_one (pe_df D_law_within (hr.mono (by decide)) (by rfl) (pa_cons (pe_ix ix_tup (pv 1) pe_int (fun _ _ => rfl)) (pa_cons pe_int (pa_cons (pe_op op_pow pe_int pe_int) pa_nil)))))))) pss_nil)
      (pss_cons (ps_if (PW.pt (pw_or (pt_cmpR op_ne (pe_ix ix_tup (pv 0) pe_int (fun _ _ => rfl)) pe_str (nomark _)) (pw_or (pt_cmpR op_ne (pe_callB call_len_seq (by rfl) B.n_len (by decide +kernel) (pa_cons (pv 1) pa_nil)) pe_int (nomark _)) (pw_or1 (pt_not (pt_val (pe_df D_law_within (hr.mono (by decide)) (by rfl) (pa_cons (pe_ix ix_tup (pv 1) pe_int (fun _ _ => rfl)) (pa_cons pe_int (pa_cons (pe_op op_pow pe_int pe_int) pa_nil)))))))))) (pss_one (ps_ret pe_bl)) pss_nil)
      (pss_one (ps_ret (pe_and (pe_callB call_isi (by rfl) B.n_isinstance (by decide +kernel) (pa_cons (pe_ix ix_tup (pv 1) pe_int (fun _ _ => rfl)) (pa_cons (pe_bltn (v := .ty "tuple") (by rfl) B.n_tuple (by decide +kernel) rfl) pa_nil))) (pe_and (pe_cmpR op_gt (pe_callB call_len_seq (by rfl) B.n_len (by decide +kernel) (pa_cons (pe_ix ix_tup (pv 1) pe_int (fun _ _ => rfl)) pa_nil)) pe_int (nomark _)) (pe_one (pe_df D_law_rising (hr.mono (by decide)) (by rfl) (pa_cons (pe_ix ix_tup (pv 1) pe_int (fun _ _ => rfl)) pa_nil)))))))))))))), ?_⟩
    walk_at "r"
    refine ⟨_, _, _, _, _, rfl, .ty _, tyx_dp hd, kit_tupD d, ?_⟩
    have no3 : isTuple d 3 = false → Q (V.bl false) H := fun hb => by
      have q2 := q H (Same.refl H)
      rw [isRow_no hb] at q2
      exact q2
    cases hd with
    | @tup b ys bs eb tb =>
      have hl2 := dpAll_length tb
      walk_at "r"
      refine ⟨_, _, rfl, .inr eb, ?_⟩
      walk_at "r"
      refine iteIn (fun h => ?_) (fun h => ?_)
      · walk_at "r"
        exact no3 (decide_eq_false (by omega))
      have hb : isTuple (.tuple bs) 3 = true := decide_eq_true (by omega)
      obtain ⟨n, wd, fd, eq2⟩ := isTuple_3 hb
      cases eq2
      obtain ⟨vn, vw, vf, rfl, dn, dw, df⟩ := dp_all3 tb
      walk_at "r"
      refine ⟨b, _, _, _, rfl, rfl, eb, atI_nat (j := 0) rfl, ?_⟩
      walk_at "r"
      refine ⟨vn, n, 2, B30, rfl, dn, ?_⟩
      cases hn : within n 2 B30 with
      | false =>
        walk_at "r"
        have e : isRow (.tuple [n, wd, fd]) = false := by
          cases wd with
          | str x =>
            show (within n 2 B30 && isFacts x fd) = false
            rw [hn]
            rfl
          | _ => rfl
        have q2 := q H (Same.refl H)
        rw [e] at q2
        exact q2
      | true =>
        walk_at "r"
        refine ⟨b, _, _, _, rfl, rfl, eb, atI_nat (j := 1) rfl, ?_⟩
        walk_at "r"
        refine ⟨_, _, _, _, _, rfl, .ty _, tyx_dp dw, kit_strD wd, ?_⟩
        cases dw with
        | str x =>
          have e : isRow (.tuple [n, .str x, fd]) = isFacts x fd := by
            show (within n 2 B30 && isFacts x fd) = isFacts x fd
            rw [hn, Bool.true_and]
          rw [e] at q
          clear e no3 hn
          have clf := (canLay_all (canLay_all (canLay_all cl).2).2).1
          walk_at "r"
          refine ⟨b, _, _, _, rfl, rfl, eb, atI_nat (j := 2) rfl, ?_⟩
          walk_at "r"
          refine ⟨_, _, _, _, _, rfl, .ty _, tyx_dp df, kit_tupD fd, ?_⟩
          cases df with
          | @tup f_1 fs gs ef tf =>
            have hlf := dpAll_length tf
            walk_at "r"
            refine ⟨b, _, _, _, rfl, rfl, eb, atI_nat (j := 2) rfl, ?_⟩
            walk_at "r"
            refine ⟨b, _, _, _, rfl, rfl, eb, atI_nat (j := 1) rfl, ?_⟩
            walk_at "r"
            refine iteS (fun h => ?_) (fun h1 => ?_)
            · subst h
              rw [facts_first] at q
              walk_at "r"
              refine ⟨by show 0 ≤ sizeLine; decide, fun p np => gen_upd np fun H2 s2 e2 n2 => ?_⟩
              refine ⟨.tuple gs, .tuple [], .tup (seqT s2 ef) (dpAll_same s2 tf), .tup (SqT.of e2) .nil, clf, by decide +kernel, ?_⟩
              rw [eqv_nil]
              exact q _ s2
            have q := q H (Same.refl H)
            have at0 : ∀ {x : V}, fs[0]? = some x → atI fs 0 = some x := fun h => atI_nat (j := 0) h
            walk_at "r"
            refine ⟨b, _, _, _, rfl, rfl, eb, atI_nat (j := 1) rfl, ?_⟩
            walk_at "r"
            refine iteS (fun h => ?_) (fun h2 => ?_)
            · subst h
              rw [facts_split] at q
              walk_at "r"
              refine ⟨_, _, rfl, .inr ef, ?_⟩
              walk_at "r"
              refine iteI (fun hg => ?_) (fun hg => ?_)
              · have hg2 : isTuple (.tuple gs) 2 = true := decide_eq_true (by omega)
                obtain ⟨x, y, eq3⟩ := isTuple_2 hg2
                cases eq3
                obtain ⟨vx, vy, rfl, dx, dy⟩ := dp_all2 tf
                have e : fTwo (fun b => within b 2 B30) (fun b => within b 2 B30) (.tuple [x, y]) = (within x 2 B30 && within y 2 B30) := rfl
                rw [e] at q
                walk_at "r"
                refine ⟨f_1, _, _, _, rfl, rfl, ef, atI_nat (j := 0) rfl, ?_⟩
                walk_at "r"
                refine ⟨vx, x, 2, B30, rfl, dx, ?_⟩
                cases hx : within x 2 B30 with
                | false =>
                  walk_at "r"
                  rw [hx] at q
                  exact q
                | true =>
                  walk_at "r"
                  refine ⟨f_1, _, _, _, rfl, rfl, ef, atI_nat (j := 1) rfl, ?_⟩
                  walk_at "r"
                  rw [hx] at q
                  exact ⟨vy, y, 2, B30, rfl, dy, q⟩
              · have hg2 : isTuple (.tuple gs) 2 = false := decide_eq_false (by omega)
                rw [fTwo_no hg2] at q
                exact q
            have one : isFacts x (.tuple gs) = fOne (fun b => within b 1 B30) (.tuple gs) → if decide (V.int gs.length = V.int 1) = true then
                tDf (spIsNumber K) (tCons (tOp (rIxT K) (tVar 1) (tC (V.int 0))) (tCons (tC (V.int 1)) (tCons (tOp (rI CPow fun i j => V.int (i ^ j.toNat)) (tC (V.int 10)) (tC (V.int 30))) tNil))) [some (.ref b), some (.ref f_1)] H Q else Q (V.bl false) H := fun hw => by
              rw [hw] at q
              refine iteI (fun hg => ?_) (fun hg => ?_)
              · have hg2 : isTuple (.tuple gs) 1 = true := decide_eq_true hg
                obtain ⟨x, eq3⟩ := isTuple_1 hg2
                cases eq3
                obtain ⟨vx, rfl, dx⟩ := dp_all1 tf
                walk_at "r"
                refine ⟨f_1, _, _, _, rfl, rfl, ef, atI_nat (j := 0) rfl, ?_⟩
                walk_at "r"
                exact ⟨vx, x, 1, B30, rfl, dx, q⟩
              · have hg2 : isTuple (.tuple gs) 1 = false := decide_eq_false hg
                rw [fOne_no hg2] at q
                exact q
            walk_at "r"
            refine ⟨b, _, _, _, rfl, rfl, eb, atI_nat (j := 1) rfl, ?_⟩
            walk_at "r"
            refine iteS (fun h => ?_) (fun h4 => ?_)
            · subst h
              walk_at "r"
              refine ⟨_, _, rfl, .inr ef, ?_⟩
              walk_at "r"
              rw [hlf]
              exact one (facts_power _)
            walk_at "r"
            refine ⟨b, _, _, _, rfl, rfl, eb, atI_nat (j := 1) rfl, ?_⟩
            walk_at "r"
            refine iteS (fun h => ?_) (fun h5 => ?_)
            · subst h
              walk_at "r"
              refine ⟨_, _, rfl, .inr ef, ?_⟩
              walk_at "r"
              rw [hlf]
              exact one (facts_root _)
            clear one
            walk_at "r"
            refine ⟨b, _, _, _, rfl, rfl, eb, atI_nat (j := 1) rfl, ?_⟩
            walk_at "r"
            refine iteSn (fun h => ?_) (fun h => ?_)
            · rw [facts_none _ h1 h h2 h4 h5] at q
              walk_at "r"
              exact q
            subst h
            rw [facts_prime] at q
            walk_at "r"
            refine ⟨_, _, rfl, .inr ef, ?_⟩
            walk_at "r"
            refine iteIn (fun hg => ?_) (fun hg => ?_)
            · have hg2 : isTuple (.tuple gs) 2 = false := decide_eq_false (by omega)
              rw [fTwo_no hg2] at q
              walk_at "r"
              exact q
            have hg2 : isTuple (.tuple gs) 2 = true := decide_eq_true (by omega)
            obtain ⟨x, y, eq3⟩ := isTuple_2 hg2
            cases eq3
            obtain ⟨vx, vy, rfl, dx, dy⟩ := dp_all2 tf
            have e : fTwo (fun b => within b 1 B30) isPowers (.tuple [x, y]) = (within x 1 B30 && isPowers y) := rfl
            rw [e] at q
            walk_at "r"
            refine ⟨f_1, _, _, _, rfl, rfl, ef, atI_nat (j := 0) rfl, ?_⟩
            walk_at "r"
            refine ⟨vx, x, 1, B30, rfl, dx, ?_⟩
            cases hx : within x 1 B30 with
            | false =>
              walk_at "r"
              rw [hx] at q
              exact q
            | true =>
              rw [hx, Bool.true_and] at q
              walk_at "r"
              refine ⟨f_1, _, _, _, rfl, rfl, ef, atI_nat (j := 1) rfl, ?_⟩
              walk_at "r"
              refine ⟨_, _, _, _, _, rfl, .ty _, tyx_dp dy, kit_tupD y, ?_⟩
              cases dy with
              | @tup g hs is_ eg tg =>
                have hlg := dpAll_length tg
                walk_at "r"
                refine ⟨f_1, _, _, _, rfl, rfl, ef, atI_nat (j := 1) rfl, ?_⟩
                walk_at "r"
                refine ⟨_, _, rfl, .inr eg, ?_⟩
                walk_at "r"
                refine ite3 (fun h => ?_) (fun h => ?_)
                · walk_at "r"
                  refine ⟨f_1, _, _, _, rfl, rfl, ef, atI_nat (j := 1) rfl, ?_⟩
                  walk_at "r"
                  rw [isPowers_cons (by omega)] at q
                  exact ⟨g, hs, is_, rfl, eg, tg, q⟩
                · have h0 : is_ = [] := List.length_eq_zero_iff.mp (by omega)
                  subst h0
                  exact q
              | _ =>
                walk_at "r"
                exact q
          | _ =>
            walk_at "r"
            have q := q H (Same.refl H)
            rw [facts_notup rfl] at q
            exact q
        | _ =>
          walk_at "r"
          exact q H (Same.refl H)
    | _ =>
      walk_at "r"
      exact no3 rfl
end
end Q
namespace Q
open PySem PySem.Spec PyProof.Rows L2
open Z
section
variable {P : Program} {w : World} {K : PySem.W.Frag} {mg : Str → Option Value} {base : Heap}
theorem ok_law_good {f : Addr} {fd : FuncData} (F : Fun K "_law_good" "_law_good" s_law_good f fd) (B : Bi mg) : FnOk P w K mg base CX0 1 f fd ["_law_cell", "_law_low"] (Z.spGood) := by
  refine F.ok sc_law_good (fun vs H Q E h => ?_) (fun cdv A outer s H vs Q E hr h => ?_)
  · obtain ⟨c, low, rfl, hc0, hc1, q⟩ := h
    rfl
  · obtain ⟨c, low, rfl, hc0, hc1, q⟩ := h
    refine ⟨_, (pss_cons (ps_if (pt_cmpR op_eq (pe_op op_mod (pv 0) pe_int) pe_int (nomark _)) (pss_one (ps_ret (pe_ix ix_list (pe_lst (pa_cons (pv 1) (pa_cons (pe_op op_add (pv 1) pe_int) (pa_cons (pe_op op_pow pe_int pe_int) (pa_cons (pe_op op_sub (pe_op op_pow pe_int pe_int) pe_int) pa_nil))))) (pe_op op_mod (pe_op op_fdivW (pv 0) pe_int) pe_int) (fun _ _ => rfl)))) pss_nil)
      (pss_one (ps_ret (pe_op op_add (pv 1) (pe_op op_mod (pe_op op_mulW (pe_op op_fdivW (pv 0) pe_int) (pv 0)) (pe_ix ix_list (pe_lst (pa_cons pe_int (pa_cons (pe_op op_pow pe_int pe_int) pa_nil))) (pe_op op_mod (pe_op op_fdivW (pv 0) pe_int) pe_int) (fun _ _ => rfl))))))), ?_⟩
    walk_at "r"
    refine iteI (fun h => ?_) (fun h => ?_)
    · walk_at "r"
      refine ⟨by show 4 ≤ sizeLine; decide, fun p np => gen_upd np fun H2 s2 e2 n2 => ?_⟩
      walk_at "r"
      obtain ⟨i, hat, _⟩ := at_ints (ns := [low, low + 1, 10 ^ 30, 10 ^ 30 - 1]) (k := c / 4 % 4) (by omega) (by show c / 4 % 4 < 4; omega)
      refine ⟨p, _, _, _, rfl, rfl, SqL.of e2, hat, ?_⟩
      exact q i _ s2
    · walk_at "r"
      refine ⟨mul_ok (b31 (by omega) (by omega)) (b31 (by omega) (by omega)), ?_⟩
      walk_at "r"
      refine ⟨by show 2 ≤ sizeLine; decide, fun p np => gen_upd np fun H2 s2 e2 n2 => ?_⟩
      walk_at "r"
      obtain ⟨i, hat, hm⟩ := at_ints (ns := [1000, 10 ^ 20]) (k := c / 4 % 2) (by omega) (by show c / 4 % 2 < 2; omega)
      refine ⟨p, _, _, _, rfl, rfl, SqL.of e2, hat, ?_⟩
      have hi : 0 < i := by
        rcases List.mem_cons.mp hm with e | e
        · omega
        · rw [List.mem_singleton.mp e]
          decide
      walk_at "r"
      exact q _ _ s2
end
end Q
namespace Q
open PySem PySem.Spec PyProof.Rows L2
open Z
section
variable {P : Program} {w : World} {K : PySem.W.Frag} {mg : Str → Option Value} {base : Heap}
theorem ok_law_odd {f : Addr} {fd : FuncData} (F : Fun K "_law_odd" "_law_odd" s_law_odd f fd) (B : Bi mg) : FnOk P w K mg base CX0 1 f fd ["_law_cell", "_law_low"] (Z.spOdd K) := by
  refine F.ok sc_law_odd (fun vs H Q E h => ?_) (fun cdv A outer s H vs Q E hr h => ?_)
  · obtain ⟨c, low, rfl, hc0, q⟩ := h
    rfl
  · obtain ⟨c, low, rfl, hc0, q⟩ := h
    refine ⟨_, (pss_one (ps_ret (pe_ix ix_list (pe_lst (pa_cons (pe_op op_sub (pv 1) pe_int) (pa_cons (pe_op op_sub (pv 1) pe_int) (pa_cons (pe_op op_add (pe_op op_pow pe_int pe_int) pe_int) (pa_cons pe_bl (pa_cons pe_str (pa_cons pe_non (pa_cons (pe_tup (pa_cons (pe_op op_add (pv 1) pe_int) pa_nil)) (pa_cons (pe_lst (pa_cons pe_int pa_nil)) (pa_cons (pe_op op_sub pe_int pe_int) (pa_cons pe_int pa_nil))))))))))) (pe_op op_mod (pv 0) pe_int) (fun _ _ => rfl)))), ?_⟩
    walk_at "r"
    refine ⟨by show 1 ≤ sizeLine; decide, fun p np => gen_upd np fun H1 s1 e1 n1 => ?_⟩
    walk_at "r"
    refine ⟨by show 1 ≤ sizeLine; decide, fun p2 np2 => gen_upd np2 fun H2 s2 e2 n2 => ?_⟩
    walk_at "r"
    refine ⟨by show 10 ≤ sizeLine; decide, fun p3 np3 => gen_upd np3 fun H3 s3 e3 n3 => ?_⟩
    walk_at "r"
    obtain ⟨v, hat, hm⟩ := at_open (xs := [V.int (low - 1), V.int (low - 1), V.int (10 ^ (30 : Int).toNat + 1), V.bl true, V.str "2", V.non, V.ref p, V.ref p2, V.int (0 - 5), V.int 0]) (k := c % 10) (by omega) (by show c % 10 < 10; omega)
    refine ⟨p3, _, _, _, rfl, rfl, SqL.of e3, hat, ?_⟩
    have all : ∀ u ∈ [V.int (low - 1), V.int (low - 1), V.int (10 ^ (30 : Int).toNat + 1), V.bl true, V.str "2", V.non, V.ref p, V.ref p2, V.int (0 - 5), V.int 0], DA K H3 u :=
      allc (da_int _) (allc (da_int _) (allc (da_int _) (allc (da_bl _) (allc (da_str _) (allc da_non (allc (da_tup (SqT.of (s3 _ _ (s2 _ _ e1))) (all1 (da_int _))) (allc (da_lst (SqL.of (s3 _ _ e2)) (all1 (da_int _))) (allc (da_int _) (allc (da_int _) all0)))))))))
    exact q v _ (s1.trans (s2.trans s3)) (all v hm)
end
end Q
namespace Q
open PySem PySem.Spec PyProof.Rows L2
open Z
section
variable {P : Program} {w : World} {K : PySem.W.Frag} {mg : Str → Option Value} {base : Heap}
theorem ok_law_powers {f : Addr} {fd : FuncData} (F : Fun K "_law_powers" "_law_powers" s_law_powers f fd) (B : Bi mg) : FnOk P w K mg base CX0 1 f fd ["_law_cells"] (Z.spPowers3 K) := by
  refine F.ok sc_law_powers (fun vs H Q E h => ?_) (fun cdv A outer s H vs Q E hr h => ?_)
  · obtain ⟨a, cs, rfl, hS, hc, q⟩ := h
    rfl
  · obtain ⟨a, cs, rfl, hS, hc, q⟩ := h
    refine ⟨_, (pss_cons (ps_set (i := 1) sc_law_powers.nd rfl (Or.inl rfl) (pe_lst pa_nil))
      (pss_cons (ps_set (i := 2) sc_law_powers.nd rfl (Or.inl rfl) pe_int)
      (pss_cons (ps_for PassesOwn.never rfl (pi_range1 (by rfl) B.n_range (pa_cons (pe_op op_add pe_int (pe_op op_mod (pe_ix ix_list (pv 0) pe_int (fun _ _ => rfl)) pe_int)) pa_nil)) (pg_name (i := 3) sc_law_powers.nd rfl (Or.inl rfl)) (pss_cons (ps_set (i := 2) sc_law_powers.nd rfl (Or.inl rfl) (pe_op op_add (pe_op op_add (pv 2) pe_int) (pe_op op_mod (pe_ix ix_list (pv 0) (pe_op op_add pe_int (pv 3)) (fun _ _ => rfl)) (pe_ix ix_list (pe_lst (pa_cons pe_int (pa_cons pe_int pa_nil))) (pe_op op_mod (pe_op op_fdivW (pe_ix ix_list (pv 0) (pe_op op_add pe_int (pv 3)) (fun _ _ => rfl)) pe_int) pe_int) (fun _ _ => rfl)))))
      (pss_one (ps_expr (pe_bm PySem.F.plainAttrs_list PySem.F.slot_list_append PySem.F.type_list_append mt_append (pv 1) (pa_cons (pe_tup (pa_cons (pv 2) (pa_cons (pe_ix ix_list (pe_lst (pa_cons (pe_op op_add pe_int (pe_op op_mod (pe_op op_fdivW (pe_ix ix_list (pv 0) (pe_op op_add pe_int (pv 3)) (fun _ _ => rfl)) pe_int) pe_int)) (pa_cons pe_int (pa_cons pe_int pa_nil)))) (pe_op op_mod (pe_op op_fdivW (pe_ix ix_list (pv 0) (pe_op op_add pe_int (pv 3)) (fun _ _ => rfl)) pe_int) pe_int) (fun _ _ => rfl)) pa_nil))) pa_nil))))))
      (pss_one (ps_ret (pv 1)))))), ?_⟩
    walk_at "r"
    refine ⟨by show 0 ≤ sizeLine; decide, fun p np => ?_⟩
    walk_at "r"
    obtain ⟨c0, at0, c00, c01⟩ := cells_get hc (k := 0) (by decide) (by decide)
    refine ⟨a, _, _, _, rfl, rfl, (same_upd np).seq hS, at0, ?_⟩
    walk_at "r"
    refine for_range (lo := 0) (n := (1 + c0 % 4).toNat) (fun i σ H' => ∃ (y : Option V) (last : Int) (xs : List V), σ = [some (.ref a), some (.ref p), some (.int last), y] ∧ Same H H' ∧ H' p = some (.lst xs) ∧ xs.length = i ∧ Z.Pairs H' xs)
      ⟨none, 1, [], rfl, same_upd np, upd_same, rfl, fun v h => nomatch h⟩ ?_ ?_
    · rintro i σ H' hi ⟨y, last, xs, rfl, sm, ep, hl, hP⟩
      have hS' := sm.seq hS
      obtain ⟨ci, ati, ci0, ci1⟩ := cells_get hc (k := 1 + (0 + (i : Int))) (by omega) (by omega)
      walk_at "r"
      refine ⟨a, _, _, _, rfl, rfl, hS', ati, ?_⟩
      walk_at "r"
      refine ⟨by show 2 ≤ sizeLine; decide, fun p1 np1 => gen_upd np1 fun H1 s1 e1 n1 => ?_⟩
      walk_at "r"
      refine ⟨a, _, _, _, rfl, rfl, s1.seq hS', ati, ?_⟩
      walk_at "r"
      obtain ⟨m, hat, hm⟩ := at_ints (ns := [3, 1000003]) (k := ci / 9 % 2) (by omega) (by show ci / 9 % 2 < 2; omega)
      refine ⟨p1, _, _, _, rfl, rfl, SqL.of e1, hat, ?_⟩
      have hm0 : 0 < m := by
        rcases List.mem_cons.mp hm with e | e
        · omega
        · rw [List.mem_singleton.mp e]
          decide
      walk_at "r"
      refine ⟨.inl ⟨rfl, _, SqL.of (s1 _ _ ep)⟩, ?_⟩
      walk_at "r"
      refine ⟨a, _, _, _, rfl, rfl, s1.seq hS', ati, ?_⟩
      walk_at "r"
      refine ⟨by show 3 ≤ sizeLine; decide, fun p2 np2 => gen_upd np2 fun H2 s2 e2 n2 => ?_⟩
      walk_at "r"
      refine ⟨a, _, _, _, rfl, rfl, s2.seq (s1.seq hS'), ati, ?_⟩
      walk_at "r"
      obtain ⟨t, hat2, _⟩ := at_ints (ns := [1 + ci / 5 % 100, 1, 100]) (k := ci / 500 % 3) (by omega) (by show ci / 500 % 3 < 3; omega)
      refine ⟨p2, _, _, _, rfl, rfl, SqL.of e2, hat2, ?_⟩
      refine ⟨by show 2 ≤ sizeLine; decide, fun p3 np3 => gen_upd np3 fun H3 s3 e3 n3 => ?_⟩
      have s13 := s1.trans (s2.trans s3)
      have ep3 := s13 _ _ ep
      walk_at "r"
      refine ⟨p, _, _, rfl, rfl, ep3, small1000 (by omega), ?_⟩
      have ne3 : p ≠ p3 := ne_of_none (s2 _ _ (s1 _ _ ep)) np3
      refine ⟨_, _, xs ++ [.ref p3], rfl, same_set np (sm.trans s13), upd_same, by rw [List.length_append, hl]; rfl, ?_⟩
      exact pairs_set ep3 (all_app (pairs_same s13 hP) (pairs_one e3))
    · rintro σ H' ⟨y, last, xs, rfl, sm, ep, hl, hP⟩
      walk_at "r"
      exact q _ _ _ sm ep (by omega) (by omega) hP
end
end Q
namespace Q
open PySem PySem.Spec PyProof.Rows L2
open Z
section
variable {P : Program} {w : World} {K : PySem.W.Frag} {mg : Str → Option Value} {base : Heap}
theorem ok_law_powers_spoilt {f : Addr} {fd : FuncData} (F : Fun K "_law_powers_spoilt" "_law_powers_spoilt" s_law_powers_spoilt f fd) (B : Bi mg) : FnOk P w K mg base CX0 1 f fd ["_law_powers_here", "_law_cell"] (Z.spSpoil3 K) := by
  refine F.ok sc_law_powers_spoilt (fun vs H Q E h => ?_) (fun cdv A outer s H vs Q E hr h => ?_)
  · obtain ⟨a, xs, c, rfl, hA, hl1, hl2, hP, hc, q⟩ := h
    rfl
  · obtain ⟨a, xs, c, rfl, hA, hl1, hl2, hP, hc, q⟩ := h
    refine ⟨_, (pss_cons (ps_set (i := 2) sc_law_powers_spoilt.nd rfl (Or.inl rfl) (pe_op op_mod (pv 1) (pe_callB call_len_seq (by rfl) B.n_len (by decide +kernel) (pa_cons (pv 0) pa_nil))))
      (pss_cons (ps_asg (pe_ix ix_list (pv 0) (pv 2) (fun _ _ => rfl)) (pg_tup rfl (pgs_cons (pg_name (i := 3) sc_law_powers_spoilt.nd rfl (Or.inl rfl)) (pgs_cons (pg_name (i := 4) sc_law_powers_spoilt.nd rfl (Or.inl rfl)) pgs_nil))))
      (pss_cons (ps_set (i := 5) sc_law_powers_spoilt.nd rfl (Or.inl rfl) (pe_op op_mod (pe_op op_fdivW (pv 1) pe_int) pe_int))
      (pss_cons (ps_set (i := 6) sc_law_powers_spoilt.nd rfl (Or.inl rfl) (pe_lst (pa_cons (pe_tup (pa_cons (pv 3) (pa_cons pe_int pa_nil))) (pa_cons (pe_tup (pa_cons (pv 3) (pa_cons pe_int pa_nil))) (pa_cons (pe_lst (pa_cons (pv 3) (pa_cons (pv 4) pa_nil))) (pa_cons (pe_tup (pa_cons (pv 3) (pa_cons (pv 4) (pa_cons pe_int pa_nil)))) (pa_cons (pe_tup (pa_cons pe_bl (pa_cons (pv 4) pa_nil))) (pa_cons (pe_tup (pa_cons (pv 3) (pa_cons pe_bl pa_nil))) (pa_cons (pe_tup (pa_cons pe_int (pa_cons (pv 4) pa_nil))) (pa_cons (pv 3) (pa_cons (pe_tup (pa_cons (pv 3) pa_nil)) pa_nil)))))))))))
      (pss_cons (ps_if (pt_cmpR op_lt (pv 5) pe_int (nomark _)) (pss_one (ps_ret (pe_callTy call_tuple_of (by rfl) B.n_tuple (by decide +kernel) (pa_cons (pe_op op_cat (pe_op op_cat (pe_slice sl_list (pv 0) po_none (po_some (pv 2))) (pe_lst (pa_cons (pe_ix ix_list (pv 6) (pv 5) (fun _ _ => rfl)) pa_nil))) (pe_slice sl_list (pv 0) (po_some (pe_op op_add (pv 2) pe_int)) po_none)) pa_nil)))) pss_nil)
      (pss_cons (ps_if (pt_cmpR op_eq (pv 5) pe_int (nomark _)) (pss_one (ps_ret (pe_callTy call_tuple_of (by rfl) B.n_tuple (by decide +kernel) (pa_cons (pe_op op_cat (pe_op op_cat (pe_slice sl_list (pv 0) po_none (po_some (pv 2))) (pe_lst (pa_cons (pe_ix ix_list (pv 0) (pv 2) (fun _ _ => rfl)) pa_nil))) (pe_slice sl_list (pv 0) (po_some (pv 2)) po_none)) pa_nil)))) pss_nil)
      (pss_cons (ps_if (PW.pt (pw_and (pt_cmpR op_eq (pv 5) pe_int (nomark _)) (pw_and1 (pt_cmpR op_gt (pv 2) pe_int (nomark _))))) (pss_one (ps_ret (pe_callTy call_tuple_of (by rfl) B.n_tuple (by decide +kernel) (pa_cons (pe_op op_cat (pe_op op_cat (pe_slice sl_list (pv 0) po_none (po_some (pe_op op_sub (pv 2) pe_int))) (pe_lst (pa_cons (pe_ix ix_list (pv 0) (pv 2) (fun _ _ => rfl)) (pa_cons (pe_ix ix_list (pv 0) (pe_op op_sub (pv 2) pe_int) (fun _ _ => rfl)) pa_nil)))) (pe_slice sl_list (pv 0) (po_some (pe_op op_add (pv 2) pe_int)) po_none)) pa_nil)))) pss_nil)
      (pss_cons (ps_if (pt_cmpR op_eq (pv 5) pe_int (nomark _)) (pss_one (ps_ret (pe_callTy call_tuple_of (by rfl) B.n_tuple (by decide +kernel) (pa_cons (pe_op op_cat (pv 0) (pe_lst (pa_cons (pe_tup (pa_cons (pe_op op_add (pe_op op_pow pe_int pe_int) (pe_op op_mod (pe_op op_fdivW (pv 1) pe_int) pe_int)) (pa_cons pe_int pa_nil))) pa_nil))) pa_nil)))) pss_nil)
      (pss_cons (ps_if (pt_cmpR op_eq (pv 5) pe_int (nomark _)) (pss_one (ps_ret (pe_tup pa_nil))) pss_nil)
      (pss_one (ps_ret (pe_ix ix_list (pe_lst (pa_cons (pe_callTy call_list_of (by rfl) B.n_list (by decide +kernel) (pa_cons (pv 0) pa_nil)) (pa_cons pe_non (pa_cons (pe_ix ix_list (pv 0) pe_int (fun _ _ => rfl)) pa_nil)))) (pe_op op_mod (pe_op op_fdivW (pv 1) pe_int) pe_int) (fun _ _ => rfl))))))))))))), ?_⟩
    have hS := SqL.of (K := K) hA
    walk_at "r"
    refine ⟨_, _, rfl, .inl hS, ?_⟩
    walk_at "r"
    have hk0 := Int.emod_nonneg c (show (xs.length : Int) ≠ 0 by omega)
    have hk1 := Int.emod_lt_of_pos c (show (0 : Int) < xs.length by omega)
    obtain ⟨v, hat, hm⟩ := at_open (xs := xs) (k := c % (xs.length : Int)) hk0 hk1
    refine ⟨a, _, _, _, rfl, rfl, hS, hat, ?_⟩
    obtain ⟨b, x, y, rfl, eb⟩ := hP v hm
    refine ⟨b, _, rfl, SqT.of eb, rfl, _, _, rfl, _, _, rfl, rfl, ?_⟩
    have S := Same.refl H
    have dv : DA K H (.ref b) := da_tup (SqT.of eb) (allc (da_int _) (allc (da_int _) all0))
    walk_at "r"
    refine ⟨by show 2 ≤ sizeLine; decide, fun p1 np1 => gen_upd np1 fun H1 s1 e1 n1 => ?_⟩
    have S := S.trans s1
    walk_at "r"
    refine ⟨by show 2 ≤ sizeLine; decide, fun p2 np2 => gen_upd np2 fun H2 s2 e2 n2 => ?_⟩
    have S := S.trans s2
    walk_at "r"
    refine ⟨by show 2 ≤ sizeLine; decide, fun p3 np3 => gen_upd np3 fun H3 s3 e3 n3 => ?_⟩
    have S := S.trans s3
    walk_at "r"
    refine ⟨by show 3 ≤ sizeLine; decide, fun p4 np4 => gen_upd np4 fun H4 s4 e4 n4 => ?_⟩
    have S := S.trans s4
    walk_at "r"
    refine ⟨by show 2 ≤ sizeLine; decide, fun p5 np5 => gen_upd np5 fun H5 s5 e5 n5 => ?_⟩
    have S := S.trans s5
    walk_at "r"
    refine ⟨by show 2 ≤ sizeLine; decide, fun p6 np6 => gen_upd np6 fun H6 s6 e6 n6 => ?_⟩
    have S := S.trans s6
    walk_at "r"
    refine ⟨by show 2 ≤ sizeLine; decide, fun p7 np7 => gen_upd np7 fun H7 s7 e7 n7 => ?_⟩
    have S := S.trans s7
    walk_at "r"
    refine ⟨by show 1 ≤ sizeLine; decide, fun p8 np8 => gen_upd np8 fun H8 s8 e8 n8 => ?_⟩
    have S := S.trans s8
    walk_at "r"
    refine ⟨by show 9 ≤ sizeLine; decide, fun p9 np9 => gen_upd np9 fun H9 s9 e9 n9 => ?_⟩
    have S := S.trans s9
    have d1 : DA K H9 (.ref p1) := da_tup (SqT.of (s9 _ _ (s8 _ _ (s7 _ _ (s6 _ _ (s5 _ _ (s4 _ _ (s3 _ _ (s2 _ _ e1))))))))) (allc (da_int _) (allc (da_int _) all0))
    have d2 : DA K H9 (.ref p2) := da_tup (SqT.of (s9 _ _ (s8 _ _ (s7 _ _ (s6 _ _ (s5 _ _ (s4 _ _ (s3 _ _ e2)))))))) (allc (da_int _) (allc (da_int _) all0))
    have d3 : DA K H9 (.ref p3) := da_lst (SqL.of (s9 _ _ (s8 _ _ (s7 _ _ (s6 _ _ (s5 _ _ (s4 _ _ e3))))))) (allc (da_int _) (allc (da_int _) all0))
    have d4 : DA K H9 (.ref p4) := da_tup (SqT.of (s9 _ _ (s8 _ _ (s7 _ _ (s6 _ _ (s5 _ _ e4)))))) (allc (da_int _) (allc (da_int _) (allc (da_int _) all0)))
    have d5 : DA K H9 (.ref p5) := da_tup (SqT.of (s9 _ _ (s8 _ _ (s7 _ _ (s6 _ _ e5))))) (allc (da_bl _) (allc (da_int _) all0))
    have d6 : DA K H9 (.ref p6) := da_tup (SqT.of (s9 _ _ (s8 _ _ (s7 _ _ e6)))) (allc (da_int _) (allc (da_bl _) all0))
    have d7 : DA K H9 (.ref p7) := da_tup (SqT.of (s9 _ _ (s8 _ _ e7))) (allc (da_int _) (allc (da_int _) all0))
    have d8 : DA K H9 (.ref p8) := da_tup (SqT.of (s9 _ _ e8)) (allc (da_int _) all0)
    have all := allc (P := DA K H9) d1 (allc d2 (allc d3 (allc d4 (allc d5 (allc d6 (allc d7 (allc (da_int x) (allc d8 all0))))))))
    clear d1 d2 d3 d4 d5 d6 d7 d8
    clear s1 s2 s3 s4 s5 s6 s7 s8 s9 n1 n2 n3 n4 n5 n6 n7 n8 n9 e1 e2 e3 e4 e5 e6 e7 e8
    have hS9 := S.seq hS
    have hP9 := pairs_same S hP
    walk_at "r"
    refine ite3 (fun h => ?_) (fun h => ?_)
    · walk_at "r"
      refine ⟨a, xs, rfl, S.seq hS, fun p10 np10 => gen_upd np10 fun H10 s10 e10 n10 => ?_⟩
      have S := S.trans s10
      have e9 := s10 _ _ e9
      walk_at "r"
      obtain ⟨u, hu, hum⟩ := at_open (xs := [V.ref p1, V.ref p2, V.ref p3, V.ref p4, V.ref p5, V.ref p6, V.ref p7, V.int x, V.ref p8]) (k := c / 4 % 14) (by omega) (by show c / 4 % 14 < 9; omega)
      refine ⟨p9, _, _, _, rfl, rfl, SqL.of e9, hu, ?_⟩
      walk_at "sz"
      refine fun p11 np11 => gen_upd np11 fun H11 s11 e11 n11 => ?_
      have S := S.trans s11
      have e9 := s11 _ _ e9
      have e10 := s11 _ _ e10
      walk_at "r"
      refine ⟨p10, p11, _, _, rfl, rfl, e10, e11, szl (by have := cutV_length xs none (some (c % (xs.length : Int))); simp only [List.length_singleton]; omega), fun p12 np12 => gen_upd np12 fun H12 s12 e12 n12 => ?_⟩
      have S := S.trans s12
      have e9 := s12 _ _ e9
      have e10 := s12 _ _ e10
      have e11 := s12 _ _ e11
      walk_at "r"
      refine ⟨a, xs, rfl, S.seq hS, fun p13 np13 => gen_upd np13 fun H13 s13 e13 n13 => ?_⟩
      have S := S.trans s13
      have e9 := s13 _ _ e9
      have e10 := s13 _ _ e10
      have e11 := s13 _ _ e11
      have e12 := s13 _ _ e12
      walk_at "r"
      refine ⟨p12, p13, _, _, rfl, rfl, e12, e13, szl (by have := cutV_length xs none (some (c % (xs.length : Int))); have := cutV_length xs (some (c % (xs.length : Int) + 1)) none; simp only [List.length_append, List.length_singleton]; omega), fun p14 np14 => gen_upd np14 fun H14 s14 e14 n14 => ?_⟩
      have S := S.trans s14
      have e9 := s14 _ _ e9
      have e10 := s14 _ _ e10
      have e11 := s14 _ _ e11
      have e12 := s14 _ _ e12
      have e13 := s14 _ _ e13
      walk_at "r"
      refine ⟨_, _, rfl, .inl ⟨SqL.of e14, fun p15 np15 => gen_upd np15 fun H15 s15 e15 n15 => ?_⟩⟩
      have S := S.trans s15
      have e9 := s15 _ _ e9
      have e10 := s15 _ _ e10
      have e11 := s15 _ _ e11
      have e12 := s15 _ _ e12
      have e13 := s15 _ _ e13
      have e14 := s15 _ _ e14
      have A := pairs_da (K := K) (pairs_same S hP)
      have T := s10.trans (s11.trans (s12.trans (s13.trans (s14.trans s15))))
      exact q _ _ S (da_tup (SqT.of e15) (all_app (all_app (all_cut A _ _) (all1 (da_same T (all u hum)))) (all_cut A _ _)))
    walk_at "r"
    refine iteI (fun h => ?_) (fun h2 => ?_)
    · walk_at "r"
      refine ⟨a, xs, rfl, S.seq hS, fun p10 np10 => gen_upd np10 fun H10 s10 e10 n10 => ?_⟩
      have S := S.trans s10
      walk_at "r"
      refine ⟨a, _, _, _, rfl, rfl, S.seq hS, hat, ?_⟩
      walk_at "sz"
      refine fun p11 np11 => gen_upd np11 fun H11 s11 e11 n11 => ?_
      have S := S.trans s11
      have e10 := s11 _ _ e10
      walk_at "r"
      refine ⟨p10, p11, _, _, rfl, rfl, e10, e11, szl (by have := cutV_length xs none (some (c % (xs.length : Int))); simp only [List.length_singleton]; omega), fun p12 np12 => gen_upd np12 fun H12 s12 e12 n12 => ?_⟩
      have S := S.trans s12
      have e10 := s12 _ _ e10
      have e11 := s12 _ _ e11
      walk_at "r"
      refine ⟨a, xs, rfl, S.seq hS, fun p13 np13 => gen_upd np13 fun H13 s13 e13 n13 => ?_⟩
      have S := S.trans s13
      have e10 := s13 _ _ e10
      have e11 := s13 _ _ e11
      have e12 := s13 _ _ e12
      walk_at "r"
      refine ⟨p12, p13, _, _, rfl, rfl, e12, e13, szl (by have := cutV_length xs none (some (c % (xs.length : Int))); have := cutV_length xs (some (c % (xs.length : Int))) none; simp only [List.length_append, List.length_singleton]; omega), fun p14 np14 => gen_upd np14 fun H14 s14 e14 n14 => ?_⟩
      have S := S.trans s14
      have e10 := s14 _ _ e10
      have e11 := s14 _ _ e11
      have e12 := s14 _ _ e12
      have e13 := s14 _ _ e13
      walk_at "r"
      refine ⟨_, _, rfl, .inl ⟨SqL.of e14, fun p15 np15 => gen_upd np15 fun H15 s15 e15 n15 => ?_⟩⟩
      have S := S.trans s15
      have e10 := s15 _ _ e10
      have e11 := s15 _ _ e11
      have e12 := s15 _ _ e12
      have e13 := s15 _ _ e13
      have e14 := s15 _ _ e14
      have A := pairs_da (K := K) (pairs_same S hP)
      exact q _ _ S (da_tup (SqT.of e15) (all_app (all_app (all_cut A _ _) (all1 (A _ hm))) (all_cut A _ _)))
    walk_at "r"
    refine iteI (fun h3 => ?_) (fun h3 => ?_)
    · walk_at "r"
      refine ite3 (fun h4 => ?_) (fun h4 => ?_)
      · walk_at "r"
        refine ⟨a, xs, rfl, S.seq hS, fun p10 np10 => gen_upd np10 fun H10 s10 e10 n10 => ?_⟩
        have S := S.trans s10
        walk_at "r"
        refine ⟨a, _, _, _, rfl, rfl, S.seq hS, hat, ?_⟩
        walk_at "r"
        obtain ⟨u, hu, hum⟩ := at_open (xs := xs) (k := c % (xs.length : Int) - 1) (by omega) (by omega)
        refine ⟨a, _, _, _, rfl, rfl, S.seq hS, hu, ?_⟩
        walk_at "sz"
        refine fun p11 np11 => gen_upd np11 fun H11 s11 e11 n11 => ?_
        have S := S.trans s11
        have e10 := s11 _ _ e10
        walk_at "r"
        refine ⟨p10, p11, _, _, rfl, rfl, e10, e11, szl (by have := cutV_length xs none (some (c % (xs.length : Int) - 1)); simp only [List.length_cons, List.length_nil]; omega), fun p12 np12 => gen_upd np12 fun H12 s12 e12 n12 => ?_⟩
        have S := S.trans s12
        have e10 := s12 _ _ e10
        have e11 := s12 _ _ e11
        walk_at "r"
        refine ⟨a, xs, rfl, S.seq hS, fun p13 np13 => gen_upd np13 fun H13 s13 e13 n13 => ?_⟩
        have S := S.trans s13
        have e10 := s13 _ _ e10
        have e11 := s13 _ _ e11
        have e12 := s13 _ _ e12
        walk_at "r"
        refine ⟨p12, p13, _, _, rfl, rfl, e12, e13, szl (by have := cutV_length xs none (some (c % (xs.length : Int) - 1)); have := cutV_length xs (some (c % (xs.length : Int) + 1)) none; simp only [List.length_append, List.length_cons, List.length_nil]; omega), fun p14 np14 => gen_upd np14 fun H14 s14 e14 n14 => ?_⟩
        have S := S.trans s14
        have e10 := s14 _ _ e10
        have e11 := s14 _ _ e11
        have e12 := s14 _ _ e12
        have e13 := s14 _ _ e13
        walk_at "r"
        refine ⟨_, _, rfl, .inl ⟨SqL.of e14, fun p15 np15 => gen_upd np15 fun H15 s15 e15 n15 => ?_⟩⟩
        have S := S.trans s15
        have e10 := s15 _ _ e10
        have e11 := s15 _ _ e11
        have e12 := s15 _ _ e12
        have e13 := s15 _ _ e13
        have e14 := s15 _ _ e14
        have A := pairs_da (K := K) (pairs_same S hP)
        exact q _ _ S (da_tup (SqT.of e15) (all_app (all_app (all_cut A _ _) (allc (A _ hm) (all1 (A _ hum)))) (all_cut A _ _)))
      · walk_at "r"
        refine iteI (fun h5 => ?_) (fun h5 => ?_)
        · walk_at "r"
          walk_at "sz"
          refine fun p10 np10 => gen_upd np10 fun H10 s10 e10 n10 => ?_
          have S := S.trans s10
          walk_at "sz"
          refine fun p11 np11 => gen_upd np11 fun H11 s11 e11 n11 => ?_
          have S := S.trans s11
          have e10 := s11 _ _ e10
          walk_at "r"
          refine ⟨a, p11, _, _, rfl, rfl, S _ _ hA, e11, szl (by simp only [List.length_cons, List.length_nil]; omega), fun p12 np12 => gen_upd np12 fun H12 s12 e12 n12 => ?_⟩
          have S := S.trans s12
          have e10 := s12 _ _ e10
          have e11 := s12 _ _ e11
          walk_at "r"
          refine ⟨_, _, rfl, .inl ⟨SqL.of e12, fun p13 np13 => gen_upd np13 fun H13 s13 e13 n13 => ?_⟩⟩
          have S := S.trans s13
          have e10 := s13 _ _ e10
          have e11 := s13 _ _ e11
          have e12 := s13 _ _ e12
          have A := pairs_da (K := K) (pairs_same S hP)
          exact q _ _ S (da_tup (SqT.of e13) (all_app A (all1 (da_tup (SqT.of e10) (allc (da_int _) (all1 (da_int _)))))))
        walk_at "r"
        refine iteI (fun h6 => ?_) (fun h6 => ?_)
        · walk_at "r"
          walk_at "sz"
          refine fun p10 np10 => gen_upd np10 fun H10 s10 e10 n10 => ?_
          have S := S.trans s10
          exact q _ _ S (da_tup (SqT.of e10) all0)
        walk_at "r"
        refine ⟨_, _, rfl, .inl (S.seq hS), fun p10 np10 => gen_upd np10 fun H10 s10 e10 n10 => ?_⟩
        have S := S.trans s10
        walk_at "r"
        obtain ⟨u0, hu0, hum0⟩ := at_open (xs := xs) (k := 0) (by omega) (by omega)
        refine ⟨a, _, _, _, rfl, rfl, S.seq hS, hu0, ?_⟩
        walk_at "sz"
        refine fun p11 np11 => gen_upd np11 fun H11 s11 e11 n11 => ?_
        have S := S.trans s11
        have e10 := s11 _ _ e10
        walk_at "r"
        obtain ⟨u, hu, hum⟩ := at_open (xs := [V.ref p10, V.non, u0]) (k := c / 64 % 3) (by omega) (by show c / 64 % 3 < 3; omega)
        refine ⟨p11, _, _, _, rfl, rfl, SqL.of e11, hu, ?_⟩
        have A := pairs_da (K := K) (pairs_same S hP)
        have all2 := allc (P := DA K H11) (da_lst (SqL.of e10) A) (allc da_non (all1 (A _ hum0)))
        exact q _ _ S (all2 u hum)
    · walk_at "r"
      refine iteI (fun h5 => ?_) (fun h5 => ?_)
      · walk_at "r"
        walk_at "sz"
        refine fun p10 np10 => gen_upd np10 fun H10 s10 e10 n10 => ?_
        have S := S.trans s10
        walk_at "sz"
        refine fun p11 np11 => gen_upd np11 fun H11 s11 e11 n11 => ?_
        have S := S.trans s11
        have e10 := s11 _ _ e10
        walk_at "r"
        refine ⟨a, p11, _, _, rfl, rfl, S _ _ hA, e11, szl (by simp only [List.length_cons, List.length_nil]; omega), fun p12 np12 => gen_upd np12 fun H12 s12 e12 n12 => ?_⟩
        have S := S.trans s12
        have e10 := s12 _ _ e10
        have e11 := s12 _ _ e11
        walk_at "r"
        refine ⟨_, _, rfl, .inl ⟨SqL.of e12, fun p13 np13 => gen_upd np13 fun H13 s13 e13 n13 => ?_⟩⟩
        have S := S.trans s13
        have e10 := s13 _ _ e10
        have e11 := s13 _ _ e11
        have e12 := s13 _ _ e12
        have A := pairs_da (K := K) (pairs_same S hP)
        exact q _ _ S (da_tup (SqT.of e13) (all_app A (all1 (da_tup (SqT.of e10) (allc (da_int _) (all1 (da_int _)))))))
      walk_at "r"
      refine iteI (fun h6 => ?_) (fun h6 => ?_)
      · walk_at "r"
        walk_at "sz"
        refine fun p10 np10 => gen_upd np10 fun H10 s10 e10 n10 => ?_
        have S := S.trans s10
        exact q _ _ S (da_tup (SqT.of e10) all0)
      walk_at "r"
      refine ⟨_, _, rfl, .inl (S.seq hS), fun p10 np10 => gen_upd np10 fun H10 s10 e10 n10 => ?_⟩
      have S := S.trans s10
      walk_at "r"
      obtain ⟨u0, hu0, hum0⟩ := at_open (xs := xs) (k := 0) (by omega) (by omega)
      refine ⟨a, _, _, _, rfl, rfl, S.seq hS, hu0, ?_⟩
      walk_at "sz"
      refine fun p11 np11 => gen_upd np11 fun H11 s11 e11 n11 => ?_
      have S := S.trans s11
      have e10 := s11 _ _ e10
      walk_at "r"
      obtain ⟨u, hu, hum⟩ := at_open (xs := [V.ref p10, V.non, u0]) (k := c / 64 % 3) (by omega) (by show c / 64 % 3 < 3; omega)
      refine ⟨p11, _, _, _, rfl, rfl, SqL.of e11, hu, ?_⟩
      have A := pairs_da (K := K) (pairs_same S hP)
      have all2 := allc (P := DA K H11) (da_lst (SqL.of e10) A) (allc da_non (all1 (A _ hum0)))
      exact q _ _ S (all2 u hum)
end
end Q
namespace Q
open PySem PySem.Spec PyProof.Rows L2
open Z
section
variable {P : Program} {w : World} {K : PySem.W.Frag} {mg : Str → Option Value} {base : Heap}
theorem ok_law_facts {f : Addr} {fd : FuncData} (F : Fun K "_law_facts" "_law_facts" s_law_facts f fd) (B : Bi mg) (D_law_good : Z.Df P w K mg base "_law_good" ["_law_cell", "_law_low"] 1 (Z.spGood)) (D_law_odd : Z.Df P w K mg base "_law_odd" ["_law_cell", "_law_low"] 1 (Z.spOdd K)) (D_law_powers : Z.Df P w K mg base "_law_powers" ["_law_cells"] 1 (Z.spPowers3 K)) (D_law_powers_spoilt : Z.Df P w K mg base "_law_powers_spoilt" ["_law_powers_here", "_law_cell"] 1 (Z.spSpoil3 K)) : FnOk P w K mg base CX0 2 f fd ["_law_word", "_law_cells", "_law_place"] (Z.spFacts3 K) := by
  refine F.ok sc_law_facts (fun vs H Q E h => ?_) (fun cdv A outer s H vs Q E hr h => ?_)
  · obtain ⟨w, a, cs, pl, rfl, hS, hc, q⟩ := h
    rfl
  · obtain ⟨w, a, cs, pl, rfl, hS, hc, q⟩ := h
    refine ⟨_, (pss_cons (ps_if (pt_cmpR op_eq (pv 2) pe_int (nomark _)) (pss_one (ps_ret (pe_ix ix_list (pe_lst (pa_cons pe_non (pa_cons (pe_lst pa_nil) (pa_cons pe_int (pa_cons pe_str (pa_cons (pe_tup (pa_cons pe_bl pa_nil)) (pa_cons (pe_lst (pa_cons pe_int (pa_cons pe_int pa_nil))) (pa_cons (pe_tup (pa_cons pe_int (pa_cons pe_int (pa_cons pe_int pa_nil)))) (pa_cons (pe_tup pa_nil) pa_nil))))))))) (pe_op op_mod (pe_ix ix_list (pv 1) pe_int (fun _ _ => rfl)) pe_int) (fun _ _ => rfl)))) pss_nil)
      (pss_cons (ps_set (i := 3) sc_law_facts.nd rfl (Or.inl rfl) (pe_df D_law_good (hr.mono (by decide)) (by rfl) (pa_cons (pe_ix ix_list (pv 1) pe_int (fun _ _ => rfl)) (pa_cons pe_int pa_nil))))
      (pss_cons (ps_if (pt_cmpR op_eq (pv 2) pe_int (nomark _)) (pss_one (ps_set (i := 3) sc_law_facts.nd rfl (Or.inl rfl) (pe_df D_law_odd (hr.mono (by decide)) (by rfl) (pa_cons (pe_ix ix_list (pv 1) pe_int (fun _ _ => rfl)) (pa_cons (pe_ix ix_list (pe_lst (pa_cons pe_int (pa_cons pe_int pa_nil))) (pe_callTy call_int1 (by rfl) B.n_int (by decide +kernel) (pa_cons (pe_cmpR op_eq (pv 0) pe_str (nomark _)) pa_nil)) (fun _ _ => rfl)) pa_nil))))) pss_nil)
      (pss_cons (ps_if (pt_cmpR op_eq (pv 0) pe_str (nomark _)) (pss_one (ps_ret (pe_ix ix_list (pe_lst (pa_cons (pe_tup (pa_cons (pv 3) (pa_cons (pe_df D_law_good (hr.mono (by decide)) (by rfl) (pa_cons (pe_ix ix_list (pv 1) pe_int (fun _ _ => rfl)) (pa_cons pe_int pa_nil))) pa_nil))) (pa_cons (pe_tup (pa_cons (pe_df D_law_good (hr.mono (by decide)) (by rfl) (pa_cons (pe_ix ix_list (pv 1) pe_int (fun _ _ => rfl)) (pa_cons pe_int pa_nil))) (pa_cons (pv 3) pa_nil))) pa_nil))) (pe_op op_mod (pe_op op_fdivW (pe_ix ix_list (pv 1) pe_int (fun _ _ => rfl)) pe_int) pe_int) (fun _ _ => rfl)))) pss_nil)
      (pss_cons (ps_if (PW.pt (pw_or (pt_cmpR op_eq (pv 0) pe_str (nomark _)) (pw_or1 (pt_cmpR op_eq (pv 0) pe_str (nomark _))))) (pss_one (ps_ret (pe_tup (pa_cons (pe_ix ix_list (pe_lst (pa_cons (pv 3) (pa_cons pe_int pa_nil))) (pe_callTy call_int1 (by rfl) B.n_int (by decide +kernel) (pa_cons (pe_and (pe_cmpR op_ne (pv 2) pe_int (nomark _)) (pe_one (pe_cmpR op_eq (pe_op op_mod (pe_ix ix_list (pv 1) pe_int (fun _ _ => rfl)) pe_int) pe_int (nomark _)))) pa_nil)) (fun _ _ => rfl)) pa_nil)))) pss_nil)
      (pss_cons (ps_if (PW.pt (pw_and (pt_cmpR op_eq (pv 0) pe_str (nomark _)) (pw_and1 (pt_cmpR op_eq (pv 2) pe_int (nomark _))))) (pss_one (ps_ret (pe_tup (pa_cons (pv 3) (pa_cons (pe_df D_law_powers_spoilt (hr.mono (by decide)) (by rfl) (pa_cons (pe_df D_law_powers (hr.mono (by decide)) (by rfl) (pa_cons (pv 1) pa_nil)) (pa_cons (pe_ix ix_list (pv 1) pe_int (fun _ _ => rfl)) pa_nil))) pa_nil))))) pss_nil)
      (pss_cons (ps_if (pt_cmpR op_eq (pv 0) pe_str (nomark _)) (pss_one (ps_ret (pe_tup (pa_cons (pv 3) (pa_cons (pe_callTy call_tuple_of (by rfl) B.n_tuple (by decide +kernel) (pa_cons (pe_df D_law_powers (hr.mono (by decide)) (by rfl) (pa_cons (pv 1) pa_nil)) pa_nil)) pa_nil))))) pss_nil)
      (pss_one (ps_ret (pe_tup pa_nil)))))))))), ?_⟩
    have S := Same.refl H
    obtain ⟨c5, at5, c50, c51⟩ := cells_get hc (k := 5) (by decide) (by decide)
    obtain ⟨c6, at6, c60, c61⟩ := cells_get hc (k := 6) (by decide) (by decide)
    obtain ⟨c7, at7, c70, c71⟩ := cells_get hc (k := 7) (by decide) (by decide)
    obtain ⟨c8, at8, c80, c81⟩ := cells_get hc (k := 8) (by decide) (by decide)
    walk_at "r"
    refine iteI (fun h => ?_) (fun h => ?_)
    · walk_at "r"
      walk_at "sz"
      refine fun p1 np1 => gen_upd np1 fun H1 s1 e1 n1 => ?_
      have S := S.trans s1
      walk_at "r"
      walk_at "sz"
      refine fun p2 np2 => gen_upd np2 fun H2 s2 e2 n2 => ?_
      have S := S.trans s2
      have e1 := s2 _ _ e1
      walk_at "r"
      walk_at "sz"
      refine fun p3 np3 => gen_upd np3 fun H3 s3 e3 n3 => ?_
      have S := S.trans s3
      have e1 := s3 _ _ e1
      have e2 := s3 _ _ e2
      walk_at "r"
      walk_at "sz"
      refine fun p4 np4 => gen_upd np4 fun H4 s4 e4 n4 => ?_
      have S := S.trans s4
      have e1 := s4 _ _ e1
      have e2 := s4 _ _ e2
      have e3 := s4 _ _ e3
      walk_at "r"
      walk_at "sz"
      refine fun p5 np5 => gen_upd np5 fun H5 s5 e5 n5 => ?_
      have S := S.trans s5
      have e1 := s5 _ _ e1
      have e2 := s5 _ _ e2
      have e3 := s5 _ _ e3
      have e4 := s5 _ _ e4
      walk_at "r"
      walk_at "sz"
      refine fun p6 np6 => gen_upd np6 fun H6 s6 e6 n6 => ?_
      have S := S.trans s6
      have e1 := s6 _ _ e1
      have e2 := s6 _ _ e2
      have e3 := s6 _ _ e3
      have e4 := s6 _ _ e4
      have e5 := s6 _ _ e5
      walk_at "r"
      refine ⟨a, _, _, _, rfl, rfl, S.seq hS, at5, ?_⟩
      walk_at "r"
      have all := allc (P := DA K H6) da_non (allc (da_lst (SqL.of e1) all0) (allc (da_int 3) (allc (da_str "") (allc (da_tup (SqT.of e2) (all1 (da_bl true))) (allc (da_lst (SqL.of e3) (allc (da_int 2) (all1 (da_int 3)))) (allc (da_tup (SqT.of e4) (allc (da_int 2) (allc (da_int 3) (all1 (da_int 4))))) (all1 (da_tup (SqT.of e5) all0))))))))
      obtain ⟨u, hu, hum⟩ := at_open (xs := [V.non, V.ref p1, V.int 3, V.str "", V.ref p2, V.ref p3, V.ref p4, V.ref p5]) (k := c5 % 8) (by omega) (by show c5 % 8 < 8; omega)
      refine ⟨p6, _, _, _, rfl, rfl, SqL.of e6, hu, ?_⟩
      exact q _ _ S (all u hum)
    walk_at "r"
    refine ⟨a, _, _, _, rfl, rfl, S.seq hS, at6, ?_⟩
    walk_at "r"
    refine ⟨c6, 2, rfl, c60, c61, fun i H1 s1 => ?_⟩
    have S := S.trans s1
    have dv : DA K H1 (.int i) := da_int i
    generalize V.int i = v at dv
    walk_at "r"
    refine iteI (fun h2 => ?odd) (fun h2 => ?plain)
    case' odd =>
      walk_at "r"
      refine ⟨a, _, _, _, rfl, rfl, S.seq hS, at6, ?_⟩
      walk_at "r"
      walk_at "sz"
      refine fun p2 np2 => gen_upd np2 fun H2 s2 e2 n2 => ?_
      have S := S.trans s2
      walk_at "r"
      refine .inr ⟨_, rfl, ?_⟩
      obtain ⟨u, hu, hum⟩ := at_ints (ns := [1, 2]) (k := if decide (V.str w = V.str "split") = true then 1 else 0) (by split <;> omega) (by split <;> decide)
      refine ⟨p2, _, _, _, rfl, rfl, SqL.of e2, hu, ?_⟩
      refine ⟨c6, u, rfl, c60, fun v H1 s3 dv => ?_⟩
      have S := S.trans s3
    all_goals clear h2
    all_goals (
      walk_at "r"
      refine iteS (fun h3 => ?_) (fun h3 => ?_)
      · walk_at "r"
        refine ⟨a, _, _, _, rfl, rfl, S.seq hS, at7, ?_⟩
        walk_at "r"
        refine ⟨c7, 2, rfl, c70, c71, fun i2 H2 s2 => ?_⟩
        have S := S.trans s2
        walk_at "sz"
        refine fun p10 np10 => gen_upd np10 fun H10 s10 e10 n10 => ?_
        have S := S.trans s10
        walk_at "r"
        refine ⟨a, _, _, _, rfl, rfl, S.seq hS, at7, ?_⟩
        walk_at "r"
        refine ⟨c7, 2, rfl, c70, c71, fun i3 H3 s3 => ?_⟩
        have S := S.trans s3
        have e10 := s3 _ _ e10
        walk_at "r"
        walk_at "sz"
        refine fun p11 np11 => gen_upd np11 fun H11 s11 e11 n11 => ?_
        have S := S.trans s11
        have e10 := s11 _ _ e10
        walk_at "sz"
        refine fun p12 np12 => gen_upd np12 fun H12 s12 e12 n12 => ?_
        have S := S.trans s12
        have e10 := s12 _ _ e10
        have e11 := s12 _ _ e11
        walk_at "r"
        refine ⟨a, _, _, _, rfl, rfl, S.seq hS, at7, ?_⟩
        walk_at "r"
        have dv := da_same (s2.trans (s10.trans (s3.trans (s11.trans s12)))) dv
        have all := allc (P := DA K H12) (da_tup (SqT.of e10) (allc dv (all1 (da_int i2)))) (all1 (da_tup (SqT.of e11) (allc (da_int i3) (all1 dv))))
        obtain ⟨u, hu, hum⟩ := at_open (xs := [V.ref p10, V.ref p11]) (k := c7 / 32 % 2) (by omega) (by show c7 / 32 % 2 < 2; omega)
        refine ⟨p12, _, _, _, rfl, rfl, SqL.of e12, hu, ?_⟩
        exact q _ _ S (all u hum)
      walk_at "r"
      refine iteS (fun h4 => ?_) (fun h4 => ?_)
      · walk_at "r"
        walk_at "sz"
        refine fun p10 np10 => gen_upd np10 fun H10 s10 e10 n10 => ?_
        have S := S.trans s10
        walk_at "r"
        refine iteIn (fun h8 => ?_) (fun h8 => ?_)
        · walk_at "r"
          refine ⟨a, _, _, _, rfl, rfl, S.seq hS, at6, ?_⟩
          walk_at "r"
          refine .inr ⟨_, rfl, ?_⟩
          obtain ⟨u, hu, hum⟩ := at_open (xs := [v, V.int 1]) (k := if decide (V.int (c6 % 9) = V.int 0) = true then 1 else 0) (bsel (Nat.le_refl 2)).1 (bsel (Nat.le_refl 2)).2
          refine ⟨p10, _, _, _, rfl, rfl, SqL.of e10, hu, ?_⟩
          walk_at "sz"
          refine fun p11 np11 => gen_upd np11 fun H11 s11 e11 n11 => ?_
          have S := S.trans s11
          have e10 := s11 _ _ e10
          exact q _ _ S (da_tup (SqT.of e11) (all1 ((allc (P := DA K H11) (da_same (s10.trans s11) dv) (all1 (da_int 1))) u hum)))
        · walk_at "r"
          refine .inr ⟨_, rfl, ?_⟩
          obtain ⟨u, hu, hum⟩ := at_open (xs := [v, V.int 1]) (k := if false = true then 1 else 0) (bsel (Nat.le_refl 2)).1 (bsel (Nat.le_refl 2)).2
          refine ⟨p10, _, _, _, rfl, rfl, SqL.of e10, hu, ?_⟩
          walk_at "sz"
          refine fun p11 np11 => gen_upd np11 fun H11 s11 e11 n11 => ?_
          have S := S.trans s11
          have e10 := s11 _ _ e10
          exact q _ _ S (da_tup (SqT.of e11) (all1 ((allc (P := DA K H11) (da_same (s10.trans s11) dv) (all1 (da_int 1))) u hum)))
      walk_at "r"
      refine iteS (fun h5 => ?_) (fun h5 => ?_)
      · walk_at "r"
        walk_at "sz"
        refine fun p10 np10 => gen_upd np10 fun H10 s10 e10 n10 => ?_
        have S := S.trans s10
        walk_at "r"
        refine iteIn (fun h8 => ?_) (fun h8 => ?_)
        · walk_at "r"
          refine ⟨a, _, _, _, rfl, rfl, S.seq hS, at6, ?_⟩
          walk_at "r"
          refine .inr ⟨_, rfl, ?_⟩
          obtain ⟨u, hu, hum⟩ := at_open (xs := [v, V.int 1]) (k := if decide (V.int (c6 % 9) = V.int 0) = true then 1 else 0) (bsel (Nat.le_refl 2)).1 (bsel (Nat.le_refl 2)).2
          refine ⟨p10, _, _, _, rfl, rfl, SqL.of e10, hu, ?_⟩
          walk_at "sz"
          refine fun p11 np11 => gen_upd np11 fun H11 s11 e11 n11 => ?_
          have S := S.trans s11
          have e10 := s11 _ _ e10
          exact q _ _ S (da_tup (SqT.of e11) (all1 ((allc (P := DA K H11) (da_same (s10.trans s11) dv) (all1 (da_int 1))) u hum)))
        · walk_at "r"
          refine .inr ⟨_, rfl, ?_⟩
          obtain ⟨u, hu, hum⟩ := at_open (xs := [v, V.int 1]) (k := if false = true then 1 else 0) (bsel (Nat.le_refl 2)).1 (bsel (Nat.le_refl 2)).2
          refine ⟨p10, _, _, _, rfl, rfl, SqL.of e10, hu, ?_⟩
          walk_at "sz"
          refine fun p11 np11 => gen_upd np11 fun H11 s11 e11 n11 => ?_
          have S := S.trans s11
          have e10 := s11 _ _ e10
          exact q _ _ S (da_tup (SqT.of e11) (all1 ((allc (P := DA K H11) (da_same (s10.trans s11) dv) (all1 (da_int 1))) u hum)))
      walk_at "r"
      refine iteS (fun h6 => ?_) (fun h6 => ?_)
      · walk_at "r"
        refine iteI (fun h7 => ?_) (fun h7 => ?_)
        · walk_at "r"
          refine ⟨a, cs, rfl, S.seq hS, hc, fun H2 p2 xs s2 e2 l1 l2 hP => ?_⟩
          have S := S.trans s2
          walk_at "r"
          refine ⟨a, _, _, _, rfl, rfl, S.seq hS, at8, ?_⟩
          walk_at "r"
          refine ⟨p2, xs, c8, rfl, e2, l1, l2, hP, c80, fun v3 H3 s3 dv3 => ?_⟩
          have S := S.trans s3
          walk_at "sz"
          refine fun p10 np10 => gen_upd np10 fun H10 s10 e10 n10 => ?_
          have S := S.trans s10
          exact q _ _ S (da_tup (SqT.of e10) (allc (da_same (s2.trans (s3.trans s10)) dv) (all1 (da_same s10 dv3))))
        · walk_at "r"
          refine iteS (fun h7 => ?_) (fun h7 => ?_)
          · walk_at "r"
            refine ⟨a, cs, rfl, S.seq hS, hc, fun H2 p2 xs s2 e2 l1 l2 hP => ?_⟩
            have S := S.trans s2
            walk_at "r"
            refine ⟨_, _, rfl, .inl ⟨SqL.of e2, fun p10 np10 => gen_upd np10 fun H10 s10 e10 n10 => ?_⟩⟩
            have S := S.trans s10
            walk_at "r"
            walk_at "sz"
            refine fun p11 np11 => gen_upd np11 fun H11 s11 e11 n11 => ?_
            have S := S.trans s11
            have e10 := s11 _ _ e10
            exact q _ _ S (da_tup (SqT.of e11) (allc (da_same (s2.trans (s10.trans s11)) dv) (all1 (da_tup (SqT.of e10) (pairs_da (pairs_same (s10.trans s11) hP))))))
          · walk_at "r"
            walk_at "sz"
            refine fun p10 np10 => gen_upd np10 fun H10 s10 e10 n10 => ?_
            have S := S.trans s10
            exact q _ _ S (da_tup (SqT.of e10) all0)
      · walk_at "r"
        refine iteS (fun h7 => ?_) (fun h7 => ?_)
        · walk_at "r"
          refine ⟨a, cs, rfl, S.seq hS, hc, fun H2 p2 xs s2 e2 l1 l2 hP => ?_⟩
          have S := S.trans s2
          walk_at "r"
          refine ⟨_, _, rfl, .inl ⟨SqL.of e2, fun p10 np10 => gen_upd np10 fun H10 s10 e10 n10 => ?_⟩⟩
          have S := S.trans s10
          walk_at "r"
          walk_at "sz"
          refine fun p11 np11 => gen_upd np11 fun H11 s11 e11 n11 => ?_
          have S := S.trans s11
          have e10 := s11 _ _ e10
          exact q _ _ S (da_tup (SqT.of e11) (allc (da_same (s2.trans (s10.trans s11)) dv) (all1 (da_tup (SqT.of e10) (pairs_da (pairs_same (s10.trans s11) hP))))))
        · walk_at "r"
          walk_at "sz"
          refine fun p10 np10 => gen_upd np10 fun H10 s10 e10 n10 => ?_
          have S := S.trans s10
          exact q _ _ S (da_tup (SqT.of e10) all0))
end
end Q
namespace Q
open PySem PySem.Spec PyProof.Rows L2
open Z
section
variable {P : Program} {w : World} {K : PySem.W.Frag} {mg : Str → Option Value} {base : Heap}
theorem ok_law_thing {f : Addr} {fd : FuncData} (F : Fun K "_law_thing" "_law_thing" s_law_thing f fd) (B : Bi mg) (D_law_facts : Z.Df P w K mg base "_law_facts" ["_law_word", "_law_cells", "_law_place"] 2 (Z.spFacts3 K)) (D_law_good : Z.Df P w K mg base "_law_good" ["_law_cell", "_law_low"] 1 (Z.spGood)) (D_law_odd : Z.Df P w K mg base "_law_odd" ["_law_cell", "_law_low"] 1 (Z.spOdd K)) : FnOk P w K mg base CX0 3 f fd ["_law_cells"] (Z.spThing3 K) := by
  refine F.ok sc_law_thing (fun vs H Q E h => ?_) (fun cdv A outer s H vs Q E hr h => ?_)
  · obtain ⟨a, cs, rfl, hS, hc, q⟩ := h
    rfl
  · obtain ⟨a, cs, rfl, hS, hc, q⟩ := h
    refine ⟨_, (pss_cons (ps_set (i := 1) sc_law_thing.nd rfl (Or.inl rfl) (pe_ix ix_list (pe_lst (pa_cons pe_int (pa_cons pe_int (pa_cons pe_int (pa_cons pe_int (pa_cons pe_int (pa_cons pe_int (pa_cons pe_int (pa_cons pe_int (pa_cons pe_int (pa_cons pe_int (pa_cons pe_int pa_nil)))))))))))) (pe_op op_mod (pe_ix ix_list (pv 0) pe_int (fun _ _ => rfl)) pe_int) (fun _ _ => rfl)))
      (pss_cons (ps_set (i := 2) sc_law_thing.nd rfl (Or.inl rfl) (pe_ix ix_list (pe_lst (pa_cons pe_str (pa_cons pe_str (pa_cons pe_str (pa_cons pe_str (pa_cons pe_str (pa_cons pe_str (pa_cons pe_str (pa_cons pe_str pa_nil))))))))) (pe_op op_mod (pe_ix ix_list (pv 0) pe_int (fun _ _ => rfl)) pe_int) (fun _ _ => rfl)))
      (pss_cons (ps_if (pt_cmpR op_eq (pv 1) pe_int (nomark _)) (pss_one (ps_set (i := 2) sc_law_thing.nd rfl (Or.inl rfl) pe_str)) pss_nil)
      (pss_cons (ps_set (i := 3) sc_law_thing.nd rfl (Or.inl rfl) (pe_df D_law_facts (hr.mono (by decide)) (by rfl) (pa_cons (pv 2) (pa_cons (pv 0) (pa_cons (pv 1) pa_nil)))))
      (pss_cons (ps_if (pt_cmpR op_eq (pv 1) pe_int (nomark _)) (pss_one (ps_set (i := 2) sc_law_thing.nd rfl (Or.inl rfl) (pe_ix ix_list (pe_lst (pa_cons pe_str (pa_cons pe_str (pa_cons pe_non (pa_cons pe_int (pa_cons pe_str (pa_cons pe_str (pa_cons pe_str (pa_cons pe_str pa_nil))))))))) (pe_op op_mod (pe_op op_fdivW (pe_ix ix_list (pv 0) pe_int (fun _ _ => rfl)) pe_int) pe_int) (fun _ _ => rfl)))) pss_nil)
      (pss_cons (ps_set (i := 4) sc_law_thing.nd rfl (Or.inl rfl) (pe_df D_law_good (hr.mono (by decide)) (by rfl) (pa_cons (pe_ix ix_list (pv 0) pe_int (fun _ _ => rfl)) (pa_cons pe_int pa_nil))))
      (pss_cons (ps_if (pt_cmpR op_eq (pv 1) pe_int (nomark _)) (pss_one (ps_set (i := 4) sc_law_thing.nd rfl (Or.inl rfl) (pe_df D_law_odd (hr.mono (by decide)) (by rfl) (pa_cons (pe_ix ix_list (pv 0) pe_int (fun _ _ => rfl)) (pa_cons pe_int pa_nil))))) pss_nil)
      (pss_cons (ps_set (i := 5) sc_law_thing.nd rfl (Or.inl rfl) (pe_tup (pa_cons (pv 4) (pa_cons (pv 2) (pa_cons (pv 3) pa_nil)))))
      (pss_cons (ps_if (pt_cmpR op_eq (pv 1) pe_int (nomark _)) (pss_one (ps_ret (pe_ix ix_list (pe_lst (pa_cons (pe_callTy call_list_of (by rfl) B.n_list (by decide +kernel) (pa_cons (pv 5) pa_nil)) (pa_cons (pe_op op_catT (pv 5) (pe_tup (pa_cons pe_int pa_nil))) (pa_cons (pe_slice sl_tup (pv 5) po_none (po_some pe_int)) (pa_cons (pe_tup (pa_cons (pv 5) pa_nil)) (pa_cons pe_non (pa_cons pe_str (pa_cons (pe_tup pa_nil) (pa_cons pe_int pa_nil))))))))) (pe_op op_mod (pe_ix ix_list (pv 0) pe_int (fun _ _ => rfl)) pe_int) (fun _ _ => rfl)))) pss_nil)
      (pss_one (ps_ret (pv 5)))))))))))), ?_⟩
    have S := Same.refl H
    obtain ⟨c9, at9, c90, c91⟩ := cells_get hc (k := 9) (by decide) (by decide)
    obtain ⟨c10, at10, c100, c101⟩ := cells_get hc (k := 10) (by decide) (by decide)
    obtain ⟨c11, at11, c110, c111⟩ := cells_get hc (k := 11) (by decide) (by decide)
    walk_at "r"
    walk_at "sz"
    refine fun p1 np1 => gen_upd np1 fun H1 s1 e1 n1 => ?_
    have S := S.trans s1
    walk_at "r"
    refine ⟨a, _, _, _, rfl, rfl, S.seq hS, at11, ?_⟩
    walk_at "r"
    obtain ⟨pl, hpl, _⟩ := at_ints (ns := [0, 1, 2, 3, 4, 4, 5, 5, 5, 5, 6]) (k := c11 % 11) (by omega) (by show c11 % 11 < 11; omega)
    refine ⟨p1, _, _, _, rfl, rfl, SqL.of e1, hpl, ?_⟩
    walk_at "r"
    walk_at "sz"
    refine fun p2 np2 => gen_upd np2 fun H2 s2 e2 n2 => ?_
    have S := S.trans s2
    have e1 := s2 _ _ e1
    walk_at "r"
    refine ⟨a, _, _, _, rfl, rfl, S.seq hS, at9, ?_⟩
    walk_at "r"
    obtain ⟨u, hu, hum⟩ := at_open (xs := [V.str "first", V.str "prime", V.str "split", V.str "split", V.str "power", V.str "root", V.str "prime", V.str "prime"]) (k := c9 % 8) (by omega) (by show c9 % 8 < 8; omega)
    refine ⟨p2, _, _, _, rfl, rfl, SqL.of e2, hu, ?_⟩
    have hw : ∃ w : Str, u = V.str w ∧ PyData.canLay0 (.str w) = true := (allc (P := fun u => ∃ w : Str, u = V.str w ∧ PyData.canLay0 (.str w) = true) ⟨_, rfl, by decide +kernel⟩ (allc ⟨_, rfl, by decide +kernel⟩ (allc ⟨_, rfl, by decide +kernel⟩ (allc ⟨_, rfl, by decide +kernel⟩ (allc ⟨_, rfl, by decide +kernel⟩ (allc ⟨_, rfl, by decide +kernel⟩ (allc ⟨_, rfl, by decide +kernel⟩ (all1 ⟨_, rfl, by decide +kernel⟩)))))))) u hum
    obtain ⟨wd, rfl, hw⟩ := hw
    walk_at "r"
    refine iteI (fun h5 => ?five) (fun h5 => ?nofive)
    case' five =>
      walk_at "r"
      have hw : PyData.canLay0 (.str "prime") = true := by decide +kernel
      generalize ("prime" : Str) = wd at hw
    all_goals (
      clear h5
      walk_at "r"
      refine ⟨wd, a, cs, pl, rfl, S.seq hS, hc, fun vf H3 s3 df => ?_⟩
      have S := S.trans s3
      have dw : DA K H3 (.str wd) := da_str wd hw
      generalize V.str wd = vw at dw
      walk_at "r"
      refine iteI (fun h2 => ?_) (fun h2 => ?_)
      walk_at "r"
      walk_at "sz"
      refine fun p4 np4 => gen_upd np4 fun H4 s4 e4 n4 => ?_
      have S := S.trans s4
      walk_at "r"
      refine ⟨a, _, _, _, rfl, rfl, S.seq hS, at9, ?_⟩
      walk_at "r"
      obtain ⟨vw, hvw, hvm⟩ := at_open (xs := [V.str "Prime", V.str "", V.non, V.int 2, V.str "primes", V.str "prim", V.str "first", V.str "split"]) (k := c9 / 8 % 8) (by omega) (by show c9 / 8 % 8 < 8; omega)
      refine ⟨p4, _, _, _, rfl, rfl, SqL.of e4, hvw, ?_⟩
      have dw : DA K H4 vw := (allc (P := DA K H4) (da_str _) (allc (da_str _) (allc da_non (allc (da_int _) (allc (da_str _) (allc (da_str _) (allc (da_str _) (all1 (da_str _))))))))) vw hvm
      have df := da_same s4 df)
    all_goals (
      clear h2
      walk_at "r"
      refine ⟨a, _, _, _, rfl, rfl, S.seq hS, at10, ?_⟩
      walk_at "r"
      refine ⟨c10, 2, rfl, c100, c101, fun i H5 s5 => ?_⟩
      have S := S.trans s5
      have df := da_same s5 df
      have dw := da_same s5 dw
      have dn : DA K H5 (.int i) := da_int i
      generalize V.int i = vn at dn
      walk_at "r"
      refine iteI (fun h1 => ?_) (fun h1 => ?_)
      walk_at "r"
      refine ⟨a, _, _, _, rfl, rfl, S.seq hS, at10, ?_⟩
      walk_at "r"
      refine ⟨c10, 2, rfl, c100, fun vn H6 s6 dn => ?_⟩
      have S := S.trans s6
      have df := da_same s6 df
      have dw := da_same s6 dw)
    all_goals (
      clear h1
      walk_at "r"
      walk_at "sz"
      refine fun p7 np7 => gen_upd np7 fun H7 s7 e7 n7 => ?_
      have S := S.trans s7
      have dr : ∀ v ∈ [vn, vw, vf], DA K H7 v := allc (da_same s7 dn) (allc (da_same s7 dw) (all1 (da_same s7 df)))
      walk_at "r"
      refine iteI (fun h6 => ?_) (fun h6 => ?_)
      · walk_at "r"
        refine ⟨_, _, rfl, .inr (SqT.of e7), fun p8 np8 => gen_upd np8 fun H8 s8 e8 n8 => ?_⟩
        have S := S.trans s8
        have e7 := s8 _ _ e7
        walk_at "r"
        walk_at "sz"
        refine fun p9 np9 => gen_upd np9 fun H9 s9 e9 n9 => ?_
        have S := S.trans s9
        have e7 := s9 _ _ e7
        have e8 := s9 _ _ e8
        refine ⟨p7, p9, _, _, rfl, rfl, SqT.of e7, SqT.of e9, by simp, by show 3 + 1 ≤ sizeLine; decide, fun z => absurd z (by simp), fun _ => ?_⟩
        refine fun p10 np10 => gen_upd np10 fun H10 s10 e10 n10 => ?_
        have S := S.trans s10
        have e7 := s10 _ _ e7
        have e8 := s10 _ _ e8
        have e9 := s10 _ _ e9
        walk_at "r"
        refine ⟨p7, _, rfl, SqT.of e7, (show ¬ (HT.sIx 3 0 none = 0 ∧ HT.sIx 3 3 (some 2) = 3) by decide), fun p11 np11 => gen_upd np11 fun H11 s11 e11 n11 => ?_⟩
        have S := S.trans s11
        have e7 := s11 _ _ e7
        have e8 := s11 _ _ e8
        have e9 := s11 _ _ e9
        have e10 := s11 _ _ e10
        walk_at "r"
        walk_at "sz"
        refine fun p12 np12 => gen_upd np12 fun H12 s12 e12 n12 => ?_
        have S := S.trans s12
        have e7 := s12 _ _ e7
        have e8 := s12 _ _ e8
        have e9 := s12 _ _ e9
        have e10 := s12 _ _ e10
        have e11 := s12 _ _ e11
        walk_at "r"
        walk_at "sz"
        refine fun p13 np13 => gen_upd np13 fun H13 s13 e13 n13 => ?_
        have S := S.trans s13
        have e7 := s13 _ _ e7
        have e8 := s13 _ _ e8
        have e9 := s13 _ _ e9
        have e10 := s13 _ _ e10
        have e11 := s13 _ _ e11
        have e12 := s13 _ _ e12
        walk_at "r"
        walk_at "sz"
        refine fun p14 np14 => gen_upd np14 fun H14 s14 e14 n14 => ?_
        have S := S.trans s14
        have e7 := s14 _ _ e7
        have e8 := s14 _ _ e8
        have e9 := s14 _ _ e9
        have e10 := s14 _ _ e10
        have e11 := s14 _ _ e11
        have e12 := s14 _ _ e12
        have e13 := s14 _ _ e13
        walk_at "r"
        refine ⟨a, _, _, _, rfl, rfl, S.seq hS, at10, ?_⟩
        walk_at "r"
        have dr := fun v hv => da_same (s8.trans (s9.trans (s10.trans (s11.trans (s12.trans (s13.trans s14)))))) (dr v hv)
        have all := allc (P := DA K H14) (da_lst (SqL.of e8) dr) (allc (da_tup (SqT.of e10) (all_app dr (all1 (da_int 2)))) (allc (da_tup (SqT.of e11) (all_cut dr _ _)) (allc (da_tup (SqT.of e12) (all1 (da_tup (SqT.of e7) dr))) (allc da_non (allc (da_str "row") (allc (da_tup (SqT.of e13) all0) (all1 (da_int 7))))))))
        obtain ⟨u, hu, hum⟩ := at_open (xs := [V.ref p8, V.ref p10, V.ref p11, V.ref p12, V.non, V.str "row", V.ref p13, V.int 7]) (k := c10 % 8) (by omega) (by show c10 % 8 < 8; omega)
        refine ⟨p14, _, _, _, rfl, rfl, SqL.of e14, hu, ?_⟩
        exact q _ _ S (all u hum)
      · walk_at "r"
        exact q _ _ S (da_tup (SqT.of e7) dr))
end
end Q
namespace Q
open PySem PySem.Spec PyProof.Rows L2
open Z
section
variable {P : Program} {w : World} {K : PySem.W.Frag} {mg : Str → Option Value} {base : Heap}
theorem ok_law {f : Addr} {fd : FuncData} (F : Fun K "law" "law" s_law f fd) (B : Bi mg) (D_law_mixed : Z.Df P w K mg base "_law_mixed" ["_law_script", "_law_start", "_law_many"] 2 (Z.spMixed K)) (D_law_row_right : Z.Df P w K mg base "_law_row_right" ["_law_row"] 3 (Z.spRowRight K)) (D_law_thing : Z.Df P w K mg base "_law_thing" ["_law_cells"] 3 (Z.spThing3 K)) (D_is_row : Z.Df P w K mg base "is_row" ["thing"] 4 (Z.spIsRow K)) : FnOk P w K mg base CX0 5 f fd ["_law_script"] (Z.spLaw K) := by
  refine F.ok sc_law (fun vs H Q E h => ?_) (fun cdv A outer s H vs Q E hr h => ?_)
  · obtain ⟨a, ns, rfl, hS, hl, q⟩ := h
    rfl
  · obtain ⟨a, ns, rfl, hS, hl, q⟩ := h
    refine ⟨_, (pss_cons (ps_set (i := 1) sc_law.nd rfl (Or.inl rfl) (pe_df D_law_mixed (hr.mono (by decide)) (by rfl) (pa_cons (pv 0) (pa_cons pe_int (pa_cons pe_int pa_nil)))))
      (pss_cons (ps_for PassesOwn.never rfl (pi_range1 (by rfl) B.n_range (pa_cons pe_int pa_nil)) (pg_name (i := 2) sc_law.nd rfl (Or.inl rfl)) (pss_cons (ps_set (i := 3) sc_law.nd rfl (Or.inl rfl) (pe_df D_law_thing (hr.mono (by decide)) (by rfl) (pa_cons (pe_slice sl_list (pv 1) (po_some (pe_op op_mulW pe_int (pv 2))) (po_some (pe_op op_add (pe_op op_mulW pe_int (pv 2)) pe_int))) pa_nil)))
      (pss_cons (ps_set (i := 4) sc_law.nd rfl (Or.inl rfl) (pe_df D_is_row (hr.mono (by decide)) (by rfl) (pa_cons (pv 3) pa_nil)))
      (pss_one (ps_if (PW.pt (pw_or (pt_not (pt_val (pe_callB call_isi (by rfl) B.n_isinstance (by decide +kernel) (pa_cons (pv 4) (pa_cons (pe_bltn (v := .ty "bool") (by rfl) B.n_bool (by decide +kernel) rfl) pa_nil))))) (pw_or1 (pt_cmpR op_ne (pv 4) (pe_df D_law_row_right (hr.mono (by decide)) (by rfl) (pa_cons (pv 3) pa_nil)) (nomark _))))) (pss_one (ps_ret pe_bl)) pss_nil)))))
      (pss_one (ps_ret pe_bl)))), ?_⟩
    walk_at "r"
    refine ⟨a, ns, 0, 60, rfl, hS, by omega, by omega, by omega, fun H1 p cs s1 np e1 hc => ?_⟩
    walk_at "r"
    refine for_range (lo := 0) (n := 5) (fun i σ H' => ∃ (y2 y3 y4 : Option V), σ = [some (.ref a), some (.ref p), y2, y3, y4] ∧ H' p = some (.lst (cs.map V.int))) ⟨_, _, _, rfl, e1⟩ ?_ ?_
    · rintro i σ H' hi ⟨y2, y3, y4, rfl, ep⟩
      walk_at "r"
      refine ⟨mul_ok (b31 (by omega) (by omega)) (b31 (by omega) (by omega)), ?_⟩
      walk_at "r"
      refine ⟨mul_ok (b31 (by omega) (by omega)) (b31 (by omega) (by omega)), ?_⟩
      walk_at "r"
      refine ⟨p, _, rfl, SqL.of ep, fun p2 np2 => gen_upd np2 fun H2 s2 e2 n2 => ?_⟩
      walk_at "r"
      obtain ⟨ds, hd1, hd2⟩ := cut_cells hc (i := i) (by omega)
      rw [hd1] at e2
      refine ⟨p2, ds, rfl, SqL.of e2, hd2, fun v H3 s3 dv => ?_⟩
      obtain ⟨d, hd, cl⟩ := dv
      walk_at "r"
      refine ⟨v, d, rfl, hd, ?_⟩
      walk_at "r"
      refine ⟨_, _, _, _, _, rfl, .ty _, .base (.bl _), (show PySem.W.kitOne K (.type "bool") (.type "bool") = some true from kit_ty (by decide +kernel)), ?_⟩
      walk_at "r"
      refine ⟨v, d, rfl, hd, cl, fun H4 s4 => ?_⟩
      walk_at "r"
      rw [show decide (V.bl (isRow d) = V.bl (isRow d)) = true from decide_eq_true rfl]
      walk_at "r"
      exact ⟨_, _, _, rfl, s4 _ _ (s3 _ _ (s2 _ _ ep))⟩
    · rintro σ H' ⟨y2, y3, y4, rfl, ep⟩
      walk_at "r"
      exact q _
end
end Q
namespace Q
open PySem PySem.Spec PyProof.Rows L2
open Z
theorem all_mk {l : PySem.W.OpenLaw} {w : World} {K : PySem.W.Frag} {h : Heap} {mg : Str → Option Value} {fa : Addr} (X : K.In h) (G : h.Ns mainGlobals mg) (hfa : mg "law" = some (.ref fa))
    {od0 an0 : Option Addr} {sl0 : Array (Option Value)} {oc0 kV0 dc0 pm0 cd0 ct0 : Value} {f0 : Addr}
    {od1 an1 : Option Addr} {sl1 : Array (Option Value)} {oc1 kV1 dc1 pm1 cd1 ct1 : Value} {f1 : Addr}
    {od2 an2 : Option Addr} {sl2 : Array (Option Value)} {oc2 kV2 dc2 pm2 cd2 ct2 : Value} {f2 : Addr}
    {od3 an3 : Option Addr} {sl3 : Array (Option Value)} {oc3 kV3 dc3 pm3 cd3 ct3 : Value} {f3 : Addr}
    {od4 an4 : Option Addr} {sl4 : Array (Option Value)} {oc4 kV4 dc4 pm4 cd4 ct4 : Value} {f4 : Addr}
    {od5 an5 : Option Addr} {sl5 : Array (Option Value)} {oc5 kV5 dc5 pm5 cd5 ct5 : Value} {f5 : Addr}
    {od6 an6 : Option Addr} {sl6 : Array (Option Value)} {oc6 kV6 dc6 pm6 cd6 ct6 : Value} {f6 : Addr}
    {od7 an7 : Option Addr} {sl7 : Array (Option Value)} {oc7 kV7 dc7 pm7 cd7 ct7 : Value} {f7 : Addr}
    {od8 an8 : Option Addr} {sl8 : Array (Option Value)} {oc8 kV8 dc8 pm8 cd8 ct8 : Value} {f8 : Addr}
    {od9 an9 : Option Addr} {sl9 : Array (Option Value)} {oc9 kV9 dc9 pm9 cd9 ct9 : Value} {f9 : Addr}
    {od10 an10 : Option Addr} {sl10 : Array (Option Value)} {oc10 kV10 dc10 pm10 cd10 ct10 : Value} {f10 : Addr}
    {od11 an11 : Option Addr} {sl11 : Array (Option Value)} {oc11 kV11 dc11 pm11 cd11 ct11 : Value} {f11 : Addr}
    {od12 an12 : Option Addr} {sl12 : Array (Option Value)} {oc12 kV12 dc12 pm12 cd12 ct12 : Value} {f12 : Addr}
    {od13 an13 : Option Addr} {sl13 : Array (Option Value)} {oc13 kV13 dc13 pm13 cd13 ct13 : Value} {f13 : Addr}
    {od14 an14 : Option Addr} {sl14 : Array (Option Value)} {oc14 kV14 dc14 pm14 cd14 ct14 : Value} {f14 : Addr}
    {od15 an15 : Option Addr} {sl15 : Array (Option Value)} {oc15 kV15 dc15 pm15 cd15 ct15 : Value} {f15 : Addr}
    {od16 an16 : Option Addr} {sl16 : Array (Option Value)} {oc16 kV16 dc16 pm16 cd16 ct16 : Value} {f16 : Addr}
    {t0 : Tok}
    {t1 : Tok}
    (a0 : PySem.W.nsIn K mainGlobals "is_number" = some (some (.ref f0))) (l0 : K.lookup f0 = some ⟨oc0, od0, .func (PySem.W.fnOf "is_number" "is_number" (defArgs s_is_number) (defBody s_is_number) (defScope s_is_number) .none kV0 dc0 pm0 an0 cd0 ct0), sl0⟩) (c0 : PySem.W.codeIn K cd0 "is_number" = true) (k0 : PySem.W.keepIn K (.ref f0) = true)
    (a1 : PySem.W.nsIn K mainGlobals "is_tuple" = some (some (.ref f1))) (l1 : K.lookup f1 = some ⟨oc1, od1, .func (PySem.W.fnOf "is_tuple" "is_tuple" (defArgs s_is_tuple) (defBody s_is_tuple) (defScope s_is_tuple) .none kV1 dc1 pm1 an1 cd1 ct1), sl1⟩) (c1 : PySem.W.codeIn K cd1 "is_tuple" = true) (k1 : PySem.W.keepIn K (.ref f1) = true)
    (a2 : PySem.W.nsIn K mainGlobals "are_powers" = some (some (.ref f2))) (l2 : K.lookup f2 = some ⟨oc2, od2, .func (PySem.W.fnOf "are_powers" "are_powers" (defArgs s_are_powers) (defBody s_are_powers) (defScope s_are_powers) .none kV2 dc2 pm2 an2 cd2 ct2), sl2⟩) (c2 : PySem.W.codeIn K cd2 "are_powers" = true) (k2 : PySem.W.keepIn K (.ref f2) = true)
    (a3 : PySem.W.nsIn K mainGlobals "are_facts" = some (some (.ref f3))) (l3 : K.lookup f3 = some ⟨oc3, od3, .func (PySem.W.fnOf "are_facts" "are_facts" (defArgs s_are_facts) (defBody s_are_facts) (defScope s_are_facts) .none kV3 dc3 pm3 an3 cd3 ct3), sl3⟩) (c3 : PySem.W.codeIn K cd3 "are_facts" = true) (k3 : PySem.W.keepIn K (.ref f3) = true)
    (a4 : PySem.W.nsIn K mainGlobals "is_row" = some (some (.ref f4))) (l4 : K.lookup f4 = some ⟨oc4, od4, .func (PySem.W.fnOf "is_row" "is_row" (defArgs s_is_row) (defBody s_is_row) (defScope s_is_row) .none kV4 dc4 pm4 an4 cd4 ct4), sl4⟩) (c4 : PySem.W.codeIn K cd4 "is_row" = true) (k4 : PySem.W.keepIn K (.ref f4) = true)
    (a5 : PySem.W.nsIn K mainGlobals "_law_cell_at" = some (some (.ref f5))) (l5 : K.lookup f5 = some ⟨oc5, od5, .func (PySem.W.fnOf "_law_cell_at" "_law_cell_at" (defArgs s_law_cell_at) (defBody s_law_cell_at) (defScope s_law_cell_at) .none kV5 dc5 pm5 an5 cd5 ct5), sl5⟩) (c5 : PySem.W.codeIn K cd5 "_law_cell_at" = true) (k5 : PySem.W.keepIn K (.ref f5) = true)
    (a6 : PySem.W.nsIn K mainGlobals "_law_mixed" = some (some (.ref f6))) (l6 : K.lookup f6 = some ⟨oc6, od6, .func (PySem.W.fnOf "_law_mixed" "_law_mixed" (defArgs s_law_mixed) (defBody s_law_mixed) (defScope s_law_mixed) .none kV6 dc6 pm6 an6 cd6 ct6), sl6⟩) (c6 : PySem.W.codeIn K cd6 "_law_mixed" = true) (k6 : PySem.W.keepIn K (.ref f6) = true)
    (a7 : PySem.W.nsIn K mainGlobals "_law_rising" = some (some (.ref f7))) (l7 : K.lookup f7 = some ⟨oc7, od7, .func (PySem.W.fnOf "_law_rising" "_law_rising" (defArgs s_law_rising) (defBody s_law_rising) (defScope s_law_rising) .none kV7 dc7 pm7 an7 cd7 ct7), sl7⟩) (c7 : PySem.W.codeIn K cd7 "_law_rising" = true) (k7 : PySem.W.keepIn K (.ref f7) = true)
    (a8 : PySem.W.nsIn K mainGlobals "_law_within" = some (some (.ref f8))) (l8 : K.lookup f8 = some ⟨oc8, od8, .func (PySem.W.fnOf "_law_within" "_law_within" (defArgs s_law_within) (defBody s_law_within) (defScope s_law_within) .none kV8 dc8 pm8 an8 cd8 ct8), sl8⟩) (c8 : PySem.W.codeIn K cd8 "_law_within" = true) (k8 : PySem.W.keepIn K (.ref f8) = true)
    (a9 : PySem.W.nsIn K mainGlobals "_law_row_right" = some (some (.ref f9))) (l9 : K.lookup f9 = some ⟨oc9, od9, .func (PySem.W.fnOf "_law_row_right" "_law_row_right" (defArgs s_law_row_right) (defBody s_law_row_right) (defScope s_law_row_right) .none kV9 dc9 pm9 an9 cd9 ct9), sl9⟩) (c9 : PySem.W.codeIn K cd9 "_law_row_right" = true) (k9 : PySem.W.keepIn K (.ref f9) = true)
    (a10 : PySem.W.nsIn K mainGlobals "_law_good" = some (some (.ref f10))) (l10 : K.lookup f10 = some ⟨oc10, od10, .func (PySem.W.fnOf "_law_good" "_law_good" (defArgs s_law_good) (defBody s_law_good) (defScope s_law_good) .none kV10 dc10 pm10 an10 cd10 ct10), sl10⟩) (c10 : PySem.W.codeIn K cd10 "_law_good" = true) (k10 : PySem.W.keepIn K (.ref f10) = true)
    (a11 : PySem.W.nsIn K mainGlobals "_law_odd" = some (some (.ref f11))) (l11 : K.lookup f11 = some ⟨oc11, od11, .func (PySem.W.fnOf "_law_odd" "_law_odd" (defArgs s_law_odd) (defBody s_law_odd) (defScope s_law_odd) .none kV11 dc11 pm11 an11 cd11 ct11), sl11⟩) (c11 : PySem.W.codeIn K cd11 "_law_odd" = true) (k11 : PySem.W.keepIn K (.ref f11) = true)
    (a12 : PySem.W.nsIn K mainGlobals "_law_powers" = some (some (.ref f12))) (l12 : K.lookup f12 = some ⟨oc12, od12, .func (PySem.W.fnOf "_law_powers" "_law_powers" (defArgs s_law_powers) (defBody s_law_powers) (defScope s_law_powers) .none kV12 dc12 pm12 an12 cd12 ct12), sl12⟩) (c12 : PySem.W.codeIn K cd12 "_law_powers" = true) (k12 : PySem.W.keepIn K (.ref f12) = true)
    (a13 : PySem.W.nsIn K mainGlobals "_law_powers_spoilt" = some (some (.ref f13))) (l13 : K.lookup f13 = some ⟨oc13, od13, .func (PySem.W.fnOf "_law_powers_spoilt" "_law_powers_spoilt" (defArgs s_law_powers_spoilt) (defBody s_law_powers_spoilt) (defScope s_law_powers_spoilt) .none kV13 dc13 pm13 an13 cd13 ct13), sl13⟩) (c13 : PySem.W.codeIn K cd13 "_law_powers_spoilt" = true) (k13 : PySem.W.keepIn K (.ref f13) = true)
    (a14 : PySem.W.nsIn K mainGlobals "_law_facts" = some (some (.ref f14))) (l14 : K.lookup f14 = some ⟨oc14, od14, .func (PySem.W.fnOf "_law_facts" "_law_facts" (defArgs s_law_facts) (defBody s_law_facts) (defScope s_law_facts) .none kV14 dc14 pm14 an14 cd14 ct14), sl14⟩) (c14 : PySem.W.codeIn K cd14 "_law_facts" = true) (k14 : PySem.W.keepIn K (.ref f14) = true)
    (a15 : PySem.W.nsIn K mainGlobals "_law_thing" = some (some (.ref f15))) (l15 : K.lookup f15 = some ⟨oc15, od15, .func (PySem.W.fnOf "_law_thing" "_law_thing" (defArgs s_law_thing) (defBody s_law_thing) (defScope s_law_thing) .none kV15 dc15 pm15 an15 cd15 ct15), sl15⟩) (c15 : PySem.W.codeIn K cd15 "_law_thing" = true) (k15 : PySem.W.keepIn K (.ref f15) = true)
    (a16 : PySem.W.nsIn K mainGlobals "law" = some (some (.ref f16))) (l16 : K.lookup f16 = some ⟨oc16, od16, .func (PySem.W.fnOf "law" "law" (defArgs s_law) (defBody s_law) (defScope s_law) .none kV16 dc16 pm16 an16 cd16 ct16), sl16⟩) (c16 : PySem.W.codeIn K cd16 "law" = true) (k16 : PySem.W.keepIn K (.ref f16) = true)
    (z0 : PySem.W.nsIn K mainGlobals "BOUND" = some (some (.int 1000000000000000000000000000000 t0)))
    (z1 : PySem.W.nsIn K mainGlobals "MOST_TIMES" = some (some (.int 100 t1)))
    (z2 : PySem.W.nsIn K mainGlobals "bool" = some none)
    (z3 : PySem.W.nsIn K mainGlobals "int" = some none)
    (z4 : PySem.W.nsIn K mainGlobals "isinstance" = some none)
    (z5 : PySem.W.nsIn K mainGlobals "len" = some none)
    (z6 : PySem.W.nsIn K mainGlobals "list" = some none)
    (z7 : PySem.W.nsIn K mainGlobals "range" = some none)
    (z8 : PySem.W.nsIn K mainGlobals "str" = some none)
    (z9 : PySem.W.nsIn K mainGlobals "tuple" = some none) :
    ∃ fd : FuncData, (∀ (s : Shared) (v : Value), BindsTo s fd ⟨[v], []⟩ [("_law_script", v)]) ∧ ∀ base : Heap, K.In base → base.Ns mainGlobals mg → FnOk l.prog w K mg base CX0 5 fa fd ["_law_script"] (Z.spLaw K) := by
  have e := hfa.symm.trans (PySem.W.mg_of X G a16)
  cases e
  have B : Bi mg := ⟨⟨_, PySem.W.mg_of X G z0⟩, ⟨_, PySem.W.mg_of X G z1⟩, PySem.W.mg_none_of X G z2, PySem.W.mg_none_of X G z3, PySem.W.mg_none_of X G z4, PySem.W.mg_none_of X G z5, PySem.W.mg_none_of X G z6, PySem.W.mg_none_of X G z7, PySem.W.mg_none_of X G z8, PySem.W.mg_none_of X G z9⟩
  have F0 := fun_mk (st := s_is_number) l0 c0 k0
  have b0 := F0.binds (ps := ["thing", "low", "high"]) fun _ _ _ _ _ _ us hl => match us, hl with | [_, _, _], _ => rfl
  have F1 := fun_mk (st := s_is_tuple) l1 c1 k1
  have b1 := F1.binds (ps := ["thing", "many"]) fun _ _ _ _ _ _ us hl => match us, hl with | [_, _], _ => rfl
  have F2 := fun_mk (st := s_are_powers) l2 c2 k2
  have b2 := F2.binds (ps := ["thing"]) fun _ _ _ _ _ _ us hl => match us, hl with | [_], _ => rfl
  have F3 := fun_mk (st := s_are_facts) l3 c3 k3
  have b3 := F3.binds (ps := ["word", "thing"]) fun _ _ _ _ _ _ us hl => match us, hl with | [_, _], _ => rfl
  have F4 := fun_mk (st := s_is_row) l4 c4 k4
  have b4 := F4.binds (ps := ["thing"]) fun _ _ _ _ _ _ us hl => match us, hl with | [_], _ => rfl
  have F5 := fun_mk (st := s_law_cell_at) l5 c5 k5
  have b5 := F5.binds (ps := ["_law_script", "_law_k"]) fun _ _ _ _ _ _ us hl => match us, hl with | [_, _], _ => rfl
  have F6 := fun_mk (st := s_law_mixed) l6 c6 k6
  have b6 := F6.binds (ps := ["_law_script", "_law_start", "_law_many"]) fun _ _ _ _ _ _ us hl => match us, hl with | [_, _, _], _ => rfl
  have F7 := fun_mk (st := s_law_rising) l7 c7 k7
  have b7 := F7.binds (ps := ["_law_powers_here"]) fun _ _ _ _ _ _ us hl => match us, hl with | [_], _ => rfl
  have F8 := fun_mk (st := s_law_within) l8 c8 k8
  have b8 := F8.binds (ps := ["_law_thing_here", "_law_low", "_law_high"]) fun _ _ _ _ _ _ us hl => match us, hl with | [_, _, _], _ => rfl
  have F9 := fun_mk (st := s_law_row_right) l9 c9 k9
  have b9 := F9.binds (ps := ["_law_row"]) fun _ _ _ _ _ _ us hl => match us, hl with | [_], _ => rfl
  have F10 := fun_mk (st := s_law_good) l10 c10 k10
  have b10 := F10.binds (ps := ["_law_cell", "_law_low"]) fun _ _ _ _ _ _ us hl => match us, hl with | [_, _], _ => rfl
  have F11 := fun_mk (st := s_law_odd) l11 c11 k11
  have b11 := F11.binds (ps := ["_law_cell", "_law_low"]) fun _ _ _ _ _ _ us hl => match us, hl with | [_, _], _ => rfl
  have F12 := fun_mk (st := s_law_powers) l12 c12 k12
  have b12 := F12.binds (ps := ["_law_cells"]) fun _ _ _ _ _ _ us hl => match us, hl with | [_], _ => rfl
  have F13 := fun_mk (st := s_law_powers_spoilt) l13 c13 k13
  have b13 := F13.binds (ps := ["_law_powers_here", "_law_cell"]) fun _ _ _ _ _ _ us hl => match us, hl with | [_, _], _ => rfl
  have F14 := fun_mk (st := s_law_facts) l14 c14 k14
  have b14 := F14.binds (ps := ["_law_word", "_law_cells", "_law_place"]) fun _ _ _ _ _ _ us hl => match us, hl with | [_, _, _], _ => rfl
  have F15 := fun_mk (st := s_law_thing) l15 c15 k15
  have b15 := F15.binds (ps := ["_law_cells"]) fun _ _ _ _ _ _ us hl => match us, hl with | [_], _ => rfl
  have F16 := fun_mk (st := s_law) l16 c16 k16
  have b16 := F16.binds (ps := ["_law_script"]) fun _ _ _ _ _ _ us hl => match us, hl with | [_], _ => rfl
  refine ⟨PySem.W.fnOf "law" "law" (defArgs s_law) (defBody s_law) (defScope s_law) .none kV16 dc16 pm16 an16 cd16 ct16, fun s v => .of_eq rfl, fun base _ _ => ?_⟩
  have G_is_number := ok_is_number (P := l.prog) (w := w) (base := base) F0 B
  have D_is_number := df_of F0 (PySem.W.mg_of X G a0) b0 G_is_number
  have G_is_tuple := ok_is_tuple (P := l.prog) (w := w) (base := base) F1 B
  have D_is_tuple := df_of F1 (PySem.W.mg_of X G a1) b1 G_is_tuple
  have G_are_powers := ok_are_powers (P := l.prog) (w := w) (base := base) F2 B D_is_number D_is_tuple
  have D_are_powers := df_of F2 (PySem.W.mg_of X G a2) b2 G_are_powers
  have G_are_facts := ok_are_facts (P := l.prog) (w := w) (base := base) F3 B D_are_powers D_is_number D_is_tuple
  have D_are_facts := df_of F3 (PySem.W.mg_of X G a3) b3 G_are_facts
  have G_is_row := ok_is_row (P := l.prog) (w := w) (base := base) F4 B D_are_facts D_is_number D_is_tuple
  have D_is_row := df_of F4 (PySem.W.mg_of X G a4) b4 G_is_row
  have G_law_cell_at := ok_law_cell_at (P := l.prog) (w := w) (base := base) F5 B
  have D_law_cell_at := df_of F5 (PySem.W.mg_of X G a5) b5 G_law_cell_at
  have G_law_mixed := ok_law_mixed (P := l.prog) (w := w) (base := base) F6 B D_law_cell_at
  have D_law_mixed := df_of F6 (PySem.W.mg_of X G a6) b6 G_law_mixed
  have G_law_within := ok_law_within (P := l.prog) (w := w) (base := base) F8 B
  have D_law_within := df_of F8 (PySem.W.mg_of X G a8) b8 G_law_within
  have G_law_rising := ok_law_rising (P := l.prog) (w := w) (base := base) F7 B D_law_within
  have D_law_rising := df_of F7 (PySem.W.mg_of X G a7) b7 G_law_rising
  have G_law_row_right := ok_law_row_right (P := l.prog) (w := w) (base := base) F9 B D_law_rising D_law_within
  have D_law_row_right := df_of F9 (PySem.W.mg_of X G a9) b9 G_law_row_right
  have G_law_good := ok_law_good (P := l.prog) (w := w) (base := base) F10 B
  have D_law_good := df_of F10 (PySem.W.mg_of X G a10) b10 G_law_good
  have G_law_odd := ok_law_odd (P := l.prog) (w := w) (base := base) F11 B
  have D_law_odd := df_of F11 (PySem.W.mg_of X G a11) b11 G_law_odd
  have G_law_powers := ok_law_powers (P := l.prog) (w := w) (base := base) F12 B
  have D_law_powers := df_of F12 (PySem.W.mg_of X G a12) b12 G_law_powers
  have G_law_powers_spoilt := ok_law_powers_spoilt (P := l.prog) (w := w) (base := base) F13 B
  have D_law_powers_spoilt := df_of F13 (PySem.W.mg_of X G a13) b13 G_law_powers_spoilt
  have G_law_facts := ok_law_facts (P := l.prog) (w := w) (base := base) F14 B D_law_good D_law_odd D_law_powers D_law_powers_spoilt
  have D_law_facts := df_of F14 (PySem.W.mg_of X G a14) b14 G_law_facts
  have G_law_thing := ok_law_thing (P := l.prog) (w := w) (base := base) F15 B D_law_facts D_law_good D_law_odd
  have D_law_thing := df_of F15 (PySem.W.mg_of X G a15) b15 G_law_thing
  have G_law := ok_law (P := l.prog) (w := w) (base := base) F16 B D_law_mixed D_law_row_right D_law_thing D_is_row
  exact G_law
end Q
open PySem PySem.W PyProof.Rows in
set_option maxRecDepth 100000 in
set_option maxHeartbeats 0 in
theorem PySem.Challenge.cw_primeslip_k03_what_is_a_row_holds : PySem.Challenge.rw_primeslip_k03_what_is_a_row.Holds := by
  w_on; o_law; k_head; (case hw => w_witness2)
  k_fill
  refine L2.walk_of (l := PySem.Challenge.rw_primeslip_k03_what_is_a_row) (n := 63) (k := 5) (x := "_law_script") (CX := fun _ => L2.CX0) (sp := fun w => Z.spLaw _) rfl (by decide) rfl ⟨rfl, by decide, by decide⟩ (fun w h Y => PySem.W.kIn_of Y) ?F (fun _ _ a ns hl _ hS => ⟨a, ns, rfl, hS, hl, fun _ => rfl⟩) (fun _ _ _ _ _ h => h)
  case F =>
    intro w mg fa h KX G hmg
    refine' Q.all_mk KX G hmg ?a0 ?l0 ?c0 ?k0 ?a1 ?l1 ?c1 ?k1 ?a2 ?l2 ?c2 ?k2 ?a3 ?l3 ?c3 ?k3 ?a4 ?l4 ?c4 ?k4 ?a5 ?l5 ?c5 ?k5 ?a6 ?l6 ?c6 ?k6 ?a7 ?l7 ?c7 ?k7 ?a8 ?l8 ?c8 ?k8 ?a9 ?l9 ?c9 ?k9 ?a10 ?l10 ?c10 ?k10 ?a11 ?l11 ?c11 ?k11 ?a12 ?l12 ?c12 ?k12 ?a13 ?l13 ?c13 ?k13 ?a14 ?l14 ?c14 ?k14 ?a15 ?l15 ?c15 ?k15 ?a16 ?l16 ?c16 ?k16 ?z0 ?z1 ?z2 ?z3 ?z4 ?z5 ?z6 ?z7 ?z8 ?z9
    (case a0 => k_is)
    (case l0 => k_is)
    (case c0 => k_is)
    (case k0 => k_is)
    (case a1 => k_is)
    (case l1 => k_is)
    (case c1 => k_is)
    (case k1 => k_is)
    (case a2 => k_is)
    (case l2 => k_is)
    (case c2 => k_is)
    (case k2 => k_is)
    (case a3 => k_is)
    (case l3 => k_is)
    (case c3 => k_is)
    (case k3 => k_is)
    (case a4 => k_is)
    (case l4 => k_is)
    (case c4 => k_is)
    (case k4 => k_is)
    (case a5 => k_is)
    (case l5 => k_is)
    (case c5 => k_is)
    (case k5 => k_is)
    (case a6 => k_is)
    (case l6 => k_is)
    (case c6 => k_is)
    (case k6 => k_is)
    (case a7 => k_is)
    (case l7 => k_is)
    (case c7 => k_is)
    (case k7 => k_is)
    (case a8 => k_is)
    (case l8 => k_is)
    (case c8 => k_is)
    (case k8 => k_is)
    (case a9 => k_is)
    (case l9 => k_is)
    (case c9 => k_is)
    (case k9 => k_is)
    (case a10 => k_is)
    (case l10 => k_is)
    (case c10 => k_is)
    (case k10 => k_is)
    (case a11 => k_is)
    (case l11 => k_is)
    (case c11 => k_is)
    (case k11 => k_is)
    (case a12 => k_is)
    (case l12 => k_is)
    (case c12 => k_is)
    (case k12 => k_is)
    (case a13 => k_is)
    (case l13 => k_is)
    (case c13 => k_is)
    (case k13 => k_is)
    (case a14 => k_is)
    (case l14 => k_is)
    (case c14 => k_is)
    (case k14 => k_is)
    (case a15 => k_is)
    (case l15 => k_is)
    (case c15 => k_is)
    (case k15 => k_is)
    (case a16 => k_is)
    (case l16 => k_is)
    (case c16 => k_is)
    (case k16 => k_is)
    (case z0 => k_is)
    (case z1 => k_is)
    (case z2 => k_is)
    (case z3 => k_is)
    (case z4 => k_is)
    (case z5 => k_is)
    (case z6 => k_is)
    (case z7 => k_is)
    (case z8 => k_is)
    (case z9 => k_is)
