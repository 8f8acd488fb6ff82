import PyProof.Rows.All
import Wide.All
import OpenK.AllK
import Wide.FinOn
import HandS.ForMost
import HandS.Wide
import HandS.IsInst
import HandS.SortInts
import PySem.Challenge.RW_primeslip_k02_least_divisors
set_option Elab.async false
set_option linter.all false
set_option maxRecDepth 100000
set_option maxHeartbeats 4000000
local macro_rules | `(tactic| walk_at "r1") => `(tactic| first
  | refine ⟨_, rfl, ?_⟩
  | refine ⟨_, _, rfl, rfl, ?_⟩
  | refine ⟨rfl, ?_⟩
  | refine And.intro (by first | omega | exact ⟨by omega, by decide⟩ | exact ⟨by decide, by decide, by decide⟩) ?_)
local macro_rules | `(tactic| walk_at "r") => `(tactic| repeat (walk_at "r1"))
namespace Z
open PySem PySem.Spec PyProof.Rows L2

/-- a def of the text under its name: where it stands, what it promises -/
structure Df (P : Program) (w : World) (K : PySem.W.Frag) (mg : Str → Option Value) (base : Heap) (x : Str) (ps : List Str) (k : Nat) (sp : Sp) : Prop where
  ex : ∃ (f : Addr) (fd : FuncData), mg x = some (.ref f) ∧ PySem.W.keepIn K (.ref f) = true ∧ Binds K fd ps [] ∧ FnOk P w K mg base CX0 k f fd ps sp
/-- the reading of a call: the arguments, then the promise -/
def tDf (sp : Sp) (t : TA) : TE := fun σ H Q => t σ H fun vs H1 => sp vs H1 Q E0
section
variable {X : Cx} {x : Str} {ps : List Str} {k : Nat} {sp : Sp} {e : Expr} {es : List Expr} {t : TA} {p pos : Pos}
theorem pe_df (D : Df X.prog X.w X.K X.mg X.base x ps k sp) (hr : Room k X.A) (hg : Gl X x) (ha : PA X (e :: es) t) (hdb : (x == ("__debug__" : Str)) = false := by decide)
    (he : starEach (e :: es) X.env = (false, eval e X.env) :: starEach es X.env := by rfl) (hpl : (backTo pos (starEach es X.env)).any (·.1) = false := by rfl) :
    PE X (.Call (.Name x p) (e :: es) [] pos) (tDf sp t) := by
  obtain ⟨f, fd, hm, hk, hb, F⟩ := D.ex
  refine ⟨fun pins s σ H Q I h => ?_⟩
  refine (pe_call F hr hg hm hk hb .nil pass0 ha hdb he hpl).run pins s σ H Q I ?_
  show t σ H fun vs H1 => sp (vs ++ []) H1 Q E0
  simp only [List.append_nil]
  exact h
theorem pe_df0 (D : Df X.prog X.w X.K X.mg X.base x ps k sp) (hr : Room k X.A) (hg : Gl X x) (hdb : (x == ("__debug__" : Str)) = false := by decide) :
    PE X (.Call (.Name x p) [] [] pos) (tDf sp (fun _ H Q => Q [] H)) := by
  obtain ⟨f, fd, hm, hk, hb, F⟩ := D.ex
  refine ⟨fun pins s σ H Q I h => ?_⟩
  exact (pe_call0 F hr hg hm hk hb .nil pass0 hdb).run pins s σ H Q I h
/-- a whole number of the module's top -/
theorem pe_gint {i : Int} (hg : Gl X x) (h : ∃ t, X.mg x = some (.int i t)) (hd : (x == ("__debug__" : Str)) = false := by decide) : PE X (.Name x pos) (tC (.int i)) := by
  obtain ⟨t, h⟩ := h
  exact pe_glob hg h ⟨t, rfl⟩ hd
end
theorem df_of {P : Program} {w : World} {K : PySem.W.Frag} {mg : Str → Option Value} {base : Heap} {x : Str} {ps : List Str} {k : Nat} {sp : Sp} {st : Stmt} {f : Addr} {fd : FuncData} (F : Fun K x x st f fd) (hm : mg x = some (.ref f)) (b : Binds K fd ps [])
    (G : FnOk P w K mg base CX0 k f fd ps sp) : Df P w K mg base x ps k sp := ⟨f, fd, hm, F.kp, b, G⟩

theorem same_upd {H : Hp} {p : Addr} {o : HO} (h : H p = none) : Same H (upd H p o) := fun b x e => by
  rw [upd_ne (ne_of_none e h)]
  exact e
theorem Same.seqT {K : PySem.W.Frag} {H H' : Hp} {a : Addr} {xs : List V} (e : Same H H') (h : SqT K H a xs) : SqT K H' a xs := by
  rcases h with (h | ⟨o, h⟩) | h
  · exact .inl (.inl (e _ _ h))
  · exact .inl (.inr ⟨o, e _ _ h⟩)
  · exact .inr h
/-- a new object: the heap behind it under a letter -/
@[elab_as_elim] theorem gen_upd {H : Hp} {p : Addr} {o : HO} {motive : Hp → Prop} (np : H p = none) (h : ∀ H2, Same H H2 → H2 p = some o → (∀ b, b ≠ p → H2 b = H b) → motive H2) : motive (upd H p o) := h _ (same_upd np) upd_same fun _ e => upd_ne e
/-- a changed object -/
@[elab_as_elim] theorem gen_set {H : Hp} (l : Addr) {o : HO} {motive : Hp → Prop} (h : ∀ H2, H2 l = some o → (∀ b, b ≠ l → H2 b = H b) → motive H2) : motive (upd H l o) := h _ upd_same fun _ e => upd_ne e
mutual
theorem dp_same {K : PySem.W.Frag} {H H' : Hp} (e : Same H H') : ∀ {v : V} {d : PyData}, Dp K H v d → Dp K H' v d
  | _, _, .non => .non
  | _, _, .bl b => .bl b
  | _, _, .int i => .int i
  | _, _, .str x => .str x
  | _, _, .lst h a => .lst (e.seq h) (dpAll_same e a)
  | _, _, .tup h a => .tup (Same.seqT e h) (dpAll_same e a)
theorem dpAll_same {K : PySem.W.Frag} {H H' : Hp} (e : Same H H') : ∀ {vs : List V} {ds : List PyData}, DpAll K H vs ds → DpAll K H' vs ds
  | _, _, .nil => .nil
  | _, _, .cons h a => .cons (dp_same e h) (dpAll_same e a)
end
theorem DpAll.length {K : PySem.W.Frag} {H : Hp} : ∀ {vs : List V} {ds : List PyData}, DpAll K H vs ds → vs.length = ds.length
  | _, _, .nil => rfl
  | _, _, .cons _ a => congrArg (· + 1) (DpAll.length a)
theorem DpAll.get {K : PySem.W.Frag} {H : Hp} : ∀ {vs : List V} {ds : List PyData} {i : Nat} {v : V}, DpAll K H vs ds → vs[i]? = some v → ∃ d, ds[i]? = some d ∧ Dp K H v d
  | _, _, _, _, .nil, e => by simp at e
  | _, _, 0, _, .cons h _, e => by simp at e; subst e; exact ⟨_, rfl, h⟩
  | _, _, i + 1, _, .cons _ a, e => by
    obtain ⟨d, h1, h2⟩ := DpAll.get (i := i) a (by simpa using e)
    exact ⟨d, by simpa using h1, h2⟩
theorem DpAll.get' {K : PySem.W.Frag} {H : Hp} : ∀ {vs : List V} {ds : List PyData} {i : Nat} {d : PyData}, DpAll K H vs ds → ds[i]? = some d → ∃ v, vs[i]? = some v ∧ Dp K H v d
  | _, _, _, _, .nil, e => by simp at e
  | _, _, 0, _, .cons h _, e => by simp at e; subst e; exact ⟨_, rfl, h⟩
  | _, _, i + 1, _, .cons _ a, e => by
    obtain ⟨d, h1, h2⟩ := DpAll.get' (i := i) a (by simpa using e)
    exact ⟨d, by simpa using h1, h2⟩
/-- over a list that stands still, the list read off a fact -/
theorem lc_listE {K : PySem.W.Frag} {a : Addr} {xs : List V} {g : TG} {tt : TT} {te : TE} {vs : List Nat} {σ : L2.St} {H0 H1 : Hp} {D : Addr} {Qd : Hp → Prop} (_ : SqL K H0 a xs) (Pv : Nat → Hp → Prop) (h0 : Pv 0 (upd H1 D (.lst []))) (hl : ∀ i H, i ≤ xs.length → Pv i H → SqL K H a xs)
    (hs : ∀ i x H, xs[i]? = some x → Pv i H → g x (wipe σ vs) H fun σ2 H2 => wipe σ2 vs = wipe σ vs ∧ tt σ2 H2 fun b H3 =>
      if b = true then te σ2 H3 fun y H4 => ∃ acc, H4 D = some (.lst acc) ∧ acc.length < sizeLine ∧ Pv (i + 1) (upd H4 D (.lst (acc ++ [y]))) else Pv (i + 1) H3) (hd : ∀ H, Pv xs.length H → Qd H) :
    ∃ W : Nat → Nat → Hp → Prop, (∃ m, W 0 m (upd H1 D (.lst []))) ∧ ∀ i m H, W i m H →
      ((Itl K a).stop i H ∧ Qd H) ∨ ((Itl K a).go i H ∧ ∃ Nx : Hp → Prop, (∀ H', Nx H' → ∃ m', m' < m ∧ W (i + 1) m' H') ∧ ∀ x H', (Itl K a).yld i H x H' → g x (wipe σ vs) H' fun σ2 H2 => wipe σ2 vs = wipe σ vs ∧ tt σ2 H2 fun b H3 =>
        if b = true then te σ2 H3 fun y H4 => ∃ acc, H4 D = some (.lst acc) ∧ acc.length < sizeLine ∧ Nx (upd H4 D (.lst (acc ++ [y]))) else Nx H3) := lc_list Pv h0 hl hs hd
theorem for_listE {K : PySem.W.Frag} {a : Addr} {xs : List V} {g : TG} {tb : TS} {D : Ends} {σ : L2.St} {H0 H : Hp} (_ : SqL K H0 a xs) (Pv : Nat → L2.St → Hp → Prop) (h0 : Pv 0 σ H) (hl : ∀ i σ H, i ≤ xs.length → Pv i σ H → SqL K H a xs)
    (hs : ∀ i x σ H, xs[i]? = some x → Pv i σ H → g x σ H fun σ2 H2 => tb { D with nx := Pv (i + 1), ct := Pv (i + 1), bk := D.nx } σ2 H2) (hd : ∀ σ H, Pv xs.length σ H → D.nx σ H) :
    ∃ W : Nat → Nat → L2.St → Hp → Prop, (∃ m, W 0 m σ H) ∧ ∀ i m σ H, W i m σ H →
      ((Itl K a).stop i H ∧ D.nx σ H) ∨ ((Itl K a).go i H ∧ ∃ N : L2.St → Hp → Prop, (∀ σ' H', N σ' H' → ∃ m', m' < m ∧ W (i + 1) m' σ' H') ∧ ∀ x H', (Itl K a).yld i H x H' → g x σ H' fun σ2 H2 => tb { D with nx := N, ct := N, bk := D.nx } σ2 H2) := for_list Pv h0 hl hs hd
theorem for_tupE {K : PySem.W.Frag} {a : Addr} {xs : List V} {g : TG} {tb : TS} {D : Ends} {σ : L2.St} {H0 H : Hp} (_ : SqT K H0 a xs) (Pv : Nat → L2.St → Hp → Prop) (h0 : Pv 0 σ H) (hl : ∀ i σ H, i ≤ xs.length → Pv i σ H → SqT K H a xs)
    (hs : ∀ i x σ H, xs[i]? = some x → Pv i σ H → g x σ H fun σ2 H2 => tb { D with nx := Pv (i + 1), ct := Pv (i + 1), bk := D.nx } σ2 H2) (hd : ∀ σ H, Pv xs.length σ H → D.nx σ H) :
    ∃ W : Nat → Nat → L2.St → Hp → Prop, (∃ m, W 0 m σ H) ∧ ∀ i m σ H, W i m σ H →
      ((Itt K a).stop i H ∧ D.nx σ H) ∨ ((Itt K a).go i H ∧ ∃ N : L2.St → Hp → Prop, (∀ σ' H', N σ' H' → ∃ m', m' < m ∧ W (i + 1) m' σ' H') ∧ ∀ x H', (Itt K a).yld i H x H' → g x σ H' fun σ2 H2 => tb { D with nx := N, ct := N, bk := D.nx } σ2 H2) := for_tup Pv h0 hl hs hd
theorem mul_ok {i j : Int} (ha : i.natAbs < 2 ^ 9000) (hb : j.natAbs < 2 ^ 9000) : CMulW i j := wide_mul ha hb (by decide) (by decide) (by decide)
theorem nat_lt {i : Int} {a b : Nat} (h0 : 0 ≤ i) (h : i < 2 ^ a) (hab : a ≤ b) : i.natAbs < 2 ^ b := by
  have h1 : i.natAbs < 2 ^ a := by
    have e : ((2 : Int) ^ a) = (((2 : Nat) ^ a : Nat) : Int) := by rw [Int.natCast_pow]; rfl
    rw [e] at h
    omega
  exact Nat.lt_of_lt_of_le h1 (Nat.pow_le_pow_right (by decide) hab)

end Z

namespace Z
open PySem PySem.Spec PyProof.Rows L2
theorem iteD {p A B : Prop} [Decidable p] (h : p) (g : A) : if decide p = true then A else B := by
  rw [if_pos (decide_eq_true h)]
  exact g
theorem iteN {p A B : Prop} [Decidable p] (h : ¬ p) (g : B) : if decide p = true then A else B := by
  rw [if_neg (by rw [decide_eq_false h]; exact Bool.false_ne_true)]
  exact g
theorem ite3 {p A B : Prop} [Decidable p] (h1 : p → A) (h2 : ¬ p → B) : if decide p = true then A else B := by
  by_cases h : p
  · exact iteD h (h1 h)
  · exact iteN h (h2 h)
theorem iteI {i j : Int} {A B : Prop} (h1 : i = j → A) (h2 : i ≠ j → B) : if decide (V.int i = V.int j) = true then A else B :=
  ite3 (fun e => h1 (V.int.inj e)) fun e => h2 fun q => e (congrArg V.int q)
theorem iteIn {i j : Int} {A B : Prop} (h1 : i ≠ j → A) (h2 : i = j → B) : if (!decide (V.int i = V.int j)) = true then A else B := by
  by_cases h : i = j
  · rw [decide_eq_true (congrArg V.int h)]
    exact iteF (h2 h)
  · rw [decide_eq_false (fun e => h (V.int.inj e))]
    exact iteT (h1 h)
theorem decVI {i j : Int} : decide (V.int i = V.int j) = decide (i = j) := by
  by_cases h : i = j
  · rw [decide_eq_true h, decide_eq_true (congrArg V.int h)]
  · rw [decide_eq_false h, decide_eq_false (fun e => h (V.int.inj e))]

/-! ### cells of the script -/
def cell (ns : List Int) (k : Int) : Int := (ns[k.toNat]?).getD 0
def spCellAt (K : PySem.W.Frag) : Sp := fun vs H Q _ => ∃ (a : Addr) (ns : List Int) (k : Int), vs = [.ref a, .int k] ∧ SqL K H a (ns.map V.int) ∧ 0 ≤ k ∧ ∀ i : Int, i = cell ns k → Q (.int i) H
theorem int_at {ns : List Int} {k : Int} (h0 : 0 ≤ k) (h : k < ((ns.map V.int).length : Nat)) : atI (ns.map V.int) k = some (V.int (cell ns k)) := by
  have h1 : k.toNat < ns.length := by
    rw [List.length_map] at h
    omega
  have e : k = ((k.toNat : Nat) : Int) := by omega
  rw [e]
  refine atI_nat ?_
  rw [List.getElem?_map, List.getElem?_eq_getElem h1]
  unfold cell
  have e2 : (((k.toNat : Nat) : Int)).toNat = k.toNat := by omega
  rw [e2, List.getElem?_eq_getElem h1]
  rfl
theorem cell_out {ns : List Int} {k : Int} (h : ¬ k < ((ns.map V.int).length : Nat)) : cell ns k = 0 := by
  rw [List.length_map] at h
  unfold cell
  rw [List.getElem?_eq_none (by omega)]
  rfl
/-- a whole number, no truth -/
def isI : V → Bool
  | .int _ => true
  | _ => false
def flat : V → Bool
  | .int _ => true
  | .bl _ => true
  | .non => true
  | .str _ => true
  | _ => false
def spWhole : Sp := fun vs H Q _ => ∃ v : V, vs = [v] ∧ flat v = true ∧ Q (.bl (isI v)) H
def tyF : V → String
  | .int _ => "int"
  | .bl _ => "bool"
  | .str _ => "str"
  | _ => "NoneType"
theorem tyx_flat {K : PySem.W.Frag} {H : Hp} : ∀ {v : V}, flat v = true → TyX K H v (.type (tyF v))
  | .int i, _ => .base (.int i)
  | .bl b, _ => .base (.bl b)
  | .str x, _ => .base (.str x)
  | .non, _ => .base .non
  | .byt _, h => nomatch h
  | .flt _, h => nomatch h
  | .ref _, h => nomatch h
  | .ty _, h => nomatch h
def isIB : V → Bool
  | .int _ => true
  | .bl _ => true
  | _ => false
def isB : V → Bool
  | .bl _ => true
  | _ => false
theorem kit_int {K : PySem.W.Frag} : ∀ {v : V}, flat v = true → PySem.W.kitOne K (.type (tyF v)) (.type "int") = some (isIB v)
  | .int i, _ => show PySem.W.kitOne K (.type "int") (.type "int") = some true from kit_ty (by decide +kernel)
  | .bl b, _ => show PySem.W.kitOne K (.type "bool") (.type "int") = some true from kit_ty (by decide +kernel)
  | .str x, _ => show PySem.W.kitOne K (.type "str") (.type "int") = some false from kit_ty (by decide +kernel)
  | .non, _ => show PySem.W.kitOne K (.type "NoneType") (.type "int") = some false from kit_ty (by decide +kernel)
  | .byt _, h => nomatch h
  | .flt _, h => nomatch h
  | .ref _, h => nomatch h
  | .ty _, h => nomatch h
theorem kit_bool {K : PySem.W.Frag} : ∀ {v : V}, flat v = true → PySem.W.kitOne K (.type (tyF v)) (.type "bool") = some (isB v)
  | .int i, _ => show PySem.W.kitOne K (.type "int") (.type "bool") = some false from kit_ty (by decide +kernel)
  | .bl b, _ => show PySem.W.kitOne K (.type "bool") (.type "bool") = some true from kit_ty (by decide +kernel)
  | .str x, _ => show PySem.W.kitOne K (.type "str") (.type "bool") = some false from kit_ty (by decide +kernel)
  | .non, _ => show PySem.W.kitOne K (.type "NoneType") (.type "bool") = some false from kit_ty (by decide +kernel)
  | .byt _, h => nomatch h
  | .flt _, h => nomatch h
  | .ref _, h => nomatch h
  | .ty _, h => nomatch h
theorem isI_eq (v : V) : (if isIB v = true then !isB v else false) = isI v := by cases v <;> rfl

/-! ### powers -/
def spPowered : Sp := fun vs H Q _ => ∃ b e n : Int, vs = [.int b, .int e, .int n] ∧ 0 ≤ e ∧ 0 < n ∧ n < 2 ^ 4000 ∧ Q (.int (b ^ e.toNat % n)) H
/-- the loop of powers by squares: l * s ^ r is what is asked -/
def InvPow (b e n : Int) (H : Hp) (m : Nat) (σ : L2.St) (H' : Hp) : Prop := ∃ l s r : Int, σ = [some (.int b), some (.int e), some (.int n), some (.int l), some (.int s), some (.int r)] ∧ H' = H ∧ m = r.toNat ∧ 0 ≤ r ∧ 0 ≤ l ∧ l < n ∧ 0 ≤ s ∧ s < n ∧
  l * s ^ r.toNat % n = b ^ e.toNat % n
theorem pow_mod (a n : Int) (k : Nat) : (a % n) ^ k % n = a ^ k % n := by
  induction k with
  | zero => simp
  | succ k ih =>
    rw [Int.pow_succ, Int.pow_succ, Int.mul_emod, ih, Int.emod_emod, ← Int.mul_emod]
theorem pow_start (b e n : Int) : 1 % n * (b % n) ^ e.toNat % n = b ^ e.toNat % n := by
  rw [Int.mul_emod, Int.emod_emod, pow_mod, ← Int.mul_emod, Int.one_mul]
theorem pow_even (l s n : Int) (r : Int) (h0 : 0 < r) (h : r % 2 = 0) : l * (s * s % n) ^ (r / 2).toNat % n = l * s ^ r.toNat % n := by
  have e : r.toNat = 2 * (r / 2).toNat := by omega
  rw [Int.mul_emod, pow_mod, ← Int.mul_emod, e, Int.pow_mul, Int.pow_succ, Int.pow_succ, Int.pow_zero, Int.one_mul]
theorem pow_odd (l s n : Int) (r : Int) (h0 : 0 < r) (h : r % 2 = 1) : (l * s % n) * (s * s % n) ^ (r / 2).toNat % n = l * s ^ r.toNat % n := by
  have e : r.toNat = 2 * (r / 2).toNat + 1 := by omega
  rw [Int.mul_emod, Int.emod_emod, pow_mod, ← Int.mul_emod, e, Int.pow_succ, Int.pow_mul, Int.pow_succ s 1, Int.pow_succ s 0, Int.pow_zero, Int.one_mul]
  congr 1
  rw [Int.mul_assoc, Int.mul_comm s]
theorem small_of {i n : Int} (h0 : 0 ≤ i) (h : i < n) (hn : n < 2 ^ 4000) : i.natAbs < 2 ^ 9000 := nat_lt (a := 4000) h0 (by omega) (by decide)

/-! ### least divisors -/
def spLeast : Sp := fun vs H Q _ => ∃ n : Int, vs = [.int n] ∧ 2 ≤ n ∧ n ≤ 1000000 ∧ ∀ d : Int, 2 ≤ d → n % d = 0 → (∀ e : Int, 2 ≤ e → e < d → n % e ≠ 0) → (d = n ∨ d * d ≤ n) → Q (.int d) H

/-! ### the law of powers -/
def spSize (K : PySem.W.Frag) : Sp := fun vs H Q _ => ∃ (a : Addr) (ns : List Int) (k low many : Int), vs = [.ref a, .int k, .int low, .int many] ∧ SqL K H a (ns.map V.int) ∧ 0 ≤ k ∧ 0 ≤ low ∧ low ≤ 1 ∧ 0 < many ∧ many ≤ 13 ∧
  ∀ r : Int, low ≤ r → r ≤ 10 ^ 30 + 13 → Q (.int r) H
def spTimes : Sp := fun vs H Q _ => ∃ b e n : Int, vs = [.int b, .int e, .int n] ∧ 0 ≤ b ∧ b ≤ 2 ^ 100 ∧ 0 ≤ e ∧ e ≤ 12 ∧ 0 < n ∧ Q (.int (b ^ e.toNat % n)) H
def spLaw (K : PySem.W.Frag) : Sp := fun vs H Q _ => ∃ (a : Addr) (ns : List Int), vs = [.ref a] ∧ SqL K H a (ns.map V.int) ∧ ns.length ≤ 63 ∧ ∀ H', Q (.bl true) H'
end Z
namespace Z
open PySem PySem.Spec PyProof.Rows L2
theorem pow_abs (b : Int) (c : Nat) (hb0 : 0 ≤ b) (hb : b ≤ 2 ^ c) : ∀ i : Nat, 0 ≤ b ^ i ∧ (b ^ i).natAbs ≤ 2 ^ (c * i)
  | 0 => by simp
  | i + 1 => by
    obtain ⟨h1, h2⟩ := pow_abs b c hb0 hb i
    have hb' : b.natAbs ≤ 2 ^ c := by
      have e : ((2 : Int) ^ c) = (((2 : Nat) ^ c : Nat) : Int) := by rw [Int.natCast_pow]; rfl
      rw [e] at hb
      omega
    refine ⟨by rw [Int.pow_succ]; exact Int.mul_nonneg h1 hb0, ?_⟩
    rw [Int.pow_succ, Int.natAbs_mul, Nat.mul_succ, Nat.pow_add]
    exact Nat.mul_le_mul h2 hb'
theorem times_ok {b : Int} {i : Nat} (hb0 : 0 ≤ b) (hb : b ≤ 2 ^ 100) (hi : i < 12) : CMulW (b ^ i) b := by
  obtain ⟨_, h2⟩ := pow_abs b 100 hb0 hb i
  refine mul_ok (Nat.lt_of_le_of_lt h2 (Nat.pow_lt_pow_right (by decide) (by omega))) ?_
  have h3 := (pow_abs b 100 hb0 hb 1).2
  rw [Int.pow_succ, Int.pow_zero, Int.one_mul] at h3
  exact Nat.lt_of_le_of_lt h3 (Nat.pow_lt_pow_right (by decide) (by omega))
end Z

namespace Z
open PySem PySem.Spec PyProof.Rows L2
def spNumber (K : PySem.W.Frag) : Sp := fun vs H Q _ => ∃ (a : Addr) (ns : List Int), vs = [.ref a] ∧ SqL K H a (ns.map V.int) ∧ ∀ r : Int, 2 ≤ r → r ≤ 1000000 → Q (.int r) H
/-- none from 2 on below d divides n -/
def InvLeast (n : Int) (H : Hp) (m : Nat) (σ : L2.St) (H' : Hp) : Prop := ∃ d : Int, σ = [some (.int n), some (.int d)] ∧ H' = H ∧ m = (n - d).toNat ∧ 2 ≤ d ∧ d ≤ n ∧ ∀ e : Int, 2 ≤ e → e < d → n % e ≠ 0
theorem least_next {n d : Int} (hd : n % d ≠ 0) (h : ∀ e : Int, 2 ≤ e → e < d → n % e ≠ 0) : ∀ e : Int, 2 ≤ e → e < d + 1 → n % e ≠ 0 := fun e h1 h2 => by
  by_cases e1 : e = d
  · rw [e1]
    exact hd
  · exact h e h1 (by omega)
theorem sq_lt {d n : Int} (h2 : 2 ≤ d) (h : d * d ≤ n) : d < n := by
  have h1 : d * 2 ≤ d * d := Int.mul_le_mul_of_nonneg_left h2 (by omega)
  omega
/-- where none below the root divides, none does -/
theorem least_all {n d : Int} (h2 : 2 ≤ d) (hn : 2 ≤ n) (hs : ¬ d * d ≤ n) (h : ∀ e : Int, 2 ≤ e → e < d → n % e ≠ 0) : ∀ e : Int, 2 ≤ e → e < n → n % e ≠ 0 := fun e h1 he hz => by
  by_cases hd : e < d
  · exact h e h1 hd hz
  · have hf : e * (n / e) = n := by
      have q := Int.mul_ediv_add_emod n e
      rw [hz, Int.add_zero] at q
      exact q
    have f1 : 2 ≤ n / e := by
      by_cases c : n / e ≤ 1
      · exfalso
        have : e * (n / e) ≤ e * 1 := Int.mul_le_mul_of_nonneg_left c (by omega)
        omega
      · omega
    have f2 : n / e < d := by
      by_cases c : n / e < d
      · exact c
      · exfalso
        have q1 : d * d ≤ e * (n / e) := Int.mul_le_mul (by omega) (by omega) (by omega) (by omega)
        omega
    refine h (n / e) f1 f2 ?_
    rw [← hf]
    rw [Int.mul_ediv_cancel_left _ (by omega)]
    exact Int.mul_emod_left _ _
theorem sml {i : Int} (h0 : 0 ≤ i) (h : i ≤ 1000000) : i.natAbs < 2 ^ 9000 := nat_lt (a := 20) h0 (by omega) (by decide)
theorem prod_in {x y : Int} (hx : 1 ≤ x) (hy : 2 ≤ y) (hx2 : x ≤ 1000) (hy2 : y ≤ 1000) : 2 ≤ y * x ∧ y * x ≤ 1000000 := by
  have h1 : 2 * 1 ≤ y * x := Int.mul_le_mul hy hx (by omega) (by omega)
  have h2 : y * x ≤ 1000 * 1000 := Int.mul_le_mul hy2 hx2 (by omega) (by omega)
  omega
end Z
namespace Z
open PySem PySem.Spec PyProof.Rows L2
/-- the law's own search -/
def InvSeek (a : Addr) (n d : Int) (H : Hp) (m : Nat) (σ : L2.St) (H' : Hp) : Prop := ∃ e : Int, σ = [some (.ref a), some (.int n), some (.int d), some (.int e)] ∧ H' = H ∧ m = (n - e).toNat ∧ 2 ≤ e ∧ e ≤ n
end Z

namespace Q
open PySem PySem.Spec PyProof.Rows L2

def topS (i : Nat) : Stmt := PySem.Challenge.pw_primeslip_k02_least_divisors.main.body.getD i (.Pass ⟨0, 0, 0, 0⟩)
abbrev s_least_divisor : Stmt := topS 1
abbrev N_least_divisor : List Str := ["number", "divisor"]
theorem sc_least_divisor : FnScope N_least_divisor ["number"] (defScope s_least_divisor) := ⟨rfl, rfl, rfl, by decide +kernel, rfl, by decide +kernel, by decide +kernel⟩
abbrev s_law_cell_at : Stmt := topS 3
abbrev N_law_cell_at : List Str := ["_law_script", "_law_k"]
theorem sc_law_cell_at : FnScope N_law_cell_at ["_law_script", "_law_k"] (defScope s_law_cell_at) := ⟨rfl, rfl, rfl, by decide +kernel, rfl, by decide +kernel, by decide +kernel⟩
abbrev s_law_whole : Stmt := topS 4
abbrev N_law_whole : List Str := ["_law_found"]
theorem sc_law_whole : FnScope N_law_whole ["_law_found"] (defScope s_law_whole) := ⟨rfl, rfl, rfl, by decide +kernel, rfl, by decide +kernel, by decide +kernel⟩
abbrev s_law_number : Stmt := topS 5
abbrev N_law_number : List Str := ["_law_script", "_law_cell", "_law_more"]
theorem sc_law_number : FnScope N_law_number ["_law_script"] (defScope s_law_number) := ⟨rfl, rfl, rfl, by decide +kernel, rfl, by decide +kernel, by decide +kernel⟩
abbrev s_law : Stmt := topS 6
abbrev N_law : List Str := ["_law_script", "_law_number_here", "_law_found", "_law_at"]
theorem sc_law : FnScope N_law ["_law_script"] (defScope s_law) := ⟨rfl, rfl, rfl, by decide +kernel, rfl, by decide +kernel, by decide +kernel⟩
/-- what the module's names hold -/
structure Bi (mg : Str → Option Value) : Prop where
  n_bool : mg "bool" = none
  n_int : mg "int" = none
  n_isinstance : mg "isinstance" = none
  n_len : mg "len" = none
end Q
namespace Q
open PySem PySem.Spec PyProof.Rows L2
open Z
section
variable {P : Program} {w : World} {K : PySem.W.Frag} {mg : Str → Option Value} {base : Heap}
theorem ok_least_divisor {f : Addr} {fd : FuncData} (F : Fun K "least_divisor" "least_divisor" s_least_divisor f fd) (B : Bi mg) : FnOk P w K mg base CX0 1 f fd ["number"] (Z.spLeast) := by
  refine F.ok sc_least_divisor (fun vs H Q E h => ?_) (fun cdv A outer s H vs Q E hr h => ?_)
  · obtain ⟨n, rfl, hn, hn2, q⟩ := h
    rfl
  · obtain ⟨n, rfl, hn, hn2, q⟩ := h
    refine ⟨_, (pss_cons (ps_set (i := 1) sc_least_divisor.nd rfl (Or.inl rfl) pe_int)
      (pss_cons (ps_while PassesOwn.never (pt_cmpR op_le (pe_op op_mulW (pv 1) (pv 1)) (pv 0) (nomark _)) (pss_cons (ps_if (pt_cmpR op_eq (pe_op op_mod (pv 0) (pv 1)) pe_int (nomark _)) (pss_one (ps_ret (pv 1))) pss_nil)
      (pss_one (ps_set (i := 1) sc_least_divisor.nd rfl (Or.inl rfl) (pe_op op_add (pv 1) pe_int)))))
      (pss_one (ps_ret (pv 0))))), ?_⟩
    walk_at "r"
    refine ⟨InvLeast n H, ⟨_, 2, rfl, rfl, rfl, by omega, by omega, fun e h1 h2 => by omega⟩, fun m σ H' hW => ?_⟩
    obtain ⟨d, rfl, rfl, rfl, h2, hle, hI⟩ := hW
    walk_at "r"
    refine ⟨mul_ok (sml (by omega) (by omega)) (sml (by omega) (by omega)), ?_⟩
    walk_at "r"
    refine ite3 (fun h => ⟨fun σ2 H2 => ∃ m', m' < (n - d).toNat ∧ InvLeast n H' m' σ2 H2, fun _ _ z => z, ?_⟩) (fun h => ?_)
    · have h3 := sq_lt h2 h
      walk_at "r"
      refine iteI (fun hd => ?_) (fun hd => ?_)
      · walk_at "r"
        exact q d h2 hd hI (.inr h)
      · walk_at "r"
        exact ⟨(n - (d + 1)).toNat, by omega, d + 1, rfl, rfl, rfl, by omega, by omega, least_next hd hI⟩
    · walk_at "r"
      exact q n hn (Int.emod_self) (least_all h2 hn h hI) (.inl rfl)
end
end Q
namespace Q
open PySem PySem.Spec PyProof.Rows L2
open Z
section
variable {P : Program} {w : World} {K : PySem.W.Frag} {mg : Str → Option Value} {base : Heap}
theorem ok_law_cell_at {f : Addr} {fd : FuncData} (F : Fun K "_law_cell_at" "_law_cell_at" s_law_cell_at f fd) (B : Bi mg) : FnOk P w K mg base CX0 1 f fd ["_law_script", "_law_k"] (Z.spCellAt K) := by
  refine F.ok sc_law_cell_at (fun vs H Q E h => ?_) (fun cdv A outer s H vs Q E hr h => ?_)
  · obtain ⟨a, ns, k, rfl, hS, hk, q⟩ := h
    rfl
  · obtain ⟨a, ns, k, rfl, hS, hk, q⟩ := h
    refine ⟨_, (pss_cons (ps_if (pt_cmpR op_lt (pv 1) (pe_callB call_len_seq (by rfl) B.n_len (by decide +kernel) (pa_cons (pv 0) pa_nil)) (nomark _)) (pss_one (ps_ret (pe_ix ix_list (pv 0) (pv 1) (fun _ _ => rfl)))) pss_nil)
      (pss_one (ps_ret pe_int))), ?_⟩
    walk_at "r"
    refine ⟨_, _, rfl, .inl hS, ?_⟩
    walk_at "r"
    refine ite3 (fun h => ?_) (fun h => ?_)
    · walk_at "r"
      refine ⟨_, _, _, _, rfl, rfl, hS, int_at hk h, ?_⟩
      exact q _ rfl
    · walk_at "r"
      exact q _ (cell_out h).symm
end
end Q
namespace Q
open PySem PySem.Spec PyProof.Rows L2
open Z
section
variable {P : Program} {w : World} {K : PySem.W.Frag} {mg : Str → Option Value} {base : Heap}
theorem ok_law_whole {f : Addr} {fd : FuncData} (F : Fun K "_law_whole" "_law_whole" s_law_whole f fd) (B : Bi mg) : FnOk P w K mg base CX0 1 f fd ["_law_found"] (Z.spWhole) := by
  refine F.ok sc_law_whole (fun vs H Q E h => ?_) (fun cdv A outer s H vs Q E hr h => ?_)
  · obtain ⟨v, rfl, hf, q⟩ := h
    rfl
  · obtain ⟨v, rfl, hf, q⟩ := h
    refine ⟨_, (pss_one (ps_ret (pe_and (pe_callB call_isi (by rfl) B.n_isinstance (by decide +kernel) (pa_cons (pv 0) (pa_cons (pe_bltn (v := .ty "int") (by rfl) B.n_int (by decide +kernel) rfl) pa_nil))) (pe_one (pe_not (pe_callB call_isi (by rfl) B.n_isinstance (by decide +kernel) (pa_cons (pv 0) (pa_cons (pe_bltn (v := .ty "bool") (by rfl) B.n_bool (by decide +kernel) rfl) pa_nil)))))))), ?_⟩
    walk_at "r"
    refine ⟨_, _, _, _, _, rfl, .ty _, tyx_flat hf, kit_int hf, ?_⟩
    refine ⟨_, rfl, ite2 (fun h => ?_) (fun h => ?_)⟩
    · walk_at "r"
      refine ⟨_, _, _, _, _, rfl, .ty _, tyx_flat hf, kit_bool hf, ?_⟩
      refine ⟨_, rfl, ?_⟩
      have e : isI v = !isB v := by rw [← isI_eq v, if_pos h]
      rw [e] at q
      exact q
    · have e : isI v = false := by rw [← isI_eq v, if_neg h]
      rw [e] at q
      exact q
end
end Q
namespace Q
open PySem PySem.Spec PyProof.Rows L2
open Z
section
variable {P : Program} {w : World} {K : PySem.W.Frag} {mg : Str → Option Value} {base : Heap}
theorem ok_law_number {f : Addr} {fd : FuncData} (F : Fun K "_law_number" "_law_number" s_law_number f fd) (B : Bi mg) (D_law_cell_at : Z.Df P w K mg base "_law_cell_at" ["_law_script", "_law_k"] 1 (Z.spCellAt K)) : FnOk P w K mg base CX0 2 f fd ["_law_script"] (Z.spNumber K) := by
  refine F.ok sc_law_number (fun vs H Q E h => ?_) (fun cdv A outer s H vs Q E hr h => ?_)
  · obtain ⟨a, ns, rfl, hS, q⟩ := h
    rfl
  · obtain ⟨a, ns, rfl, hS, q⟩ := h
    refine ⟨_, (pss_cons (ps_set (i := 1) sc_law_number.nd rfl (Or.inl rfl) (pe_df D_law_cell_at (hr.mono (by decide)) (by rfl) (pa_cons (pv 0) (pa_cons pe_int pa_nil))))
      (pss_cons (ps_set (i := 2) sc_law_number.nd rfl (Or.inl rfl) (pe_df D_law_cell_at (hr.mono (by decide)) (by rfl) (pa_cons (pv 0) (pa_cons pe_int pa_nil))))
      (pss_cons (ps_if (pt_cmpR op_eq (pe_op op_mod (pv 1) pe_int) pe_int (nomark _)) (pss_one (ps_ret (pe_op op_add pe_int (pe_op op_mod (pv 2) pe_int)))) pss_nil)
      (pss_cons (ps_if (pt_cmpR op_eq (pe_op op_mod (pv 1) pe_int) pe_int (nomark _)) (pss_one (ps_ret (pe_op op_mulW (pe_op op_add pe_int (pe_op op_mod (pe_op op_fdivW (pv 1) pe_int) pe_int)) (pe_op op_add pe_int (pe_op op_mod (pv 2) pe_int))))) pss_nil)
      (pss_one (ps_ret (pe_op op_mulW (pe_op op_add pe_int (pe_op op_mod (pv 2) pe_int)) (pe_op op_add pe_int (pe_op op_mod (pv 2) pe_int))))))))), ?_⟩
    walk_at "r"
    refine ⟨a, ns, 0, rfl, hS, by omega, fun c _ => ?_⟩
    walk_at "r"
    refine ⟨a, ns, 1, rfl, hS, by omega, fun m _ => ?_⟩
    walk_at "r"
    refine iteI (fun h => ?_) (fun h => ?_)
    · walk_at "r"
      exact q _ (by omega) (by omega)
    walk_at "r"
    refine iteI (fun h => ?_) (fun h => ?_)
    · walk_at "r"
      refine ⟨mul_ok (sml (by omega) (by omega)) (sml (by omega) (by omega)), ?_⟩
      have h3 := prod_in (x := 1 + m % 999) (y := 2 + c / 3 % 999) (by omega) (by omega) (by omega) (by omega)
      exact q _ h3.1 h3.2
    · walk_at "r"
      refine ⟨mul_ok (sml (by omega) (by omega)) (sml (by omega) (by omega)), ?_⟩
      have h3 := prod_in (x := 2 + m % 999) (y := 2 + m % 999) (by omega) (by omega) (by omega) (by omega)
      exact q _ h3.1 h3.2
end
end Q
namespace Q
open PySem PySem.Spec PyProof.Rows L2
open Z
section
variable {P : Program} {w : World} {K : PySem.W.Frag} {mg : Str → Option Value} {base : Heap}
theorem ok_law {f : Addr} {fd : FuncData} (F : Fun K "law" "law" s_law f fd) (B : Bi mg) (D_law_number : Z.Df P w K mg base "_law_number" ["_law_script"] 2 (Z.spNumber K)) (D_law_whole : Z.Df P w K mg base "_law_whole" ["_law_found"] 1 (Z.spWhole)) (D_least_divisor : Z.Df P w K mg base "least_divisor" ["number"] 1 (Z.spLeast)) : FnOk P w K mg base CX0 3 f fd ["_law_script"] (Z.spLaw K) := by
  refine F.ok sc_law (fun vs H Q E h => ?_) (fun cdv A outer s H vs Q E hr h => ?_)
  · obtain ⟨a, ns, rfl, hS, hl, q⟩ := h
    rfl
  · obtain ⟨a, ns, rfl, hS, hl, q⟩ := h
    refine ⟨_, (pss_cons (ps_set (i := 1) sc_law.nd rfl (Or.inl rfl) (pe_df D_law_number (hr.mono (by decide)) (by rfl) (pa_cons (pv 0) pa_nil)))
      (pss_cons (ps_set (i := 2) sc_law.nd rfl (Or.inl rfl) (pe_df D_least_divisor (hr.mono (by decide)) (by rfl) (pa_cons (pv 1) pa_nil)))
      (pss_cons (ps_if (PW.pt (pw_or (pt_not (pt_val (pe_df D_law_whole (hr.mono (by decide)) (by rfl) (pa_cons (pv 2) pa_nil)))) (pw_or (pt_cmpR op_lt (pv 2) pe_int (nomark _)) (pw_or1 (pt_cmpR op_ne (pe_op op_mod (pv 1) (pv 2)) pe_int (nomark _)))))) (pss_one (ps_ret pe_bl)) pss_nil)
      (pss_cons (ps_set (i := 3) sc_law.nd rfl (Or.inl rfl) pe_int)
      (pss_cons (ps_while PassesOwn.never (PW.pt (pw_and (pt_cmpR op_lt (pv 3) (pv 2) (nomark _)) (pw_and1 (pt_cmpR op_le (pe_op op_mulW (pv 3) (pv 3)) (pv 1) (nomark _))))) (pss_cons (ps_if (pt_cmpR op_eq (pe_op op_mod (pv 1) (pv 3)) pe_int (nomark _)) (pss_one (ps_ret pe_bl)) pss_nil)
      (pss_one (ps_set (i := 3) sc_law.nd rfl (Or.inl rfl) (pe_op op_add (pv 3) pe_int)))))
      (pss_one (ps_ret (pe_or (pe_cmpR op_eq (pv 2) (pv 1) (nomark _)) (pe_one (pe_cmpR op_le (pe_op op_mulW (pv 2) (pv 2)) (pv 1) (nomark _))))))))))), ?_⟩
    walk_at "r"
    refine ⟨a, ns, rfl, hS, fun n hn1 hn2 => ?_⟩
    walk_at "r"
    intro d hd1 hd2 hd3 hd4
    have hdn : d ≤ n := by
      rcases hd4 with e | e
      · omega
      · have := sq_lt hd1 e
        omega
    walk_at "r"
    refine iteN (by omega) ?_
    walk_at "r"
    refine iteIn (fun h => absurd hd2 h) (fun _ => ?_)
    walk_at "r"
    refine ⟨InvSeek a n d H, ⟨_, 2, rfl, rfl, rfl, by omega, by omega⟩, fun m σ H' hW => ?_⟩
    obtain ⟨e, rfl, rfl, rfl, he1, he2⟩ := hW
    walk_at "r"
    have last : (fun H2 => tOrV (tOp rEq (tVar 2) (tVar 1)) (tOp (rI0 fun i j => V.bl (decide (i ≤ j))) (tOp (rI CMulW fun i j => V.int (i * j)) (tVar 2) (tVar 2)) (tVar 1)) [some (.ref a), some (.int n), some (.int d), some (.int e)] H2 Q) H' := by
      walk_at "r"
      rw [decVI]
      refine ite3 (fun h => q _) (fun h => ?_)
      walk_at "r"
      refine ⟨mul_ok (sml (by omega) (by omega)) (sml (by omega) (by omega)), ?_⟩
      walk_at "r"
      rcases hd4 with e0 | e0
      · exact absurd e0 h
      · show Q (V.bl (decide (d * d ≤ n))) H'
        rw [decide_eq_true e0]
        exact q _
    refine ite3 (fun h => ?_) (fun h => ?_)
    · walk_at "r"
      refine ⟨mul_ok (sml (by omega) (by omega)) (sml (by omega) (by omega)), ?_⟩
      walk_at "r"
      refine ite3 (fun h2 => ⟨fun σ2 H2 => ∃ m', m' < (n - e).toNat ∧ InvSeek a n d H' m' σ2 H2, fun _ _ z => z, ?_⟩) (fun h2 => ?_)
      · have h3 := sq_lt he1 h2
        walk_at "r"
        refine iteI (fun hz => absurd hz (hd3 e he1 h)) (fun _ => ?_)
        walk_at "r"
        exact ⟨(n - (e + 1)).toNat, by omega, e + 1, rfl, rfl, rfl, by omega, by omega⟩
      · exact last
    · exact last
end
end Q
namespace Q
open PySem PySem.Spec PyProof.Rows L2
open Z
theorem all_mk {l : PySem.W.OpenLaw} {w : World} {K : PySem.W.Frag} {h : Heap} {mg : Str → Option Value} {fa : Addr} (X : K.In h) (G : h.Ns mainGlobals mg) (hfa : mg "law" = some (.ref fa))
    {od0 an0 : Option Addr} {sl0 : Array (Option Value)} {oc0 kV0 dc0 pm0 cd0 ct0 : Value} {f0 : Addr}
    {od1 an1 : Option Addr} {sl1 : Array (Option Value)} {oc1 kV1 dc1 pm1 cd1 ct1 : Value} {f1 : Addr}
    {od2 an2 : Option Addr} {sl2 : Array (Option Value)} {oc2 kV2 dc2 pm2 cd2 ct2 : Value} {f2 : Addr}
    {od3 an3 : Option Addr} {sl3 : Array (Option Value)} {oc3 kV3 dc3 pm3 cd3 ct3 : Value} {f3 : Addr}
    {od4 an4 : Option Addr} {sl4 : Array (Option Value)} {oc4 kV4 dc4 pm4 cd4 ct4 : Value} {f4 : Addr}
    (a0 : PySem.W.nsIn K mainGlobals "least_divisor" = some (some (.ref f0))) (l0 : K.lookup f0 = some ⟨oc0, od0, .func (PySem.W.fnOf "least_divisor" "least_divisor" (defArgs s_least_divisor) (defBody s_least_divisor) (defScope s_least_divisor) .none kV0 dc0 pm0 an0 cd0 ct0), sl0⟩) (c0 : PySem.W.codeIn K cd0 "least_divisor" = true) (k0 : PySem.W.keepIn K (.ref f0) = true)
    (a1 : PySem.W.nsIn K mainGlobals "_law_cell_at" = some (some (.ref f1))) (l1 : K.lookup f1 = some ⟨oc1, od1, .func (PySem.W.fnOf "_law_cell_at" "_law_cell_at" (defArgs s_law_cell_at) (defBody s_law_cell_at) (defScope s_law_cell_at) .none kV1 dc1 pm1 an1 cd1 ct1), sl1⟩) (c1 : PySem.W.codeIn K cd1 "_law_cell_at" = true) (k1 : PySem.W.keepIn K (.ref f1) = true)
    (a2 : PySem.W.nsIn K mainGlobals "_law_whole" = some (some (.ref f2))) (l2 : K.lookup f2 = some ⟨oc2, od2, .func (PySem.W.fnOf "_law_whole" "_law_whole" (defArgs s_law_whole) (defBody s_law_whole) (defScope s_law_whole) .none kV2 dc2 pm2 an2 cd2 ct2), sl2⟩) (c2 : PySem.W.codeIn K cd2 "_law_whole" = true) (k2 : PySem.W.keepIn K (.ref f2) = true)
    (a3 : PySem.W.nsIn K mainGlobals "_law_number" = some (some (.ref f3))) (l3 : K.lookup f3 = some ⟨oc3, od3, .func (PySem.W.fnOf "_law_number" "_law_number" (defArgs s_law_number) (defBody s_law_number) (defScope s_law_number) .none kV3 dc3 pm3 an3 cd3 ct3), sl3⟩) (c3 : PySem.W.codeIn K cd3 "_law_number" = true) (k3 : PySem.W.keepIn K (.ref f3) = true)
    (a4 : PySem.W.nsIn K mainGlobals "law" = some (some (.ref f4))) (l4 : K.lookup f4 = some ⟨oc4, od4, .func (PySem.W.fnOf "law" "law" (defArgs s_law) (defBody s_law) (defScope s_law) .none kV4 dc4 pm4 an4 cd4 ct4), sl4⟩) (c4 : PySem.W.codeIn K cd4 "law" = true) (k4 : PySem.W.keepIn K (.ref f4) = true)
    (z0 : PySem.W.nsIn K mainGlobals "bool" = some none)
    (z1 : PySem.W.nsIn K mainGlobals "int" = some none)
    (z2 : PySem.W.nsIn K mainGlobals "isinstance" = some none)
    (z3 : PySem.W.nsIn K mainGlobals "len" = some none) :
    ∃ fd : FuncData, (∀ (s : Shared) (v : Value), BindsTo s fd ⟨[v], []⟩ [("_law_script", v)]) ∧ ∀ base : Heap, K.In base → base.Ns mainGlobals mg → FnOk l.prog w K mg base CX0 3 fa fd ["_law_script"] (Z.spLaw K) := by
  have e := hfa.symm.trans (PySem.W.mg_of X G a4)
  cases e
  have B : Bi mg := ⟨PySem.W.mg_none_of X G z0, PySem.W.mg_none_of X G z1, PySem.W.mg_none_of X G z2, PySem.W.mg_none_of X G z3⟩
  have F0 := fun_mk (st := s_least_divisor) l0 c0 k0
  have b0 := F0.binds (ps := ["number"]) fun _ _ _ _ _ _ us hl => match us, hl with | [_], _ => rfl
  have F1 := fun_mk (st := s_law_cell_at) l1 c1 k1
  have b1 := F1.binds (ps := ["_law_script", "_law_k"]) fun _ _ _ _ _ _ us hl => match us, hl with | [_, _], _ => rfl
  have F2 := fun_mk (st := s_law_whole) l2 c2 k2
  have b2 := F2.binds (ps := ["_law_found"]) fun _ _ _ _ _ _ us hl => match us, hl with | [_], _ => rfl
  have F3 := fun_mk (st := s_law_number) l3 c3 k3
  have b3 := F3.binds (ps := ["_law_script"]) fun _ _ _ _ _ _ us hl => match us, hl with | [_], _ => rfl
  have F4 := fun_mk (st := s_law) l4 c4 k4
  have b4 := F4.binds (ps := ["_law_script"]) fun _ _ _ _ _ _ us hl => match us, hl with | [_], _ => rfl
  refine ⟨PySem.W.fnOf "law" "law" (defArgs s_law) (defBody s_law) (defScope s_law) .none kV4 dc4 pm4 an4 cd4 ct4, fun s v => .of_eq rfl, fun base _ _ => ?_⟩
  have G_least_divisor := ok_least_divisor (P := l.prog) (w := w) (base := base) F0 B
  have D_least_divisor := df_of F0 (PySem.W.mg_of X G a0) b0 G_least_divisor
  have G_law_cell_at := ok_law_cell_at (P := l.prog) (w := w) (base := base) F1 B
  have D_law_cell_at := df_of F1 (PySem.W.mg_of X G a1) b1 G_law_cell_at
  have G_law_whole := ok_law_whole (P := l.prog) (w := w) (base := base) F2 B
  have D_law_whole := df_of F2 (PySem.W.mg_of X G a2) b2 G_law_whole
  have G_law_number := ok_law_number (P := l.prog) (w := w) (base := base) F3 B D_law_cell_at
  have D_law_number := df_of F3 (PySem.W.mg_of X G a3) b3 G_law_number
  have G_law := ok_law (P := l.prog) (w := w) (base := base) F4 B D_law_number D_law_whole D_least_divisor
  exact G_law
end Q
open PySem PySem.W PyProof.Rows in
set_option maxRecDepth 100000 in
set_option maxHeartbeats 0 in
theorem PySem.Challenge.cw_primeslip_k02_least_divisors_holds : PySem.Challenge.rw_primeslip_k02_least_divisors.Holds := by
  w_on; o_law; k_head; (case hw => w_witness2)
  k_fill
  refine L2.walk_of (l := PySem.Challenge.rw_primeslip_k02_least_divisors) (n := 63) (k := 3) (x := "_law_script") (CX := fun _ => L2.CX0) (sp := fun w => Z.spLaw _) rfl (by decide) rfl ⟨rfl, by decide, by decide⟩ (fun w h Y => PySem.W.kIn_of Y) ?F (fun _ _ a ns hl _ hS => ⟨a, ns, rfl, hS, hl, fun _ => rfl⟩) (fun _ _ _ _ _ h => h)
  case F =>
    intro w mg fa h KX G hmg
    refine' Q.all_mk KX G hmg ?a0 ?l0 ?c0 ?k0 ?a1 ?l1 ?c1 ?k1 ?a2 ?l2 ?c2 ?k2 ?a3 ?l3 ?c3 ?k3 ?a4 ?l4 ?c4 ?k4 ?z0 ?z1 ?z2 ?z3
    (case a0 => k_is)
    (case l0 => k_is)
    (case c0 => k_is)
    (case k0 => k_is)
    (case a1 => k_is)
    (case l1 => k_is)
    (case c1 => k_is)
    (case k1 => k_is)
    (case a2 => k_is)
    (case l2 => k_is)
    (case c2 => k_is)
    (case k2 => k_is)
    (case a3 => k_is)
    (case l3 => k_is)
    (case c3 => k_is)
    (case k3 => k_is)
    (case a4 => k_is)
    (case l4 => k_is)
    (case c4 => k_is)
    (case k4 => k_is)
    (case z0 => k_is)
    (case z1 => k_is)
    (case z2 => k_is)
    (case z3 => k_is)
