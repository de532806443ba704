/-
  A call that changes nothing, taken first in a region that draws its order.
-/
import Derived.Orders
import Derived.Deep.RegionLaw
namespace Go.Proofs.YtpoofjnfaijjjaaGreatDoor.Do
section
variable {P : Program} {ops : Array Oper} {Q : Exit → Act → World → Prop} {md : Region.Mode}
theorem call_now {i : Nat} {oi : Oper} {v : Value} (hi : ops[i]? = some oi) (hg : oi.guard = none) {F : FuncId} {xs : List Operand} {ts : Array TypeId}
    (ho : oi.op = .call { callee := .value (.func F), args := xs.toArray, argTypes := ts }) {vs : List Value} (hen : ∀ args w, (callFunc F args).run P w = .ok (.enter F args) w)
    (hc : ∀ W, Calls P F vs.toArray W fun e w' => e = .returned v ∧ w' = W) {K : Act → World → Prop} {a : Act} {w : World} (hx : xs.map a.eval = vs) (h : K (a.put oi.dst v) w) : wpOp P ops Q i K a w := by
  have hw : Region.wanted oi (yielded ops a.tmps) = true := by simp [Region.wanted, hg]
  unfold wpOp
  simp only [hi, hw, if_true]
  refine Or.inl ?_
  have he : Act.eval a (.func F) = .func (.func F) #[] #[] := rfl
  unfold Oper.wp execOp
  simp only [ho, resolve, he, Deferred.ofValue, invoke, Sem.run_bind, Sem.run_pure, Result.andThen_ok, List.map_toArray, hx, hen, Array.append_empty]
  rw [Array.empty_append]
  refine Calls.mono (R := fun e w' => e = .returned v ∧ w' = w) (hc w) ?_
  rintro e w' ⟨rfl, rfl⟩
  exact h
def valueOf (o : Oper) (v : Value) : Oper := { o with op := .assign (.const v) }
def handed (o : Oper) (F : FuncId) (xs : List Operand) : Oper := { o with dst := none, op := .makeFunc (.func F) #[] xs.toArray }
theorem valueOf_yields {o : Oper} (hg : o.guard = none) (v : Value) (a : Act) : Yields P ops (valueOf o v) v a := Or.inl ⟨by simp [Region.wanted, valueOf, hg], fun w => rfl⟩
theorem handed_yields {o : Oper} (hg : o.guard = none) {F : FuncId} {xs : List Operand} {vs : List Value} {a : Act} (h : xs.map a.eval = vs) : Yields P ops (handed o F xs) (.func (.func F) #[] vs.toArray) a := by
  refine Or.inl ⟨by simp [Region.wanted, handed, hg], fun w => ?_⟩
  unfold execOp
  simp [handed, h, Instr.makeFunc]
theorem handed_inv {o : Oper} (hg : o.guard = none) {F : FuncId} {xs : List Operand} {vs : List Value} {a : Act} (w : World) (h : Yields P ops (handed o F xs) (.func (.func F) #[] vs.toArray) a) : xs.map a.eval = vs := by
  rcases h with ⟨_, h⟩ | ⟨h, _⟩
  · have := h w
    unfold execOp at this
    simp [handed, Instr.makeFunc] at this
    exact this
  · simp [Region.wanted, handed, hg] at h
theorem first_call {i : Nat} {oi : Oper} {v : Value} (hi : ops[i]? = some oi) (hsel : ∀ (j : Nat) (o : Oper) cs b, ops[j]? = some o → o.op ≠ .select cs b) (hQ : ∀ c a w, Q (.panic c) (a.put oi.dst v) w → Q (.panic c) a w)
    (hg : oi.guard = none) {F : FuncId} {xs : List Operand} {ts : Array TypeId} (ho : oi.op = .call { callee := .value (.func F), args := xs.toArray, argTypes := ts }) {vs : List Value}
    (hen : ∀ args w, (callFunc F args).run P w = .ok (.enter F args) w) (hc : ∀ W, Calls P F vs.toArray W fun e w' => e = .returned v ∧ w' = W) :
    ∀ (fuel : Nat) (listed : Array Bool) (a : Act) (w : World),
      (∀ j oj, ops[j]? = some oj → j ≠ i → listed.getD j true = false → (∀ e ∈ oj.after, Region.binds md e = true → e.on ≠ i) → oi.apart ops oj = true) →
      i ∈ Region.ready md ops listed → xs.map a.eval = vs →
      wpAny P md ops Q fuel (listed.setIfInBounds i true) (a.put oi.dst v) w → wpAny P md ops Q (fuel + 1) listed a w := by
  intro fuel
  induction fuel with
  | zero =>
    intro listed a w _ hr hx H
    refine ⟨fun h => (by rw [h] at hr; cases hr), fun j hj => ?_⟩
    rcases Decidable.em (j = i) with rfl | hji
    · exact call_now hi hg ho hen hc hx H
    · have h1 := ready_mono hj hji
      rw [H.1] at h1
      cases h1
  | succ fuel ih =>
    intro listed a w hfree hr hx H
    refine ⟨fun h => (by rw [h] at hr; cases hr), fun j hj => ?_⟩
    rcases Decidable.em (j = i) with rfl | hji
    · exact call_now hi hg ho hen hc hx H
    · obtain ⟨hjun, oj, hoj, hall⟩ := mem_ready.1 hj
      have hun := (mem_ready.1 hr).1
      have hnot : ∀ e ∈ oj.after, Region.binds md e = true → e.on ≠ i := by
        intro e he hb e1
        have h1 := hall e he hb
        rw [e1] at h1
        by_cases hlt : i < listed.size
        · simp [hlt] at hun h1
          rw [hun] at h1
          cases h1
        · simp [Array.getElem?_eq_none (Nat.le_of_not_lt hlt)] at h1
      have hap := hfree j oj hoj hji hjun hnot
      obtain ⟨p1, p2, p3⟩ := Oper.apart_spec hap
      have hl : ∀ d, d ∈ (handed oi F xs).looksAt ops → d ∈ oi.looksAt ops := by
        intro d hd
        simpa [Oper.looksAt, handed, ho, hg, Op.operands, Call.operands] using hd
      have ha1 : (valueOf oi v).apart ops oj = true := by
        unfold Oper.apart valueOf
        simp only [Bool.and_eq_true]
        constructor
        · cases hd : oi.dst with
          | none => rfl
          | some d => simp [p1 d hd, p2 d hd]
        · cases hd : oj.dst with
          | none => rfl
          | some d => simp [Oper.looksAt, Op.operands, hg]
      have ha2 : (handed oi F xs).apart ops oj = true := by
        unfold Oper.apart
        rw [Bool.and_eq_true]
        constructor
        · rfl
        · cases hd : oj.dst with
          | none => rfl
          | some d =>
            have h0 : ¬ d ∈ (handed oi F xs).looksAt ops := fun h => p3 d hd (hl d h)
            simpa using h0
      have h1 := H.2 j (ready_mono hj hji)
      have h2 := wpOp_put hoj ha1 (by intro cs b e; cases e) (fun cs b => hsel j oj cs b hoj) hQ (valueOf_yields hg v a) h1
      have h3 := wpOp_put (a := a) hoj ha2 (by intro cs b e; cases e) (fun cs b => hsel j oj cs b hoj) (fun _ _ _ h => h) (handed_yields (P := P) (ops := ops) hg (F := F) hx) h2
      refine wpOp_mono (fun a' w' h4 => ih (listed.setIfInBounds j true) a' w' ?_ (ready_mono hr (Ne.symm hji)) (handed_inv hg w' h4.1) ?_) h3
      · intro k ok hk hki hkn hno
        refine hfree k ok hk hki ?_ hno
        by_cases hjk : j = k
        · rw [← hjk]; exact hjun
        · rw [getD_set_ne true hjk] at hkn; exact hkn
      · rw [Array.setIfInBounds_comm _ _ hji]
        exact h4.2.2
theorem take_call {i : Nat} {oi : Oper} {v : Value} {fuel : Nat} {listed : Array Bool} {a : Act} {w : World} (hi : ops[i]? = some oi)
    (hs : Region.noSelect ops = true) (hf : Region.free md ops listed i = true) (hr : (Region.ready md ops listed).contains i = true) (hQ : ∀ c a w, Q (.panic c) (a.put oi.dst v) w → Q (.panic c) a w)
    (hg : oi.guard = none) (F : FuncId) (xs : List Operand) (ts : Array TypeId) (ho : oi.op = .call { callee := .value (.func F), args := xs.toArray, argTypes := ts }) (vs : List Value) (hx : xs.map a.eval = vs)
    (hen : ∀ args w, (callFunc F args).run P w = .ok (.enter F args) w) (hc : ∀ W, Calls P F vs.toArray W fun e w' => e = .returned v ∧ w' = W)
    (h : wpAny P md ops Q fuel (listed.setIfInBounds i true) (a.put oi.dst v) w) : wpAny P md ops Q (fuel + 1) listed a w :=
  first_call hi (Region.noSelect_spec hs) hQ hg ho hen hc fuel listed a w (Region.free_spec hi hf) (by simpa using hr) hx h
end
end Go.Proofs.YtpoofjnfaijjjaaGreatDoor.Do
