/-
  A range over a function whose iterator makes memory of its own and hands it out: what is known of an element holds of it in the world in which it is handed ('R'), and what is known of all of them behind the loop names that world ('S'). Nothing of the program is named.
-/
import Derived.RangeFuncNested
import Derived.RangeFuncCalls
import Derived.Test.YtliileemelcllaaBase
namespace Go.Proofs.Ytliileemelcllaa
open Go.RowKit
set_option linter.unusedVariables false

section
variable {F : Fence} {n m : Nat} {P : Program}

/-- how a round's body may end: what it leaves at l is a busy record; R is told of the world with the record shut -/
def EndsIn (B l : Nat) (r : Loop) (R : Ending → World → Prop) (V : World) : Exit → Act → World → Prop
  | .normal, _, W => KeepsFrom B V W ∧ R (.returned (.bool true)) (W.putObj l (.loop { r with state := .ready, pending := none }))
  | .ret, _, W => KeepsFrom B V W ∧ R (.returned (.bool false)) (W.putObj l (.loop { r with state := .done, pending := some .ret }))
  | .exit id, _, W => KeepsFrom B V W ∧ R (.returned (.bool false)) (W.putObj l (.loop { r with state := .done, pending := some (.exit id) }))
  | .goto t, _, W => KeepsFrom B V W ∧ R (.returned (.bool false)) (W.putObj l (.loop { r with state := .done, pending := some (.goto t) }))
  | .panic _, _, _ => False
  | .outgrown, _, _ => False

/-- one round -/
theorem yieldAt_of {B l : Nat} {r : Loop} {args : Array Value} {W : World} {R : Ending → World → Prop} (hB : B ≤ l) (hf : F.fn r.fn) (hl : W.heap[l]? = some (.loop r)) (hr : r.state = .ready) (hs : args.size = r.params.size) (A : Act → World → Prop)
    (ha : ∀ K : Act → World → Prop, (∀ a V, KeepsFrom B W V → A a V → K a V) → r.assign.wpIn (F.inRound l) m P (Exit.then K fun _ _ _ => False) { tmps := (r.params.zip args).foldl (fun t (p, v) => t.setIfInBounds p v) r.tmps, defers := [] } W)
    (hb : ∀ a V, KeepsFrom B W V → A a V → r.body.wpIn (F.inRound l) m P (EndsIn B l r R (V.putObj l (.loop { r with state := .busy }))) a (V.putObj l (.loop { r with state := .busy }))) : YieldAt F m P l args W R := by
  refine ⟨_, _, _, _, run_yield hl hs, roundIn_of_wpIn hf (ha _ fun a V hk hA => ?_)⟩
  have hV := hk.same l _ hB hl rfl
  refine ⟨_, run_beginRound hV hr, wpIn_mono (hb a V hk hA) ?_⟩
  have hb2 : (V.putObj l (.loop { r with state := .busy })).heap[l]? = some (.loop { r with state := .busy }) := World.putObj_heap_same (Array.getElem?_eq_some_iff.1 hV).1
  have fin : ∀ W2, KeepsFrom B (V.putObj l (.loop { r with state := .busy })) W2 → ∀ j : Option Code, (Instr.endRound l j).run P W2 = .ok (.bool j.isNone) (W2.putObj l (.loop { r with state := if j.isNone then .ready else .done, pending := j })) := fun W2 h j => by
    have := run_endRound (P := P) j (h.same l _ hB hb2 rfl)
    simpa using this
  intro e a2 W2 h
  cases e with
  | normal => exact ⟨_, _, fin W2 h.1 none, h.2⟩
  | ret => exact ⟨_, _, fin W2 h.1 (some .ret), h.2⟩
  | exit id => exact ⟨_, _, fin W2 h.1 (some (.exit id)), h.2⟩
  | goto t => exact ⟨_, _, fin W2 h.1 (some (.goto t)), h.2⟩
  | panic c => exact h.elim
  | outgrown => exact h.elim

/-- what holds in a world holds where more has been laid -/
def Lasts {β : Type} (J : β → World → Prop) : Prop := ∀ s W W', J s W → W.grownBy W' none → J s W'

/-- the iterator's contract -/
def Hands {α : Type} (F : Fence) (n : Nat) (P : Program) (g : Nat) (lb : Array Value) (encs : α → Array Value) (Kp : World → World → Prop) (R : List α → α → World → Prop) (S : List α → World → Prop) (w : World) : Prop :=
  ∀ (l : Nat) (J Jx : List α → World → Prop) (W : World), Below w.heap.size w W → Lasts J → Lasts Jx →
    (∀ pre x V, J pre V → R pre x V → YieldAt F (n - 1) P l (encs x) V fun e V' => (e = .returned (.bool true) ∧ J (pre ++ [x]) V' ∧ Kp V V') ∨ (e = .returned (.bool false) ∧ Jx (pre ++ [x]) V')) →
    J [] W →
    CallsIn F n P g (#[.func (.yield l) #[] #[]] ++ lb) W fun e V => (∃ v, e = .returned v) ∧ ((∃ xs, S xs V ∧ J xs V) ∨ ∃ pre, Jx pre V)

set_option maxRecDepth 100000 in
theorem wpIn_range_hands {α : Type} {g : Operand} {ps : Array Tmp} {assign body : Code} {Q : Exit → Act → World → Prop} {a : Act} {w : World} (hro : F.round = none) (h1 : 1 ≤ n)
    {gf : Nat} {lb : Array Value} (hg : a.eval g = .func (.func gf) #[] lb) (hF : F.fn gf) (eg : ∀ args u, (callFunc gf args).run P u = .ok (.enter gf args) u)
    {encs : α → Array Value} {Kp : World → World → Prop} {R : List α → α → World → Prop} {S : List α → World → Prop} (hseq : Hands F (n - 1) P gf lb encs Kp R S w)
    (hKt : ∀ {X Y Z : World}, Kp X Y → Kp Y Z → Kp X Z) (hKb : ∀ (X : World) (l : Nat) (o o' : Obj), w.heap.size ≤ l → X.heap[l]? = some o → o.isCells = false → o.isWalk = false → Kp X (X.putObj l o')) (hps : ∀ x, (encs x).size = ps.size)
    (I : List α → World → Prop) (Ix : Code → List α → World → Prop) (A : List α → α → Act → World → Prop)
    (hI : OwnFrom w.heap.size I) (hIx : ∀ c, OwnFrom w.heap.size (Ix c)) (hS : OwnFrom w.heap.size S) (hA : ∀ pre x a', OwnFrom w.heap.size (fun (_ : Unit) V => A pre x a' V)) (h0 : I [] w)
    (hassign : ∀ (l : Nat) (pre : List α) (x : α) (W : World) (K : Act → World → Prop), I pre W → R pre x W → (∀ a' V, KeepsFrom w.heap.size W V → Kp W V → A pre x a' V → K a' V) →
      assign.wpIn (F.inRound l) (n - 1 - 1) P (Exit.then K fun _ _ _ => False) { tmps := (ps.zip (encs x)).foldl (fun t (p, v) => t.setIfInBounds p v) a.tmps, defers := [] } W)
    (hbody : ∀ (l : Nat) (pre : List α) (x : α) (a' : Act) (W : World), w.heap.size ≤ l → A pre x a' W → body.wpIn (F.inRound l) (n - 1 - 1) P (ownPostG w.heap.size Kp I Ix (pre ++ [x]) W) a' W)
    (hdone : ∀ (D : Nat) (xs : List α) (W : World), w.heap.size ≤ D → S xs W → I xs W → W.heap[D]? = some (.deferred (some [])) → Q .normal { a with defers := { target := .collected D, args := #[] } :: a.defers } W)
    (hstop : ∀ (D : Nat) (c : Code) (pre : List α) (W : World), w.heap.size ≤ D → Ix c pre W → W.heap[D]? = some (.deferred (some [])) → c.wpIn F n P Q { a with defers := { target := .collected D, args := #[] } :: a.defers } W) :
    (Code.rangeFunc g ps assign body).wpIn F n P Q a w := by
  refine wpIn_rangeFunc fun fn hfn => ?_
  rw [hro]
  -- D: the block for deferred calls, L: the record
  obtain ⟨D, hD⟩ : ∃ D, D = w.heap.size := ⟨_, rfl⟩
  obtain ⟨r, hr⟩ : ∃ r : Loop, r = { state := .ready, pending := none, fn := fn, tmps := a.tmps, params := ps, assign := assign, body := body, defers := D } := ⟨_, rfl⟩
  obtain ⟨W1, hW1⟩ : ∃ W1, W1 = (w.alloc (.deferred (some []))).alloc (.loop r) := ⟨_, rfl⟩
  have hb1 : Below w.heap.size w W1 := by rw [hW1]; exact ((Below.refl _ w).alloc (Nat.le_refl _) _).alloc (by simp) _
  have hL : W1.heap[D + 1]? = some (.loop r) := by
    rw [hW1, hD]; have := World.alloc_heap_new (w.alloc (.deferred (some []))) (.loop r); rwa [World.size_alloc] at this
  have hK : W1.heap[D]? = some (.deferred (some [])) := by rw [hW1, hD]; exact (Below.heap_alloc _ _ _ (by simp)).trans (World.alloc_heap_new w _)
  have hI1 : I [] W1 := by rw [hW1]; exact hI.alloc _ (hI.alloc _ h0)
  refine ⟨D + 1, [{ target := .collected D, args := #[] }], W1, { target := .fn (.func gf) lb, args := #[.func (.yield (D + 1)) #[] #[]] }, W1, gf, #[.func (.yield (D + 1)) #[] #[]] ++ lb, W1, ?_, ?_, ?_, ?_, fun _ => h1, ?_⟩
  · rw [hW1, hr, hD]; exact run_enterLoop_outer _ _ _ _ _
  · simp only [resolve, hg]; simp [go_sem]
  · intro f' hf'; simp [Target.leads] at hf'; subst hf'; exact hF
  · simp [invoke, go_sem, eg]
  -- the two blocks stay through all but the rounds' own book-keeping
  have lay : ∀ {X Y : World} {k : Nat} {o : Obj}, X.heap[k]? = some o → X.grownBy Y none → Y.heap[k]? = some o := fun h hg => (hg.block _ (Array.getElem?_eq_some_iff.1 h).1 (by simp)).trans h
  refine (hseq (D + 1) (fun pre X => I pre X ∧ X.heap[D + 1]? = some (.loop r) ∧ X.heap[D]? = some (.deferred (some [])))
    (fun pre X => ∃ c, Ix c pre X ∧ X.heap[D + 1]? = some (.loop { r with state := .done, pending := some c }) ∧ X.heap[D]? = some (.deferred (some []))) W1 hb1
    (fun s X Y h hg => ⟨hI s X Y none h.1 hg (fun _ e => by cases e), lay h.2.1 hg, lay h.2.2 hg⟩)
    (fun s X Y h hg => by obtain ⟨c, h, h2, h3⟩ := h; exact ⟨c, hIx c s X Y none h hg (fun _ e => by cases e), lay h2 hg, lay h3 hg⟩) ?_ ⟨hI1, hL, hK⟩).mono ?_
  · rintro pre x V ⟨hi, hl, hk⟩ hx
    refine yieldAt_of (B := w.heap.size) (A := fun a' X => A pre x a' X ∧ Kp V X) (by omega) (by rw [hr]; exact hfn) hl (by rw [hr]) (by rw [hr]; exact hps x) ?_ ?_
    · intro K hKK
      rw [hr]
      exact hassign _ pre x V K hi hx fun a' X h2 h3 h4 => hKK a' X h2 ⟨h4, h3⟩
    · rintro a' X hkf ⟨hax, hkx⟩
      have hl2 := hkf.same _ _ (by omega) hl rfl
      have hk2 := hkf.same _ _ (by omega) hk rfl
      have hlt : D + 1 < X.heap.size := (Array.getElem?_eq_some_iff.1 hl2).1
      have hl3 : (X.putObj (D + 1) (.loop { r with state := .busy })).heap[D + 1]? = some (.loop { r with state := .busy }) := World.putObj_heap_same hlt
      have hk3 : (X.putObj (D + 1) (.loop { r with state := .busy })).heap[D]? = some (.deferred (some [])) := (World.putObj_heap_other (by omega)).trans hk2
      have hkp : Kp V (X.putObj (D + 1) (.loop { r with state := .busy })) := hKt hkx (hKb _ _ _ _ (by omega) hl2 rfl rfl)
      have hb' : ∀ (l : Nat) (pre : List α) (x : α) (a' : Act) (W : World), w.heap.size ≤ l → A pre x a' W → r.body.wpIn (F.inRound l) (n - 1 - 1) P (ownPostG w.heap.size Kp I Ix (pre ++ [x]) W) a' W := by rw [hr]; exact hbody
      refine wpIn_mono (hb' (D + 1) pre x a' _ (by omega) ((hA pre x a').putObj (s := ()) _ hax (by omega) hl2 rfl)) ?_
      have fin : ∀ W3, KeepsFrom w.heap.size (X.putObj (D + 1) (.loop { r with state := .busy })) W3 → W3.heap[D + 1]? = some (.loop { r with state := .busy }) ∧ W3.heap[D]? = some (.deferred (some [])) ∧ ∀ o, (W3.putObj (D + 1) o).heap[D + 1]? = some o ∧ (W3.putObj (D + 1) o).heap[D]? = some (.deferred (some [])) := fun W3 h => by
        have e1 := h.same _ _ (by omega) hl3 rfl
        have e2 := h.same _ _ (by omega) hk3 rfl
        exact ⟨e1, e2, fun o => ⟨World.putObj_heap_same (Array.getElem?_eq_some_iff.1 e1).1, (World.putObj_heap_other (by omega)).trans e2⟩⟩
      have hrr : ({ r with state := .ready, pending := none } : Loop) = r := by rw [hr]
      intro e a3 W3 hp
      cases e with
      | normal =>
        obtain ⟨k1, k2, k3⟩ := hp
        obtain ⟨e1, e2, e3⟩ := fin W3 k1
        refine ⟨k1, ?_⟩
        rw [hrr]
        exact .inl ⟨rfl, ⟨hI.putObj _ k3 (by omega) e1 rfl, e3 _⟩, hKt hkp (hKt k2 (hKb _ _ _ _ (by omega) e1 rfl rfl))⟩
      | ret =>
        obtain ⟨k1, k3⟩ := hp
        obtain ⟨e1, e2, e3⟩ := fin W3 k1
        exact ⟨k1, .inr ⟨rfl, .ret, (hIx _).putObj _ k3 (by omega) e1 rfl, e3 _⟩⟩
      | exit id =>
        obtain ⟨k1, k3⟩ := hp
        obtain ⟨e1, e2, e3⟩ := fin W3 k1
        exact ⟨k1, .inr ⟨rfl, .exit id, (hIx _).putObj _ k3 (by omega) e1 rfl, e3 _⟩⟩
      | goto t =>
        obtain ⟨k1, k3⟩ := hp
        obtain ⟨e1, e2, e3⟩ := fin W3 k1
        exact ⟨k1, .inr ⟨rfl, .goto t, (hIx _).putObj _ k3 (by omega) e1 rfl, e3 _⟩⟩
      | panic c => exact hp.elim
      | outgrown => exact hp.elim
  · rintro e V ⟨⟨v, rfl⟩, ⟨xs, hs, hi, hl, hk⟩ | ⟨pre, c, hi, hl, hk⟩⟩
    · refine ⟨_, _, run_endLoop hl (by rw [hr]; simp), ?_⟩
      rw [show r.pending = none from by rw [hr]]
      exact hdone D xs _ (by omega) (hS.putObj _ hs (by omega) hl rfl) (hI.putObj _ hi (by omega) hl rfl) ((World.putObj_heap_other (by omega)).trans hk)
    · refine ⟨_, _, run_endLoop hl (by simp), ?_⟩
      exact hstop D c pre _ (by omega) ((hIx c).putObj _ hi (by omega) hl rfl) ((World.putObj_heap_other (by omega)).trans hk)

end
end Go.Proofs.Ytliileemelcllaa
