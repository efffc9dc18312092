import Derived.Deep.AppendLies
import Derived.Test.YtnikcgmbkmbloaaG5
import Derived.Test.YtnikcgmbkmbloaaG1
import Derived.Test.YtnikcgmbkmbloaaG6
import Derived.Test.YtnikcgmbkmbloaaG0
import Derived.Shelf.SlSortCmp.WholeK
/- What was drawn never falls: of any step of the machine, so of any call that returns. No program. -/
namespace Go
def Result.wld {α : Type} : Result α → World
  | .ok _ w => w
  | .halt _ w => w
theorem ask_drawn {α : Type} (a : Ask α) : ∀ (w : World), w.drawn ≤ (w.ask a).2.drawn := by
  induction a with
  | done a => intro w; exact Nat.le_refl _
  | ask what range k ih =>
    intro w
    simp only [World.ask]
    split
    · exact ih _ w
    · exact Nat.le_trans (Nat.le_succ _) (ih _ { w with drawn := w.drawn + 1 })
theorem sys_drawn (c : Sys) (w : World) : w.drawn ≤ (w.sys c).2.drawn := by
  unfold World.sys
  have h := ask_drawn (Kernel.perform c w.os) w
  generalize w.ask (Kernel.perform c w.os) = q at h
  obtain ⟨⟨r, os⟩, w'⟩ := q
  cases r <;> first | exact Nat.le_refl _ | exact h
theorem viewStore_drawn {P : Program} {w w' : World} {at_ k : Addr} {u : TypeId} {v : Value} {b : Bool} {l : List Addr} (h : w.viewStore P at_ u k v b = .ok (w', l)) : w.drawn ≤ w'.drawn := by
  unfold World.viewStore at h
  simp only [bind, Except.bind, pure, Except.pure] at h
  repeat' split at h
  all_goals first | (cases h; done) | skip
  all_goals (injection h with h; injection h with h; rw [← h]; exact Nat.le_refl _)
theorem farStore_drawn {P : Program} {w w' : World} {a : Addr} {v : Value} {b : Bool} {l : List Addr} (h : w.farStore P a v b = .ok (w', l)) : w.drawn ≤ w'.drawn := by
  unfold World.farStore at h
  split at h
  · split at h
    · rename_i hr
      injection h with h
      rw [h] at hr
      exact viewStore_drawn hr
    · cases h
  · cases h
theorem run_wld {α : Type} (P : Program) (s : Sem α) : ∀ (w : World), w.drawn ≤ (s.run P w).wld.drawn := by
  induction s with
  | pure a => intro w; exact Nat.le_refl _
  | load m a k ih =>
    intro w
    simp only [Sem.run]
    split
    · exact ih _ _
    · split
      · exact ih _ _
      · exact Nat.le_refl _
  | store m a v k ih =>
    intro w
    cases v <;> simp only [Sem.run] <;> first
      | exact Nat.le_refl _
      | (split
         · split
           · exact Nat.le_refl _
           · exact ih (w.setCell _ _)
         · split
           · rename_i hf
             exact Nat.le_trans (farStore_drawn hf) (ih _)
           · exact Nat.le_refl _)
  | new o k ih => intro w; simp only [Sem.run]; exact ih _ { w with heap := w.heap.push o }
  | shape r k ih => intro w; simp only [Sem.run]; exact ih _ _
  | freeze a n k ih => intro w; simp only [Sem.run]; exact Nat.le_trans (by unfold World.freeze; split <;> exact Nat.le_refl _) (ih _)
  | frozen a k ih => intro w; simp only [Sem.run]; exact ih _ _
  | getObj r k ih =>
    intro w
    simp only [Sem.run]
    split
    · exact Nat.le_refl _
    · exact ih _ _
    · exact Nat.le_refl _
  | setObj r o k ih =>
    intro w
    simp only [Sem.run]
    split
    · exact Nat.le_refl _
    · exact ih { w with heap := w.heap.setIfInBounds r o }
    · exact Nat.le_refl _
  | choose q k ih =>
    intro w
    simp only [Sem.run]
    split
    · exact ih _ _
    · exact Nat.le_trans (Nat.le_succ _) (ih _ { w with drawn := w.drawn + 1 })
  | sys c k ih => intro w; simp only [Sem.run]; exact Nat.le_trans (sys_drawn c w) (ih _ _)
  | program k ih => intro w; simp only [Sem.run]; exact ih _ _
  | mark m k ih => intro w; simp only [Sem.run]; exact ih _
  | halt h => intro w; exact Nat.le_refl _
theorem runT_wld {α : Type} (P : Program) (s : Sem α) : ∀ (w : World) (es : Array Event), (s.runT P w es).1 = s.run P w := by
  induction s with
  | pure a => intro w es; rfl
  | load m a k ih =>
    intro w es
    simp only [Sem.run, Sem.runT]
    split
    · exact ih _ _ _
    · split
      · exact ih _ _ _
      · rfl
  | store m a v k ih =>
    intro w es
    cases v <;> simp only [Sem.run, Sem.runT] <;> first
      | rfl
      | (split
         · split
           · rfl
           · exact ih _ _
         · split
           · exact ih _ _
           · rfl)
  | new o k ih => intro w es; simp only [Sem.run, Sem.runT]; exact ih _ _ _
  | shape r k ih => intro w es; simp only [Sem.run, Sem.runT]; exact ih _ _ _
  | freeze a n k ih => intro w es; simp only [Sem.run, Sem.runT]; exact ih _ _
  | frozen a k ih => intro w es; simp only [Sem.run, Sem.runT]; exact ih _ _ _
  | getObj r k ih =>
    intro w es
    simp only [Sem.run, Sem.runT]
    split
    · rfl
    · exact ih _ _ _
    · rfl
  | setObj r o k ih =>
    intro w es
    simp only [Sem.run, Sem.runT]
    split
    · rfl
    · exact ih _ _
    · rfl
  | choose q k ih =>
    intro w es
    simp only [Sem.run, Sem.runT]
    split
    · exact ih _ _ _
    · exact ih _ _ _
  | sys c k ih => intro w es; simp only [Sem.run, Sem.runT]; exact ih _ _ _
  | program k ih => intro w es; simp only [Sem.run, Sem.runT]; exact ih _ _ _
  | mark m k ih => intro w es; simp only [Sem.run, Sem.runT]; exact ih _ _
  | halt h => intro w es; rfl
theorem run_ok {α : Type} {p : Program} {s : Sem α} {w : World} {r : Result α} (h : s.run p w = r) : w.drawn ≤ r.wld.drawn := h ▸ run_wld p s w
theorem runT_ok {α : Type} {p : Program} {s : Sem α} {w : World} {es : Array Event} {r : Result α} {es' : Array Event} (h : s.runT p w es = (r, es')) : w.drawn ≤ r.wld.drawn := by
  have := run_wld p s w
  rw [← runT_wld p s w es, h] at this
  exact this
def GStep.wld : GStep → World
  | .go _ w _ | .comm _ _ _ _ w _ | .spawn _ _ w _ | .count _ w _ | .timer _ _ w _ | .alone _ _ w _ | .newcoro _ _ _ w _ | .coroswitch _ _ _ w _ | .collect _ w _ | .watch _ w _ | .ended _ w _ => w
theorem after_wld (es : Array Event) (g : GStep) : (g.after es).wld = g.wld := by cases g <;> rfl
theorem endThrow_wld (fr : Frame) (m : String) (w : World) : (endThrow fr m w).wld = w := rfl
theorem endFatal_wld (p : Program) (fr : Frame) (callers : List Frame) (dying : Option Dying) (m : String) (w : World) : w.drawn ≤ (endFatal p fr callers dying m w).wld.drawn := by
  unfold endFatal
  extract_lets chain raw shown
  have h := run_wld p shown w
  generalize shown.run p w = r at h
  split <;> exact h
theorem endWith_wld (w : World) (fd : Nat) (text : ByteArray) (o : Outcome) : w.drawn ≤ (endWith w fd text o).wld.drawn := by
  unfold endWith
  have h := sys_drawn (.write fd text) w
  generalize w.sys (.write fd text) = q at h
  obtain ⟨r, w'⟩ := q
  extract_lets
  cases r <;> first | exact h | (simp only []; split <;> exact h)
theorem endPrinting_wld (p : Program) (fr : Frame) (v : Value) (w : World) : (endPrinting p fr v w).wld = w := by
  unfold endPrinting
  extract_lets _ what
  generalize what = q
  cases q <;> rfl
theorem doReturn_wld (p : Program) (main : Bool) (fr : Frame) (callers : List Frame) (dying : Option Dying) (v : Value) (w : World) : (doReturn p main fr callers dying v w).wld = w := by
  unfold doReturn
  repeat' split
  all_goals rfl
theorem callDeferred_wld (p : Program) (fr : Frame) (callers : List Frame) (dying : Option Dying) (d : Deferred) (w : World) : w.drawn ≤ (callDeferred p fr callers dying d w).wld.drawn := by
  unfold callDeferred
  generalize ((d.target matches .nil) && (fr.mode matches .panicking _)) = q
  cases q
  case true => exact Nat.le_refl _
  case false =>
    simp only [Bool.false_eq_true, if_false]
    have h := run_wld p (invoke d.target d.args) w
    rw [← runT_wld p _ w #[]] at h
    generalize (invoke d.target d.args).runT p w #[] = q at h
    obtain ⟨r, es⟩ := q
    simp only [] at h ⊢
    rw [after_wld]
    split <;> first | exact h | exact Nat.le_trans h (endFatal_wld _ _ _ _ _ _) | (split <;> exact h)
theorem unwind_wld (p : Program) (main : Bool) (fr : Frame) (callers : List Frame) (dying : Option Dying) (w : World) : w.drawn ≤ (unwind p main fr callers dying w).wld.drawn := by
  unfold unwind
  split
  · rename_i block _ ds _
    have h := run_wld p (Instr.takeDeferred block) w
    rw [← runT_wld p _ w #[]] at h
    generalize (Instr.takeDeferred block).runT p w #[] = q at h
    obtain ⟨r, es⟩ := q
    simp only [] at h ⊢
    rw [after_wld]
    split <;> exact h
  · exact callDeferred_wld _ _ _ _ _ _
  · split
    · exact Nat.le_refl _
    · split
      · exact Nat.le_refl _
      split
      · exact Nat.le_refl _
      · split
        · split
          · exact Nat.le_refl _
          · split <;> (rename_i heq; exact run_ok heq)
        · split
          · rw [endPrinting_wld]; exact Nat.le_refl _
          · exact Nat.le_refl _
    · split
      · rw [doReturn_wld]; exact Nat.le_refl _
      · rename_i fn _
        have h := run_wld p (results fn fr.tmps) w
        rw [← runT_wld p _ w #[]] at h
        generalize (results fn fr.tmps).runT p w #[] = q at h
        obtain ⟨r, es⟩ := q
        simp only [] at h ⊢
        rw [after_wld]
        split <;> first | exact h | (rw [doReturn_wld]; exact h)
theorem writeOn_wld (p : Program) (fr : Frame) (d : Dying) (f : Fatal) (w : World) : w.drawn ≤ (writeOn p fr d f w).wld.drawn := by
  unfold writeOn
  extract_lets on
  split
  · exact Nat.le_refl _
  · extract_lets
    split <;> (rename_i heq; exact runT_ok heq)
theorem die_wld (p : Program) (fr : Frame) (d : Dying) (w : World) : w.drawn ≤ (die p fr d w).wld.drawn := by
  unfold die
  split
  · exact writeOn_wld _ _ _ _ _
  · split
    · split
      · exact Nat.le_refl _
      · exact endWith_wld _ _ _ _
    · extract_lets d'
      split
      · exact Nat.le_refl _
      · split <;> (rename_i heq; exact run_ok heq)
      · rename_i t recv name _
        have h := run_wld p (invoke (.fn (.method name) #[]) #[.iface t recv]) w
        rw [← runT_wld p _ w #[]] at h
        generalize (invoke (.fn (.method name) #[]) #[.iface t recv]).runT p w #[] = q at h
        obtain ⟨r, es⟩ := q
        simp only [] at h ⊢
        rw [after_wld]
        split <;> first | exact h | (rw [endPrinting_wld]; exact h) | exact Nat.le_refl _
      · exact Nat.le_refl _
theorem early_wld (p : Program) (fr : Frame) (callers : List Frame) (dying : Option Dying) (g : Nat) (w : World) : w.drawn ≤ (early p fr callers dying g w).wld.drawn := by
  unfold early
  extract_lets refuse notYet
  have hn : ∀ w', (notYet w').wld.drawn = w'.drawn := fun w' => by
    show (GStep.wld (match w'.heap[g]? with | some (.pending c elem) => _ | _ => _)).drawn = _
    split <;> rfl
  split
  · rw [hn]; exact Nat.le_refl _
  · split
    · exact Nat.le_refl _
    · extract_lets there
      have ht : ∀ w', (there w').wld.drawn = w'.drawn := fun w' => rfl
      repeat' split
      all_goals first
        | (rw [hn]; exact Nat.le_refl _)
        | (rw [ht]; exact Nat.le_refl _)
        | exact Nat.le_refl _
        | (rename_i heq; rw [hn]; exact run_ok heq)
        | (rename_i heq; rw [ht]; exact run_ok heq)
        | (rename_i heq; exact run_ok heq)
        | (rename_i heq _; rw [ht]; exact run_ok heq)
theorem apply_wld (p : Program) (listen : Bool) (fr : Frame) (callers : List Frame) (dying : Option Dying) (s : Sem Next) (w : World) : w.drawn ≤ (stepG.apply p listen fr callers dying s w).wld.drawn := by
  unfold stepG.apply
  extract_lets go kind
  have h := run_wld p s w
  have hq : w.drawn ≤ (if listen = true then s.runT p w #[] else (s.run p w, #[])).1.wld.drawn := by
    split
    · rw [runT_wld]; exact h
    · exact h
  generalize (if listen = true then s.runT p w #[] else (s.run p w, #[])) = q at hq
  obtain ⟨r, es⟩ := q
  simp only [] at hq ⊢
  rw [after_wld]
  split
  all_goals first
    | exact hq
    | exact Nat.le_trans hq (endFatal_wld _ _ _ _ _ _)
    | exact Nat.le_trans hq (early_wld _ _ _ _ _ _)
    | (split <;> first | exact hq | (split <;> exact hq))
    | skip
theorem oper_wld (p : Program) (listen : Bool) (fr : Frame) (callers : List Frame) (dying : Option Dying) (w : World) : w.drawn ≤ (stepG.oper p listen fr callers dying w).wld.drawn := by
  unfold stepG.oper
  split
  · exact Nat.le_refl _
  · split <;> exact apply_wld _ _ _ _ _ _ _
theorem exec_wld (p : Program) (main : Bool) (listen : Bool) (fr : Frame) (callers : List Frame) (dying : Option Dying) (w : World) : w.drawn ≤ (stepG.exec p main listen fr callers dying w).wld.drawn := by
  unfold stepG.exec
  extract_lets go to lost leave
  have hl : ∀ j, w.drawn ≤ (leave j).wld.drawn := fun j => by
    show w.drawn ≤ (GStep.wld (match fr.roundOf with | none => _ | some l => _)).drawn
    split
    · split <;> exact Nat.le_refl _
    · rename_i l _
      have h := run_wld p (Instr.endRound l j) w
      rw [← runT_wld p _ w #[]] at h
      generalize (Instr.endRound l j).runT p w #[] = q at h
      obtain ⟨r, es⟩ := q
      simp only [] at h ⊢
      rw [after_wld]
      split
      · rw [doReturn_wld]; exact h
      · exact h
  have hto : ∀ k, (to k).wld = w := fun k => rfl
  have hgo : ∀ f w', (go f w').wld = w' := fun f w' => rfl
  clear_value leave to
  split
  all_goals first
    | exact hl none
    | exact hl (some Code.ret)
    | exact Nat.le_refl _
    | (rw [hto]; exact Nat.le_refl _)
    | exact apply_wld _ _ _ _ _ _ _
    | (split <;> first | exact Nat.le_refl _ | (rw [hto]; exact Nat.le_refl _))
    | skip
  · rename_i id k _
    cases exitTo id k
    · exact hl _
    · exact (hto _) ▸ Nat.le_refl _
  · rename_i l k _
    cases gotoIn l k
    · exact hl _
    · exact (hto _) ▸ Nat.le_refl _
  · rename_i f params assign body k _
    have h := run_wld p (Instr.enterLoop fr.fn fr.tmps params assign body fr.roundOf) w
    rw [← runT_wld p _ w #[]] at h
    generalize (Instr.enterLoop fr.fn fr.tmps params assign body fr.roundOf).runT p w #[] = q at h
    obtain ⟨r, es⟩ := q
    simp only [] at h ⊢
    rw [after_wld]
    split
    · exact Nat.le_trans h (apply_wld _ _ _ _ _ _ _)
    · exact h
  · rename_i l k _
    have h := run_wld p (Instr.endLoop l) w
    rw [← runT_wld p _ w #[]] at h
    generalize (Instr.endLoop l).runT p w #[] = q at h
    obtain ⟨r, es⟩ := q
    simp only [] at h ⊢
    rw [after_wld]
    split <;> exact h
  · rename_i row args k _
    cases Extern.next row
    · exact Nat.le_refl _
    · exact apply_wld _ _ _ _ _ _ _
  · split
    · rw [hto]; exact Nat.le_refl _
    · split <;> (rename_i heq; exact run_ok heq)
  · split
    · exact oper_wld _ _ _ _ _ _
    · exact Nat.le_refl _
theorem stepG_wld (p : Program) (main : Bool) (g : Goroutine) (w : World) (listen : Bool) : w.drawn ≤ (stepG p main g w listen).wld.drawn := by
  unfold stepG
  split
  split
  · exact die_wld _ _ _ _
  · exact exec_wld _ _ _ _ _ _ _
  · exact unwind_wld _ _ _ _ _ _
/-- the world of a machine that goes on -/
def Stepped.Up (n : Nat) : Stepped → Prop
  | .next m => n ≤ m.world.drawn
  | .ended .. => True
theorem communicate_up (p : Program) (rest : Rest) (gs : Array Goroutine) (i : Nat) (g : Goroutine) (cases : Array CommCase) (blocking : Bool) (shape : CommShape) (w : World) : (communicate p rest gs i g cases blocking shape w).1.Up w.drawn := by
  unfold communicate
  extract_lets put illMade me other ready
  have hp : ∀ g' gs' w' ops, w.drawn ≤ w'.drawn → (put g' gs' w' ops).1.Up w.drawn := fun _ _ _ _ h => h
  clear_value put
  split
  · trivial
  · split
    · split
      · split
        · rename_i h
          show w.drawn ≤ _
          unfold waitingAt at h
          split at h
          · split at h
            · injection h with h; rw [← h]; exact Nat.le_refl _
            · cases h
          · injection h with h; rw [← h]; exact Nat.le_refl _
        · trivial
      · exact hp _ _ _ _ (Nat.le_refl _)
    · split
      · trivial
      · rename_i heq0
        have h : w.drawn ≤ _ := run_ok heq0
        try extract_lets r'
        split
        · split
          · rename_i heq
            exact hp _ _ _ _ (Nat.le_trans h (run_ok heq))
          · trivial
        · exact hp _ _ _ _ h
        · exact hp _ _ _ _ h
        · try extract_lets
          split
          · exact hp _ _ _ _ h
          · split
            · rename_i heq
              exact hp _ _ _ _ (Nat.le_trans h (run_ok heq))
            · trivial
        · exact hp _ _ _ _ h
        · exact hp _ _ _ _ h
        · trivial
theorem look_upd (p : Program) (gs : Array Goroutine) (rest : Rest) (w : World) : (look p gs rest w).Up w.drawn := by
  unfold look
  split
  · extract_lets
    repeat' split
    all_goals first
      | trivial
      | (rename_i heq; have h : w.drawn ≤ _ := run_ok heq; exact h)
      | (rename_i heq _; have h : w.drawn ≤ _ := run_ok heq; exact h)
      | (rename_i heq _ _; have h : w.drawn ≤ _ := run_ok heq; exact h)
      | (rename_i heq _ _ _; have h : w.drawn ≤ _ := run_ok heq; exact h)
      | (extract_lets
         split
         · rename_i heq
           have h : w.drawn ≤ _ := run_ok heq
           exact h
         · trivial
         · trivial)
  · trivial
theorem retime_up (m : Machine) (k : Nat) (t : Timer) (a b : Nat) : m.world.drawn ≤ (retime m k t a b).2.world.drawn := by
  unfold retime
  split
  rename_i had world heq
  show m.world.drawn ≤ world.drawn
  split at heq
  · unfold drain at heq
    split at heq <;> (injection heq with _ heq; rw [← heq]; exact Nat.le_refl _)
  · injection heq with _ heq; rw [← heq]; exact Nat.le_refl _
theorem named_up {m m' : Machine} {var : Addr} {f : Nat → Timer → Value × Machine} {v : Value} {n : Nat} (hf : ∀ k t, n ≤ (f k t).2.world.drawn) (h : timerOp.named m var f = .ok (v, m')) : n ≤ m'.world.drawn := by
  unfold timerOp.named at h
  split at h
  · rename_i k _
    injection h with h
    have := hf k (m.rest.timers.getD k default)
    rw [h] at this
    exact this
  · cases h
theorem timer_up {m m' : Machine} {op : TimerOp} {v : Value} (h : timerOp m op = .ok (v, m')) : m.world.drawn ≤ m'.world.drawn := by
  cases op <;> simp only [timerOp] at h
  · split at h
    · injection h with h; injection h with _ h; rw [← h]; exact Nat.le_refl _
    · split at h
      · split at h
        · cases h
        · injection h with h; injection h with _ h; rw [← h]; exact Nat.le_refl _
      · cases h
  · exact named_up (fun k t => retime_up m k t _ _) h
  · split at h
    · rename_i m1 ho
      have h1 : m.world.drawn ≤ m1.world.drawn := by
        unfold timerOp.opened at ho
        split at ho
        · split at ho
          · injection ho with ho; rw [← ho]; exact Nat.le_refl _
          · cases ho
        · injection ho with ho; rw [← ho]; exact Nat.le_refl _
      exact named_up (fun k t => Nat.le_trans h1 (retime_up m1 k t _ _)) h
    · cases h
  · injection h with h; injection h with _ h; rw [← h]; exact Nat.le_refl _
theorem serve_up (p : Program) (m : Machine) (k : Nat) : (serve p m k).Up m.world.drawn := by
  unfold serve
  split
  · trivial
  · exact Nat.le_refl _
  · extract_lets
    split
    · trivial
    · exact Nat.le_refl _
theorem runT_up (p : Program) (m : Machine) (i : Nat) (listen : Bool) : (runT p m i listen).1.Up m.world.drawn := by
  unfold runT
  extract_lets rest world
  split
  rename_i g gs hg
  extract_lets wake fn pos s ops done
  have hs : world.drawn ≤ s.wld.drawn := stepG_wld p (i == 0) g world listen
  have hd : ∀ r, (done r).1 = r := fun r => rfl
  clear_value s done
  cases s with
  | ended o w es => simp only [hd]; trivial
  | comm g cases blocking shape w es =>
    simp only []
    have h := communicate_up p rest gs i g cases blocking shape w
    generalize communicate p rest gs i g cases blocking shape w = q at h
    obtain ⟨r, more⟩ := q
    show r.Up _
    simp only [] at h
    cases r with
    | next m => exact Nat.le_trans hs h
    | ended => trivial
  | go g w es => simp only [hd]; exact hs
  | spawn g c w es => exact hs
  | count g w es =>
    simp only [hd]
    split
    · trivial
    · exact hs
  | alone g on w es => simp only [hd]; exact hs
  | collect g w es =>
    simp only [hd]
    have h := look_upd p (gs.setIfInBounds i g) rest w
    generalize look p (gs.setIfInBounds i g) rest w = r at h
    cases r with
    | next m => exact Nat.le_trans hs h
    | ended => trivial
  | watch g w es => simp only [hd]; exact hs
  | newcoro g c d w es => exact hs
  | coroswitch g c ex w es =>
    simp only [hd]
    split
    · exact hs
    · exact hs
    · trivial
  | timer g op w es =>
    simp only [hd]
    split
    · rename_i heq
      exact Nat.le_trans hs (timer_up heq)
    · exact hs
    · trivial
    · trivial
def Move.Up (n : Nat) : Move → Prop
  | .goroutine m _ => n ≤ m.world.drawn
  | .machine s _ => s.Up n
theorem Stepped.Up.mono {n k : Nat} {s : Stepped} (h : s.Up k) (hn : n ≤ k) : s.Up n := by
  cases s with
  | next m => exact Nat.le_trans hn h
  | ended => trivial
theorem Move.Up.mono {n k : Nat} {s : Move} (h : s.Up k) (hn : n ≤ k) : s.Up n := by
  cases s with
  | goroutine m i => exact Nat.le_trans hn h
  | machine s ops => exact Stepped.Up.mono h hn
theorem askOn_up (p : Program) (m : Machine) : (askOn p m).Up m.world.drawn := by
  unfold askOn
  extract_lets mono rs ds pick
  have hp : ∀ m' : Machine, (pick m').Up m'.world.drawn := fun m' => by
    show Move.Up _ (match (choose (.sched rs.length)).run p m'.world with | .halt _ w => _ | .ok k world => _)
    split
    · trivial
    · rename_i heq
      have h : m'.world.drawn ≤ _ := run_ok heq
      split
      · exact h
      · split
        · trivial
        · rename_i heq2
          exact Nat.le_trans h (run_ok heq2)
  clear_value pick
  split
  · trivial
  · rename_i k world heq
    have h : m.world.drawn ≤ world.drawn := run_ok heq
    extract_lets m1
    split
    · exact (serve_up p m1 _).mono h
    · generalize rs = l
      cases l with
      | nil =>
        simp only []
        repeat' split
        all_goals first
          | trivial
          | exact h
      | cons a l =>
        simp only []
        split
        · exact Move.Up.mono (hp m1) h
        · split
          · trivial
          · rename_i heq2
            exact Move.Up.mono (hp _) (Nat.le_trans h (run_ok heq2))
          · rename_i heq2
            exact Nat.le_trans h (run_ok heq2)
          · rename_i heq2
            exact Move.Up.mono (hp _) (Nat.le_trans h (run_ok heq2))
theorem ask_up (p : Program) (m : Machine) : (ask p m).Up m.world.drawn := by
  unfold ask
  split
  · split
    · trivial
    · rename_i world heq
      have h : m.world.drawn ≤ world.drawn := run_ok heq
      have hl := (look_upd p m.gs m.rest world).mono h
      split
      · rename_i m' hm
        rw [hm] at hl
        exact Move.Up.mono (askOn_up p m') hl
      · exact hl
    · rename_i world _ heq
      have h : m.world.drawn ≤ world.drawn := run_ok heq
      exact Move.Up.mono (askOn_up p { m with world }) h
  · exact askOn_up p m
theorem move_up (p : Program) (m : Machine) : (move p m).Up m.world.drawn := by
  unfold move
  split
  · split
    · exact Nat.le_refl _
    · trivial
  · split
    · split
      · exact Nat.le_refl _
      · exact ask_up p _
    · exact ask_up p m
theorem step_up {p : Program} {m m' : Machine} (h : step p m = .next m') : m.world.drawn ≤ m'.world.drawn := by
  unfold step stepT at h
  have hm := move_up p m
  split at h
  · rename_i m1 i he
    rw [he] at hm
    have := (runT_up p m1 i true).mono hm
    rw [h] at this
    exact this
  · rename_i s ops he
    rw [he] at hm
    simp only [] at h
    subst h
    exact hm
theorem steps_up {p : Program} {m m' : Machine} (h : Steps p m m') : m.world.drawn ≤ m'.world.drawn := by
  obtain ⟨n, hn⟩ := h
  induction n generalizing m with
  | zero => simp only [runN] at hn; injection hn with hn; rw [hn]; exact Nat.le_refl _
  | succ n ih =>
    simp only [runN] at hn
    split at hn
    · rename_i m1 h1
      exact Nat.le_trans (step_up h1) (ih hn)
    · rename_i hne
      cases hs : step p m with
      | next m1 => exact absurd hs (hne m1)
      | ended o w => rw [hs] at hn; cases hn
/-- **what was drawn never falls in a call that returns** -/
theorem Calls.up {P : Program} {f : FuncId} {args : Array Value} {w : World} {R : Ending → World → Prop} (h : Calls P f args w R) : Calls P f args w fun e w' => R e w' ∧ ((∃ v, e = .returned v) → w.drawn ≤ w'.drawn) := by
  intro cs
  obtain ⟨e, w', fr, hR, hc, hf, hl⟩ := h cs
  refine ⟨e, w', fr, ⟨hR, ?_⟩, hc, hf, hl⟩
  rintro ⟨v, rfl⟩
  exact steps_up hc
end Go
/- Names that are all different; what is sorted by plain numbers. Plain. -/
namespace Go.Proofs.Ytnikcgmbkmbloaa
open Go.RowKit
open Classical in
noncomputable def onceV (l : List PT) : Bool := decide l.Nodup
theorem onceV_true {l : List PT} (h : l.Nodup) : onceV l = true := by unfold onceV; simp [h]
theorem onceV_false {l : List PT} (h : ¬ l.Nodup) : onceV l = false := by unfold onceV; simp [h]
/-- neighbours that rise are all different -/
theorem nodup_rise (d : List PT) (h : ∀ i (hi : i + 1 < d.length), (d[i]).cmp plainV d[i + 1] < 0) : d.Nodup := by
  have key : ∀ n i (hi : i + 1 + n < d.length), (d[i]'(by omega)).cmp plainV d[i + 1 + n] < 0 := by
    intro n
    induction n with
    | zero => intro i hi; exact h i hi
    | succ n ih => intro i hi; exact cmp_trans plainOk plain_tr _ _ _ (ih i (by omega)) (h (i + 1 + n) hi)
  unfold List.Nodup
  rw [List.pairwise_iff_getElem]
  intro i j hi hj hij e
  obtain ⟨n, rfl⟩ : ∃ n, j = i + 1 + n := ⟨j - (i + 1), by omega⟩
  have := key n i hj
  rw [← e, cmp_refl plainOk] at this
  omega
/-- two neighbours that are the same -/
theorem not_nodup (d : List PT) (i : Nat) (hi : i + 1 < d.length) (h : (d[i]).cmp plainV d[i + 1] = 0) : ¬ d.Nodup := fun hn => by
  have e := (cmp_zero plainOk).1 h
  unfold List.Nodup at hn
  rw [List.pairwise_iff_getElem] at hn
  exact hn i (i + 1) (by omega) hi (by omega) e
theorem plain_anti' (t u : PT) : u.cmp plainV t = -t.cmp plainV u := cmp_anti plainOk t u
/-- the order by plain numbers is a strict weak order -/
theorem swo_plain {α : Type} (f : α → PT) : Go.Sort.SWO (Go.Proofs.ltOf fun x y : α => (f x).cmp plainV (f y)) where
  irrefl x := by unfold ltOf; simp [cmp_refl plainOk]
  trans x y z h1 h2 := by
    unfold ltOf at *
    simp only [decide_eq_true_eq] at *
    exact cmp_trans plainOk plain_tr _ _ _ h1 h2
  ntrans x y z h1 h2 := by
    unfold ltOf at *
    simp only [decide_eq_false_iff_not, Int.not_lt] at *
    have a1 := plain_anti' (f x) (f y)
    have a2 := plain_anti' (f y) (f z)
    have a3 := plain_anti' (f x) (f z)
    by_cases e1 : (f x).cmp plainV (f y) = 0
    · rw [(cmp_zero plainOk).1 e1]; exact h2
    · by_cases e2 : (f y).cmp plainV (f z) = 0
      · rw [← (cmp_zero plainOk).1 e2]; exact h1
      · have := cmp_trans plainOk plain_tr _ _ _ (show (f z).cmp plainV (f y) < 0 by omega) (show (f y).cmp plainV (f x) < 0 by omega)
        omega
/-- a call that lays blocks and draws -/
theorem grow_of_below {W w' : World} (hb : Below W.heap.size W w') (hd : W.drawn ≤ w'.drawn) : ∃ q os', w' = Go.Sort.grow (W.drewN q) os' := by
  refine ⟨w'.drawn - W.drawn, w'.heap.extract W.heap.size w'.heap.size, ?_⟩
  obtain ⟨heap, tape, drawn, os, output⟩ := w'
  have h1 : os = W.os := hb.os
  have h2 : tape = W.tape := hb.tape
  have h3 : output = W.output := hb.output
  have h4 : heap = W.heap ++ heap.extract W.heap.size heap.size := by
    apply Array.ext_getElem?
    intro k
    rw [Array.getElem?_append]
    split
    · rename_i hk; exact hb.block k hk
    · rename_i hk
      rw [Array.getElem?_extract]
      split
      · rw [show W.heap.size + (k - W.heap.size) = k by omega]
      · rename_i hk2
        exact Array.getElem?_eq_none (by have := hb.size; simp at *; omega)
  simp only [Go.Sort.grow, World.drewN]
  congr 1
  · simp only [] at hd; omega
/-- a world of the sort's: only the row has turned -/
theorem sortK_only {α : Type} [Inhabited α] (enc : α → List Value) (k : Nat) (w : World) (g off n : Nat) (d : Array α) (os : Array Obj) : Only g w (Go.Proofs.sortWorldK enc k w g off n d os) := by
  refine ⟨rfl, rfl, rfl, ?_, fun j hj hne => ?_⟩
  · simp [Go.Proofs.sortWorldK, Go.Sort.putRowK]
  · show ((Go.Sort.putRow id (Go.Sort.ahead w n) g off (Go.Sort.flatK enc k d)).heap ++ os)[j]? = _
    rw [Array.getElem?_append_left (by simpa using hj)]
    simp only [Go.Sort.putRow, Go.Sort.mapBlock, Array.getElem?_modify]
    rw [if_neg (fun e => hne e.symm)]
    rfl
end Go.Proofs.Ytnikcgmbkmbloaa
/- l6Copy, l6All and ListVal of the model: copies in rows of their own. -/
namespace Go.Proofs.Ytnikcgmbkmbloaa
open Go.RowKit
theorem ownBlock_slice (a : Option Addr) (n cap : Nat) : (Value.slice a n cap).ownBlock = a.map (·.block) := by cases a <;> rfl
/-- one more element at the end of a row of trees -/
theorem row_push {W w' : World} {K gg cap cap' : Nat} {a : Option Addr} {lr : List AT} {T : AT} (h0 : OwnL W K a cap lr) (hnd : ((a.map (·.block)).toList ++ AT.blksL lr).Nodup) (hT : T.Own W K) (hTn : T.blks.Nodup) (hdis : ∀ k ∈ T.blks, k ∉ (a.map (·.block)).toList ++ AT.blksL lr)
    (hown : w'.ownsRow K 26 5 (.slice (some ⟨gg, 0, none⟩) (lr.length + 1) cap') (lr.length + 1) (cellsL lr ++ T.cells)) (hgrow : W.grownBy w' (Value.slice a lr.length cap).ownBlock) (hat : (Value.slice a lr.length cap).ownBlock = some gg ∨ gg = W.heap.size) :
    OwnL w' K (some ⟨gg, 0, none⟩) cap' (lr ++ [T]) ∧ (gg :: AT.blksL (lr ++ [T])).Nodup := by
  rw [ownBlock_slice] at hgrow hat
  have hlt : ∀ k ∈ AT.blksL lr, k < W.heap.size := fun k hk => by
    obtain ⟨t, ht, hkt⟩ := AT.mem_blksL.1 hk
    exact ((h0.sub t ht).lt k hkt).2
  have hsub : ∀ t : AT, t.Own W K → (∀ k ∈ t.blks, k ∉ (a.map (·.block)).toList) → t.Own w' K := fun t ht hd => ht.kept fun k hk => hgrow.block k (ht.lt k hk).2 (fun e => hd k hk (by rw [← e]; simp))
  rw [List.nodup_append] at hnd
  have hrow : w'.ownsRow K 26 5 (.slice (some ⟨gg, 0, none⟩) (lr ++ [T]).length cap') (lr ++ [T]).length (cellsL (lr ++ [T])) := by
    rw [cellsL_append, cellsL_one, List.length_append, List.length_singleton]; exact hown
  refine ⟨⟨hrow, fun t ht => ?_⟩, ?_⟩
  · rcases List.mem_append.1 ht with ht | ht
    · exact hsub t (h0.sub t ht) (fun k hk hk2 => hnd.2.2 k hk2 k (AT.mem_blksL.2 ⟨t, ht, hk⟩) rfl)
    · obtain rfl : t = T := by simpa using ht
      exact hsub t hT (fun k hk hk2 => hdis k hk (by simp only [List.mem_append]; exact .inl hk2))
  · rw [AT.blksL_append, AT.blksL_one, List.nodup_cons, List.nodup_append]
    refine ⟨fun hm => ?_, hnd.2.1, hTn, fun x hx y hy e => hdis y hy (by rw [← e, List.mem_append]; exact .inr hx)⟩
    rcases hat with hat | hat
    · have hga : gg ∈ (a.map (·.block)).toList := by rw [hat]; simp
      rcases List.mem_append.1 hm with hm | hm
      · exact hnd.2.2 gg hga gg hm rfl
      · exact hdis gg hm (by simp only [List.mem_append]; exact .inl hga)
    · rcases List.mem_append.1 hm with hm | hm
      · have := hlt gg hm; omega
      · have := (hT.lt gg hm).2; omega
theorem OwnL.blw {w w' : World} {B : Nat} {a : Option Addr} {cap : Nat} {l : List AT} (h : OwnL w B a cap l) (hb : Below w.heap.size w w') : OwnL w' B a cap l :=
  (AT.Own.blw (T := .mk 0 0 0 [] a cap l) h.own hb).l
theorem OwnL.lt {w : World} {B : Nat} {a : Option Addr} {cap : Nat} {l : List AT} (h : OwnL w B a cap l) : ∀ k ∈ (a.map (·.block)).toList ++ AT.blksL l, B ≤ k ∧ k < w.heap.size :=
  AT.Own.lt (T := .mk 0 0 0 [] a cap l) h.own
theorem below_push {w2 W w3 : World} {row : Option Nat} {K : Nat} (hg : W.grownBy w3 row) (hr : ∀ k, row = some k → K ≤ k) (hb : Below w2.heap.size w2 W) (hK : K ≤ w2.heap.size) : Below K w2 w3 :=
  (hb.mono hK).trans ⟨hg.os, hg.tape, hg.output, hg.size, fun k hk => hg.block k (by have := hb.size; omega) (fun e => by have := hr k e.symm; omega)⟩
theorem frozen_blk' {w w' : World} {b o : Nat} (k : w'.heap[b]? = w.heap[b]?) : w'.frozen? ⟨b, o, none⟩ = w.frozen? ⟨b, o, none⟩ := by
  unfold World.frozen?; rw [k]
theorem AT.Own.setg' {w : World} {B g o : Nat} {u : Value} {T : AT} (h : T.Own w B) (hg : g ∉ T.blks) : T.Own (w.setCell ⟨g, o, none⟩ u) B := h.only ((Only.refl g w).setCell o u) hg
theorem emptyRow (w : World) (B : Nat) (hB : B ≤ w.heap.size) : OwnL (w.alloc (.cells #[] 26)) B (some ⟨w.heap.size, 0, none⟩) 0 [] :=
  ⟨⟨rfl, .inr ⟨w.heap.size, 0, #[], rfl, hB, heap_alloc_new w _, Nat.le_refl _, by unfold maxLen; omega, rfl, rfl⟩⟩, by simp⟩
theorem news_of_cells (W : World) (T : AT) : ∀ j u, T.cells[j]? = some u → (W.alloc (.cells #[.int .i64 T.k, .int .i64 T.n, .int .i64 T.x, .string ⟨T.s.toArray⟩, .slice T.a T.l.length T.cap] 26)).cell? ((⟨W.heap.size, 0, none⟩ : Addr).add j) = some u :=
  World.news_of_block (cs := #[.int .i64 T.k, .int .i64 T.n, .int .i64 T.x, .string ⟨T.s.toArray⟩, .slice T.a T.l.length T.cap]) (t := 26) (fr := (0, 0)) (heap_alloc_new W _)
theorem cells_one (T : AT) : ∀ u ∈ T.cells, u.oneCell' = true := by
  intro u hu
  simp only [AT.cells, List.mem_cons, List.not_mem_nil, or_false] at hu
  rcases hu with rfl | rfl | rfl | rfl | rfl <;> rfl
end Go.Proofs.Ytnikcgmbkmbloaa
