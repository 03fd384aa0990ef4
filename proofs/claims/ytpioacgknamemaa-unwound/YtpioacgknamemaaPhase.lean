/- A phase: goroutine 0 starts workers, each of which fills a part of one list, and waits for all: what is asked of each; beside goroutines that only leave. -/
import Derived.Test.YtpioacgknamemaaWay
import Derived.Conc.CrowdBase
import Derived.Conc.WgGenN
namespace Go.Proofs.Ytpioacgknamemaa
open Go Go.RowKit Go.Conc Go.ConcN
open Go.ConcR (KK wgBlock WgAt stA smA rd wr mk Payload Aside2 DC0)

/-- What is given of a phase. Workers go by their goroutines' numbers, from J0 on. -/
structure Plan where
  P : Program
  ty : TypeId
  Wg : Nat
  C : Nat
  N : Nat
  ety : TypeId
  Sh : Loc → Prop
  B : Nat
  J0 : Nat
  Lw : Nat → Nat
  lo : Nat → Nat
  hi : Nat → Nat
  val : Nat → Value

namespace Plan
variable (p : Plan)

def Pay (w : World) : Prop := ∃ cs : Array Value, w.heap[p.C]? = some (.cells cs p.ety) ∧ cs.size = p.N
def HasAll (k : Nat) (w : World) : Prop := ∀ o, p.lo k ≤ o → o < p.hi k → w.cell? ⟨p.C, o, none⟩ = some (p.val o)

def ShP (l : Loc) : Prop := p.Sh l ∨ ShN p.Wg l
def Own (k : Nat) (l : Loc) : Prop := p.J0 ≤ k ∧ ∃ o, p.lo k ≤ o ∧ o < p.hi k ∧ l = .cell ⟨p.C, o, none⟩
def Rd (k : Nat) (l : Loc) : Prop := p.J0 ≤ k ∧ ∃ a, l = .cell a ∧ a.block < p.Lw k ∧ a.block ≠ p.C ∧ a.block ≠ p.Wg ∧ ¬ p.Sh l

/-- What worker k suffers. -/
structure RelW (k : Nat) (w w₁ : World) : Prop where
  low : ∀ b, b < p.Lw k → b ≠ p.Wg → b ≠ p.C → w₁.heap[b]? = w.heap[b]?
  live : WgLive p.ty p.Wg w → WgLive p.ty p.Wg w₁
  pay : p.Pay w → p.Pay w₁
  cell : ∀ o, p.lo k ≤ o → o < p.hi k → w₁.cell? ⟨p.C, o, none⟩ = w.cell? ⟨p.C, o, none⟩

/-- What worker k may list while it works. -/
def EvK (k : Nat) (e : Event) : Prop := (∀ x, (MemAct.ofEvent e).touch? = some x → (ShN p.Wg x.loc ∧ x.kind ≠ .plain ∧ x.kind ≠ .said) ∨ p.Own k x.loc ∨ (p.Rd k x.loc ∧ x.write = false)) ∧ e.loc ≠ .mark .disable ∧ e.loc ≠ .mark .enable ∧ e.loc ≠ .mark (.release (stA p.Wg))

/-- What worker k does to the world while it works. -/
structure DWk (k : Nat) (w w' : World) (es : Array Event) : Prop where
  tape : w'.tape = w.tape
  os : w'.os = w.os
  output : w'.output = w.output
  size : w'.heap.size = w.heap.size
  block : ∀ b, b ≠ p.C → w'.heap[b]? = w.heap[b]?
  pay : p.Pay w → p.Pay w'
  cells : ∀ o, ¬ (p.lo k ≤ o ∧ o < p.hi k) → w'.cell? ⟨p.C, o, none⟩ = w.cell? ⟨p.C, o, none⟩
  ev : ∀ e ∈ es, p.EvK k e

/-- What the starter may list while the goroutines below n are there. -/
def EvS (n : Nat) (e : Event) : Prop :=
  (∀ x, (MemAct.ofEvent e).touch? = some x → (ShN p.Wg x.loc ∧ x.kind ≠ .plain) ∨ (¬ p.ShP x.loc ∧ x.loc.low p.B ∧ (∀ k, k < n → ¬ p.Own k x.loc) ∧ (x.write = true → ∀ k, k < n → ¬ p.Rd k x.loc))) ∧
  e.loc ≠ .mark .disable ∧ e.loc ≠ .mark .enable ∧ e.loc ≠ .mark (.release (stA p.Wg))

/-- What the starter does to the world. -/
structure DSt (n : Nat) (w w' : World) (es : Array Event) : Prop where
  low : ∀ k, p.J0 ≤ k → k < n → ∀ b, b < p.Lw k → w'.heap[b]? = w.heap[b]?
  wg : w'.heap[p.Wg]? = w.heap[p.Wg]?
  pay : w'.heap[p.C]? = w.heap[p.C]?
  ev : ∀ e ∈ es, p.EvS n e

/-- A step that turns nothing and lists just this. -/
def Says (main : Bool) (es : Array Event) (K : Goroutine → World → Prop) (g : Goroutine) (w : World) : Prop := g.status = .running ∧ ∃ g', stepG p.P main g w = .go g' w es ∧ K g' w
/-- A step that turns the world so. -/
def Turns (main : Bool) (w' : World) (es : Array Event) (K : Goroutine → World → Prop) (g : Goroutine) (w : World) : Prop := ∃ g', stepG p.P main g w = .go g' w' es ∧ K g' w'

abbrev GoTo (n : Nat) (K : Goroutine → World → Prop) : Goroutine → World → Prop := Way p.P true (RC p.ty p.Wg p.C) (p.DSt n) K

section
variable [Payload]
abbrev RelD (k : Nat) : World → World → Prop := RW p.ty p.Wg p.C p.N 0 (p.lo k)

/-- The worker's whole way: to its release, its part being filled. -/
def AtRel0 (k : Nat) (g : Goroutine) (w : World) : Prop := AtR0 p.P p.ty p.Wg p.C p.N 0 (p.lo k + 1) (p.val (p.lo k)) g w ∧ p.HasAll k w
def Works (k : Nat) : Goroutine → World → Prop := Way p.P false (p.RelW k) (p.DWk k) (p.AtRel0 k)
end

/-! ### the starter, from its end backwards -/
section
variable [Payload] (n : Nat) (Anch Head : Goroutine → World → Prop)
def SAcq : Goroutine → World → Prop := p.Says true #[ConcR.mk (.acquire (stA p.Wg))] Anch
def SKe : Goroutine → World → Prop := p.Says true #[ConcR.mk .enable] (p.GoTo n (p.SAcq Anch))
def SW4 (g : Goroutine) (w : World) : Prop := g.status = .running ∧ (WgAt p.ty p.Wg w 0 0 → p.Turns true w #[rd (stA p.Wg)] (p.GoTo n (p.SKe n Anch)) g w)
def SW3 (g : Goroutine) (w : World) : Prop :=
  g.status = .running ∧ g.offers = none ∧ ((∃ st, WgAt p.ty p.Wg w st 0) → stepG p.P true g w = .go { g with status := .blocked } w #[]) ∧
    (WgAt p.ty p.Wg w 0 1 → p.Turns true (w.setCell (smA p.Wg) (.int .u32 0)) (semEvents (smA p.Wg)) (p.GoTo n (p.SW4 n Anch)) g w)
def SW2 (vs : Nat) (g : Goroutine) (w : World) : Prop :=
  g.status = .running ∧ ∀ v : Nat, v < 2147483648 → WgAt p.ty p.Wg w (v * KK) 0 →
    (v = vs → p.Turns true (w.setCell (stA p.Wg) (.int .u64 (v * KK + 1))) #[rd (stA p.Wg), wr (stA p.Wg)] (p.GoTo n (p.SW3 n Anch)) g w) ∧
    (v ≠ vs → p.Turns true w #[rd (stA p.Wg)] (p.GoTo n Head) g w)
def SW1 (g : Goroutine) (w : World) : Prop :=
  g.status = .running ∧ ∀ v : Nat, v < 2147483648 → WgAt p.ty p.Wg w (v * KK) 0 →
    p.Turns true w #[rd (stA p.Wg)] (fun g' w' => (v = 0 → p.GoTo n (p.SKe n Anch) g' w') ∧ (v ≠ 0 → p.GoTo n (p.SW2 n Anch Head v) g' w')) g w
def SKd : Goroutine → World → Prop := p.Says true #[ConcR.mk .disable] (p.GoTo n Head)

/-- .. while it starts them: n goroutines are there. -/
def SGo (Next : Goroutine → World → Prop) (g : Goroutine) (w : World) : Prop :=
  g.status = .running ∧ ∃ g' child, stepG p.P true g w = .spawn g' child w #[] ∧ child.status = .running ∧ (p.Pay w → WgLive p.ty p.Wg w → p.Works n child w) ∧ Next g' w
def SPe (Next : Goroutine → World → Prop) : Goroutine → World → Prop := p.Says true #[ConcR.mk .enable] (p.GoTo n (p.SGo n Next))
def SPa (Next : Goroutine → World → Prop) (g : Goroutine) (w : World) : Prop :=
  g.status = .running ∧ ∀ v : Nat, v < 2147483647 → WgAt p.ty p.Wg w (v * KK) 0 →
    p.Turns true (w.setCell (stA p.Wg) (.int .u64 ((v + 1) * KK))) #[rd (stA p.Wg), wr (stA p.Wg)] (p.GoTo n (p.SPe n Next)) g w
def SPd (Next : Goroutine → World → Prop) : Goroutine → World → Prop := p.Says true #[ConcR.mk .disable] (p.GoTo n (p.SPa n Next))

/-- r workers are still to be started; M: how many goroutines there are in the end. -/
def Starts (M : Nat) : Nat → Goroutine → World → Prop
  | 0 => p.GoTo M (p.SKd M Head)
  | r + 1 => p.GoTo (M - (r + 1)) (p.SPd (M - (r + 1)) (Starts M r))
end
end Plan

/-- What is asked of where things lie. -/
structure Plan.Fits (p : Plan) [Payload] (M : Nat) : Prop where
  CWg : p.C ≠ p.Wg
  lowWg : p.Wg < p.B
  lowC : p.C < p.B
  lowK : ∀ k, p.J0 ≤ k → k < M → p.Lw k ≤ p.B
  ne : ∀ k, p.J0 ≤ k → k < M → p.lo k < p.hi k
  pty : p.ety = Payload.ety
  shC : ∀ a : Addr, a.block = p.C → ¬ p.Sh (.cell a)
  disj : ∀ k k' o, p.J0 ≤ k → p.J0 ≤ k' → p.lo k ≤ o → o < p.hi k → p.lo k' ≤ o → o < p.hi k' → k = k'
  few : M < 2147483648
  pos : 1 ≤ p.J0
end Go.Proofs.Ytpioacgknamemaa
