/- The stops that the walks through sync.WaitGroup come to, whatever follows; from them to a phase's stops. -/
import Derived.Test.YtpioacgknamemaaJoin
import Derived.Conc.WgGenN3
set_option linter.unusedSectionVars false
namespace Go.Proofs.Ytpioacgknamemaa
open Go Go.RowKit Go.Conc Go.ConcN
open Go.ConcR (KK wgBlock WgAt stA smA rd wr mk Payload Aside2 DC0)

def All2 : Nat → Loc → Prop := fun _ _ => True

section
variable (P : Program) (ty : TypeId) (Wg C Low : Nat) (K Hd : Goroutine → World → Prop)
def GD (K : Goroutine → World → Prop) (g : Goroutine) (w : World) : Prop := ∃ m, Goes P true (RC ty Wg C) (DP Wg All2 Nob 1 Low) K m g w
def QPe (g : Goroutine) (w : World) : Prop := g.status = .running ∧ ∃ g', stepG P true g w = .go g' w #[ConcR.mk .enable] ∧ GD P ty Wg C Low K g' w
def QPa (g : Goroutine) (w : World) : Prop := g.status = .running ∧ ∀ v : Nat, v < 2147483647 → WgAt ty Wg w (v * KK) 0 →
  ∃ g', stepG P true g w = .go g' (w.setCell (stA Wg) (.int .u64 ((v + 1) * KK))) #[rd (stA Wg), wr (stA Wg)] ∧ GD P ty Wg C Low (QPe P ty Wg C Low K) g' (w.setCell (stA Wg) (.int .u64 ((v + 1) * KK)))
def QPd (g : Goroutine) (w : World) : Prop := g.status = .running ∧ ∃ g', stepG P true g w = .go g' w #[ConcR.mk .disable] ∧ GD P ty Wg C Low (QPa P ty Wg C Low K) g' w

def QAcq (g : Goroutine) (w : World) : Prop := g.status = .running ∧ ∃ g', stepG P true g w = .go g' w #[ConcR.mk (.acquire (stA Wg))] ∧ K g' w
def QKe (g : Goroutine) (w : World) : Prop := g.status = .running ∧ ∃ g', stepG P true g w = .go g' w #[ConcR.mk .enable] ∧ GD P ty Wg C Low (QAcq P Wg K) g' w
def QW4 (g : Goroutine) (w : World) : Prop := g.status = .running ∧ (WgAt ty Wg w 0 0 → ∃ g', stepG P true g w = .go g' w #[rd (stA Wg)] ∧ GD P ty Wg C Low (QKe P ty Wg C Low K) g' w)
def QW3 (g : Goroutine) (w : World) : Prop :=
  g.status = .running ∧ g.offers = none ∧ ((∃ st, WgAt ty Wg w st 0) → stepG P true g w = .go { g with status := .blocked } w #[]) ∧
    (WgAt ty Wg w 0 1 → ∃ g', stepG P true g w = .go g' (w.setCell (smA Wg) (.int .u32 0)) (semEvents (smA Wg)) ∧ GD P ty Wg C Low (QW4 P ty Wg C Low K) g' (w.setCell (smA Wg) (.int .u32 0)))
def QW2 (vs : Nat) (g : Goroutine) (w : World) : Prop :=
  g.status = .running ∧ ∀ v : Nat, v < 2147483648 → WgAt ty Wg w (v * KK) 0 →
    (v = vs → ∃ g', stepG P true g w = .go g' (w.setCell (stA Wg) (.int .u64 (v * KK + 1))) #[rd (stA Wg), wr (stA Wg)] ∧ GD P ty Wg C Low (QW3 P ty Wg C Low K) g' (w.setCell (stA Wg) (.int .u64 (v * KK + 1)))) ∧
    (v ≠ vs → ∃ g', stepG P true g w = .go g' w #[rd (stA Wg)] ∧ GD P ty Wg C Low Hd g' w)
def QW1 (g : Goroutine) (w : World) : Prop :=
  g.status = .running ∧ ∀ v : Nat, v < 2147483648 → WgAt ty Wg w (v * KK) 0 → ∃ g', stepG P true g w = .go g' w #[rd (stA Wg)] ∧
    (v = 0 → GD P ty Wg C Low (QKe P ty Wg C Low K) g' w) ∧ (v ≠ 0 → GD P ty Wg C Low (QW2 P ty Wg C Low K Hd v) g' w)
end

/-- Back in the caller. -/
def Back (F : World → Prop) (ty : TypeId) (Wg : Nat) (b₀ : Frame) (a₀ : Act) (ops₀ : Array Oper) (i₀ : Nat) (rest₀ : List Nat) (k₀ : List Item) (cs : List Frame) (g : Goroutine) (w : World) : Prop :=
  g = G (b₀.at (a₀.put ((ops₀[i₀]?).bind (·.dst)) (.tuple #[])) (.inRegion ops₀ rest₀ :: k₀)) cs ∧ F w ∧ WgLive ty Wg w

/-- Behind the 'acquire': back in the caller, nothing being listed. -/
def Joined (P : Program) (C : Nat) (F : World → Prop) (ty : TypeId) (Wg : Nat) (b₀ : Frame) (a₀ : Act) (ops₀ : Array Oper) (i₀ : Nat) (rest₀ : List Nat) (k₀ : List Item) (cs : List Frame) (g : Goroutine) (w : World) : Prop :=
  ∃ m, Goes P true (RC ty Wg C) DC0 (Back F ty Wg b₀ a₀ ops₀ i₀ rest₀ k₀ cs) m g w

section
variable {p : Plan} [Payload] {n Low : Nat} {K K' Hd Hd' : Goroutine → World → Prop} {g : Goroutine} {w : World}

/-- What is asked of 'Low' while n goroutines are there. -/
structure LowOk (p : Plan) (n Low : Nat) : Prop where
  lw : ∀ k, p.J0 ≤ k → k < n → p.Lw k ≤ Low
  wg : p.Wg < Low
  c : p.C < Low

theorem dst_of (hL : LowOk p n Low) (w w' : World) (es : Array Event) (h : DP p.Wg All2 Nob 1 Low w w' es) : p.DSt n w w' es :=
  ⟨fun k h1 h2 b hb => h.1 b (Nat.lt_of_lt_of_le hb (hL.lw k h1 h2)), h.1 _ hL.wg, h.1 _ hL.c, fun e he => by
    obtain ⟨h1, h2⟩ := h.2 e he
    refine ⟨fun x hx => ?_, h2⟩
    rcases (h1 0 "").2 x hx with h3 | ⟨_, h3, _⟩
    · exact .inl h3
    · exact absurd trivial (h3 1 (Nat.le_refl _) (Nat.le_refl _))⟩

theorem gd (hL : LowOk p n Low) (hK : ∀ g w, K g w → K' g w) (h : GD p.P p.ty p.Wg p.C Low K g w) : p.GoTo n K' g w :=
  let ⟨_, x⟩ := h; (Way.of_goes x).mono (dst_of hL) hK

theorem sacq (h : QAcq p.P p.Wg K g w) : p.SAcq K g w := h
theorem ske (hL : LowOk p n Low) (h : QKe p.P p.ty p.Wg p.C Low K g w) : p.SKe n K g w := let ⟨a, g', b, c⟩ := h; ⟨a, g', b, gd hL (fun _ _ => sacq) c⟩
theorem sw4 (hL : LowOk p n Low) (h : QW4 p.P p.ty p.Wg p.C Low K g w) : p.SW4 n K g w := ⟨h.1, fun x => let ⟨g', b, c⟩ := h.2 x; ⟨g', b, gd hL (fun _ _ => ske hL) c⟩⟩
theorem sw3 (hL : LowOk p n Low) (h : QW3 p.P p.ty p.Wg p.C Low K g w) : p.SW3 n K g w := ⟨h.1, h.2.1, h.2.2.1, fun x => let ⟨g', b, c⟩ := h.2.2.2 x; ⟨g', b, gd hL (fun _ _ => sw4 hL) c⟩⟩
theorem sw2 (hL : LowOk p n Low) {vs : Nat} (h : QW2 p.P p.ty p.Wg p.C Low K Hd vs g w) : p.SW2 n K Hd vs g w :=
  ⟨h.1, fun v hv hw => ⟨fun e => let ⟨g', b, c⟩ := (h.2 v hv hw).1 e; ⟨g', b, gd hL (fun _ _ => sw3 hL) c⟩, fun e => let ⟨g', b, c⟩ := (h.2 v hv hw).2 e; ⟨g', b, gd hL (fun _ _ x => x) c⟩⟩⟩
theorem sw1 (hL : LowOk p n Low) (h : QW1 p.P p.ty p.Wg p.C Low K Hd g w) : p.SW1 n K Hd g w :=
  ⟨h.1, fun v hv hw => let ⟨g', b, c, d⟩ := h.2 v hv hw; ⟨g', b, fun e => gd hL (fun _ _ => ske hL) (c e), fun e => gd hL (fun _ _ => sw2 hL) (d e)⟩⟩

theorem spe (hL : LowOk p n Low) {Next : Goroutine → World → Prop} (hK : ∀ g w, K g w → p.GoTo n (p.SGo n Next) g w) (h : QPe p.P p.ty p.Wg p.C Low K g w) : p.SPe n Next g w :=
  let ⟨a, g', b, c⟩ := h; ⟨a, g', b, (gd hL (fun _ _ x => x) c).trans rc_refl hK⟩
theorem spa (hL : LowOk p n Low) {Next : Goroutine → World → Prop} (hK : ∀ g w, K g w → p.GoTo n (p.SGo n Next) g w) (h : QPa p.P p.ty p.Wg p.C Low K g w) : p.SPa n Next g w :=
  ⟨h.1, fun v hv hw => let ⟨g', b, c⟩ := h.2 v hv hw; ⟨g', b, gd hL (fun _ _ => spe hL hK) c⟩⟩
theorem spd (hL : LowOk p n Low) {Next : Goroutine → World → Prop} (hK : ∀ g w, K g w → p.GoTo n (p.SGo n Next) g w) (h : QPd p.P p.ty p.Wg p.C Low K g w) : p.SPd n Next g w :=
  let ⟨a, g', b, c⟩ := h; ⟨a, g', b, gd hL (fun _ _ => spa hL hK) c⟩
end
end Go.Proofs.Ytpioacgknamemaa
