package exec

import "mullion/api"

// deeds has at each command's number what does it.
func deeds() [api.VerbUnlinkWindow + 1]func(*job) {
	return [api.VerbUnlinkWindow + 1]func(*job){
		api.VerbBreakPane:      (*job).breakPane,
		api.VerbCapturePane:    (*job).capturePane,
		api.VerbDetachClient:   (*job).detachClient,
		api.VerbDisplayMessage: (*job).displayMessage,
		api.VerbHasSession:     (*job).hasSession,
		api.VerbJoinPane:       (*job).joinPane,
		api.VerbKillPane:       (*job).killPane,
		api.VerbKillServer:     (*job).killServer,
		api.VerbKillSession:    (*job).killSession,
		api.VerbKillWindow:     (*job).killWindow,
		api.VerbLinkWindow:     (*job).linkWindow,
		api.VerbListCommands:   (*job).listCommands,
		api.VerbListPanes:      (*job).listPanes,
		api.VerbListSessions:   (*job).listSessions,
		api.VerbListWindows:    (*job).listWindows,
		api.VerbMoveWindow:     (*job).moveWindow,
		api.VerbNewSession:     (*job).newSession,
		api.VerbNewWindow:      (*job).newWindow,
		api.VerbRefreshClient:  (*job).refreshClient,
		api.VerbRenameSession:  (*job).renameSession,
		api.VerbRenameWindow:   (*job).renameWindow,
		api.VerbResizePane:     (*job).resizePane,
		api.VerbResizeWindow:   (*job).resizeWindow,
		api.VerbSelectLayout:   (*job).selectLayout,
		api.VerbSelectPane:     (*job).selectPane,
		api.VerbSelectWindow:   (*job).selectWindow,
		api.VerbSendKeys:       (*job).sendKeys,
		api.VerbSplitWindow:    (*job).splitWindow,
		api.VerbSwapPane:       (*job).swapPane,
		api.VerbSwapWindow:     (*job).swapWindow,
		api.VerbSwitchClient:   (*job).switchClient,
		api.VerbUnlinkWindow:   (*job).unlinkWindow,
	}
}
